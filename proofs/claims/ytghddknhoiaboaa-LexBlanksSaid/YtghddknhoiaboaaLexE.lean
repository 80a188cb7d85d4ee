/-
  lex: rows of bytes of the call's own.
-/
import Derived.Test.YtghddknhoiaboaaLexD
import Derived.Laws.BytesArg
namespace Go.Proofs.Ytghddknhoiaboaa
open Go.ChangeShapes Go.WideShapes Go.ChangeAt Go.RowKit
set_option linter.unusedVariables false
set_option maxRecDepth 100000

def ByteRow (w : World) (a : Option Addr) (len : Nat) (l : List Nat) : Prop :=
  l.length = len ∧ len ≤ maxLen ∧ (∀ c ∈ l, c < 256) ∧ (0 < len → ∃ b o, a = some ⟨b, o, none⟩ ∧ ∀ i, i < len → w.cell? ⟨b, o + i, none⟩ = some (.int .u8 ((l.getD i 0 : Nat) : Int)))
def bstr (l : List Nat) : ByteArray := ⟨(l.map fun c => UInt8.ofNat c).toArray⟩
theorem size_bstr (l : List Nat) : (bstr l).size = l.length := by
  unfold bstr
  show (l.map fun c => UInt8.ofNat c).toArray.size = _
  simp
theorem u8_toNat (n : Nat) (h : n < 256) : (UInt8.ofNat n).toNat = n := by simp [UInt8.toNat_ofNat']; omega
theorem bytesOf_bstr (l : List Nat) (h : ∀ c ∈ l, c < 256) : bytesOf (bstr l) = l := by
  unfold bytesOf bstr
  rw [List.toList_toArray, List.map_map]
  conv => rhs; rw [← List.map_id l]
  refine List.map_congr_left fun c hc => ?_
  exact u8_toNat c (h c hc)
theorem bstr_bytesOf (s : ByteArray) : bstr (bytesOf s) = s := by
  unfold bstr bytesOf
  rw [List.map_map]
  have e : (List.map ((fun c => UInt8.ofNat c) ∘ fun c => c.toNat) s.data.toList) = s.data.toList := by
    conv => rhs; rw [← List.map_id s.data.toList]
    refine List.map_congr_left fun c _ => ?_
    simp
  rw [e]
theorem conv_row {w : World} {a : Option Addr} {m : Nat} {l : List Nat} (cap : Nat) (h : ByteRow w a m l) :
    (convert 46 9 (.slice a m cap)).run Try.prog w = .ok (.string (bstr l)) w := by
  obtain ⟨h1, h2, h3, h4⟩ := h
  by_cases h0 : m = 0
  · subst h0
    obtain rfl : l = [] := List.eq_nil_of_length_eq_zero h1
    rw [run_convert_bytes_string w 46 9 5 a 0 cap Try.underlying46 Try.underlying5 Try.underlying9]
    cases a with
    | none => rfl
    | some a => exact run_bytesToString w a 0 cap [] rfl
  · obtain ⟨b, o, rfl, hc⟩ := h4 (by omega)
    have e : bstr l = strOfNums (l.map fun (n : Nat) => (n : Int)) := by
      unfold bstr strOfNums
      rw [List.map_map]
      rfl
    rw [e]
    refine run_convert_bytes_arg w 46 5 Try.underlying46 Try.underlying5 b o m cap _ (by rw [List.length_map]; exact h1) (fun i hi => ?_) 9 Try.underlying9
    rw [hc i hi]
    have e3 : (l.map fun (n : Nat) => (n : Int)).getD i 0 = ((l.getD i 0 : Nat) : Int) := by
      simp [List.getD, List.getElem?_map]
      cases l[i]? <;> rfl
    rw [e3]
def vals (l : List Nat) : List Value := l.map fun (c : Nat) => Value.int .u8 (c : Int)
theorem vals_length (l : List Nat) : (vals l).length = l.length := List.length_map ..
theorem vals_get (l : List Nat) (i : Nat) (h : i < l.length) : (vals l)[i]? = some (.int .u8 ((l.getD i 0 : Nat) : Int)) := by
  simp [vals, List.getElem?_map, List.getElem?_eq_getElem h, List.getD]
theorem vals_append (l m : List Nat) : vals (l ++ m) = vals l ++ vals m := List.map_append
theorem byteRow_nil (w : World) (a : Option Addr) : ByteRow w a 0 [] := ⟨rfl, Nat.zero_le _, fun c hc => (List.not_mem_nil hc).elim, fun h => absurd h (Nat.lt_irrefl _)⟩
theorem own_bytes {w : World} {base n : Nat} {v : Value} {l : List Nat} (h : w.ownsRow base 5 1 v n (vals l)) (hl : ∀ c ∈ l, c < 256) (hm : n ≤ maxLen) :
    ∃ a cap, v = .slice a n cap ∧ ByteRow w a n l ∧ n ≤ cap ∧ (∀ x, a = some x → base ≤ x.block ∧ x.block < w.heap.size) := by
  have hlt := h.lt
  obtain ⟨h1, h2⟩ := h
  rw [vals_length, Nat.mul_one] at h1
  rcases h2 with ⟨rfl, rfl⟩ | ⟨g, cap, cur, rfl, hb, hh, hn, hmx, hs, ht⟩
  · obtain rfl : l = [] := List.eq_nil_of_length_eq_zero h1
    exact ⟨none, 0, rfl, byteRow_nil w none, Nat.le_refl _, (fun x h => by cases h)⟩
  · refine ⟨some ⟨g, 0, none⟩, cap, rfl, ⟨h1, hm, hl, fun _ => ⟨g, 0, rfl, fun i hi => ?_⟩⟩, hn, fun x hx => ?_⟩
    · have e2 := vals_get l i (by omega)
      rw [← ht, List.getElem?_take, if_pos (by omega)] at e2
      rw [Nat.zero_add]
      simp only [World.cell?, hh]
      simpa using e2
    · cases hx
      exact hlt g rfl
theorem info_parts {P : Program} {e : TypeId} {z : Value} {sz b : Nat} (h : (P.info? e).map (fun i => (i.zero, i.size, i.bytes)) = some (some z, sz, b)) : ∃ i, P.info? e = some i ∧ i.zero = some z ∧ i.size = sz ∧ i.bytes = b := by
  cases hi : P.info? e with
  | none => rw [hi] at h; cases h
  | some i =>
    rw [hi] at h
    have h' := Option.some.inj h
    injection h' with h1 h2
    injection h2 with h2 h3
    exact ⟨i, rfl, h1, h2, h3⟩
theorem infoU8 : (Try.prog.info? 5).map (fun i => (i.zero, i.size, i.bytes)) = some (some (.int .u8 0), 1, 1) := by kernel_rfl
theorem wpList_append_run {P : Program} {ops : Array Oper} {rest : List Oper} {o : Oper} {a : Act} {Q : Exit → Act → World → Prop} {W : World} (hgd : o.guard = none) (s x : Operand) (t u : TypeId) (ho : o.op = .call { callee := .builtin .append, args := #[s, x], argTypes := #[t, u] }) {v xv v' : Value} {W' : World} (hs : a.eval s = v) (hx : a.eval x = xv) (hr : (Builtin.append_ #[t, u] o.type #[v, xv]).run P W = .ok v' W') (h : wpList P ops Q rest (a.put o.dst v') W') : wpList P ops Q (o :: rest) a W := by
  refine wpList_plain hgd fun K hK => ?_
  unfold Oper.wp execOp
  simp only [ho, resolve, invoke, builtin, Sem.run_bind, Sem.run_pure, Result.andThen_ok, List.map_toArray, List.map_cons, List.map_nil, hs, hx, hr]
  exact hK _ _ h
theorem own_baseN {w : World} {base n size : Nat} {e : TypeId} {v : Value} {xs : List Value} (h : w.ownsRow base e size v n xs) {k : Nat} (hk : v.ownBlock = some k) : base ≤ k := (h.lt k hk).1
theorem own_to {w w' : World} {base : Nat} {e : TypeId} {size : Nat} {v : Value} {n : Nat} {xs : List Value} (h : w.ownsRow base e size v n xs) (hk : ∀ k, v.ownBlock = some k → w'.heap[k]? = w.heap[k]?) : w'.ownsRow base e size v n xs := by
  obtain ⟨h1, h2⟩ := h
  refine ⟨h1, ?_⟩
  rcases h2 with h2 | ⟨g, cap, cur, rfl, hb, hg, r⟩
  · exact .inl h2
  · exact .inr ⟨g, cap, cur, rfl, hb, (hk g rfl).trans hg, r⟩
theorem own_only {w w' : World} {F : Nat → Prop} {base : Nat} {e : TypeId} {size : Nat} {v : Value} {n : Nat} {xs : List Value} (h : w.ownsRow base e size v n xs) (ho : Only F w w') (hF : ∀ k, base ≤ k → ¬ F k) : w'.ownsRow base e size v n xs :=
  own_to h (fun k hk => ho.block k (h.lt k hk).2 (hF k (h.lt k hk).1))
/-- append(b, c) -/
theorem run_snoc_byte (W : World) (ty : TypeId) (base g : Nat) (v : Value) (B : List Nat) (c : Nat) (h0 : W.ownsRow base 5 1 v B.length (vals B)) (hg : W.cell? ⟨g, 0, none⟩ = some (.int .u8 (c : Int))) (hl : B.length ≤ 100000) (hbase : base ≤ W.heap.size) :
    ∃ v' W', (Builtin.append_ #[46, 46] ty #[v, .slice (some ⟨g, 0, none⟩) 1 1]).run Try.prog W = .ok v' W' ∧ W'.ownsRow base 5 1 v' (B ++ [c]).length (vals (B ++ [c])) ∧ Below base W W' := by
  obtain ⟨i0, hi, hz0, hz1, hz2⟩ := info_parts infoU8
  obtain ⟨v', W', hr, ho, hgr, hnil⟩ := run_append_own (P := Try.prog) W base 46 ty 5 i0 _ 1 1 Try.underlying46 hi hz0 hz1 hz2 rfl (by decide) v B.length (vals B) h0 ⟨g, 0, none⟩ 1 1 [.int .u8 (c : Int)] rfl (fun j u hu => by
    cases j with
    | zero =>
      obtain rfl := Option.some.inj hu
      exact hg
    | succ j => simp at hu) (fun u hu => by
      rw [List.mem_singleton] at hu
      subst hu
      rfl) (by unfold maxLen; omega) (by omega) hbase
  refine ⟨v', W', hr, ?_, (Below.refl _ W).grown hgr hbase (fun k hk => own_baseN h0 hk)⟩
  rw [List.length_append, vals_append]
  exact ho
theorem own_none (W : World) (base : Nat) : W.ownsRow base 5 1 (.slice none 0 0) 0 (vals []) := ⟨rfl, .inl ⟨rfl, rfl⟩⟩
inductive StrR where
  | done (b : List Nat) (n : Nat)
  | open_
  | bad (k : Nat)
def pre (bs : List Nat) (n : Nat) : StrR → StrR
  | .done b m => .done (bs ++ b) (n + m)
  | .open_ => .open_
  | .bad k => .bad (n + k)
theorem pre_pre (a b : List Nat) (n m : Nat) (r : StrR) : pre a n (pre b m r) = pre (a ++ b) (n + m) r := by
  cases r <;> simp [pre, List.append_assoc, Nat.add_assoc]
def strS : Nat → List Nat → StrR
  | 0, _ => .open_
  | _, [] => .open_
  | f + 1, c :: t => if c = 34 then .done [] 1 else match charS (c :: t) with
    | .open_ => .open_
    | .bad k => .bad k
    | .ok b n => pre [b] n (strS f ((c :: t).drop n))
/-- what a string says, from its first byte on -/
def strR (t : List Nat) : StrR := strS (t.length + 1) t
theorem xS_len {t : List Nat} {b n : Nat} (h : xS t = .ok b n) : n = 4 ∧ 2 ≤ t.length ∧ b < 256 := by
  cases t with
  | nil => cases h
  | cons x t =>
    cases t with
    | nil => cases h
    | cons y t =>
      have h' : (match hexV x, hexV y with | some x, some y => CR.ok (x * 16 + y) 4 | _, _ => CR.bad 1) = .ok b n := h
      cases hx : hexV x with
      | none => rw [hx] at h'; cases h'
      | some v =>
        cases hy : hexV y with
        | none => rw [hx, hy] at h'; cases h'
        | some u =>
          rw [hx, hy] at h'
          injection h' with h1 h2
          have := hexV_lt hx
          have := hexV_lt hy
          refine ⟨h2.symm, by simp, by omega⟩
theorem charS_len {l : List Nat} {b n : Nat} (h : charS l = .ok b n) (h256 : ∀ c ∈ l, c < 256) : 1 ≤ n ∧ n ≤ l.length ∧ b < 256 := by
  cases l with
  | nil => cases h
  | cons c t =>
    have h' : (if c < 32 then CR.bad 0 else if c = 92 then escS t else .ok c 1) = .ok b n := h
    split at h'
    · cases h'
    · split at h'
      · cases t with
        | nil => cases h'
        | cons d t =>
          have h2 : (if d = 34 ∨ d = 92 then CR.ok d 2 else if d = 110 then .ok 10 2 else if d = 120 then xS t else .bad 1) = .ok b n := h'
          split at h2
          · injection h2 with h3 h4
            exact ⟨by omega, by simp; omega, by rw [← h3]; exact h256 d (by simp)⟩
          · split at h2
            · injection h2 with h3 h4
              exact ⟨by omega, by simp; omega, by omega⟩
            · split at h2
              · obtain ⟨h3, h4, h5⟩ := xS_len h2
                exact ⟨by omega, by simp; omega, h5⟩
              · cases h2
      · injection h' with h3 h4
        exact ⟨by omega, by simp; omega, by rw [← h3]; exact h256 c (by simp)⟩
theorem strS_fuel : ∀ (f g : Nat) (t : List Nat), (∀ c ∈ t, c < 256) → t.length < f → t.length < g → strS f t = strS g t
  | 0, _, t, _, h, _ => absurd h (Nat.not_lt_zero _)
  | _, 0, t, _, _, h => absurd h (Nat.not_lt_zero _)
  | f + 1, g + 1, [], _, _, _ => rfl
  | f + 1, g + 1, c :: t, h256, hf, hg => by
    show (if c = 34 then _ else _) = (if c = 34 then _ else _)
    split
    · rfl
    · cases hc : charS (c :: t) with
      | open_ => rfl
      | bad k => rfl
      | ok b n =>
        obtain ⟨h1, h2, _⟩ := charS_len hc h256
        have hl : ((c :: t).drop n).length < f := by rw [List.length_drop]; omega
        have hl2 : ((c :: t).drop n).length < g := by rw [List.length_drop]; omega
        show pre [b] n (strS f _) = pre [b] n (strS g _)
        rw [strS_fuel f g _ (fun x hx => h256 x (List.mem_of_mem_drop hx)) hl hl2]
theorem strR_end (t : List Nat) : strR (34 :: t) = .done [] 1 := rfl
theorem strR_step {c : Nat} {t : List Nat} (h34 : ¬ c = 34) (h256 : ∀ x ∈ c :: t, x < 256) : strR (c :: t) = match charS (c :: t) with
    | .open_ => .open_
    | .bad k => .bad k
    | .ok b n => pre [b] n (strR ((c :: t).drop n)) := by
  have e : strR (c :: t) = (if c = 34 then StrR.done [] 1 else match charS (c :: t) with
    | .open_ => .open_
    | .bad k => .bad k
    | .ok b n => pre [b] n (strS (t.length + 1) ((c :: t).drop n))) := rfl
  rw [e, if_neg h34]
  cases hc : charS (c :: t) with
  | open_ => rfl
  | bad k => rfl
  | ok b n =>
    obtain ⟨h1, h2, _⟩ := charS_len hc h256
    show pre [b] n _ = pre [b] n _
    congr 1
    exact strS_fuel _ _ _ (fun x hx => h256 x (List.mem_of_mem_drop hx)) (by rw [List.length_drop, List.length_cons]; omega) (Nat.lt_succ_self _)
end Go.Proofs.Ytghddknhoiaboaa
