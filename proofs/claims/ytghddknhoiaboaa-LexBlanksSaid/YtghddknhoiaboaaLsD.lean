/-
  lex: the document's string, step by step.
-/
import Derived.Test.YtghddknhoiaboaaLsB
import Derived.Test.YtghddknhoiaboaaRegT
namespace Go.Proofs.Ytghddknhoiaboaa
open Go.ChangeShapes Go.WideShapes Go.ChangeAt Go.RowKit
set_option linter.unusedVariables false
set_option maxRecDepth 100000

def StrAt (s : ByteArray) (i : Nat) (bs : List Nat) (k : Nat) (dn : Bool) : Prop :=
  (∀ c ∈ bs, c < 256) ∧ strR ((bytesOf s).drop (i + 1)) = if dn = true then .done bs (k - (i + 1)) else pre bs (k - (i + 1)) (strR ((bytesOf s).drop k))
theorem pre_nil0 (r : StrR) : pre [] 0 r = r := by cases r <;> simp [pre]
theorem StrAt.start (s : ByteArray) (i : Nat) : StrAt s i [] (i + 1) false :=
  ⟨fun c hc => (List.not_mem_nil hc).elim, by rw [if_neg (by decide), Nat.sub_self, pre_nil0]⟩
theorem StrAt.step {s : ByteArray} {i k : Nat} {bs : List Nat} (h : StrAt s i bs k false) (hik : i + 1 ≤ k) (hk : k < s.size) (h34 : ¬ (bytesOf s).getD k 0 = 34) {b n : Nat} (hc : charS ((bytesOf s).drop k) = .ok b n) : StrAt s i (bs ++ [b]) (k + n) false := by
  obtain ⟨h1, h2⟩ := h
  rw [if_neg (by decide)] at h2
  have hd := drop_at (bytesOf s) k (by rw [bytesOf_length]; exact hk)
  have h256 := drop_256 s k
  obtain ⟨_, _, hb⟩ := charS_len hc h256
  refine ⟨fun c hcm => ?_, ?_⟩
  · rcases List.mem_append.1 hcm with hcm | hcm
    · exact h1 c hcm
    · rw [List.mem_singleton.1 hcm]; exact hb
  · rw [if_neg (by decide), h2]
    have hs : strR ((bytesOf s).drop k) = pre [b] n (strR (((bytesOf s).drop k).drop n)) := by
      rw [hd] at hc h256
      rw [hd, strR_step h34 h256, hc]
    rw [hs, pre_pre, List.drop_drop]
    congr 1
    omega
theorem StrAt.close {s : ByteArray} {i k : Nat} {bs : List Nat} (h : StrAt s i bs k false) (hik : i + 1 ≤ k) (hk : k < s.size) (h34 : (bytesOf s).getD k 0 = 34) : StrAt s i bs (k + 1) true := by
  obtain ⟨h1, h2⟩ := h
  rw [if_neg (by decide), drop_at (bytesOf s) k (by rw [bytesOf_length]; exact hk), h34, strR_end] at h2
  refine ⟨h1, ?_⟩
  rw [if_pos rfl, h2]
  show StrR.done (bs ++ []) (k - (i + 1) + 1) = _
  rw [List.append_nil]
  congr 1
  omega
theorem StrAt.bad {s : ByteArray} {i k : Nat} {bs : List Nat} (h : StrAt s i bs k false) (hik : i + 1 ≤ k) (hk : k < s.size) (h34 : ¬ (bytesOf s).getD k 0 = 34) {n : Nat} (hc : charS ((bytesOf s).drop k) = .bad n) : strR ((bytesOf s).drop (i + 1)) = .bad (k + n - (i + 1)) := by
  obtain ⟨_, h2⟩ := h
  have hd := drop_at (bytesOf s) k (by rw [bytesOf_length]; exact hk)
  have h256 := drop_256 s k
  rw [if_neg (by decide)] at h2
  have hs : strR ((bytesOf s).drop k) = .bad n := by
    rw [hd] at hc h256
    rw [hd, strR_step h34 h256, hc]
  rw [h2, hs]
  show StrR.bad (k - (i + 1) + n) = _
  congr 1
  omega
theorem StrAt.cut {s : ByteArray} {i k : Nat} {bs : List Nat} (h : StrAt s i bs k false) (hik : i + 1 ≤ k) (hk : k + 1 = s.size) (h92 : (bytesOf s).getD k 0 = 92) : StrAt s i bs (k + 1) false := by
  obtain ⟨h1, h2⟩ := h
  have hbl := bytesOf_length s
  have hd := drop_at (bytesOf s) k (by rw [hbl]; omega)
  have h256 := drop_256 s k
  have he : (bytesOf s).drop (k + 1) = [] := List.drop_eq_nil_of_le (by rw [hbl]; omega)
  rw [if_neg (by decide)] at h2
  have hs : strR ((bytesOf s).drop k) = .open_ := by
    rw [hd] at h256
    rw [hd, strR_step (by omega) h256, h92, he]
    rfl
  refine ⟨h1, ?_⟩
  rw [if_neg (by decide), h2, hs, he]
  rfl
theorem StrAt.open {s : ByteArray} {i : Nat} {bs : List Nat} (h : StrAt s i bs s.size false) : strR ((bytesOf s).drop (i + 1)) = .open_ := by
  obtain ⟨_, h2⟩ := h
  rw [if_neg (by decide), show (bytesOf s).drop s.size = [] from List.drop_eq_nil_of_le (by rw [bytesOf_length]; exact Nat.le_refl _)] at h2
  rw [h2]
  rfl
theorem char_low (s : ByteArray) (k : Nat) (hk : k < s.size) (h : (bytesOf s).getD k 0 < 32) : charS ((bytesOf s).drop k) = .bad 0 := by
  rw [drop_at (bytesOf s) k (by rw [bytesOf_length]; exact hk)]
  show (if _ < 32 then CR.bad 0 else _) = _
  exact if_pos h
theorem char_plain (s : ByteArray) (k : Nat) (hk : k < s.size) (h : ¬ (bytesOf s).getD k 0 < 32) (h92 : ¬ (bytesOf s).getD k 0 = 92) : charS ((bytesOf s).drop k) = .ok ((bytesOf s).getD k 0) 1 := by
  rw [drop_at (bytesOf s) k (by rw [bytesOf_length]; exact hk)]
  show (if _ < 32 then CR.bad 0 else if _ = 92 then _ else _) = _
  rw [if_neg h, if_neg h92]
theorem char_esc (s : ByteArray) (k : Nat) (hk : k + 1 < s.size) (h92 : (bytesOf s).getD k 0 = 92) : charS ((bytesOf s).drop k) =
    if (bytesOf s).getD (k + 1) 0 = 34 ∨ (bytesOf s).getD (k + 1) 0 = 92 then .ok ((bytesOf s).getD (k + 1) 0) 2 else if (bytesOf s).getD (k + 1) 0 = 110 then .ok 10 2 else if (bytesOf s).getD (k + 1) 0 = 120 then xS ((bytesOf s).drop (k + 2)) else .bad 1 := by
  rw [drop_at (bytesOf s) k (by rw [bytesOf_length]; omega), drop_at (bytesOf s) (k + 1) (by rw [bytesOf_length]; exact hk), h92]
  rfl
theorem str_bad {s : ByteArray} {L : List Tok} {i m : Nat} (h : ScanAt s L i) (hi : i < s.size) (hb : blankLen false ((bytesOf s).drop i) = 0) (h34 : (bytesOf s).getD i 0 = 34) (hs : strR ((bytesOf s).drop (i + 1)) = .bad m) : scanS s = .bad (posAt (bytesOf s) (i + 1 + m)) := by
  have ht := tok_str s i h34
  rw [hs] at ht
  rw [h.bad hi hb ht, Nat.add_assoc]
theorem str_open {s : ByteArray} {L : List Tok} {i : Nat} (h : ScanAt s L i) (hi : i < s.size) (hb : blankLen false ((bytesOf s).drop i) = 0) (h34 : (bytesOf s).getD i 0 = 34) (hs : strR ((bytesOf s).drop (i + 1)) = .open_) : scanS s = .bad (posAt (bytesOf s) i) := by
  have ht := tok_str s i h34
  rw [hs] at ht
  exact h.bad hi hb ht
theorem str_long {s : ByteArray} {L : List Tok} {i n : Nat} {bs : List Nat} (h : ScanAt s L i) (hi : i < s.size) (hb : blankLen false ((bytesOf s).drop i) = 0) (h34 : (bytesOf s).getD i 0 = 34) (hs : strR ((bytesOf s).drop (i + 1)) = .done bs n) (hl : ¬ bs.length ≤ 4096) : scanS s = .bad (posAt (bytesOf s) i) := by
  have ht := tok_str s i h34
  rw [hs] at ht
  dsimp only at ht
  rw [if_neg hl] at ht
  exact h.bad hi hb ht
theorem str_ok {s : ByteArray} {L : List Tok} {i n : Nat} {bs : List Nat} (h : ScanAt s L i) (hi : i < s.size) (hb : blankLen false ((bytesOf s).drop i) = 0) (h34 : (bytesOf s).getD i 0 = 34) (hs : strR ((bytesOf s).drop (i + 1)) = .done bs n) (hl : bs.length ≤ 4096) : ScanAt s (L ++ [⟨4, posAt (bytesOf s) i, 0, bstr bs⟩]) (i + (1 + n)) := by
  have ht := tok_str s i h34
  rw [hs] at ht
  dsimp only at ht
  rw [if_pos hl] at ht
  exact h.tok hi hb ht
theorem xS_no2' (l : List Nat) (j : Nat) (h : l.length ≤ j + 1) : xS (l.drop j) = .bad 1 := by
  by_cases hj : j < l.length
  · exact xS_no2 l j hj (.inl h)
  · exact xS_no1 l j (.inl (by omega))
theorem hexI_none {c : Nat} (h : hexV c = none) : hexI c = -1 := by unfold hexI; rw [h]
theorem hexI_some {c v : Nat} (h : hexV c = some v) : hexI c = (v : Int) := by unfold hexI; rw [h]
theorem step_append {P : Program} {ops : Array Oper} {o : Oper} {A : Act} {W : World} {K : Value → World → Prop} (hgd : o.guard = none) (s x : Operand) (t : TypeId) (ho : o.op = .call { callee := .builtin .append, args := #[s, x], argTypes := #[t, t] }) {v xv v' : Value} {W' : World} (hs : A.eval s = v) (hx : A.eval x = xv) (hr : (Builtin.append_ #[t, t] o.type #[v, xv]).run P W = .ok v' W') (h : K v' W') :
    if Region.wanted o (yielded ops A.tmps) = true then invUpon P K ((execOp A.eval o).run P W) else K undef W := by
  have hw : Region.wanted o (yielded ops A.tmps) = true := by simp [Region.wanted, hgd]
  rw [if_pos hw]
  have e : (execOp A.eval o).run P W = .ok (.value v') W' := by
    unfold execOp
    simp only [ho, resolve, invoke, builtin, Sem.run_bind, Sem.run_pure, Result.andThen_ok, List.map_toArray, List.map_cons, List.map_nil, hs, hx, hr]
  rw [e]
  exact h
def OneB (c : Nat) (v : Value) (W : World) : Prop := ∃ g, v = .slice (some ⟨g, 0, none⟩) 1 1 ∧ W.cell? ⟨g, 0, none⟩ = some (.int .u8 (c : Int))
theorem oneB_stable (c : Nat) : Stable (OneB c) := fun v W W' hb h => by
  obtain ⟨g, e, hc⟩ := h
  exact ⟨g, e, (World.cell?_of_block (a := ⟨g, 0, none⟩) (Below.block hb g (lt_of_cell hc))).trans hc⟩
def NewPos (B : Nat) (v : Value) (W : World) : Prop := ∃ g, v = .pointer (some ⟨g, 0, none⟩) ∧ W.heap[g]? = some (.cells #[.int .i64 0, .int .i64 0] 25) ∧ B ≤ g
theorem newPos_stable (B : Nat) : Stable (NewPos B) := fun v W W' hb h => by
  obtain ⟨g, e, hg, hB⟩ := h
  exact ⟨g, e, (Below.block hb g (heap_lt hg)).trans hg, hB⟩
end Go.Proofs.Ytghddknhoiaboaa
