/-
  The statement ScriptorNumbers: what its walk says of texts, rows and sums. (Wr, Di: the contracts of wire and num, laid by prune.py.)
-/
import Derived.Test.YtkplkfhkablelaaDoorCrcJ
import Derived.Test.YtkplkfhkablelaaDoorWireT
import Derived.Test.YtkplkfhkablelaaDoorRdB
import Derived.Test.YtkplkfhkablelaaDoorDigD
import Derived.Lib.SmallJoins
namespace Go.Proofs.YtkplkfhkablelaaDoor
open Go.ChangeShapes Go.WideShapes Go.ChangeAt Go.RowKit
set_option linter.unusedVariables false
set_option maxRecDepth 100000

/-- an integer's digits, a float's bits -/
def tz (z : Int) : ByteArray := ⟨(Lib.itoa (Di.w63 z)).toArray⟩
def tf (z : Int) : ByteArray := Di.bitsT (Di.Fl.canon z.toNat)
theorem nDigits_le : ∀ (k u : Nat), u < 10 ^ (k + 1) → Lib.nDigits u ≤ k + 1
  | 0, u, h => by rw [Lib.nDigits_small (by omega)]; exact Nat.le_refl _
  | k + 1, u, h => by
    by_cases g : u < 10
    · rw [Lib.nDigits_small g]; omega
    · rw [Lib.nDigits_big g]
      have h2 : u < 10 ^ (k + 1) * 10 := h
      have := nDigits_le k (u / 10) (by omega)
      omega
theorem tz_size (z : Int) : (tz z).size ≤ 20 := by
  have hb := Di.w63_bd z
  show (Lib.itoa (Di.w63 z)).toArray.size ≤ _
  rw [List.size_toArray]
  unfold Lib.itoa
  split
  · rw [List.length_cons, Lib.decDigits_length]
    have := nDigits_le 18 (Di.w63 z).natAbs (by omega)
    omega
  · rw [Lib.decDigits_length]
    have := Lib.nDigits_le20 (Di.w63 z).toNat (by omega)
    omega
theorem tf_size (z : Int) : (tf z).size = 16 := by
  unfold tf Di.bitsT
  rw [Di.tx_size, Di.hexL_length]
theorem read_tz (z : Int) : Di.readS (Di.bytesOf (tz z)) = (Di.w63 z, 0) := by
  have h := Di.w63_bd z
  have e : Di.bytesOf (tz z) = Di.nat (Lib.itoa (Di.w63 z)) := by unfold tz; simp [Di.bytesOf, Di.nat]
  rw [e]
  exact Di.read_itoa _ h.1 h.2

/-- texts as bytes, one behind the other -/
def one (s : ByteArray) : List Nat := Wr.code (s.size : Int) ++ Wr.bytesOf s
def enc1 (f : Int → ByteArray) (zs : List Int) : List Nat := (zs.map fun z => one (f z)).flatten
theorem one_len (s : ByteArray) (h : s.size ≤ 20) : (one s).length ≤ 30 := by
  unfold one
  rw [List.length_append, Wr.bytesOf_length]
  have := Wr.code_len (s.size : Int)
  omega
theorem one_pos (s : ByteArray) : 0 < (one s).length := by
  unfold one
  rw [List.length_append]
  have := Wr.code_pos (s.size : Int)
  omega
theorem one_lt (s : ByteArray) : ∀ c ∈ one s, c < 256 := by
  intro c hc
  rcases List.mem_append.1 hc with h | h
  · exact Wr.code_lt _ c h
  · exact Wr.bytesOf_lt _ c h
theorem enc1_len (f : Int → ByteArray) (hf : ∀ z, (f z).size ≤ 20) (zs : List Int) : (enc1 f zs).length ≤ 30 * zs.length := by
  induction zs with
  | nil => exact Nat.zero_le _
  | cons z zs ih =>
    have e : enc1 f (z :: zs) = one (f z) ++ enc1 f zs := rfl
    have := one_len (f z) (hf z)
    rw [e, List.length_append, List.length_cons]
    omega
theorem enc1_lt (f : Int → ByteArray) (zs : List Int) : ∀ c ∈ enc1 f zs, c < 256 := by
  intro c hc
  obtain ⟨l, hl, hc⟩ := List.mem_flatten.1 hc
  obtain ⟨z, _, rfl⟩ := List.mem_map.1 hl
  exact one_lt _ c hc
theorem enc1_take (f : Int → ByteArray) (zs : List Int) (k : Nat) (h : k < zs.length) : enc1 f (zs.take (k + 1)) = enc1 f (zs.take k) ++ one (f (zs.getD k 0)) := by
  rw [List.take_succ_eq_append_getElem h, Wr.getD_of zs k 0 h]
  unfold enc1
  simp
theorem enc1_drop (f : Int → ByteArray) (zs : List Int) (k : Nat) (h : k < zs.length) : enc1 f (zs.drop k) = one (f (zs.getD k 0)) ++ enc1 f (zs.drop (k + 1)) := by
  rw [List.drop_eq_getElem_cons h, Wr.getD_of zs k 0 h]
  rfl

/-- a slice of integers that came in -/
def Row (kd : IntKind) (w : World) (a : Option Addr) (n : Nat) (zs : List Int) : Prop :=
  zs.length = n ∧ n ≤ maxLen ∧ (∀ z ∈ zs, (Lit.int kd z).wf = true) ∧ (0 < n → ∃ b o, a = some ⟨b, o, none⟩ ∧ ∀ i, i < n → w.cell? ⟨b, o + i, none⟩ = some (.int kd (zs.getD i 0)))
theorem Row.ints {kd : IntKind} {w : World} {a : Option Addr} {n : Nat} {zs : List Int} (h : Row kd w a n zs) {k : Nat} (hk : k < n) :
    ∃ p : Addr, p.block < w.heap.size ∧ w.cell? p = some (.int kd (zs.getD k 0)) ∧ ∀ (cap : Nat) (W : World), (Instr.indexAt 39 (.slice a n cap) (.int .i64 (k : Int))).run Tryd.prog W = .ok (.pointer (some p)) W := by
  obtain ⟨_, _, _, h4⟩ := h
  obtain ⟨b, o, rfl, hc⟩ := h4 (by omega)
  refine ⟨⟨b, o + k, none⟩, cell_lt (hc k hk), hc k hk, fun cap W => ?_⟩
  have h1 : (0 : Int) ≤ (k : Int) := by omega
  have h2 : (k : Int) < (n : Int) := by omega
  clear hc h4
  go_simp
theorem Row.words {kd : IntKind} {w : World} {a : Option Addr} {n : Nat} {zs : List Int} (h : Row kd w a n zs) {k : Nat} (hk : k < n) :
    ∃ p : Addr, p.block < w.heap.size ∧ w.cell? p = some (.int kd (zs.getD k 0)) ∧ ∀ (cap : Nat) (W : World), (Instr.indexAt 40 (.slice a n cap) (.int .i64 (k : Int))).run Tryd.prog W = .ok (.pointer (some p)) W := by
  obtain ⟨_, _, _, h4⟩ := h
  obtain ⟨b, o, rfl, hc⟩ := h4 (by omega)
  refine ⟨⟨b, o + k, none⟩, cell_lt (hc k hk), hc k hk, fun cap W => ?_⟩
  have h1 : (0 : Int) ≤ (k : Int) := by omega
  have h2 : (k : Int) < (n : Int) := by omega
  clear hc h4
  go_simp
theorem Row.wf {kd : IntKind} {w : World} {a : Option Addr} {n : Nat} {zs : List Int} (h : Row kd w a n zs) {k : Nat} (hk : k < n) : (Lit.int kd (zs.getD k 0)).wf = true := by
  refine h.2.2.1 _ ?_
  have hl : k < zs.length := by rw [h.1]; exact hk
  rw [List.getD_eq_getElem?_getD, List.getElem?_eq_getElem hl]
  exact List.getElem_mem hl
theorem Row.word {w : World} {a : Option Addr} {n : Nat} {zs : List Int} (h : Row .u64 w a n zs) {k : Nat} (hk : k < n) : ∃ x : Nat, zs.getD k 0 = (x : Int) ∧ x < 18446744073709551616 := by
  have := h.wf hk
  generalize zs.getD k 0 = z at *
  have hb : 0 ≤ z ∧ z ≤ 18446744073709551615 := by simpa [Lit.wf, IntKind.min, IntKind.max, IntKind.signed, IntKind.bits] using this
  exact ⟨z.toNat, by omega, by omega⟩
theorem row_of {kd : IntKind} {w : World} {a : Option Addr} {len cap : Nat} {zs : List Int} (h : IsRow kd w a len cap zs) (K : Nat) (hK : K ≤ len) : Row kd w a K (zs.take K) ∧ len ≤ cap := by
  rcases h with ⟨rfl, rfl, rfl, rfl⟩ | ⟨x, rfl, h1, h2, h3, h4, h5⟩
  · obtain rfl : K = 0 := by omega
    exact ⟨⟨rfl, Nat.zero_le _, (by intro z hz; cases hz), (by intro h; omega)⟩, Nat.le_refl _⟩
  · refine ⟨⟨by rw [List.length_take]; omega, by omega, fun z hz => h5 z (List.mem_of_mem_take hz), fun h0 => ?_⟩, h1⟩
    · obtain ⟨b, off, spot⟩ := x
      have hc0 := h4 0 (by omega)
      have hspot : spot = none := by simpa [Addr.add] using World.cell?_spot hc0
      subst hspot
      refine ⟨b, off, rfl, fun i hi => ?_⟩
      have hci := h4 i (by omega)
      have e1 : (⟨b, off, none⟩ : Addr).add i = ⟨b, off + i, none⟩ := by simp [Addr.add]
      rw [e1] at hci
      rw [hci]
      simp [List.getD, hi]
theorem cut_ints (a : Option Addr) (m cap k : Nat) (hk : k ≤ cap) (w : World) : (Instr.slice 39 (.slice a m cap) none (some (.int .i64 (k : Int))) none).run Tryd.prog w = .ok (.slice a k cap) w := by
  rw [run_slice_h w 39 a m cap (by kernel_rfl) .i64 (k : Int) (by omega) (by omega)]
  go_simp
theorem cut_words (a : Option Addr) (m cap k : Nat) (hk : k ≤ cap) (w : World) : (Instr.slice 40 (.slice a m cap) none (some (.int .i64 (k : Int))) none).run Tryd.prog w = .ok (.slice a k cap) w := by
  rw [run_slice_h w 40 a m cap (by kernel_rfl) .i64 (k : Int) (by omega) (by omega)]
  go_simp

/-! ### Tables, later on -/
theorem tab_later {w w' : World} {name : String} {kd : IntKind} {zs : List Int} (h : Lib.TabIs Tryd.prog w name kd zs) (hb : Below w.heap.size w w') : Lib.TabIs Tryd.prog w' name kd zs := by
  unfold Lib.TabIs World.var? at *
  cases hg : Tryd.prog.globalNamed name with
  | none => rw [hg] at h; cases h
  | some g =>
    rw [hg] at h
    have h2 : (match w.heap[g]? with | some (.cells cs _ _) => some cs | _ => none) = some (zs.map fun z => Value.int kd z).toArray := h
    show (match w'.heap[g]? with | some (.cells cs _ _) => some cs | _ => none) = _
    have hlt : g < w.heap.size := by
      rcases Nat.lt_or_ge g w.heap.size with l | l
      · exact l
      · rw [Array.getElem?_eq_none l] at h2; cases h2
    rw [hb.block g hlt]
    exact h2
theorem spot_later {w w' : World} {a : Addr} {v : Value} (h : w.cell? a = some v) (hb : Below w.heap.size w w') : w'.cell? a = some v := by
  rw [hb.cell (World.block_lt_of_cell? w a h)]; exact h

/-! ### The contracts once more, over the walk's own words -/
theorem text_tz (z : Int) (w : World) (htab : Lib.TabIs Tryd.prog w "internal/strconv.uint64pow10" .u64 Lib.pow10Tab) :
    Calls Tryd.prog 19 #[.int .i64 z] w fun e w' => e = .returned (.string (tz z)) ∧ Below w.heap.size w w' := Di.text_any z w htab
theorem str_one (s : ByteArray) (hs : s.size ≤ 20) (w : World) :
    Calls Tryd.prog 18 #[.string s] w fun e w' => ∃ v, e = .returned v ∧ w'.ownsRow w.heap.size 5 1 v (one s).length (vals (one s)) ∧ v ≠ .slice none 0 0 ∧ Below w.heap.size w w' := Wr.str_any s (by omega) w
theorem row_own {w : World} {base n : Nat} {v : Value} {l : List Nat} (h : w.ownsRow base 5 1 v n (vals l)) (hv : v ≠ .slice none 0 0) :
    ∃ g len cap, v = .slice (some ⟨g, 0, none⟩) len cap ∧ Hid (len = l.length) ∧ Hid (∀ (j : Nat) (u : Value), (vals l)[j]? = some u → w.cell? ((⟨g, 0, none⟩ : Addr).add j) = some u) := Wr.own_src h hv
theorem bytes_own {w : World} {base n : Nat} {v : Value} {l : List Nat} (h : w.ownsRow base 5 1 v n (vals l)) (hl : ∀ c ∈ l, c < 256) (hn : n = l.length) (hm : n ≤ 7000) :
    ∃ a cap, v = .slice a n cap ∧ Hid (Wr.Bytes w a n cap l) ∧ Hid (∀ x, a = some x → base ≤ x.block ∧ x.block < w.heap.size) := Wr.bytes_of_own' h hl hn hm
theorem close_any (a : Option Addr) (m cap : Nat) (l : List Nat) (w : World) (h : Wr.Bytes w a m cap l) (hm : m ≤ 3000) (ht : Tab w) :
    Calls Tryd.prog 14 #[.slice a m cap] w fun e w' => ∃ g cap2, e = .returned (.slice (some ⟨g, 0, none⟩) (m + 4) cap2) ∧ Mine w' w.heap.size g (m + 4) cap2 (l ++ four (sum l)) ∧ Below w.heap.size w w' := by
  cases a with
  | some x => exact close_some x m cap l w h.1 hm ht
  | none =>
    obtain ⟨rfl, rfl⟩ := h.2.2.2 rfl
    obtain rfl : l = [] := List.eq_nil_of_length_eq_zero h.1.1
    exact close_none w ht
theorem inStr_one (p : Nat) (most : Int) (s : ByteArray) (R : List Nat) (hs : (s.size : Int) ≤ most) (h20 : s.size ≤ 20) (w : World) (h : Wr.InAt w p (one s ++ R) 0) :
    Calls Tryd.prog 26 #[.pointer (some ⟨p, 0, none⟩), .int .i64 most] w fun e' w' => e' = .returned (.string s) ∧ Wr.InAt w' p R 0 ∧ ∀ B, B ≤ p → Below B w w' := by
  have e : one s = Wr.text (Wr.bytesOf s) := by unfold one Wr.text; rw [Wr.bytesOf_length]
  rw [e] at h
  have hc := Wr.inStr_any p most _ 0 w h
  rw [Wr.readStr_text most (Wr.bytesOf s) R (by rw [Wr.bytesOf_length]; omega) (by rw [Wr.bytesOf_length]; exact hs), Wr.bstr_bytesOf'] at hc
  exact hc
theorem stands_any (w : World) : Calls Tryd.prog 23 #[] w fun e w' => e = .returned (.bool true) ∧ w = w' := by
  have e : Di.w63 (4611686018427387903 + 1) = -4611686018427387904 := by decide
  go_enter Tryd.func23, Tryd.ntmps23
  go_wp2_with (go_at_call 36; refine (Di.add_any _ _ _).mono ?_; rintro e1 w1 ⟨rfl, rfl⟩; rw [e])
  go_ret
  exact ⟨rfl, rfl⟩

/-! ### One bit turned -/
theorem flip_bad (l : List Nat) (m q r : Nat) (h : l.length = m + 4) (hb : ∀ c ∈ l, c < 256) (hM : reg 4294967295 l = MAGIC) (hq : q < m + 4) (hr : r < 8) : ¬ stored (l.set q (l.getD q 0 ^^^ 2 ^ r)) m = sum ((l.set q (l.getD q 0 ^^^ 2 ^ r)).take m) := by
  have hX : 2 ^ r < 256 := by
    have : (2 : Nat) ^ r ≤ 2 ^ 7 := Nat.pow_le_pow_right (by decide) (by omega)
    omega
  have hC : l.getD q 0 < 256 := hb _ (getD_mem l q (by omega))
  rw [valid_iff _ m (by rw [List.length_set]; exact h) (fun c hc => by
    rcases List.mem_or_eq_of_mem_set hc with hc | rfl
    · exact hb c hc
    · exact Nat.xor_lt_two_pow (n := 8) hC hX), reg_flip l q r (by omega) hr, hM]
  intro e
  have := SN_eq_zero _ 1 (by decide) ((xor_eq_self _ _).1 e)
  cases this
theorem closed_yes (L : List Nat) : stored (L ++ four (sum L)) L.length = sum ((L ++ four (sum L)).take L.length) := by
  rw [stored_four, List.take_left]
end Go.Proofs.YtkplkfhkablelaaDoor
