/-
  Texts put together: WalU, WalV, WalW, WalX, WalZ, WfA, WnC.
-/
import Derived.Test.YtcmnfbpmkndfkaaDoorMgE
import Derived.Test.YtcmnfbpmkndfkaaDoorMgR
import Derived.Lib.SlBytesConst
import Derived.Deep.Slices
import Derived.Deep.Fields
namespace Go.Proofs.YtcmnfbpmkndfkaaDoor
open Go.ChangeShapes Go.WideShapes Go.ChangeAt Go.RowKit
set_option linter.unusedVariables false
set_option maxRecDepth 100000

theorem dec_code (n : Int) (h1 : -9223372036854775808 ≤ n) (h2 : n ≤ 9223372036854775807) (R : List Nat) : Wr.dec 0 0 (Wr.code n ++ R) = (Wr.zig n, (Wr.code n).length, 0) := by
  have hz := Wr.zig_lt n h1 h2
  have h := Wr.dec_enc 10 0 0 (Wr.zig n) R rfl (by omega) (.inl rfl)
  unfold Wr.code
  rw [h]
  refine Prod.ext ?_ (Prod.ext ?_ rfl)
  · show 0 + Wr.zig n * 2 ^ (7 * 0) = Wr.zig n
    omega
  · exact Nat.zero_add _
theorem readNum_code (least most n : Int) (h1 : -9223372036854775808 ≤ n) (h2 : n ≤ 9223372036854775807) (g1 : least ≤ n) (g2 : n ≤ most) (R : List Nat) : Wr.readNum least most (Wr.code n ++ R) 0 = (n, R, 0) := by
  unfold Wr.readNum
  rw [dec_code n h1 h2 R, if_neg (by decide), if_neg (fun h => h rfl), Wr.unz_zig, if_neg (by omega), List.drop_left]
theorem readNum_other (least most n : Int) (h1 : -9223372036854775808 ≤ n) (h2 : n ≤ 9223372036854775807) (g : n < least ∨ most < n) (R : List Nat) : (Wr.readNum least most (Wr.code n ++ R) 0).2.2 = 4 := by
  unfold Wr.readNum
  rw [dec_code n h1 h2 R, if_neg (by decide), if_neg (fun h => h rfl), Wr.unz_zig, if_pos (by omega)]
theorem readNum_zeros (least most : Int) (k : Nat) (g : 0 < least ∨ most < 0) : Wr.readNum least most (List.replicate (k + 1) 0) 0 = (0, List.replicate (k + 1) 0, 4) := by
  have h : Wr.code 0 = [0] := by decide
  have e : List.replicate (k + 1) 0 = Wr.code 0 ++ List.replicate k 0 := by rw [h]; rfl
  unfold Wr.readNum
  rw [e, dec_code 0 (by decide) (by decide), if_neg (by decide), if_neg (fun h => h rfl), Wr.unz_zig, if_pos (by omega)]
theorem readNum_err (least most : Int) (l : List Nat) (e : Int) (he : e ≠ 0) : Wr.readNum least most l e = (0, l, e) := by
  unfold Wr.readNum
  rw [if_pos he]
/-- where no number of this age stands no record does -/
theorem noRec_bad {N : List ByteArray} {s : LSt} (hu : s.used < s.c) (hb : (Wr.readNum (s.age : Int) (s.age : Int) ((s.start N).drop 1) 0).2.2 ≠ 0) : NoRec N s := by
  obtain ⟨n1, l1, e1, h1⟩ : ∃ n1 l1 e1, Wr.readNum (s.age : Int) (s.age : Int) ((s.start N).drop 1) 0 = (n1, l1, e1) := ⟨_, _, _, rfl⟩
  rw [h1] at hb
  have he : e1 ≠ 0 := hb
  exact .inr (.inl ⟨hu, l1, l1, l1, e1, e1, e1, n1, 0, 0, h1, readNum_err _ _ _ _ he, readNum_err _ _ _ _ he, by simpa using he⟩)
theorem padL_cons (x : Nat) (l : List Nat) : (padL (x :: l)).drop 1 = l ++ List.replicate (512 - (l.length + 1)) 0 := rfl
theorem four_lt (n : Nat) (h : n < 4294967296) : ∀ c ∈ Cr.four n, c < 256 := by
  intro c hc
  unfold Cr.four at hc
  simp only [List.mem_cons, List.not_mem_nil, or_false] at hc
  omega
theorem sum_lt (l : List Nat) (h : ∀ c ∈ l, c < 256) : Cr.sum l < 4294967296 := Cr.more_lt _ _ (by decide) h
theorem closedL_lt (l : List Nat) (h : ∀ c ∈ l, c < 256) : ∀ c ∈ closedL l, c < 256 := by
  intro c hc
  unfold closedL at hc
  rcases List.mem_append.1 hc with hc | hc
  · exact h c hc
  · exact four_lt _ (sum_lt l h) c hc
theorem headL_lt (a : Int) : ∀ c ∈ headL a, c < 256 := padL_lt _ (closedL_lt _ (fun c hc => by
  rcases List.mem_cons.1 hc with rfl | hc
  · decide
  · rcases List.mem_cons.1 hc with rfl | hc
    · decide
    · exact code_lt _ c hc))
theorem startL_lt (a n : Int) (B : List Nat) : ∀ c ∈ startL a n B, c < 256 := padL_lt _ (fun c hc => by
  rcases List.mem_cons.1 hc with rfl | hc
  · decide
  · refine closedL_lt _ (fun c hc => ?_) c hc
    unfold recL at hc
    simp only [List.mem_append] at hc
    rcases hc with ((hc | hc) | hc) | hc <;> exact code_lt _ c hc)
theorem bytesL_lt (C : List Nat) (h : ∀ c ∈ C, c < 256) : ∀ c ∈ bytesL C, c < 256 := padL_lt _ (fun c hc => by
  rcases List.mem_cons.1 hc with rfl | hc
  · decide
  · exact h c hc)
/-- a head's sector tells its age -/
theorem hage_head (a : Nat) (h0 : 1 ≤ a) (h1 : a < 4611686018427387904) : hageL (headL (a : Int)) = (a : Int) := by
  have e : (headL (a : Int)).drop 2 = Wr.code (a : Int) ++ (Cr.four (Cr.sum (76 :: 71 :: Wr.code (a : Int))) ++ List.replicate (512 - (closedL (76 :: 71 :: Wr.code (a : Int))).length) 0) := by
    unfold headL padL
    show (closedL (76 :: 71 :: Wr.code (a : Int)) ++ _).drop 2 = _
    unfold closedL
    show (Wr.code (a : Int) ++ Cr.four _) ++ _ = _
    rw [List.append_assoc]
  unfold hageL
  rw [e, readNum_code 1 9223372036854775807 (a : Int) (by omega) (by omega) (by omega) (by omega), if_pos rfl]
theorem bytes_blank : bytesOf blank = List.replicate 512 0 := bytesOf_bstr _ (fun c hc => by rw [List.eq_of_mem_replicate hc]; decide)
theorem hage_blank : hageL (bytesOf blank) = 0 := by
  rw [bytes_blank]
  unfold hageL
  rw [show (List.replicate 512 0).drop 2 = List.replicate (509 + 1) 0 from rfl, readNum_zeros _ _ _ (.inl (by decide))]
  split <;> rfl
/-! ### The sectors behind Append -/
theorem partsK_length (N : List ByteArray) (at_ : Nat) (B : List Nat) (k : Nat) : (partsK N at_ B k).length = N.length := by
  induction k with
  | zero => rfl
  | succ k ih => show ((partsK N at_ B k).set _ _).length = _; rw [List.length_set, ih]
theorem partsK_out (N : List ByteArray) (at_ : Nat) (B : List Nat) (k i : Nat) (d : ByteArray) (h : i < at_ ∨ at_ + k ≤ i) : (partsK N at_ B k).getD i d = N.getD i d := by
  induction k with
  | zero => rfl
  | succ k ih =>
    show ((partsK N at_ B k).set _ _).getD i d = _
    rw [getD_set_ne _ _ _ _ _ (by omega), ih (by omega)]
theorem partsK_in (N : List ByteArray) (at_ : Nat) (B : List Nat) (k j : Nat) (d : ByteArray) (hj : j < k) (hN : at_ + k ≤ N.length) : (partsK N at_ B k).getD (at_ + j) d = partSec B j := by
  induction k with
  | zero => omega
  | succ k ih =>
    show ((partsK N at_ B k).set _ _).getD (at_ + j) d = _
    by_cases e : j = k
    · subst e
      rw [getD_set_eq _ _ _ _ (by rw [partsK_length]; omega)]
    · rw [getD_set_ne _ _ _ _ _ (by omega), ih (by omega) (by omega)]
theorem appN_length (N : List ByteArray) (s : LSt) (B : List Nat) : (appN N s B).length = N.length := by
  unfold appN
  rw [List.length_set, partsK_length]
theorem appN_out (N : List ByteArray) (s : LSt) (B : List Nat) (i : Nat) (d : ByteArray) (h : i < s.f + s.used ∨ s.f + s.used + (1 + sectorsN B.length) ≤ i) : (appN N s B).getD i d = N.getD i d := by
  unfold appN
  rw [getD_set_ne _ _ _ _ _ (by omega), partsK_out _ _ _ _ _ _ (by omega)]
theorem appN_start (N : List ByteArray) (s : LSt) (B : List Nat) (hN : s.f + s.used < N.length) : s.start (appN N s B) = startL (s.age : Int) (s.number : Int) B := by
  unfold LSt.start appN
  rw [getD_set_eq _ _ _ _ (by rw [partsK_length]; exact hN), bytesOf_bstr _ (startL_lt _ _ _)]
theorem appN_parts (N : List ByteArray) (s : LSt) (B : List Nat) (h256 : ∀ c ∈ B, c < 256) (hN : s.f + s.used + (1 + sectorsN B.length) ≤ N.length) : Parts (appN N s B) (s.f + s.used + 1) B := fun j hj => by
  have hjk : j < sectorsN B.length := by unfold sectorsN; omega
  refine ⟨by rw [appN_length]; omega, ?_⟩
  unfold appN
  rw [getD_set_ne _ _ _ _ _ (by omega), partsK_in _ _ _ _ _ _ hjk (by omega)]
  unfold partSec
  rw [bytesOf_bstr _ (bytesL_lt _ (fun c hc => h256 c (List.mem_of_mem_drop (List.mem_of_mem_take hc))))]
theorem startL_drop (a n : Int) (B : List Nat) : ∃ R, (startL a n B).drop 1 = Wr.code a ++ (Wr.code n ++ (Wr.code (B.length : Int) ++ R)) := by
  refine ⟨Wr.code ((Cr.sum B : Nat) : Int) ++ (Cr.four (Cr.sum (recL a n B)) ++ List.replicate (512 - ((closedL (recL a n B)).length + 1)) 0), ?_⟩
  unfold startL
  rw [padL_cons]
  unfold closedL recL
  simp only [List.append_assoc]
/-- what Append writes is a record -/
theorem isRec_app (N : List ByteArray) (s : LSt) (B : List Nat) (h256 : ∀ c ∈ B, c < 256) (hu : s.used + (1 + sectorsN B.length) ≤ s.c) (hc : s.c ≤ 30000) (hN : s.f + s.c ≤ N.length) (hage : s.age < 4611686018427387904) (hnum : s.number ≤ 65536) : IsRec (appN N s B) s B := by
  have hl : B.length ≤ (s.c - s.used - 1) * 511 := by unfold sectorsN at hu; omega
  obtain ⟨R, hR⟩ := startL_drop (s.age : Int) (s.number : Int) B
  have hst := appN_start N s B (by omega)
  refine ⟨by omega, by omega, h256, appN_parts N s B h256 (by omega), hst, Wr.code (s.number : Int) ++ (Wr.code (B.length : Int) ++ R), Wr.code (B.length : Int) ++ R, R, 0, 0, (s.age : Int), (s.number : Int), ?_, ?_, ?_⟩
  · rw [hst, hR]
    exact readNum_code _ _ _ (by omega) (by omega) (by omega) (by omega) _
  · exact readNum_code _ _ _ (by omega) (by omega) (by omega) (by omega) _
  · exact readNum_code _ _ _ (by omega) (by omega) (by omega) (by omega) _
theorem isRec_congr {N N' : List ByteArray} {s : LSt} {B : List Nat} (h : IsRec N s B) (hl : N'.length = N.length) (he : ∀ i d, s.f + s.used ≤ i → i < s.f + s.used + (1 + sectorsN B.length) → N'.getD i d = N.getD i d) : IsRec N' s B := by
  obtain ⟨h1, h2, h3, h4, h5, h6⟩ := h
  have e : s.start N' = s.start N := by unfold LSt.start; rw [he _ _ (Nat.le_refl _) (by omega)]
  refine ⟨h1, h2, h3, fun j hj => ?_, by rw [e]; exact h5, by rw [e]; exact h6⟩
  obtain ⟨h7, h8⟩ := h4 j hj
  refine ⟨by rw [hl]; exact h7, ?_⟩
  rw [he _ _ (by omega) (by unfold sectorsN; omega)]
  exact h8
/-! ### Heads -/
structure Heads (N : List ByteArray) (s : LSt) : Prop where
  here : bytesOf (N.getD (s.f + s.head) ⟨#[]⟩) = headL (s.age : Int)
  other : hageL (bytesOf (N.getD (s.f + (1 - s.head)) ⟨#[]⟩)) < (s.age : Int)
  head : s.head ≤ 1
  pos : 1 ≤ s.age
  small : s.age < 4611686018427387904
theorem try_pos {s : LSt} {k : Nat} {a : Int} (h : (s.age : Int) < a) : s.try_ k a = { s with head := k, age := a.toNat } := if_pos h
theorem try_neg {s : LSt} {k : Nat} {a : Int} (h : ¬ (s.age : Int) < a) : s.try_ k a = s := if_neg h
theorem Heads.found {N : List ByteArray} {s : LSt} (h : Heads N s) : foundL N (openL s.f s.c) 2 = ⟨s.f, s.c, s.head, s.age, 0, 2⟩ := by
  obtain ⟨h1, h2, h3, h4, h5⟩ := h
  have ha := hage_head s.age h4 h5
  rw [← h1] at ha
  have hn := (hage_nn (bytesOf (N.getD (s.f + (1 - s.head)) ⟨#[]⟩))).1
  show ((openL s.f s.c).try_ 0 (hageL (bytesOf (N.getD (s.f + 0) ⟨#[]⟩)))).try_ 1 (hageL (bytesOf (N.getD (s.f + 1) ⟨#[]⟩))) = _
  rcases (show s.head = 0 ∨ s.head = 1 by omega) with e | e
  · rw [e] at ha h2 ⊢
    rw [ha]
    have h2' : hageL (bytesOf (N.getD (s.f + 1) ⟨#[]⟩)) < (s.age : Int) := h2
    rw [try_pos (s := openL s.f s.c) (k := 0) (a := (s.age : Int)) (show ((0 : Nat) : Int) < (s.age : Int) by omega), try_neg (by show ¬ (((s.age : Int).toNat : Nat) : Int) < _; omega)]
    simp [openL]
  · rw [e] at ha h2 hn ⊢
    have h2' : hageL (bytesOf (N.getD (s.f + 0) ⟨#[]⟩)) < (s.age : Int) := h2
    rw [ha]
    by_cases g : (((openL s.f s.c).age : Nat) : Int) < hageL (bytesOf (N.getD (s.f + 0) ⟨#[]⟩))
    · have hn' : 0 ≤ hageL (bytesOf (N.getD (s.f + 0) ⟨#[]⟩)) := hn
      rw [try_pos g, try_pos (by show (((hageL (bytesOf (N.getD (s.f + 0) ⟨#[]⟩))).toNat : Nat) : Int) < _; omega)]
      simp [openL]
    · rw [try_neg g, try_pos (s := openL s.f s.c) (k := 1) (a := (s.age : Int)) (show ((0 : Nat) : Int) < (s.age : Int) by omega)]
      simp [openL]
theorem Heads.congr {N N' : List ByteArray} {s s' : LSt} (h : Heads N s) (hs : s'.f = s.f ∧ s'.head = s.head ∧ s'.age = s.age) (he : ∀ i d, i < s.f + 2 → N'.getD i d = N.getD i d) : Heads N' s' := by
  obtain ⟨h1, h2, h3, h4, h5⟩ := h
  obtain ⟨e1, e2, e3⟩ := hs
  refine ⟨?_, ?_, by rw [e2]; exact h3, by rw [e3]; exact h4, by rw [e3]; exact h5⟩
  · rw [e1, e2, e3, he _ _ (by omega)]; exact h1
  · rw [e1, e2, e3, he _ _ (by omega)]; exact h2
/-- a Truncate's heads -/
theorem Heads.cut {N : List ByteArray} {s : LSt} (h : Heads N s) (hN : s.f + 2 ≤ N.length) (hs : s.age + 1 < 4611686018427387904) : Heads (N.set (s.f + (1 - s.head)) (bstr (headL ((s.age + 1 : Nat) : Int)))) s.cut := by
  obtain ⟨h1, h2, h3, h4, h5⟩ := h
  refine ⟨?_, ?_, by show 1 - s.head ≤ 1; omega, by show 1 ≤ s.age + 1; omega, hs⟩
  · show bytesOf ((N.set _ _).getD (s.f + (1 - s.head)) _) = headL ((s.age + 1 : Nat) : Int)
    rw [getD_set_eq _ _ _ _ (by omega), bytesOf_bstr _ (headL_lt _)]
  · show hageL (bytesOf ((N.set _ _).getD (s.f + (1 - (1 - s.head))) _)) < ((s.age + 1 : Nat) : Int)
    rw [getD_set_ne _ _ _ _ _ (by omega), show 1 - (1 - s.head) = s.head by omega, h1, hage_head _ h4 h5]
    omega
end Go.Proofs.YtcmnfbpmkndfkaaDoor
namespace Go.Proofs.YtcmnfbpmkndfkaaDoor
open Go.ChangeShapes Go.WideShapes Go.ChangeAt Go.RowKit
set_option linter.unusedVariables false
set_option maxRecDepth 100000

theorem noughtK_in (N : List ByteArray) (f k j : Nat) (d : ByteArray) (hj : j < k) (hN : f + 1 + k ≤ N.length) : (noughtK N f k).getD (f + 1 + j) d = blank := by
  induction k with
  | zero => omega
  | succ k ih =>
    show ((noughtK N f k).set _ _).getD (f + 1 + j) d = _
    by_cases e : j = k
    · subst e
      rw [getD_set_eq _ _ _ _ (by rw [noughtK_length]; omega)]
    · rw [getD_set_ne _ _ _ _ _ (by omega), ih (by omega) (by omega)]
theorem noughtK_out (N : List ByteArray) (f k i : Nat) (d : ByteArray) (h : i ≤ f ∨ f + 1 + k ≤ i) : (noughtK N f k).getD i d = N.getD i d := by
  induction k with
  | zero => rfl
  | succ k ih =>
    show ((noughtK N f k).set _ _).getD i d = _
    rw [getD_set_ne _ _ _ _ _ (by omega), ih (by omega)]
theorem fmtN_length (N : List ByteArray) (f c : Nat) : (fmtN N f c).length = N.length := by
  unfold fmtN
  rw [List.length_set, noughtK_length]
theorem fmtN_out (N : List ByteArray) (f c i : Nat) (d : ByteArray) (h3 : 1 ≤ c) (h : i < f ∨ f + c ≤ i) : (fmtN N f c).getD i d = N.getD i d := by
  unfold fmtN
  rw [getD_set_ne _ _ _ _ _ (by omega), noughtK_out _ _ _ _ _ (by omega)]
theorem fmtN_in (N : List ByteArray) (f c i : Nat) (d : ByteArray) (h1 : f < i) (h2 : i < f + c) (hN : f + c ≤ N.length) : (fmtN N f c).getD i d = blank := by
  unfold fmtN
  rw [getD_set_ne _ _ _ _ _ (by omega)]
  obtain ⟨j, rfl⟩ : ∃ j, i = f + 1 + j := ⟨i - (f + 1), by omega⟩
  exact noughtK_in _ _ _ _ _ (by omega) (by omega)
/-- a log without records -/
def freshL (f c : Nat) : LSt := ⟨f, c, 0, 1, 0, 2⟩
theorem fmt_heads (N : List ByteArray) (f c : Nat) (h3 : 3 ≤ c) (hN : f + c ≤ N.length) : Heads (fmtN N f c) (freshL f c) := by
  refine ⟨?_, ?_, Nat.zero_le _, Nat.le_refl _, (by decide : (1 : Nat) < 4611686018427387904)⟩
  · show bytesOf ((fmtN N f c).getD (f + 0) _) = headL ((1 : Nat) : Int)
    unfold fmtN
    rw [Nat.add_zero, getD_set_eq _ _ _ _ (by rw [noughtK_length]; omega), bytesOf_bstr _ (headL_lt _)]
    rfl
  · show hageL (bytesOf ((fmtN N f c).getD (f + (1 - 0)) _)) < ((1 : Nat) : Int)
    rw [fmtN_in _ _ _ _ _ (by omega) (by omega) hN, hage_blank]
    decide
theorem bad_blank {s : LSt} {N : List ByteArray} (hage : 1 ≤ s.age) (hb : s.start N = bytesOf blank) : (Wr.readNum (s.age : Int) (s.age : Int) ((s.start N).drop 1) 0).2.2 ≠ 0 := by
  rw [hb, bytes_blank, show (List.replicate 512 0).drop 1 = List.replicate (510 + 1) 0 from rfl, readNum_zeros _ _ _ (.inl (by omega))]
  decide
theorem fmt_norec (N : List ByteArray) (f c : Nat) (h3 : 3 ≤ c) (hN : f + c ≤ N.length) : NoRec (fmtN N f c) (freshL f c) :=
  noRec_bad (show 2 < c by omega) (bad_blank (Nat.le_refl _) (by unfold LSt.start; show bytesOf ((fmtN N f c).getD (f + 2) _) = _; rw [fmtN_in _ _ _ _ _ (by omega) (by omega) hN]))
/-- Open of a log, by what its heads say -/
theorem open_heads (w : World) (F : Nat → Prop) (p m : Nat) (s : LSt) (N : List ByteArray) (R : List (List Nat)) (h : Qd w F p N m) (hh : Heads N s) (h3 : 3 ≤ s.c) (hc : s.c ≤ 30000) (hl : s.f + s.c ≤ N.length) (hN : N.length ≤ 65536) (ht : Cr.Tab w) (hr : Recs N ⟨s.f, s.c, s.head, s.age, 0, 2⟩ R) :
    Calls Tryd.prog 14 #[.pointer (some ⟨p, 0, none⟩), .int .i64 (s.f : Int), .int .i64 (s.c : Int)] w fun e w' => ∃ v, e = .returned (.tuple #[.pointer (some ⟨w.heap.size, 0, none⟩), v, .int .i64 0]) ∧ LogAt w' w.heap.size p (LSt.through ⟨s.f, s.c, s.head, s.age, 0, 2⟩ R) ∧ RowsOf w' w.heap.size v R ∧ Below w.heap.size w w' := by
  have e := hh.found
  have hp := hh.pos
  have hs := hh.small
  have h := open_ok w F p m s.f s.c N R h h3 hc hl hN ht (by rw [e]; exact hp) (by rw [e]; exact hs) (by rw [e]; exact ⟨rfl, rfl, rfl, rfl⟩) (by rw [e]; exact hr)
  rw [e] at h
  exact h
theorem qnew (n : Nat) (w : World) (h1 : 1 ≤ n) (hn : n ≤ 65536) :
    Calls Tryd.prog 31 #[.int .i64 (n : Int)] w fun e w' => ∃ p, e = .returned (.tuple #[.pointer (some ⟨p, 0, none⟩), .int .i64 0]) ∧ Qd w' (Gr (fun _ => False) w w') p (List.replicate n blank) 0 ∧ Below w.heap.size w w' := by
  refine (new_any n w h1 hn).mono ?_
  rintro e w' ⟨p, rfl, hd, hb⟩
  refine ⟨p, rfl, ⟨_, hd, rfl, rfl, rfl, rfl, ?_, app_new n, Int.le_refl _, Int.le_refl _, Nat.le_refl _⟩, hb⟩
  show Good _ (List.replicate n blank).length
  rw [List.length_replicate]
  exact good_new n
def blank18 : List ByteArray := List.replicate 18 blank
theorem blank18_length : blank18.length = 18 := List.length_replicate
def N18 : List ByteArray := fmtN blank18 2 14
def s18 : LSt := freshL 2 14
theorem N18_length : N18.length = 18 := by unfold N18; rw [fmtN_length, blank18_length]
/-- what fresh makes: a disk at p, a log at g, all of them new -/
structure Fresh (w w' : World) (p g : Nat) (F : Nat → Prop) : Prop where
  disk : Qd w' F p N18 17
  log : LogAt w' g p s18
  notF : ¬ F g
  new : ∀ k, F k → w.heap.size ≤ k
  below : Below w.heap.size w w'
  newG : w.heap.size ≤ g
set_option maxHeartbeats 1000000 in
theorem fresh_any (w : World) (ht : Cr.Tab w) :
    Calls Tryd.prog 12 #[] w fun e w' => ∃ p g F, e = .returned (.tuple #[.pointer (some ⟨p, 0, none⟩), .pointer (some ⟨g, 0, none⟩), .bool true]) ∧ Fresh w w' p g F := by
  have HN := Lib.hid (qnew 18 w (by decide) (by decide))
  have HT := Lib.hid ht
  have hq : 0 < w.heap.size := cell_lt (ht 0 (by decide))
  clear ht
  go_enter Tryd.func12, Tryd.ntmps12
  go_wp2_with (go_at_call 31; refine HN.out.mono ?_; rintro e w1 ⟨p, rfl, hq1, hb⟩; have HQ1 := Lib.hid hq1; have HB1 := Lib.hid hb; clear hq1 hb)
  have hF1 : ¬ Gr (fun _ => False) w w1 0 := gr_new (fun h => h) hq
  have HFm := Lib.hid (format_any w1 (Gr (fun _ => False) w w1) p 0 2 14 blank18 HQ1.out (by decide) (by rw [blank18_length]; decide) (by rw [blank18_length]; decide) (by decide) (Cr.Tab.below HT.out HB1.out) hF1)
  go_wp2_with (first
    | (go_at_call 32; refine HFm.out.mono ?_; rintro e w2 ⟨rfl, ⟨F2, hq2, hs2⟩, ho2⟩; have HQ2 := Lib.hid hq2; have HS2 := Lib.hid hs2; have HB2 : Hid (Below w.heap.size w w2) := Lib.hid (HB1.out.trans (ho2.below HB1.out.size (fun k hk => by rcases hk with hk | hk; exact hk.elim; exact hk.1))); clear hq2 hs2 ho2)
    | (go_at_call 14; refine (open_heads w2 F2 p 17 s18 N18 [] HQ2.out (fmt_heads _ _ _ (by decide) (by rw [blank18_length]; decide)) (by decide) (by decide) (by rw [N18_length]; decide) (by rw [N18_length]; decide) (Cr.Tab.below HT.out HB2.out) (fmt_norec _ _ _ (by decide) (by rw [blank18_length]; decide))).mono ?_; rintro e w3 ⟨v, rfl, hl, hr, hb⟩; obtain ⟨_, _, _, hv⟩ := hr; obtain rfl := hv rfl; have HL3 := Lib.hid hl; have HQ3 := Lib.hid (HQ2.out.below hb); have HB3 := Lib.hid (Below.step hb HB2.out HB2.out.size); clear hl hb))
  go_ret3
  refine ⟨p, w2.heap.size, F2, rfl, HQ3.out, HL3.out, fun h => Nat.lt_irrefl _ (HQ2.out.lts _ h), fun k hk => ?_, HB3.out, HB2.out.size⟩
  rcases HS2.out k hk with h | h
  · rcases h with h | h
    · exact h.elim
    · exact h.1
  · have := HB1.out.size
    omega
end Go.Proofs.YtcmnfbpmkndfkaaDoor
namespace Go.Proofs.YtcmnfbpmkndfkaaDoor
open Go.ChangeShapes Go.WideShapes Go.ChangeAt Go.RowKit
set_option linter.unusedVariables false
set_option maxRecDepth 100000

theorem recs_two {N : List ByteArray} {s : LSt} {A B : List Nat} (hA : ∀ c ∈ A, c < 256) (hB : ∀ c ∈ B, c < 256) (hu : s.used + (1 + sectorsN A.length) + (1 + sectorsN B.length) ≤ s.c) (hc : s.c ≤ 30000) (hN : s.f + s.c ≤ N.length) (hage : s.age < 4611686018427387904) (hnum : s.number + 1 ≤ 65536)
    (hend : NoRec (appN (appN N s A) (s.passed A.length) B) ((s.passed A.length).passed B.length)) : Recs (appN (appN N s A) (s.passed A.length) B) s [A, B] :=
  ⟨isRec_congr (isRec_app N s A hA (by omega) hc hN hage (by omega)) (appN_length _ _ _) (fun i d h1 h2 => appN_out _ _ _ _ _ (.inl (by show i < s.f + (s.used + (1 + sectorsN A.length)); omega))),
   isRec_app (appN N s A) (s.passed A.length) B hB hu hc (by rw [appN_length]; exact hN) hage hnum, hend⟩
theorem byteRow_nil (w : World) (a : Option Addr) : ByteRow w a 0 [] := ⟨rfl, Nat.zero_le _, fun c hc => (List.not_mem_nil hc).elim, fun h => absurd h (Nat.lt_irrefl _)⟩
theorem RowsOf.two {W : World} {base : Nat} {v : Value} {A B : List Nat} (h : RowsOf W base v [A, B]) : ∃ rg cap g0 c0 g1 c1, v = .slice (some ⟨rg, 0, none⟩) 2 cap ∧ W.cell? ⟨rg, 0, none⟩ = some (.slice (some ⟨g0, 0, none⟩) A.length c0) ∧ W.cell? ⟨rg, 1, none⟩ = some (.slice (some ⟨g1, 0, none⟩) B.length c1) ∧ ByteRow W (some ⟨g0, 0, none⟩) A.length A ∧ ByteRow W (some ⟨g1, 0, none⟩) B.length B := by
  obtain ⟨vs, h1, h2, _⟩ := h
  have h1' : W.ownsRow base 34 1 v (1 + 1) vs := h1
  obtain ⟨rg, cap, rfl⟩ := ownsRow_succ h1'
  obtain ⟨g0, c0, e0, b0⟩ := h2.get 0 (Nat.zero_lt_succ _)
  obtain ⟨g1, c1, e1, b1⟩ := h2.get 1 (Nat.succ_lt_succ (Nat.zero_lt_succ _))
  exact ⟨rg, cap, g0, c0, g1, c1, rfl, (h1'.cellAt 0 (by decide)).trans e0, (h1'.cellAt 1 (by decide)).trans e1, b0, b1⟩
theorem N18_blank (i : Nat) (h1 : 2 < i) (h2 : i < 16) (d : ByteArray) : N18.getD i d = blank := fmtN_in _ _ _ _ _ h1 h2 (by rw [blank18_length]; decide)
set_option maxHeartbeats 2000000 in
theorem logs_any (w : World) (ht : Cr.Tab w) :
    Calls Tryd.prog 6 #[] w fun e w' => e = .returned (.bool true) ∧ Below w.heap.size w w' := by
  have HFr := Lib.hid (fresh_any w ht)
  have HT := Lib.hid ht
  have hq : 0 < w.heap.size := cell_lt (ht 0 (by decide))
  clear ht
  have kc := fun (w : World) (C : Array Value) (n c : Nat) => Lib.run_convert_bytes_const (P := Tryd.prog) w 34 5 C n c Tryd.underlying34 Tryd.underlying5
  go_enter Tryd.func6, Tryd.ntmps6
  go_wp2_with (go_at_call 12; refine HFr.out.mono ?_; clear HFr; rintro e w1 ⟨p, g, F, rfl, hfr⟩; have HF := Lib.hid hfr; have hgl := hfr.log.lt; clear hfr)
  have HB1 : Hid (Below w1.heap.size w1 (w1.alloc (.cells #[.int .u8 97] 5 (1, 2)))) := Lib.hid ((Below.refl _ _).alloc (Nat.le_refl _) _)
  have hFq : ¬ F 0 := fun h => by have := HF.out.new _ h; omega
  have HA1 := Lib.hid (append_ok (w1.alloc (.cells #[.int .u8 97] 5 (1, 2))) F g p 17 1 1 (some ⟨w1.heap.size, 0, none⟩) s18 N18 [97] (HF.out.disk.below HB1.out) (HF.out.log.below HB1.out) HF.out.notF (mark_row w1 97 (by decide) (1, 2)) (by decide) (by unfold maxLen; omega) (fun _ x hx => by
      obtain rfl := Option.some.inj hx
      exact ⟨fun h => Nat.lt_irrefl _ (HF.out.disk.lts _ h), fun h => by dsimp only at h; omega⟩) (by decide) (by decide) (by rw [N18_length]; decide) (by rw [N18_length]; decide) (by decide) (by decide) (by decide) (Cr.Tab.below HT.out (Below.step HB1.out HF.out.below HF.out.below.size)) hFq)
  go_wp2_with (go_at_call 8; refine HA1.out.mono ?_; clear HA1; rintro e w2 ⟨rfl, hl2, ⟨F2, hq2, hs2⟩, ho2⟩; have HL2 := Lib.hid hl2; have HQ2 := Lib.hid hq2; have HS2 := Lib.hid hs2; have HO2 := Lib.hid ho2; clear hl2 hq2 hs2 ho2)
  clear kc
  have hg2 : ¬ F2 g := fun h => (HS2.out g h).2 rfl
  have hFq2 : ¬ F2 0 := fun h => by
    rcases (HS2.out _ h).1 with h | h
    · exact hFq h
    · have := HF.out.below.size
      have := HB1.out.size
      omega
  have HB2 : Hid (Below w.heap.size w w2) := Lib.hid ((Below.step HB1.out HF.out.below HF.out.below.size).trans (HO2.out.below (Nat.le_trans HF.out.below.size HB1.out.size) (fun k hk => by
    rcases hk with hk | hk
    · exact HF.out.new k hk
    · rw [hk]; exact HF.out.newG)))
  have HA2 := Lib.hid (append_ok w2 F2 g p (17 + sectorsN 1 + 3) 0 0 none (s18.passed 1) (appN N18 s18 [97]) [] HQ2.out HL2.out hg2 (byteRow_nil w2 none) (Nat.le_refl _) (by decide) (fun _ x hx => by cases hx) (by decide) (by decide) (by rw [appN_length, N18_length]; decide) (by rw [appN_length, N18_length]; decide) (by decide) (by decide) (by decide) (Cr.Tab.below HT.out HB2.out) hFq2)
  go_wp2_with (go_at_call 8; refine HA2.out.mono ?_; clear HA2; rintro e w3 ⟨rfl, hl3, ⟨F3, hq3, hs3⟩, ho3⟩; have HQ3 := Lib.hid hq3; have HO3 := Lib.hid ho3; clear hl3 hq3 hs3 ho3)
  have HB3 : Hid (Below w.heap.size w w3) := Lib.hid (HB2.out.trans (HO3.out.below HB2.out.size (fun k hk => by
    rcases hk with hk | hk
    · rcases (HS2.out k hk).1 with h | h
      · exact HF.out.new k h
      · exact Nat.le_trans (Nat.le_trans HF.out.below.size HB1.out.size) h.1
    · rw [hk]; exact HF.out.newG)))
  have HO := Lib.hid (open_heads w3 F3 p _ s18 (appN (appN N18 s18 [97]) (s18.passed 1) []) [[97], []] HQ3.out ((fmt_heads blank18 2 14 (by decide) (by rw [blank18_length]; decide)).congr ⟨rfl, rfl, rfl⟩ (fun i d hi => by
      have hi : i < 2 + 2 := hi
      rw [appN_out _ _ _ _ _ (.inl (show i < 2 + 4 by omega)), appN_out _ _ _ _ _ (.inl (show i < 2 + 2 by omega))]
      rfl)) (by decide) (by decide) (by rw [appN_length, appN_length, N18_length]; decide) (by rw [appN_length, appN_length, N18_length]; decide) (Cr.Tab.below HT.out HB3.out)
    (recs_two (N := N18) (s := s18) (A := [97]) (B := []) (by decide) (by decide) (by decide) (by decide) (by rw [N18_length]; decide) (by decide) (by decide) (noRec_bad (by decide) (bad_blank (by decide) (by
      show bytesOf ((appN _ _ _).getD (2 + 5) _) = _
      rw [appN_out _ _ _ _ _ (.inr (by decide)), appN_out _ _ _ _ _ (.inr (by decide)), N18_blank _ (by decide) (by decide)])))))
  go_wp2_with (go_at_call 14; refine HO.out.mono ?_; clear HO; rintro e w4 ⟨v, rfl, hl4, hr4, hb4⟩; have HB4 := Lib.hid (Below.step hb4 HB3.out HB3.out.size); obtain ⟨rg, cap, g0, c0, g1, c1, rfl, d0, d1, r0, r1⟩ := hr4.two; have hcv := conv_row c0 (show ByteRow w4 (some ⟨g0, 0, none⟩) 1 [97] from r0); rw [show bstr [97] = ⟨#[97]⟩ from rfl] at hcv; clear hl4 hr4 hb4)
  go_ret
  exact ⟨rfl, HB4.out⟩
end Go.Proofs.YtcmnfbpmkndfkaaDoor
namespace Go.Proofs.YtcmnfbpmkndfkaaDoor
open Go.ChangeShapes Go.WideShapes Go.ChangeAt Go.RowKit
set_option linter.unusedVariables false
set_option maxRecDepth 100000

theorem mod_cut (c : Int) (m : Nat) (h : 0 < m) (h7 : m ≤ 7000) : ∃ q : Nat, q < m ∧ wrap64 ((IntKind.u64.wrap c).tmod (m : Int)) = (q : Int) := by
  have h1 : 0 ≤ IntKind.u64.wrap c := (IntKind.wrap_u64 c).symm ▸ (by omega)
  rw [Int.tmod_eq_emod_of_nonneg h1]
  refine ⟨(IntKind.u64.wrap c % (m : Int)).toNat, ?_, ?_⟩
  · have := Int.emod_lt_of_pos (IntKind.u64.wrap c) (show (0 : Int) < m by omega)
    have := Int.emod_nonneg (IntKind.u64.wrap c) (show (m : Int) ≠ 0 by omega)
    omega
  · have := Int.emod_lt_of_pos (IntKind.u64.wrap c) (show (0 : Int) < m by omega)
    have := Int.emod_nonneg (IntKind.u64.wrap c) (show (m : Int) ≠ 0 by omega)
    rw [wrap_id _ (by omega) (by omega)]
    omega
theorem row_take {w : World} {a : Option Addr} {n m : Nat} {l : List Nat} (h : ByteRow w a n l) (hm : m ≤ n) : ByteRow w a m (l.take m) := by
  obtain ⟨h1, h2, h3, h4⟩ := h
  refine ⟨by rw [List.length_take]; omega, by omega, fun c hc => h3 c (List.mem_of_mem_take hc), fun h0 => ?_⟩
  obtain ⟨b, o, e, hc⟩ := h4 (by omega)
  refine ⟨b, o, e, fun i hi => ?_⟩
  rw [hc i (by omega)]
  rw [List.getD_eq_getElem?_getD, List.getD_eq_getElem?_getD, List.getElem?_take, if_pos hi]
/-- where a record of an elder age stands, none of this age does -/
theorem bad_elder {s : LSt} {N : List ByteArray} {B : List Nat} {age n : Nat} (h : s.start N = startL (age : Int) (n : Int) B) (hlt : age < s.age) (ha : s.age < 4611686018427387904) : (Wr.readNum (s.age : Int) (s.age : Int) ((s.start N).drop 1) 0).2.2 ≠ 0 := by
  obtain ⟨R, hR⟩ := startL_drop (age : Int) (n : Int) B
  rw [h, hR, readNum_other _ _ _ (by omega) (by omega) (.inl (by omega))]
  decide
def roundL (k : Nat) : LSt := ⟨2, 14, k % 2, k + 1, 0, 2⟩
/-- what stands on the disk when k rounds are over -/
structure RoundOK (N : List ByteArray) (k K : Nat) : Prop where
  len : N.length = 18
  heads : Heads N (roundL k)
  bad : (Wr.readNum ((k + 1 : Nat) : Int) ((k + 1 : Nat) : Int) ((bytesOf (N.getD 4 ⟨#[]⟩)).drop 1) 0).2.2 ≠ 0
  clear : bytesOf (N.getD (7 + K) ⟨#[]⟩) = bytesOf blank
theorem RoundOK.none {N : List ByteArray} {k K : Nat} (h : RoundOK N k K) : NoRec N (roundL k) := noRec_bad (show 2 < 14 by decide) h.bad
theorem roundOK_zero (K : Nat) (hK : K ≤ 2) : RoundOK N18 0 K := by
  refine ⟨N18_length, fmt_heads _ _ _ (by decide) (by rw [blank18_length]; decide), ?_, ?_⟩
  · exact bad_blank (s := roundL 0) (N := N18) (by decide) (by show bytesOf (N18.getD 4 _) = _; rw [N18_blank _ (by decide) (by decide)])
  · rw [N18_blank _ (by omega) (by omega)]
/-- the sectors behind a round's two records -/
def roundN (N : List ByteArray) (k : Nat) (B : List Nat) : List ByteArray := appN (appN N (roundL k) B) ((roundL k).passed B.length) [k]
theorem roundN_length (N : List ByteArray) (k : Nat) (B : List Nat) : (roundN N k B).length = N.length := by unfold roundN; rw [appN_length, appN_length]
theorem roundN_out (N : List ByteArray) (k : Nat) (B : List Nat) (i : Nat) (d : ByteArray) (h : i < 4 ∨ 7 + sectorsN B.length ≤ i) : (roundN N k B).getD i d = N.getD i d := by
  have e1 : sectorsN ([k] : List Nat).length = 1 := show sectorsN 1 = 1 by decide
  unfold roundN
  rw [appN_out _ _ _ _ _ (by rw [e1]; show i < 2 + (2 + (1 + sectorsN B.length)) ∨ 2 + (2 + (1 + sectorsN B.length)) + (1 + 1) ≤ i; omega), appN_out _ _ _ _ _ (by show i < 2 + 2 ∨ 2 + 2 + (1 + sectorsN B.length) ≤ i; omega)]
theorem RoundOK.recs {N : List ByteArray} {k : Nat} {B : List Nat} (h : RoundOK N k (sectorsN B.length)) (h256 : ∀ c ∈ B, c < 256) (hK : sectorsN B.length ≤ 2) (hk : k < 12) : Recs (roundN N k B) (roundL k) [B, [k]] := by
  have e1 : sectorsN ([k] : List Nat).length = 1 := show sectorsN 1 = 1 by decide
  have e2 : (((roundL k).passed B.length).passed ([k] : List Nat).length).used = 2 + (1 + sectorsN B.length) + (1 + sectorsN ([k] : List Nat).length) := rfl
  rw [e1] at e2
  refine recs_two h256 (fun c hc => by rw [List.mem_singleton.1 hc]; omega) (by rw [e1]; show 2 + (1 + sectorsN B.length) + (1 + 1) ≤ 14; omega) (show 14 ≤ 30000 by decide) (by rw [h.len]; show 2 + 14 ≤ 18; decide) (show k + 1 < 4611686018427387904 by omega) (show 0 + 1 ≤ 65536 by decide) (noRec_bad (by rw [e2]; show _ < 14; omega) (bad_blank (show 1 ≤ k + 1 by omega) ?_))
  show bytesOf ((roundN N k B).getD (2 + (((roundL k).passed B.length).passed ([k] : List Nat).length).used) ⟨#[]⟩) = _
  rw [e2, roundN_out _ _ _ _ _ (by omega), show 2 + (2 + (1 + sectorsN B.length) + (1 + 1)) = 7 + sectorsN B.length by omega]
  exact h.clear
theorem RoundOK.heads2 {N : List ByteArray} {k K : Nat} (h : RoundOK N k K) (B : List Nat) : Heads (roundN N k B) (roundL k) := h.heads.congr ⟨rfl, rfl, rfl⟩ (fun i d hi => roundN_out _ _ _ _ _ (.inl hi))
def cutN (N : List ByteArray) (k : Nat) (B : List Nat) : List ByteArray := (roundN N k B).set (2 + (1 - k % 2)) (bstr (headL ((k + 1 + 1 : Nat) : Int)))
theorem RoundOK.next {N : List ByteArray} {k : Nat} {B : List Nat} (h : RoundOK N k (sectorsN B.length)) (hk : k < 12) : RoundOK (cutN N k B) (k + 1) (sectorsN B.length) := by
  have hl : (roundN N k B).length = 18 := by rw [roundN_length, h.len]
  refine ⟨by unfold cutN; rw [List.length_set, hl], ?_, ?_, ?_⟩
  · have hc := (h.heads2 B).cut (show 2 + 2 ≤ _ by rw [hl]; decide) (show k + 1 + 1 < 4611686018427387904 by omega)
    have e : (roundL k).cut = roundL (k + 1) := by
      show (⟨2, 14, 1 - k % 2, k + 1 + 1, 0, 2⟩ : LSt) = ⟨2, 14, (k + 1) % 2, k + 1 + 1, 0, 2⟩
      rw [show (k + 1) % 2 = 1 - k % 2 by omega]
    rw [e] at hc
    exact hc
  · have e : (roundL (k + 1)).start (cutN N k B) = startL ((k + 1 : Nat) : Int) ((0 : Nat) : Int) B := by
      show bytesOf ((cutN N k B).getD 4 _) = _
      unfold cutN
      rw [getD_set_ne _ _ _ _ _ (by omega)]
      unfold roundN
      rw [appN_out _ _ _ _ _ (.inl (show 4 < 2 + (2 + (1 + sectorsN B.length)) by omega))]
      exact appN_start N (roundL k) B (by rw [h.len]; show 2 + 2 < 18; decide)
    exact bad_elder (s := roundL (k + 1)) (age := k + 1) (n := 0) (B := B) e (Nat.lt_succ_self (k + 1)) (show k + 1 + 1 < 4611686018427387904 by omega)
  · unfold cutN
    rw [getD_set_ne _ _ _ _ _ (by omega), roundN_out _ _ _ _ _ (.inr (Nat.le_refl _))]
    exact h.clear
end Go.Proofs.YtcmnfbpmkndfkaaDoor
namespace Go.Proofs.YtcmnfbpmkndfkaaDoor
open Go.ChangeShapes Go.WideShapes Go.ChangeAt Go.RowKit
set_option linter.unusedVariables false
set_option maxRecDepth 100000

theorem fits_nil (f c : Int) (w : World) :
    Calls Tryd.prog 33 #[.pointer none, .int .i64 f, .int .i64 c] w fun e w' => e = .returned (.bool false) ∧ w = w' := by
  go_enter Tryd.func33, Tryd.ntmps33
  go_wp2
  go_ret
  exact ⟨rfl, rfl⟩
theorem fits_no (w : World) (F : Nat → Prop) (p m : Nat) (f c : Int) (N : List ByteArray) (h : Qd w F p N m) (hN : N.length ≤ 65536) (hf : (Lit.int .i64 f).wf = true) (hc : (Lit.int .i64 c).wf = true) (hno : f < 0 ∨ c < 3 ∨ (N.length : Int) - c < f) :
    Calls Tryd.prog 33 #[.pointer (some ⟨p, 0, none⟩), .int .i64 f, .int .i64 c] w fun e w' => e = .returned (.bool false) ∧ w = w' := by
  have H := Lib.hid (fun W (hW : w = W) => by subst hW; exact count_any w F p m N h)
  have hN2 : (N.length : Int) ≤ 65536 := by omega
  have hN0 : 0 ≤ (N.length : Int) := by omega
  have hc2 : c ≤ 9223372036854775807 ∧ -9223372036854775808 ≤ c := by
    simpa [Lit.wf, IntKind.min, IntKind.max, IntKind.signed, IntKind.bits, and_comm] using hc
  have hf2 : f ≤ 9223372036854775807 ∧ -9223372036854775808 ≤ f := by
    simpa [Lit.wf, IntKind.min, IntKind.max, IntKind.signed, IntKind.bits, and_comm] using hf
  obtain ⟨hc3, hc4⟩ := hc2
  clear h hf hc
  generalize (N.length : Int) = n at *
  by_cases h1 : f < 0
  · have h1' : ¬ 0 ≤ f := by omega
    have h1'' : decide (0 ≤ f) = false := by simpa using h1
    go_enter Tryd.func33, Tryd.ntmps33
    go_wp2
    go_ret
    exact ⟨rfl, rfl⟩
  · have h1' : 0 ≤ f := by omega
    by_cases h2 : c < 3
    · have h2' : ¬ 2 < c := by omega
      have h2'' : decide (2 < c) = false := by simp; omega
      clear hno
      go_enter Tryd.func33, Tryd.ntmps33
      go_wp2
      go_ret
      exact ⟨rfl, rfl⟩
    · have h2' : 2 < c := by omega
      have h3 : ¬ f ≤ n - c := by omega
      have h3'' : decide (f ≤ n - c) = false := by simpa using h3
      clear hno
      go_enter Tryd.func33, Tryd.ntmps33
      go_wp2_with (go_at_call 56; refine (H.out _ rfl).mono ?_; rintro e w1 ⟨rfl, rfl⟩)
      go_ret
      exact ⟨rfl, rfl⟩
theorem format_no (w : World) (d : Option Addr) (f c : Int) (hf : Calls Tryd.prog 33 #[.pointer d, .int .i64 f, .int .i64 c] w fun e w' => e = .returned (.bool false) ∧ w = w') :
    Calls Tryd.prog 32 #[.pointer d, .int .i64 f, .int .i64 c] w fun e w' => e = .returned (.int .i64 1) ∧ w = w' := by
  have H := Lib.hid hf
  clear hf
  go_enter Tryd.func32, Tryd.ntmps32
  go_wp2_with (go_at_call 33; refine H.out.mono ?_; rintro e w1 ⟨rfl, rfl⟩)
  go_ret
  exact ⟨rfl, rfl⟩
theorem open_no (w : World) (d : Option Addr) (f c : Int) (hf : Calls Tryd.prog 33 #[.pointer d, .int .i64 f, .int .i64 c] w fun e w' => e = .returned (.bool false) ∧ w = w') :
    Calls Tryd.prog 14 #[.pointer d, .int .i64 f, .int .i64 c] w fun e w' => e = .returned (.tuple #[.pointer none, .slice none 0 0, .int .i64 1]) ∧ w = w' := by
  have H := Lib.hid hf
  clear hf
  go_enter Tryd.func14, Tryd.ntmps14
  go_wp2_with (go_at_call 33; refine H.out.mono ?_; rintro e w1 ⟨rfl, rfl⟩)
  go_ret3
  exact ⟨rfl, rfl⟩
set_option maxHeartbeats 1000000 in
theorem append_full (w : World) (g p n cap : Nat) (a : Option Addr) (s : LSt) (hl : LogAt w g p s) (hn : n ≤ 16777216) (hu : s.used ≤ s.c) (hc : s.c ≤ 30000) (hfull : roomL s < (n : Int)) :
    Calls Tryd.prog 8 #[.pointer (some ⟨g, 0, none⟩), .slice a n cap] w fun e w' => e = .returned (.int .i64 7) ∧ Below w.heap.size w w' := by
  have HB1 : Hid (Below w.heap.size w (w.alloc (.cells #[.pointer (some ⟨g, 0, none⟩)] 25))) := Lib.hid ((Below.refl _ _).alloc (Nat.le_refl _) _)
  have HR := Lib.hid (room_any _ g p s (hl.below HB1.out) hu hc)
  have hR3i : (n : Int) ≤ 16777216 := by omega
  generalize roomL s = r at *
  clear hl
  go_enter Tryd.func8, Tryd.ntmps8
  go_wp2_with (go_at_call 11; refine HR.out.mono ?_; rintro e w1 ⟨rfl, k, rfl⟩)
  go_ret
  exact ⟨rfl, Below.step (below_dN _ k) HB1.out HB1.out.size⟩
end Go.Proofs.YtcmnfbpmkndfkaaDoor
namespace Go.Proofs.YtcmnfbpmkndfkaaDoor
open Go.ChangeShapes Go.WideShapes Go.ChangeAt Go.RowKit Go.Deep
set_option linter.unusedVariables false
set_option maxRecDepth 100000

/-- a fresh log, with some records -/
structure Lg (w wr : World) (p g : Nat) (F : Nat → Prop) (s : LSt) (N : List ByteArray) (m : Nat) : Prop where
  log : LogAt wr g p s
  disk : Qd wr F p N m
  notF : ¬ F g
  new : ∀ j, F j → w.heap.size ≤ j
  newG : w.heap.size ≤ g
  below : Below w.heap.size w wr
  len : N.length = 18
  at_ : s.f = 2 ∧ s.c = 14
  head : s.head ≤ 1
  age : s.age ≤ 2
  used : 2 ≤ s.used ∧ s.used ≤ 14
  num : s.number + 2 ≤ s.used
theorem Lg.to {w wr wr' : World} {p g m : Nat} {F : Nat → Prop} {s : LSt} {N : List ByteArray} (h : Lg w wr p g F s N m) (hb : Below wr.heap.size wr wr') : Lg w wr' p g F s N m :=
  ⟨h.log.below hb, h.disk.below hb, h.notF, h.new, h.newG, Below.step hb h.below h.below.size, h.len, h.at_, h.head, h.age, h.used, h.num⟩
theorem Fresh.lg {w w' : World} {p g : Nat} {F : Nat → Prop} (h : Fresh w w' p g F) : Lg w w' p g F s18 N18 17 :=
  ⟨h.log, h.disk, h.notF, h.new, h.newG, h.below, N18_length, ⟨rfl, rfl⟩, Nat.zero_le _, (by decide : (1 : Nat) ≤ 2), ⟨Nat.le_refl _, (by decide : (2 : Nat) ≤ 14)⟩, (by decide : (0 : Nat) + 2 ≤ 2)⟩
theorem lg_append (w wr : World) (p g m n cap : Nat) (F : Nat → Prop) (a : Option Addr) (s : LSt) (N : List ByteArray) (B : List Nat) (h : Lg w wr p g F s N m) (hB : ByteRow wr a n B) (hnc : n ≤ cap) (hcm : cap ≤ maxLen) (ha : 0 < n → ∀ x, a = some x → ¬ F x.block ∧ x.block ≠ g) (hn : n ≤ 16777216) (hm : m ≤ 500000) (ht : Cr.Tab w) :
    Calls Tryd.prog 8 #[.pointer (some ⟨g, 0, none⟩), .slice a n cap] wr fun e w' => ∃ r s' F' N', e = .returned (.int .i64 r) ∧ ((r = 0 ∧ s.used + (1 + sectorsN n) ≤ 14 ∧ s'.used = s.used + (1 + sectorsN n)) ∨ (r = 7 ∧ 14 < s.used + (1 + sectorsN n) ∧ s' = s)) ∧ s'.age = s.age ∧ Lg w w' p g F' s' N' (m + 20) := by
  obtain ⟨e1, e2⟩ := h.at_
  have hu := h.used
  have hnum := h.num
  have hage := h.age
  have hs := h.below.size
  have hq : 0 < w.heap.size := cell_lt (ht 0 (by decide))
  by_cases hroom : s.used + (1 + sectorsN n) ≤ s.c
  · refine (append_ok wr F g p m n cap a s N B h.disk h.log h.notF hB hnc hcm ha hroom (by omega) (by rw [h.len]; omega) (by rw [h.len]; decide) (by omega) (by omega) (by omega) (Cr.Tab.below ht h.below) (fun hF => by have := h.new _ hF; omega)).mono ?_
    rintro e w' ⟨rfl, hl', ⟨F', hq', hs'⟩, ho⟩
    have hon : ∀ j, (F j ∨ j = g) → w.heap.size ≤ j := fun j hj => by
      rcases hj with hj | hj
      · exact h.new j hj
      · rw [hj]; exact h.newG
    refine ⟨0, s.passed n, F', appN N s B, rfl, .inl ⟨rfl, by omega, rfl⟩, rfl, hl', hq'.more (by omega), fun hg => (hs' _ hg).2 rfl, fun j hj => ?_, h.newG, h.below.trans (ho.below hs hon), by rw [appN_length]; exact h.len, h.at_, h.head, h.age, ⟨by show 2 ≤ s.used + (1 + sectorsN n); omega, by show s.used + (1 + sectorsN n) ≤ 14; omega⟩, by show s.number + 1 + 2 ≤ s.used + (1 + sectorsN n); omega⟩
    rcases (hs' j hj).1 with h1 | h1
    · exact h.new j h1
    · omega
  · have hfull : roomL s < (n : Int) := by
      unfold roomL
      unfold sectorsN at hroom
      split
      · omega
      · omega
    refine (append_full wr g p n cap a s h.log hn (by omega) (by omega) hfull).mono ?_
    rintro e w' ⟨rfl, hb⟩
    have h' := h.to hb
    exact ⟨7, s, F, N, rfl, .inr ⟨rfl, by omega, rfl⟩, rfl, h'.log, h'.disk.more (by omega), h'.notF, h'.new, h'.newG, h'.below, h'.len, h'.at_, h'.head, h'.age, h'.used, h'.num⟩
theorem make_len (n : Nat) (hn : n ≤ 70368744177664) (u : World) : (Instr.makeSlice 34 (.int .i64 (n : Int)) (.int .i64 (n : Int))).run Tryd.prog u = .ok (.slice (some ⟨u.heap.size, 0, none⟩) n n) (u.alloc (.cells (madeCells #[.int .u8 0] n) 5)) := by
  obtain ⟨i0, hi, hz0, hz1, hz2⟩ := info_parts Cr.info5
  have h := run_make (P := Tryd.prog) u 34 5 i0 (.int .u8 0) Tryd.underlying34 hi hz0 .i64 .i64 (n : Int) (n : Int) (by omega) (by omega) (by rw [hz2]; omega) (by omega)
  have e : ((n : Int)).toNat = n := by omega
  rw [e] at h
  simpa [hz1, Value.cells] using h
theorem made_row (n : Nat) (hn : n ≤ maxLen) (u : World) : ByteRow (u.alloc (.cells (madeCells #[.int .u8 0] n) 5)) (some ⟨u.heap.size, 0, none⟩) n (List.replicate n 0) := by
  refine ⟨List.length_replicate, hn, fun c hc => by rw [List.eq_of_mem_replicate hc]; decide, fun _ => ⟨_, 0, rfl, fun i hi => ?_⟩⟩
  have e : (madeCells #[.int .u8 0] n)[i]? = some (Value.int .u8 0) := by
    simp [madeCells, hi, Nat.mod_one]
  rw [Nat.zero_add, Cr.cell_new u _ _ _ _ i _ rfl e]
  congr 2
  rw [List.getD_eq_getElem?_getD, List.getElem?_replicate, if_pos hi]
  rfl
/-- a struct's one-cell fields, read one by one -/
theorem fields_of {H : Type} {enc : TypeId × Value → H} {P : Program} {w : World} {base : Nat} {spare : Nat → Bool} {held : Bool} {e : TypeId} {fs : Array Field} {fuel : Nat} {ad : Addr} {cs : List Value} {x : DataW H × List MemPlace}
    (he : P.underlying e = some (.struct fs)) (hone : ∀ (j : Nat) (f : Field), fs[j]? = some f → f.offset = j ∧ P.cellsOf f.type = 1) (hc : w.cells? base ad fs.size = some cs) (h : DataW.trod enc P w base spare held fuel e cs = some x) (j : Nat) (f : Field) (hj : fs[j]? = some f) :
    ∃ v y n, w.cell? (ad.add j) = some v ∧ DataW.trod enc P w base spare held n f.type [v] = some y := by
  obtain ⟨ys, n, _, _, _, hyl, hg⟩ := DataW.trod_struct he h
  obtain ⟨_, hcl, hat⟩ := World.cells?_some hc
  obtain ⟨ho, hk⟩ := hone j f hj
  have hjl : j < fs.size := (Array.getElem?_eq_some_iff.1 hj).1
  have hjc : j < cs.length := by omega
  have h1 := hg j f hj
  rw [ho, hk, List.drop_eq_getElem_cons hjc] at h1
  have h2 : DataW.trod enc P w base spare held n f.type [cs[j]] = ys[j]? := h1
  have hjy : j < ys.length := by omega
  rw [List.getElem?_eq_getElem hjy] at h2
  exact ⟨cs[j], ys[j], n, by rw [hat j hjl, List.getElem?_eq_getElem hjc], h2⟩

/-- what is read of an entry: its bytes -/
def EntryRow (w : World) (a : Option Addr) (n : Nat) (ts : Nat → Option Addr × Nat × Nat × List Nat) : Prop :=
  n ≤ maxLen ∧ (0 < n → ∃ b o, a = some ⟨b, o, none⟩ ∧ ∀ i, i < n → w.cell? ⟨b, o + i * 3 + 1, none⟩ = some (.slice (ts i).1 (ts i).2.1 (ts i).2.2.1) ∧ ByteRow w (ts i).1 (ts i).2.1 (ts i).2.2.2 ∧ (ts i).2.1 ≤ (ts i).2.2.1 ∧ (ts i).2.2.1 ≤ maxLen)
theorem row_of_trod {H : Type} {enc : TypeId × Value → H} {w : World} {n : Nat} {v : Value} {y : DataW H × List MemPlace} (h : DataW.trod enc Tryd.prog w 0 (fun _ => true) true n 34 [v] = some y) : ∃ (t : Option Addr × Nat × Nat × List Nat), v = .slice t.1 t.2.1 t.2.2.1 ∧ ByteRow w t.1 t.2.1 t.2.2.2 ∧ t.2.1 ≤ t.2.2.1 ∧ t.2.2.1 ≤ maxLen := by
  have hw : ∃ (a : Option Addr) (len cap : Nat) (zs : List Int), v = .slice a len cap ∧ Cr.IsRow .u8 w a len cap zs := by
    rcases open_ints Tryd.underlying34 Tryd.underlying5 (by kernel_rfl) h with ⟨hcs, _⟩ | ⟨x, l, c, zs, hcs, _, hl, hm, hz, _, hcell, hwz⟩
    · exact ⟨none, 0, 0, [], by simpa using hcs, .inl ⟨rfl, rfl, rfl, rfl⟩⟩
    · exact ⟨some x, l, c, zs, by simpa using hcs, .inr ⟨_, rfl, hl, hm, by simpa using hz, hcell, hwz⟩⟩
  obtain ⟨a, len, cap, zs, rfl, hr⟩ := hw
  obtain ⟨L, h1, h2, h3⟩ := Cr.row_bytes hr
  exact ⟨(a, len, cap, L), rfl, h1, h2, h3⟩
theorem entries_of {H : Type} {enc : TypeId × Value → H} {w : World} {a : Option Addr} {len cap : Nat} {d : DataW H} {p : List MemPlace} (h : DataW.Trod enc Tryd.prog w 0 (fun _ => true) true 22 (.slice a len cap) d p) : ∃ ts, EntryRow w a len ts := by
  obtain ⟨fuel, hf⟩ := h
  rcases open_slice Tryd.underlying22 hf with ⟨hcs, _⟩ | ⟨x, l, c, m, n, D, Pl, hcs, _, hl, hm, hmm, _, hi⟩
  · simp [Value.cells] at hcs
    obtain ⟨rfl, rfl, rfl⟩ := hcs
    exact ⟨fun _ => (none, 0, 0, []), Nat.zero_le _, fun h => by omega⟩
  · simp [Value.cells] at hcs
    obtain ⟨rfl, rfl, rfl⟩ := hcs
    simp only [if_true] at hmm
    subst hmm
    have hC : Tryd.prog.cellsOf 36 = 3 := by kernel_rfl
    rw [hC] at hi
    have hall : ∀ i, i < len → ∃ t : Option Addr × Nat × Nat × List Nat, (∃ u, w.cell? (x.add (i * 3)) = some u) ∧ w.cell? ((x.add (i * 3)).add 1) = some (.slice t.1 t.2.1 t.2.2.1) ∧ ByteRow w t.1 t.2.1 t.2.2.2 ∧ t.2.1 ≤ t.2.2.1 ∧ t.2.2.1 ≤ maxLen := by
      intro i hil
      obtain ⟨cs', hc, ht⟩ := hi i (by omega)
      have hF := fields_of Tryd.underlying36 (hone_of (by kernel_rfl)) hc ht
      obtain ⟨v0, y0, n0, c0, t0⟩ := hF 0 _ rfl
      obtain ⟨v1, y1, n1, c1, t1⟩ := hF 1 _ rfl
      obtain ⟨t, rfl, h1, h2, h3⟩ := row_of_trod t1
      exact ⟨t, ⟨v0, by simpa [Addr.add] using c0⟩, c1, h1, h2, h3⟩
    obtain ⟨ts, hts⟩ : ∃ ts : Nat → Option Addr × Nat × Nat × List Nat, ∀ i, i < len → (∃ u, w.cell? (x.add (i * 3)) = some u) ∧ w.cell? ((x.add (i * 3)).add 1) = some (.slice (ts i).1 (ts i).2.1 (ts i).2.2.1) ∧ ByteRow w (ts i).1 (ts i).2.1 (ts i).2.2.2 ∧ (ts i).2.1 ≤ (ts i).2.2.1 ∧ (ts i).2.2.1 ≤ maxLen :=
      ⟨fun i => if h : i < len then Classical.choose (hall i h) else (none, 0, 0, []), fun i h => by
        simp only [dif_pos h]
        exact Classical.choose_spec (hall i h)⟩
    refine ⟨ts, by omega, fun h0 => ?_⟩
    obtain ⟨b, off, spot⟩ := x
    obtain ⟨u0, hc0⟩ := (hts 0 h0).1
    have hspot : spot = none := by simpa [Addr.add] using World.cell?_spot hc0
    subst hspot
    refine ⟨b, off, rfl, fun i hil => ?_⟩
    obtain ⟨_, c1, h1, h2, h3⟩ := hts i hil
    have e1 : (⟨b, off, none⟩ : Addr).add (i * 3) = ⟨b, off + i * 3, none⟩ := Cr.addr_add b off (i * 3)
    rw [e1] at c1
    exact ⟨by simpa [Addr.add] using c1, h1, h2, h3⟩
theorem EntryRow.at_ {w : World} {a : Option Addr} {n : Nat} {ts : Nat → Option Addr × Nat × Nat × List Nat} (h : EntryRow w a n ts) {k : Nat} (hk : k < n) :
    ∃ b o : Nat, b < w.heap.size ∧ w.cell? ⟨b, o + 1, none⟩ = some (.slice (ts k).1 (ts k).2.1 (ts k).2.2.1) ∧ ByteRow w (ts k).1 (ts k).2.1 (ts k).2.2.2 ∧ (ts k).2.1 ≤ (ts k).2.2.1 ∧ (ts k).2.2.1 ≤ maxLen ∧ ∀ (cap : Nat) (W : World), (Instr.indexAt 22 (.slice a n cap) (.int .i64 (k : Int))).run Tryd.prog W = .ok (.pointer (some ⟨b, o, none⟩)) W := by
  obtain ⟨_, h4⟩ := h
  obtain ⟨b, o, rfl, hc⟩ := h4 (by omega)
  obtain ⟨c1, c2, c3, c4⟩ := hc k hk
  refine ⟨b, o + k * 3, cell_lt c1, c1, c2, c3, c4, fun cap W => ?_⟩
  have h1 : (0 : Int) ≤ (k : Int) := by omega
  have h2 : (k : Int) < (n : Int) := by omega
  clear hc h4 c1 c2 c3 c4
  go_simp
end Go.Proofs.YtcmnfbpmkndfkaaDoor
namespace Go.Proofs.YtcmnfbpmkndfkaaDoor
open Go.ChangeShapes Go.WideShapes Go.ChangeAt Go.RowKit
set_option linter.unusedVariables false
set_option maxRecDepth 100000

def secAt (N : List ByteArray) (i : Nat) : List Nat := bytesOf (N.getD i ⟨#[]⟩)
theorem secAt_lt (N : List ByteArray) (i : Nat) : ∀ c ∈ secAt N i, c < 256 := bytesOf_lt _
def partAt (N : List ByteArray) (at_ n j : Nat) : List Nat := ((secAt N (at_ + j)).drop 1).take (min (n - 511 * j) 511)
theorem good_or_bad (N : List ByteArray) (at_ n : Nat) (hsz : ∀ i, i < at_ + sectorsN n → (secAt N i).length = 512) : ∀ k, k ≤ sectorsN n →
    (∃ (j0 : Nat) (B : List Nat), j0 < k ∧ B.length = 511 * j0 ∧ (∀ c ∈ B, c < 256) ∧ (∀ j, j < j0 → secAt N (at_ + j) = bytesL ((B.drop (511 * j)).take 511)) ∧ secAt N (at_ + j0) ≠ bytesL (partAt N at_ n j0)) ∨
    (∃ B : List Nat, B.length = min (511 * k) n ∧ (∀ c ∈ B, c < 256) ∧ ∀ j, j < k → secAt N (at_ + j) = bytesL ((B.drop (511 * j)).take 511)) := by
  intro k
  induction k with
  | zero => intro _; exact .inr ⟨[], by simp, fun c hc => (List.not_mem_nil hc).elim, fun j hj => absurd hj (Nat.not_lt_zero _)⟩
  | succ k ih =>
    intro hk
    rcases ih (by omega) with ⟨j0, B, h1, h2⟩ | ⟨B, h1, h2, h3⟩
    · exact .inl ⟨j0, B, by omega, h2⟩
    · have hkn : 511 * k < n := by unfold sectorsN at hk; omega
      have hBl : B.length = 511 * k := by omega
      have hpl : (partAt N at_ n k).length = min (n - 511 * k) 511 := by
        unfold partAt
        rw [List.length_take, List.length_drop, hsz _ (by omega)]
        omega
      by_cases hg : secAt N (at_ + k) = bytesL (partAt N at_ n k)
      · refine .inr ⟨B ++ partAt N at_ n k, by rw [List.length_append, hBl, hpl]; omega, fun c hc => ?_, fun j hj => ?_⟩
        · rcases List.mem_append.1 hc with hc | hc
          · exact h2 c hc
          · exact secAt_lt _ _ c (List.mem_of_mem_drop (List.mem_of_mem_take hc))
        · rcases Nat.lt_or_ge j k with hjk | hjk
          · rw [h3 j hjk, List.drop_append_of_le_length (by omega), List.take_append_of_le_length (by rw [List.length_drop]; omega)]
          · obtain rfl : j = k := by omega
            rw [List.drop_append_of_le_length (by omega), List.drop_eq_nil_of_le (by omega), List.nil_append, List.take_of_length_le (by omega)]
            exact hg
      · exact .inl ⟨k, B, Nat.lt_succ_self _, hBl, h2, h3, hg⟩
/-- a record stands there, or none does -/
theorem rec_total {N : List ByteArray} {s : LSt} (hsz : ∀ i, i < N.length → (secAt N i).length = 512) (hu : s.used ≤ s.c) (hc : s.c ≤ 30000) (hf : s.f + s.c ≤ N.length) : NoRec N s ∨ ∃ B, IsRec N s B := by
  by_cases he : s.used = s.c
  · exact .inl (.inl he)
  have hu : s.used < s.c := by omega
  obtain ⟨n1, l1, e1, h1⟩ : ∃ n1 l1 e1, Wr.readNum (s.age : Int) (s.age : Int) ((s.start N).drop 1) 0 = (n1, l1, e1) := ⟨_, _, _, rfl⟩
  obtain ⟨n2, l2, e2, h2⟩ : ∃ n2 l2 e2, Wr.readNum (s.number : Int) (s.number : Int) l1 e1 = (n2, l2, e2) := ⟨_, _, _, rfl⟩
  obtain ⟨n3, l3, e3, h3⟩ : ∃ n3 l3 e3, Wr.readNum 0 (((s.c - s.used - 1) * 511 : Nat) : Int) l2 e2 = (n3, l3, e3) := ⟨_, _, _, rfl⟩
  by_cases he3 : e3 = 0
  · subst he3
    obtain ⟨hn0, hn1⟩ := readNum_le h3
    obtain ⟨n, rfl⟩ : ∃ n : Nat, n3 = n := ⟨n3.toNat, by omega⟩
    have hnk : n ≤ (s.c - s.used - 1) * 511 := by omega
    have hsec : s.f + s.used + 1 + sectorsN n ≤ N.length := by unfold sectorsN; omega
    rcases good_or_bad N (s.f + s.used + 1) n (fun i hi => hsz i (by omega)) (sectorsN n) (Nat.le_refl _) with ⟨j0, B, g1, g2, g3, g4, g5⟩ | ⟨B, g1, g2, g3⟩
    · exact .inl (.inr (.inr (.inl ⟨hu, n, j0, B, ⟨l1, l2, l3, e1, e2, n1, n2, h1, h2, h3⟩, g2, by unfold sectorsN at g1; omega, g3, g4, g5⟩)))
    · have hBn : B.length = n := by unfold sectorsN at g1; omega
      have hP : Parts N (s.f + s.used + 1) B := fun j hj => by
        have hjs : j < sectorsN n := by unfold sectorsN; omega
        exact ⟨by omega, g3 j hjs⟩
      by_cases hst : s.start N = startL (s.age : Int) (s.number : Int) B
      · exact .inr ⟨B, hu, by omega, g2, hP, hst, l1, l2, l3, e1, e2, n1, n2, h1, h2, by rw [hBn]; exact h3⟩
      · exact .inl (.inr (.inr (.inr ⟨hu, B, ⟨l1, l2, l3, e1, e2, n1, n2, h1, h2, by rw [hBn]; exact h3⟩, g2, hP, hst⟩)))
  · exact .inl (.inr (.inl ⟨hu, l1, l2, l3, e1, e2, e3, n1, n2, n3, h1, h2, h3, by simpa using he3⟩))
/-- some records stand there -/
theorem recs_total {N : List ByteArray} (hsz : ∀ i, i < N.length → (secAt N i).length = 512) : ∀ (k : Nat) (s : LSt), s.c - s.used ≤ k → s.used ≤ s.c → s.c ≤ 30000 → s.f + s.c ≤ N.length → ∃ R, Recs N s R := by
  intro k
  induction k with
  | zero =>
    intro s h1 h2 h3 h4
    exact ⟨[], .inl (by omega)⟩
  | succ k ih =>
    intro s h1 h2 h3 h4
    rcases rec_total hsz h2 h3 h4 with h | ⟨B, h⟩
    · exact ⟨[], h⟩
    · have hus := isrec_used h
      obtain ⟨R, hR⟩ := ih (s.passed B.length) (by show s.c - (s.used + (1 + sectorsN B.length)) ≤ k; omega) (by show s.used + (1 + sectorsN B.length) ≤ s.c; omega) h3 h4
      exact ⟨B :: R, h, hR⟩
end Go.Proofs.YtcmnfbpmkndfkaaDoor
