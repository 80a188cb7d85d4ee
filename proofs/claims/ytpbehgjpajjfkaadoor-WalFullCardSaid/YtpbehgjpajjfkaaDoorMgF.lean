/-
  Texts put together: WalU, WalV, WalW.
-/
import Derived.Test.YtpbehgjpajjfkaaDoorMgE
import Derived.Test.YtpbehgjpajjfkaaDoorMgR
import Derived.Lib.SlBytesConst
namespace Go.Proofs.YtpbehgjpajjfkaaDoor
open Go.ChangeShapes Go.WideShapes Go.ChangeAt Go.RowKit
set_option linter.unusedVariables false
set_option maxRecDepth 100000

theorem dec_code (n : Int) (h1 : -9223372036854775808 ≤ n) (h2 : n ≤ 9223372036854775807) (R : List Nat) : Wr.dec 0 0 (Wr.code n ++ R) = (Wr.zig n, (Wr.code n).length, 0) := by
  have hz := Wr.zig_lt n h1 h2
  have h := Wr.dec_enc 10 0 0 (Wr.zig n) R rfl (by omega) (.inl rfl)
  unfold Wr.code
  rw [h]
  refine Prod.ext ?_ (Prod.ext ?_ rfl)
  · show 0 + Wr.zig n * 2 ^ (7 * 0) = Wr.zig n
    omega
  · exact Nat.zero_add _
theorem readNum_code (least most n : Int) (h1 : -9223372036854775808 ≤ n) (h2 : n ≤ 9223372036854775807) (g1 : least ≤ n) (g2 : n ≤ most) (R : List Nat) : Wr.readNum least most (Wr.code n ++ R) 0 = (n, R, 0) := by
  unfold Wr.readNum
  rw [dec_code n h1 h2 R, if_neg (by decide), if_neg (fun h => h rfl), Wr.unz_zig, if_neg (by omega), List.drop_left]
theorem readNum_other (least most n : Int) (h1 : -9223372036854775808 ≤ n) (h2 : n ≤ 9223372036854775807) (g : n < least ∨ most < n) (R : List Nat) : (Wr.readNum least most (Wr.code n ++ R) 0).2.2 = 4 := by
  unfold Wr.readNum
  rw [dec_code n h1 h2 R, if_neg (by decide), if_neg (fun h => h rfl), Wr.unz_zig, if_pos (by omega)]
theorem readNum_zeros (least most : Int) (k : Nat) (g : 0 < least ∨ most < 0) : Wr.readNum least most (List.replicate (k + 1) 0) 0 = (0, List.replicate (k + 1) 0, 4) := by
  have h : Wr.code 0 = [0] := by decide
  have e : List.replicate (k + 1) 0 = Wr.code 0 ++ List.replicate k 0 := by rw [h]; rfl
  unfold Wr.readNum
  rw [e, dec_code 0 (by decide) (by decide), if_neg (by decide), if_neg (fun h => h rfl), Wr.unz_zig, if_pos (by omega)]
theorem readNum_err (least most : Int) (l : List Nat) (e : Int) (he : e ≠ 0) : Wr.readNum least most l e = (0, l, e) := by
  unfold Wr.readNum
  rw [if_pos he]
/-- where no number of this age stands no record does -/
theorem noRec_bad {N : List ByteArray} {s : LSt} (hu : s.used < s.c) (hb : (Wr.readNum (s.age : Int) (s.age : Int) ((s.start N).drop 1) 0).2.2 ≠ 0) : NoRec N s := by
  obtain ⟨n1, l1, e1, h1⟩ : ∃ n1 l1 e1, Wr.readNum (s.age : Int) (s.age : Int) ((s.start N).drop 1) 0 = (n1, l1, e1) := ⟨_, _, _, rfl⟩
  rw [h1] at hb
  have he : e1 ≠ 0 := hb
  exact .inr ⟨hu, l1, l1, l1, e1, e1, e1, n1, 0, 0, h1, readNum_err _ _ _ _ he, readNum_err _ _ _ _ he, by simpa using he⟩
theorem padL_cons (x : Nat) (l : List Nat) : (padL (x :: l)).drop 1 = l ++ List.replicate (512 - (l.length + 1)) 0 := rfl
theorem four_lt (n : Nat) (h : n < 4294967296) : ∀ c ∈ Cr.four n, c < 256 := by
  intro c hc
  unfold Cr.four at hc
  simp only [List.mem_cons, List.not_mem_nil, or_false] at hc
  omega
theorem sum_lt (l : List Nat) (h : ∀ c ∈ l, c < 256) : Cr.sum l < 4294967296 := Cr.more_lt _ _ (by decide) h
theorem closedL_lt (l : List Nat) (h : ∀ c ∈ l, c < 256) : ∀ c ∈ closedL l, c < 256 := by
  intro c hc
  unfold closedL at hc
  rcases List.mem_append.1 hc with hc | hc
  · exact h c hc
  · exact four_lt _ (sum_lt l h) c hc
theorem headL_lt (a : Int) : ∀ c ∈ headL a, c < 256 := padL_lt _ (closedL_lt _ (fun c hc => by
  rcases List.mem_cons.1 hc with rfl | hc
  · decide
  · rcases List.mem_cons.1 hc with rfl | hc
    · decide
    · exact code_lt _ c hc))
theorem startL_lt (a n : Int) (B : List Nat) : ∀ c ∈ startL a n B, c < 256 := padL_lt _ (fun c hc => by
  rcases List.mem_cons.1 hc with rfl | hc
  · decide
  · refine closedL_lt _ (fun c hc => ?_) c hc
    unfold recL at hc
    simp only [List.mem_append] at hc
    rcases hc with ((hc | hc) | hc) | hc <;> exact code_lt _ c hc)
theorem bytesL_lt (C : List Nat) (h : ∀ c ∈ C, c < 256) : ∀ c ∈ bytesL C, c < 256 := padL_lt _ (fun c hc => by
  rcases List.mem_cons.1 hc with rfl | hc
  · decide
  · exact h c hc)
/-- a head's sector tells its age -/
theorem hage_head (a : Nat) (h0 : 1 ≤ a) (h1 : a < 4611686018427387904) : hageL (headL (a : Int)) = (a : Int) := by
  have e : (headL (a : Int)).drop 2 = Wr.code (a : Int) ++ (Cr.four (Cr.sum (76 :: 71 :: Wr.code (a : Int))) ++ List.replicate (512 - (closedL (76 :: 71 :: Wr.code (a : Int))).length) 0) := by
    unfold headL padL
    show (closedL (76 :: 71 :: Wr.code (a : Int)) ++ _).drop 2 = _
    unfold closedL
    show (Wr.code (a : Int) ++ Cr.four _) ++ _ = _
    rw [List.append_assoc]
  unfold hageL
  rw [e, readNum_code 1 9223372036854775807 (a : Int) (by omega) (by omega) (by omega) (by omega), if_pos rfl]
theorem bytes_blank : bytesOf blank = List.replicate 512 0 := bytesOf_bstr _ (fun c hc => by rw [List.eq_of_mem_replicate hc]; decide)
theorem hage_blank : hageL (bytesOf blank) = 0 := by
  rw [bytes_blank]
  unfold hageL
  rw [show (List.replicate 512 0).drop 2 = List.replicate (509 + 1) 0 from rfl, readNum_zeros _ _ _ (.inl (by decide))]
  split <;> rfl
/-! ### The sectors behind Append -/
theorem partsK_length (N : List ByteArray) (at_ : Nat) (B : List Nat) (k : Nat) : (partsK N at_ B k).length = N.length := by
  induction k with
  | zero => rfl
  | succ k ih => show ((partsK N at_ B k).set _ _).length = _; rw [List.length_set, ih]
theorem partsK_out (N : List ByteArray) (at_ : Nat) (B : List Nat) (k i : Nat) (d : ByteArray) (h : i < at_ ∨ at_ + k ≤ i) : (partsK N at_ B k).getD i d = N.getD i d := by
  induction k with
  | zero => rfl
  | succ k ih =>
    show ((partsK N at_ B k).set _ _).getD i d = _
    rw [getD_set_ne _ _ _ _ _ (by omega), ih (by omega)]
theorem partsK_in (N : List ByteArray) (at_ : Nat) (B : List Nat) (k j : Nat) (d : ByteArray) (hj : j < k) (hN : at_ + k ≤ N.length) : (partsK N at_ B k).getD (at_ + j) d = partSec B j := by
  induction k with
  | zero => omega
  | succ k ih =>
    show ((partsK N at_ B k).set _ _).getD (at_ + j) d = _
    by_cases e : j = k
    · subst e
      rw [getD_set_eq _ _ _ _ (by rw [partsK_length]; omega)]
    · rw [getD_set_ne _ _ _ _ _ (by omega), ih (by omega) (by omega)]
theorem appN_length (N : List ByteArray) (s : LSt) (B : List Nat) : (appN N s B).length = N.length := by
  unfold appN
  rw [List.length_set, partsK_length]
theorem appN_out (N : List ByteArray) (s : LSt) (B : List Nat) (i : Nat) (d : ByteArray) (h : i < s.f + s.used ∨ s.f + s.used + (1 + sectorsN B.length) ≤ i) : (appN N s B).getD i d = N.getD i d := by
  unfold appN
  rw [getD_set_ne _ _ _ _ _ (by omega), partsK_out _ _ _ _ _ _ (by omega)]
theorem appN_start (N : List ByteArray) (s : LSt) (B : List Nat) (hN : s.f + s.used < N.length) : s.start (appN N s B) = startL (s.age : Int) (s.number : Int) B := by
  unfold LSt.start appN
  rw [getD_set_eq _ _ _ _ (by rw [partsK_length]; exact hN), bytesOf_bstr _ (startL_lt _ _ _)]
theorem appN_parts (N : List ByteArray) (s : LSt) (B : List Nat) (h256 : ∀ c ∈ B, c < 256) (hN : s.f + s.used + (1 + sectorsN B.length) ≤ N.length) : Parts (appN N s B) (s.f + s.used + 1) B := fun j hj => by
  have hjk : j < sectorsN B.length := by unfold sectorsN; omega
  refine ⟨by rw [appN_length]; omega, ?_⟩
  unfold appN
  rw [getD_set_ne _ _ _ _ _ (by omega), partsK_in _ _ _ _ _ _ hjk (by omega)]
  unfold partSec
  rw [bytesOf_bstr _ (bytesL_lt _ (fun c hc => h256 c (List.mem_of_mem_drop (List.mem_of_mem_take hc))))]
theorem startL_drop (a n : Int) (B : List Nat) : ∃ R, (startL a n B).drop 1 = Wr.code a ++ (Wr.code n ++ (Wr.code (B.length : Int) ++ R)) := by
  refine ⟨Wr.code ((Cr.sum B : Nat) : Int) ++ (Cr.four (Cr.sum (recL a n B)) ++ List.replicate (512 - ((closedL (recL a n B)).length + 1)) 0), ?_⟩
  unfold startL
  rw [padL_cons]
  unfold closedL recL
  simp only [List.append_assoc]
/-- what Append writes is a record -/
theorem isRec_app (N : List ByteArray) (s : LSt) (B : List Nat) (h256 : ∀ c ∈ B, c < 256) (hu : s.used + (1 + sectorsN B.length) ≤ s.c) (hc : s.c ≤ 30000) (hN : s.f + s.c ≤ N.length) (hage : s.age < 4611686018427387904) (hnum : s.number ≤ 65536) : IsRec (appN N s B) s B := by
  have hl : B.length ≤ (s.c - s.used - 1) * 511 := by unfold sectorsN at hu; omega
  obtain ⟨R, hR⟩ := startL_drop (s.age : Int) (s.number : Int) B
  have hst := appN_start N s B (by omega)
  refine ⟨by omega, by omega, h256, appN_parts N s B h256 (by omega), hst, Wr.code (s.number : Int) ++ (Wr.code (B.length : Int) ++ R), Wr.code (B.length : Int) ++ R, R, 0, 0, (s.age : Int), (s.number : Int), ?_, ?_, ?_⟩
  · rw [hst, hR]
    exact readNum_code _ _ _ (by omega) (by omega) (by omega) (by omega) _
  · exact readNum_code _ _ _ (by omega) (by omega) (by omega) (by omega) _
  · exact readNum_code _ _ _ (by omega) (by omega) (by omega) (by omega) _
theorem isRec_congr {N N' : List ByteArray} {s : LSt} {B : List Nat} (h : IsRec N s B) (hl : N'.length = N.length) (he : ∀ i d, s.f + s.used ≤ i → i < s.f + s.used + (1 + sectorsN B.length) → N'.getD i d = N.getD i d) : IsRec N' s B := by
  obtain ⟨h1, h2, h3, h4, h5, h6⟩ := h
  have e : s.start N' = s.start N := by unfold LSt.start; rw [he _ _ (Nat.le_refl _) (by omega)]
  refine ⟨h1, h2, h3, fun j hj => ?_, by rw [e]; exact h5, by rw [e]; exact h6⟩
  obtain ⟨h7, h8⟩ := h4 j hj
  refine ⟨by rw [hl]; exact h7, ?_⟩
  rw [he _ _ (by omega) (by unfold sectorsN; omega)]
  exact h8
/-! ### Heads -/
structure Heads (N : List ByteArray) (s : LSt) : Prop where
  here : bytesOf (N.getD (s.f + s.head) ⟨#[]⟩) = headL (s.age : Int)
  other : hageL (bytesOf (N.getD (s.f + (1 - s.head)) ⟨#[]⟩)) < (s.age : Int)
  head : s.head ≤ 1
  pos : 1 ≤ s.age
  small : s.age < 4611686018427387904
theorem try_pos {s : LSt} {k : Nat} {a : Int} (h : (s.age : Int) < a) : s.try_ k a = { s with head := k, age := a.toNat } := if_pos h
theorem try_neg {s : LSt} {k : Nat} {a : Int} (h : ¬ (s.age : Int) < a) : s.try_ k a = s := if_neg h
theorem Heads.found {N : List ByteArray} {s : LSt} (h : Heads N s) : foundL N (openL s.f s.c) 2 = ⟨s.f, s.c, s.head, s.age, 0, 2⟩ := by
  obtain ⟨h1, h2, h3, h4, h5⟩ := h
  have ha := hage_head s.age h4 h5
  rw [← h1] at ha
  have hn := (hage_nn (bytesOf (N.getD (s.f + (1 - s.head)) ⟨#[]⟩))).1
  show ((openL s.f s.c).try_ 0 (hageL (bytesOf (N.getD (s.f + 0) ⟨#[]⟩)))).try_ 1 (hageL (bytesOf (N.getD (s.f + 1) ⟨#[]⟩))) = _
  rcases (show s.head = 0 ∨ s.head = 1 by omega) with e | e
  · rw [e] at ha h2 ⊢
    rw [ha]
    have h2' : hageL (bytesOf (N.getD (s.f + 1) ⟨#[]⟩)) < (s.age : Int) := h2
    rw [try_pos (s := openL s.f s.c) (k := 0) (a := (s.age : Int)) (show ((0 : Nat) : Int) < (s.age : Int) by omega), try_neg (by show ¬ (((s.age : Int).toNat : Nat) : Int) < _; omega)]
    simp [openL]
  · rw [e] at ha h2 hn ⊢
    have h2' : hageL (bytesOf (N.getD (s.f + 0) ⟨#[]⟩)) < (s.age : Int) := h2
    rw [ha]
    by_cases g : (((openL s.f s.c).age : Nat) : Int) < hageL (bytesOf (N.getD (s.f + 0) ⟨#[]⟩))
    · have hn' : 0 ≤ hageL (bytesOf (N.getD (s.f + 0) ⟨#[]⟩)) := hn
      rw [try_pos g, try_pos (by show (((hageL (bytesOf (N.getD (s.f + 0) ⟨#[]⟩))).toNat : Nat) : Int) < _; omega)]
      simp [openL]
    · rw [try_neg g, try_pos (s := openL s.f s.c) (k := 1) (a := (s.age : Int)) (show ((0 : Nat) : Int) < (s.age : Int) by omega)]
      simp [openL]
theorem Heads.congr {N N' : List ByteArray} {s s' : LSt} (h : Heads N s) (hs : s'.f = s.f ∧ s'.head = s.head ∧ s'.age = s.age) (he : ∀ i d, i < s.f + 2 → N'.getD i d = N.getD i d) : Heads N' s' := by
  obtain ⟨h1, h2, h3, h4, h5⟩ := h
  obtain ⟨e1, e2, e3⟩ := hs
  refine ⟨?_, ?_, by rw [e2]; exact h3, by rw [e3]; exact h4, by rw [e3]; exact h5⟩
  · rw [e1, e2, e3, he _ _ (by omega)]; exact h1
  · rw [e1, e2, e3, he _ _ (by omega)]; exact h2
/-- a Truncate's heads -/
theorem Heads.cut {N : List ByteArray} {s : LSt} (h : Heads N s) (hN : s.f + 2 ≤ N.length) (hs : s.age + 1 < 4611686018427387904) : Heads (N.set (s.f + (1 - s.head)) (bstr (headL ((s.age + 1 : Nat) : Int)))) s.cut := by
  obtain ⟨h1, h2, h3, h4, h5⟩ := h
  refine ⟨?_, ?_, by show 1 - s.head ≤ 1; omega, by show 1 ≤ s.age + 1; omega, hs⟩
  · show bytesOf ((N.set _ _).getD (s.f + (1 - s.head)) _) = headL ((s.age + 1 : Nat) : Int)
    rw [getD_set_eq _ _ _ _ (by omega), bytesOf_bstr _ (headL_lt _)]
  · show hageL (bytesOf ((N.set _ _).getD (s.f + (1 - (1 - s.head))) _)) < ((s.age + 1 : Nat) : Int)
    rw [getD_set_ne _ _ _ _ _ (by omega), show 1 - (1 - s.head) = s.head by omega, h1, hage_head _ h4 h5]
    omega
end Go.Proofs.YtpbehgjpajjfkaaDoor
namespace Go.Proofs.YtpbehgjpajjfkaaDoor
open Go.ChangeShapes Go.WideShapes Go.ChangeAt Go.RowKit
set_option linter.unusedVariables false
set_option maxRecDepth 100000

theorem noughtK_in (N : List ByteArray) (f k j : Nat) (d : ByteArray) (hj : j < k) (hN : f + 1 + k ≤ N.length) : (noughtK N f k).getD (f + 1 + j) d = blank := by
  induction k with
  | zero => omega
  | succ k ih =>
    show ((noughtK N f k).set _ _).getD (f + 1 + j) d = _
    by_cases e : j = k
    · subst e
      rw [getD_set_eq _ _ _ _ (by rw [noughtK_length]; omega)]
    · rw [getD_set_ne _ _ _ _ _ (by omega), ih (by omega) (by omega)]
theorem noughtK_out (N : List ByteArray) (f k i : Nat) (d : ByteArray) (h : i ≤ f ∨ f + 1 + k ≤ i) : (noughtK N f k).getD i d = N.getD i d := by
  induction k with
  | zero => rfl
  | succ k ih =>
    show ((noughtK N f k).set _ _).getD i d = _
    rw [getD_set_ne _ _ _ _ _ (by omega), ih (by omega)]
theorem fmtN_length (N : List ByteArray) (f c : Nat) : (fmtN N f c).length = N.length := by
  unfold fmtN
  rw [List.length_set, noughtK_length]
theorem fmtN_out (N : List ByteArray) (f c i : Nat) (d : ByteArray) (h3 : 1 ≤ c) (h : i < f ∨ f + c ≤ i) : (fmtN N f c).getD i d = N.getD i d := by
  unfold fmtN
  rw [getD_set_ne _ _ _ _ _ (by omega), noughtK_out _ _ _ _ _ (by omega)]
theorem fmtN_in (N : List ByteArray) (f c i : Nat) (d : ByteArray) (h1 : f < i) (h2 : i < f + c) (hN : f + c ≤ N.length) : (fmtN N f c).getD i d = blank := by
  unfold fmtN
  rw [getD_set_ne _ _ _ _ _ (by omega)]
  obtain ⟨j, rfl⟩ : ∃ j, i = f + 1 + j := ⟨i - (f + 1), by omega⟩
  exact noughtK_in _ _ _ _ _ (by omega) (by omega)
/-- a log without records -/
def freshL (f c : Nat) : LSt := ⟨f, c, 0, 1, 0, 2⟩
theorem fmt_heads (N : List ByteArray) (f c : Nat) (h3 : 3 ≤ c) (hN : f + c ≤ N.length) : Heads (fmtN N f c) (freshL f c) := by
  refine ⟨?_, ?_, Nat.zero_le _, Nat.le_refl _, (by decide : (1 : Nat) < 4611686018427387904)⟩
  · show bytesOf ((fmtN N f c).getD (f + 0) _) = headL ((1 : Nat) : Int)
    unfold fmtN
    rw [Nat.add_zero, getD_set_eq _ _ _ _ (by rw [noughtK_length]; omega), bytesOf_bstr _ (headL_lt _)]
    rfl
  · show hageL (bytesOf ((fmtN N f c).getD (f + (1 - 0)) _)) < ((1 : Nat) : Int)
    rw [fmtN_in _ _ _ _ _ (by omega) (by omega) hN, hage_blank]
    decide
theorem bad_blank {s : LSt} {N : List ByteArray} (hage : 1 ≤ s.age) (hb : s.start N = bytesOf blank) : (Wr.readNum (s.age : Int) (s.age : Int) ((s.start N).drop 1) 0).2.2 ≠ 0 := by
  rw [hb, bytes_blank, show (List.replicate 512 0).drop 1 = List.replicate (510 + 1) 0 from rfl, readNum_zeros _ _ _ (.inl (by omega))]
  decide
theorem fmt_norec (N : List ByteArray) (f c : Nat) (h3 : 3 ≤ c) (hN : f + c ≤ N.length) : NoRec (fmtN N f c) (freshL f c) :=
  noRec_bad (show 2 < c by omega) (bad_blank (Nat.le_refl _) (by unfold LSt.start; show bytesOf ((fmtN N f c).getD (f + 2) _) = _; rw [fmtN_in _ _ _ _ _ (by omega) (by omega) hN]))
/-- Open of a log, by what its heads say -/
theorem open_heads (w : World) (F : Nat → Prop) (p m : Nat) (s : LSt) (N : List ByteArray) (R : List (List Nat)) (h : Qd w F p N m) (hh : Heads N s) (h3 : 3 ≤ s.c) (hc : s.c ≤ 30000) (hl : s.f + s.c ≤ N.length) (hN : N.length ≤ 65536) (ht : Cr.Tab w) (hr : Recs N ⟨s.f, s.c, s.head, s.age, 0, 2⟩ R) :
    Calls Tryd.prog 17 #[.pointer (some ⟨p, 0, none⟩), .int .i64 (s.f : Int), .int .i64 (s.c : Int)] w fun e w' => ∃ v, e = .returned (.tuple #[.pointer (some ⟨w.heap.size, 0, none⟩), v, .int .i64 0]) ∧ LogAt w' w.heap.size p (LSt.through ⟨s.f, s.c, s.head, s.age, 0, 2⟩ R) ∧ RowsOf w' w.heap.size v R ∧ Below w.heap.size w w' := by
  have e := hh.found
  have hp := hh.pos
  have hs := hh.small
  have h := open_ok w F p m s.f s.c N R h h3 hc hl hN ht (by rw [e]; exact hp) (by rw [e]; exact hs) (by rw [e]; exact ⟨rfl, rfl, rfl, rfl⟩) (by rw [e]; exact hr)
  rw [e] at h
  exact h
theorem qnew (n : Nat) (w : World) (h1 : 1 ≤ n) (hn : n ≤ 65536) :
    Calls Tryd.prog 26 #[.int .i64 (n : Int)] w fun e w' => ∃ p, e = .returned (.tuple #[.pointer (some ⟨p, 0, none⟩), .int .i64 0]) ∧ Qd w' (Gr (fun _ => False) w w') p (List.replicate n blank) 0 ∧ Below w.heap.size w w' := by
  refine (new_any n w h1 hn).mono ?_
  rintro e w' ⟨p, rfl, hd, hb⟩
  refine ⟨p, rfl, ⟨_, hd, rfl, rfl, rfl, rfl, ?_, app_new n, Int.le_refl _, Int.le_refl _, Nat.le_refl _⟩, hb⟩
  show Good _ (List.replicate n blank).length
  rw [List.length_replicate]
  exact good_new n
def blank18 : List ByteArray := List.replicate 18 blank
theorem blank18_length : blank18.length = 18 := List.length_replicate
def N18 : List ByteArray := fmtN blank18 2 14
def s18 : LSt := freshL 2 14
theorem N18_length : N18.length = 18 := by unfold N18; rw [fmtN_length, blank18_length]
/-- what fresh makes: a disk at p, a log at g, all of them new -/
structure Fresh (w w' : World) (p g : Nat) (F : Nat → Prop) : Prop where
  disk : Qd w' F p N18 17
  log : LogAt w' g p s18
  notF : ¬ F g
  new : ∀ k, F k → w.heap.size ≤ k
  below : Below w.heap.size w w'
  newG : w.heap.size ≤ g
set_option maxHeartbeats 1000000 in
theorem fresh_any (w : World) (ht : Cr.Tab w) :
    Calls Tryd.prog 15 #[] w fun e w' => ∃ p g F, e = .returned (.tuple #[.pointer (some ⟨p, 0, none⟩), .pointer (some ⟨g, 0, none⟩), .bool true]) ∧ Fresh w w' p g F := by
  have HN := Lib.hid (qnew 18 w (by decide) (by decide))
  have HT := Lib.hid ht
  have hq : 0 < w.heap.size := cell_lt (ht 0 (by decide))
  clear ht
  go_enter Tryd.func15, Tryd.ntmps15
  go_wp2_with (go_at_call 26; refine HN.out.mono ?_; rintro e w1 ⟨p, rfl, hq1, hb⟩; have HQ1 := Lib.hid hq1; have HB1 := Lib.hid hb; clear hq1 hb)
  have hF1 : ¬ Gr (fun _ => False) w w1 0 := gr_new (fun h => h) hq
  have HFm := Lib.hid (format_any w1 (Gr (fun _ => False) w w1) p 0 2 14 blank18 HQ1.out (by decide) (by rw [blank18_length]; decide) (by rw [blank18_length]; decide) (by decide) (Cr.Tab.below HT.out HB1.out) hF1)
  go_wp2_with (first
    | (go_at_call 27; refine HFm.out.mono ?_; rintro e w2 ⟨rfl, ⟨F2, hq2, hs2⟩, ho2⟩; have HQ2 := Lib.hid hq2; have HS2 := Lib.hid hs2; have HB2 : Hid (Below w.heap.size w w2) := Lib.hid (HB1.out.trans (ho2.below HB1.out.size (fun k hk => by rcases hk with hk | hk; exact hk.elim; exact hk.1))); clear hq2 hs2 ho2)
    | (go_at_call 17; refine (open_heads w2 F2 p 17 s18 N18 [] HQ2.out (fmt_heads _ _ _ (by decide) (by rw [blank18_length]; decide)) (by decide) (by decide) (by rw [N18_length]; decide) (by rw [N18_length]; decide) (Cr.Tab.below HT.out HB2.out) (fmt_norec _ _ _ (by decide) (by rw [blank18_length]; decide))).mono ?_; rintro e w3 ⟨v, rfl, hl, hr, hb⟩; obtain ⟨_, _, _, hv⟩ := hr; obtain rfl := hv rfl; have HL3 := Lib.hid hl; have HQ3 := Lib.hid (HQ2.out.below hb); have HB3 := Lib.hid (Below.step hb HB2.out HB2.out.size); clear hl hb))
  go_ret3
  refine ⟨p, w2.heap.size, F2, rfl, HQ3.out, HL3.out, fun h => Nat.lt_irrefl _ (HQ2.out.lts _ h), fun k hk => ?_, HB3.out, HB2.out.size⟩
  rcases HS2.out k hk with h | h
  · rcases h with h | h
    · exact h.elim
    · exact h.1
  · have := HB1.out.size
    omega
end Go.Proofs.YtpbehgjpajjfkaaDoor
namespace Go.Proofs.YtpbehgjpajjfkaaDoor
open Go.ChangeShapes Go.WideShapes Go.ChangeAt Go.RowKit
set_option linter.unusedVariables false
set_option maxRecDepth 100000

theorem recs_two {N : List ByteArray} {s : LSt} {A B : List Nat} (hA : ∀ c ∈ A, c < 256) (hB : ∀ c ∈ B, c < 256) (hu : s.used + (1 + sectorsN A.length) + (1 + sectorsN B.length) ≤ s.c) (hc : s.c ≤ 30000) (hN : s.f + s.c ≤ N.length) (hage : s.age < 4611686018427387904) (hnum : s.number + 1 ≤ 65536)
    (hend : NoRec (appN (appN N s A) (s.passed A.length) B) ((s.passed A.length).passed B.length)) : Recs (appN (appN N s A) (s.passed A.length) B) s [A, B] :=
  ⟨isRec_congr (isRec_app N s A hA (by omega) hc hN hage (by omega)) (appN_length _ _ _) (fun i d h1 h2 => appN_out _ _ _ _ _ (.inl (by show i < s.f + (s.used + (1 + sectorsN A.length)); omega))),
   isRec_app (appN N s A) (s.passed A.length) B hB hu hc (by rw [appN_length]; exact hN) hage hnum, hend⟩
theorem byteRow_nil (w : World) (a : Option Addr) : ByteRow w a 0 [] := ⟨rfl, Nat.zero_le _, fun c hc => (List.not_mem_nil hc).elim, fun h => absurd h (Nat.lt_irrefl _)⟩
theorem RowsOf.two {W : World} {base : Nat} {v : Value} {A B : List Nat} (h : RowsOf W base v [A, B]) : ∃ rg cap g0 c0 g1 c1, v = .slice (some ⟨rg, 0, none⟩) 2 cap ∧ W.cell? ⟨rg, 0, none⟩ = some (.slice (some ⟨g0, 0, none⟩) A.length c0) ∧ W.cell? ⟨rg, 1, none⟩ = some (.slice (some ⟨g1, 0, none⟩) B.length c1) ∧ ByteRow W (some ⟨g0, 0, none⟩) A.length A ∧ ByteRow W (some ⟨g1, 0, none⟩) B.length B := by
  obtain ⟨vs, h1, h2, _⟩ := h
  have h1' : W.ownsRow base 34 1 v (1 + 1) vs := h1
  obtain ⟨rg, cap, rfl⟩ := ownsRow_succ h1'
  obtain ⟨g0, c0, e0, b0⟩ := h2.get 0 (Nat.zero_lt_succ _)
  obtain ⟨g1, c1, e1, b1⟩ := h2.get 1 (Nat.succ_lt_succ (Nat.zero_lt_succ _))
  exact ⟨rg, cap, g0, c0, g1, c1, rfl, (h1'.cellAt 0 (by decide)).trans e0, (h1'.cellAt 1 (by decide)).trans e1, b0, b1⟩
theorem N18_blank (i : Nat) (h1 : 2 < i) (h2 : i < 16) (d : ByteArray) : N18.getD i d = blank := fmtN_in _ _ _ _ _ h1 h2 (by rw [blank18_length]; decide)
set_option maxHeartbeats 2000000 in
theorem logs_any (w : World) (ht : Cr.Tab w) :
    Calls Tryd.prog 9 #[] w fun e w' => e = .returned (.bool true) ∧ Below w.heap.size w w' := by
  have HFr := Lib.hid (fresh_any w ht)
  have HT := Lib.hid ht
  have hq : 0 < w.heap.size := cell_lt (ht 0 (by decide))
  clear ht
  have kc := fun (w : World) (C : Array Value) (n c : Nat) => Lib.run_convert_bytes_const (P := Tryd.prog) w 34 5 C n c Tryd.underlying34 Tryd.underlying5
  go_enter Tryd.func9, Tryd.ntmps9
  go_wp2_with (go_at_call 15; refine HFr.out.mono ?_; clear HFr; rintro e w1 ⟨p, g, F, rfl, hfr⟩; have HF := Lib.hid hfr; have hgl := hfr.log.lt; clear hfr)
  have HB1 : Hid (Below w1.heap.size w1 (w1.alloc (.cells #[.int .u8 97] 5 (1, 2)))) := Lib.hid ((Below.refl _ _).alloc (Nat.le_refl _) _)
  have hFq : ¬ F 0 := fun h => by have := HF.out.new _ h; omega
  have HA1 := Lib.hid (append_ok (w1.alloc (.cells #[.int .u8 97] 5 (1, 2))) F g p 17 1 1 (some ⟨w1.heap.size, 0, none⟩) s18 N18 [97] (HF.out.disk.below HB1.out) (HF.out.log.below HB1.out) HF.out.notF (mark_row w1 97 (by decide) (1, 2)) (by decide) (by unfold maxLen; omega) (fun _ x hx => by
      obtain rfl := Option.some.inj hx
      exact ⟨fun h => Nat.lt_irrefl _ (HF.out.disk.lts _ h), fun h => by dsimp only at h; omega⟩) (by decide) (by decide) (by rw [N18_length]; decide) (by rw [N18_length]; decide) (by decide) (by decide) (by decide) (Cr.Tab.below HT.out (Below.step HB1.out HF.out.below HF.out.below.size)) hFq)
  go_wp2_with (go_at_call 11; refine HA1.out.mono ?_; clear HA1; rintro e w2 ⟨rfl, hl2, ⟨F2, hq2, hs2⟩, ho2⟩; have HL2 := Lib.hid hl2; have HQ2 := Lib.hid hq2; have HS2 := Lib.hid hs2; have HO2 := Lib.hid ho2; clear hl2 hq2 hs2 ho2)
  clear kc
  have hg2 : ¬ F2 g := fun h => (HS2.out g h).2 rfl
  have hFq2 : ¬ F2 0 := fun h => by
    rcases (HS2.out _ h).1 with h | h
    · exact hFq h
    · have := HF.out.below.size
      have := HB1.out.size
      omega
  have HB2 : Hid (Below w.heap.size w w2) := Lib.hid ((Below.step HB1.out HF.out.below HF.out.below.size).trans (HO2.out.below (Nat.le_trans HF.out.below.size HB1.out.size) (fun k hk => by
    rcases hk with hk | hk
    · exact HF.out.new k hk
    · rw [hk]; exact HF.out.newG)))
  have HA2 := Lib.hid (append_ok w2 F2 g p (17 + sectorsN 1 + 3) 0 0 none (s18.passed 1) (appN N18 s18 [97]) [] HQ2.out HL2.out hg2 (byteRow_nil w2 none) (Nat.le_refl _) (by decide) (fun _ x hx => by cases hx) (by decide) (by decide) (by rw [appN_length, N18_length]; decide) (by rw [appN_length, N18_length]; decide) (by decide) (by decide) (by decide) (Cr.Tab.below HT.out HB2.out) hFq2)
  go_wp2_with (go_at_call 11; refine HA2.out.mono ?_; clear HA2; rintro e w3 ⟨rfl, hl3, ⟨F3, hq3, hs3⟩, ho3⟩; have HQ3 := Lib.hid hq3; have HO3 := Lib.hid ho3; clear hl3 hq3 hs3 ho3)
  have HB3 : Hid (Below w.heap.size w w3) := Lib.hid (HB2.out.trans (HO3.out.below HB2.out.size (fun k hk => by
    rcases hk with hk | hk
    · rcases (HS2.out k hk).1 with h | h
      · exact HF.out.new k h
      · exact Nat.le_trans (Nat.le_trans HF.out.below.size HB1.out.size) h.1
    · rw [hk]; exact HF.out.newG)))
  have HO := Lib.hid (open_heads w3 F3 p _ s18 (appN (appN N18 s18 [97]) (s18.passed 1) []) [[97], []] HQ3.out ((fmt_heads blank18 2 14 (by decide) (by rw [blank18_length]; decide)).congr ⟨rfl, rfl, rfl⟩ (fun i d hi => by
      have hi : i < 2 + 2 := hi
      rw [appN_out _ _ _ _ _ (.inl (show i < 2 + 4 by omega)), appN_out _ _ _ _ _ (.inl (show i < 2 + 2 by omega))]
      rfl)) (by decide) (by decide) (by rw [appN_length, appN_length, N18_length]; decide) (by rw [appN_length, appN_length, N18_length]; decide) (Cr.Tab.below HT.out HB3.out)
    (recs_two (N := N18) (s := s18) (A := [97]) (B := []) (by decide) (by decide) (by decide) (by decide) (by rw [N18_length]; decide) (by decide) (by decide) (noRec_bad (by decide) (bad_blank (by decide) (by
      show bytesOf ((appN _ _ _).getD (2 + 5) _) = _
      rw [appN_out _ _ _ _ _ (.inr (by decide)), appN_out _ _ _ _ _ (.inr (by decide)), N18_blank _ (by decide) (by decide)])))))
  go_wp2_with (go_at_call 17; refine HO.out.mono ?_; clear HO; rintro e w4 ⟨v, rfl, hl4, hr4, hb4⟩; have HB4 := Lib.hid (Below.step hb4 HB3.out HB3.out.size); obtain ⟨rg, cap, g0, c0, g1, c1, rfl, d0, d1, r0, r1⟩ := hr4.two; have hcv := conv_row c0 (show ByteRow w4 (some ⟨g0, 0, none⟩) 1 [97] from r0); rw [show bstr [97] = ⟨#[97]⟩ from rfl] at hcv; clear hl4 hr4 hb4)
  go_ret
  exact ⟨rfl, HB4.out⟩
end Go.Proofs.YtpbehgjpajjfkaaDoor
