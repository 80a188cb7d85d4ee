/-
  The laws NumAlgebra and NumZeros, walked.
-/
import Derived.Test.YtakbkfcnaalnkaaFloatE
import Derived.Test.YtakbkfcnaalnkaaFloatG
namespace Go.Proofs.Ytakbkfcnaalnkaa
open Go.ChangeShapes Go.WideShapes Go.ChangeAt Go.RowKit
set_option linter.unusedVariables false

theorem ofIntBits_lt (n : Int) : floatOfInt .f64 n < 18446744073709551616 := by
  have h := floatOfInt_wf .f64 n
  simpa [Lit.wf] using h

theorem ofInt_any (n : Int) (w : World) :
    Calls Try.prog 38 #[.int .i64 n] w fun e w' => e = .returned (.int .u64 (canon (floatOfInt .f64 (w63 n)) : Nat)) ∧ w = w' := by
  have hb := ofIntBits_lt (w63 n)
  go_enter Try.func38, Try.ntmps38
  go_wp2_with (first | (go_at_call 11; refine (wrap_any _ _).mono ?_; rintro e w' ⟨rfl, rfl⟩) | (go_at_call 28; refine (of_any _ hb _).mono ?_; rintro e w' ⟨rfl, rfl⟩))
  go_ret
  exact ⟨rfl, rfl⟩

theorem one_bits : canon (floatOfInt .f64 (w63 1)) = 4607182418800017408 := by decide +kernel
theorem zero_bits : canon (floatOfInt .f64 (w63 0)) = 0 := by decide +kernel
theorem one_any (w : World) :
    Calls Try.prog 38 #[.int .i64 1] w fun e w' => e = .returned (.int .u64 4607182418800017408) ∧ w = w' :=
  (ofInt_any 1 w).mono fun e w' ⟨h1, h2⟩ => ⟨by rw [h1, one_bits]; rfl, h2⟩
theorem zero_any (w : World) :
    Calls Try.prog 38 #[.int .i64 0] w fun e w' => e = .returned (.int .u64 ((0 : Nat) : Int)) ∧ w = w' :=
  (ofInt_any 0 w).mono fun e w' ⟨h1, h2⟩ => ⟨by rw [h1, zero_bits], h2⟩

theorem fneg_lt (x : Nat) (hx : x < 18446744073709551616) : fneg x < 18446744073709551616 := by
  unfold fneg
  split
  · decide
  · exact flip_lt x hx
theorem isNan_fneg (x : Nat) (hx : x < 18446744073709551616) : isNan (fneg x) = isNan x := by
  cases h : isNan x
  · rw [fneg_not h, flip_nan x hx, h]
  · rw [fneg_nan h]; decide
theorem fneg_fneg (x : Nat) (hx : x < 18446744073709551616) : fneg (fneg x) = canon x := by
  cases h : isNan x
  · rw [fneg_not (by rw [isNan_fneg x hx, h]), fneg_not h, canon_not h, Nat.xor_assoc, Nat.xor_self, Nat.xor_zero]
  · rw [fneg_nan h, canon_nan h]; decide
theorem sub_fneg (x y : Nat) (hy : y < 18446744073709551616) : made (D.sub x y) = made (D.add x (fneg y)) := by
  cases h : isNan y
  · rw [fneg_not h, sub_flip x y hy]
  · rw [sub_nan x y (.inr h), add_nan x (fneg y) (.inr (by rw [isNan_fneg y hy, h]))]
theorem times_one (x : Nat) (hx : x < 18446744073709551616) : made (D.mul x 4607182418800017408) = canon x := by
  cases h : isNan x
  · rw [mul_one' x hx h]; rfl
  · rw [mul_nan x _ (.inl h), canon_nan h]; rfl
theorem ne_false {a b : Nat} (h : a = b) : ((a : Int) != (b : Int)) = false := by rw [h]; simp

set_option maxHeartbeats 1000000 in
theorem algebra_plain (x y : Nat) (hx : x < 18446744073709551616) (hy : y < 18446744073709551616) (n1 : isNan x = false) (n2 : isNan y = false) (w : World) :
    Calls Try.prog 9 #[.int .u64 x, .int .u64 y] w fun e w' => e = .returned (.bool true) ∧ Grown w w' := by
  have hfx := fneg_lt x hx
  have g1 := ne_false (congrArg made (add_comm' x y))
  have g2 := ne_false (congrArg made (mul_comm' x y))
  have g3 := ne_false (sub_fneg x y hy)
  have g4 := ne_false (fneg_fneg x hx)
  have g5 := ne_false (times_one x hx)
  go_enter Try.func9, Try.ntmps9
  go_wp2_with (first | (go_at_call 12; refine (counts_any _).mono ?_; rintro e w' ⟨rfl, rfl⟩) | (go_at_call 21; refine (plus_any _ _ _).mono ?_; rintro e w' ⟨rfl, n, rfl⟩) | (go_at_call 23; refine (minus_any _ _ _).mono ?_; rintro e w' ⟨rfl, n, rfl⟩) | (go_at_call 24; refine (times_any _ _ _).mono ?_; rintro e w' ⟨rfl, n, rfl⟩) | (go_at_call 25; refine (over_any _ _ _).mono ?_; rintro e w' ⟨rfl, n, rfl⟩) | (go_at_call 27; (first | (with_reducible refine (neg_any x hx _).mono ?_) | (with_reducible refine (neg_any y hy _).mono ?_) | (with_reducible refine (neg_any (fneg x) hfx _).mono ?_)); rintro e w' ⟨rfl, rfl⟩) | (go_at_call 34; refine (less_any _ _ _).mono ?_; rintro e w' ⟨rfl, rfl⟩) | (go_at_call 35; refine (same_any _ _ _).mono ?_; rintro e w' ⟨rfl, rfl⟩) | (go_at_call 38; refine (one_any _).mono ?_; rintro e w' ⟨rfl, rfl⟩) | (go_at_call 30; refine (refCanon_any _ hx _).mono ?_; rintro e w' ⟨rfl, rfl⟩) | (go_at_call 33; (first | (with_reducible refine (refIsNan_any x hx _).mono ?_) | (with_reducible refine (refIsNan_any y hy _).mono ?_)); rintro e w' ⟨rfl, rfl⟩))
  go_ret
  exact ⟨rfl, Grown.refl _⟩

set_option maxHeartbeats 1000000 in
theorem algebra_nan1 (x y : Nat) (hx : x < 18446744073709551616) (hy : y < 18446744073709551616) (n1 : isNan x = true) (w : World) :
    Calls Try.prog 9 #[.int .u64 x, .int .u64 y] w fun e w' => e = .returned (.bool true) ∧ Grown w w' := by
  have hfx := fneg_lt x hx
  have g1 := ne_false (congrArg made (add_comm' x y))
  have g2 := ne_false (congrArg made (mul_comm' x y))
  have g3 := ne_false (sub_fneg x y hy)
  have g4 := ne_false (fneg_fneg x hx)
  have g5 := ne_false (times_one x hx)
  have f1 := fless_nan x y (.inl n1)
  have f2 := fsame_nan x y (.inl n1)
  have m1 : (((made (D.add x y) : Nat) : Int) == 9221120237041090560) = true := by rw [add_nan x y (.inl n1)]; rfl
  have m2 : (((made (D.mul x y) : Nat) : Int) == 9221120237041090560) = true := by rw [mul_nan x y (.inl n1)]; rfl
  have m3 : (((made (D.div x y) : Nat) : Int) == 9221120237041090560) = true := by rw [div_nan x y (.inl n1)]; rfl
  go_enter Try.func9, Try.ntmps9
  go_wp2_with (first | (go_at_call 12; refine (counts_any _).mono ?_; rintro e w' ⟨rfl, rfl⟩) | (go_at_call 21; refine (plus_any _ _ _).mono ?_; rintro e w' ⟨rfl, n, rfl⟩) | (go_at_call 23; refine (minus_any _ _ _).mono ?_; rintro e w' ⟨rfl, n, rfl⟩) | (go_at_call 24; refine (times_any _ _ _).mono ?_; rintro e w' ⟨rfl, n, rfl⟩) | (go_at_call 25; refine (over_any _ _ _).mono ?_; rintro e w' ⟨rfl, n, rfl⟩) | (go_at_call 27; (first | (with_reducible refine (neg_any x hx _).mono ?_) | (with_reducible refine (neg_any y hy _).mono ?_) | (with_reducible refine (neg_any (fneg x) hfx _).mono ?_)); rintro e w' ⟨rfl, rfl⟩) | (go_at_call 34; refine (less_any _ _ _).mono ?_; rintro e w' ⟨rfl, rfl⟩) | (go_at_call 35; refine (same_any _ _ _).mono ?_; rintro e w' ⟨rfl, rfl⟩) | (go_at_call 38; refine (one_any _).mono ?_; rintro e w' ⟨rfl, rfl⟩) | (go_at_call 30; refine (refCanon_any _ hx _).mono ?_; rintro e w' ⟨rfl, rfl⟩) | (go_at_call 33; (first | (with_reducible refine (refIsNan_any x hx _).mono ?_) | (with_reducible refine (refIsNan_any y hy _).mono ?_)); rintro e w' ⟨rfl, rfl⟩))
  go_ret
  exact ⟨rfl, Grown.refl _⟩

set_option maxHeartbeats 1000000 in
theorem algebra_nan2 (x y : Nat) (hx : x < 18446744073709551616) (hy : y < 18446744073709551616) (n1 : isNan x = false) (n2 : isNan y = true) (w : World) :
    Calls Try.prog 9 #[.int .u64 x, .int .u64 y] w fun e w' => e = .returned (.bool true) ∧ Grown w w' := by
  have hfx := fneg_lt x hx
  have g1 := ne_false (congrArg made (add_comm' x y))
  have g2 := ne_false (congrArg made (mul_comm' x y))
  have g3 := ne_false (sub_fneg x y hy)
  have g4 := ne_false (fneg_fneg x hx)
  have g5 := ne_false (times_one x hx)
  have f1 := fless_nan x y (.inr n2)
  have f2 := fsame_nan x y (.inr n2)
  have m1 : (((made (D.add x y) : Nat) : Int) == 9221120237041090560) = true := by rw [add_nan x y (.inr n2)]; rfl
  have m2 : (((made (D.mul x y) : Nat) : Int) == 9221120237041090560) = true := by rw [mul_nan x y (.inr n2)]; rfl
  have m3 : (((made (D.div x y) : Nat) : Int) == 9221120237041090560) = true := by rw [div_nan x y (.inr n2)]; rfl
  go_enter Try.func9, Try.ntmps9
  go_wp2_with (first | (go_at_call 12; refine (counts_any _).mono ?_; rintro e w' ⟨rfl, rfl⟩) | (go_at_call 21; refine (plus_any _ _ _).mono ?_; rintro e w' ⟨rfl, n, rfl⟩) | (go_at_call 23; refine (minus_any _ _ _).mono ?_; rintro e w' ⟨rfl, n, rfl⟩) | (go_at_call 24; refine (times_any _ _ _).mono ?_; rintro e w' ⟨rfl, n, rfl⟩) | (go_at_call 25; refine (over_any _ _ _).mono ?_; rintro e w' ⟨rfl, n, rfl⟩) | (go_at_call 27; (first | (with_reducible refine (neg_any x hx _).mono ?_) | (with_reducible refine (neg_any y hy _).mono ?_) | (with_reducible refine (neg_any (fneg x) hfx _).mono ?_)); rintro e w' ⟨rfl, rfl⟩) | (go_at_call 34; refine (less_any _ _ _).mono ?_; rintro e w' ⟨rfl, rfl⟩) | (go_at_call 35; refine (same_any _ _ _).mono ?_; rintro e w' ⟨rfl, rfl⟩) | (go_at_call 38; refine (one_any _).mono ?_; rintro e w' ⟨rfl, rfl⟩) | (go_at_call 30; refine (refCanon_any _ hx _).mono ?_; rintro e w' ⟨rfl, rfl⟩) | (go_at_call 33; (first | (with_reducible refine (refIsNan_any x hx _).mono ?_) | (with_reducible refine (refIsNan_any y hy _).mono ?_)); rintro e w' ⟨rfl, rfl⟩))
  go_ret
  exact ⟨rfl, Grown.refl _⟩

theorem numAlgebra_law (a b : Int) (w0 : (Lit.int .u64 a).wf = true) (w1 : (Lit.int .u64 b).wf = true) (w : World) :
    Calls Try.prog 9 #[.int .u64 a, .int .u64 b] w fun e w' => e = .returned (.bool true) ∧ Grown w w' := by
  obtain ⟨x, rfl, hx⟩ := u64_wf w0
  obtain ⟨y, rfl, hy⟩ := u64_wf w1
  cases n1 : isNan x
  · cases n2 : isNan y
    · exact algebra_plain x y hx hy n1 n2 w
    · exact algebra_nan2 x y hx hy n1 n2 w
  · exact algebra_nan1 x y hx hy n1 w

end Go.Proofs.Ytakbkfcnaalnkaa
