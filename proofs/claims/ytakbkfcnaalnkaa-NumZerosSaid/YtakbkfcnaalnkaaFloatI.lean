/-
  The law NumZeros, walked.
-/
import Derived.Test.YtakbkfcnaalnkaaFloatH
namespace Go.Proofs.Ytakbkfcnaalnkaa
open Go.ChangeShapes Go.WideShapes Go.ChangeAt Go.RowKit
set_option linter.unusedVariables false

theorem cZ : ((0 : Nat) : Int) = 0 := rfl
theorem cO : ((4607182418800017408 : Nat) : Int) = 4607182418800017408 := rfl
theorem cI : ((9218868437227405312 : Nat) : Int) = 9218868437227405312 := rfl
theorem cM : ((9223372036854775808 : Nat) : Int) = 9223372036854775808 := rfl
theorem cN : ((18442240474082181120 : Nat) : Int) = 18442240474082181120 := rfl
theorem cX : ((9221120237041090560 : Nat) : Int) = 9221120237041090560 := rfl

theorem one_over_zero (w : World) : Calls Try.prog 25 #[.int .u64 4607182418800017408, .int .u64 0] w fun e w' => e = .returned (.int .u64 9218868437227405312) ∧ Dr w w' := by
  have h := over_any 4607182418800017408 0 w
  rw [show made (D.div 4607182418800017408 0) = 9218868437227405312 from by decide +kernel, cI] at h
  exact h
theorem zero_plus (w : World) : Calls Try.prog 21 #[.int .u64 0, .int .u64 9223372036854775808] w fun e w' => e = .returned (.int .u64 0) ∧ Dr w w' := by
  have h := plus_any 0 9223372036854775808 w
  rw [show made (D.add 0 9223372036854775808) = 0 from by decide +kernel, cZ] at h
  exact h
theorem inf_minus (w : World) : Calls Try.prog 23 #[.int .u64 9218868437227405312, .int .u64 9218868437227405312] w fun e w' => e = .returned (.int .u64 9221120237041090560) ∧ Dr w w' := by
  have h := minus_any 9218868437227405312 9218868437227405312 w
  rw [show made (D.sub 9218868437227405312 9218868437227405312) = 9221120237041090560 from by decide +kernel, cX] at h
  exact h
theorem zero_over (w : World) : Calls Try.prog 25 #[.int .u64 0, .int .u64 0] w fun e w' => e = .returned (.int .u64 9221120237041090560) ∧ Dr w w' := by
  have h := over_any 0 0 w
  rw [show made (D.div 0 0) = 9221120237041090560 from by decide +kernel, cX] at h
  exact h
theorem neg_zero (w : World) : Calls Try.prog 27 #[.int .u64 0] w fun e w' => e = .returned (.int .u64 9223372036854775808) ∧ w = w' := by
  have h := neg_any 0 (by decide) w
  rw [show fneg 0 = 9223372036854775808 from by decide +kernel, cM] at h
  exact h
theorem neg_inf (w : World) : Calls Try.prog 27 #[.int .u64 9218868437227405312] w fun e w' => e = .returned (.int .u64 18442240474082181120) ∧ w = w' := by
  have h := neg_any 9218868437227405312 (by decide) w
  rw [show fneg 9218868437227405312 = 18442240474082181120 from by decide +kernel, cN] at h
  exact h
theorem neg_ninf (w : World) : Calls Try.prog 27 #[.int .u64 18442240474082181120] w fun e w' => e = .returned (.int .u64 9218868437227405312) ∧ w = w' := by
  have h := neg_any 18442240474082181120 (by decide) w
  rw [show fneg 18442240474082181120 = 9218868437227405312 from by decide +kernel, cI] at h
  exact h
theorem root_mzero (w : World) : Calls Try.prog 26 #[.int .u64 9223372036854775808] w fun e w' => e = .returned (.int .u64 9223372036854775808) ∧ Dr w w' := by
  have h := root_any 9223372036854775808 w
  rw [show made (D.sqrt 9223372036854775808) = 9223372036854775808 from by decide +kernel, cM] at h
  exact h
theorem over_zero (x : Nat) (w : World) : Calls Try.prog 25 #[.int .u64 x, .int .u64 0] w fun e w' => e = .returned (.int .u64 (made (D.div x 0) : Nat)) ∧ Dr w w' := by
  have h := over_any x 0 w
  rw [cZ] at h
  exact h
theorem over_mzero (x : Nat) (w : World) : Calls Try.prog 25 #[.int .u64 x, .int .u64 9223372036854775808] w fun e w' => e = .returned (.int .u64 (made (D.div x 9223372036854775808) : Nat)) ∧ Dr w w' := by
  have h := over_any x 9223372036854775808 w
  rw [cM] at h
  exact h
theorem over_inf (x : Nat) (w : World) : Calls Try.prog 25 #[.int .u64 x, .int .u64 9218868437227405312] w fun e w' => e = .returned (.int .u64 (made (D.div x 9218868437227405312) : Nat)) ∧ Dr w w' := by
  have h := over_any x 9218868437227405312 w
  rw [cI] at h
  exact h
theorem same_zero (x : Nat) (w : World) : Calls Try.prog 35 #[.int .u64 x, .int .u64 0] w fun e w' => e = .returned (.bool (fsame x 0)) ∧ w = w' := by
  have h := same_any x 0 w
  rw [cZ] at h
  exact h
theorem zero_any' (w : World) :
    Calls Try.prog 38 #[.int .i64 0] w fun e w' => e = .returned (.int .u64 0) ∧ w = w' := zero_any w

theorem finite_bit (x : Nat) (hx : x < 18446744073709551616) : (IntKind.u64.wrap ((x : Int) * 2) / 9007199254740992 != 2047) = decide (rung x / 4503599627370496 ≠ 2047) := by
  rw [Bool.eq_iff_iff, bne_iff_ne, decide_eq_true_eq, IntKind.wrap_u64]
  unfold rung
  omega
theorem sign_bit (x : Nat) (hx : x < 18446744073709551616) : ((x : Int) / 9223372036854775808 == 1) = neg? x := by
  unfold neg?
  rw [Bool.eq_iff_iff, beq_iff_eq, beq_iff_eq]
  omega

theorem word_pos : D.word false INFR = 9218868437227405312 := by decide +kernel
theorem word_neg : D.word true INFR = 18442240474082181120 := by decide +kernel
theorem canon_inf : canon 9218868437227405312 = 9218868437227405312 := by decide +kernel
theorem canon_ninf : canon 18442240474082181120 = 18442240474082181120 := by decide +kernel
theorem same_noughts (s : Bool) : fsame (made (some (D.word s 0))) 0 = true := by cases s <;> decide +kernel

set_option maxHeartbeats 1000000 in
theorem zeros_nan (x : Nat) (hx : x < 18446744073709551616) (n1 : isNan x = true) (w : World) :
    Calls Try.prog 10 #[.int .u64 x] w fun e w' => e = .returned (.bool true) ∧ Grown w w' := by
  have r1 : (((made (D.div x 0) : Nat) : Int) == 9221120237041090560) = true := by rw [div_nan x 0 (.inl n1)]; rfl
  go_enter Try.func10, Try.ntmps10
  go_wp2_with (first | (go_at_call 12; refine (counts_any _).mono ?_; rintro e w' ⟨rfl, rfl⟩) | (go_at_call 21; refine (zero_plus _).mono ?_; rintro e w' ⟨rfl, n, rfl⟩) | (go_at_call 23; (first | (with_reducible refine (inf_minus _).mono ?_) | (with_reducible refine (minus_any x x _).mono ?_)); rintro e w' ⟨rfl, n, rfl⟩) | (go_at_call 25; (first | (with_reducible refine (one_over_zero _).mono ?_) | (with_reducible refine (zero_over _).mono ?_) | (with_reducible refine (over_zero x _).mono ?_) | (with_reducible refine (over_mzero x _).mono ?_) | (with_reducible refine (over_inf x _).mono ?_)); rintro e w' ⟨rfl, n, rfl⟩) | (go_at_call 27; (first | (with_reducible refine (neg_zero _).mono ?_) | (with_reducible refine (neg_inf _).mono ?_) | (with_reducible refine (neg_ninf _).mono ?_)); rintro e w' ⟨rfl, rfl⟩) | (go_at_call 26; refine (root_mzero _).mono ?_; rintro e w' ⟨rfl, n, rfl⟩) | (go_at_call 35; refine (same_zero _ _).mono ?_; rintro e w' ⟨rfl, rfl⟩) | (go_at_call 38; (first | (with_reducible refine (one_any _).mono ?_) | (with_reducible refine (zero_any' _).mono ?_)); rintro e w' ⟨rfl, rfl⟩) | (go_at_call 33; refine (refIsNan_any _ hx _).mono ?_; rintro e w' ⟨rfl, rfl⟩))
  go_ret
  exact ⟨rfl, Grown.refl _⟩

set_option maxHeartbeats 1000000 in
theorem zeros_zero (x : Nat) (hx : x < 18446744073709551616) (n1 : isNan x = false) (z1 : rung x = 0) (w : World) :
    Calls Try.prog 10 #[.int .u64 x] w fun e w' => e = .returned (.bool true) ∧ Grown w w' := by
  have r1 : (((made (D.div x 0) : Nat) : Int) == 9221120237041090560) = true := by rw [div_zero_zero x z1]; rfl
  have zx : (IntKind.u64.wrap ((x : Int) * 2) == 0) = true := by rw [zero_bit x hx, z1]; rfl
  clear z1
  go_enter Try.func10, Try.ntmps10
  go_wp2_with (first | (go_at_call 12; refine (counts_any _).mono ?_; rintro e w' ⟨rfl, rfl⟩) | (go_at_call 21; refine (zero_plus _).mono ?_; rintro e w' ⟨rfl, n, rfl⟩) | (go_at_call 23; (first | (with_reducible refine (inf_minus _).mono ?_) | (with_reducible refine (minus_any x x _).mono ?_)); rintro e w' ⟨rfl, n, rfl⟩) | (go_at_call 25; (first | (with_reducible refine (one_over_zero _).mono ?_) | (with_reducible refine (zero_over _).mono ?_) | (with_reducible refine (over_zero x _).mono ?_) | (with_reducible refine (over_mzero x _).mono ?_) | (with_reducible refine (over_inf x _).mono ?_)); rintro e w' ⟨rfl, n, rfl⟩) | (go_at_call 27; (first | (with_reducible refine (neg_zero _).mono ?_) | (with_reducible refine (neg_inf _).mono ?_) | (with_reducible refine (neg_ninf _).mono ?_)); rintro e w' ⟨rfl, rfl⟩) | (go_at_call 26; refine (root_mzero _).mono ?_; rintro e w' ⟨rfl, n, rfl⟩) | (go_at_call 35; refine (same_zero _ _).mono ?_; rintro e w' ⟨rfl, rfl⟩) | (go_at_call 38; (first | (with_reducible refine (one_any _).mono ?_) | (with_reducible refine (zero_any' _).mono ?_)); rintro e w' ⟨rfl, rfl⟩) | (go_at_call 33; refine (refIsNan_any _ hx _).mono ?_; rintro e w' ⟨rfl, rfl⟩))
  go_ret
  exact ⟨rfl, Grown.refl _⟩

set_option maxHeartbeats 1000000 in
theorem zeros_pos_fin (x : Nat) (hx : x < 18446744073709551616) (n1 : isNan x = false) (z1 : ¬ rung x = 0) (sg : neg? x = false) (fn : rung x < INFR) (w : World) :
    Calls Try.prog 10 #[.int .u64 x] w fun e w' => e = .returned (.bool true) ∧ Grown w w' := by
  have r1 : (((made (D.div x 0) : Nat) : Int) == 9218868437227405312) = true := by rw [div_by_zero x n1 z1 0 false read_zero, sg]; decide +kernel
  have r2 : (((made (D.div x 9223372036854775808) : Nat) : Int) == 18442240474082181120) = true := by rw [div_by_zero x n1 z1 9223372036854775808 true read_mzero, sg]; decide +kernel
  have zx : (IntKind.u64.wrap ((x : Int) * 2) == 0) = false := by rw [zero_bit x hx, beq_eq_false_iff_ne]; exact z1
  have sx : ((x : Int) / 9223372036854775808 == 1) = false := by rw [sign_bit x hx, sg]
  have fx : (IntKind.u64.wrap ((x : Int) * 2) / 9007199254740992 != 2047) = true := by rw [finite_bit x hx, decide_eq_true_eq]; unfold INFR at fn; omega
  have r3 : fsame (made (D.div x 9218868437227405312)) 0 = true := by rw [div_by_inf x fn]; exact same_noughts _
  have r4 : (((made (D.sub x x) : Nat) : Int) == 0) = true := by rw [sub_self x fn]; rfl
  clear z1 sg fn
  go_enter Try.func10, Try.ntmps10
  go_wp2_with (first | (go_at_call 12; refine (counts_any _).mono ?_; rintro e w' ⟨rfl, rfl⟩) | (go_at_call 21; refine (zero_plus _).mono ?_; rintro e w' ⟨rfl, n, rfl⟩) | (go_at_call 23; (first | (with_reducible refine (inf_minus _).mono ?_) | (with_reducible refine (minus_any x x _).mono ?_)); rintro e w' ⟨rfl, n, rfl⟩) | (go_at_call 25; (first | (with_reducible refine (one_over_zero _).mono ?_) | (with_reducible refine (zero_over _).mono ?_) | (with_reducible refine (over_zero x _).mono ?_) | (with_reducible refine (over_mzero x _).mono ?_) | (with_reducible refine (over_inf x _).mono ?_)); rintro e w' ⟨rfl, n, rfl⟩) | (go_at_call 27; (first | (with_reducible refine (neg_zero _).mono ?_) | (with_reducible refine (neg_inf _).mono ?_) | (with_reducible refine (neg_ninf _).mono ?_)); rintro e w' ⟨rfl, rfl⟩) | (go_at_call 26; refine (root_mzero _).mono ?_; rintro e w' ⟨rfl, n, rfl⟩) | (go_at_call 35; refine (same_zero _ _).mono ?_; rintro e w' ⟨rfl, rfl⟩) | (go_at_call 38; (first | (with_reducible refine (one_any _).mono ?_) | (with_reducible refine (zero_any' _).mono ?_)); rintro e w' ⟨rfl, rfl⟩) | (go_at_call 33; refine (refIsNan_any _ hx _).mono ?_; rintro e w' ⟨rfl, rfl⟩))
  go_ret
  exact ⟨rfl, Grown.refl _⟩

set_option maxHeartbeats 1000000 in
theorem zeros_pos_inf (x : Nat) (hx : x < 18446744073709551616) (n1 : isNan x = false) (z1 : ¬ rung x = 0) (sg : neg? x = false) (fn : rung x = INFR) (w : World) :
    Calls Try.prog 10 #[.int .u64 x] w fun e w' => e = .returned (.bool true) ∧ Grown w w' := by
  have r1 : (((made (D.div x 0) : Nat) : Int) == 9218868437227405312) = true := by rw [div_by_zero x n1 z1 0 false read_zero, sg]; decide +kernel
  have r2 : (((made (D.div x 9223372036854775808) : Nat) : Int) == 18442240474082181120) = true := by rw [div_by_zero x n1 z1 9223372036854775808 true read_mzero, sg]; decide +kernel
  have zx : (IntKind.u64.wrap ((x : Int) * 2) == 0) = false := by rw [zero_bit x hx, beq_eq_false_iff_ne]; exact z1
  have sx : ((x : Int) / 9223372036854775808 == 1) = false := by rw [sign_bit x hx, sg]
  have fx : (IntKind.u64.wrap ((x : Int) * 2) / 9007199254740992 != 2047) = false := by rw [finite_bit x hx, decide_eq_false_iff_not]; unfold INFR at fn; omega
  clear z1 sg fn
  go_enter Try.func10, Try.ntmps10
  go_wp2_with (first | (go_at_call 12; refine (counts_any _).mono ?_; rintro e w' ⟨rfl, rfl⟩) | (go_at_call 21; refine (zero_plus _).mono ?_; rintro e w' ⟨rfl, n, rfl⟩) | (go_at_call 23; (first | (with_reducible refine (inf_minus _).mono ?_) | (with_reducible refine (minus_any x x _).mono ?_)); rintro e w' ⟨rfl, n, rfl⟩) | (go_at_call 25; (first | (with_reducible refine (one_over_zero _).mono ?_) | (with_reducible refine (zero_over _).mono ?_) | (with_reducible refine (over_zero x _).mono ?_) | (with_reducible refine (over_mzero x _).mono ?_) | (with_reducible refine (over_inf x _).mono ?_)); rintro e w' ⟨rfl, n, rfl⟩) | (go_at_call 27; (first | (with_reducible refine (neg_zero _).mono ?_) | (with_reducible refine (neg_inf _).mono ?_) | (with_reducible refine (neg_ninf _).mono ?_)); rintro e w' ⟨rfl, rfl⟩) | (go_at_call 26; refine (root_mzero _).mono ?_; rintro e w' ⟨rfl, n, rfl⟩) | (go_at_call 35; refine (same_zero _ _).mono ?_; rintro e w' ⟨rfl, rfl⟩) | (go_at_call 38; (first | (with_reducible refine (one_any _).mono ?_) | (with_reducible refine (zero_any' _).mono ?_)); rintro e w' ⟨rfl, rfl⟩) | (go_at_call 33; refine (refIsNan_any _ hx _).mono ?_; rintro e w' ⟨rfl, rfl⟩))
  go_ret
  exact ⟨rfl, Grown.refl _⟩

set_option maxHeartbeats 1000000 in
theorem zeros_neg_fin (x : Nat) (hx : x < 18446744073709551616) (n1 : isNan x = false) (z1 : ¬ rung x = 0) (sg : neg? x = true) (fn : rung x < INFR) (w : World) :
    Calls Try.prog 10 #[.int .u64 x] w fun e w' => e = .returned (.bool true) ∧ Grown w w' := by
  have r1 : (((made (D.div x 0) : Nat) : Int) == 18442240474082181120) = true := by rw [div_by_zero x n1 z1 0 false read_zero, sg]; decide +kernel
  have r2 : (((made (D.div x 9223372036854775808) : Nat) : Int) == 9218868437227405312) = true := by rw [div_by_zero x n1 z1 9223372036854775808 true read_mzero, sg]; decide +kernel
  have zx : (IntKind.u64.wrap ((x : Int) * 2) == 0) = false := by rw [zero_bit x hx, beq_eq_false_iff_ne]; exact z1
  have sx : ((x : Int) / 9223372036854775808 == 1) = true := by rw [sign_bit x hx, sg]
  have fx : (IntKind.u64.wrap ((x : Int) * 2) / 9007199254740992 != 2047) = true := by rw [finite_bit x hx, decide_eq_true_eq]; unfold INFR at fn; omega
  have r3 : fsame (made (D.div x 9218868437227405312)) 0 = true := by rw [div_by_inf x fn]; exact same_noughts _
  have r4 : (((made (D.sub x x) : Nat) : Int) == 0) = true := by rw [sub_self x fn]; rfl
  clear z1 sg fn
  go_enter Try.func10, Try.ntmps10
  go_wp2_with (first | (go_at_call 12; refine (counts_any _).mono ?_; rintro e w' ⟨rfl, rfl⟩) | (go_at_call 21; refine (zero_plus _).mono ?_; rintro e w' ⟨rfl, n, rfl⟩) | (go_at_call 23; (first | (with_reducible refine (inf_minus _).mono ?_) | (with_reducible refine (minus_any x x _).mono ?_)); rintro e w' ⟨rfl, n, rfl⟩) | (go_at_call 25; (first | (with_reducible refine (one_over_zero _).mono ?_) | (with_reducible refine (zero_over _).mono ?_) | (with_reducible refine (over_zero x _).mono ?_) | (with_reducible refine (over_mzero x _).mono ?_) | (with_reducible refine (over_inf x _).mono ?_)); rintro e w' ⟨rfl, n, rfl⟩) | (go_at_call 27; (first | (with_reducible refine (neg_zero _).mono ?_) | (with_reducible refine (neg_inf _).mono ?_) | (with_reducible refine (neg_ninf _).mono ?_)); rintro e w' ⟨rfl, rfl⟩) | (go_at_call 26; refine (root_mzero _).mono ?_; rintro e w' ⟨rfl, n, rfl⟩) | (go_at_call 35; refine (same_zero _ _).mono ?_; rintro e w' ⟨rfl, rfl⟩) | (go_at_call 38; (first | (with_reducible refine (one_any _).mono ?_) | (with_reducible refine (zero_any' _).mono ?_)); rintro e w' ⟨rfl, rfl⟩) | (go_at_call 33; refine (refIsNan_any _ hx _).mono ?_; rintro e w' ⟨rfl, rfl⟩))
  go_ret
  exact ⟨rfl, Grown.refl _⟩

set_option maxHeartbeats 1000000 in
theorem zeros_neg_inf (x : Nat) (hx : x < 18446744073709551616) (n1 : isNan x = false) (z1 : ¬ rung x = 0) (sg : neg? x = true) (fn : rung x = INFR) (w : World) :
    Calls Try.prog 10 #[.int .u64 x] w fun e w' => e = .returned (.bool true) ∧ Grown w w' := by
  have r1 : (((made (D.div x 0) : Nat) : Int) == 18442240474082181120) = true := by rw [div_by_zero x n1 z1 0 false read_zero, sg]; decide +kernel
  have r2 : (((made (D.div x 9223372036854775808) : Nat) : Int) == 9218868437227405312) = true := by rw [div_by_zero x n1 z1 9223372036854775808 true read_mzero, sg]; decide +kernel
  have zx : (IntKind.u64.wrap ((x : Int) * 2) == 0) = false := by rw [zero_bit x hx, beq_eq_false_iff_ne]; exact z1
  have sx : ((x : Int) / 9223372036854775808 == 1) = true := by rw [sign_bit x hx, sg]
  have fx : (IntKind.u64.wrap ((x : Int) * 2) / 9007199254740992 != 2047) = false := by rw [finite_bit x hx, decide_eq_false_iff_not]; unfold INFR at fn; omega
  clear z1 sg fn
  go_enter Try.func10, Try.ntmps10
  go_wp2_with (first | (go_at_call 12; refine (counts_any _).mono ?_; rintro e w' ⟨rfl, rfl⟩) | (go_at_call 21; refine (zero_plus _).mono ?_; rintro e w' ⟨rfl, n, rfl⟩) | (go_at_call 23; (first | (with_reducible refine (inf_minus _).mono ?_) | (with_reducible refine (minus_any x x _).mono ?_)); rintro e w' ⟨rfl, n, rfl⟩) | (go_at_call 25; (first | (with_reducible refine (one_over_zero _).mono ?_) | (with_reducible refine (zero_over _).mono ?_) | (with_reducible refine (over_zero x _).mono ?_) | (with_reducible refine (over_mzero x _).mono ?_) | (with_reducible refine (over_inf x _).mono ?_)); rintro e w' ⟨rfl, n, rfl⟩) | (go_at_call 27; (first | (with_reducible refine (neg_zero _).mono ?_) | (with_reducible refine (neg_inf _).mono ?_) | (with_reducible refine (neg_ninf _).mono ?_)); rintro e w' ⟨rfl, rfl⟩) | (go_at_call 26; refine (root_mzero _).mono ?_; rintro e w' ⟨rfl, n, rfl⟩) | (go_at_call 35; refine (same_zero _ _).mono ?_; rintro e w' ⟨rfl, rfl⟩) | (go_at_call 38; (first | (with_reducible refine (one_any _).mono ?_) | (with_reducible refine (zero_any' _).mono ?_)); rintro e w' ⟨rfl, rfl⟩) | (go_at_call 33; refine (refIsNan_any _ hx _).mono ?_; rintro e w' ⟨rfl, rfl⟩))
  go_ret
  exact ⟨rfl, Grown.refl _⟩

theorem numZeros_law (a : Int) (w0 : (Lit.int .u64 a).wf = true) (w : World) :
    Calls Try.prog 10 #[.int .u64 a] w fun e w' => e = .returned (.bool true) ∧ Grown w w' := by
  obtain ⟨x, rfl, hx⟩ := u64_wf w0
  cases n1 : isNan x
  · by_cases z1 : rung x = 0
    · exact zeros_zero x hx n1 z1 w
    · have h' : ¬ INFR < rung x := of_decide_eq_false n1
      by_cases fn : rung x < INFR
      · cases sg : neg? x
        · exact zeros_pos_fin x hx n1 z1 sg fn w
        · exact zeros_neg_fin x hx n1 z1 sg fn w
      · cases sg : neg? x
        · exact zeros_pos_inf x hx n1 z1 sg (by omega) w
        · exact zeros_neg_inf x hx n1 z1 sg (by omega) w
  · exact zeros_nan x hx n1 w

end Go.Proofs.Ytakbkfcnaalnkaa
