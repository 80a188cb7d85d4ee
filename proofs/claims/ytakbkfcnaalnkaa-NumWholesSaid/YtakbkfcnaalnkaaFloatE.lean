/-
  Less, Same, Ahead, and the law of orders.
-/
import Derived.Test.YtakbkfcnaalnkaaFloatC
import Derived.Test.YtakbkfcnaalnkaaFloatD
namespace Go.Proofs.Ytakbkfcnaalnkaa
open Go.ChangeShapes Go.WideShapes Go.ChangeAt Go.RowKit
set_option linter.unusedVariables false

theorem and_sign (x : Nat) (hx : x < 18446744073709551616) : bits .and .u64 (x : Int) 9223372036854775808 = ((x / 9223372036854775808 % 2 * 9223372036854775808 : Nat) : Int) := by
  have h := u64_and_nat x 9223372036854775808 hx (by decide)
  have e : x &&& 9223372036854775808 = x / 9223372036854775808 % 2 * 9223372036854775808 := nat_bit 63 x
  rw [e] at h
  exact h
theorem and_low (x : Nat) (hx : x < 18446744073709551616) : bits .and .u64 (x : Int) 9223372036854775807 = ((rung x : Nat) : Int) := by
  have h := u64_and_nat x 9223372036854775807 hx (by decide)
  have e : x &&& 9223372036854775807 = x % 9223372036854775808 := Nat.and_two_pow_sub_one_eq_mod x 63
  rw [e] at h
  exact h
theorem not_nat (x : Nat) (hx : x < 18446744073709551616) : 18446744073709551615 ^^^ x = 18446744073709551615 - x := by
  have h : (BitVec.allOnes 64 ^^^ BitVec.ofNat 64 x) = ~~~ (BitVec.ofNat 64 x) := by rw [BitVec.xor_comm, BitVec.xor_allOnes]
  have h2 := congrArg BitVec.toNat h
  rw [BitVec.toNat_xor, BitVec.toNat_not, BitVec.toNat_allOnes, BitVec.toNat_ofNat, Nat.mod_eq_of_lt hx] at h2
  exact h2
theorem not_all (x : Nat) (hx : x < 18446744073709551616) : bits .xor .u64 IntKind.u64.max (x : Int) = ((18446744073709551615 - x : Nat) : Int) := by
  rw [← not_nat x hx]
  exact u64_xor_nat 18446744073709551615 x (by decide) hx
theorem or_sign (x : Nat) (hx : x < 9223372036854775808) : bits .or .u64 (x : Int) 9223372036854775808 = ((x + 9223372036854775808 : Nat) : Int) := by
  have h := u64_or_nat x 9223372036854775808 (by omega) (by decide)
  have e : x ||| 9223372036854775808 = x + 9223372036854775808 := by
    rw [Nat.or_comm, Nat.add_comm]
    exact nat_join 63 9223372036854775808 x (by decide) (by omega)
  rw [e] at h
  exact h

theorem rank_any (x : Nat) (hx : x < 18446744073709551616) (w : World) :
    Calls Try.prog 44 #[.int .u64 x] w fun e w' => e = .returned (.int .u64 (nrank x : Nat)) ∧ w = w' := by
  cases h : isNan x
  · have H0 := Lib.hid h
    go_enter Try.func44, Try.ntmps44
    go_wp2_with (go_at_call 42; refine (isNan_any _ hx _).mono ?_; rintro e w' ⟨rfl, rfl⟩)
    · have h2 : (bits BinOp.and IntKind.u64 (x : Int) 9223372036854775808 != 0) = true := by assumption
      have H2 := Lib.hid h2
      clear h2
      go_ret
      refine ⟨ret_int ?_, rfl⟩
      have h2 := H2.out
      rw [and_sign x hx] at h2
      have h3 : 9223372036854775808 ≤ x := by
        have : ¬ ((x / 9223372036854775808 % 2 * 9223372036854775808 : Nat) : Int) = 0 := by simpa using h2
        omega
      rw [not_all x hx]
      unfold nrank
      rw [H0.out, if_pos h3]; rfl
    · have h2 : (bits BinOp.and IntKind.u64 (x : Int) 9223372036854775808 != 0) = false := by assumption
      have H2 := Lib.hid h2
      clear h2
      go_ret
      refine ⟨ret_int ?_, rfl⟩
      have h2 := H2.out
      rw [and_sign x hx] at h2
      have h3 : ¬ 9223372036854775808 ≤ x := by
        have : ((x / 9223372036854775808 % 2 * 9223372036854775808 : Nat) : Int) = 0 := by simpa using h2
        omega
      rw [or_sign x (by omega)]
      unfold nrank
      rw [H0.out, if_neg h3]; rfl
  · go_enter Try.func44, Try.ntmps44
    go_wp2_with (go_at_call 42; refine (isNan_any _ hx _).mono ?_; rintro e w' ⟨rfl, rfl⟩)
    go_ret
    exact ⟨ret_int (by unfold nrank; rw [h]; rfl), rfl⟩

theorem refRank_any (x : Nat) (hx : x < 18446744073709551616) (w : World) :
    Calls Try.prog 32 #[.int .u64 x] w fun e w' => e = .returned (.int .i64 ((nrank x : Int) - 9223372036854775808)) ∧ w = w' := by
  cases h : isNan x
  · have H0 := Lib.hid h
    go_enter Try.func32, Try.ntmps32
    go_wp2_with (go_at_call 33; refine (refIsNan_any _ hx _).mono ?_; rintro e w' ⟨rfl, rfl⟩)
    · have h2 : ((x : Int) / 9223372036854775808 == 1) = true := by assumption
      have H2 := Lib.hid h2
      clear h2
      go_ret
      refine ⟨ret_int ?_, rfl⟩
      have h2 : (x : Int) / 9223372036854775808 = 1 := by simpa using H2.out
      rw [and_low x hx]
      unfold nrank
      rw [H0.out, if_pos (show 9223372036854775808 ≤ x by omega)]
      unfold wrap64 rung
      simp
      omega
    · have h2 : ((x : Int) / 9223372036854775808 == 1) = false := by assumption
      have H2 := Lib.hid h2
      clear h2
      go_ret
      refine ⟨ret_int ?_, rfl⟩
      have h2 : ¬ (x : Int) / 9223372036854775808 = 1 := by simpa using H2.out
      unfold nrank
      rw [H0.out, if_neg (show ¬ 9223372036854775808 ≤ x by omega)]
      unfold wrap64
      simp
      omega
  · go_enter Try.func32, Try.ntmps32
    go_wp2_with (go_at_call 33; refine (refIsNan_any _ hx _).mono ?_; rintro e w' ⟨rfl, rfl⟩)
    go_ret
    exact ⟨ret_int (by unfold nrank; rw [h]; rfl), rfl⟩

def ahead (x y : Nat) : Bool := decide (nrank x < nrank y)
theorem ahead_any (x y : Nat) (hx : x < 18446744073709551616) (hy : y < 18446744073709551616) (w : World) :
    Calls Try.prog 31 #[.int .u64 x, .int .u64 y] w fun e w' => e = .returned (.bool (ahead x y)) ∧ w = w' := by
  go_enter Try.func31, Try.ntmps31
  go_wp2_with fail
  refine (rank_any x hx _).mono ?_
  rintro e w' ⟨rfl, rfl⟩
  go_wp2_with fail
  refine (rank_any y hy _).mono ?_
  rintro e w' ⟨rfl, rfl⟩
  go_wp2_with fail
  go_ret
  exact ⟨ret_bool (by unfold ahead; rw [decide_eq_decide]), rfl⟩

def fless (x y : Nat) : Bool := FloatKind.f64.format.order x y == some .lt
def fsame (x y : Nat) : Bool := FloatKind.f64.format.order x y == some .eq
theorem less_any (x y : Nat) (w : World) :
    Calls Try.prog 34 #[.int .u64 x, .int .u64 y] w fun e w' => e = .returned (.bool (fless x y)) ∧ w = w' := by
  go_enter Try.func34, Try.ntmps34
  go_wp2_with (go_at_call 29; refine (go_any _ _).mono ?_; rintro e w' ⟨rfl, rfl⟩)
  go_ret
  exact ⟨rfl, rfl⟩
theorem same_any (x y : Nat) (w : World) :
    Calls Try.prog 35 #[.int .u64 x, .int .u64 y] w fun e w' => e = .returned (.bool (fsame x y)) ∧ w = w' := by
  go_enter Try.func35, Try.ntmps35
  go_wp2_with (go_at_call 29; refine (go_any _ _).mono ?_; rintro e w' ⟨rfl, rfl⟩)
  go_ret
  exact ⟨rfl, rfl⟩

theorem fless_eq (x y : Nat) (hx : x < 18446744073709551616) (hy : y < 18446744073709551616) (nx : isNan x = false) (ny : isNan y = false) : fless x y = (ahead x y && !bothZero x y) := order_lt x y hx hy nx ny
theorem fsame_eq (x y : Nat) (hx : x < 18446744073709551616) (hy : y < 18446744073709551616) (nx : isNan x = false) (ny : isNan y = false) : fsame x y = (x == y || bothZero x y) := order_eq x y hx hy nx ny
theorem fless_nan (x y : Nat) (h : isNan x = true ∨ isNan y = true) : fless x y = false := by
  unfold fless
  rcases h with h | h
  · rw [show FloatKind.f64.format.order x y = none from order_nan_left x y h]; rfl
  · rw [show FloatKind.f64.format.order x y = none from order_nan_right x y h]; rfl
theorem fsame_nan (x y : Nat) (h : isNan x = true ∨ isNan y = true) : fsame x y = false := by
  unfold fsame
  rcases h with h | h
  · rw [show FloatKind.f64.format.order x y = none from order_nan_left x y h]; rfl
  · rw [show FloatKind.f64.format.order x y = none from order_nan_right x y h]; rfl

def rankI (x : Nat) : Int := (nrank x : Int) - 9223372036854775808
theorem rankI_any (x : Nat) (hx : x < 18446744073709551616) (w : World) :
    Calls Try.prog 32 #[.int .u64 x] w fun e w' => e = .returned (.int .i64 (rankI x)) ∧ w = w' := refRank_any x hx w
theorem rankI_lt (x y : Nat) : decide (rankI x < rankI y) = ahead x y := by unfold rankI ahead; rw [decide_eq_decide]; omega
theorem ahead_asymm {x y : Nat} (h : ahead x y = true) : ahead y x = false := by
  have := of_decide_eq_true h
  exact decide_eq_false (by omega)
theorem ahead_trans {x y z : Nat} (h : ahead x y = true) (g : ahead y z = true) : ahead x z = true := by
  have := of_decide_eq_true h
  have := of_decide_eq_true g
  exact decide_eq_true (by omega)
theorem ahead_canon {x y : Nat} (hx : x < 18446744073709551616) (hy : y < 18446744073709551616) (h : ahead x y = false) (g : ahead y x = false) : canon x = canon y := by
  have h1 := of_decide_eq_false h
  have h2 := of_decide_eq_false g
  exact nrank_inj x y hx hy (by omega)

theorem zero_bit (x : Nat) (hx : x < 18446744073709551616) : (IntKind.u64.wrap ((x : Int) * 2) == 0) = (rung x == 0) := by
  rw [Bool.eq_iff_iff, beq_iff_eq, beq_iff_eq, IntKind.wrap_u64]
  unfold rung
  omega
theorem ahead_ne {x y : Nat} (h : ahead x y = true ∨ ahead y x = true) : ((x : Int) == (y : Int)) = false := by
  rw [beq_eq_false_iff_ne]
  intro e
  have e' : x = y := by omega
  subst e'
  rcases h with h | h
  · have := of_decide_eq_true h; omega
  · have := of_decide_eq_true h; omega
theorem ahead_ne' {x y : Nat} (h : ahead x y = true ∨ ahead y x = true) : (x == y) = false := by
  rw [beq_eq_false_iff_ne]
  intro e'
  subst e'
  rcases h with h | h
  · have := of_decide_eq_true h; omega
  · have := of_decide_eq_true h; omega

set_option maxHeartbeats 1000000 in
theorem orders_a1 (x y z : Nat) (hx : x < 18446744073709551616) (hy : y < 18446744073709551616) (hz : z < 18446744073709551616) (h1 : ahead x y = true) (h3 : ahead y z = false) (n1 : isNan x = true) (w : World) :
    Calls Try.prog 7 #[.int .u64 x, .int .u64 y, .int .u64 z] w fun e w' => e = .returned (.bool true) ∧ Grown w w' := by
  have r := rankI_lt x y
  rw [h1] at r
  have h2 := ahead_asymm h1
  have f1 := fless_nan x y (.inl n1)
  have f2 := fsame_nan x y (.inl n1)
  go_enter Try.func7, Try.ntmps7
  go_wp2_with (first | (go_at_call 12; refine (counts_any _).mono ?_; rintro e w' ⟨rfl, rfl⟩) | (go_at_call 34; refine (less_any _ _ _).mono ?_; rintro e w' ⟨rfl, rfl⟩) | (go_at_call 35; refine (same_any _ _ _).mono ?_; rintro e w' ⟨rfl, rfl⟩) | (go_at_call 31; refine (ahead_any _ _ (by assumption) (by assumption) _).mono ?_; rintro e w' ⟨rfl, rfl⟩) | (go_at_call 32; refine (rankI_any _ (by assumption) _).mono ?_; rintro e w' ⟨rfl, rfl⟩) | (go_at_call 30; refine (refCanon_any _ (by assumption) _).mono ?_; rintro e w' ⟨rfl, rfl⟩) | (go_at_call 33; refine (refIsNan_any _ (by assumption) _).mono ?_; rintro e w' ⟨rfl, rfl⟩))
  go_ret
  exact ⟨rfl, Grown.refl _⟩

set_option maxHeartbeats 1000000 in
theorem orders_a2 (x y z : Nat) (hx : x < 18446744073709551616) (hy : y < 18446744073709551616) (hz : z < 18446744073709551616) (h1 : ahead x y = true) (h3 : ahead y z = false) (n1 : isNan x = false) (n2 : isNan y = true) (w : World) :
    Calls Try.prog 7 #[.int .u64 x, .int .u64 y, .int .u64 z] w fun e w' => e = .returned (.bool true) ∧ Grown w w' := by
  have r := rankI_lt x y
  rw [h1] at r
  have h2 := ahead_asymm h1
  have f1 := fless_nan x y (.inr n2)
  have f2 := fsame_nan x y (.inr n2)
  go_enter Try.func7, Try.ntmps7
  go_wp2_with (first | (go_at_call 12; refine (counts_any _).mono ?_; rintro e w' ⟨rfl, rfl⟩) | (go_at_call 34; refine (less_any _ _ _).mono ?_; rintro e w' ⟨rfl, rfl⟩) | (go_at_call 35; refine (same_any _ _ _).mono ?_; rintro e w' ⟨rfl, rfl⟩) | (go_at_call 31; refine (ahead_any _ _ (by assumption) (by assumption) _).mono ?_; rintro e w' ⟨rfl, rfl⟩) | (go_at_call 32; refine (rankI_any _ (by assumption) _).mono ?_; rintro e w' ⟨rfl, rfl⟩) | (go_at_call 30; refine (refCanon_any _ (by assumption) _).mono ?_; rintro e w' ⟨rfl, rfl⟩) | (go_at_call 33; refine (refIsNan_any _ (by assumption) _).mono ?_; rintro e w' ⟨rfl, rfl⟩))
  go_ret
  exact ⟨rfl, Grown.refl _⟩

set_option maxHeartbeats 1000000 in
theorem orders_b1 (x y z : Nat) (hx : x < 18446744073709551616) (hy : y < 18446744073709551616) (hz : z < 18446744073709551616) (h1 : ahead x y = true) (h3 : ahead y z = true) (n1 : isNan x = true) (w : World) :
    Calls Try.prog 7 #[.int .u64 x, .int .u64 y, .int .u64 z] w fun e w' => e = .returned (.bool true) ∧ Grown w w' := by
  have r := rankI_lt x y
  rw [h1] at r
  have h2 := ahead_asymm h1
  have h4 := ahead_trans h1 h3
  have f1 := fless_nan x y (.inl n1)
  have f2 := fsame_nan x y (.inl n1)
  go_enter Try.func7, Try.ntmps7
  go_wp2_with (first | (go_at_call 12; refine (counts_any _).mono ?_; rintro e w' ⟨rfl, rfl⟩) | (go_at_call 34; refine (less_any _ _ _).mono ?_; rintro e w' ⟨rfl, rfl⟩) | (go_at_call 35; refine (same_any _ _ _).mono ?_; rintro e w' ⟨rfl, rfl⟩) | (go_at_call 31; refine (ahead_any _ _ (by assumption) (by assumption) _).mono ?_; rintro e w' ⟨rfl, rfl⟩) | (go_at_call 32; refine (rankI_any _ (by assumption) _).mono ?_; rintro e w' ⟨rfl, rfl⟩) | (go_at_call 30; refine (refCanon_any _ (by assumption) _).mono ?_; rintro e w' ⟨rfl, rfl⟩) | (go_at_call 33; refine (refIsNan_any _ (by assumption) _).mono ?_; rintro e w' ⟨rfl, rfl⟩))
  go_ret
  exact ⟨rfl, Grown.refl _⟩

set_option maxHeartbeats 1000000 in
theorem orders_b2 (x y z : Nat) (hx : x < 18446744073709551616) (hy : y < 18446744073709551616) (hz : z < 18446744073709551616) (h1 : ahead x y = true) (h3 : ahead y z = true) (n1 : isNan x = false) (n2 : isNan y = true) (w : World) :
    Calls Try.prog 7 #[.int .u64 x, .int .u64 y, .int .u64 z] w fun e w' => e = .returned (.bool true) ∧ Grown w w' := by
  have r := rankI_lt x y
  rw [h1] at r
  have h2 := ahead_asymm h1
  have h4 := ahead_trans h1 h3
  have f1 := fless_nan x y (.inr n2)
  have f2 := fsame_nan x y (.inr n2)
  go_enter Try.func7, Try.ntmps7
  go_wp2_with (first | (go_at_call 12; refine (counts_any _).mono ?_; rintro e w' ⟨rfl, rfl⟩) | (go_at_call 34; refine (less_any _ _ _).mono ?_; rintro e w' ⟨rfl, rfl⟩) | (go_at_call 35; refine (same_any _ _ _).mono ?_; rintro e w' ⟨rfl, rfl⟩) | (go_at_call 31; refine (ahead_any _ _ (by assumption) (by assumption) _).mono ?_; rintro e w' ⟨rfl, rfl⟩) | (go_at_call 32; refine (rankI_any _ (by assumption) _).mono ?_; rintro e w' ⟨rfl, rfl⟩) | (go_at_call 30; refine (refCanon_any _ (by assumption) _).mono ?_; rintro e w' ⟨rfl, rfl⟩) | (go_at_call 33; refine (refIsNan_any _ (by assumption) _).mono ?_; rintro e w' ⟨rfl, rfl⟩))
  go_ret
  exact ⟨rfl, Grown.refl _⟩

set_option maxHeartbeats 1000000 in
theorem orders_c1 (x y z : Nat) (hx : x < 18446744073709551616) (hy : y < 18446744073709551616) (hz : z < 18446744073709551616) (h1 : ahead x y = false) (h2 : ahead y x = true) (n1 : isNan x = true) (w : World) :
    Calls Try.prog 7 #[.int .u64 x, .int .u64 y, .int .u64 z] w fun e w' => e = .returned (.bool true) ∧ Grown w w' := by
  have r := rankI_lt x y
  rw [h1] at r
  have f1 := fless_nan x y (.inl n1)
  have f2 := fsame_nan x y (.inl n1)
  go_enter Try.func7, Try.ntmps7
  go_wp2_with (first | (go_at_call 12; refine (counts_any _).mono ?_; rintro e w' ⟨rfl, rfl⟩) | (go_at_call 34; refine (less_any _ _ _).mono ?_; rintro e w' ⟨rfl, rfl⟩) | (go_at_call 35; refine (same_any _ _ _).mono ?_; rintro e w' ⟨rfl, rfl⟩) | (go_at_call 31; refine (ahead_any _ _ (by assumption) (by assumption) _).mono ?_; rintro e w' ⟨rfl, rfl⟩) | (go_at_call 32; refine (rankI_any _ (by assumption) _).mono ?_; rintro e w' ⟨rfl, rfl⟩) | (go_at_call 30; refine (refCanon_any _ (by assumption) _).mono ?_; rintro e w' ⟨rfl, rfl⟩) | (go_at_call 33; refine (refIsNan_any _ (by assumption) _).mono ?_; rintro e w' ⟨rfl, rfl⟩))
  go_ret
  exact ⟨rfl, Grown.refl _⟩

set_option maxHeartbeats 1000000 in
theorem orders_c2 (x y z : Nat) (hx : x < 18446744073709551616) (hy : y < 18446744073709551616) (hz : z < 18446744073709551616) (h1 : ahead x y = false) (h2 : ahead y x = true) (n1 : isNan x = false) (n2 : isNan y = true) (w : World) :
    Calls Try.prog 7 #[.int .u64 x, .int .u64 y, .int .u64 z] w fun e w' => e = .returned (.bool true) ∧ Grown w w' := by
  have r := rankI_lt x y
  rw [h1] at r
  have f1 := fless_nan x y (.inr n2)
  have f2 := fsame_nan x y (.inr n2)
  go_enter Try.func7, Try.ntmps7
  go_wp2_with (first | (go_at_call 12; refine (counts_any _).mono ?_; rintro e w' ⟨rfl, rfl⟩) | (go_at_call 34; refine (less_any _ _ _).mono ?_; rintro e w' ⟨rfl, rfl⟩) | (go_at_call 35; refine (same_any _ _ _).mono ?_; rintro e w' ⟨rfl, rfl⟩) | (go_at_call 31; refine (ahead_any _ _ (by assumption) (by assumption) _).mono ?_; rintro e w' ⟨rfl, rfl⟩) | (go_at_call 32; refine (rankI_any _ (by assumption) _).mono ?_; rintro e w' ⟨rfl, rfl⟩) | (go_at_call 30; refine (refCanon_any _ (by assumption) _).mono ?_; rintro e w' ⟨rfl, rfl⟩) | (go_at_call 33; refine (refIsNan_any _ (by assumption) _).mono ?_; rintro e w' ⟨rfl, rfl⟩))
  go_ret
  exact ⟨rfl, Grown.refl _⟩

set_option maxHeartbeats 1000000 in
theorem orders_d1 (x y z : Nat) (hx : x < 18446744073709551616) (hy : y < 18446744073709551616) (hz : z < 18446744073709551616) (h1 : ahead x y = false) (h2 : ahead y x = false) (n1 : isNan x = true) (w : World) :
    Calls Try.prog 7 #[.int .u64 x, .int .u64 y, .int .u64 z] w fun e w' => e = .returned (.bool true) ∧ Grown w w' := by
  have r := rankI_lt x y
  rw [h1] at r
  have hc : (((canon x : Nat) : Int) != ((canon y : Nat) : Int)) = false := by rw [ahead_canon hx hy h1 h2]; simp
  have f1 := fless_nan x y (.inl n1)
  have f2 := fsame_nan x y (.inl n1)
  go_enter Try.func7, Try.ntmps7
  go_wp2_with (first | (go_at_call 12; refine (counts_any _).mono ?_; rintro e w' ⟨rfl, rfl⟩) | (go_at_call 34; refine (less_any _ _ _).mono ?_; rintro e w' ⟨rfl, rfl⟩) | (go_at_call 35; refine (same_any _ _ _).mono ?_; rintro e w' ⟨rfl, rfl⟩) | (go_at_call 31; refine (ahead_any _ _ (by assumption) (by assumption) _).mono ?_; rintro e w' ⟨rfl, rfl⟩) | (go_at_call 32; refine (rankI_any _ (by assumption) _).mono ?_; rintro e w' ⟨rfl, rfl⟩) | (go_at_call 30; refine (refCanon_any _ (by assumption) _).mono ?_; rintro e w' ⟨rfl, rfl⟩) | (go_at_call 33; refine (refIsNan_any _ (by assumption) _).mono ?_; rintro e w' ⟨rfl, rfl⟩))
  go_ret
  exact ⟨rfl, Grown.refl _⟩

set_option maxHeartbeats 1000000 in
theorem orders_d2 (x y z : Nat) (hx : x < 18446744073709551616) (hy : y < 18446744073709551616) (hz : z < 18446744073709551616) (h1 : ahead x y = false) (h2 : ahead y x = false) (n1 : isNan x = false) (n2 : isNan y = true) (w : World) :
    Calls Try.prog 7 #[.int .u64 x, .int .u64 y, .int .u64 z] w fun e w' => e = .returned (.bool true) ∧ Grown w w' := by
  have r := rankI_lt x y
  rw [h1] at r
  have hc : (((canon x : Nat) : Int) != ((canon y : Nat) : Int)) = false := by rw [ahead_canon hx hy h1 h2]; simp
  have f1 := fless_nan x y (.inr n2)
  have f2 := fsame_nan x y (.inr n2)
  go_enter Try.func7, Try.ntmps7
  go_wp2_with (first | (go_at_call 12; refine (counts_any _).mono ?_; rintro e w' ⟨rfl, rfl⟩) | (go_at_call 34; refine (less_any _ _ _).mono ?_; rintro e w' ⟨rfl, rfl⟩) | (go_at_call 35; refine (same_any _ _ _).mono ?_; rintro e w' ⟨rfl, rfl⟩) | (go_at_call 31; refine (ahead_any _ _ (by assumption) (by assumption) _).mono ?_; rintro e w' ⟨rfl, rfl⟩) | (go_at_call 32; refine (rankI_any _ (by assumption) _).mono ?_; rintro e w' ⟨rfl, rfl⟩) | (go_at_call 30; refine (refCanon_any _ (by assumption) _).mono ?_; rintro e w' ⟨rfl, rfl⟩) | (go_at_call 33; refine (refIsNan_any _ (by assumption) _).mono ?_; rintro e w' ⟨rfl, rfl⟩))
  go_ret
  exact ⟨rfl, Grown.refl _⟩

set_option maxHeartbeats 1000000 in
theorem orders_a3f (x y z : Nat) (hx : x < 18446744073709551616) (hy : y < 18446744073709551616) (hz : z < 18446744073709551616) (h1 : ahead x y = true) (h3 : ahead y z = false) (n1 : isNan x = false) (n2 : isNan y = false) (z1 : (rung x == 0) = false) (w : World) :
    Calls Try.prog 7 #[.int .u64 x, .int .u64 y, .int .u64 z] w fun e w' => e = .returned (.bool true) ∧ Grown w w' := by
  have r := rankI_lt x y
  rw [h1] at r
  have h2 := ahead_asymm h1
  have bz : bothZero x y = false := by unfold bothZero; rw [z1]; rfl
  have f1 := fless_eq x y hx hy n1 n2
  have f2 := fsame_eq x y hx hy n1 n2
  have en := ahead_ne (.inl h1)
  rw [h1, bz] at f1
  rw [ahead_ne' (.inl h1), bz] at f2
  have zx := zero_bit x hx
  rw [z1] at zx
  clear bz z1
  go_enter Try.func7, Try.ntmps7
  go_wp2_with (first | (go_at_call 12; refine (counts_any _).mono ?_; rintro e w' ⟨rfl, rfl⟩) | (go_at_call 34; refine (less_any _ _ _).mono ?_; rintro e w' ⟨rfl, rfl⟩) | (go_at_call 35; refine (same_any _ _ _).mono ?_; rintro e w' ⟨rfl, rfl⟩) | (go_at_call 31; refine (ahead_any _ _ (by assumption) (by assumption) _).mono ?_; rintro e w' ⟨rfl, rfl⟩) | (go_at_call 32; refine (rankI_any _ (by assumption) _).mono ?_; rintro e w' ⟨rfl, rfl⟩) | (go_at_call 30; refine (refCanon_any _ (by assumption) _).mono ?_; rintro e w' ⟨rfl, rfl⟩) | (go_at_call 33; refine (refIsNan_any _ (by assumption) _).mono ?_; rintro e w' ⟨rfl, rfl⟩))
  go_ret
  exact ⟨rfl, Grown.refl _⟩

set_option maxHeartbeats 1000000 in
theorem orders_a3g (x y z : Nat) (hx : x < 18446744073709551616) (hy : y < 18446744073709551616) (hz : z < 18446744073709551616) (h1 : ahead x y = true) (h3 : ahead y z = false) (n1 : isNan x = false) (n2 : isNan y = false) (z1 : (rung x == 0) = true) (z2 : (rung y == 0) = false) (w : World) :
    Calls Try.prog 7 #[.int .u64 x, .int .u64 y, .int .u64 z] w fun e w' => e = .returned (.bool true) ∧ Grown w w' := by
  have r := rankI_lt x y
  rw [h1] at r
  have h2 := ahead_asymm h1
  have bz : bothZero x y = false := by unfold bothZero; rw [z1, z2]; rfl
  have f1 := fless_eq x y hx hy n1 n2
  have f2 := fsame_eq x y hx hy n1 n2
  have en := ahead_ne (.inl h1)
  rw [h1, bz] at f1
  rw [ahead_ne' (.inl h1), bz] at f2
  have zx := zero_bit x hx
  rw [z1] at zx
  have zy := zero_bit y hy
  rw [z2] at zy
  clear bz z1 z2
  go_enter Try.func7, Try.ntmps7
  go_wp2_with (first | (go_at_call 12; refine (counts_any _).mono ?_; rintro e w' ⟨rfl, rfl⟩) | (go_at_call 34; refine (less_any _ _ _).mono ?_; rintro e w' ⟨rfl, rfl⟩) | (go_at_call 35; refine (same_any _ _ _).mono ?_; rintro e w' ⟨rfl, rfl⟩) | (go_at_call 31; refine (ahead_any _ _ (by assumption) (by assumption) _).mono ?_; rintro e w' ⟨rfl, rfl⟩) | (go_at_call 32; refine (rankI_any _ (by assumption) _).mono ?_; rintro e w' ⟨rfl, rfl⟩) | (go_at_call 30; refine (refCanon_any _ (by assumption) _).mono ?_; rintro e w' ⟨rfl, rfl⟩) | (go_at_call 33; refine (refIsNan_any _ (by assumption) _).mono ?_; rintro e w' ⟨rfl, rfl⟩))
  go_ret
  exact ⟨rfl, Grown.refl _⟩

set_option maxHeartbeats 1000000 in
theorem orders_a3t (x y z : Nat) (hx : x < 18446744073709551616) (hy : y < 18446744073709551616) (hz : z < 18446744073709551616) (h1 : ahead x y = true) (h3 : ahead y z = false) (n1 : isNan x = false) (n2 : isNan y = false) (z1 : (rung x == 0) = true) (z2 : (rung y == 0) = true) (w : World) :
    Calls Try.prog 7 #[.int .u64 x, .int .u64 y, .int .u64 z] w fun e w' => e = .returned (.bool true) ∧ Grown w w' := by
  have r := rankI_lt x y
  rw [h1] at r
  have h2 := ahead_asymm h1
  have bz : bothZero x y = true := by unfold bothZero; rw [z1, z2]; rfl
  have f1 := fless_eq x y hx hy n1 n2
  have f2 := fsame_eq x y hx hy n1 n2
  have en := ahead_ne (.inl h1)
  rw [h1, bz] at f1
  rw [ahead_ne' (.inl h1), bz] at f2
  have zx := zero_bit x hx
  rw [z1] at zx
  have zy := zero_bit y hy
  rw [z2] at zy
  clear bz z1 z2
  go_enter Try.func7, Try.ntmps7
  go_wp2_with (first | (go_at_call 12; refine (counts_any _).mono ?_; rintro e w' ⟨rfl, rfl⟩) | (go_at_call 34; refine (less_any _ _ _).mono ?_; rintro e w' ⟨rfl, rfl⟩) | (go_at_call 35; refine (same_any _ _ _).mono ?_; rintro e w' ⟨rfl, rfl⟩) | (go_at_call 31; refine (ahead_any _ _ (by assumption) (by assumption) _).mono ?_; rintro e w' ⟨rfl, rfl⟩) | (go_at_call 32; refine (rankI_any _ (by assumption) _).mono ?_; rintro e w' ⟨rfl, rfl⟩) | (go_at_call 30; refine (refCanon_any _ (by assumption) _).mono ?_; rintro e w' ⟨rfl, rfl⟩) | (go_at_call 33; refine (refIsNan_any _ (by assumption) _).mono ?_; rintro e w' ⟨rfl, rfl⟩))
  go_ret
  exact ⟨rfl, Grown.refl _⟩

set_option maxHeartbeats 1000000 in
theorem orders_b3f (x y z : Nat) (hx : x < 18446744073709551616) (hy : y < 18446744073709551616) (hz : z < 18446744073709551616) (h1 : ahead x y = true) (h3 : ahead y z = true) (n1 : isNan x = false) (n2 : isNan y = false) (z1 : (rung x == 0) = false) (w : World) :
    Calls Try.prog 7 #[.int .u64 x, .int .u64 y, .int .u64 z] w fun e w' => e = .returned (.bool true) ∧ Grown w w' := by
  have r := rankI_lt x y
  rw [h1] at r
  have h2 := ahead_asymm h1
  have h4 := ahead_trans h1 h3
  have bz : bothZero x y = false := by unfold bothZero; rw [z1]; rfl
  have f1 := fless_eq x y hx hy n1 n2
  have f2 := fsame_eq x y hx hy n1 n2
  have en := ahead_ne (.inl h1)
  rw [h1, bz] at f1
  rw [ahead_ne' (.inl h1), bz] at f2
  have zx := zero_bit x hx
  rw [z1] at zx
  clear bz z1
  go_enter Try.func7, Try.ntmps7
  go_wp2_with (first | (go_at_call 12; refine (counts_any _).mono ?_; rintro e w' ⟨rfl, rfl⟩) | (go_at_call 34; refine (less_any _ _ _).mono ?_; rintro e w' ⟨rfl, rfl⟩) | (go_at_call 35; refine (same_any _ _ _).mono ?_; rintro e w' ⟨rfl, rfl⟩) | (go_at_call 31; refine (ahead_any _ _ (by assumption) (by assumption) _).mono ?_; rintro e w' ⟨rfl, rfl⟩) | (go_at_call 32; refine (rankI_any _ (by assumption) _).mono ?_; rintro e w' ⟨rfl, rfl⟩) | (go_at_call 30; refine (refCanon_any _ (by assumption) _).mono ?_; rintro e w' ⟨rfl, rfl⟩) | (go_at_call 33; refine (refIsNan_any _ (by assumption) _).mono ?_; rintro e w' ⟨rfl, rfl⟩))
  go_ret
  exact ⟨rfl, Grown.refl _⟩

set_option maxHeartbeats 1000000 in
theorem orders_b3g (x y z : Nat) (hx : x < 18446744073709551616) (hy : y < 18446744073709551616) (hz : z < 18446744073709551616) (h1 : ahead x y = true) (h3 : ahead y z = true) (n1 : isNan x = false) (n2 : isNan y = false) (z1 : (rung x == 0) = true) (z2 : (rung y == 0) = false) (w : World) :
    Calls Try.prog 7 #[.int .u64 x, .int .u64 y, .int .u64 z] w fun e w' => e = .returned (.bool true) ∧ Grown w w' := by
  have r := rankI_lt x y
  rw [h1] at r
  have h2 := ahead_asymm h1
  have h4 := ahead_trans h1 h3
  have bz : bothZero x y = false := by unfold bothZero; rw [z1, z2]; rfl
  have f1 := fless_eq x y hx hy n1 n2
  have f2 := fsame_eq x y hx hy n1 n2
  have en := ahead_ne (.inl h1)
  rw [h1, bz] at f1
  rw [ahead_ne' (.inl h1), bz] at f2
  have zx := zero_bit x hx
  rw [z1] at zx
  have zy := zero_bit y hy
  rw [z2] at zy
  clear bz z1 z2
  go_enter Try.func7, Try.ntmps7
  go_wp2_with (first | (go_at_call 12; refine (counts_any _).mono ?_; rintro e w' ⟨rfl, rfl⟩) | (go_at_call 34; refine (less_any _ _ _).mono ?_; rintro e w' ⟨rfl, rfl⟩) | (go_at_call 35; refine (same_any _ _ _).mono ?_; rintro e w' ⟨rfl, rfl⟩) | (go_at_call 31; refine (ahead_any _ _ (by assumption) (by assumption) _).mono ?_; rintro e w' ⟨rfl, rfl⟩) | (go_at_call 32; refine (rankI_any _ (by assumption) _).mono ?_; rintro e w' ⟨rfl, rfl⟩) | (go_at_call 30; refine (refCanon_any _ (by assumption) _).mono ?_; rintro e w' ⟨rfl, rfl⟩) | (go_at_call 33; refine (refIsNan_any _ (by assumption) _).mono ?_; rintro e w' ⟨rfl, rfl⟩))
  go_ret
  exact ⟨rfl, Grown.refl _⟩

set_option maxHeartbeats 1000000 in
theorem orders_b3t (x y z : Nat) (hx : x < 18446744073709551616) (hy : y < 18446744073709551616) (hz : z < 18446744073709551616) (h1 : ahead x y = true) (h3 : ahead y z = true) (n1 : isNan x = false) (n2 : isNan y = false) (z1 : (rung x == 0) = true) (z2 : (rung y == 0) = true) (w : World) :
    Calls Try.prog 7 #[.int .u64 x, .int .u64 y, .int .u64 z] w fun e w' => e = .returned (.bool true) ∧ Grown w w' := by
  have r := rankI_lt x y
  rw [h1] at r
  have h2 := ahead_asymm h1
  have h4 := ahead_trans h1 h3
  have bz : bothZero x y = true := by unfold bothZero; rw [z1, z2]; rfl
  have f1 := fless_eq x y hx hy n1 n2
  have f2 := fsame_eq x y hx hy n1 n2
  have en := ahead_ne (.inl h1)
  rw [h1, bz] at f1
  rw [ahead_ne' (.inl h1), bz] at f2
  have zx := zero_bit x hx
  rw [z1] at zx
  have zy := zero_bit y hy
  rw [z2] at zy
  clear bz z1 z2
  go_enter Try.func7, Try.ntmps7
  go_wp2_with (first | (go_at_call 12; refine (counts_any _).mono ?_; rintro e w' ⟨rfl, rfl⟩) | (go_at_call 34; refine (less_any _ _ _).mono ?_; rintro e w' ⟨rfl, rfl⟩) | (go_at_call 35; refine (same_any _ _ _).mono ?_; rintro e w' ⟨rfl, rfl⟩) | (go_at_call 31; refine (ahead_any _ _ (by assumption) (by assumption) _).mono ?_; rintro e w' ⟨rfl, rfl⟩) | (go_at_call 32; refine (rankI_any _ (by assumption) _).mono ?_; rintro e w' ⟨rfl, rfl⟩) | (go_at_call 30; refine (refCanon_any _ (by assumption) _).mono ?_; rintro e w' ⟨rfl, rfl⟩) | (go_at_call 33; refine (refIsNan_any _ (by assumption) _).mono ?_; rintro e w' ⟨rfl, rfl⟩))
  go_ret
  exact ⟨rfl, Grown.refl _⟩

set_option maxHeartbeats 1000000 in
theorem orders_c3f (x y z : Nat) (hx : x < 18446744073709551616) (hy : y < 18446744073709551616) (hz : z < 18446744073709551616) (h1 : ahead x y = false) (h2 : ahead y x = true) (n1 : isNan x = false) (n2 : isNan y = false) (z1 : (rung x == 0) = false) (w : World) :
    Calls Try.prog 7 #[.int .u64 x, .int .u64 y, .int .u64 z] w fun e w' => e = .returned (.bool true) ∧ Grown w w' := by
  have r := rankI_lt x y
  rw [h1] at r
  have bz : bothZero x y = false := by unfold bothZero; rw [z1]; rfl
  have f1 := fless_eq x y hx hy n1 n2
  have f2 := fsame_eq x y hx hy n1 n2
  have en := ahead_ne (.inr h2)
  rw [h1, bz] at f1
  rw [ahead_ne' (.inr h2), bz] at f2
  have zx := zero_bit x hx
  rw [z1] at zx
  clear bz z1
  go_enter Try.func7, Try.ntmps7
  go_wp2_with (first | (go_at_call 12; refine (counts_any _).mono ?_; rintro e w' ⟨rfl, rfl⟩) | (go_at_call 34; refine (less_any _ _ _).mono ?_; rintro e w' ⟨rfl, rfl⟩) | (go_at_call 35; refine (same_any _ _ _).mono ?_; rintro e w' ⟨rfl, rfl⟩) | (go_at_call 31; refine (ahead_any _ _ (by assumption) (by assumption) _).mono ?_; rintro e w' ⟨rfl, rfl⟩) | (go_at_call 32; refine (rankI_any _ (by assumption) _).mono ?_; rintro e w' ⟨rfl, rfl⟩) | (go_at_call 30; refine (refCanon_any _ (by assumption) _).mono ?_; rintro e w' ⟨rfl, rfl⟩) | (go_at_call 33; refine (refIsNan_any _ (by assumption) _).mono ?_; rintro e w' ⟨rfl, rfl⟩))
  go_ret
  exact ⟨rfl, Grown.refl _⟩

set_option maxHeartbeats 1000000 in
theorem orders_c3g (x y z : Nat) (hx : x < 18446744073709551616) (hy : y < 18446744073709551616) (hz : z < 18446744073709551616) (h1 : ahead x y = false) (h2 : ahead y x = true) (n1 : isNan x = false) (n2 : isNan y = false) (z1 : (rung x == 0) = true) (z2 : (rung y == 0) = false) (w : World) :
    Calls Try.prog 7 #[.int .u64 x, .int .u64 y, .int .u64 z] w fun e w' => e = .returned (.bool true) ∧ Grown w w' := by
  have r := rankI_lt x y
  rw [h1] at r
  have bz : bothZero x y = false := by unfold bothZero; rw [z1, z2]; rfl
  have f1 := fless_eq x y hx hy n1 n2
  have f2 := fsame_eq x y hx hy n1 n2
  have en := ahead_ne (.inr h2)
  rw [h1, bz] at f1
  rw [ahead_ne' (.inr h2), bz] at f2
  have zx := zero_bit x hx
  rw [z1] at zx
  have zy := zero_bit y hy
  rw [z2] at zy
  clear bz z1 z2
  go_enter Try.func7, Try.ntmps7
  go_wp2_with (first | (go_at_call 12; refine (counts_any _).mono ?_; rintro e w' ⟨rfl, rfl⟩) | (go_at_call 34; refine (less_any _ _ _).mono ?_; rintro e w' ⟨rfl, rfl⟩) | (go_at_call 35; refine (same_any _ _ _).mono ?_; rintro e w' ⟨rfl, rfl⟩) | (go_at_call 31; refine (ahead_any _ _ (by assumption) (by assumption) _).mono ?_; rintro e w' ⟨rfl, rfl⟩) | (go_at_call 32; refine (rankI_any _ (by assumption) _).mono ?_; rintro e w' ⟨rfl, rfl⟩) | (go_at_call 30; refine (refCanon_any _ (by assumption) _).mono ?_; rintro e w' ⟨rfl, rfl⟩) | (go_at_call 33; refine (refIsNan_any _ (by assumption) _).mono ?_; rintro e w' ⟨rfl, rfl⟩))
  go_ret
  exact ⟨rfl, Grown.refl _⟩

set_option maxHeartbeats 1000000 in
theorem orders_c3t (x y z : Nat) (hx : x < 18446744073709551616) (hy : y < 18446744073709551616) (hz : z < 18446744073709551616) (h1 : ahead x y = false) (h2 : ahead y x = true) (n1 : isNan x = false) (n2 : isNan y = false) (z1 : (rung x == 0) = true) (z2 : (rung y == 0) = true) (w : World) :
    Calls Try.prog 7 #[.int .u64 x, .int .u64 y, .int .u64 z] w fun e w' => e = .returned (.bool true) ∧ Grown w w' := by
  have r := rankI_lt x y
  rw [h1] at r
  have bz : bothZero x y = true := by unfold bothZero; rw [z1, z2]; rfl
  have f1 := fless_eq x y hx hy n1 n2
  have f2 := fsame_eq x y hx hy n1 n2
  have en := ahead_ne (.inr h2)
  rw [h1, bz] at f1
  rw [ahead_ne' (.inr h2), bz] at f2
  have zx := zero_bit x hx
  rw [z1] at zx
  have zy := zero_bit y hy
  rw [z2] at zy
  clear bz z1 z2
  go_enter Try.func7, Try.ntmps7
  go_wp2_with (first | (go_at_call 12; refine (counts_any _).mono ?_; rintro e w' ⟨rfl, rfl⟩) | (go_at_call 34; refine (less_any _ _ _).mono ?_; rintro e w' ⟨rfl, rfl⟩) | (go_at_call 35; refine (same_any _ _ _).mono ?_; rintro e w' ⟨rfl, rfl⟩) | (go_at_call 31; refine (ahead_any _ _ (by assumption) (by assumption) _).mono ?_; rintro e w' ⟨rfl, rfl⟩) | (go_at_call 32; refine (rankI_any _ (by assumption) _).mono ?_; rintro e w' ⟨rfl, rfl⟩) | (go_at_call 30; refine (refCanon_any _ (by assumption) _).mono ?_; rintro e w' ⟨rfl, rfl⟩) | (go_at_call 33; refine (refIsNan_any _ (by assumption) _).mono ?_; rintro e w' ⟨rfl, rfl⟩))
  go_ret
  exact ⟨rfl, Grown.refl _⟩

set_option maxHeartbeats 1000000 in
theorem orders_d3f (x z : Nat) (hx : x < 18446744073709551616) (hz : z < 18446744073709551616) (n1 : isNan x = false) (z1 : (rung x == 0) = false) (w : World) :
    Calls Try.prog 7 #[.int .u64 x, .int .u64 x, .int .u64 z] w fun e w' => e = .returned (.bool true) ∧ Grown w w' := by
  have h1 : ahead x x = false := decide_eq_false (by omega)
  have r := rankI_lt x x
  rw [h1] at r
  have bz : bothZero x x = false := by unfold bothZero; rw [z1]; rfl
  have f1 := fless_eq x x hx hx n1 n1
  have f2 := fsame_eq x x hx hx n1 n1
  rw [h1, bz] at f1
  have f2' : fsame x x = true := by rw [f2]; simp
  clear f2
  have zx := zero_bit x hx
  rw [z1] at zx
  clear bz z1
  go_enter Try.func7, Try.ntmps7
  go_wp2_with (first | (go_at_call 12; refine (counts_any _).mono ?_; rintro e w' ⟨rfl, rfl⟩) | (go_at_call 34; refine (less_any _ _ _).mono ?_; rintro e w' ⟨rfl, rfl⟩) | (go_at_call 35; refine (same_any _ _ _).mono ?_; rintro e w' ⟨rfl, rfl⟩) | (go_at_call 31; refine (ahead_any _ _ (by assumption) (by assumption) _).mono ?_; rintro e w' ⟨rfl, rfl⟩) | (go_at_call 32; refine (rankI_any _ (by assumption) _).mono ?_; rintro e w' ⟨rfl, rfl⟩) | (go_at_call 30; refine (refCanon_any _ (by assumption) _).mono ?_; rintro e w' ⟨rfl, rfl⟩) | (go_at_call 33; refine (refIsNan_any _ (by assumption) _).mono ?_; rintro e w' ⟨rfl, rfl⟩))
  go_ret
  exact ⟨rfl, Grown.refl _⟩

set_option maxHeartbeats 1000000 in
theorem orders_d3t (x z : Nat) (hx : x < 18446744073709551616) (hz : z < 18446744073709551616) (n1 : isNan x = false) (z1 : (rung x == 0) = true) (w : World) :
    Calls Try.prog 7 #[.int .u64 x, .int .u64 x, .int .u64 z] w fun e w' => e = .returned (.bool true) ∧ Grown w w' := by
  have h1 : ahead x x = false := decide_eq_false (by omega)
  have r := rankI_lt x x
  rw [h1] at r
  have bz : bothZero x x = true := by unfold bothZero; rw [z1]; rfl
  have f1 := fless_eq x x hx hx n1 n1
  have f2 := fsame_eq x x hx hx n1 n1
  rw [h1, bz] at f1
  have f2' : fsame x x = true := by rw [f2]; simp
  clear f2
  have zx := zero_bit x hx
  rw [z1] at zx
  clear bz z1
  go_enter Try.func7, Try.ntmps7
  go_wp2_with (first | (go_at_call 12; refine (counts_any _).mono ?_; rintro e w' ⟨rfl, rfl⟩) | (go_at_call 34; refine (less_any _ _ _).mono ?_; rintro e w' ⟨rfl, rfl⟩) | (go_at_call 35; refine (same_any _ _ _).mono ?_; rintro e w' ⟨rfl, rfl⟩) | (go_at_call 31; refine (ahead_any _ _ (by assumption) (by assumption) _).mono ?_; rintro e w' ⟨rfl, rfl⟩) | (go_at_call 32; refine (rankI_any _ (by assumption) _).mono ?_; rintro e w' ⟨rfl, rfl⟩) | (go_at_call 30; refine (refCanon_any _ (by assumption) _).mono ?_; rintro e w' ⟨rfl, rfl⟩) | (go_at_call 33; refine (refIsNan_any _ (by assumption) _).mono ?_; rintro e w' ⟨rfl, rfl⟩))
  go_ret
  exact ⟨rfl, Grown.refl _⟩

theorem numOrders_walk (x y z : Nat) (hx : x < 18446744073709551616) (hy : y < 18446744073709551616) (hz : z < 18446744073709551616) (w : World) :
    Calls Try.prog 7 #[.int .u64 x, .int .u64 y, .int .u64 z] w fun e w' => e = .returned (.bool true) ∧ Grown w w' := by
  cases h1 : ahead x y
  · cases h2 : ahead y x
    · cases n1 : isNan x
      · cases n2 : isNan y
        · have e := ahead_canon hx hy h1 h2
          rw [canon_not n1, canon_not n2] at e
          subst e
          cases z1 : (rung x == 0)
          · exact orders_d3f x z hx hz n1 z1 w
          · exact orders_d3t x z hx hz n1 z1 w
        · exact orders_d2 x y z hx hy hz h1 h2 n1 n2 w
      · exact orders_d1 x y z hx hy hz h1 h2 n1 w
    · cases n1 : isNan x
      · cases n2 : isNan y
        · cases z1 : (rung x == 0)
          · exact orders_c3f x y z hx hy hz h1 h2 n1 n2 z1 w
          · cases z2 : (rung y == 0)
            · exact orders_c3g x y z hx hy hz h1 h2 n1 n2 z1 z2 w
            · exact orders_c3t x y z hx hy hz h1 h2 n1 n2 z1 z2 w
        · exact orders_c2 x y z hx hy hz h1 h2 n1 n2 w
      · exact orders_c1 x y z hx hy hz h1 h2 n1 w
  · cases h3 : ahead y z
    · cases n1 : isNan x
      · cases n2 : isNan y
        · cases z1 : (rung x == 0)
          · exact orders_a3f x y z hx hy hz h1 h3 n1 n2 z1 w
          · cases z2 : (rung y == 0)
            · exact orders_a3g x y z hx hy hz h1 h3 n1 n2 z1 z2 w
            · exact orders_a3t x y z hx hy hz h1 h3 n1 n2 z1 z2 w
        · exact orders_a2 x y z hx hy hz h1 h3 n1 n2 w
      · exact orders_a1 x y z hx hy hz h1 h3 n1 w
    · cases n1 : isNan x
      · cases n2 : isNan y
        · cases z1 : (rung x == 0)
          · exact orders_b3f x y z hx hy hz h1 h3 n1 n2 z1 w
          · cases z2 : (rung y == 0)
            · exact orders_b3g x y z hx hy hz h1 h3 n1 n2 z1 z2 w
            · exact orders_b3t x y z hx hy hz h1 h3 n1 n2 z1 z2 w
        · exact orders_b2 x y z hx hy hz h1 h3 n1 n2 w
      · exact orders_b1 x y z hx hy hz h1 h3 n1 w

theorem numOrders_law (a b c : Int) (w0 : (Lit.int .u64 a).wf = true) (w1 : (Lit.int .u64 b).wf = true) (w2 : (Lit.int .u64 c).wf = true) (w : World) :
    Calls Try.prog 7 #[.int .u64 a, .int .u64 b, .int .u64 c] w fun e w' => e = .returned (.bool true) ∧ Grown w w' := by
  obtain ⟨x, rfl, hx⟩ := u64_wf w0
  obtain ⟨y, rfl, hy⟩ := u64_wf w1
  obtain ⟨z, rfl, hz⟩ := u64_wf w2
  exact numOrders_walk x y z hx hy hz w

end Go.Proofs.Ytakbkfcnaalnkaa
