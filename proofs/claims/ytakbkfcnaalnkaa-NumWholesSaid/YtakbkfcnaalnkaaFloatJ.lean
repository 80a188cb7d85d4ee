/-
  The integer of a float, and a float of an integer: the law NumWholes.
-/
import Derived.Test.YtakbkfcnaalnkaaFloatH
import Derived.Test.YtakbkfcnaalnkaaFloatK
namespace Go.Proofs.Ytakbkfcnaalnkaa
open Go.ChangeShapes Go.WideShapes Go.ChangeAt Go.RowKit
open Go.IntWalk (wrap64_in)
set_option linter.unusedVariables false

theorem ret_two {k l : IntKind} {a b c d : Int} (h : a = b) (g : c = d) : Ending.returned (.tuple #[.int k a, .int l c]) = .returned (.tuple #[.int k b, .int l d]) := by rw [h, g]

theorem sign_bit' (x : Nat) (hx : x < 18446744073709551616) : ((x : Int) / 9223372036854775808 == 1) = neg? x := by
  unfold neg?
  rw [Bool.eq_iff_iff, beq_iff_eq, beq_iff_eq]
  omega
theorem c_div (F k : Nat) : ((F : Int) + 4503599627370496) / 2 ^ k = ((4503599627370496 + F) / 2 ^ k : Nat) := by
  rw [Int.natCast_ediv, Int.natCast_add, Int.natCast_pow, Int.add_comm]; rfl
theorem c_mul (F k : Nat) : ((F : Int) + 4503599627370496) * 2 ^ k = ((4503599627370496 + F) * 2 ^ k : Nat) := by
  rw [Int.natCast_mul, Int.natCast_add, Int.natCast_pow, Int.add_comm]; rfl
theorem neg_in (q : Nat) (h : q ≤ 9223372036854775807) : wrap64 (-(q : Int)) = -(q : Int) := wrap64_in _ (by omega)
theorem pos_in (q : Nat) (h : q ≤ 9223372036854775807) : wrap64 (q : Int) = (q : Int) := wrap64_in _ (by omega)
theorem div_bound (F k : Nat) (h : F < 4503599627370496) : (4503599627370496 + F) / 2 ^ k ≤ 9007199254740992 := Nat.le_trans (Nat.div_le_self _ _) (by omega)
theorem mul_bound (F k : Nat) (h : F < 4503599627370496) (hk : k ≤ 9) : (4503599627370496 + F) * 2 ^ k ≤ 4611686018427387904 := by
  have h1 : (2 : Nat) ^ k ≤ 2 ^ 9 := Nat.pow_le_pow_right (by decide) hk
  have h2 : (4503599627370496 + F) * 2 ^ k ≤ 9007199254740992 * 2 ^ 9 := Nat.mul_le_mul (by omega) h1
  omega

theorem whole_gl (x : Nat) (h1 : FloatKind.f64.format.order x 14109777632551763968 = some .gt) (h2 : FloatKind.f64.format.order x 4886405595696988160 = some .lt) (ok : okW x = true) (w : World) :
    Calls Try.prog 36 #[.int .u64 x] w fun e w' => e = .returned (.tuple #[.int .i64 (tr x), .int .i64 0]) ∧ w = w' := by
  have hcv : ∀ w, (convert 38 3 (.float .f64 x)).run Try.prog w = .ok (.int .i64 (tr x)) w := fun w => run_convert_float_int w 38 3 .f64 .i64 x (tr x) (by kernel_rfl) (by kernel_rfl) (floatToInt_tr x ok)
  clear ok
  go_enter Try.func36, Try.ntmps36
  go_wp2_with (go_at_call 29; refine (go_any _ _).mono ?_; rintro e w' ⟨rfl, rfl⟩)
  go_ret2
  exact ⟨rfl, rfl⟩
theorem whole_el (x : Nat) (h1 : FloatKind.f64.format.order x 14109777632551763968 = some .eq) (h2 : FloatKind.f64.format.order x 4886405595696988160 = some .lt) (ok : okW x = true) (w : World) :
    Calls Try.prog 36 #[.int .u64 x] w fun e w' => e = .returned (.tuple #[.int .i64 (tr x), .int .i64 0]) ∧ w = w' := by
  have hcv : ∀ w, (convert 38 3 (.float .f64 x)).run Try.prog w = .ok (.int .i64 (tr x)) w := fun w => run_convert_float_int w 38 3 .f64 .i64 x (tr x) (by kernel_rfl) (by kernel_rfl) (floatToInt_tr x ok)
  clear ok
  go_enter Try.func36, Try.ntmps36
  go_wp2_with (go_at_call 29; refine (go_any _ _).mono ?_; rintro e w' ⟨rfl, rfl⟩)
  go_ret2
  exact ⟨rfl, rfl⟩
theorem whole_n (x : Nat) (h1 : FloatKind.f64.format.order x 14109777632551763968 = none) (w : World) :
    Calls Try.prog 36 #[.int .u64 x] w fun e w' => e = .returned (.tuple #[.int .i64 0, .int .i64 1]) ∧ w = w' := by
  go_enter Try.func36, Try.ntmps36
  go_wp2_with (go_at_call 29; refine (go_any _ _).mono ?_; rintro e w' ⟨rfl, rfl⟩)
  go_ret2
  exact ⟨rfl, rfl⟩
theorem whole_l (x : Nat) (h1 : FloatKind.f64.format.order x 14109777632551763968 = some .lt) (w : World) :
    Calls Try.prog 36 #[.int .u64 x] w fun e w' => e = .returned (.tuple #[.int .i64 0, .int .i64 1]) ∧ w = w' := by
  go_enter Try.func36, Try.ntmps36
  go_wp2_with (go_at_call 29; refine (go_any _ _).mono ?_; rintro e w' ⟨rfl, rfl⟩)
  go_ret2
  exact ⟨rfl, rfl⟩
theorem whole_gn (x : Nat) (h1 : FloatKind.f64.format.order x 14109777632551763968 = some .gt) (h2 : FloatKind.f64.format.order x 4886405595696988160 = none) (w : World) :
    Calls Try.prog 36 #[.int .u64 x] w fun e w' => e = .returned (.tuple #[.int .i64 0, .int .i64 1]) ∧ w = w' := by
  go_enter Try.func36, Try.ntmps36
  go_wp2_with (go_at_call 29; refine (go_any _ _).mono ?_; rintro e w' ⟨rfl, rfl⟩)
  go_ret2
  exact ⟨rfl, rfl⟩
theorem whole_ge (x : Nat) (h1 : FloatKind.f64.format.order x 14109777632551763968 = some .gt) (h2 : FloatKind.f64.format.order x 4886405595696988160 = some .eq) (w : World) :
    Calls Try.prog 36 #[.int .u64 x] w fun e w' => e = .returned (.tuple #[.int .i64 0, .int .i64 1]) ∧ w = w' := by
  go_enter Try.func36, Try.ntmps36
  go_wp2_with (go_at_call 29; refine (go_any _ _).mono ?_; rintro e w' ⟨rfl, rfl⟩)
  go_ret2
  exact ⟨rfl, rfl⟩
theorem whole_gg (x : Nat) (h1 : FloatKind.f64.format.order x 14109777632551763968 = some .gt) (h2 : FloatKind.f64.format.order x 4886405595696988160 = some .gt) (w : World) :
    Calls Try.prog 36 #[.int .u64 x] w fun e w' => e = .returned (.tuple #[.int .i64 0, .int .i64 1]) ∧ w = w' := by
  go_enter Try.func36, Try.ntmps36
  go_wp2_with (go_at_call 29; refine (go_any _ _).mono ?_; rintro e w' ⟨rfl, rfl⟩)
  go_ret2
  exact ⟨rfl, rfl⟩
theorem whole_en (x : Nat) (h1 : FloatKind.f64.format.order x 14109777632551763968 = some .eq) (h2 : FloatKind.f64.format.order x 4886405595696988160 = none) (w : World) :
    Calls Try.prog 36 #[.int .u64 x] w fun e w' => e = .returned (.tuple #[.int .i64 0, .int .i64 1]) ∧ w = w' := by
  go_enter Try.func36, Try.ntmps36
  go_wp2_with (go_at_call 29; refine (go_any _ _).mono ?_; rintro e w' ⟨rfl, rfl⟩)
  go_ret2
  exact ⟨rfl, rfl⟩
theorem whole_ee (x : Nat) (h1 : FloatKind.f64.format.order x 14109777632551763968 = some .eq) (h2 : FloatKind.f64.format.order x 4886405595696988160 = some .eq) (w : World) :
    Calls Try.prog 36 #[.int .u64 x] w fun e w' => e = .returned (.tuple #[.int .i64 0, .int .i64 1]) ∧ w = w' := by
  go_enter Try.func36, Try.ntmps36
  go_wp2_with (go_at_call 29; refine (go_any _ _).mono ?_; rintro e w' ⟨rfl, rfl⟩)
  go_ret2
  exact ⟨rfl, rfl⟩
theorem whole_eg (x : Nat) (h1 : FloatKind.f64.format.order x 14109777632551763968 = some .eq) (h2 : FloatKind.f64.format.order x 4886405595696988160 = some .gt) (w : World) :
    Calls Try.prog 36 #[.int .u64 x] w fun e w' => e = .returned (.tuple #[.int .i64 0, .int .i64 1]) ∧ w = w' := by
  go_enter Try.func36, Try.ntmps36
  go_wp2_with (go_at_call 29; refine (go_any _ _).mono ?_; rintro e w' ⟨rfl, rfl⟩)
  go_ret2
  exact ⟨rfl, rfl⟩

theorem whole_ok (x : Nat) (hx : x < 18446744073709551616) (ok : okW x = true) (w : World) :
    Calls Try.prog 36 #[.int .u64 x] w fun e w' => e = .returned (.tuple #[.int .i64 (tr x), .int .i64 0]) ∧ w = w' := by
  have n : isNan x = false := by
    cases n : isNan x
    · rfl
    · rw [okW_nan x n] at ok; cases ok
  have h2 : (FloatKind.f64.format.order x 4886405595696988160 == some .lt) = (decide (rung x < RB) || neg? x) := lss_most x n
  have h1 : (FloatKind.f64.format.order x 14109777632551763968 == some .gt || FloatKind.f64.format.order x 14109777632551763968 == some .eq) = (!neg? x || decide (rung x ≤ RB)) := geq_least x n
  have r := okW_rung ok
  have e2 : (decide (rung x < RB) || neg? x) = true := by
    unfold okW at ok
    cases g : neg? x
    · rw [g] at ok; simpa using ok
    · simp
  have e1 : (!neg? x || decide (rung x ≤ RB)) = true := by simp [r]
  rw [e2, beq_iff_eq] at h2
  rw [e1, Bool.or_eq_true, beq_iff_eq, beq_iff_eq] at h1
  rcases h1 with h1 | h1
  · exact whole_gl x h1 h2 ok w
  · exact whole_el x h1 h2 ok w

theorem whole_no (x : Nat) (hx : x < 18446744073709551616) (ok : okW x = false) (w : World) :
    Calls Try.prog 36 #[.int .u64 x] w fun e w' => e = .returned (.tuple #[.int .i64 0, .int .i64 1]) ∧ w = w' := by
  cases n : isNan x
  · have h2 : (FloatKind.f64.format.order x 4886405595696988160 == some .lt) = (decide (rung x < RB) || neg? x) := lss_most x n
    have h1 : (FloatKind.f64.format.order x 14109777632551763968 == some .gt || FloatKind.f64.format.order x 14109777632551763968 == some .eq) = (!neg? x || decide (rung x ≤ RB)) := geq_least x n
    have both : ¬ ((decide (rung x < RB) || neg? x) = true ∧ (!neg? x || decide (rung x ≤ RB)) = true) := by
      unfold okW at ok
      cases g : neg? x
      · rw [g] at ok; simpa using ok
      · rw [g] at ok; simp at ok ⊢; omega
    rw [← h1, ← h2] at both
    clear h1 h2
    cases c1 : FloatKind.f64.format.order x 14109777632551763968 with
    | none => exact whole_n x c1 w
    | some o =>
      cases o with
      | lt => exact whole_l x c1 w
      | eq =>
        cases c2 : FloatKind.f64.format.order x 4886405595696988160 with
        | none => exact whole_en x c1 c2 w
        | some o =>
          cases o with
          | lt => rw [c1, c2] at both; exact absurd ⟨rfl, rfl⟩ both
          | eq => exact whole_ee x c1 c2 w
          | gt => exact whole_eg x c1 c2 w
      | gt =>
        cases c2 : FloatKind.f64.format.order x 4886405595696988160 with
        | none => exact whole_gn x c1 c2 w
        | some o =>
          cases o with
          | lt => rw [c1, c2] at both; exact absurd ⟨rfl, rfl⟩ both
          | eq => exact whole_ge x c1 c2 w
          | gt => exact whole_gg x c1 c2 w
  · exact whole_n x (order_nan_left x _ n) w

set_option maxRecDepth 100000 in
theorem refWhole_0 (x E F : Nat) (hx : x < 18446744073709551616) (hE : bits .and .u64 ((x : Int) / 4503599627370496) 2047 = (E : Int)) (hF : bits .and .u64 (x : Int) 4503599627370495 = (F : Int)) (f1 : F < 4503599627370496) (e1 : E = 2047) (w : World) :
    Calls Try.prog 37 #[.int .u64 x] w fun e w' => e = .returned (.tuple #[.int .i64 (0), .int .i64 1]) ∧ w = w' := by
  have E1 := Lib.hid e1
  clear e1
  have t1 : ((E : Int) == 2047) = true := by rw [E1.out]; rfl
  have t2 : E ≤ 2047 := by have := E1.out; omega
  go_enter Try.func37, Try.ntmps37
  go_wp2
  go_ret2
  exact ⟨rfl, rfl⟩

set_option maxRecDepth 100000 in
theorem refWhole_1 (x E F : Nat) (hx : x < 18446744073709551616) (hE : bits .and .u64 ((x : Int) / 4503599627370496) 2047 = (E : Int)) (hF : bits .and .u64 (x : Int) 4503599627370495 = (F : Int)) (f1 : F < 4503599627370496) (e1 : E < 1023) (w : World) :
    Calls Try.prog 37 #[.int .u64 x] w fun e w' => e = .returned (.tuple #[.int .i64 (0), .int .i64 0]) ∧ w = w' := by
  go_enter Try.func37, Try.ntmps37
  go_wp2
  go_ret2
  exact ⟨rfl, rfl⟩

set_option maxRecDepth 100000 in
theorem refWhole_2p (x E F : Nat) (hx : x < 18446744073709551616) (hE : bits .and .u64 ((x : Int) / 4503599627370496) 2047 = (E : Int)) (hF : bits .and .u64 (x : Int) 4503599627370495 = (F : Int)) (f1 : F < 4503599627370496) (e1 : 1023 ≤ E) (e2 : E ≤ 1075) (hs : ((x : Int) / 9223372036854775808 == 1) = false) (w : World) :
    Calls Try.prog 37 #[.int .u64 x] w fun e w' => e = .returned (.tuple #[.int .i64 (((4503599627370496 + F) / 2 ^ (1075 - E) : Nat)), .int .i64 0]) ∧ w = w' := by
  go_enter Try.func37, Try.ntmps37
  go_wp2
  go_ret2
  exact ⟨ret_two (c_div F _) rfl, rfl⟩

set_option maxRecDepth 100000 in
theorem refWhole_2n (x E F : Nat) (hx : x < 18446744073709551616) (hE : bits .and .u64 ((x : Int) / 4503599627370496) 2047 = (E : Int)) (hF : bits .and .u64 (x : Int) 4503599627370495 = (F : Int)) (f1 : F < 4503599627370496) (e1 : 1023 ≤ E) (e2 : E ≤ 1075) (hs : ((x : Int) / 9223372036854775808 == 1) = true) (w : World) :
    Calls Try.prog 37 #[.int .u64 x] w fun e w' => e = .returned (.tuple #[.int .i64 (-((4503599627370496 + F) / 2 ^ (1075 - E) : Nat)), .int .i64 0]) ∧ w = w' := by
  go_enter Try.func37, Try.ntmps37
  go_wp2
  go_ret2
  exact ⟨ret_two (by have b := div_bound F (1075 - E) f1; rw [c_div, neg_in _ (by omega)]) rfl, rfl⟩

set_option maxRecDepth 100000 in
theorem refWhole_3p (x E F : Nat) (hx : x < 18446744073709551616) (hE : bits .and .u64 ((x : Int) / 4503599627370496) 2047 = (E : Int)) (hF : bits .and .u64 (x : Int) 4503599627370495 = (F : Int)) (f1 : F < 4503599627370496) (e1 : 1075 < E) (e2 : E ≤ 1084) (hs : ((x : Int) / 9223372036854775808 == 1) = false) (w : World) :
    Calls Try.prog 37 #[.int .u64 x] w fun e w' => e = .returned (.tuple #[.int .i64 (((4503599627370496 + F) * 2 ^ (E - 1075) : Nat)), .int .i64 0]) ∧ w = w' := by
  go_enter Try.func37, Try.ntmps37
  go_wp2
  go_ret2
  exact ⟨ret_two (by have b := mul_bound F (E - 1075) f1 (by omega); rw [c_mul, pos_in _ (by omega)]) rfl, rfl⟩

set_option maxRecDepth 100000 in
theorem refWhole_3n (x E F : Nat) (hx : x < 18446744073709551616) (hE : bits .and .u64 ((x : Int) / 4503599627370496) 2047 = (E : Int)) (hF : bits .and .u64 (x : Int) 4503599627370495 = (F : Int)) (f1 : F < 4503599627370496) (e1 : 1075 < E) (e2 : E ≤ 1084) (hs : ((x : Int) / 9223372036854775808 == 1) = true) (w : World) :
    Calls Try.prog 37 #[.int .u64 x] w fun e w' => e = .returned (.tuple #[.int .i64 (-((4503599627370496 + F) * 2 ^ (E - 1075) : Nat)), .int .i64 0]) ∧ w = w' := by
  go_enter Try.func37, Try.ntmps37
  go_wp2
  go_ret2
  exact ⟨ret_two (by have b := mul_bound F (E - 1075) f1 (by omega); rw [c_mul, pos_in _ (by omega), neg_in _ (by omega)]) rfl, rfl⟩

set_option maxRecDepth 100000 in
theorem refWhole_4y (x E F : Nat) (hx : x < 18446744073709551616) (hE : bits .and .u64 ((x : Int) / 4503599627370496) 2047 = (E : Int)) (hF : bits .and .u64 (x : Int) 4503599627370495 = (F : Int)) (f1 : F < 4503599627370496) (e1 : 1084 < E) (e2 : E < 2047) (hq : ((x : Int) == 14109777632551763968) = true) (w : World) :
    Calls Try.prog 37 #[.int .u64 x] w fun e w' => e = .returned (.tuple #[.int .i64 (-4611686018427387904), .int .i64 0]) ∧ w = w' := by
  go_enter Try.func37, Try.ntmps37
  go_wp2
  go_ret2
  exact ⟨rfl, rfl⟩

set_option maxRecDepth 100000 in
theorem refWhole_4n (x E F : Nat) (hx : x < 18446744073709551616) (hE : bits .and .u64 ((x : Int) / 4503599627370496) 2047 = (E : Int)) (hF : bits .and .u64 (x : Int) 4503599627370495 = (F : Int)) (f1 : F < 4503599627370496) (e1 : 1084 < E) (e2 : E < 2047) (hq : ((x : Int) == 14109777632551763968) = false) (w : World) :
    Calls Try.prog 37 #[.int .u64 x] w fun e w' => e = .returned (.tuple #[.int .i64 (0), .int .i64 1]) ∧ w = w' := by
  go_enter Try.func37, Try.ntmps37
  go_wp2
  go_ret2
  exact ⟨rfl, rfl⟩


theorem refWhole_parts (x : Nat) (hx : x < 18446744073709551616) : ∃ E F : Nat, bits .and .u64 ((x : Int) / 4503599627370496) 2047 = (E : Int) ∧ bits .and .u64 (x : Int) 4503599627370495 = (F : Int) ∧ F < 4503599627370496 ∧ E = rung x / 4503599627370496 ∧ F = rung x % 4503599627370496 ∧ E ≤ 2047 := by
  refine ⟨rung x / 4503599627370496, rung x % 4503599627370496, ?_, ?_, by omega, rfl, rfl, by unfold rung; omega⟩
  · have h := u64_and_nat (x / 4503599627370496) 2047 (by omega) (by decide)
    rw [nat_mask11, show x / 4503599627370496 % 2048 = rung x / 4503599627370496 by unfold rung; omega] at h
    exact h
  · have h := u64_and_nat x 4503599627370495 hx (by decide)
    have e : x &&& 4503599627370495 = x % 4503599627370496 := Nat.and_two_pow_sub_one_eq_mod x 52
    rw [e, show x % 4503599627370496 = rung x % 4503599627370496 by unfold rung; omega] at h
    exact h

theorem refWhole_ok (x : Nat) (hx : x < 18446744073709551616) (ok : okW x = true) (w : World) :
    Calls Try.prog 37 #[.int .u64 x] w fun e w' => e = .returned (.tuple #[.int .i64 (tr x), .int .i64 0]) ∧ w = w' := by
  obtain ⟨E, F, hE, hF, f1, eE, eF, e2⟩ := refWhole_parts x hx
  have r := okW_rung ok
  have sb := sign_bit' x hx
  unfold RB at r
  by_cases c1 : E < 1023
  · have t : tr x = 0 := by unfold tr; rw [trN_small x (by omega)]; simp
    rw [t]
    exact refWhole_1 x E F hx hE hF f1 c1 w
  · by_cases c2 : E ≤ 1075
    · have t : trN x = (4503599627370496 + F) / 2 ^ (1075 - E) := by
        rw [trN_norm x (by omega), ← eE, ← eF]
        split
        · have : E = 1075 := by omega
          subst this
          simp
        · rfl
      unfold tr
      rw [t]
      cases g : neg? x
      · rw [g] at sb
        exact refWhole_2p x E F hx hE hF f1 (by omega) c2 sb w
      · rw [g] at sb
        exact refWhole_2n x E F hx hE hF f1 (by omega) c2 sb w
    · by_cases c3 : E ≤ 1084
      · have t : trN x = (4503599627370496 + F) * 2 ^ (E - 1075) := by
          rw [trN_norm x (by omega), ← eE, ← eF, if_pos (by omega)]
        unfold tr
        rw [t]
        cases g : neg? x
        · rw [g] at sb
          exact refWhole_3p x E F hx hE hF f1 (by omega) c3 sb w
        · rw [g] at sb
          exact refWhole_3n x E F hx hE hF f1 (by omega) c3 sb w
      · have hr : rung x = RB := by unfold RB; omega
        have g : neg? x = true := by
          unfold okW at ok
          rw [hr] at ok
          simpa using ok
        have t : tr x = -4611686018427387904 := by unfold tr; rw [g, tr_RB x hr]; rfl
        rw [t]
        refine refWhole_4y x E F hx hE hF f1 (by omega) (by omega) ?_ w
        rw [beq_iff_eq]
        have h2 : x / 9223372036854775808 % 2 = 1 := by unfold neg? at g; simpa using g
        unfold RB rung at hr
        omega

theorem refWhole_no (x : Nat) (hx : x < 18446744073709551616) (ok : okW x = false) (w : World) :
    Calls Try.prog 37 #[.int .u64 x] w fun e w' => e = .returned (.tuple #[.int .i64 0, .int .i64 1]) ∧ w = w' := by
  obtain ⟨E, F, hE, hF, f1, eE, eF, e2⟩ := refWhole_parts x hx
  unfold okW at ok
  rw [Bool.or_eq_false_iff, decide_eq_false_iff_not, Bool.and_eq_false_iff, beq_eq_false_iff_ne] at ok
  obtain ⟨o1, o2⟩ := ok
  by_cases c : E = 2047
  · exact refWhole_0 x E F hx hE hF f1 c w
  · refine refWhole_4n x E F hx hE hF f1 (by unfold RB at o1; omega) (by omega) ?_ w
    rw [beq_eq_false_iff_ne]
    intro e
    have e' : x = 14109777632551763968 := by omega
    subst e'
    rcases o2 with o | o
    · exact absurd o (by decide)
    · exact absurd o (by decide)

def WH (x : Nat) : Int := if okW x then tr x else 0
def WE (x : Nat) : Int := if okW x then 0 else 1
theorem whole_any (x : Nat) (hx : x < 18446744073709551616) (w : World) :
    Calls Try.prog 36 #[.int .u64 x] w fun e w' => e = .returned (.tuple #[.int .i64 (WH x), .int .i64 (WE x)]) ∧ w = w' := by
  unfold WH WE
  cases ok : okW x
  · exact whole_no x hx ok w
  · exact whole_ok x hx ok w
theorem refWhole_any (x : Nat) (hx : x < 18446744073709551616) (w : World) :
    Calls Try.prog 37 #[.int .u64 x] w fun e w' => e = .returned (.tuple #[.int .i64 (WH x), .int .i64 (WE x)]) ∧ w = w' := by
  unfold WH WE
  cases ok : okW x
  · exact refWhole_no x hx ok w
  · exact refWhole_ok x hx ok w

set_option maxHeartbeats 1000000 in
theorem wholes_tg (x : Nat) (n : Int) (hx : x < 18446744073709551616) (ok : okW x = true) (h1 : 9007199254740992 < w63 n) (w : World) :
    Calls Try.prog 8 #[.int .u64 x, .int .i64 n] w fun e w' => e = .returned (.bool true) ∧ Grown w w' := by
  have hD := ofIntBits_lt (w63 n)
  have hC := canon_lt _ hD
  have p1 : (WE x == 0) = true := by unfold WE; rw [ok]; rfl
  have p2 : (WE x != 0) = false := by unfold WE; rw [ok]; rfl
  have p3 : (WE x != 1) = true := by unfold WE; rw [ok]; rfl
  clear ok
  go_enter Try.func8, Try.ntmps8
  go_wp2_with (first | (go_at_call 12; refine (counts_any _).mono ?_; rintro e w' ⟨rfl, rfl⟩) | (go_at_call 36; (first | (with_reducible refine (whole_any x hx _).mono ?_) | (with_reducible refine (whole_any (canon (floatOfInt .f64 (w63 n))) hC _).mono ?_)); rintro e w' ⟨rfl, rfl⟩) | (go_at_call 37; refine (refWhole_any _ hx _).mono ?_; rintro e w' ⟨rfl, rfl⟩) | (go_at_call 11; refine (wrap_any _ _).mono ?_; rintro e w' ⟨rfl, rfl⟩) | (go_at_call 38; refine (ofInt_any _ _).mono ?_; rintro e w' ⟨rfl, rfl⟩) | (go_at_call 39; refine (refOf_any _ hD _).mono ?_; rintro e w' ⟨rfl, rfl⟩))
  go_ret
  exact ⟨rfl, Grown.refl _⟩

set_option maxHeartbeats 1000000 in
theorem wholes_tl (x : Nat) (n : Int) (hx : x < 18446744073709551616) (ok : okW x = true) (h1 : w63 n ≤ 9007199254740992) (h2 : w63 n < -9007199254740992) (w : World) :
    Calls Try.prog 8 #[.int .u64 x, .int .i64 n] w fun e w' => e = .returned (.bool true) ∧ Grown w w' := by
  have hD := ofIntBits_lt (w63 n)
  have hC := canon_lt _ hD
  have p1 : (WE x == 0) = true := by unfold WE; rw [ok]; rfl
  have p2 : (WE x != 0) = false := by unfold WE; rw [ok]; rfl
  have p3 : (WE x != 1) = true := by unfold WE; rw [ok]; rfl
  clear ok
  go_enter Try.func8, Try.ntmps8
  go_wp2_with (first | (go_at_call 12; refine (counts_any _).mono ?_; rintro e w' ⟨rfl, rfl⟩) | (go_at_call 36; (first | (with_reducible refine (whole_any x hx _).mono ?_) | (with_reducible refine (whole_any (canon (floatOfInt .f64 (w63 n))) hC _).mono ?_)); rintro e w' ⟨rfl, rfl⟩) | (go_at_call 37; refine (refWhole_any _ hx _).mono ?_; rintro e w' ⟨rfl, rfl⟩) | (go_at_call 11; refine (wrap_any _ _).mono ?_; rintro e w' ⟨rfl, rfl⟩) | (go_at_call 38; refine (ofInt_any _ _).mono ?_; rintro e w' ⟨rfl, rfl⟩) | (go_at_call 39; refine (refOf_any _ hD _).mono ?_; rintro e w' ⟨rfl, rfl⟩))
  go_ret
  exact ⟨rfl, Grown.refl _⟩

set_option maxHeartbeats 1000000 in
theorem wholes_ti (x : Nat) (n : Int) (hx : x < 18446744073709551616) (ok : okW x = true) (h1 : w63 n ≤ 9007199254740992) (h2 : -9007199254740992 ≤ w63 n) (w : World) :
    Calls Try.prog 8 #[.int .u64 x, .int .i64 n] w fun e w' => e = .returned (.bool true) ∧ Grown w w' := by
  have hD := ofIntBits_lt (w63 n)
  have hC := canon_lt _ hD
  have p1 : (WE x == 0) = true := by unfold WE; rw [ok]; rfl
  have p2 : (WE x != 0) = false := by unfold WE; rw [ok]; rfl
  have p3 : (WE x != 1) = true := by unfold WE; rw [ok]; rfl
  clear ok
  have q1 : (WE (canon (floatOfInt .f64 (w63 n))) == 0) = true := by
    have q := int_back (w63 n) h1 h2
    rw [canon_not q.1]; unfold WE; rw [q.2.1]; rfl
  have q2 : (WH (canon (floatOfInt .f64 (w63 n))) == w63 n) = true := by
    have q := int_back (w63 n) h1 h2
    rw [canon_not q.1]; unfold WH; rw [q.2.1, if_pos rfl, q.2.2]; simp
  go_enter Try.func8, Try.ntmps8
  go_wp2_with (first | (go_at_call 12; refine (counts_any _).mono ?_; rintro e w' ⟨rfl, rfl⟩) | (go_at_call 36; (first | (with_reducible refine (whole_any x hx _).mono ?_) | (with_reducible refine (whole_any (canon (floatOfInt .f64 (w63 n))) hC _).mono ?_)); rintro e w' ⟨rfl, rfl⟩) | (go_at_call 37; refine (refWhole_any _ hx _).mono ?_; rintro e w' ⟨rfl, rfl⟩) | (go_at_call 11; refine (wrap_any _ _).mono ?_; rintro e w' ⟨rfl, rfl⟩) | (go_at_call 38; refine (ofInt_any _ _).mono ?_; rintro e w' ⟨rfl, rfl⟩) | (go_at_call 39; refine (refOf_any _ hD _).mono ?_; rintro e w' ⟨rfl, rfl⟩))
  go_ret
  exact ⟨rfl, Grown.refl _⟩

set_option maxHeartbeats 1000000 in
theorem wholes_fg (x : Nat) (n : Int) (hx : x < 18446744073709551616) (ok : okW x = false) (h1 : 9007199254740992 < w63 n) (w : World) :
    Calls Try.prog 8 #[.int .u64 x, .int .i64 n] w fun e w' => e = .returned (.bool true) ∧ Grown w w' := by
  have hD := ofIntBits_lt (w63 n)
  have hC := canon_lt _ hD
  have p1 : (WE x == 0) = false := by unfold WE; rw [ok]; rfl
  have p2 : (WE x != 0) = true := by unfold WE; rw [ok]; rfl
  have p3 : (WE x != 1) = false := by unfold WE; rw [ok]; rfl
  clear ok
  go_enter Try.func8, Try.ntmps8
  go_wp2_with (first | (go_at_call 12; refine (counts_any _).mono ?_; rintro e w' ⟨rfl, rfl⟩) | (go_at_call 36; (first | (with_reducible refine (whole_any x hx _).mono ?_) | (with_reducible refine (whole_any (canon (floatOfInt .f64 (w63 n))) hC _).mono ?_)); rintro e w' ⟨rfl, rfl⟩) | (go_at_call 37; refine (refWhole_any _ hx _).mono ?_; rintro e w' ⟨rfl, rfl⟩) | (go_at_call 11; refine (wrap_any _ _).mono ?_; rintro e w' ⟨rfl, rfl⟩) | (go_at_call 38; refine (ofInt_any _ _).mono ?_; rintro e w' ⟨rfl, rfl⟩) | (go_at_call 39; refine (refOf_any _ hD _).mono ?_; rintro e w' ⟨rfl, rfl⟩))
  go_ret
  exact ⟨rfl, Grown.refl _⟩

set_option maxHeartbeats 1000000 in
theorem wholes_fl (x : Nat) (n : Int) (hx : x < 18446744073709551616) (ok : okW x = false) (h1 : w63 n ≤ 9007199254740992) (h2 : w63 n < -9007199254740992) (w : World) :
    Calls Try.prog 8 #[.int .u64 x, .int .i64 n] w fun e w' => e = .returned (.bool true) ∧ Grown w w' := by
  have hD := ofIntBits_lt (w63 n)
  have hC := canon_lt _ hD
  have p1 : (WE x == 0) = false := by unfold WE; rw [ok]; rfl
  have p2 : (WE x != 0) = true := by unfold WE; rw [ok]; rfl
  have p3 : (WE x != 1) = false := by unfold WE; rw [ok]; rfl
  clear ok
  go_enter Try.func8, Try.ntmps8
  go_wp2_with (first | (go_at_call 12; refine (counts_any _).mono ?_; rintro e w' ⟨rfl, rfl⟩) | (go_at_call 36; (first | (with_reducible refine (whole_any x hx _).mono ?_) | (with_reducible refine (whole_any (canon (floatOfInt .f64 (w63 n))) hC _).mono ?_)); rintro e w' ⟨rfl, rfl⟩) | (go_at_call 37; refine (refWhole_any _ hx _).mono ?_; rintro e w' ⟨rfl, rfl⟩) | (go_at_call 11; refine (wrap_any _ _).mono ?_; rintro e w' ⟨rfl, rfl⟩) | (go_at_call 38; refine (ofInt_any _ _).mono ?_; rintro e w' ⟨rfl, rfl⟩) | (go_at_call 39; refine (refOf_any _ hD _).mono ?_; rintro e w' ⟨rfl, rfl⟩))
  go_ret
  exact ⟨rfl, Grown.refl _⟩

set_option maxHeartbeats 1000000 in
theorem wholes_fi (x : Nat) (n : Int) (hx : x < 18446744073709551616) (ok : okW x = false) (h1 : w63 n ≤ 9007199254740992) (h2 : -9007199254740992 ≤ w63 n) (w : World) :
    Calls Try.prog 8 #[.int .u64 x, .int .i64 n] w fun e w' => e = .returned (.bool true) ∧ Grown w w' := by
  have hD := ofIntBits_lt (w63 n)
  have hC := canon_lt _ hD
  have p1 : (WE x == 0) = false := by unfold WE; rw [ok]; rfl
  have p2 : (WE x != 0) = true := by unfold WE; rw [ok]; rfl
  have p3 : (WE x != 1) = false := by unfold WE; rw [ok]; rfl
  clear ok
  have q1 : (WE (canon (floatOfInt .f64 (w63 n))) == 0) = true := by
    have q := int_back (w63 n) h1 h2
    rw [canon_not q.1]; unfold WE; rw [q.2.1]; rfl
  have q2 : (WH (canon (floatOfInt .f64 (w63 n))) == w63 n) = true := by
    have q := int_back (w63 n) h1 h2
    rw [canon_not q.1]; unfold WH; rw [q.2.1, if_pos rfl, q.2.2]; simp
  go_enter Try.func8, Try.ntmps8
  go_wp2_with (first | (go_at_call 12; refine (counts_any _).mono ?_; rintro e w' ⟨rfl, rfl⟩) | (go_at_call 36; (first | (with_reducible refine (whole_any x hx _).mono ?_) | (with_reducible refine (whole_any (canon (floatOfInt .f64 (w63 n))) hC _).mono ?_)); rintro e w' ⟨rfl, rfl⟩) | (go_at_call 37; refine (refWhole_any _ hx _).mono ?_; rintro e w' ⟨rfl, rfl⟩) | (go_at_call 11; refine (wrap_any _ _).mono ?_; rintro e w' ⟨rfl, rfl⟩) | (go_at_call 38; refine (ofInt_any _ _).mono ?_; rintro e w' ⟨rfl, rfl⟩) | (go_at_call 39; refine (refOf_any _ hD _).mono ?_; rintro e w' ⟨rfl, rfl⟩))
  go_ret
  exact ⟨rfl, Grown.refl _⟩

theorem numWholes_law (a b : Int) (w0 : (Lit.int .u64 a).wf = true) (w1 : (Lit.int .i64 b).wf = true) (w : World) :
    Calls Try.prog 8 #[.int .u64 a, .int .i64 b] w fun e w' => e = .returned (.bool true) ∧ Grown w w' := by
  obtain ⟨x, rfl, hx⟩ := u64_wf w0
  cases ok : okW x
  · by_cases h1 : w63 b ≤ 9007199254740992
    · by_cases h2 : -9007199254740992 ≤ w63 b
      · exact wholes_fi x b hx ok h1 h2 w
      · exact wholes_fl x b hx ok h1 (by omega) w
    · exact wholes_fg x b hx ok (by omega) w
  · by_cases h1 : w63 b ≤ 9007199254740992
    · by_cases h2 : -9007199254740992 ≤ w63 b
      · exact wholes_ti x b hx ok h1 h2 w
      · exact wholes_tl x b hx ok h1 (by omega) w
    · exact wholes_tg x b hx ok (by omega) w

end Go.Proofs.Ytakbkfcnaalnkaa
