/-
  The law NumReads: the contracts of the calls on floats that ReadFloat makes.
-/
import Derived.Test.YtghddknhoiaboaaRdA
import Derived.Test.YtghddknhoiaboaaHexB
import Derived.WalkLawsBesides
namespace Go.Proofs.Ytghddknhoiaboaa
set_option maxRecDepth 100000
open Go.ChangeShapes Go.WideShapes Go.ChangeAt Go.RowKit
open Fl (rung INFR NANB isNan canon made fi)
set_option linter.unusedVariables false

def Dr (w w' : World) : Prop := ∃ n, w' = w.drewN n
theorem Dr.refl (w : World) : Dr w w := ⟨0, rfl⟩
theorem Dr.of {w w1 : World} (h : w1 = w ∨ w1 = w.drew) : Dr w w1 := by
  rcases h with rfl | rfl
  · exact Dr.refl _
  · exact ⟨1, rfl⟩
theorem Dr.below {w w' : World} (h : Dr w w') : Below w.heap.size w w' := by
  obtain ⟨n, rfl⟩ := h
  exact ⟨rfl, rfl, rfl, Nat.le_refl _, fun _ _ => rfl⟩
theorem low63 (x : Nat) (hx : x < 18446744073709551616) : bits .andNot .u64 (x : Int) 9223372036854775808 = ((rung x : Nat) : Int) := by
  have h := u64_andNot_nat x 9223372036854775808 hx (by decide)
  have e : x &&& (18446744073709551615 - 9223372036854775808) = x % 9223372036854775808 := Nat.and_two_pow_sub_one_eq_mod x 63
  rw [e] at h
  exact h
theorem isNan_any (x : Nat) (hx : x < 18446744073709551616) (w : World) :
    Calls Try.prog 65 #[.int .u64 x] w fun e w' => e = .returned (.bool (isNan x)) ∧ w = w' := by
  go_enter Try.func65, Try.ntmps65
  go_wp2
  go_ret
  exact ⟨ret_bool (by rw [low63 x hx]; unfold isNan INFR rung; rw [decide_eq_decide]; omega), rfl⟩
@[go_sem] theorem bits_run (x : Nat) (w : World) : (callFunc 46 #[.float .f64 x]).run Try.prog w = .ok (.value (.int .u64 (x : Int))) w := by
  rw [run_callFunc_extern Try.func46 (by kernel_rfl) (by kernel_rfl) (by kernel_rfl) (e := Extern.MathFloatBits.float64bits) (by kernel_rfl)]; rfl
@[go_sem] theorem frombits_run (x : Int) (w : World) : (callFunc 69 #[.int .u64 x]).run Try.prog w = .ok (.value (.float .f64 x.toNat)) w := by
  rw [run_callFunc_extern Try.func69 (by kernel_rfl) (by kernel_rfl) (by kernel_rfl) (e := Extern.MathFloatBits.float64frombits) (by kernel_rfl)]; rfl
theorem of_any (x : Nat) (hx : x < 18446744073709551616) (w : World) :
    Calls Try.prog 62 #[.float .f64 x] w fun e w' => e = .returned (.int .u64 (canon x : Nat)) ∧ w = w' := by
  cases h : isNan x
  · go_enter Try.func62, Try.ntmps62
    go_wp2_with (go_at_call 65; refine (isNan_any _ hx _).mono ?_; rintro e w' ⟨rfl, rfl⟩)
    go_ret
    exact ⟨ret_int (by rw [Fl.canon_not h]), rfl⟩
  · go_enter Try.func62, Try.ntmps62
    go_wp2_with (go_at_call 65; refine (isNan_any _ hx _).mono ?_; rintro e w' ⟨rfl, rfl⟩)
    go_ret
    exact ⟨ret_int (by rw [Fl.canon_nan h]; rfl), rfl⟩
theorem go_any (x : Nat) (w : World) :
    Calls Try.prog 64 #[.int .u64 x] w fun e w' => e = .returned (.float .f64 x) ∧ w = w' := by
  go_enter Try.func64, Try.ntmps64
  go_wp2
  go_ret
  exact ⟨rfl, rfl⟩
theorem refOf_any (x : Nat) (hx : x < 18446744073709551616) (w : World) :
    Calls Try.prog 38 #[.float .f64 x] w fun e w' => e = .returned (.int .u64 (canon x : Nat)) ∧ w = w' := by
  have h1 : (FloatKind.f64.format.order x x != some .eq) = isNan x := Fl.order_self_ne x
  cases h : isNan x
  · rw [h] at h1
    go_enter Try.func38, Try.ntmps38
    go_wp2
    go_ret
    exact ⟨ret_int (by rw [Fl.canon_not h]), rfl⟩
  · rw [h] at h1
    go_enter Try.func38, Try.ntmps38
    go_wp2
    go_ret
    exact ⟨ret_int (by rw [Fl.canon_nan h]; rfl), rfl⟩
theorem over_any (x y : Nat) (w : World) :
    Calls Try.prog 52 #[.int .u64 x, .int .u64 y] w fun e w' => e = .returned (.int .u64 (made (Fl.D.div x y) : Nat)) ∧ Dr w w' := by
  obtain ⟨b, w1, hrun, hw, hb, hc⟩ := Fl.run_arith (P := Try.prog) .quo (Fl.D.div x y) x y rfl (.inr (.inr (.inr rfl))) 71 w
  have HC := Lib.hid hc
  have HW := Lib.hid hw
  clear hc hw
  go_enter Try.func52, Try.ntmps52
  go_wp2_with (first | (go_at_call 64; refine (go_any _ _).mono ?_; rintro e w' ⟨rfl, rfl⟩) | (go_at_call 62; refine (of_any _ hb _).mono ?_; rintro e w' ⟨rfl, rfl⟩))
  go_ret
  exact ⟨ret_int (by rw [HC.out]), Dr.of HW.out⟩
theorem xor_sign (x : Nat) (hx : x < 18446744073709551616) : bits .xor .u64 (x : Int) 9223372036854775808 = ((x ^^^ 9223372036854775808 : Nat) : Int) := u64_xor_nat x 9223372036854775808 hx (by decide)
theorem neg_num (x : Nat) (hx : x < 18446744073709551616) (h : isNan x = false) (w : World) :
    Calls Try.prog 54 #[.int .u64 x] w fun e w' => e = .returned (.int .u64 (x ^^^ 9223372036854775808 : Nat)) ∧ w = w' := by
  go_enter Try.func54, Try.ntmps54
  go_wp2_with (go_at_call 65; refine (isNan_any _ hx _).mono ?_; rintro e w' ⟨rfl, rfl⟩)
  go_ret
  exact ⟨ret_int (by rw [← xor_sign x hx]), rfl⟩
theorem ofInt_any (n : Nat) (hn : n ≤ 9007199254740992) (w : World) :
    Calls Try.prog 51 #[.int .i64 (n : Int)] w fun e w' => e = .returned (.int .u64 (fi n : Nat)) ∧ w = w' := by
  obtain ⟨hc, hb⟩ := Fl.fi_canon n hn
  have hw : w63 (n : Int) = n := by unfold w63; omega
  have hfi := Fl.fi_int n hn
  have HW := Lib.hid (wrap_any (n : Int))
  rw [hw] at HW
  have HO := Lib.hid (of_any (fi n) hb)
  rw [hc] at HO
  clear hc hw hb
  generalize fi n = X at *
  go_enter Try.func51, Try.ntmps51
  go_wp2_with (first | (go_at_call 63; refine (HW.out _).mono ?_; rintro e w' ⟨rfl, rfl⟩) | (go_at_call 62; refine (HO.out _).mono ?_; rintro e w' ⟨rfl, rfl⟩))
  go_ret
  exact ⟨rfl, rfl⟩
theorem pow_any (n : Nat) (hn : n ≤ 15) (w : World) :
    Calls Try.prog 53 #[.int .i64 (n : Int)] w fun e w' => e = .returned (.int .i64 ((10 ^ n : Nat) : Int)) ∧ w = w' := by
  go_enter Try.func53, Try.ntmps53
  go_wp2_with fail
  go_loop [3, 5] (fun p i => ∃ k P : Nat, k ≤ n ∧ i = .int .i64 k ∧ p = .int .i64 P ∧ P ≤ 1000000000000000 ∧ Hid (P = 10 ^ k)) (fun _ i => n - (intOf i).toNat)
  case atStart => exact ⟨0, 1, Nat.zero_le _, rfl, rfl, by omega, Lib.hid rfl⟩
  case round =>
    obtain ⟨k, P, hk, rfl, rfl, hP, HP⟩ := hrel
    by_cases hlt : k < n
    · have HP2 : Hid (P * 10 = 10 ^ (k + 1)) := Lib.hid (by rw [HP.out, Nat.pow_succ])
      have hP2 : P * 10 ≤ 1000000000000000 := by
        rw [HP2.out]
        exact Nat.le_trans (Nat.pow_le_pow_right (by decide) (show k + 1 ≤ 15 by omega)) (by decide)
      go_wp2_with fail
      go_round
      case rel => exact ⟨k + 1, P * 10, by omega, by go_num, by go_num, hP2, HP2⟩
      case measure => simp [intOf]; omega
    · obtain rfl : k = n := by omega
      go_wp2_with fail
      go_ret
      exact ⟨ret_int (by rw [HP.out]; simp), rfl⟩
end Go.Proofs.Ytghddknhoiaboaa
