/-
  Floats: the contracts of the calls on them.
-/
import Derived.Test.YtakbkfcnaalnkaaInts
import Derived.Test.YtakbkfcnaalnkaaFloatA
import Derived.WalkLawsBesides
namespace Go.Proofs.Ytakbkfcnaalnkaa
open Go.ChangeShapes Go.WideShapes Go.ChangeAt Go.RowKit
set_option linter.unusedVariables false

theorem ret_bool {a b : Bool} (h : a = b) : Ending.returned (.bool a) = .returned (.bool b) := by rw [h]
theorem low63 (x : Nat) (hx : x < 18446744073709551616) : bits .andNot .u64 (x : Int) 9223372036854775808 = ((rung x : Nat) : Int) := by
  have h := u64_andNot_nat x 9223372036854775808 hx (by decide)
  have e : x &&& (18446744073709551615 - 9223372036854775808) = x % 9223372036854775808 := Nat.and_two_pow_sub_one_eq_mod x 63
  rw [e] at h
  exact h

theorem isNan_any (x : Nat) (hx : x < 18446744073709551616) (w : World) :
    Calls Try.prog 42 #[.int .u64 x] w fun e w' => e = .returned (.bool (isNan x)) ∧ w = w' := by
  go_enter Try.func42, Try.ntmps42
  go_wp2
  go_ret
  exact ⟨ret_bool (by rw [low63 x hx]; unfold isNan INFR rung; rw [decide_eq_decide]; omega), rfl⟩

@[go_sem] theorem bits_run (x : Nat) (w : World) : (callFunc 43 #[.float .f64 x]).run Try.prog w = .ok (.value (.int .u64 (x : Int))) w := by
  rw [run_callFunc_extern Try.func43 (by kernel_rfl) (by kernel_rfl) (by kernel_rfl) (e := Extern.MathFloatBits.float64bits) (by kernel_rfl)]; rfl
@[go_sem] theorem frombits_run (x : Int) (w : World) : (callFunc 40 #[.int .u64 x]).run Try.prog w = .ok (.value (.float .f64 x.toNat)) w := by
  rw [run_callFunc_extern Try.func40 (by kernel_rfl) (by kernel_rfl) (by kernel_rfl) (e := Extern.MathFloatBits.float64frombits) (by kernel_rfl)]; rfl

theorem of_any (x : Nat) (hx : x < 18446744073709551616) (w : World) :
    Calls Try.prog 28 #[.float .f64 x] w fun e w' => e = .returned (.int .u64 (canon x : Nat)) ∧ w = w' := by
  cases h : isNan x
  · go_enter Try.func28, Try.ntmps28
    go_wp2_with (go_at_call 42; refine (isNan_any _ hx _).mono ?_; rintro e w' ⟨rfl, rfl⟩)
    go_ret
    exact ⟨ret_int (by rw [canon_not h]), rfl⟩
  · go_enter Try.func28, Try.ntmps28
    go_wp2_with (go_at_call 42; refine (isNan_any _ hx _).mono ?_; rintro e w' ⟨rfl, rfl⟩)
    go_ret
    exact ⟨ret_int (by rw [canon_nan h]; rfl), rfl⟩

theorem go_any (x : Nat) (w : World) :
    Calls Try.prog 29 #[.int .u64 x] w fun e w' => e = .returned (.float .f64 x) ∧ w = w' := by
  go_enter Try.func29, Try.ntmps29
  go_wp2
  go_ret
  exact ⟨rfl, rfl⟩

theorem refOf_any (x : Nat) (hx : x < 18446744073709551616) (w : World) :
    Calls Try.prog 39 #[.float .f64 x] w fun e w' => e = .returned (.int .u64 (canon x : Nat)) ∧ w = w' := by
  have h1 : (FloatKind.f64.format.order x x != some .eq) = isNan x := order_self_ne x
  cases h : isNan x
  · rw [h] at h1
    go_enter Try.func39, Try.ntmps39
    go_wp2
    go_ret
    exact ⟨ret_int (by rw [canon_not h]), rfl⟩
  · rw [h] at h1
    go_enter Try.func39, Try.ntmps39
    go_wp2
    go_ret
    exact ⟨ret_int (by rw [canon_nan h]; rfl), rfl⟩

theorem Dr.of {w w1 : World} (h : w1 = w ∨ w1 = w.drew) : Dr w w1 := by
  rcases h with rfl | rfl
  · exact Dr.refl _
  · exact ⟨1, rfl⟩

theorem run_sqrt (x : Nat) (w : World) : ∃ b w', (callFunc 45 #[.float .f64 x]).run Try.prog w = .ok (.value (.float .f64 b)) w' ∧ (w' = w ∨ w' = w.drew) ∧ b < 18446744073709551616 ∧ canon b = made (D.sqrt x) := by
  have e := run_callFunc_extern Try.func45 (by kernel_rfl) (by kernel_rfl) (by kernel_rfl) (e := Extern.MathSqrt.sqrt) (by kernel_rfl) #[.float .f64 x] w
  have hs : Extern.MathSqrt.sqrt #[.float .f64 x] = (match FloatKind.f64.format.sqrt x with | some r => pure (.float .f64 r) | none => do pure (.float .f64 (← choose (.nanBits .f64 x x)))) := rfl
  cases h : D.sqrt x with
  | some r =>
    refine ⟨r, w, ?_, .inl rfl, D.sqrt_lt h, rfl⟩
    rw [e]
    have h' : FloatKind.f64.format.sqrt x = some r := h
    simp [hs, h']
  | none =>
    have hc := choose_nan (w.tape w.drawn (.nanBits .f64 x x)) x x
    refine ⟨_, w.drew, ?_, .inr rfl, hc.2, canon_nan hc.1⟩
    rw [e]
    have h' : FloatKind.f64.format.sqrt x = none := h
    simp [hs, h', Question.forced]

theorem plus_any (x y : Nat) (w : World) :
    Calls Try.prog 21 #[.int .u64 x, .int .u64 y] w fun e w' => e = .returned (.int .u64 (made (D.add x y) : Nat)) ∧ Dr w w' := by
  obtain ⟨b, w1, hrun, hw, hb, hc⟩ := run_arith (P := Try.prog) .add (D.add x y) x y rfl (.inl rfl) 38 w
  have HC := Lib.hid hc
  have HW := Lib.hid hw
  clear hc hw
  go_enter Try.func21, Try.ntmps21
  go_wp2_with (first | (go_at_call 29; refine (go_any _ _).mono ?_; rintro e w' ⟨rfl, rfl⟩) | (go_at_call 28; refine (of_any _ hb _).mono ?_; rintro e w' ⟨rfl, rfl⟩))
  go_ret
  exact ⟨ret_int (by rw [HC.out]), Dr.of HW.out⟩

theorem minus_any (x y : Nat) (w : World) :
    Calls Try.prog 23 #[.int .u64 x, .int .u64 y] w fun e w' => e = .returned (.int .u64 (made (D.sub x y) : Nat)) ∧ Dr w w' := by
  obtain ⟨b, w1, hrun, hw, hb, hc⟩ := run_arith (P := Try.prog) .sub (D.sub x y) x y rfl (.inr (.inl rfl)) 38 w
  have HC := Lib.hid hc
  have HW := Lib.hid hw
  clear hc hw
  go_enter Try.func23, Try.ntmps23
  go_wp2_with (first | (go_at_call 29; refine (go_any _ _).mono ?_; rintro e w' ⟨rfl, rfl⟩) | (go_at_call 28; refine (of_any _ hb _).mono ?_; rintro e w' ⟨rfl, rfl⟩))
  go_ret
  exact ⟨ret_int (by rw [HC.out]), Dr.of HW.out⟩

theorem times_any (x y : Nat) (w : World) :
    Calls Try.prog 24 #[.int .u64 x, .int .u64 y] w fun e w' => e = .returned (.int .u64 (made (D.mul x y) : Nat)) ∧ Dr w w' := by
  obtain ⟨b, w1, hrun, hw, hb, hc⟩ := run_arith (P := Try.prog) .mul (D.mul x y) x y rfl (.inr (.inr (.inl rfl))) 38 w
  have HC := Lib.hid hc
  have HW := Lib.hid hw
  clear hc hw
  go_enter Try.func24, Try.ntmps24
  go_wp2_with (first | (go_at_call 29; refine (go_any _ _).mono ?_; rintro e w' ⟨rfl, rfl⟩) | (go_at_call 28; refine (of_any _ hb _).mono ?_; rintro e w' ⟨rfl, rfl⟩))
  go_ret
  exact ⟨ret_int (by rw [HC.out]), Dr.of HW.out⟩

theorem over_any (x y : Nat) (w : World) :
    Calls Try.prog 25 #[.int .u64 x, .int .u64 y] w fun e w' => e = .returned (.int .u64 (made (D.div x y) : Nat)) ∧ Dr w w' := by
  obtain ⟨b, w1, hrun, hw, hb, hc⟩ := run_arith (P := Try.prog) .quo (D.div x y) x y rfl (.inr (.inr (.inr rfl))) 38 w
  have HC := Lib.hid hc
  have HW := Lib.hid hw
  clear hc hw
  go_enter Try.func25, Try.ntmps25
  go_wp2_with (first | (go_at_call 29; refine (go_any _ _).mono ?_; rintro e w' ⟨rfl, rfl⟩) | (go_at_call 28; refine (of_any _ hb _).mono ?_; rintro e w' ⟨rfl, rfl⟩))
  go_ret
  exact ⟨ret_int (by rw [HC.out]), Dr.of HW.out⟩

theorem root_any (x : Nat) (w : World) :
    Calls Try.prog 26 #[.int .u64 x] w fun e w' => e = .returned (.int .u64 (made (D.sqrt x) : Nat)) ∧ Dr w w' := by
  obtain ⟨b, w1, hrun, hw, hb, hc⟩ := run_sqrt x w
  have HC := Lib.hid hc
  have HW := Lib.hid hw
  clear hc hw
  go_enter Try.func26, Try.ntmps26
  go_wp2_with (first | (go_at_call 29; refine (go_any _ _).mono ?_; rintro e w' ⟨rfl, rfl⟩) | (go_at_call 28; refine (of_any _ hb _).mono ?_; rintro e w' ⟨rfl, rfl⟩) | go_in)
  go_ret
  exact ⟨ret_int (by rw [HC.out]), Dr.of HW.out⟩

/-- the opposite's bits, with the one NaN -/
def fneg (x : Nat) : Nat := if isNan x then NANB else x ^^^ 9223372036854775808
theorem fneg_nan {x : Nat} (h : isNan x = true) : fneg x = NANB := by unfold fneg; rw [h]; rfl
theorem fneg_not {x : Nat} (h : isNan x = false) : fneg x = x ^^^ 9223372036854775808 := by unfold fneg; rw [h]; rfl
theorem xor_sign (x : Nat) (hx : x < 18446744073709551616) : bits .xor .u64 (x : Int) 9223372036854775808 = ((x ^^^ 9223372036854775808 : Nat) : Int) := u64_xor_nat x 9223372036854775808 hx (by decide)

theorem neg_any (x : Nat) (hx : x < 18446744073709551616) (w : World) :
    Calls Try.prog 27 #[.int .u64 x] w fun e w' => e = .returned (.int .u64 (fneg x : Nat)) ∧ w = w' := by
  cases h : isNan x
  · go_enter Try.func27, Try.ntmps27
    go_wp2_with (go_at_call 42; refine (isNan_any _ hx _).mono ?_; rintro e w' ⟨rfl, rfl⟩)
    go_ret
    exact ⟨ret_int (by rw [fneg_not h, ← xor_sign x hx]), rfl⟩
  · go_enter Try.func27, Try.ntmps27
    go_wp2_with (go_at_call 42; refine (isNan_any _ hx _).mono ?_; rintro e w' ⟨rfl, rfl⟩)
    go_ret
    exact ⟨ret_int (by rw [fneg_nan h]; rfl), rfl⟩

theorem refIsNan_any (x : Nat) (hx : x < 18446744073709551616) (w : World) :
    Calls Try.prog 33 #[.int .u64 x] w fun e w' => e = .returned (.bool (isNan x)) ∧ w = w' := by
  have e : bits .and .u64 (x : Int) 9223372036854775807 = ((rung x : Nat) : Int) := by
    have h := u64_and_nat x 9223372036854775807 hx (by decide)
    have e : x &&& 9223372036854775807 = x % 9223372036854775808 := Nat.and_two_pow_sub_one_eq_mod x 63
    rw [e] at h
    exact h
  have E := Lib.hid e
  clear e
  go_enter Try.func33, Try.ntmps33
  go_wp2
  go_ret
  exact ⟨ret_bool (by rw [E.out]; unfold isNan INFR; rw [decide_eq_decide]; omega), rfl⟩

theorem refCanon_any (x : Nat) (hx : x < 18446744073709551616) (w : World) :
    Calls Try.prog 30 #[.int .u64 x] w fun e w' => e = .returned (.int .u64 (canon x : Nat)) ∧ w = w' := by
  cases h : isNan x
  · go_enter Try.func30, Try.ntmps30
    go_wp2_with (go_at_call 33; refine (refIsNan_any _ hx _).mono ?_; rintro e w' ⟨rfl, rfl⟩)
    go_ret
    exact ⟨ret_int (by rw [canon_not h]), rfl⟩
  · go_enter Try.func30, Try.ntmps30
    go_wp2_with (go_at_call 33; refine (refIsNan_any _ hx _).mono ?_; rintro e w' ⟨rfl, rfl⟩)
    go_ret
    exact ⟨ret_int (by rw [canon_nan h]; rfl), rfl⟩

end Go.Proofs.Ytakbkfcnaalnkaa
