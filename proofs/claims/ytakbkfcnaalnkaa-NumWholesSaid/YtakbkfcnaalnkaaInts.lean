/-
  Integers of 63 bits: the contracts of num.Wrap, Add, Sub, Mul, Div, Rem and of the document's own answers, over the walk.
-/
import Derived.Test.YtakbkfcnaalnkaaRows
import Derived.WalkKit
import Derived.ProofKit
import Derived.OpenShut
import Derived.Lib.Hide
import Derived.Deep.QuietTactic
import Derived.BigQuiet
namespace Go.Proofs.Ytakbkfcnaalnkaa
open Go.ChangeShapes Go.WideShapes Go.ChangeAt Go.RowKit
set_option linter.unusedVariables false

/-- the integer of 63 bits that differs from n by a multiple of 2^63 -/
def w63 (n : Int) : Int := (n + 4611686018427387904) % 9223372036854775808 - 4611686018427387904

theorem wrap_shift (n : Int) : wrap64 (n * 2) / 2 = w63 n := by
  unfold wrap64 w63; omega
theorem w63_bd (n : Int) : -4611686018427387904 ≤ w63 n ∧ w63 n ≤ 4611686018427387903 := by unfold w63; omega
theorem w63_wrap (n : Int) : w63 (wrap64 n) = w63 n := by unfold wrap64 w63; omega
theorem w63_w63 (n : Int) : w63 (w63 n) = w63 n := by unfold w63; omega
theorem w63_add (a b : Int) : w63 (w63 a + w63 b) = w63 (a + b) := by unfold w63; omega
theorem w63_sub (a b : Int) : w63 (w63 a - w63 b) = w63 (a - b) := by unfold w63; omega
theorem w63_in (n : Int) (h : -4611686018427387904 ≤ n ∧ n ≤ 4611686018427387903) : w63 n = n := by unfold w63; omega

/-- the world has only been asked for what Go leaves open -/
def Dr (w w' : World) : Prop := ∃ n, w' = w.drewN n
theorem Dr.refl (w : World) : Dr w w := ⟨0, rfl⟩

theorem ret_int {k : IntKind} {a b : Int} (h : a = b) : Ending.returned (.int k a) = .returned (.int k b) := by rw [h]
theorem w63_mod (n : Int) : w63 n % 9223372036854775808 = n % 9223372036854775808 := by unfold w63; omega
theorem w63_eq {x y : Int} (h : x % 9223372036854775808 = y % 9223372036854775808) : w63 x = w63 y := by unfold w63; omega
theorem w63_mul_left (a b : Int) : w63 (w63 a * b) = w63 (a * b) := w63_eq (by rw [Int.mul_emod, w63_mod, ← Int.mul_emod])
theorem w63_mul_right (a b : Int) : w63 (a * w63 b) = w63 (a * b) := by rw [Int.mul_comm, w63_mul_left, Int.mul_comm]
theorem w63_mul (a b : Int) : w63 (w63 a * w63 b) = w63 (a * b) := by rw [w63_mul_left, w63_mul_right]
theorem w63_add_left (a b : Int) : w63 (w63 a + b) = w63 (a + b) := by unfold w63; omega
theorem w63_add_right (a b : Int) : w63 (a + w63 b) = w63 (a + b) := by unfold w63; omega

def divQ (a b : Int) : Int := w63 ((w63 a).tdiv (w63 b))
def remR (a b : Int) : Int := (w63 a).tmod (w63 b)

theorem tdiv_bd (a b : Int) : -4611686018427387904 ≤ (w63 a).tdiv (w63 b) ∧ (w63 a).tdiv (w63 b) ≤ 4611686018427387904 := by
  have h := w63_bd a
  have h2 : ((w63 a).tdiv (w63 b)).natAbs ≤ (w63 a).natAbs := by rw [Int.natAbs_tdiv]; exact Nat.div_le_self _ _
  omega

theorem div_law (a b : Int) : w63 (w63 (divQ a b * b) + remR a b) = w63 a := by
  unfold divQ remR
  rw [w63_add_left]
  have e : w63 (w63 ((w63 a).tdiv (w63 b)) * b + (w63 a).tmod (w63 b)) = w63 ((w63 a).tdiv (w63 b) * w63 b + (w63 a).tmod (w63 b)) := by
    rw [← w63_add_left, w63_mul_left, ← w63_mul_right, w63_add_left]
  rw [e, Int.tdiv_mul_add_tmod, w63_w63]

theorem wrap_any (n : Int) (w : World) :
    Calls Try.prog 11 #[.int .i64 n] w fun e w' => e = .returned (.int .i64 (w63 n)) ∧ w = w' := by
  go_enter Try.func11, Try.ntmps11
  go_wp2
  go_ret
  exact ⟨ret_int (wrap_shift n), rfl⟩

theorem refWrap_any (n : Int) (w : World) :
    Calls Try.prog 13 #[.int .i64 n] w fun e w' => e = .returned (.int .i64 (w63 n)) ∧ w = w' := by
  go_enter Try.func13, Try.ntmps13
  go_wp2
  go_ret
  refine ⟨ret_int ?_, rfl⟩
  simp only [IntKind.wrap, IntKind.bits, IntKind.signed]
  unfold wrap64 w63; simp; omega

theorem add_any (a b : Int) (w : World) :
    Calls Try.prog 14 #[.int .i64 a, .int .i64 b] w fun e w' => e = .returned (.int .i64 (w63 (a + b))) ∧ w = w' := by
  go_enter Try.func14, Try.ntmps14
  go_wp2_with (go_at_call 11; refine (wrap_any _ _).mono ?_; rintro e w' ⟨rfl, rfl⟩)
  go_ret
  exact ⟨ret_int (w63_wrap _), rfl⟩

theorem sub_any (a b : Int) (w : World) :
    Calls Try.prog 15 #[.int .i64 a, .int .i64 b] w fun e w' => e = .returned (.int .i64 (w63 (a - b))) ∧ w = w' := by
  go_enter Try.func15, Try.ntmps15
  go_wp2_with (go_at_call 11; refine (wrap_any _ _).mono ?_; rintro e w' ⟨rfl, rfl⟩)
  go_ret
  exact ⟨ret_int (w63_wrap _), rfl⟩

theorem mul_any (a b : Int) (w : World) :
    Calls Try.prog 16 #[.int .i64 a, .int .i64 b] w fun e w' => e = .returned (.int .i64 (w63 (a * b))) ∧ w = w' := by
  go_enter Try.func16, Try.ntmps16
  go_wp2_with (go_at_call 11; refine (wrap_any _ _).mono ?_; rintro e w' ⟨rfl, rfl⟩)
  go_ret
  exact ⟨ret_int (w63_wrap _), rfl⟩

theorem div_zero (a b : Int) (w : World) (hb : (w63 b == 0) = true) :
    Calls Try.prog 18 #[.int .i64 a, .int .i64 b] w fun e w' => e = .returned (.tuple #[.int .i64 0, .int .i64 1]) ∧ w = w' := by
  go_enter Try.func18, Try.ntmps18
  go_wp2_with (go_at_call 11; refine (wrap_any _ _).mono ?_; rintro e w' ⟨rfl, rfl⟩)
  go_ret2
  exact ⟨rfl, rfl⟩

theorem div_some (a b : Int) (w : World) (hb : (w63 b == 0) = false) :
    Calls Try.prog 18 #[.int .i64 a, .int .i64 b] w fun e w' => e = .returned (.tuple #[.int .i64 (divQ a b), .int .i64 0]) ∧ w = w' := by
  have hd := tdiv_bd a b
  have ha := w63_bd a
  have hn : ¬ w63 b = 0 := by simpa using hb
  go_enter Try.func18, Try.ntmps18
  go_wp2_with (go_at_call 11; refine (wrap_any _ _).mono ?_; rintro e w' ⟨rfl, rfl⟩)
  go_ret2
  exact ⟨rfl, rfl⟩

theorem rem_zero (a b : Int) (w : World) (hb : (w63 b == 0) = true) :
    Calls Try.prog 19 #[.int .i64 a, .int .i64 b] w fun e w' => e = .returned (.tuple #[.int .i64 0, .int .i64 1]) ∧ w = w' := by
  go_enter Try.func19, Try.ntmps19
  go_wp2_with (go_at_call 11; refine (wrap_any _ _).mono ?_; rintro e w' ⟨rfl, rfl⟩)
  go_ret2
  exact ⟨rfl, rfl⟩

theorem tmod_bd (a b : Int) : -4611686018427387904 ≤ (w63 a).tmod (w63 b) ∧ (w63 a).tmod (w63 b) ≤ 4611686018427387904 := by
  have h := w63_bd a
  have h2 : ((w63 a).tmod (w63 b)).natAbs ≤ (w63 a).natAbs := by rw [Int.natAbs_tmod]; exact Nat.mod_le _ _
  omega

theorem rem_some (a b : Int) (w : World) (hb : (w63 b == 0) = false) :
    Calls Try.prog 19 #[.int .i64 a, .int .i64 b] w fun e w' => e = .returned (.tuple #[.int .i64 (remR a b), .int .i64 0]) ∧ w = w' := by
  have hd := tmod_bd a b
  have ha := w63_bd a
  have hn : ¬ w63 b = 0 := by simpa using hb
  go_enter Try.func19, Try.ntmps19
  go_wp2_with (go_at_call 11; refine (wrap_any _ _).mono ?_; rintro e w' ⟨rfl, rfl⟩)
  go_ret2
  exact ⟨rfl, rfl⟩

theorem refDiv_zero (a b : Int) (w : World) (hb : (w63 b == 0) = true) :
    Calls Try.prog 20 #[.int .i64 a, .int .i64 b] w fun e w' => e = .returned (.tuple #[.int .i64 0, .int .i64 0, .int .i64 1]) ∧ Dr w w' := by
  go_enter Try.func20, Try.ntmps20
  go_wp2_with (go_at_call 13; refine (refWrap_any _ _).mono ?_; rintro e w' ⟨rfl, rfl⟩)
  go_ret3
  exact ⟨rfl, Dr.refl _⟩

theorem refWrap_same (n : Int) (w : World) :
    Calls Try.prog 13 #[.int .i64 n] w fun e w' => e = .returned (.int .i64 (w63 n)) ∧ w' = w :=
  (refWrap_any n w).mono fun _ _ ⟨h1, h2⟩ => ⟨h1, h2.symm⟩

theorem refDiv_some (a b : Int) (w : World) (hb : (w63 b == 0) = false) :
    Calls Try.prog 20 #[.int .i64 a, .int .i64 b] w fun e w' => e = .returned (.tuple #[.int .i64 (divQ a b), .int .i64 (remR a b), .int .i64 0]) ∧ Dr w w' := by
  have hd := tdiv_bd a b
  have hm := tmod_bd a b
  have ha := w63_bd a
  have hn : ¬ w63 b = 0 := by simpa using hb
  go_enter Try.func20, Try.ntmps20
  go_wp2_with (go_at_call 13; refine (refWrap_any _ _).mono ?_; rintro e w' ⟨rfl, rfl⟩)
  go_quiet ((go_at_call 13; exact Calls.quiet_of_same (refWrap_same _ _)))
  go_wp2
  go_ret3
  exact ⟨rfl, ⟨_, rfl⟩⟩

theorem counts_any (w : World) :
    Calls Try.prog 12 #[] w fun e w' => e = .returned (.bool true) ∧ w = w' := by
  have h1 : (w63 (-1) == 0) = false := by decide
  have h2 : (divQ (-4611686018427387904) (-1) == -4611686018427387904) = true := by decide
  have h3 : (w63 (4611686018427387903 + 1) == -4611686018427387904) = true := by decide
  go_enter Try.func12, Try.ntmps12
  go_wp2_with (first | (go_at_call 18; refine (div_some _ _ _ h1).mono ?_; rintro e w' ⟨rfl, rfl⟩) | (go_at_call 14; refine (add_any _ _ _).mono ?_; rintro e w' ⟨rfl, rfl⟩))
  go_ret
  exact ⟨rfl, rfl⟩

end Go.Proofs.Ytakbkfcnaalnkaa
