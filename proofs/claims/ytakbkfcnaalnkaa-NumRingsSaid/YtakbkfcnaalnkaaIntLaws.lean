/-
  The laws of integers, walked.
-/
import Derived.Test.YtakbkfcnaalnkaaMul
namespace Go.Proofs.Ytakbkfcnaalnkaa
open Go.ChangeShapes Go.WideShapes Go.ChangeAt Go.RowKit
set_option linter.unusedVariables false

theorem numInts_walk (a b : Int) (w : World) :
    Calls Try.prog 3 #[.int .i64 a, .int .i64 b] w fun e w' => e = .returned (.bool true) ∧ Grown w w' := by
  have ha := w63_bd a
  have hb := w63_bd b
  have h1 : (w63 (a + b) == w63 (w63 a + w63 b)) = true := by rw [w63_add]; simp
  have h2 : (w63 (a - b) == w63 (w63 a - w63 b)) = true := by rw [w63_sub]; simp
  go_enter Try.func3, Try.ntmps3
  go_wp2_with (first | (go_at_call 11; refine (wrap_any _ _).mono ?_; rintro e w' ⟨rfl, rfl⟩) | (go_at_call 12; refine (counts_any _).mono ?_; rintro e w' ⟨rfl, rfl⟩) | (go_at_call 13; refine (refWrap_any _ _).mono ?_; rintro e w' ⟨rfl, rfl⟩) | (go_at_call 14; refine (add_any _ _ _).mono ?_; rintro e w' ⟨rfl, rfl⟩) | (go_at_call 15; refine (sub_any _ _ _).mono ?_; rintro e w' ⟨rfl, rfl⟩) | (go_at_call 16; refine (mul_any _ _ _).mono ?_; rintro e w' ⟨rfl, rfl⟩) | (go_at_call 17; refine (refMul_any _ _ _).mono ?_; rintro e w' ⟨rfl, rfl⟩))
  go_ret
  exact ⟨rfl, Grown.refl _⟩

theorem Grown.drewN' {W w' : World} (h : Grown W w') (n : Nat) : Grown W (w'.drewN n) := h

theorem numDivs_walk (a b : Int) (w : World) :
    Calls Try.prog 4 #[.int .i64 a, .int .i64 b] w fun e w' => e = .returned (.bool true) ∧ Grown w w' := by
  cases hb : (w63 b == 0)
  · have h3 : (w63 (w63 (divQ a b * b) + remR a b) == w63 a) = true := by rw [div_law]; simp
    have HB := Lib.hid hb
    clear hb
    go_enter Try.func4, Try.ntmps4
    go_wp2_with (first | (go_at_call 18; refine (div_some _ _ _ HB.out).mono ?_; rintro e w' ⟨rfl, rfl⟩) | (go_at_call 19; refine (rem_some _ _ _ HB.out).mono ?_; rintro e w' ⟨rfl, rfl⟩) | (go_at_call 20; refine (refDiv_some _ _ _ HB.out).mono ?_; rintro e w' ⟨rfl, n, rfl⟩) | (go_at_call 11; refine (wrap_any _ _).mono ?_; rintro e w' ⟨rfl, rfl⟩) | (go_at_call 12; refine (counts_any _).mono ?_; rintro e w' ⟨rfl, rfl⟩) | (go_at_call 14; refine (add_any _ _ _).mono ?_; rintro e w' ⟨rfl, rfl⟩) | (go_at_call 16; refine (mul_any _ _ _).mono ?_; rintro e w' ⟨rfl, rfl⟩))
    go_ret
    exact ⟨rfl, Grown.drewN' (Grown.refl _) _⟩
  · have HB := Lib.hid hb
    clear hb
    go_enter Try.func4, Try.ntmps4
    go_wp2_with (first | (go_at_call 18; refine (div_zero _ _ _ HB.out).mono ?_; rintro e w' ⟨rfl, rfl⟩) | (go_at_call 19; refine (rem_zero _ _ _ HB.out).mono ?_; rintro e w' ⟨rfl, rfl⟩) | (go_at_call 20; refine (refDiv_zero _ _ _ HB.out).mono ?_; rintro e w' ⟨rfl, n, rfl⟩) | (go_at_call 12; refine (counts_any _).mono ?_; rintro e w' ⟨rfl, rfl⟩))
    go_ret
    exact ⟨rfl, Grown.drewN' (Grown.refl _) _⟩

theorem numRings_walk (a b c : Int) (w : World) :
    Calls Try.prog 5 #[.int .i64 a, .int .i64 b, .int .i64 c] w fun e w' => e = .returned (.bool true) ∧ Grown w w' := by
  have h1 : (w63 (w63 (a + b) + c) == w63 (a + w63 (b + c))) = true := by rw [w63_add_left, w63_add_right, Int.add_assoc]; simp
  have h2 : (w63 (w63 (a * b) * c) == w63 (a * w63 (b * c))) = true := by rw [w63_mul_left, w63_mul_right, Int.mul_assoc]; simp
  have h3 : (w63 (a * w63 (b + c)) == w63 (w63 (a * b) + w63 (a * c))) = true := by rw [w63_mul_right, w63_add, Int.mul_add]; simp
  have h4 : (w63 (w63 (a + b) - b) == w63 a) = true := by
    have : w63 (w63 (a + b) - b) = w63 a := by unfold w63; omega
    rw [this]; simp
  go_enter Try.func5, Try.ntmps5
  go_wp2_with (first | (go_at_call 11; refine (wrap_any _ _).mono ?_; rintro e w' ⟨rfl, rfl⟩) | (go_at_call 12; refine (counts_any _).mono ?_; rintro e w' ⟨rfl, rfl⟩) | (go_at_call 14; refine (add_any _ _ _).mono ?_; rintro e w' ⟨rfl, rfl⟩) | (go_at_call 15; refine (sub_any _ _ _).mono ?_; rintro e w' ⟨rfl, rfl⟩) | (go_at_call 16; refine (mul_any _ _ _).mono ?_; rintro e w' ⟨rfl, rfl⟩))
  go_ret
  exact ⟨rfl, Grown.refl _⟩

end Go.Proofs.Ytakbkfcnaalnkaa
