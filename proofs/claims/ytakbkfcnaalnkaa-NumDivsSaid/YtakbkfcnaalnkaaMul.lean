/-
  The document's product, bit by bit, is the product.
-/
import Derived.Test.YtakbkfcnaalnkaaInts
namespace Go.Proofs.Ytakbkfcnaalnkaa
open Go.ChangeShapes Go.WideShapes Go.ChangeAt Go.RowKit
set_option linter.unusedVariables false

def mulTo (a b : Int) (k : Nat) : Int := (IntKind.u64.wrap a * (IntKind.u64.wrap b % 2 ^ k)) % 18446744073709551616

theorem u64_nat (b : Int) : ∃ n : Nat, IntKind.u64.wrap b = n ∧ n < 18446744073709551616 := by
  have h := IntKind.wrap_u64 b
  exact ⟨(b % 18446744073709551616).toNat, by omega, by omega⟩

theorem low_bit (B : Nat) (k : Nat) : (B : Int) % 2 ^ (k + 1) = (B : Int) % 2 ^ k + 2 ^ k * ((B : Int) / 2 ^ k % 2) := by
  have h := Nat.mod_pow_succ (x := B) (b := 2) (k := k)
  have h' := congrArg (fun n : Nat => (n : Int)) h
  simpa using h'

theorem bit_yes (a b : Int) (k : Nat) (h : ((IntKind.u64.wrap b / 2 ^ k).tmod 2 == 1) = true) :
    IntKind.u64.wrap (mulTo a b k + IntKind.u64.wrap (IntKind.u64.wrap a * 2 ^ k)) = mulTo a b (k + 1) := by
  obtain ⟨B, hB, _⟩ := u64_nat b
  unfold mulTo
  rw [hB] at h ⊢
  have hp : (0 : Int) ≤ (B : Int) / 2 ^ k := Int.ediv_nonneg (Int.natCast_nonneg _) (Int.le_of_lt (Int.pow_pos (by decide)))
  have h1 : (B : Int) / 2 ^ k % 2 = 1 := by
    rw [Int.tmod_eq_emod_of_nonneg hp] at h
    simpa using h
  rw [low_bit, h1, IntKind.wrap_u64, IntKind.wrap_u64 (IntKind.u64.wrap a * 2 ^ k), ← Int.add_emod, Int.mul_add, Int.mul_one]

theorem bit_no (a b : Int) (k : Nat) (h : ((IntKind.u64.wrap b / 2 ^ k).tmod 2 == 1) = false) : mulTo a b k = mulTo a b (k + 1) := by
  obtain ⟨B, hB, _⟩ := u64_nat b
  unfold mulTo
  rw [hB] at h ⊢
  have hp : (0 : Int) ≤ (B : Int) / 2 ^ k := Int.ediv_nonneg (Int.natCast_nonneg _) (Int.le_of_lt (Int.pow_pos (by decide)))
  have h1 : (B : Int) / 2 ^ k % 2 = 0 := by
    rw [Int.tmod_eq_emod_of_nonneg hp] at h
    have : ¬ ((B : Int) / 2 ^ k % 2 = 1) := by simpa using h
    omega
  rw [low_bit, h1, Int.mul_zero, Int.add_zero]

theorem mul_end (a b : Int) : w63 (wrap64 (mulTo a b 64)) = w63 (a * b) := by
  rw [w63_wrap]
  apply w63_eq
  unfold mulTo
  rw [IntKind.wrap_u64 a, IntKind.wrap_u64 b]
  have h1 : b % 18446744073709551616 % 2 ^ 64 = b % 18446744073709551616 := by omega
  rw [h1, ← Int.mul_emod]
  omega

set_option maxHeartbeats 400000 in
theorem refMul_any (a b : Int) (w : World) :
    Calls Try.prog 17 #[.int .i64 a, .int .i64 b] w fun e w' => e = .returned (.int .i64 (w63 (a * b))) ∧ w = w' := by
  go_enter Try.func17, Try.ntmps17
  go_wp2_with fail
  go_loop [5, 7] (fun p i => ∃ k : Nat, k ≤ 64 ∧ i = .int .i64 k ∧ p = .int .u64 (mulTo a b k)) (fun _ i => 64 - (intOf i).toNat)
  case atStart => exact ⟨0, Nat.zero_le _, rfl, by simp [mulTo]⟩
  case round =>
    obtain ⟨k, hk, rfl, rfl⟩ := hrel
    go_wp2_with fail
    · go_round
      case rel => exact ⟨k + 1, by omega, by go_num, by rw [bit_yes a b k (by assumption)]⟩
      case measure => simp [intOf]; omega
    · go_round
      case rel => exact ⟨k + 1, by omega, by go_num, by rw [bit_no a b k (by assumption)]⟩
      case measure => simp [intOf]; omega
    · have e : k = 64 := by omega
      subst e
      refine (refWrap_any _ _).mono ?_
      rintro e w' ⟨rfl, rfl⟩
      go_wp2_with fail
      go_ret
      exact ⟨ret_int (mul_end a b), rfl⟩

end Go.Proofs.Ytakbkfcnaalnkaa
