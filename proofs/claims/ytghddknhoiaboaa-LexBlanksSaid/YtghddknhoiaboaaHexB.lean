/-
  Sixteen digits of bits: FormatUint, Repeat of noughts, Bits, and the document's Bits.
-/
import Derived.Test.YtghddknhoiaboaaHexA
import Derived.Test.YtghddknhoiaboaaShelfB
import Derived.Test.YtghddknhoiaboaaReg
namespace Go.Proofs.Ytghddknhoiaboaa
set_option maxRecDepth 100000
open Go.ChangeShapes Go.WideShapes Go.ChangeAt Go.RowKit
set_option linter.unusedVariables false

def Z64 : ByteArray := ⟨#[48, 48, 48, 48, 48, 48, 48, 48, 48, 48, 48, 48, 48, 48, 48, 48, 48, 48, 48, 48, 48, 48, 48, 48, 48, 48, 48, 48, 48, 48, 48, 48, 48, 48, 48, 48, 48, 48, 48, 48, 48, 48, 48, 48, 48, 48, 48, 48, 48, 48, 48, 48, 48, 48, 48, 48, 48, 48, 48, 48, 48, 48, 48, 48]⟩
def first48 (s : ByteArray) : Bool := s.data.toList.head? == some 48
theorem zeros_cut (n : Nat) (h : n ≤ 15) (W : World) : (Instr.slice 9 (.string ⟨#[48, 48, 48, 48, 48, 48, 48, 48, 48, 48, 48, 48, 48, 48, 48, 48, 48, 48, 48, 48, 48, 48, 48, 48, 48, 48, 48, 48, 48, 48, 48, 48, 48, 48, 48, 48, 48, 48, 48, 48, 48, 48, 48, 48, 48, 48, 48, 48, 48, 48, 48, 48, 48, 48, 48, 48, 48, 48, 48, 48, 48, 48, 48, 48]⟩) none (some (.int .i64 (n : Int))) none).run Try.prog W = .ok (.string (tx (List.replicate n 48))) W := by
  have e : n = 0 ∨ n = 1 ∨ n = 2 ∨ n = 3 ∨ n = 4 ∨ n = 5 ∨ n = 6 ∨ n = 7 ∨ n = 8 ∨ n = 9 ∨ n = 10 ∨ n = 11 ∨ n = 12 ∨ n = 13 ∨ n = 14 ∨ n = 15 := by omega
  rcases e with rfl | rfl | rfl | rfl | rfl | rfl | rfl | rfl | rfl | rfl | rfl | rfl | rfl | rfl | rfl | rfl <;> rfl
theorem hexL_zero (U k : Nat) (h : U < 16 ^ k) : ∀ m, hexL U (k + m) = List.replicate m 48 ++ hexL U k
  | 0 => rfl
  | m + 1 => by
    have h0 : U / 16 ^ (k + m) = 0 := Nat.div_eq_of_lt (Nat.lt_of_lt_of_le h (Nat.pow_le_pow_right (by decide) (Nat.le_add_right k m)))
    show hexN (U / 16 ^ (k + m) % 16) :: hexL U (k + m) = _
    rw [h0, hexL_zero U k h m]
    rfl
def bitsT (x : Nat) : ByteArray := tx (hexL x 16)
def D16 : ByteArray := ⟨#[48, 49, 50, 51, 52, 53, 54, 55, 56, 57, 97, 98, 99, 100, 101, 102]⟩
theorem dig_cut (r : Nat) (h : r < 16) (W : World) : (Instr.slice 9 (.string ⟨#[48, 49, 50, 51, 52, 53, 54, 55, 56, 57, 97, 98, 99, 100, 101, 102]⟩) (some (.int .u64 (r : Int))) (some (.int .u64 ((r : Int) + 1))) none).run Try.prog W = .ok (.string (tx [hexN r])) W := by
  have e : r = 0 ∨ r = 1 ∨ r = 2 ∨ r = 3 ∨ r = 4 ∨ r = 5 ∨ r = 6 ∨ r = 7 ∨ r = 8 ∨ r = 9 ∨ r = 10 ∨ r = 11 ∨ r = 12 ∨ r = 13 ∨ r = 14 ∨ r = 15 := by omega
  rcases e with rfl | rfl | rfl | rfl | rfl | rfl | rfl | rfl | rfl | rfl | rfl | rfl | rfl | rfl | rfl | rfl <;> rfl
/-- the upper digits, down to place j -/
def upL (x : Nat) : Nat → List Nat
  | 0 => []
  | t + 1 => upL x t ++ [hexN (x / 16 ^ (15 - t) % 16)]
theorem upL_all (x : Nat) : upL x 16 = hexL x 16 := rfl
theorem upL_length (x t : Nat) : (upL x t).length = t := by
  induction t with
  | zero => rfl
  | succ t ih => simp [upL, ih]
end Go.Proofs.Ytghddknhoiaboaa
