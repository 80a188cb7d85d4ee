/-
  Digits of base 16: the library's formatBits, FormatUint.
-/
import Derived.Test.YtghddknhoiaboaaDigB
import Derived.Laws.BytesArg
namespace Go.Proofs.Ytghddknhoiaboaa
set_option maxRecDepth 100000
open Go.ChangeShapes Go.WideShapes Go.ChangeAt Go.RowKit
set_option linter.unusedVariables false

/-- a digit of base 16 -/
def hexN (d : Nat) : Nat := if d < 10 then 48 + d else 87 + d
def hexL (U : Nat) : Nat → List Nat
  | 0 => []
  | k + 1 => hexN (U / 16 ^ k % 16) :: hexL U k
theorem hexL_length (U k : Nat) : (hexL U k).length = k := by
  induction k with
  | zero => rfl
  | succ k ih => simp [hexL, ih]
theorem hexN_lt (d : Nat) (h : d < 16) : hexN d < 128 := by unfold hexN; split <;> omega
theorem hexL_lt (U k : Nat) : ∀ c ∈ hexL U k, c < 256 := by
  induction k with
  | zero => intro c hc; cases hc
  | succ k ih =>
    intro c hc
    rcases List.mem_cons.1 hc with rfl | hc
    · have := hexN_lt (U / 16 ^ k % 16) (Nat.mod_lt _ (by decide)); omega
    · exact ih c hc
def DIG : ByteArray := ⟨#[48, 49, 50, 51, 52, 53, 54, 55, 56, 57, 97, 98, 99, 100, 101, 102, 103, 104, 105, 106, 107, 108, 109, 110, 111, 112, 113, 114, 115, 116, 117, 118, 119, 120, 121, 122]⟩
theorem idx_dig (r : Nat) (h : r < 16) (W : World) : (Instr.index 9 (.string ⟨#[48, 49, 50, 51, 52, 53, 54, 55, 56, 57, 97, 98, 99, 100, 101, 102, 103, 104, 105, 106, 107, 108, 109, 110, 111, 112, 113, 114, 115, 116, 117, 118, 119, 120, 121, 122]⟩) (.int .u64 (r : Int))).run Try.prog W = .ok (.int .u8 ((hexN r : Nat) : Int)) W := by
  have e : r = 0 ∨ r = 1 ∨ r = 2 ∨ r = 3 ∨ r = 4 ∨ r = 5 ∨ r = 6 ∨ r = 7 ∨ r = 8 ∨ r = 9 ∨ r = 10 ∨ r = 11 ∨ r = 12 ∨ r = 13 ∨ r = 14 ∨ r = 15 := by omega
  rcases e with rfl | rfl | rfl | rfl | rfl | rfl | rfl | rfl | rfl | rfl | rfl | rfl | rfl | rfl | rfl | rfl <;> first | rfl | go_simp
theorem and_15 (x : Nat) (hx : x < 18446744073709551616) : bits .and .u64 (x : Int) 15 = ((x % 16 : Nat) : Int) := by
  have h := u64_and_nat x 15 hx (by decide)
  have e : x &&& 15 = x % 16 := Nat.and_two_pow_sub_one_eq_mod x 4
  rw [e] at h
  exact h
/-- bytes as a text -/
def tx (l : List Nat) : ByteArray := ⟨(l.map fun c => UInt8.ofNat c).toArray⟩
theorem tx_size (l : List Nat) : (tx l).size = l.length := by
  show (l.map fun c => UInt8.ofNat c).toArray.size = _
  simp
theorem tx_append (l m : List Nat) : tx l ++ tx m = tx (l ++ m) := by
  apply ByteArray.ext
  simp [tx]
theorem div_pow_succ (U k : Nat) : U / 16 ^ k / 16 = U / 16 ^ (k + 1) := by rw [Nat.div_div_eq_div_mul, Nat.pow_succ]

end Go.Proofs.Ytghddknhoiaboaa
