/-
  Sixteen digits of bits: FormatUint, Repeat of noughts, Bits, and the document's Bits.
-/
import Derived.Test.YtkplkfhkablelaaDoorHexA
import Derived.Test.YtkplkfhkablelaaDoorShelfB
import Derived.Test.YtkplkfhkablelaaDoorReg
namespace Go.Proofs.YtkplkfhkablelaaDoor.Di
set_option maxRecDepth 100000
open Go.ChangeShapes Go.WideShapes Go.ChangeAt Go.RowKit
set_option linter.unusedVariables false

theorem fmtU_in (U : Nat) (hU : U < 18446744073709551616) (w : World) (ht : w.cell? ⟨5, 15, none⟩ = some (.int .u8 4)) :
    Calls Tryd.prog 46 #[.int .u64 (U : Int), .int .i64 16] w fun e w' => ∃ k, e = .returned (.string (tx (hexL U k))) ∧ (0 < k ∧ k ≤ 16 ∧ U < 16 ^ k) ∧ Below w.heap.size w w' := by
  have H := Lib.hid (fmt16 U hU w ht)
  clear ht
  go_enter Tryd.func46, Tryd.ntmps46
  go_wp2_with (go_at_call 59; refine H.out.mono ?_; rintro e w' ⟨k, rfl, hk, hb⟩; have HK := Lib.hid hk; have HB := Lib.hid hb; clear hk hb)
  go_ret
  exact ⟨k, rfl, HK.out, HB.out⟩
theorem fmtU_any (U : Nat) (hU : U < 18446744073709551616) (w : World) (ht : w.cell? ⟨5, 15, none⟩ = some (.int .u8 4)) :
    Calls Tryd.prog 34 #[.int .u64 (U : Int), .int .i64 16] w fun e w' => ∃ k, e = .returned (.string (tx (hexL U k))) ∧ (0 < k ∧ k ≤ 16 ∧ U < 16 ^ k) ∧ Below w.heap.size w w' := by
  have H := Lib.hid (fmtU_in U hU w ht)
  clear ht
  go_enter Tryd.func34, Tryd.ntmps34
  go_wp2_with (go_at_call 46; refine H.out.mono ?_; rintro e w' ⟨k, rfl, hk, hb⟩; have HK := Lib.hid hk; have HB := Lib.hid hb; clear hk hb)
  go_ret
  exact ⟨k, rfl, HK.out, HB.out⟩
def Z64 : ByteArray := ⟨#[48, 48, 48, 48, 48, 48, 48, 48, 48, 48, 48, 48, 48, 48, 48, 48, 48, 48, 48, 48, 48, 48, 48, 48, 48, 48, 48, 48, 48, 48, 48, 48, 48, 48, 48, 48, 48, 48, 48, 48, 48, 48, 48, 48, 48, 48, 48, 48, 48, 48, 48, 48, 48, 48, 48, 48, 48, 48, 48, 48, 48, 48, 48, 48]⟩
def first48 (s : ByteArray) : Bool := s.data.toList.head? == some 48
theorem pre48 (s : ByteArray) (w : World) : Calls Tryd.prog 48 #[.string s, .string ⟨#[48]⟩] w fun e w' => ∃ b, e = .returned (.bool b) ∧ b = first48 s ∧ w = w' := by
  refine (strings_HasPrefix _ _ w).mono ?_
  rintro e w' ⟨rfl, rfl⟩
  refine ⟨_, rfl, ?_, rfl⟩
  show Lib.hasPrefix s.data.toList [48] = first48 s
  unfold Lib.hasPrefix first48
  cases s.data.toList with
  | nil => rfl
  | cons c l =>
    show ((48 : UInt8) == c && ([] : List UInt8).isPrefixOf l) = (some c == some 48)
    by_cases h : c = 48
    · subst h; simp
    · have h2 : ¬ (48 : UInt8) = c := fun e => h e.symm
      rw [beq_eq_false_iff_ne.2 h2, beq_eq_false_iff_ne.2 (fun e => h (Option.some.inj e))]
      rfl
theorem zeros_cut (n : Nat) (h : n ≤ 15) (W : World) : (Instr.slice 9 (.string ⟨#[48, 48, 48, 48, 48, 48, 48, 48, 48, 48, 48, 48, 48, 48, 48, 48, 48, 48, 48, 48, 48, 48, 48, 48, 48, 48, 48, 48, 48, 48, 48, 48, 48, 48, 48, 48, 48, 48, 48, 48, 48, 48, 48, 48, 48, 48, 48, 48, 48, 48, 48, 48, 48, 48, 48, 48, 48, 48, 48, 48, 48, 48, 48, 48]⟩) none (some (.int .i64 (n : Int))) none).run Tryd.prog W = .ok (.string (tx (List.replicate n 48))) W := by
  have e : n = 0 ∨ n = 1 ∨ n = 2 ∨ n = 3 ∨ n = 4 ∨ n = 5 ∨ n = 6 ∨ n = 7 ∨ n = 8 ∨ n = 9 ∨ n = 10 ∨ n = 11 ∨ n = 12 ∨ n = 13 ∨ n = 14 ∨ n = 15 := by omega
  rcases e with rfl | rfl | rfl | rfl | rfl | rfl | rfl | rfl | rfl | rfl | rfl | rfl | rfl | rfl | rfl | rfl <;> rfl
set_option maxRecDepth 100000 in
theorem repeat0 (n : Nat) (h : n ≤ 15) (w : World) :
    Calls Tryd.prog 35 #[.string ⟨#[48]⟩, .int .i64 (n : Int)] w fun e w' => e = .returned (.string (tx (List.replicate n 48))) ∧ w = w' := by
  by_cases h0 : n = 0
  · subst h0
    go_enter Tryd.func35, Tryd.ntmps35
    go_wp2_with fail
    go_ret
    exact ⟨rfl, rfl⟩
  · by_cases h1 : n = 1
    · subst h1
      go_enter Tryd.func35, Tryd.ntmps35
      go_wp2_with fail
      go_ret
      exact ⟨rfl, rfl⟩
    · have hn0 : ¬ ((n : Int) = 0) := by omega
      have hn1 : ¬ ((n : Int) = 1) := by omega
      have hn64 : (n : Int) ≤ 64 := by omega
      have hcut := zeros_cut n h
      have HM : Hid (∀ W, Calls Tryd.prog 47 #[.int .u64 1, .int .u64 (n : Int)] W fun e w' => e = .returned (.tuple #[.int .u64 0, .int .u64 (n : Int)]) ∧ w' = W) := Lib.hid (fun W => by
        have h9 := bits_Mul 1 n (by decide) (by omega) W
        rw [show 1 * n / 18446744073709551616 = 0 by omega, show 1 * n % 18446744073709551616 = n by omega] at h9
        exact h9)
      go_enter Tryd.func35, Tryd.ntmps35
      go_wp2_with (first
        | (go_at_call 47; refine (HM.out _).mono ?_; rintro e w' ⟨rfl, rfl⟩)
        | (go_at_call 48; refine (pre48 _ _).mono ?_; rintro e w' ⟨b, rfl, hb, rfl⟩; first | (obtain rfl : b = false := hb) | (obtain rfl : b = true := hb)))
      go_ret
      exact ⟨rfl, rfl⟩

theorem hexL_zero (U k : Nat) (h : U < 16 ^ k) : ∀ m, hexL U (k + m) = List.replicate m 48 ++ hexL U k
  | 0 => rfl
  | m + 1 => by
    have h0 : U / 16 ^ (k + m) = 0 := Nat.div_eq_of_lt (Nat.lt_of_lt_of_le h (Nat.pow_le_pow_right (by decide) (Nat.le_add_right k m)))
    show hexN (U / 16 ^ (k + m) % 16) :: hexL U (k + m) = _
    rw [h0, hexL_zero U k h m]
    rfl
def bitsT (x : Nat) : ByteArray := tx (hexL x 16)
theorem bits_any (x : Nat) (hx : x < 18446744073709551616) (w : World) (ht : w.cell? ⟨5, 15, none⟩ = some (.int .u8 4)) :
    Calls Tryd.prog 22 #[.int .u64 (x : Int)] w fun e w' => e = .returned (.string (bitsT x)) ∧ Below w.heap.size w w' := by
  have H := Lib.hid (fmtU_any x hx w ht)
  clear ht
  go_enter Tryd.func22, Tryd.ntmps22
  go_wp2_with fail
  refine H.out.mono ?_
  rintro e w1 ⟨k, rfl, ⟨hk0, hk16, hk⟩, hb⟩
  have HB := Lib.hid hb
  have hsz : (tx (hexL x k)).size = k := by rw [tx_size, hexL_length]
  have HC : Hid (tx (List.replicate (16 - k) 48) ++ tx (hexL x k) = bitsT x) := Lib.hid (by
    rw [tx_append, ← hexL_zero x k hk, show k + (16 - k) = 16 by omega]
    rfl)
  have hcat := HC.out
  have hsr : (tx (List.replicate (16 - k) 48)).size = 16 - k := by rw [tx_size, List.length_replicate]
  have h16 : (16 : Int) - (k : Int) = ((16 - k : Nat) : Int) := by omega
  have hlim : ¬ (9223372036854775807 < 16 - k + k) := by omega
  have HR := Lib.hid (fun W => repeat0 (16 - k) (by omega) W)
  clear hb HC hk
  generalize tx (List.replicate (16 - k) 48) = A at *
  generalize tx (hexL x k) = B at *
  generalize 16 - k = m at *
  go_wp2_with (go_at_call 35; refine (HR.out _).mono ?_; rintro e w2 ⟨rfl, rfl⟩)
  go_ret
  exact ⟨rfl, HB.out⟩
def D16 : ByteArray := ⟨#[48, 49, 50, 51, 52, 53, 54, 55, 56, 57, 97, 98, 99, 100, 101, 102]⟩
theorem dig_cut (r : Nat) (h : r < 16) (W : World) : (Instr.slice 9 (.string ⟨#[48, 49, 50, 51, 52, 53, 54, 55, 56, 57, 97, 98, 99, 100, 101, 102]⟩) (some (.int .u64 (r : Int))) (some (.int .u64 ((r : Int) + 1))) none).run Tryd.prog W = .ok (.string (tx [hexN r])) W := by
  have e : r = 0 ∨ r = 1 ∨ r = 2 ∨ r = 3 ∨ r = 4 ∨ r = 5 ∨ r = 6 ∨ r = 7 ∨ r = 8 ∨ r = 9 ∨ r = 10 ∨ r = 11 ∨ r = 12 ∨ r = 13 ∨ r = 14 ∨ r = 15 := by omega
  rcases e with rfl | rfl | rfl | rfl | rfl | rfl | rfl | rfl | rfl | rfl | rfl | rfl | rfl | rfl | rfl | rfl <;> rfl
/-- the upper digits, down to place j -/
def upL (x : Nat) : Nat → List Nat
  | 0 => []
  | t + 1 => upL x t ++ [hexN (x / 16 ^ (15 - t) % 16)]
theorem upL_all (x : Nat) : upL x 16 = hexL x 16 := rfl
theorem upL_length (x t : Nat) : (upL x t).length = t := by
  induction t with
  | zero => rfl
  | succ t ih => simp [upL, ih]
end Go.Proofs.YtkplkfhkablelaaDoor.Di
