/-
  Sixteen digits of bits: FormatUint, Repeat of noughts, Bits, and the document's Bits.
-/
import Derived.Test.YtbbkdoblafjkjaaDoorHexA
import Derived.Test.YtbbkdoblafjkjaaDoorShelfB
import Derived.Test.YtbbkdoblafjkjaaDoorReg
namespace Go.Proofs.YtbbkdoblafjkjaaDoor
open Go.ChangeShapes Go.WideShapes Go.ChangeAt Go.RowKit
set_option linter.unusedVariables false

theorem fmtU_in (U : Nat) (hU : U < 18446744073709551616) (w : World) (ht : w.cell? ⟨4, 15, none⟩ = some (.int .u8 4)) :
    Calls Tryd.prog 36 #[.int .u64 (U : Int), .int .i64 16] w fun e w' => ∃ k, e = .returned (.string (tx (hexL U k))) ∧ (0 < k ∧ k ≤ 16 ∧ U < 16 ^ k) ∧ Below w.heap.size w w' := by
  have H := Lib.hid (fmt16 U hU w ht)
  clear ht
  go_enter Tryd.func36, Tryd.ntmps36
  go_wp2_with (go_at_call 50; refine H.out.mono ?_; rintro e w' ⟨k, rfl, hk, hb⟩; have HK := Lib.hid hk; have HB := Lib.hid hb; clear hk hb)
  go_ret
  exact ⟨k, rfl, HK.out, HB.out⟩
theorem fmtU_any (U : Nat) (hU : U < 18446744073709551616) (w : World) (ht : w.cell? ⟨4, 15, none⟩ = some (.int .u8 4)) :
    Calls Tryd.prog 27 #[.int .u64 (U : Int), .int .i64 16] w fun e w' => ∃ k, e = .returned (.string (tx (hexL U k))) ∧ (0 < k ∧ k ≤ 16 ∧ U < 16 ^ k) ∧ Below w.heap.size w w' := by
  have H := Lib.hid (fmtU_in U hU w ht)
  clear ht
  go_enter Tryd.func27, Tryd.ntmps27
  go_wp2_with (go_at_call 36; refine H.out.mono ?_; rintro e w' ⟨k, rfl, hk, hb⟩; have HK := Lib.hid hk; have HB := Lib.hid hb; clear hk hb)
  go_ret
  exact ⟨k, rfl, HK.out, HB.out⟩
def Z64 : ByteArray := ⟨#[48, 48, 48, 48, 48, 48, 48, 48, 48, 48, 48, 48, 48, 48, 48, 48, 48, 48, 48, 48, 48, 48, 48, 48, 48, 48, 48, 48, 48, 48, 48, 48, 48, 48, 48, 48, 48, 48, 48, 48, 48, 48, 48, 48, 48, 48, 48, 48, 48, 48, 48, 48, 48, 48, 48, 48, 48, 48, 48, 48, 48, 48, 48, 48]⟩
def first48 (s : ByteArray) : Bool := s.data.toList.head? == some 48
theorem pre48 (s : ByteArray) (w : World) : Calls Tryd.prog 38 #[.string s, .string ⟨#[48]⟩] w fun e w' => ∃ b, e = .returned (.bool b) ∧ b = first48 s ∧ w = w' := by
  refine (strings_HasPrefix _ _ w).mono ?_
  rintro e w' ⟨rfl, rfl⟩
  refine ⟨_, rfl, ?_, rfl⟩
  show Lib.hasPrefix s.data.toList [48] = first48 s
  unfold Lib.hasPrefix first48
  cases s.data.toList with
  | nil => rfl
  | cons c l =>
    show ((48 : UInt8) == c && ([] : List UInt8).isPrefixOf l) = (some c == some 48)
    by_cases h : c = 48
    · subst h; simp
    · have h2 : ¬ (48 : UInt8) = c := fun e => h e.symm
      rw [beq_eq_false_iff_ne.2 h2, beq_eq_false_iff_ne.2 (fun e => h (Option.some.inj e))]
      rfl
theorem zeros_cut (n : Nat) (h : n ≤ 15) (W : World) : (Instr.slice 9 (.string ⟨#[48, 48, 48, 48, 48, 48, 48, 48, 48, 48, 48, 48, 48, 48, 48, 48, 48, 48, 48, 48, 48, 48, 48, 48, 48, 48, 48, 48, 48, 48, 48, 48, 48, 48, 48, 48, 48, 48, 48, 48, 48, 48, 48, 48, 48, 48, 48, 48, 48, 48, 48, 48, 48, 48, 48, 48, 48, 48, 48, 48, 48, 48, 48, 48]⟩) none (some (.int .i64 (n : Int))) none).run Tryd.prog W = .ok (.string (tx (List.replicate n 48))) W := by
  have e : n = 0 ∨ n = 1 ∨ n = 2 ∨ n = 3 ∨ n = 4 ∨ n = 5 ∨ n = 6 ∨ n = 7 ∨ n = 8 ∨ n = 9 ∨ n = 10 ∨ n = 11 ∨ n = 12 ∨ n = 13 ∨ n = 14 ∨ n = 15 := by omega
  rcases e with rfl | rfl | rfl | rfl | rfl | rfl | rfl | rfl | rfl | rfl | rfl | rfl | rfl | rfl | rfl | rfl <;> rfl
set_option maxRecDepth 100000 in
theorem repeat0 (n : Nat) (h : n ≤ 15) (w : World) :
    Calls Tryd.prog 28 #[.string ⟨#[48]⟩, .int .i64 (n : Int)] w fun e w' => e = .returned (.string (tx (List.replicate n 48))) ∧ w = w' := by
  by_cases h0 : n = 0
  · subst h0
    go_enter Tryd.func28, Tryd.ntmps28
    go_wp2_with fail
    go_ret
    exact ⟨rfl, rfl⟩
  · by_cases h1 : n = 1
    · subst h1
      go_enter Tryd.func28, Tryd.ntmps28
      go_wp2_with fail
      go_ret
      exact ⟨rfl, rfl⟩
    · have hn0 : ¬ ((n : Int) = 0) := by omega
      have hn1 : ¬ ((n : Int) = 1) := by omega
      have hn64 : (n : Int) ≤ 64 := by omega
      have hcut := zeros_cut n h
      have HM : Hid (∀ W, Calls Tryd.prog 37 #[.int .u64 1, .int .u64 (n : Int)] W fun e w' => e = .returned (.tuple #[.int .u64 0, .int .u64 (n : Int)]) ∧ w' = W) := Lib.hid (fun W => by
        have h9 := bits_Mul 1 n (by decide) (by omega) W
        rw [show 1 * n / 18446744073709551616 = 0 by omega, show 1 * n % 18446744073709551616 = n by omega] at h9
        exact h9)
      go_enter Tryd.func28, Tryd.ntmps28
      go_wp2_with (first
        | (go_at_call 37; refine (HM.out _).mono ?_; rintro e w' ⟨rfl, rfl⟩)
        | (go_at_call 38; refine (pre48 _ _).mono ?_; rintro e w' ⟨b, rfl, hb, rfl⟩; first | (obtain rfl : b = false := hb) | (obtain rfl : b = true := hb)))
      go_ret
      exact ⟨rfl, rfl⟩

theorem hexL_zero (U k : Nat) (h : U < 16 ^ k) : ∀ m, hexL U (k + m) = List.replicate m 48 ++ hexL U k
  | 0 => rfl
  | m + 1 => by
    have h0 : U / 16 ^ (k + m) = 0 := Nat.div_eq_of_lt (Nat.lt_of_lt_of_le h (Nat.pow_le_pow_right (by decide) (Nat.le_add_right k m)))
    show hexN (U / 16 ^ (k + m) % 16) :: hexL U (k + m) = _
    rw [h0, hexL_zero U k h m]
    rfl
def bitsT (x : Nat) : ByteArray := tx (hexL x 16)
theorem bits_any (x : Nat) (hx : x < 18446744073709551616) (w : World) (ht : w.cell? ⟨4, 15, none⟩ = some (.int .u8 4)) :
    Calls Tryd.prog 13 #[.int .u64 (x : Int)] w fun e w' => e = .returned (.string (bitsT x)) ∧ Below w.heap.size w w' := by
  have H := Lib.hid (fmtU_any x hx w ht)
  clear ht
  go_enter Tryd.func13, Tryd.ntmps13
  go_wp2_with fail
  refine H.out.mono ?_
  rintro e w1 ⟨k, rfl, ⟨hk0, hk16, hk⟩, hb⟩
  have HB := Lib.hid hb
  have hsz : (tx (hexL x k)).size = k := by rw [tx_size, hexL_length]
  have HC : Hid (tx (List.replicate (16 - k) 48) ++ tx (hexL x k) = bitsT x) := Lib.hid (by
    rw [tx_append, ← hexL_zero x k hk, show k + (16 - k) = 16 by omega]
    rfl)
  have hcat := HC.out
  have hsr : (tx (List.replicate (16 - k) 48)).size = 16 - k := by rw [tx_size, List.length_replicate]
  have h16 : (16 : Int) - (k : Int) = ((16 - k : Nat) : Int) := by omega
  have hlim : ¬ (9223372036854775807 < 16 - k + k) := by omega
  have HR := Lib.hid (fun W => repeat0 (16 - k) (by omega) W)
  clear hb HC hk
  generalize tx (List.replicate (16 - k) 48) = A at *
  generalize tx (hexL x k) = B at *
  generalize 16 - k = m at *
  go_wp2_with (go_at_call 28; refine (HR.out _).mono ?_; rintro e w2 ⟨rfl, rfl⟩)
  go_ret
  exact ⟨rfl, HB.out⟩
def D16 : ByteArray := ⟨#[48, 49, 50, 51, 52, 53, 54, 55, 56, 57, 97, 98, 99, 100, 101, 102]⟩
theorem dig_cut (r : Nat) (h : r < 16) (W : World) : (Instr.slice 9 (.string ⟨#[48, 49, 50, 51, 52, 53, 54, 55, 56, 57, 97, 98, 99, 100, 101, 102]⟩) (some (.int .u64 (r : Int))) (some (.int .u64 ((r : Int) + 1))) none).run Tryd.prog W = .ok (.string (tx [hexN r])) W := by
  have e : r = 0 ∨ r = 1 ∨ r = 2 ∨ r = 3 ∨ r = 4 ∨ r = 5 ∨ r = 6 ∨ r = 7 ∨ r = 8 ∨ r = 9 ∨ r = 10 ∨ r = 11 ∨ r = 12 ∨ r = 13 ∨ r = 14 ∨ r = 15 := by omega
  rcases e with rfl | rfl | rfl | rfl | rfl | rfl | rfl | rfl | rfl | rfl | rfl | rfl | rfl | rfl | rfl | rfl <;> rfl
/-- the upper digits, down to place j -/
def upL (x : Nat) : Nat → List Nat
  | 0 => []
  | t + 1 => upL x t ++ [hexN (x / 16 ^ (15 - t) % 16)]
theorem upL_all (x : Nat) : upL x 16 = hexL x 16 := rfl
theorem upL_length (x t : Nat) : (upL x t).length = t := by
  induction t with
  | zero => rfl
  | succ t ih => simp [upL, ih]
set_option maxRecDepth 100000 in
theorem refBits_any (x : Nat) (hx : x < 18446744073709551616) (w : World) :
    Calls Tryd.prog 14 #[.int .u64 (x : Int)] w fun e w' => e = .returned (.string (bitsT x)) ∧ Below w.heap.size w w' := by
  go_enter Tryd.func14, Tryd.ntmps14
  go_wp2_with fail
  go_loopw [4, 5] (fun sv iv wr => ∃ t : Nat, t ≤ 16 ∧ iv = .int .i64 (60 - 4 * (t : Int)) ∧ sv = .string (tx (upL x t)) ∧ Below w.heap.size w wr) (fun _ iv _ => (intOf iv + 4).toNat)
  case atStart => exact ⟨0, by omega, rfl, rfl, Below.refl _ _⟩
  case round =>
    obtain ⟨t, ht, rfl, rfl, hb⟩ := hrel
    have HB := Lib.hid hb
    clear hb
    by_cases hlt : t < 16
    · have hi0 : (0 : Int) ≤ 60 - 4 * (t : Int) := by omega
      have hi1 : (60 : Int) - 4 * (t : Int) < 64 := by omega
      have hiw : ((60 : Int) - 4 * (t : Int)).toNat = 4 * (15 - t) := by omega
      have hpw : (2 : Nat) ^ (4 * (15 - t)) = 16 ^ (15 - t) := by rw [Nat.pow_mul]
      obtain ⟨v, hv⟩ : ∃ v, v = x / 16 ^ (15 - t) := ⟨_, rfl⟩
      have hcutd := dig_cut (v % 16) (Nat.mod_lt _ (by decide))
      have hvI : (x : Int) / 2 ^ (4 * (15 - t)) = (v : Int) := by
        have h2 : ((2 ^ (4 * (15 - t)) : Nat) : Int) = (2 : Int) ^ (4 * (15 - t)) := by simp
        rw [← h2, hpw, hv]
        rfl
      have hrI : (v : Int) % 16 = ((v % 16 : Nat) : Int) := by omega
      have hrT : (v : Int).tmod 16 = ((v % 16 : Nat) : Int) := rfl
      have hr16 : v % 16 < 16 := Nat.mod_lt _ (by decide)
      have hcat : tx (upL x t) ++ tx [hexN (v % 16)] = tx (upL x (t + 1)) := by rw [tx_append, hv]; rfl
      have hs1 : (tx (upL x t)).size = t := by rw [tx_size, upL_length]
      have hs2 : (tx [hexN (v % 16)]).size = 1 := by rw [tx_size]; rfl
      have hlim : ¬ (9223372036854775807 < t + 1) := by omega
      have hlim2 : ¬ ((9223372036854775807 : Int) < (t : Int) + 1) := by omega
      clear hv hpw
      generalize v % 16 = r at *
      have hwr : IntKind.u64.wrap ((r : Int) + 1) = (r : Int) + 1 := by simp only [IntKind.wrap, IntKind.bits, IntKind.signed]; simp; omega
      generalize hT : tx (upL x (t + 1)) = T2 at *
      have HT2 := Lib.hid hT
      clear hT
      generalize tx (upL x t) = T1 at *
      generalize tx [hexN r] = T0 at *
      go_wp2_with fail
      refine wp_region_inv_lit [.is (.string T1), .is (.string ⟨#[48, 49, 50, 51, 52, 53, 54, 55, 56, 57, 97, 98, 99, 100, 101, 102]⟩), .is (.int .u64 x), .is (.int .i64 (60 - 4 * (t : Int))), .is (.int .u64 v), .is (.int .u64 r),
        .is (.int .u64 x), .is (.int .i64 (60 - 4 * (t : Int))), .is (.int .u64 v), .is (.int .u64 r), .is (.int .u64 ((r : Int) + 1)), .is (.string T0), .is (.string T2), .is (.string T2)] (by kernel_rfl) (by kernel_rfl) ?_
      repeat1' (refine wpInv_is ?_ ?_; (focus (intro W hW hF K hK; clear hF; go_simp; exact hK _ _ (Gl.refl _) rfl)); simp only [Act.put, List.setIfInBounds_toArray, List.set_cons_zero, List.set_cons_succ])
      refine wpInv_end ?_
      intro W hW hF
      clear hF
      have HWW := Lib.hid (HB.out.trans (hW.undrew.mono HB.out.size))
      clear hW
      go_wp2_with fail
      go_roundw
      case rel => exact ⟨t + 1, by omega, by go_num, by rw [HT2.out], HWW.out⟩
      case measure => simp [intOf]; omega
    · obtain rfl : t = 16 := by omega
      have HU := Lib.hid (congrArg tx (upL_all x))
      go_wp2_with fail
      go_ret
      exact ⟨by rw [HU.out]; rfl, HB.out⟩
end Go.Proofs.YtbbkdoblafjkjaaDoor
