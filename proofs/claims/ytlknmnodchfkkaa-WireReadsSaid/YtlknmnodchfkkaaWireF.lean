/-
  The contracts of the reference's Num and Str.
-/
import Derived.Test.YtlknmnodchfkkaaWireE
namespace Go.Proofs.Ytlknmnodchfkkaa
open Go.ChangeShapes Go.WideShapes Go.ChangeAt Go.RowKit
set_option linter.unusedVariables false

theorem bstr_append (l m : List Nat) : bstr l ++ bstr m = bstr (l ++ m) := by
  apply ByteArray.ext
  simp [bstr]
theorem ret_str {l m : List Nat} (h : l = m) : Ending.returned (.string (bstr l)) = .returned (.string (bstr m)) := by rw [h]
theorem bstr_nil : bstr [] = ⟨#[]⟩ := rfl

/-- a fresh cell as a text -/
theorem convert_one (wr : World) (c : Nat) :
    (convert 23 9 (.slice (some ⟨wr.heap.size, 0, none⟩) 1 1)).run Try.prog (wr.alloc (.cells #[.int .u8 (c : Int)] 5)) = .ok (.string (bstr [c])) (wr.alloc (.cells #[.int .u8 (c : Int)] 5)) := by
  have e : bstr [c] = strOfNums ([c].map fun (n : Nat) => (n : Int)) := by
    unfold bstr strOfNums
    rw [List.map_map]
    rfl
  rw [e]
  refine run_convert_bytes_arg _ 23 5 Try.underlying23 Try.underlying5 wr.heap.size 0 1 1 _ rfl (fun i hi => ?_) 9 Try.underlying9
  obtain rfl : i = 0 := by omega
  exact cell_one_new' wr c 0 _ rfl

set_option maxRecDepth 100000 in
theorem refNum_n (n : Int) (h1 : -9223372036854775808 ≤ n) (h2 : n ≤ 9223372036854775807) (hn : n < 0) (w : World) :
    Calls Try.prog 10 #[.int .i64 n] w fun e w' => e = .returned (.string (bstr (code n))) ∧ Below w.heap.size w w' := by
  have hz := zig_neg n hn h1
  have hzl := zig_lt n h1 h2
  go_enter Try.func10, Try.ntmps10
  go_wp2
  clear hz
  go_loopw [3, 4] (fun u b wr => ∃ (i U : Nat) (pre : List Nat), u = .int .u64 U ∧ b = .string (bstr pre) ∧ code n = pre ++ enc (10 - i) U ∧ i ≤ 9 ∧ U < 2 ^ (64 - 7 * i) ∧ pre.length = i ∧ Below w.heap.size w wr) (fun u _ _ => (intOf u).toNat)
  case atStart => exact ⟨0, zig n, [], rfl, rfl, rfl, by omega, hzl, rfl, Below.refl _ _⟩
  case round =>
    obtain ⟨i, U, pre, rfl, rfl, hcode, hi9, hU, hlen, hbel⟩ := hrel
    have HC := Lib.hid hcode
    have HU := Lib.hid hU
    have HB := Lib.hid hbel
    have HL := Lib.hid hlen
    have hsz : (bstr pre).size ≤ 10 := by rw [size_bstr, hlen]; omega
    have hU64 : U < 18446744073709551616 := by
      have h3 : 2 ^ (64 - 7 * i) ≤ 2 ^ 64 := Nat.pow_le_pow_right (by omega) (by omega)
      omega
    clear hcode hU hbel hlen
    by_cases g : 128 ≤ U
    · have hi8 : i ≤ 8 := by
        rcases Nat.lt_or_ge i 9 with h | h
        · omega
        · have e : i = 9 := by omega
          have hU := HU.out
          rw [e] at hU
          omega
      have hstep : code n = (pre ++ [U % 128 + 128]) ++ enc (10 - (i + 1)) (U / 128) := by
        rw [HC.out, show 10 - i = (10 - (i + 1)) + 1 by omega]
        conv => lhs; unfold enc
        rw [if_neg (by omega), List.append_assoc]
        rfl
      have hU2 : U / 128 < 2 ^ (64 - 7 * (i + 1)) := by
        have hU := HU.out
        rw [show 64 - 7 * i = (64 - 7 * (i + 1)) + 7 by omega, Nat.pow_add] at hU
        exact Nat.div_lt_of_lt_mul (by rw [Nat.mul_comm]; exact hU)
      have HS := Lib.hid hstep
      have HU2 := Lib.hid hU2
      clear hstep hU2
      have hcv := convert_one wr (U % 128 + 128)
      have hap := bstr_append pre [U % 128 + 128]
      have hs1 : (bstr [U % 128 + 128]).size = 1 := size_bstr _
      simp only [Int.natCast_add, Int.natCast_emod, Int.cast_ofNat_Int] at hcv
      go_wp2
      go_roundw
      case rel => exact ⟨i + 1, U / 128, pre ++ [U % 128 + 128], by go_num, rfl, HS.out, by omega, HU2.out, by rw [List.length_append, HL.out]; rfl, Below.alloc' HB.out _⟩
      case measure => simp [intOf]; omega
    · have hend : code n = pre ++ [U] := by
        rw [HC.out, show 10 - i = (9 - i) + 1 by omega]
        conv => lhs; unfold enc
        rw [if_pos (by omega)]
      have HE := Lib.hid hend
      clear hend
      have hcv := convert_one wr U
      have hap := bstr_append pre [U]
      have hs1 : (bstr [U]).size = 1 := size_bstr _
      go_wp2
      go_ret
      exact ⟨ret_str HE.out.symm, Below.alloc' HB.out _⟩

set_option maxRecDepth 100000 in
theorem refNum_p (n : Int) (h1 : -9223372036854775808 ≤ n) (h2 : n ≤ 9223372036854775807) (hn : 0 ≤ n) (w : World) :
    Calls Try.prog 10 #[.int .i64 n] w fun e w' => e = .returned (.string (bstr (code n))) ∧ Below w.heap.size w w' := by
  have hz := zig_pos2 n hn h2
  have hzl := zig_lt n h1 h2
  go_enter Try.func10, Try.ntmps10
  go_wp2
  clear hz
  go_loopw [3, 4] (fun u b wr => ∃ (i U : Nat) (pre : List Nat), u = .int .u64 U ∧ b = .string (bstr pre) ∧ code n = pre ++ enc (10 - i) U ∧ i ≤ 9 ∧ U < 2 ^ (64 - 7 * i) ∧ pre.length = i ∧ Below w.heap.size w wr) (fun u _ _ => (intOf u).toNat)
  case atStart => exact ⟨0, zig n, [], rfl, rfl, rfl, by omega, hzl, rfl, Below.refl _ _⟩
  case round =>
    obtain ⟨i, U, pre, rfl, rfl, hcode, hi9, hU, hlen, hbel⟩ := hrel
    have HC := Lib.hid hcode
    have HU := Lib.hid hU
    have HB := Lib.hid hbel
    have HL := Lib.hid hlen
    have hsz : (bstr pre).size ≤ 10 := by rw [size_bstr, hlen]; omega
    have hU64 : U < 18446744073709551616 := by
      have h3 : 2 ^ (64 - 7 * i) ≤ 2 ^ 64 := Nat.pow_le_pow_right (by omega) (by omega)
      omega
    clear hcode hU hbel hlen
    by_cases g : 128 ≤ U
    · have hi8 : i ≤ 8 := by
        rcases Nat.lt_or_ge i 9 with h | h
        · omega
        · have e : i = 9 := by omega
          have hU := HU.out
          rw [e] at hU
          omega
      have hstep : code n = (pre ++ [U % 128 + 128]) ++ enc (10 - (i + 1)) (U / 128) := by
        rw [HC.out, show 10 - i = (10 - (i + 1)) + 1 by omega]
        conv => lhs; unfold enc
        rw [if_neg (by omega), List.append_assoc]
        rfl
      have hU2 : U / 128 < 2 ^ (64 - 7 * (i + 1)) := by
        have hU := HU.out
        rw [show 64 - 7 * i = (64 - 7 * (i + 1)) + 7 by omega, Nat.pow_add] at hU
        exact Nat.div_lt_of_lt_mul (by rw [Nat.mul_comm]; exact hU)
      have HS := Lib.hid hstep
      have HU2 := Lib.hid hU2
      clear hstep hU2
      have hcv := convert_one wr (U % 128 + 128)
      have hap := bstr_append pre [U % 128 + 128]
      have hs1 : (bstr [U % 128 + 128]).size = 1 := size_bstr _
      simp only [Int.natCast_add, Int.natCast_emod, Int.cast_ofNat_Int] at hcv
      go_wp2
      go_roundw
      case rel => exact ⟨i + 1, U / 128, pre ++ [U % 128 + 128], by go_num, rfl, HS.out, by omega, HU2.out, by rw [List.length_append, HL.out]; rfl, Below.alloc' HB.out _⟩
      case measure => simp [intOf]; omega
    · have hend : code n = pre ++ [U] := by
        rw [HC.out, show 10 - i = (9 - i) + 1 by omega]
        conv => lhs; unfold enc
        rw [if_pos (by omega)]
      have HE := Lib.hid hend
      clear hend
      have hcv := convert_one wr U
      have hap := bstr_append pre [U]
      have hs1 : (bstr [U]).size = 1 := size_bstr _
      go_wp2
      go_ret
      exact ⟨ret_str HE.out.symm, Below.alloc' HB.out _⟩

theorem refNum_any (n : Int) (h1 : -9223372036854775808 ≤ n) (h2 : n ≤ 9223372036854775807) (w : World) :
    Calls Try.prog 10 #[.int .i64 n] w fun e w' => e = .returned (.string (bstr (code n))) ∧ Below w.heap.size w w' := by
  by_cases hn : n < 0
  · exact refNum_n n h1 h2 hn w
  · exact refNum_p n h1 h2 (by omega) w

theorem bstr_bytesOf (s : ByteArray) : bstr (bytesOf s) = s := by
  apply ByteArray.ext
  apply Array.ext'
  simp only [bstr, bytesOf, List.map_map]
  conv => rhs; rw [← List.map_id s.data.toList]
  apply List.map_congr_left
  intro c _
  simp

set_option maxRecDepth 100000 in
theorem refStr_any (s : ByteArray) (hs : s.size < 70368744177664) (w : World) :
    Calls Try.prog 12 #[.string s] w fun e w' => e = .returned (.string (bstr (code s.size ++ bytesOf s))) ∧ Below w.heap.size w w' := by
  have hsz : (bstr (code s.size)).size ≤ 10 := by rw [size_bstr]; exact code_len _
  have hap : bstr (code s.size) ++ s = bstr (code s.size ++ bytesOf s) := by
    rw [← bstr_append, bstr_bytesOf]
  go_enter Try.func12, Try.ntmps12
  go_wp2_with (go_at_call 10; refine (refNum_any _ (by omega) (by omega) _).mono ?_; rintro e w1 ⟨rfl, hb⟩; have HB := Lib.hid hb; clear hb)
  go_ret
  exact ⟨rfl, HB.out⟩

end Go.Proofs.Ytlknmnodchfkkaa
