/-
  The contract of the document's own sum of a text.
-/
import Derived.Test.YtkplkfhkablelaaDoorCrcB
namespace Go.Proofs.YtkplkfhkablelaaDoor
open Go.ChangeShapes Go.WideShapes Go.ChangeAt Go.RowKit
set_option linter.unusedVariables false

/-- a text's bytes as numbers -/
def nums (s : ByteArray) : List Nat := s.data.toList.map UInt8.toNat

theorem bit_in (Q c m : Nat) : bits .xor .u32 ((Q : Int) % 2) (((c : Int) / 2 ^ m).tmod 2 % 4294967296) = (((Q % 2) ^^^ (c / 2 ^ m % 2) : Nat) : Int) := by
  have hp : ((c : Int) / 2 ^ m) = ((c / 2 ^ m : Nat) : Int) := by rw [Int.natCast_ediv, Int.natCast_pow]; rfl
  rw [hp, Int.tmod_eq_emod_of_nonneg (Int.natCast_nonneg _)]
  have e : ((c / 2 ^ m : Nat) : Int) % 2 % 4294967296 = ((c / 2 ^ m % 2 : Nat) : Int) := by omega
  rw [e]
  exact u32_xor_nat (Q % 2) (c / 2 ^ m % 2) (by omega) (by omega)

theorem bit_true (Q c m : Nat) (hQ : Q < 4294967296) (h : (bits .xor .u32 ((Q : Int) % 2) (((c : Int) / 2 ^ m).tmod 2 % 4294967296) == 1) = true) :
    bits .xor .u32 ((Q : Int) / 2) 2197175160 = ((bitS Q (c / 2 ^ m % 2) : Nat) : Int) := by
  rw [bit_in] at h
  have h1 : (Q % 2) ^^^ (c / 2 ^ m % 2) = 1 := by
    have := beq_iff_eq.1 h
    omega
  unfold bitS
  rw [if_pos h1]
  exact u32_xor_nat (Q / 2) 2197175160 (by omega) (by decide)
theorem bit_false (Q c m : Nat) (h : (bits .xor .u32 ((Q : Int) % 2) (((c : Int) / 2 ^ m).tmod 2 % 4294967296) == 1) = false) :
    (Q : Int) / 2 = ((bitS Q (c / 2 ^ m % 2) : Nat) : Int) := by
  rw [bit_in] at h
  have h1 : ¬ (Q % 2) ^^^ (c / 2 ^ m % 2) = 1 := by
    have := beq_eq_false_iff_ne.1 h
    omega
  unfold bitS
  rw [if_neg h1]
  rfl
theorem bitS_lt (r b : Nat) (h : r < 4294967296) : bitS r b < 4294967296 := by
  unfold bitS
  split
  · exact Nat.xor_lt_two_pow (n := 32) (by omega) (by decide)
  · omega

theorem nums_length (s : ByteArray) : (nums s).length = s.size := by unfold nums; rw [List.length_map, Array.length_toList]; rfl
theorem nums_getD (s : ByteArray) (k : Nat) (hk : k < s.size) : (nums s).getD k 0 = s[k].toNat := by
  have h : k < (nums s).length := by rw [nums_length]; exact hk
  have e : (nums s).getD k 0 = (nums s)[k] := by simp [List.getD, List.getElem?_eq_getElem h]
  rw [e]
  simp only [nums, List.getElem_map, Array.getElem_toList]
  rfl
theorem nums_lt (s : ByteArray) : ∀ c ∈ nums s, c < 256 := by
  intro c hc
  obtain ⟨u, _, rfl⟩ := List.mem_map.1 hc
  exact u.toNat_lt

set_option maxHeartbeats 400000 in
theorem refSum_any (s : ByteArray) (w : World) (hs : s.size ≤ maxLen) :
    Calls Tryd.prog 10 #[.string s] w fun e w' => e = .returned (.int .u32 (sum (nums s) : Nat)) ∧ w = w' := by
  have hmm : s.size ≤ 9223372036854775807 := by unfold maxLen at hs; omega
  clear hs
  go_enter Tryd.func10, Tryd.ntmps10
  go_wp2_with fail
  go_loop [3, 4] (fun r i => ∃ k R : Nat, k ≤ s.size ∧ i = .int .i64 k ∧ r = .int .u32 (R : Nat) ∧ R < 4294967296 ∧ R = reg 4294967295 ((nums s).take k)) (fun _ i => s.size - (intOf i).toNat)
  case atStart => exact ⟨0, 4294967295, Nat.zero_le _, rfl, rfl, by decide, rfl⟩
  case round =>
    obtain ⟨k, R, hk, rfl, rfl, hRl, hR⟩ := hrel
    have HR := Lib.hid hR
    clear hR
    by_cases hlt : k < s.size
    · go_wp2_with fail
      go_loop [3, 5] (fun r j => ∃ m Q : Nat, m ≤ 8 ∧ j = .int .i64 m ∧ r = .int .u32 (Q : Nat) ∧ Q < 4294967296 ∧ Q = bitsS s[k].toNat m R) (fun _ j => 8 - (intOf j).toNat)
      case atStart => exact ⟨0, R, Nat.zero_le _, rfl, rfl, hRl, rfl⟩
      case round =>
        obtain ⟨m, Q, hm, rfl, rfl, hQl, hQ⟩ := hrel
        have HQ := Lib.hid hQ
        clear hQ
        by_cases hl2 : m < 8
        · go_wp2_with fail
          · have hb := bit_true Q s[k].toNat m hQl (by assumption)
            have HB := Lib.hid hb
            clear hb
            go_round
            case rel => exact ⟨m + 1, bitS Q (s[k].toNat / 2 ^ m % 2), by omega, by go_num, by rw [HB.out], bitS_lt _ _ hQl, by rw [HQ.out]; rfl⟩
            case measure => simp [intOf]; omega
          · have hb := bit_false Q s[k].toNat m (by assumption)
            have HB := Lib.hid hb
            clear hb
            go_round
            case rel => exact ⟨m + 1, bitS Q (s[k].toNat / 2 ^ m % 2), by omega, by go_num, by rw [HB.out], bitS_lt _ _ hQl, by rw [HQ.out]; rfl⟩
            case measure => simp [intOf]; omega
        · go_wp2_with fail
          have e : m = 8 := by omega
          subst e
          go_round
          case rel => exact ⟨k + 1, Q, by omega, by go_num, rfl, hQl, by rw [HQ.out, bitsS_byte _ _ (s[k].toNat_lt), reg_take _ _ _ (by rw [nums_length]; exact hlt), nums_getD s k hlt, HR.out]⟩
          case measure => simp [intOf]; omega
    · have hf := flip32_eq R hRl
      go_wp2_with fail
      go_ret
      exact ⟨ret_int (by rw [HR.out, List.take_of_length_le (by rw [nums_length]; omega)]; rfl), rfl⟩

end Go.Proofs.YtkplkfhkablelaaDoor
