/-
  A number that a double has is written as that double (no program in sight).
-/
import Derived.Test.YtakbkfcnaalnkaaFloatD
namespace Go.Proofs.Ytakbkfcnaalnkaa
open Ieee

theorem nearest_eq (neg : Bool) (mag : Nat) (place : Int) (h : mag ≠ 0) : D.nearest neg mag place =
    D.word neg (min ((max (place + mag.log2 - 52) (-1074) - (-1074)).toNat * 4503599627370496 + Toward.even.cut neg (mag <<< (place - max (place + mag.log2 - 52) (-1074)).toNat) (max (place + mag.log2 - 52) (-1074) - place).toNat) INFR) := by
  unfold Format.nearest
  rw [if_neg h]
  rfl

theorem cut_exact (neg : Bool) (n drop : Nat) : Toward.even.cut neg (n * 2 ^ drop) drop = n := by
  unfold Toward.cut
  by_cases hn : n = 0
  · subst hn
    simp only [Nat.zero_mul, Nat.shiftLeft_eq, Nat.one_mul, Nat.zero_div, Nat.zero_mod]
    have : 0 < 2 ^ min drop (Nat.log2 0 + 2) := Nat.two_pow_pos _
    generalize 2 ^ min drop (Nat.log2 0 + 2) = g at *
    have h1 : ¬ g < 2 * 0 := by omega
    have h2 : ¬ g = 2 * 0 := by omega
    simp
  · have hl : (n * 2 ^ drop).log2 = n.log2 + drop := by
      rw [Nat.log2_eq_iff (by have := Nat.two_pow_pos drop; exact Nat.mul_ne_zero hn (by omega))]
      constructor
      · rw [Nat.pow_add]; exact Nat.mul_le_mul_right _ (Nat.log2_self_le hn)
      · rw [show n.log2 + drop + 1 = (n.log2 + 1) + drop by omega, Nat.pow_add]; exact Nat.mul_lt_mul_of_pos_right Nat.lt_log2_self (Nat.two_pow_pos _)
    rw [hl, Nat.min_eq_left (by omega)]
    simp only [Nat.shiftLeft_eq, Nat.one_mul]
    have hp : 0 < 2 ^ drop := Nat.two_pow_pos _
    rw [Nat.mul_div_cancel _ hp, Nat.mul_mod_left]
    have h1 : ¬ 2 ^ drop < 2 * 0 := by omega
    have h2 : ¬ 2 ^ drop = 2 * 0 := by omega
    simp

theorem log2_mul_pow (n k : Nat) (hn : n ≠ 0) : (n * 2 ^ k).log2 = n.log2 + k := by
  rw [Nat.log2_eq_iff (by have := Nat.two_pow_pos k; exact Nat.mul_ne_zero hn (by omega))]
  constructor
  · rw [Nat.pow_add]; exact Nat.mul_le_mul_right _ (Nat.log2_self_le hn)
  · rw [show n.log2 + k + 1 = (n.log2 + 1) + k by omega, Nat.pow_add]; exact Nat.mul_lt_mul_of_pos_right Nat.lt_log2_self (Nat.two_pow_pos _)

theorem val_parts (r : Nat) (h : val r ≠ 0) : ∃ q t : Nat, val r = q * 2 ^ t ∧ r = t * 4503599627370496 + q ∧ q ≠ 0 ∧ (q.log2 = 52 ∨ (t = 0 ∧ q.log2 ≤ 52)) := by
  by_cases h1 : r < 4503599627370496
  · have e : val r = r := by unfold val; rw [if_pos h1]
    rw [e] at h ⊢
    refine ⟨r, 0, by simp, by omega, h, .inr ⟨rfl, ?_⟩⟩
    have := (Nat.log2_lt h).2 (show r < 2 ^ 52 from h1)
    omega
  · have e : val r = (4503599627370496 + r % 4503599627370496) * 2 ^ (r / 4503599627370496 - 1) := by unfold val; rw [if_neg h1]
    refine ⟨_, _, e, by omega, by omega, .inl ?_⟩
    rw [Nat.log2_eq_iff (by omega)]
    constructor
    · show 4503599627370496 ≤ _
      omega
    · show _ < 9007199254740992
      omega

/-- THE WORD OF A NUMBER THAT IS A RUNG's VALUE IS THAT RUNG: whatever its magnitude and place -/
theorem nearest_exact (neg : Bool) (mag : Nat) (place : Int) (r : Nat) (hr : r < INFR) (a b : Nat) (ha : place + a = -1074 + b) (hv : mag * 2 ^ b = val r * 2 ^ a) : D.nearest neg mag place = D.word neg r := by
  have pa := Nat.two_pow_pos a
  have pb := Nat.two_pow_pos b
  by_cases hm : mag = 0
  · subst hm
    have h0 : val r = 0 := by
      rw [Nat.zero_mul] at hv
      rcases Nat.mul_eq_zero.1 hv.symm with h | h
      · exact h
      · omega
    have : r = 0 := (val_zero_iff r).1 h0
    subst this
    unfold Format.nearest
    rw [if_pos rfl]
  · have h0 : val r ≠ 0 := by
      intro h
      rw [h, Nat.zero_mul] at hv
      rcases Nat.mul_eq_zero.1 hv with h | h <;> omega
    obtain ⟨q, t, e1, e2, hq, hl⟩ := val_parts r h0
    rw [nearest_eq neg mag place hm]
    have hlog : mag.log2 + b = q.log2 + (t + a) := by
      rw [← log2_mul_pow mag b hm, hv, e1, Nat.mul_assoc, ← Nat.pow_add, log2_mul_pow q _ hq]
    have hlast : max (place + (mag.log2 : Int) - 52) (-1074) = -1074 + (t : Int) := by omega
    rw [hlast]
    have hv' : mag * 2 ^ b = q * 2 ^ (t + a) := by rw [hv, e1, Nat.mul_assoc, ← Nat.pow_add]
    have hcut : Toward.even.cut neg (mag <<< (place - (-1074 + (t : Int))).toNat) (-1074 + (t : Int) - place).toNat = q := by
      rw [Nat.shiftLeft_eq]
      by_cases hb : t + a ≤ b
      · rw [show (place - (-1074 + (t : Int))).toNat = b - (t + a) by omega, show (-1074 + (t : Int) - place).toNat = 0 by omega]
        have h1 : mag * 2 ^ (b - (t + a)) * 2 ^ (t + a) = q * 2 ^ (t + a) := by rw [Nat.mul_assoc, ← Nat.pow_add, show b - (t + a) + (t + a) = b by omega, hv']
        have h2 : mag * 2 ^ (b - (t + a)) = q := Nat.eq_of_mul_eq_mul_right (Nat.two_pow_pos _) h1
        rw [h2]
        have := cut_exact neg q 0
        simpa using this
      · rw [show (place - (-1074 + (t : Int))).toNat = 0 by omega, show (-1074 + (t : Int) - place).toNat = t + a - b by omega]
        have h1 : mag * 2 ^ b = q * 2 ^ (t + a - b) * 2 ^ b := by rw [Nat.mul_assoc, ← Nat.pow_add, show t + a - b + b = t + a by omega, hv']
        have h2 : mag = q * 2 ^ (t + a - b) := Nat.eq_of_mul_eq_mul_right (Nat.two_pow_pos _) h1
        rw [Nat.pow_zero, Nat.mul_one, h2]
        exact cut_exact neg q _
    rw [hcut, show (-1074 + (t : Int) - -1074).toNat = t by omega, ← e2, Nat.min_eq_left (by omega)]

end Go.Proofs.Ytakbkfcnaalnkaa
