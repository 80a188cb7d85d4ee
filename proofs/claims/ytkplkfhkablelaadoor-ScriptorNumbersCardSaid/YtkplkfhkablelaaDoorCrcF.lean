/-
  Sums of rows that differ (no program in sight).
-/
import Derived.Test.YtkplkfhkablelaaDoorCrcA
namespace Go.Proofs.YtkplkfhkablelaaDoor

theorem byteS_xor (r s a e : Nat) : byteS (r ^^^ s) (a ^^^ e) = byteS r a ^^^ byteS s e := by
  unfold byteS
  rw [← SN_xor]
  congr 1
  ac_rfl

theorem reg_xor_start (r s : Nat) (l : List Nat) : reg (r ^^^ s) l = reg r l ^^^ SN (8 * l.length) s := by
  induction l generalizing r s with
  | nil => rfl
  | cons c l ih =>
    show reg (byteS (r ^^^ s) c) l = reg (byteS r c) l ^^^ SN (8 * (l.length + 1)) s
    have h := byteS_xor r s c 0
    rw [Nat.xor_zero] at h
    rw [h, ih]
    congr 1
    unfold byteS
    rw [Nat.xor_zero, show 8 * (l.length + 1) = 8 + 8 * l.length by omega, SN_add]

/-- one byte changed: what it does to the register behind all -/
theorem reg_set (l : List Nat) (q x : Nat) (hq : q < l.length) (r : Nat) : reg r (l.set q (l.getD q 0 ^^^ x)) = reg r l ^^^ SN (8 * (l.length - q)) x := by
  induction l generalizing q r with
  | nil => simp at hq
  | cons c l ih =>
    cases q with
    | zero =>
      show reg (byteS r (c ^^^ x)) l = reg (byteS r c) l ^^^ SN (8 * (l.length + 1)) x
      have h := byteS_xor r 0 c x
      rw [Nat.xor_zero] at h
      rw [h, reg_xor_start]
      congr 1
      unfold byteS
      rw [Nat.zero_xor, show 8 * (l.length + 1) = 8 + 8 * l.length by omega, SN_add]
    | succ q =>
      show reg (byteS r c) (l.set q (l.getD q 0 ^^^ x)) = reg (byteS r c) l ^^^ SN (8 * (l.length + 1 - (q + 1))) x
      rw [ih q (by simpa using hq), show l.length + 1 - (q + 1) = l.length - q by omega]

theorem SN_inj (n a b : Nat) (ha : a < 4294967296) (hb : b < 4294967296) (h : SN n a = SN n b) : a = b := by
  have h1 : SN n (a ^^^ b) = 0 := by rw [SN_xor, h, Nat.xor_self]
  have h2 := SN_eq_zero n _ (Nat.xor_lt_two_pow (n := 32) ha hb) h1
  have h3 : a = a ^^^ (b ^^^ b) := by rw [Nat.xor_self, Nat.xor_zero]
  rw [h3, ← Nat.xor_assoc, h2, Nat.zero_xor]

theorem flip32_inj (a b : Nat) (h : flip32 a = flip32 b) : a = b := by rw [← flip32_flip32 a, h, flip32_flip32]
theorem xor_eq_self (a b : Nat) : a ^^^ b = a ↔ b = 0 := by
  constructor
  · intro h
    have h1 : a ^^^ (a ^^^ b) = a ^^^ a := by rw [h]
    rw [← Nat.xor_assoc, Nat.xor_self, Nat.zero_xor] at h1
    exact h1
  · intro h; rw [h, Nat.xor_zero]

/-- so many low bits of by, at place k: they come in eight by eight, or one by one -/
theorem SN_low (n j x : Nat) (hj : j ≤ n) : SN (n - j) x = SN n (2 ^ j * x) := by
  have h : n = j + (n - j) := by omega
  rw [show SN n (2 ^ j * x) = SN (j + (n - j)) (2 ^ j * x) by rw [← h], SN_add, SN_shift]

theorem low_step (c k : Nat) : c % 2 ^ (k + 1) = (c % 2 ^ k) ^^^ (2 ^ k * (c / 2 ^ k % 2)) := by rw [low_split, Nat.xor_comm]

theorem low_split8 (c k : Nat) : c % 2 ^ (k + 8) = (c % 2 ^ k) ^^^ (2 ^ k * (c / 2 ^ k % 256)) := by
  apply Nat.eq_of_testBit_eq
  intro i
  rw [Nat.testBit_xor, Nat.testBit_mod_two_pow, Nat.testBit_mod_two_pow, Nat.testBit_two_pow_mul]
  have h : (c / 2 ^ k % 256).testBit (i - k) = (decide (i - k < 8) && c.testBit (i - k + k)) := by
    rw [show c / 2 ^ k % 256 = c / 2 ^ k % 2 ^ 8 from rfl, Nat.testBit_mod_two_pow, Nat.testBit_div_two_pow]
  rw [h]
  by_cases g1 : i < k
  · simp [g1, show ¬ k ≤ i by omega, show i < k + 8 by omega]
  · by_cases g2 : i < k + 8
    · simp [g1, g2, show k ≤ i by omega, show i - k < 8 by omega, show i - k + k = i by omega]
    · simp [g1, g2, show ¬ (i - k < 8) by omega]

end Go.Proofs.YtkplkfhkablelaaDoor
