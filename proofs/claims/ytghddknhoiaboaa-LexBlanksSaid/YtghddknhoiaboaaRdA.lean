/-
  Whole numbers as doubles: sums and products are exact (no program in sight).
-/
import Derived.Test.YtghddknhoiaboaaFl
namespace Go.Proofs.Ytghddknhoiaboaa.Fl
set_option maxRecDepth 100000
open Ieee

/-- a whole number's double -/
def fi (n : Nat) : Nat := D.nearest false n 0
theorem fi_word (n : Nat) (hn : n ≤ 9007199254740992) : ∃ r, r ≤ 4845873199050653696 ∧ fi n = D.word false r ∧ val r = n * 2 ^ KP := int_word n hn false
theorem fi_read (n : Nat) (hn : n ≤ 9007199254740992) : ∃ m e : Nat, D.read (fi n) = .number false m (-1074 + e) ∧ n * 2 ^ KP = m * 2 ^ e := by
  obtain ⟨r, hr, hw, hv⟩ := fi_word n hn
  obtain ⟨g1, g2, g3⟩ := rung_word false r (by omega)
  rw [hw]
  obtain ⟨m, e, h1, h2⟩ := read_fin (D.word false r) (by rw [g1]; unfold INFR; omega)
  rw [g2] at h1
  rw [g1, hv] at h2
  exact ⟨m, e, h1, h2⟩
theorem fi_mul (a b : Nat) (ha : a ≤ 9007199254740992) (hb : b ≤ 9007199254740992) (hab : a * b ≤ 9007199254740992) : D.mul (fi a) (fi b) = some (fi (a * b)) := by
  obtain ⟨m, e, h1, h2⟩ := fi_read a ha
  obtain ⟨n, f, h3, h4⟩ := fi_read b hb
  obtain ⟨r, hr, hw, hv⟩ := fi_word (a * b) hab
  unfold Format.mul
  rw [h1, h3, hw]
  show some (D.nearest (false ^^ false) (m * n) (-1074 + (e : Int) + (-1074 + (f : Int)))) = _
  rw [nearest_exact _ _ _ r (by unfold INFR; omega) KP (e + f) (by rw [KP_eq]; omega) ?_]
  · rfl
  · rw [hv, Nat.pow_add]
    clear hv hw h1 h3
    generalize 2 ^ KP = P at h2 h4 ⊢
    generalize 2 ^ e = E at h2 ⊢
    generalize 2 ^ f = F at h4 ⊢
    calc m * n * (E * F) = (m * E) * (n * F) := by ac_rfl
      _ = (a * P) * (b * P) := by rw [h2, h4]
      _ = a * b * P * P := by ac_rfl
theorem fi_add (a b : Nat) (hab : a + b ≤ 9007199254740992) : D.add (fi a) (fi b) = some (fi (a + b)) := by
  obtain ⟨m, e, h1, h2⟩ := fi_read a (by omega)
  obtain ⟨n, f, h3, h4⟩ := fi_read b (by omega)
  obtain ⟨r, hr, hw, hv⟩ := fi_word (a + b) hab
  unfold Format.add
  rw [h1, h3, hw]
  have hb : min (-1074 + (e : Int)) (-1074 + (f : Int)) = -1074 + ((min e f : Nat) : Int) := by omega
  have e1 : (-1074 + (e : Int) - (-1074 + ((min e f : Nat) : Int))).toNat = e - min e f := by omega
  have e2 : (-1074 + (f : Int) - (-1074 + ((min e f : Nat) : Int))).toNat = f - min e f := by omega
  have hs : (Datum.number false m (-1074 + (e : Int))).sum (Datum.number false n (-1074 + (f : Int))) = some (.number false (m * 2 ^ (e - min e f) + n * 2 ^ (f - min e f)) (-1074 + ((min e f : Nat) : Int))) := by
    simp only [Datum.sum]
    rw [hb, e1, e2, signed_eq, signed_eq]
    simp only [Bool.false_eq_true, if_false, Bool.and_false]
    have h5 : ((m * 2 ^ (e - min e f) : Nat) : Int) + ((n * 2 ^ (f - min e f) : Nat) : Int) = ((m * 2 ^ (e - min e f) + n * 2 ^ (f - min e f) : Nat) : Int) := by omega
    rw [h5]
    have h6 : ¬ (((m * 2 ^ (e - min e f) + n * 2 ^ (f - min e f) : Nat) : Int) < 0) := by omega
    rw [decide_eq_false h6, ite_self, Int.natAbs_natCast]
  rw [hs]
  show some (D.nearest false _ _) = _
  rw [nearest_exact _ _ _ r (by unfold INFR; omega) 0 (min e f) (by omega) ?_]
  rw [hv, Nat.pow_zero, Nat.mul_one, Nat.add_mul, Nat.mul_assoc, Nat.mul_assoc, ← Nat.pow_add, ← Nat.pow_add, show e - min e f + min e f = e by omega, show f - min e f + min e f = f by omega, ← h2, ← h4, Nat.add_mul]
theorem nearest_word (s : Bool) (mag : Nat) (place : Int) : ∃ r, r ≤ INFR ∧ D.nearest s mag place = D.word s r := by
  by_cases h : mag = 0
  · exact ⟨0, Nat.zero_le _, by unfold Format.nearest; rw [if_pos h]⟩
  · rw [nearest_eq s mag place h]
    exact ⟨_, Nat.min_le_right _ _, rfl⟩
theorem fi_div (a b : Nat) (ha : a ≤ 9007199254740992) (hb : b ≤ 9007199254740992) (h1 : 1 ≤ b) : ∃ x, D.div (fi a) (fi b) = some x ∧ isNan x = false ∧ x < 18446744073709551616 := by
  obtain ⟨m, e, r1, h2⟩ := fi_read a ha
  obtain ⟨n, f, r2, h4⟩ := fi_read b hb
  have hn : ¬ n = 0 := fun h => by
    rw [h, Nat.zero_mul] at h4
    have := Nat.two_pow_pos KP
    rcases Nat.mul_eq_zero.1 h4 with h | h <;> omega
  unfold Format.div
  rw [r1, r2]
  simp only [Datum.quotient]
  rw [if_neg hn]
  obtain ⟨r, hr, hw⟩ := nearest_word false (2 * ((m <<< (D.fractionBits + 2 + n.log2 - m.log2)) / n) + ((m <<< (D.fractionBits + 2 + n.log2 - m.log2)) % n != 0).toNat) (-1074 + (e : Int) - (-1074 + (f : Int)) - ((D.fractionBits + 2 + n.log2 - m.log2 : Nat) : Int) - 1)
  obtain ⟨g1, g2, g3⟩ := rung_word false r (by unfold INFR at hr; omega)
  refine ⟨D.word false r, ?_, ?_, g3⟩
  · rw [← hw]
    rfl
  · unfold isNan
    rw [g1]
    exact decide_eq_false (by omega)
theorem fi_zero : fi 0 = 0 := by decide +kernel
theorem fi_one : fi 1 = 4607182418800017408 := by decide +kernel
theorem fi_ten : fi 10 = 4621819117588971520 := by decide +kernel
theorem fi_int (n : Nat) (hn : n ≤ 9007199254740992) : Go.floatOfInt .f64 (n : Int) = fi n := by
  show D.nearest (decide ((n : Int) < 0)) (n : Int).natAbs 0 = fi n
  rw [decide_eq_false (by omega), Int.natAbs_natCast]
  rfl
theorem fi_canon (n : Nat) (hn : n ≤ 9007199254740992) : canon (fi n) = fi n ∧ fi n < 18446744073709551616 := by
  obtain ⟨r, hr, hw, _⟩ := fi_word n hn
  obtain ⟨g1, g2, g3⟩ := rung_word false r (by omega)
  rw [hw]
  refine ⟨canon_not ?_, g3⟩
  unfold isNan
  rw [g1]
  exact decide_eq_false (by unfold INFR; omega)
end Go.Proofs.Ytghddknhoiaboaa.Fl
