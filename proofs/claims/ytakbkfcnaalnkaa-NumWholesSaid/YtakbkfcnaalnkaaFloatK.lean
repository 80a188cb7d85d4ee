/-
  The whole part of a double (no program in sight).
-/
import Derived.Test.YtakbkfcnaalnkaaFloatG
namespace Go.Proofs.Ytakbkfcnaalnkaa
open Ieee

/-- the least number's place, turned -/
def KP : Nat := 1074
theorem KP_eq : KP = 1074 := rfl
def RB : Nat := 4886405595696988160
def okW (x : Nat) : Bool := decide (rung x < RB) || (neg? x && rung x == RB)
/-- what stands ahead of the point -/
def trN (x : Nat) : Nat := val (rung x) / 2 ^ KP
def tr (x : Nat) : Int := if neg? x then -(trN x : Int) else (trN x : Int)

theorem div_pow (m e k : Nat) : m * 2 ^ e / 2 ^ k = if k ≤ e then m * 2 ^ (e - k) else m / 2 ^ (k - e) := by
  split
  · rename_i h
    rw [show m * 2 ^ e = m * 2 ^ (e - k) * 2 ^ k by rw [Nat.mul_assoc, ← Nat.pow_add, show e - k + k = e by omega]]
    exact Nat.mul_div_cancel _ (Nat.two_pow_pos k)
  · rename_i h
    rw [show (2 : Nat) ^ k = 2 ^ (k - e) * 2 ^ e by rw [← Nat.pow_add, show k - e + e = k by omega]]
    exact Nat.mul_div_mul_right _ _ (Nat.two_pow_pos e)

theorem val_norm (r : Nat) (h : 4503599627370496 ≤ r) : val r = (4503599627370496 + r % 4503599627370496) * 2 ^ (r / 4503599627370496 - 1) := by
  unfold val; rw [if_neg (by omega)]

theorem trN_norm (x : Nat) (h : 4503599627370496 ≤ rung x) : trN x =
    if 1075 ≤ rung x / 4503599627370496 then (4503599627370496 + rung x % 4503599627370496) * 2 ^ (rung x / 4503599627370496 - 1075) else (4503599627370496 + rung x % 4503599627370496) / 2 ^ (1075 - rung x / 4503599627370496) := by
  have e : trN x = val (rung x) / 2 ^ KP := rfl
  have kp := KP_eq
  rw [e, val_norm _ h, div_pow]
  by_cases g : KP ≤ rung x / 4503599627370496 - 1
  · rw [if_pos g, if_pos (by omega), show rung x / 4503599627370496 - 1 - KP = rung x / 4503599627370496 - 1075 by omega]
  · rw [if_neg g, if_neg (by omega), show KP - (rung x / 4503599627370496 - 1) = 1075 - rung x / 4503599627370496 by omega]

theorem val_at (E k : Nat) (h : E = k + 1) : val (E * 4503599627370496) = 4503599627370496 * 2 ^ k := by
  rw [val_norm _ (by omega), show E * 4503599627370496 % 4503599627370496 = 0 by omega, show E * 4503599627370496 / 4503599627370496 - 1 = k by omega]

theorem trN_small (x : Nat) (h : rung x / 4503599627370496 < 1023) : trN x = 0 := by
  have h1 : val (rung x) < val (1023 * 4503599627370496) := val_lt (by omega)
  have kp := KP_eq
  rw [val_at 1023 (KP - 52) (by omega)] at h1
  have e : trN x = val (rung x) / 2 ^ KP := rfl
  rw [e]
  apply Nat.div_eq_of_lt
  have h2 : (2 : Nat) ^ KP = 4503599627370496 * 2 ^ (KP - 52) := by
    rw [show (4503599627370496 : Nat) = 2 ^ 52 by decide, ← Nat.pow_add, show 52 + (KP - 52) = KP by omega]
  rw [h2]
  exact h1

theorem val_RB : val RB = 4611686018427387904 * 2 ^ KP := by
  have e : RB = 1085 * 4503599627370496 := by decide
  have kp := KP_eq
  rw [e, val_at 1085 (KP + 10) (by omega), show (4503599627370496 : Nat) = 2 ^ 52 by decide, show (4611686018427387904 : Nat) = 2 ^ 62 by decide, ← Nat.pow_add, ← Nat.pow_add, show 52 + (KP + 10) = 62 + KP by omega]

theorem trN_le (x : Nat) (h : rung x ≤ RB) : trN x ≤ 4611686018427387904 := by
  have h1 := val_le h
  rw [val_RB] at h1
  have e : trN x = val (rung x) / 2 ^ KP := rfl
  rw [e]
  exact (Nat.div_le_iff_le_mul_add_pred (Nat.two_pow_pos _)).2 (by rw [Nat.mul_comm]; exact Nat.le_trans h1 (Nat.le_add_right _ _))

theorem tr_RB (x : Nat) (h : rung x = RB) : trN x = 4611686018427387904 := by
  have e : trN x = val (rung x) / 2 ^ KP := rfl
  rw [e, h, val_RB]
  exact Nat.mul_div_cancel _ (Nat.two_pow_pos _)

theorem okW_rung {x : Nat} (h : okW x = true) : rung x ≤ RB := by
  unfold okW at h
  simp only [Bool.or_eq_true, decide_eq_true_eq, Bool.and_eq_true, beq_iff_eq] at h
  omega

theorem tr_bd {x : Nat} (h : okW x = true) : -4611686018427387904 ≤ tr x ∧ tr x ≤ 4611686018427387903 := by
  have h1 := trN_le x (okW_rung h)
  unfold tr
  cases g : neg? x
  · simp only [Bool.false_eq_true, if_false]
    have h3 : rung x < RB := by
      unfold okW at h
      rw [g] at h
      simpa using h
    have h4 : trN x ≠ 4611686018427387904 := by
      intro e
      have h5 := val_lt h3
      rw [val_RB] at h5
      have e2 : trN x = val (rung x) / 2 ^ KP := rfl
      rw [e2] at e
      have h6 := Nat.div_mul_le_self (val (rung x)) (2 ^ KP)
      rw [e] at h6
      exact absurd (Nat.lt_of_le_of_lt h6 h5) (Nat.lt_irrefl _)
    omega
  · simp only [if_true]
    omega

theorem cut_zero (neg : Bool) (n drop : Nat) : Toward.zero.cut neg n drop = n / 2 ^ drop := by
  unfold Toward.cut
  simp only [Nat.shiftLeft_eq, Nat.one_mul, Bool.toNat_false, Nat.add_zero]
  by_cases h : drop ≤ n.log2 + 2
  · rw [Nat.min_eq_left h]
  · rw [Nat.min_eq_right (by omega)]
    have h1 : n < 2 ^ (n.log2 + 1) := Nat.lt_log2_self
    have h2 : (2 : Nat) ^ (n.log2 + 1) ≤ 2 ^ (n.log2 + 2) := Nat.pow_le_pow_right (by decide) (by omega)
    have h3 : (2 : Nat) ^ (n.log2 + 2) ≤ 2 ^ drop := Nat.pow_le_pow_right (by decide) (by omega)
    rw [Nat.div_eq_of_lt (by omega), Nat.div_eq_of_lt (by omega)]

theorem toInt_tr (x : Nat) (h : rung x < INFR) : (D.read x).toInt .zero = some (tr x) := by
  obtain ⟨m, e, hr, hv⟩ := read_fin x h
  rw [hr]
  show some (signed (neg? x) (Toward.zero.cut (neg? x) (m <<< (-1074 + (e : Int)).toNat) (-(-1074 + (e : Int))).toNat) 0) = some (tr x)
  rw [cut_zero, signed_eq, Nat.pow_zero, Nat.mul_one, Nat.shiftLeft_eq]
  have kp := KP_eq
  have e2 : trN x = m * 2 ^ (-1074 + (e : Int)).toNat / 2 ^ (-(-1074 + (e : Int))).toNat := by
    show val (rung x) / 2 ^ KP = _
    rw [hv, div_pow]
    by_cases g : KP ≤ e
    · rw [if_pos g, show (-1074 + (e : Int)).toNat = e - KP by omega, show (-(-1074 + (e : Int))).toNat = 0 by omega, Nat.pow_zero, Nat.div_one]
    · rw [if_neg g, show (-1074 + (e : Int)).toNat = 0 by omega, show (-(-1074 + (e : Int))).toNat = KP - e by omega, Nat.pow_zero, Nat.mul_one]
  rw [← e2]
  rfl

theorem floatToInt_tr (x : Nat) (h : okW x = true) : floatToIntVal .f64 x .i64 = some (tr x) := by
  have h1 := okW_rung h
  have h2 := tr_bd h
  have h3 : (FloatKind.f64.decode x).toInt .zero = some (tr x) := toInt_tr x (by unfold RB at h1; unfold INFR; omega)
  unfold floatToIntVal
  rw [h3]
  simp only [IntKind.min, IntKind.max, IntKind.signed, IntKind.bits]
  rw [if_pos]
  constructor
  · exact Int.le_trans (by decide) h2.1
  · exact Int.le_trans h2.2 (by decide)

/-- is it at least the least integer, and below the next behind the greatest? -/
theorem geq_least (x : Nat) (n : isNan x = false) : (D.order x 14109777632551763968 == some .gt || D.order x 14109777632551763968 == some .eq) = (!neg? x || decide (rung x ≤ RB)) := by
  have e1 : neg? 14109777632551763968 = true := by decide
  have e2 : rung 14109777632551763968 = RB := by decide
  have e3 : sval 14109777632551763968 = -(val RB : Int) := by unfold sval; rw [e1, e2]; rfl
  rw [order_sval x _ n (by decide), e3]
  have a1 := val_lt_iff RB (rung x)
  rw [Bool.eq_iff_iff]
  unfold sval
  generalize val RB = v at *
  by_cases g : (if neg? x = true then -(val (rung x) : Int) else (val (rung x) : Int)) < -(v : Int)
  · rw [cmp_lt g]
    cases h : neg? x
    · rw [h] at g; simp at g; omega
    · rw [h] at g; simp at g ⊢; omega
  · by_cases g2 : (if neg? x = true then -(val (rung x) : Int) else (val (rung x) : Int)) = -(v : Int)
    · rw [g2, cmp_eq]
      cases h : neg? x
      · simp
      · rw [h] at g; simp at g ⊢; omega
    · rw [cmp_gt (by omega)]
      cases h : neg? x
      · simp
      · rw [h] at g; simp at g ⊢; omega

theorem lss_most (x : Nat) (n : isNan x = false) : (D.order x 4886405595696988160 == some .lt) = (decide (rung x < RB) || neg? x) := by
  have e1 : neg? 4886405595696988160 = false := by decide
  have e2 : rung 4886405595696988160 = RB := by decide
  have e3 : sval 4886405595696988160 = (val RB : Int) := by unfold sval; rw [e1, e2]; rfl
  rw [order_sval x _ n (by decide), e3]
  have a1 := val_lt_iff (rung x) RB
  have a2 := val_lt (r := 0) (s := RB) (by decide)
  rw [Bool.eq_iff_iff, beq_iff_eq, Option.some.injEq, cmp_lt_iff]
  unfold sval
  generalize val RB = v at *
  cases h : neg? x
  · simp; omega
  · simp; omega

theorem okW_nan (x : Nat) (n : isNan x = true) : okW x = false := by
  have h : INFR < rung x := of_decide_eq_true n
  unfold okW
  rw [Bool.or_eq_false_iff]
  constructor
  · exact decide_eq_false (by unfold INFR at h; unfold RB; omega)
  · rw [Bool.and_eq_false_iff]; right; rw [beq_eq_false_iff_ne]; unfold INFR at h; unfold RB; omega

/-- an integer of up to 2^53 is a double, whose whole part it is -/
theorem int_word (n : Nat) (hn : n ≤ 9007199254740992) (s : Bool) : ∃ r, r ≤ 4845873199050653696 ∧ D.nearest s n 0 = D.word s r ∧ val r = n * 2 ^ KP := by
  have kp := KP_eq
  by_cases h0 : n = 0
  · subst h0
    exact ⟨0, by decide, by unfold Format.nearest; rw [if_pos rfl], by rw [val_zero, Nat.zero_mul]⟩
  · have key : ∀ q t : Nat, 4503599627370496 ≤ q → q < 9007199254740992 → t ≤ KP + 1 → q * 2 ^ t = n * 2 ^ KP → ∃ r, r ≤ 4845873199050653696 ∧ D.nearest s n 0 = D.word s r ∧ val r = n * 2 ^ KP := by
      intro q t h1 h2 h3 h4
      have hv : val (t * 4503599627370496 + q) = n * 2 ^ KP := by
        rw [val_norm _ (by omega), show (t * 4503599627370496 + q) % 4503599627370496 = q - 4503599627370496 by omega, show (t * 4503599627370496 + q) / 4503599627370496 - 1 = t by omega, show 4503599627370496 + (q - 4503599627370496) = q by omega, h4]
      refine ⟨t * 4503599627370496 + q, ?_, ?_, hv⟩
      · by_cases g : t = KP + 1
        · have h5 : q * 2 * 2 ^ KP = n * 2 ^ KP := by rw [← h4, g, Nat.mul_assoc, ← Nat.pow_succ']
          have h6 := Nat.eq_of_mul_eq_mul_right (Nat.two_pow_pos _) h5
          have g' : t = 1075 := by rw [g, kp]
          clear hv h4 h5 g kp
          omega
        · clear hv h4
          omega
      · exact nearest_exact s n 0 _ (by unfold INFR; omega) 0 KP (by omega) (by rw [hv, Nat.pow_zero, Nat.mul_one])
    by_cases h1 : n = 9007199254740992
    · exact key 4503599627370496 (KP + 1) (by decide) (by decide) (by omega) (by rw [h1, show (9007199254740992 : Nat) = 4503599627370496 * 2 by decide, Nat.mul_assoc, ← Nat.pow_succ'])
    · have hl : n.log2 ≤ 52 := by
        have := (Nat.log2_lt h0).2 (show n < 2 ^ 53 by rw [show (2 : Nat) ^ 53 = 9007199254740992 by decide]; omega)
        omega
      have e1 := Nat.log2_self_le h0
      have e2 : n < 2 ^ (n.log2 + 1) := Nat.lt_log2_self
      have p := Nat.two_pow_pos (52 - n.log2)
      refine key (n * 2 ^ (52 - n.log2)) (KP - (52 - n.log2)) ?_ ?_ (by omega) ?_
      · calc (4503599627370496 : Nat) = 2 ^ n.log2 * 2 ^ (52 - n.log2) := by rw [← Nat.pow_add, show n.log2 + (52 - n.log2) = 52 by omega]
          _ ≤ n * 2 ^ (52 - n.log2) := Nat.mul_le_mul_right _ e1
      · calc n * 2 ^ (52 - n.log2) < 2 ^ (n.log2 + 1) * 2 ^ (52 - n.log2) := Nat.mul_lt_mul_of_pos_right e2 p
          _ = 9007199254740992 := by rw [← Nat.pow_add, show n.log2 + 1 + (52 - n.log2) = 53 by omega]
      · rw [Nat.mul_assoc, ← Nat.pow_add, show 52 - n.log2 + (KP - (52 - n.log2)) = KP by omega]

theorem rung_word (s : Bool) (r : Nat) (h : r < 9223372036854775808) : rung (D.word s r) = r ∧ neg? (D.word s r) = s ∧ D.word s r < 18446744073709551616 := by
  have e : D.word s r = if s then 9223372036854775808 + r else r := rfl
  rw [e]
  unfold rung neg?
  cases s
  · simp only [Bool.false_eq_true, if_false]; refine ⟨by omega, ?_, by omega⟩; rw [beq_eq_false_iff_ne]; omega
  · simp only [if_true]; refine ⟨by omega, ?_, by omega⟩; rw [beq_iff_eq]; omega

theorem int_back (w : Int) (h1 : w ≤ 9007199254740992) (h2 : -9007199254740992 ≤ w) : isNan (floatOfInt .f64 w) = false ∧ okW (floatOfInt .f64 w) = true ∧ tr (floatOfInt .f64 w) = w := by
  have e0 : floatOfInt .f64 w = D.nearest (decide (w < 0)) w.natAbs 0 := rfl
  obtain ⟨r, hr, hn, hv⟩ := int_word w.natAbs (by omega) (decide (w < 0))
  obtain ⟨g1, g2, g3⟩ := rung_word (decide (w < 0)) r (by omega)
  rw [e0, hn]
  refine ⟨?_, ?_, ?_⟩
  · unfold isNan; rw [g1]; exact decide_eq_false (by unfold INFR; omega)
  · unfold okW; rw [g1, Bool.or_eq_true]; left; exact decide_eq_true (by unfold RB; omega)
  · have e2 : trN (D.word (decide (w < 0)) r) = w.natAbs := by
      show val (rung (D.word (decide (w < 0)) r)) / 2 ^ KP = w.natAbs
      rw [g1, hv]
      exact Nat.mul_div_cancel _ (Nat.two_pow_pos _)
    unfold tr
    rw [g2, e2]
    by_cases g : w < 0
    · simp [g]; omega
    · simp [g]; omega

end Go.Proofs.Ytakbkfcnaalnkaa
