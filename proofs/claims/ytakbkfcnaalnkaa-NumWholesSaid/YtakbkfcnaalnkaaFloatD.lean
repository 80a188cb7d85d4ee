/-
  How doubles stand to one another, by their bits (no program in sight).
-/
import Derived.Test.YtakbkfcnaalnkaaFloatA
namespace Go.Proofs.Ytakbkfcnaalnkaa
open Ieee

/-- what a rung stands for, in units of the least number -/
def val (r : Nat) : Nat := if r < 4503599627370496 then r else (4503599627370496 + r % 4503599627370496) * 2 ^ (r / 4503599627370496 - 1)

theorem val_lt {r s : Nat} (h : r < s) : val r < val s := by
  unfold val
  by_cases h1 : s < 4503599627370496
  · rw [if_pos (by omega), if_pos h1]; exact h
  · rw [if_neg h1]
    have hp : 0 < 2 ^ (s / 4503599627370496 - 1) := Nat.two_pow_pos _
    have hs : 4503599627370496 * 2 ^ (s / 4503599627370496 - 1) ≤ (4503599627370496 + s % 4503599627370496) * 2 ^ (s / 4503599627370496 - 1) := Nat.mul_le_mul_right _ (by omega)
    by_cases h2 : r < 4503599627370496
    · rw [if_pos h2]
      have : 4503599627370496 * 1 ≤ 4503599627370496 * 2 ^ (s / 4503599627370496 - 1) := Nat.mul_le_mul_left _ hp
      omega
    · rw [if_neg h2]
      by_cases h3 : r / 4503599627370496 = s / 4503599627370496
      · rw [h3]
        exact Nat.mul_lt_mul_of_pos_right (by omega) hp
      · have h4 : r / 4503599627370496 < s / 4503599627370496 := by omega
        have h5 : (4503599627370496 + r % 4503599627370496) * 2 ^ (r / 4503599627370496 - 1) < 9007199254740992 * 2 ^ (r / 4503599627370496 - 1) := Nat.mul_lt_mul_of_pos_right (by omega) (Nat.two_pow_pos _)
        have h6 : 9007199254740992 * 2 ^ (r / 4503599627370496 - 1) = 4503599627370496 * 2 ^ (r / 4503599627370496) := by
          have : r / 4503599627370496 = (r / 4503599627370496 - 1) + 1 := by omega
          rw [show (2 : Nat) ^ (r / 4503599627370496) = 2 ^ ((r / 4503599627370496 - 1) + 1) from by rw [← this], Nat.pow_succ]
          omega
        have h7 : 4503599627370496 * 2 ^ (r / 4503599627370496) ≤ 4503599627370496 * 2 ^ (s / 4503599627370496 - 1) := Nat.mul_le_mul_left _ (Nat.pow_le_pow_right (by decide) (by omega))
        omega

theorem val_le {r s : Nat} (h : r ≤ s) : val r ≤ val s := by
  rcases Nat.lt_or_eq_of_le h with h | rfl
  · exact Nat.le_of_lt (val_lt h)
  · exact Nat.le_refl _
theorem val_lt_iff (r s : Nat) : val r < val s ↔ r < s := ⟨fun h => by
  by_cases g : r < s
  · exact g
  · have := val_le (r := s) (s := r) (by omega); omega, val_lt⟩
theorem val_zero : val 0 = 0 := rfl
theorem val_eq_iff (r s : Nat) : val r = val s ↔ r = s := ⟨fun h => by
  by_cases g : r < s
  · have := val_lt g; omega
  · by_cases g2 : s < r
    · have := val_lt g2; omega
    · omega, fun h => by rw [h]⟩

/-- the value, with its sign, of what is no NaN -/
def sval (x : Nat) : Int := if neg? x then -(val (rung x) : Int) else (val (rung x) : Int)

theorem signed_eq (s : Bool) (m up : Nat) : signed s m up = (if s then -((m * 2 ^ up : Nat) : Int) else ((m * 2 ^ up : Nat) : Int)) := by
  unfold signed
  rw [Nat.shiftLeft_eq]

/-- a finite word: its magnitude and place, over the least place -/
theorem read_fin (x : Nat) (h : rung x < INFR) : ∃ m e : Nat, D.read x = .number (neg? x) m (-1074 + e) ∧ val (rung x) = m * 2 ^ e := by
  rw [read_eq]
  by_cases h1 : rung x < 4503599627370496
  · rw [if_pos h1]
    exact ⟨rung x, 0, by simp, by unfold val; rw [if_pos h1]; simp⟩
  · rw [if_neg h1, if_pos h]
    exact ⟨_, rung x / 4503599627370496 - 1, rfl, by unfold val; rw [if_neg h1]⟩

theorem read_inf (x : Nat) (h : rung x = INFR) : D.read x = .infinity (neg? x) := by
  rw [read_eq, if_neg (by rw [h]; decide), if_neg (by omega), if_pos h]

theorem sval_scaled (s : Bool) (m e : Nat) (b : Nat) (hb : b ≤ e) : (if s then -((m * 2 ^ e : Nat) : Int) else ((m * 2 ^ e : Nat) : Int)) = signed s m (e - b) * ((2 ^ b : Nat) : Int) := by
  rw [signed_eq]
  have : m * 2 ^ e = m * 2 ^ (e - b) * 2 ^ b := by rw [Nat.mul_assoc, ← Nat.pow_add]; congr 2; omega
  cases s
  · simp only [Bool.false_eq_true, if_false]; rw [this]; simp
  · simp only [if_true]; rw [this]; simp [Int.neg_mul]

theorem cmp_scale (a b : Int) (k : Nat) (hk : 0 < k) : compare (a * (k : Int)) (b * (k : Int)) = compare a b := by
  have hk' : (0 : Int) < k := by omega
  simp only [compare, compareOfLessAndEq]
  by_cases h : a < b
  · rw [if_pos h, if_pos (Int.mul_lt_mul_of_pos_right h hk')]
  · rw [if_neg h]
    by_cases h2 : a = b
    · subst h2; simp
    · have h3 : b < a := by omega
      have h4 := Int.mul_lt_mul_of_pos_right h3 hk'
      rw [if_neg h2, if_neg (by omega), if_neg (by omega)]

theorem val_inf (r : Nat) (h : r < INFR) : val r < val INFR := val_lt h

theorem cmp_lt {a b : Int} (h : a < b) : compare a b = .lt := by simp only [compare, compareOfLessAndEq]; rw [if_pos h]
theorem cmp_gt {a b : Int} (h : b < a) : compare a b = .gt := by simp only [compare, compareOfLessAndEq]; rw [if_neg (by omega), if_neg (by omega)]
theorem cmp_eq (a : Int) : compare a a = .eq := by simp only [compare, compareOfLessAndEq]; rw [if_neg (by omega)]; simp
theorem inf_inf (s t : Bool) (v : Int) (hv : 0 < v) : compare t.toNat s.toNat = compare (if s then -v else v) (if t then -v else v) := by
  cases s <;> cases t
  · exact (cmp_eq v).symm
  · exact (cmp_gt (a := v) (b := -v) (by omega)).symm
  · exact (cmp_lt (a := -v) (b := v) (by omega)).symm
  · exact (cmp_eq (-v)).symm
theorem inf_num (s t : Bool) (v u : Int) (hv : u < v) (hu : 0 ≤ u) : (if s then Ordering.lt else .gt) = compare (if s then -v else v) (if t then -u else u) := by
  cases s <;> cases t
  · exact (cmp_gt (a := v) (b := u) (by omega)).symm
  · exact (cmp_gt (a := v) (b := -u) (by omega)).symm
  · exact (cmp_lt (a := -v) (b := u) (by omega)).symm
  · exact (cmp_lt (a := -v) (b := -u) (by omega)).symm
theorem num_inf (s t : Bool) (v u : Int) (hv : u < v) (hu : 0 ≤ u) : (if t then Ordering.gt else .lt) = compare (if s then -u else u) (if t then -v else v) := by
  cases s <;> cases t
  · exact (cmp_lt (a := u) (b := v) (by omega)).symm
  · exact (cmp_gt (a := u) (b := -v) (by omega)).symm
  · exact (cmp_lt (a := -u) (b := v) (by omega)).symm
  · exact (cmp_gt (a := -u) (b := -v) (by omega)).symm

theorem order_sval (x y : Nat) (hx : isNan x = false) (hy : isNan y = false) : D.order x y = some (compare (sval x) (sval y)) := by
  have hx' : ¬ INFR < rung x := of_decide_eq_false hx
  have hy' : ¬ INFR < rung y := of_decide_eq_false hy
  unfold Format.order
  by_cases h1 : rung x = INFR
  · rw [read_inf x h1]
    by_cases h2 : rung y = INFR
    · rw [read_inf y h2]
      have : (0 : Int) < (val INFR : Int) := by have := val_lt (r := 0) (s := INFR) (by decide); rw [val_zero] at this; omega
      simp only [Datum.order, sval, h1, h2]
      rw [inf_inf _ _ _ this]
    · obtain ⟨m, e, hr, hv⟩ := read_fin y (by omega)
      rw [hr]
      have hl := val_inf (rung y) (by omega)
      simp only [Datum.order, sval, h1]
      rw [inf_num (neg? x) (neg? y) (val INFR) (val (rung y)) (by omega) (by omega)]
  · obtain ⟨m, e, hr, hv⟩ := read_fin x (by omega)
    rw [hr]
    by_cases h2 : rung y = INFR
    · rw [read_inf y h2]
      have hl := val_inf (rung x) (by omega)
      simp only [Datum.order, sval, h2]
      rw [num_inf (neg? x) (neg? y) (val INFR) (val (rung x)) (by omega) (by omega)]
    · obtain ⟨n, f, hs, hw⟩ := read_fin y (by omega)
      rw [hs]
      simp only [Datum.order, sval, hv, hw]
      rw [sval_scaled (neg? x) m e (min e f) (by omega), sval_scaled (neg? y) n f (min e f) (by omega), cmp_scale _ _ _ (Nat.two_pow_pos _)]
      rw [show ((-1074 : Int) + e - min (-1074 + (e : Int)) (-1074 + (f : Int))).toNat = e - min e f from by omega]
      rw [show ((-1074 : Int) + f - min (-1074 + (e : Int)) (-1074 + (f : Int))).toNat = f - min e f from by omega]

theorem cmp_lt_iff (a b : Int) : compare a b = .lt ↔ a < b := by
  constructor
  · intro h
    by_cases g : a < b
    · exact g
    · by_cases g2 : a = b
      · rw [g2, cmp_eq] at h; cases h
      · rw [cmp_gt (by omega)] at h; cases h
  · exact cmp_lt
theorem cmp_eq_iff (a b : Int) : compare a b = .eq ↔ a = b := by
  constructor
  · intro h
    by_cases g : a < b
    · rw [cmp_lt g] at h; cases h
    · by_cases g2 : a = b
      · exact g2
      · rw [cmp_gt (by omega)] at h; cases h
  · intro h
    rw [h, cmp_eq]

/-- the order of all: where a word stands -/
def nrank (x : Nat) : Nat := if isNan x then 0 else if 9223372036854775808 ≤ x then 18446744073709551615 - x else x + 9223372036854775808
def bothZero (x y : Nat) : Bool := rung x == 0 && rung y == 0

theorem nrank_cases (x : Nat) (hx : x < 18446744073709551616) (h : isNan x = false) :
    (neg? x = true ∧ x = 9223372036854775808 + rung x ∧ nrank x = 9223372036854775807 - rung x ∧ rung x ≤ 9218868437227405312 ∧ sval x = -(val (rung x) : Int)) ∨
    (neg? x = false ∧ x = rung x ∧ nrank x = 9223372036854775808 + rung x ∧ rung x ≤ 9218868437227405312 ∧ sval x = (val (rung x) : Int)) := by
  have h' : ¬ INFR < rung x := of_decide_eq_false h
  unfold INFR at h'
  by_cases g : 9223372036854775808 ≤ x
  · left
    have e : neg? x = true := by unfold neg?; rw [beq_iff_eq]; omega
    have r : x = 9223372036854775808 + rung x := by unfold rung; omega
    refine ⟨e, r, ?_, by omega, ?_⟩
    · unfold nrank; rw [h, if_pos g]; simp; omega
    · unfold sval; rw [e]; rfl
  · right
    have e : neg? x = false := by unfold neg?; rw [beq_eq_false_iff_ne]; omega
    have r : x = rung x := by unfold rung; omega
    refine ⟨e, r, ?_, by omega, ?_⟩
    · unfold nrank; rw [h, if_neg g]; simp; omega
    · unfold sval; rw [e]; rfl

theorem val_zero_iff (r : Nat) : val r = 0 ↔ r = 0 := by rw [show (0 : Nat) = val 0 from rfl, val_eq_iff]; simp [val]

theorem order_lt (x y : Nat) (hx : x < 18446744073709551616) (hy : y < 18446744073709551616) (nx : isNan x = false) (ny : isNan y = false) :
    (D.order x y == some .lt) = (decide (nrank x < nrank y) && !bothZero x y) := by
  have key : sval x < sval y ↔ (nrank x < nrank y ∧ ¬ (rung x = 0 ∧ rung y = 0)) := by
    have a1 := val_lt_iff (rung x) (rung y)
    have a2 := val_lt_iff (rung y) (rung x)
    have z1 := val_zero_iff (rung x)
    have z2 := val_zero_iff (rung y)
    rcases nrank_cases x hx nx with ⟨_, e1, e2, e3, e4⟩ | ⟨_, e1, e2, e3, e4⟩ <;> rcases nrank_cases y hy ny with ⟨_, f1, f2, f3, f4⟩ | ⟨_, f1, f2, f3, f4⟩ <;> rw [e2, e4, f2, f4] <;> omega
  rw [order_sval x y nx ny, Bool.eq_iff_iff]
  simp only [bothZero, Bool.and_eq_true, decide_eq_true_eq, Bool.not_eq_true', Bool.and_eq_false_iff, beq_eq_false_iff_ne, beq_iff_eq, Option.some.injEq]
  rw [cmp_lt_iff, key]
  omega

theorem order_eq (x y : Nat) (hx : x < 18446744073709551616) (hy : y < 18446744073709551616) (nx : isNan x = false) (ny : isNan y = false) :
    (D.order x y == some .eq) = (x == y || bothZero x y) := by
  have key : sval x = sval y ↔ (x = y ∨ (rung x = 0 ∧ rung y = 0)) := by
    have a1 := val_eq_iff (rung x) (rung y)
    have z1 := val_zero_iff (rung x)
    have z2 := val_zero_iff (rung y)
    rcases nrank_cases x hx nx with ⟨_, e1, e2, e3, e4⟩ | ⟨_, e1, e2, e3, e4⟩ <;> rcases nrank_cases y hy ny with ⟨_, f1, f2, f3, f4⟩ | ⟨_, f1, f2, f3, f4⟩ <;> rw [e4, f4] <;> omega
  rw [order_sval x y nx ny, Bool.eq_iff_iff]
  simp only [bothZero, Bool.or_eq_true, Bool.and_eq_true, beq_iff_eq, Option.some.injEq]
  rw [cmp_eq_iff, key]

theorem nrank_inj (x y : Nat) (hx : x < 18446744073709551616) (hy : y < 18446744073709551616) (h : nrank x = nrank y) : canon x = canon y := by
  cases nx : isNan x <;> cases ny : isNan y
  · rw [canon_not nx, canon_not ny]
    rcases nrank_cases x hx nx with ⟨_, e1, e2, e3, e4⟩ | ⟨_, e1, e2, e3, e4⟩ <;> rcases nrank_cases y hy ny with ⟨_, f1, f2, f3, f4⟩ | ⟨_, f1, f2, f3, f4⟩ <;> omega
  · have : nrank y = 0 := by unfold nrank; rw [ny]; rfl
    rcases nrank_cases x hx nx with ⟨_, e1, e2, e3, e4⟩ | ⟨_, e1, e2, e3, e4⟩ <;> omega
  · have : nrank x = 0 := by unfold nrank; rw [nx]; rfl
    rcases nrank_cases y hy ny with ⟨_, e1, e2, e3, e4⟩ | ⟨_, e1, e2, e3, e4⟩ <;> omega
  · rw [canon_nan nx, canon_nan ny]

end Go.Proofs.Ytakbkfcnaalnkaa
