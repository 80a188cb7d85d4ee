/-
  Doubles, once more, in a room of their own (texts of XFloatA, D, F, K).
-/
import Derived.Laws.FloatArith
import Derived.Test.YtghddknhoiaboaaRows
namespace Go.Proofs.Ytghddknhoiaboaa.Fl
set_option maxRecDepth 100000
open Ieee


abbrev D : Format := Ieee.double

/-- a word's rung: all bits but the sign -/
def rung (b : Nat) : Nat := b % 9223372036854775808
def INFR : Nat := 9218868437227405312
def NANB : Nat := 9221120237041090560
def isNan (b : Nat) : Bool := decide (INFR < rung b)
def canon (b : Nat) : Nat := if isNan b then NANB else b
def neg? (b : Nat) : Bool := b / 9223372036854775808 % 2 == 1

theorem read_eq (b : Nat) : D.read b =
    if rung b < 4503599627370496 then .number (neg? b) (rung b) (-1074)
    else if rung b < INFR then .number (neg? b) (4503599627370496 + rung b % 4503599627370496) (-1074 + (rung b / 4503599627370496 - 1 : Nat))
    else if rung b = INFR then .infinity (neg? b) else .nan (neg? b) (rung b - INFR) := by
  simp only [Format.read, Format.signWeight, Format.binade, Format.infRung, Format.leastPlace, D, Ieee.double, rung, INFR, neg?]
  rfl

theorem read_nan (b : Nat) (h : isNan b = true) : ∃ s f, D.read b = .nan s f := by
  have h' : INFR < rung b := of_decide_eq_true h
  rw [read_eq]
  rw [if_neg (by unfold INFR at h'; omega), if_neg (by omega), if_neg (by omega)]
  exact ⟨_, _, rfl⟩

theorem read_not_nan (b : Nat) (h : isNan b = false) : (∃ s m e, D.read b = .number s m e) ∨ ∃ s, D.read b = .infinity s := by
  have h' : ¬ INFR < rung b := of_decide_eq_false h
  rw [read_eq]
  split
  · exact .inl ⟨_, _, _, rfl⟩
  · split
    · exact .inl ⟨_, _, _, rfl⟩
    · split
      · exact .inr ⟨_, rfl⟩
      · omega

theorem order_nan_left (a b : Nat) (h : isNan a = true) : D.order a b = none := by
  obtain ⟨s, f, e⟩ := read_nan a h
  simp [Format.order, e, Datum.order]
theorem order_nan_right (a b : Nat) (h : isNan b = true) : D.order a b = none := by
  obtain ⟨s, f, e⟩ := read_nan b h
  unfold Format.order
  rw [e]
  cases D.read a <;> rfl
theorem order_self (b : Nat) (h : isNan b = false) : D.order b b = some .eq := by
  rcases read_not_nan b h with ⟨s, m, e, h⟩ | ⟨s, h⟩ <;> simp [Format.order, h, Datum.order]

/-- '==' of a double with itself -/
theorem order_self_eq (b : Nat) : (D.order b b == some .eq) = !isNan b := by
  cases h : isNan b
  · rw [order_self b h]; rfl
  · rw [order_nan_left b b h]; rfl
theorem order_self_ne (b : Nat) : (D.order b b != some .eq) = isNan b := by
  cases h : isNan b
  · rw [order_self b h]; rfl
  · rw [order_nan_left b b h]; rfl

theorem canon_nan {b : Nat} (h : isNan b = true) : canon b = NANB := by unfold canon; rw [h]; rfl
theorem canon_not {b : Nat} (h : isNan b = false) : canon b = b := by unfold canon; rw [h]; rfl
theorem canon_lt (b : Nat) (h : b < 18446744073709551616) : canon b < 18446744073709551616 := by
  unfold canon NANB; split <;> omega
theorem isNan_canon (b : Nat) : isNan (canon b) = isNan b := by
  cases h : isNan b
  · rw [canon_not h]; exact h
  · rw [canon_nan h]; decide
theorem canon_canon (b : Nat) : canon (canon b) = canon b := by
  cases h : isNan b
  · rw [canon_not h]; exact canon_not h
  · rw [canon_nan h]; decide

/-- what an operation gives, with the one NaN -/
def made (r : Option Nat) : Nat := match r with | some b => canon b | none => NANB

theorem nan_word (k m : Nat) (hk : k < 2) (hm : m < 4503599627370495) :
    9218868437227405312 < (k * 9223372036854775808 + 9218868437227405312 + 1 + m) % 9223372036854775808 ∧ k * 9223372036854775808 + 9218868437227405312 + 1 + m < 18446744073709551616 := by
  omega
/-- the bits of a NaN that the machine chooses are a NaN's -/
theorem choose_nan (t : Nat) (x y : Nat) : isNan ((Question.nanBits .f64 x y).cut t) = true ∧ (Question.nanBits .f64 x y).cut t < 18446744073709551616 := by
  have h := nan_word (t % 2) (t / 2 % 4503599627370495) (Nat.mod_lt _ (by decide)) (Nat.mod_lt _ (by decide))
  exact ⟨decide_eq_true h.1, h.2⟩

theorem run_arith {P : Program} (op : BinOp) (r : Option Nat) (x y : Nat) (h : floatBits op .f64 x y = r) (hop : op = .add ∨ op = .sub ∨ op = .mul ∨ op = .quo) (t : TypeId) (w : World) :
    ∃ b w', (binOp op t (.float .f64 x) (.float .f64 y)).run P w = .ok (.float .f64 b) w' ∧ (w' = w ∨ w' = w.drew) ∧ b < 18446744073709551616 ∧ canon b = made r := by
  cases r with
  | some b =>
    refine ⟨b, w, run_float_arith w op t .f64 x y b h, .inl rfl, ?_, rfl⟩
    have := floatBits_wf h
    simpa [Lit.wf] using this
  | none =>
    have hc := choose_nan (w.tape w.drawn (.nanBits .f64 x y)) x y
    refine ⟨_, w.drew, ?_, .inr rfl, hc.2, canon_nan hc.1⟩
    unfold floatBits at h
    rcases hop with rfl | rfl | rfl | rfl <;> simp only at h <;> simp [binOp, Op.floatArith, h, Question.forced]



/-- what a rung stands for, in units of the least number -/
def val (r : Nat) : Nat := if r < 4503599627370496 then r else (4503599627370496 + r % 4503599627370496) * 2 ^ (r / 4503599627370496 - 1)

theorem val_lt {r s : Nat} (h : r < s) : val r < val s := by
  unfold val
  by_cases h1 : s < 4503599627370496
  · rw [if_pos (by omega), if_pos h1]; exact h
  · rw [if_neg h1]
    have hp : 0 < 2 ^ (s / 4503599627370496 - 1) := Nat.two_pow_pos _
    have hs : 4503599627370496 * 2 ^ (s / 4503599627370496 - 1) ≤ (4503599627370496 + s % 4503599627370496) * 2 ^ (s / 4503599627370496 - 1) := Nat.mul_le_mul_right _ (by omega)
    by_cases h2 : r < 4503599627370496
    · rw [if_pos h2]
      have : 4503599627370496 * 1 ≤ 4503599627370496 * 2 ^ (s / 4503599627370496 - 1) := Nat.mul_le_mul_left _ hp
      omega
    · rw [if_neg h2]
      by_cases h3 : r / 4503599627370496 = s / 4503599627370496
      · rw [h3]
        exact Nat.mul_lt_mul_of_pos_right (by omega) hp
      · have h4 : r / 4503599627370496 < s / 4503599627370496 := by omega
        have h5 : (4503599627370496 + r % 4503599627370496) * 2 ^ (r / 4503599627370496 - 1) < 9007199254740992 * 2 ^ (r / 4503599627370496 - 1) := Nat.mul_lt_mul_of_pos_right (by omega) (Nat.two_pow_pos _)
        have h6 : 9007199254740992 * 2 ^ (r / 4503599627370496 - 1) = 4503599627370496 * 2 ^ (r / 4503599627370496) := by
          have : r / 4503599627370496 = (r / 4503599627370496 - 1) + 1 := by omega
          rw [show (2 : Nat) ^ (r / 4503599627370496) = 2 ^ ((r / 4503599627370496 - 1) + 1) from by rw [← this], Nat.pow_succ]
          omega
        have h7 : 4503599627370496 * 2 ^ (r / 4503599627370496) ≤ 4503599627370496 * 2 ^ (s / 4503599627370496 - 1) := Nat.mul_le_mul_left _ (Nat.pow_le_pow_right (by decide) (by omega))
        omega

theorem val_le {r s : Nat} (h : r ≤ s) : val r ≤ val s := by
  rcases Nat.lt_or_eq_of_le h with h | rfl
  · exact Nat.le_of_lt (val_lt h)
  · exact Nat.le_refl _
theorem val_lt_iff (r s : Nat) : val r < val s ↔ r < s := ⟨fun h => by
  by_cases g : r < s
  · exact g
  · have := val_le (r := s) (s := r) (by omega); omega, val_lt⟩
theorem val_zero : val 0 = 0 := rfl
theorem val_eq_iff (r s : Nat) : val r = val s ↔ r = s := ⟨fun h => by
  by_cases g : r < s
  · have := val_lt g; omega
  · by_cases g2 : s < r
    · have := val_lt g2; omega
    · omega, fun h => by rw [h]⟩

/-- the value, with its sign, of what is no NaN -/
def sval (x : Nat) : Int := if neg? x then -(val (rung x) : Int) else (val (rung x) : Int)

theorem signed_eq (s : Bool) (m up : Nat) : signed s m up = (if s then -((m * 2 ^ up : Nat) : Int) else ((m * 2 ^ up : Nat) : Int)) := by
  unfold signed
  rw [Nat.shiftLeft_eq]

/-- a finite word: its magnitude and place, over the least place -/
theorem read_fin (x : Nat) (h : rung x < INFR) : ∃ m e : Nat, D.read x = .number (neg? x) m (-1074 + e) ∧ val (rung x) = m * 2 ^ e := by
  rw [read_eq]
  by_cases h1 : rung x < 4503599627370496
  · rw [if_pos h1]
    exact ⟨rung x, 0, by simp, by unfold val; rw [if_pos h1]; simp⟩
  · rw [if_neg h1, if_pos h]
    exact ⟨_, rung x / 4503599627370496 - 1, rfl, by unfold val; rw [if_neg h1]⟩

theorem read_inf (x : Nat) (h : rung x = INFR) : D.read x = .infinity (neg? x) := by
  rw [read_eq, if_neg (by rw [h]; decide), if_neg (by omega), if_pos h]

theorem sval_scaled (s : Bool) (m e : Nat) (b : Nat) (hb : b ≤ e) : (if s then -((m * 2 ^ e : Nat) : Int) else ((m * 2 ^ e : Nat) : Int)) = signed s m (e - b) * ((2 ^ b : Nat) : Int) := by
  rw [signed_eq]
  have : m * 2 ^ e = m * 2 ^ (e - b) * 2 ^ b := by rw [Nat.mul_assoc, ← Nat.pow_add]; congr 2; omega
  cases s
  · simp only [Bool.false_eq_true, if_false]; rw [this]; simp
  · simp only [if_true]; rw [this]; simp [Int.neg_mul]

theorem cmp_scale (a b : Int) (k : Nat) (hk : 0 < k) : compare (a * (k : Int)) (b * (k : Int)) = compare a b := by
  have hk' : (0 : Int) < k := by omega
  simp only [compare, compareOfLessAndEq]
  by_cases h : a < b
  · rw [if_pos h, if_pos (Int.mul_lt_mul_of_pos_right h hk')]
  · rw [if_neg h]
    by_cases h2 : a = b
    · subst h2; simp
    · have h3 : b < a := by omega
      have h4 := Int.mul_lt_mul_of_pos_right h3 hk'
      rw [if_neg h2, if_neg (by omega), if_neg (by omega)]

theorem val_inf (r : Nat) (h : r < INFR) : val r < val INFR := val_lt h

theorem cmp_lt {a b : Int} (h : a < b) : compare a b = .lt := by simp only [compare, compareOfLessAndEq]; rw [if_pos h]
theorem cmp_gt {a b : Int} (h : b < a) : compare a b = .gt := by simp only [compare, compareOfLessAndEq]; rw [if_neg (by omega), if_neg (by omega)]
theorem cmp_eq (a : Int) : compare a a = .eq := by simp only [compare, compareOfLessAndEq]; rw [if_neg (by omega)]; simp
theorem inf_inf (s t : Bool) (v : Int) (hv : 0 < v) : compare t.toNat s.toNat = compare (if s then -v else v) (if t then -v else v) := by
  cases s <;> cases t
  · exact (cmp_eq v).symm
  · exact (cmp_gt (a := v) (b := -v) (by omega)).symm
  · exact (cmp_lt (a := -v) (b := v) (by omega)).symm
  · exact (cmp_eq (-v)).symm
theorem inf_num (s t : Bool) (v u : Int) (hv : u < v) (hu : 0 ≤ u) : (if s then Ordering.lt else .gt) = compare (if s then -v else v) (if t then -u else u) := by
  cases s <;> cases t
  · exact (cmp_gt (a := v) (b := u) (by omega)).symm
  · exact (cmp_gt (a := v) (b := -u) (by omega)).symm
  · exact (cmp_lt (a := -v) (b := u) (by omega)).symm
  · exact (cmp_lt (a := -v) (b := -u) (by omega)).symm
theorem num_inf (s t : Bool) (v u : Int) (hv : u < v) (hu : 0 ≤ u) : (if t then Ordering.gt else .lt) = compare (if s then -u else u) (if t then -v else v) := by
  cases s <;> cases t
  · exact (cmp_lt (a := u) (b := v) (by omega)).symm
  · exact (cmp_gt (a := u) (b := -v) (by omega)).symm
  · exact (cmp_lt (a := -u) (b := v) (by omega)).symm
  · exact (cmp_gt (a := -u) (b := -v) (by omega)).symm

theorem order_sval (x y : Nat) (hx : isNan x = false) (hy : isNan y = false) : D.order x y = some (compare (sval x) (sval y)) := by
  have hx' : ¬ INFR < rung x := of_decide_eq_false hx
  have hy' : ¬ INFR < rung y := of_decide_eq_false hy
  unfold Format.order
  by_cases h1 : rung x = INFR
  · rw [read_inf x h1]
    by_cases h2 : rung y = INFR
    · rw [read_inf y h2]
      have : (0 : Int) < (val INFR : Int) := by have := val_lt (r := 0) (s := INFR) (by decide); rw [val_zero] at this; omega
      simp only [Datum.order, sval, h1, h2]
      rw [inf_inf _ _ _ this]
    · obtain ⟨m, e, hr, hv⟩ := read_fin y (by omega)
      rw [hr]
      have hl := val_inf (rung y) (by omega)
      simp only [Datum.order, sval, h1]
      rw [inf_num (neg? x) (neg? y) (val INFR) (val (rung y)) (by omega) (by omega)]
  · obtain ⟨m, e, hr, hv⟩ := read_fin x (by omega)
    rw [hr]
    by_cases h2 : rung y = INFR
    · rw [read_inf y h2]
      have hl := val_inf (rung x) (by omega)
      simp only [Datum.order, sval, h2]
      rw [num_inf (neg? x) (neg? y) (val INFR) (val (rung x)) (by omega) (by omega)]
    · obtain ⟨n, f, hs, hw⟩ := read_fin y (by omega)
      rw [hs]
      simp only [Datum.order, sval, hv, hw]
      rw [sval_scaled (neg? x) m e (min e f) (by omega), sval_scaled (neg? y) n f (min e f) (by omega), cmp_scale _ _ _ (Nat.two_pow_pos _)]
      rw [show ((-1074 : Int) + e - min (-1074 + (e : Int)) (-1074 + (f : Int))).toNat = e - min e f from by omega]
      rw [show ((-1074 : Int) + f - min (-1074 + (e : Int)) (-1074 + (f : Int))).toNat = f - min e f from by omega]

theorem cmp_lt_iff (a b : Int) : compare a b = .lt ↔ a < b := by
  constructor
  · intro h
    by_cases g : a < b
    · exact g
    · by_cases g2 : a = b
      · rw [g2, cmp_eq] at h; cases h
      · rw [cmp_gt (by omega)] at h; cases h
  · exact cmp_lt
theorem cmp_eq_iff (a b : Int) : compare a b = .eq ↔ a = b := by
  constructor
  · intro h
    by_cases g : a < b
    · rw [cmp_lt g] at h; cases h
    · by_cases g2 : a = b
      · exact g2
      · rw [cmp_gt (by omega)] at h; cases h
  · intro h
    rw [h, cmp_eq]

/-- the order of all: where a word stands -/
def nrank (x : Nat) : Nat := if isNan x then 0 else if 9223372036854775808 ≤ x then 18446744073709551615 - x else x + 9223372036854775808
def bothZero (x y : Nat) : Bool := rung x == 0 && rung y == 0

theorem nrank_cases (x : Nat) (hx : x < 18446744073709551616) (h : isNan x = false) :
    (neg? x = true ∧ x = 9223372036854775808 + rung x ∧ nrank x = 9223372036854775807 - rung x ∧ rung x ≤ 9218868437227405312 ∧ sval x = -(val (rung x) : Int)) ∨
    (neg? x = false ∧ x = rung x ∧ nrank x = 9223372036854775808 + rung x ∧ rung x ≤ 9218868437227405312 ∧ sval x = (val (rung x) : Int)) := by
  have h' : ¬ INFR < rung x := of_decide_eq_false h
  unfold INFR at h'
  by_cases g : 9223372036854775808 ≤ x
  · left
    have e : neg? x = true := by unfold neg?; rw [beq_iff_eq]; omega
    have r : x = 9223372036854775808 + rung x := by unfold rung; omega
    refine ⟨e, r, ?_, by omega, ?_⟩
    · unfold nrank; rw [h, if_pos g]; simp; omega
    · unfold sval; rw [e]; rfl
  · right
    have e : neg? x = false := by unfold neg?; rw [beq_eq_false_iff_ne]; omega
    have r : x = rung x := by unfold rung; omega
    refine ⟨e, r, ?_, by omega, ?_⟩
    · unfold nrank; rw [h, if_neg g]; simp; omega
    · unfold sval; rw [e]; rfl

theorem val_zero_iff (r : Nat) : val r = 0 ↔ r = 0 := by rw [show (0 : Nat) = val 0 from rfl, val_eq_iff]; simp [val]

theorem order_lt (x y : Nat) (hx : x < 18446744073709551616) (hy : y < 18446744073709551616) (nx : isNan x = false) (ny : isNan y = false) :
    (D.order x y == some .lt) = (decide (nrank x < nrank y) && !bothZero x y) := by
  have key : sval x < sval y ↔ (nrank x < nrank y ∧ ¬ (rung x = 0 ∧ rung y = 0)) := by
    have a1 := val_lt_iff (rung x) (rung y)
    have a2 := val_lt_iff (rung y) (rung x)
    have z1 := val_zero_iff (rung x)
    have z2 := val_zero_iff (rung y)
    rcases nrank_cases x hx nx with ⟨_, e1, e2, e3, e4⟩ | ⟨_, e1, e2, e3, e4⟩ <;> rcases nrank_cases y hy ny with ⟨_, f1, f2, f3, f4⟩ | ⟨_, f1, f2, f3, f4⟩ <;> rw [e2, e4, f2, f4] <;> omega
  rw [order_sval x y nx ny, Bool.eq_iff_iff]
  simp only [bothZero, Bool.and_eq_true, decide_eq_true_eq, Bool.not_eq_true', Bool.and_eq_false_iff, beq_eq_false_iff_ne, beq_iff_eq, Option.some.injEq]
  rw [cmp_lt_iff, key]
  omega

theorem order_eq (x y : Nat) (hx : x < 18446744073709551616) (hy : y < 18446744073709551616) (nx : isNan x = false) (ny : isNan y = false) :
    (D.order x y == some .eq) = (x == y || bothZero x y) := by
  have key : sval x = sval y ↔ (x = y ∨ (rung x = 0 ∧ rung y = 0)) := by
    have a1 := val_eq_iff (rung x) (rung y)
    have z1 := val_zero_iff (rung x)
    have z2 := val_zero_iff (rung y)
    rcases nrank_cases x hx nx with ⟨_, e1, e2, e3, e4⟩ | ⟨_, e1, e2, e3, e4⟩ <;> rcases nrank_cases y hy ny with ⟨_, f1, f2, f3, f4⟩ | ⟨_, f1, f2, f3, f4⟩ <;> rw [e4, f4] <;> omega
  rw [order_sval x y nx ny, Bool.eq_iff_iff]
  simp only [bothZero, Bool.or_eq_true, Bool.and_eq_true, beq_iff_eq, Option.some.injEq]
  rw [cmp_eq_iff, key]

theorem nrank_inj (x y : Nat) (hx : x < 18446744073709551616) (hy : y < 18446744073709551616) (h : nrank x = nrank y) : canon x = canon y := by
  cases nx : isNan x <;> cases ny : isNan y
  · rw [canon_not nx, canon_not ny]
    rcases nrank_cases x hx nx with ⟨_, e1, e2, e3, e4⟩ | ⟨_, e1, e2, e3, e4⟩ <;> rcases nrank_cases y hy ny with ⟨_, f1, f2, f3, f4⟩ | ⟨_, f1, f2, f3, f4⟩ <;> omega
  · have : nrank y = 0 := by unfold nrank; rw [ny]; rfl
    rcases nrank_cases x hx nx with ⟨_, e1, e2, e3, e4⟩ | ⟨_, e1, e2, e3, e4⟩ <;> omega
  · have : nrank x = 0 := by unfold nrank; rw [nx]; rfl
    rcases nrank_cases y hy ny with ⟨_, e1, e2, e3, e4⟩ | ⟨_, e1, e2, e3, e4⟩ <;> omega
  · rw [canon_nan nx, canon_nan ny]



theorem nearest_eq (neg : Bool) (mag : Nat) (place : Int) (h : mag ≠ 0) : D.nearest neg mag place =
    D.word neg (min ((max (place + mag.log2 - 52) (-1074) - (-1074)).toNat * 4503599627370496 + Toward.even.cut neg (mag <<< (place - max (place + mag.log2 - 52) (-1074)).toNat) (max (place + mag.log2 - 52) (-1074) - place).toNat) INFR) := by
  unfold Format.nearest
  rw [if_neg h]
  rfl

theorem cut_exact (neg : Bool) (n drop : Nat) : Toward.even.cut neg (n * 2 ^ drop) drop = n := by
  unfold Toward.cut
  by_cases hn : n = 0
  · subst hn
    simp only [Nat.zero_mul, Nat.shiftLeft_eq, Nat.one_mul, Nat.zero_div, Nat.zero_mod]
    have : 0 < 2 ^ min drop (Nat.log2 0 + 2) := Nat.two_pow_pos _
    generalize 2 ^ min drop (Nat.log2 0 + 2) = g at *
    have h1 : ¬ g < 2 * 0 := by omega
    have h2 : ¬ g = 2 * 0 := by omega
    simp
  · have hl : (n * 2 ^ drop).log2 = n.log2 + drop := by
      rw [Nat.log2_eq_iff (by have := Nat.two_pow_pos drop; exact Nat.mul_ne_zero hn (by omega))]
      constructor
      · rw [Nat.pow_add]; exact Nat.mul_le_mul_right _ (Nat.log2_self_le hn)
      · rw [show n.log2 + drop + 1 = (n.log2 + 1) + drop by omega, Nat.pow_add]; exact Nat.mul_lt_mul_of_pos_right Nat.lt_log2_self (Nat.two_pow_pos _)
    rw [hl, Nat.min_eq_left (by omega)]
    simp only [Nat.shiftLeft_eq, Nat.one_mul]
    have hp : 0 < 2 ^ drop := Nat.two_pow_pos _
    rw [Nat.mul_div_cancel _ hp, Nat.mul_mod_left]
    have h1 : ¬ 2 ^ drop < 2 * 0 := by omega
    have h2 : ¬ 2 ^ drop = 2 * 0 := by omega
    simp

theorem log2_mul_pow (n k : Nat) (hn : n ≠ 0) : (n * 2 ^ k).log2 = n.log2 + k := by
  rw [Nat.log2_eq_iff (by have := Nat.two_pow_pos k; exact Nat.mul_ne_zero hn (by omega))]
  constructor
  · rw [Nat.pow_add]; exact Nat.mul_le_mul_right _ (Nat.log2_self_le hn)
  · rw [show n.log2 + k + 1 = (n.log2 + 1) + k by omega, Nat.pow_add]; exact Nat.mul_lt_mul_of_pos_right Nat.lt_log2_self (Nat.two_pow_pos _)

theorem val_parts (r : Nat) (h : val r ≠ 0) : ∃ q t : Nat, val r = q * 2 ^ t ∧ r = t * 4503599627370496 + q ∧ q ≠ 0 ∧ (q.log2 = 52 ∨ (t = 0 ∧ q.log2 ≤ 52)) := by
  by_cases h1 : r < 4503599627370496
  · have e : val r = r := by unfold val; rw [if_pos h1]
    rw [e] at h ⊢
    refine ⟨r, 0, by simp, by omega, h, .inr ⟨rfl, ?_⟩⟩
    have := (Nat.log2_lt h).2 (show r < 2 ^ 52 from h1)
    omega
  · have e : val r = (4503599627370496 + r % 4503599627370496) * 2 ^ (r / 4503599627370496 - 1) := by unfold val; rw [if_neg h1]
    refine ⟨_, _, e, by omega, by omega, .inl ?_⟩
    rw [Nat.log2_eq_iff (by omega)]
    constructor
    · show 4503599627370496 ≤ _
      omega
    · show _ < 9007199254740992
      omega

/-- THE WORD OF A NUMBER THAT IS A RUNG's VALUE IS THAT RUNG: whatever its magnitude and place -/
theorem nearest_exact (neg : Bool) (mag : Nat) (place : Int) (r : Nat) (hr : r < INFR) (a b : Nat) (ha : place + a = -1074 + b) (hv : mag * 2 ^ b = val r * 2 ^ a) : D.nearest neg mag place = D.word neg r := by
  have pa := Nat.two_pow_pos a
  have pb := Nat.two_pow_pos b
  by_cases hm : mag = 0
  · subst hm
    have h0 : val r = 0 := by
      rw [Nat.zero_mul] at hv
      rcases Nat.mul_eq_zero.1 hv.symm with h | h
      · exact h
      · omega
    have : r = 0 := (val_zero_iff r).1 h0
    subst this
    unfold Format.nearest
    rw [if_pos rfl]
  · have h0 : val r ≠ 0 := by
      intro h
      rw [h, Nat.zero_mul] at hv
      rcases Nat.mul_eq_zero.1 hv with h | h <;> omega
    obtain ⟨q, t, e1, e2, hq, hl⟩ := val_parts r h0
    rw [nearest_eq neg mag place hm]
    have hlog : mag.log2 + b = q.log2 + (t + a) := by
      rw [← log2_mul_pow mag b hm, hv, e1, Nat.mul_assoc, ← Nat.pow_add, log2_mul_pow q _ hq]
    have hlast : max (place + (mag.log2 : Int) - 52) (-1074) = -1074 + (t : Int) := by omega
    rw [hlast]
    have hv' : mag * 2 ^ b = q * 2 ^ (t + a) := by rw [hv, e1, Nat.mul_assoc, ← Nat.pow_add]
    have hcut : Toward.even.cut neg (mag <<< (place - (-1074 + (t : Int))).toNat) (-1074 + (t : Int) - place).toNat = q := by
      rw [Nat.shiftLeft_eq]
      by_cases hb : t + a ≤ b
      · rw [show (place - (-1074 + (t : Int))).toNat = b - (t + a) by omega, show (-1074 + (t : Int) - place).toNat = 0 by omega]
        have h1 : mag * 2 ^ (b - (t + a)) * 2 ^ (t + a) = q * 2 ^ (t + a) := by rw [Nat.mul_assoc, ← Nat.pow_add, show b - (t + a) + (t + a) = b by omega, hv']
        have h2 : mag * 2 ^ (b - (t + a)) = q := Nat.eq_of_mul_eq_mul_right (Nat.two_pow_pos _) h1
        rw [h2]
        have := cut_exact neg q 0
        simpa using this
      · rw [show (place - (-1074 + (t : Int))).toNat = 0 by omega, show (-1074 + (t : Int) - place).toNat = t + a - b by omega]
        have h1 : mag * 2 ^ b = q * 2 ^ (t + a - b) * 2 ^ b := by rw [Nat.mul_assoc, ← Nat.pow_add, show t + a - b + b = t + a by omega, hv']
        have h2 : mag = q * 2 ^ (t + a - b) := Nat.eq_of_mul_eq_mul_right (Nat.two_pow_pos _) h1
        rw [Nat.pow_zero, Nat.mul_one, h2]
        exact cut_exact neg q _
    rw [hcut, show (-1074 + (t : Int) - -1074).toNat = t by omega, ← e2, Nat.min_eq_left (by omega)]

/-- the least number's place, turned -/
def KP : Nat := 1074
theorem KP_eq : KP = 1074 := rfl
theorem val_norm (r : Nat) (h : 4503599627370496 ≤ r) : val r = (4503599627370496 + r % 4503599627370496) * 2 ^ (r / 4503599627370496 - 1) := by
  unfold val; rw [if_neg (by omega)]

theorem int_word (n : Nat) (hn : n ≤ 9007199254740992) (s : Bool) : ∃ r, r ≤ 4845873199050653696 ∧ D.nearest s n 0 = D.word s r ∧ val r = n * 2 ^ KP := by
  have kp := KP_eq
  by_cases h0 : n = 0
  · subst h0
    exact ⟨0, by decide, by unfold Format.nearest; rw [if_pos rfl], by rw [val_zero, Nat.zero_mul]⟩
  · have key : ∀ q t : Nat, 4503599627370496 ≤ q → q < 9007199254740992 → t ≤ KP + 1 → q * 2 ^ t = n * 2 ^ KP → ∃ r, r ≤ 4845873199050653696 ∧ D.nearest s n 0 = D.word s r ∧ val r = n * 2 ^ KP := by
      intro q t h1 h2 h3 h4
      have hv : val (t * 4503599627370496 + q) = n * 2 ^ KP := by
        rw [val_norm _ (by omega), show (t * 4503599627370496 + q) % 4503599627370496 = q - 4503599627370496 by omega, show (t * 4503599627370496 + q) / 4503599627370496 - 1 = t by omega, show 4503599627370496 + (q - 4503599627370496) = q by omega, h4]
      refine ⟨t * 4503599627370496 + q, ?_, ?_, hv⟩
      · by_cases g : t = KP + 1
        · have h5 : q * 2 * 2 ^ KP = n * 2 ^ KP := by rw [← h4, g, Nat.mul_assoc, ← Nat.pow_succ']
          have h6 := Nat.eq_of_mul_eq_mul_right (Nat.two_pow_pos _) h5
          have g' : t = 1075 := by rw [g, kp]
          clear hv h4 h5 g kp
          omega
        · clear hv h4
          omega
      · exact nearest_exact s n 0 _ (by unfold INFR; omega) 0 KP (by omega) (by rw [hv, Nat.pow_zero, Nat.mul_one])
    by_cases h1 : n = 9007199254740992
    · exact key 4503599627370496 (KP + 1) (by decide) (by decide) (by omega) (by rw [h1, show (9007199254740992 : Nat) = 4503599627370496 * 2 by decide, Nat.mul_assoc, ← Nat.pow_succ'])
    · have hl : n.log2 ≤ 52 := by
        have := (Nat.log2_lt h0).2 (show n < 2 ^ 53 by rw [show (2 : Nat) ^ 53 = 9007199254740992 by decide]; omega)
        omega
      have e1 := Nat.log2_self_le h0
      have e2 : n < 2 ^ (n.log2 + 1) := Nat.lt_log2_self
      have p := Nat.two_pow_pos (52 - n.log2)
      refine key (n * 2 ^ (52 - n.log2)) (KP - (52 - n.log2)) ?_ ?_ (by omega) ?_
      · calc (4503599627370496 : Nat) = 2 ^ n.log2 * 2 ^ (52 - n.log2) := by rw [← Nat.pow_add, show n.log2 + (52 - n.log2) = 52 by omega]
          _ ≤ n * 2 ^ (52 - n.log2) := Nat.mul_le_mul_right _ e1
      · calc n * 2 ^ (52 - n.log2) < 2 ^ (n.log2 + 1) * 2 ^ (52 - n.log2) := Nat.mul_lt_mul_of_pos_right e2 p
          _ = 9007199254740992 := by rw [← Nat.pow_add, show n.log2 + 1 + (52 - n.log2) = 53 by omega]
      · rw [Nat.mul_assoc, ← Nat.pow_add, show 52 - n.log2 + (KP - (52 - n.log2)) = KP by omega]

theorem rung_word (s : Bool) (r : Nat) (h : r < 9223372036854775808) : rung (D.word s r) = r ∧ neg? (D.word s r) = s ∧ D.word s r < 18446744073709551616 := by
  have e : D.word s r = if s then 9223372036854775808 + r else r := rfl
  rw [e]
  unfold rung neg?
  cases s
  · simp only [Bool.false_eq_true, if_false]; refine ⟨by omega, ?_, by omega⟩; rw [beq_eq_false_iff_ne]; omega
  · simp only [if_true]; refine ⟨by omega, ?_, by omega⟩; rw [beq_iff_eq]; omega

end Go.Proofs.Ytghddknhoiaboaa.Fl
