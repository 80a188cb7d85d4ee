/-
  The algebra of doubles: what NumAlgebra and NumZeros lean on (no program in sight).
-/
import Derived.Test.YtakbkfcnaalnkaaFloatF
import Derived.Laws.BitsAllLaws
namespace Go.Proofs.Ytakbkfcnaalnkaa
open Ieee

theorem sum_comm (a b : Datum) : a.sum b = b.sum a := by
  cases a with
  | nan s f => cases b <;> rfl
  | infinity s =>
    cases b with
    | nan t g => rfl
    | infinity t => simp only [Datum.sum]; cases s <;> cases t <;> rfl
    | number t n j => rfl
  | number s m i =>
    cases b with
    | nan t g => rfl
    | infinity t => rfl
    | number t n j =>
      simp only [Datum.sum]
      rw [Int.min_comm i j, Int.add_comm (signed s m _), Bool.and_comm s t]

theorem product_comm (a b : Datum) : a.product b = b.product a := by
  cases a with
  | nan s f => cases b <;> rfl
  | infinity s =>
    cases b with
    | nan t g => rfl
    | infinity t => simp only [Datum.product]; rw [Bool.xor_comm]
    | number t n j => rfl
  | number s m i =>
    cases b with
    | nan t g => rfl
    | infinity t => rfl
    | number t n j =>
      simp only [Datum.product]
      rw [Nat.mul_comm, Int.add_comm, Bool.xor_comm]

theorem add_comm' (x y : Nat) : D.add x y = D.add y x := by unfold Format.add; rw [sum_comm]
theorem mul_comm' (x y : Nat) : D.mul x y = D.mul y x := by unfold Format.mul; rw [product_comm]

theorem flip_eq (x : Nat) (hx : x < 18446744073709551616) : x ^^^ 9223372036854775808 = if x < 9223372036854775808 then x + 9223372036854775808 else x - 9223372036854775808 := by
  have hb : ∀ y : Nat, y < 9223372036854775808 → y ^^^ 9223372036854775808 = y + 9223372036854775808 := by
    intro y hy
    have h1 : y ^^^ 9223372036854775808 = y ||| 9223372036854775808 := by
      apply Nat.eq_of_testBit_eq
      intro i
      rw [Nat.testBit_xor, Nat.testBit_or]
      have h2 : Nat.testBit 9223372036854775808 i = decide (63 = i) := Nat.testBit_two_pow (n := 63)
      rw [h2]
      by_cases hi : 63 = i
      · subst hi
        have : y.testBit 63 = false := Nat.testBit_lt_two_pow hy
        rw [this]; rfl
      · simp [hi]
    rw [h1, Nat.or_comm, Nat.add_comm]
    exact nat_join 63 9223372036854775808 y (by decide) hy
  split
  · rename_i h; exact hb x h
  · rename_i h
    have h3 := hb (x - 9223372036854775808) (by omega)
    rw [show x - 9223372036854775808 + 9223372036854775808 = x by omega] at h3
    have h4 : x ^^^ 9223372036854775808 = (x - 9223372036854775808 ^^^ 9223372036854775808) ^^^ 9223372036854775808 := by rw [h3]
    rw [h4, Nat.xor_assoc, Nat.xor_self, Nat.xor_zero]

theorem flip_lt (x : Nat) (hx : x < 18446744073709551616) : x ^^^ 9223372036854775808 < 18446744073709551616 := by rw [flip_eq x hx]; split <;> omega
theorem flip_rung (x : Nat) (hx : x < 18446744073709551616) : rung (x ^^^ 9223372036854775808) = rung x := by unfold rung; rw [flip_eq x hx]; split <;> omega
theorem flip_neg (x : Nat) (hx : x < 18446744073709551616) : neg? (x ^^^ 9223372036854775808) = !neg? x := by
  rw [flip_eq x hx]
  unfold neg?
  rw [Bool.eq_iff_iff]
  simp only [Bool.not_eq_true', beq_iff_eq, beq_eq_false_iff_ne]
  split <;> omega
theorem flip_read (x : Nat) (hx : x < 18446744073709551616) : D.read (x ^^^ 9223372036854775808) = (D.read x).opposite := by
  rw [read_eq, read_eq, flip_rung x hx, flip_neg x hx]
  split
  · rfl
  · split
    · rfl
    · split <;> rfl
theorem flip_nan (x : Nat) (hx : x < 18446744073709551616) : isNan (x ^^^ 9223372036854775808) = isNan x := by unfold isNan; rw [flip_rung x hx]

theorem sum_nan_left (s : Bool) (f : Nat) (b : Datum) : (Datum.nan s f).sum b = none := by cases b <;> rfl
theorem sum_nan_right (s : Bool) (f : Nat) (a : Datum) : a.sum (Datum.nan s f) = none := by cases a <;> rfl
theorem product_nan_left (s : Bool) (f : Nat) (b : Datum) : (Datum.nan s f).product b = none := by cases b <;> rfl
theorem product_nan_right (s : Bool) (f : Nat) (a : Datum) : a.product (Datum.nan s f) = none := by cases a <;> rfl
theorem quotient_nan_left (d : Nat) (s : Bool) (f : Nat) (b : Datum) : (Datum.nan s f).quotient d b = none := by cases b <;> rfl
theorem quotient_nan_right (d : Nat) (s : Bool) (f : Nat) (a : Datum) : a.quotient d (Datum.nan s f) = none := by cases a <;> rfl

theorem add_nan (x y : Nat) (h : isNan x = true ∨ isNan y = true) : D.add x y = none := by
  unfold Format.add
  rcases h with h | h
  · obtain ⟨s, f, e⟩ := read_nan x h; rw [e, sum_nan_left]; rfl
  · obtain ⟨s, f, e⟩ := read_nan y h; rw [e, sum_nan_right]; rfl
theorem mul_nan (x y : Nat) (h : isNan x = true ∨ isNan y = true) : D.mul x y = none := by
  unfold Format.mul
  rcases h with h | h
  · obtain ⟨s, f, e⟩ := read_nan x h; rw [e, product_nan_left]; rfl
  · obtain ⟨s, f, e⟩ := read_nan y h; rw [e, product_nan_right]; rfl
theorem div_nan (x y : Nat) (h : isNan x = true ∨ isNan y = true) : D.div x y = none := by
  unfold Format.div
  rcases h with h | h
  · obtain ⟨s, f, e⟩ := read_nan x h; rw [e, quotient_nan_left]; rfl
  · obtain ⟨s, f, e⟩ := read_nan y h; rw [e, quotient_nan_right]; rfl
theorem sub_nan (x y : Nat) (h : isNan x = true ∨ isNan y = true) : D.sub x y = none := by
  unfold Format.sub
  rcases h with h | h
  · obtain ⟨s, f, e⟩ := read_nan x h; rw [e, sum_nan_left]; rfl
  · obtain ⟨s, f, e⟩ := read_nan y h; rw [e]; exact congrArg (Option.map D.write) (sum_nan_right _ _ _)

/-- a difference is the sum with the opposite -/
theorem sub_flip (x y : Nat) (hy : y < 18446744073709551616) : D.sub x y = D.add x (y ^^^ 9223372036854775808) := by
  unfold Format.sub Format.add
  rw [flip_read y hy]

theorem word_self (x : Nat) (hx : x < 18446744073709551616) : D.word (neg? x) (rung x) = x := by
  unfold Format.word neg? rung
  show (if (x / 9223372036854775808 % 2 == 1) = true then 9223372036854775808 + x % 9223372036854775808 else x % 9223372036854775808) = x
  split
  · rename_i h; rw [beq_iff_eq] at h; omega
  · rename_i h; rw [beq_iff_eq] at h; omega

theorem read_one : D.read 4607182418800017408 = .number false 4503599627370496 (-52) := by decide +kernel

theorem mul_one' (x : Nat) (hx : x < 18446744073709551616) (h : isNan x = false) : D.mul x 4607182418800017408 = some x := by
  have h' : ¬ INFR < rung x := of_decide_eq_false h
  unfold Format.mul
  rw [read_one]
  by_cases h1 : rung x = INFR
  · rw [read_inf x h1]
    simp only [Datum.product]
    rw [if_neg (by decide)]
    show some (D.word (neg? x ^^ false) INFR) = some x
    rw [Bool.xor_false, ← h1, word_self x hx]
  · obtain ⟨m, e, hr, hv⟩ := read_fin x (by omega)
    rw [hr]
    show some (D.nearest (neg? x ^^ false) (m * 4503599627370496) (-1074 + (e : Int) + -52)) = some x
    rw [Bool.xor_false, nearest_exact (neg? x) _ _ (rung x) (by omega) 52 e (by omega) (by rw [hv, Nat.mul_right_comm]), word_self x hx]

/-! noughts -/
theorem read_zero : D.read 0 = .number false 0 (-1074) := by decide +kernel
theorem read_mzero : D.read 9223372036854775808 = .number true 0 (-1074) := by decide +kernel
theorem read_infw : D.read 9218868437227405312 = .infinity false := by decide +kernel

theorem zero_mag (x : Nat) (h : rung x = 0) : ∃ e : Int, D.read x = .number (neg? x) 0 e := by
  rw [read_eq, h, if_pos (by decide)]
  exact ⟨_, rfl⟩
theorem fin_mag (x : Nat) (h : rung x < INFR) (h0 : ¬ rung x = 0) : ∃ (m : Nat) (e : Int), m ≠ 0 ∧ D.read x = .number (neg? x) m e := by
  obtain ⟨m, e, hr, hv⟩ := read_fin x h
  refine ⟨m, _, ?_, hr⟩
  intro hm
  rw [hm, Nat.zero_mul] at hv
  exact h0 ((val_zero_iff _).1 hv)

theorem div_zero_zero (x : Nat) (h : rung x = 0) : D.div x 0 = none := by
  obtain ⟨e, hr⟩ := zero_mag x h
  unfold Format.div
  rw [hr, read_zero]
  rfl

/-- what is over a nought is infinite, with the sign of both -/
theorem div_by_zero (x : Nat) (h : isNan x = false) (h0 : ¬ rung x = 0) (z : Nat) (t : Bool) (hz : D.read z = .number t 0 (-1074)) : D.div x z = some (D.word (neg? x ^^ t) INFR) := by
  have h' : ¬ INFR < rung x := of_decide_eq_false h
  unfold Format.div
  rw [hz]
  by_cases h1 : rung x = INFR
  · rw [read_inf x h1]; rfl
  · obtain ⟨m, e, hm, hr⟩ := fin_mag x (by omega) h0
    rw [hr]
    simp only [Datum.quotient]
    rw [if_pos trivial, if_neg hm]
    rfl

theorem div_by_inf (x : Nat) (h : rung x < INFR) : D.div x 9218868437227405312 = some (D.word (neg? x) 0) := by
  obtain ⟨m, e, hr, hv⟩ := read_fin x h
  unfold Format.div
  rw [hr, read_infw]
  show some (D.nearest (neg? x ^^ false) 0 0) = some (D.word (neg? x) 0)
  unfold Format.nearest
  rw [if_pos rfl, Bool.xor_false]

theorem signed_opp (s : Bool) (m k : Nat) : signed s m k + signed (!s) m k = 0 := by
  unfold signed
  cases s <;> simp <;> omega

theorem sub_self (x : Nat) (h : rung x < INFR) : D.sub x x = some 0 := by
  obtain ⟨m, e, hr, hv⟩ := read_fin x h
  unfold Format.sub
  rw [hr]
  show some (D.write _) = _
  rw [signed_opp]
  show some (D.nearest (if (0 : Int) = 0 then neg? x && !neg? x else decide ((0 : Int) < 0)) (0 : Int).natAbs _) = some 0
  rw [if_pos rfl]
  unfold Format.nearest
  rw [if_pos (show Int.natAbs 0 = 0 from rfl)]
  cases neg? x <;> rfl

end Go.Proofs.Ytakbkfcnaalnkaa
