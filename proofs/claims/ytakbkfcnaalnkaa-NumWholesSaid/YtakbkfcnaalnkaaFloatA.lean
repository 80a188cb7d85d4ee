/-
  Doubles as their bits: plain facts on reading and writing them (no program in sight).
-/
import Derived.Laws.FloatArith
namespace Go.Proofs.Ytakbkfcnaalnkaa
open Ieee

abbrev D : Format := Ieee.double

/-- a word's rung: all bits but the sign -/
def rung (b : Nat) : Nat := b % 9223372036854775808
def INFR : Nat := 9218868437227405312
def NANB : Nat := 9221120237041090560
def isNan (b : Nat) : Bool := decide (INFR < rung b)
def canon (b : Nat) : Nat := if isNan b then NANB else b
def neg? (b : Nat) : Bool := b / 9223372036854775808 % 2 == 1

theorem read_eq (b : Nat) : D.read b =
    if rung b < 4503599627370496 then .number (neg? b) (rung b) (-1074)
    else if rung b < INFR then .number (neg? b) (4503599627370496 + rung b % 4503599627370496) (-1074 + (rung b / 4503599627370496 - 1 : Nat))
    else if rung b = INFR then .infinity (neg? b) else .nan (neg? b) (rung b - INFR) := by
  simp only [Format.read, Format.signWeight, Format.binade, Format.infRung, Format.leastPlace, D, Ieee.double, rung, INFR, neg?]
  rfl

theorem read_nan (b : Nat) (h : isNan b = true) : ∃ s f, D.read b = .nan s f := by
  have h' : INFR < rung b := of_decide_eq_true h
  rw [read_eq]
  rw [if_neg (by unfold INFR at h'; omega), if_neg (by omega), if_neg (by omega)]
  exact ⟨_, _, rfl⟩

theorem read_not_nan (b : Nat) (h : isNan b = false) : (∃ s m e, D.read b = .number s m e) ∨ ∃ s, D.read b = .infinity s := by
  have h' : ¬ INFR < rung b := of_decide_eq_false h
  rw [read_eq]
  split
  · exact .inl ⟨_, _, _, rfl⟩
  · split
    · exact .inl ⟨_, _, _, rfl⟩
    · split
      · exact .inr ⟨_, rfl⟩
      · omega

theorem order_nan_left (a b : Nat) (h : isNan a = true) : D.order a b = none := by
  obtain ⟨s, f, e⟩ := read_nan a h
  simp [Format.order, e, Datum.order]
theorem order_nan_right (a b : Nat) (h : isNan b = true) : D.order a b = none := by
  obtain ⟨s, f, e⟩ := read_nan b h
  unfold Format.order
  rw [e]
  cases D.read a <;> rfl
theorem order_self (b : Nat) (h : isNan b = false) : D.order b b = some .eq := by
  rcases read_not_nan b h with ⟨s, m, e, h⟩ | ⟨s, h⟩ <;> simp [Format.order, h, Datum.order]

/-- '==' of a double with itself -/
theorem order_self_eq (b : Nat) : (D.order b b == some .eq) = !isNan b := by
  cases h : isNan b
  · rw [order_self b h]; rfl
  · rw [order_nan_left b b h]; rfl
theorem order_self_ne (b : Nat) : (D.order b b != some .eq) = isNan b := by
  cases h : isNan b
  · rw [order_self b h]; rfl
  · rw [order_nan_left b b h]; rfl

theorem canon_nan {b : Nat} (h : isNan b = true) : canon b = NANB := by unfold canon; rw [h]; rfl
theorem canon_not {b : Nat} (h : isNan b = false) : canon b = b := by unfold canon; rw [h]; rfl
theorem canon_lt (b : Nat) (h : b < 18446744073709551616) : canon b < 18446744073709551616 := by
  unfold canon NANB; split <;> omega
theorem isNan_canon (b : Nat) : isNan (canon b) = isNan b := by
  cases h : isNan b
  · rw [canon_not h]; exact h
  · rw [canon_nan h]; decide
theorem canon_canon (b : Nat) : canon (canon b) = canon b := by
  cases h : isNan b
  · rw [canon_not h]; exact canon_not h
  · rw [canon_nan h]; decide

/-- what an operation gives, with the one NaN -/
def made (r : Option Nat) : Nat := match r with | some b => canon b | none => NANB

theorem nan_word (k m : Nat) (hk : k < 2) (hm : m < 4503599627370495) :
    9218868437227405312 < (k * 9223372036854775808 + 9218868437227405312 + 1 + m) % 9223372036854775808 ∧ k * 9223372036854775808 + 9218868437227405312 + 1 + m < 18446744073709551616 := by
  omega
/-- the bits of a NaN that the machine chooses are a NaN's -/
theorem choose_nan (t : Nat) (x y : Nat) : isNan ((Question.nanBits .f64 x y).cut t) = true ∧ (Question.nanBits .f64 x y).cut t < 18446744073709551616 := by
  have h := nan_word (t % 2) (t / 2 % 4503599627370495) (Nat.mod_lt _ (by decide)) (Nat.mod_lt _ (by decide))
  exact ⟨decide_eq_true h.1, h.2⟩

theorem run_arith {P : Program} (op : BinOp) (r : Option Nat) (x y : Nat) (h : floatBits op .f64 x y = r) (hop : op = .add ∨ op = .sub ∨ op = .mul ∨ op = .quo) (t : TypeId) (w : World) :
    ∃ b w', (binOp op t (.float .f64 x) (.float .f64 y)).run P w = .ok (.float .f64 b) w' ∧ (w' = w ∨ w' = w.drew) ∧ b < 18446744073709551616 ∧ canon b = made r := by
  cases r with
  | some b =>
    refine ⟨b, w, run_float_arith w op t .f64 x y b h, .inl rfl, ?_, rfl⟩
    have := floatBits_wf h
    simpa [Lit.wf] using this
  | none =>
    have hc := choose_nan (w.tape w.drawn (.nanBits .f64 x y)) x y
    refine ⟨_, w.drew, ?_, .inr rfl, hc.2, canon_nan hc.1⟩
    unfold floatBits at h
    rcases hop with rfl | rfl | rfl | rfl <;> simp only at h <;> simp [binOp, Op.floatArith, h, Question.forced]

end Go.Proofs.Ytakbkfcnaalnkaa
