/-
  lex: a word, in the document's order of questions.
-/
import Derived.Test.YtghddknhoiaboaaLexS
namespace Go.Proofs.Ytghddknhoiaboaa
open Go.ChangeShapes Go.WideShapes Go.ChangeAt Go.RowKit
set_option linter.unusedVariables false
set_option maxRecDepth 100000

/-- a minus, or none, and digits alone -/
def digS (l : List Nat) : Bool := if l.head? = some 45 then isDs (l.drop 1) else isDs l
theorem readD_2 (m : Bool) (d : List Nat) : (readD m d).2 = 2 ↔ isDs d = false := by
  unfold readD isDs
  by_cases h : d = [] ∨ d.all isD = false
  · rw [if_pos h]
    refine ⟨fun _ => ?_, fun _ => rfl⟩
    rcases h with rfl | h
    · rfl
    · rw [h, Bool.and_false]
  · rw [if_neg h]
    have h1 : ¬ d = [] := fun e => h (Or.inl e)
    have h2 : d.all isD = true := by
      cases ha : d.all isD with
      | true => rfl
      | false => exact absurd (Or.inr ha) h
    have h3 : (!d.isEmpty && d.all isD) = true := by
      rw [h2]
      cases d with
      | nil => exact absurd rfl h1
      | cons a l => rfl
    rw [h3]
    refine ⟨fun h4 => ?_, fun h4 => by cases h4⟩
    by_cases h5 : (if m = true then 4611686018427387904 else 4611686018427387903) < val d
    · rw [if_pos h5] at h4; cases h4
    · rw [if_neg h5] at h4; cases h4
theorem readS_2 (l : List Nat) : (readS l).2 = 2 ↔ digS l = false := by
  unfold readS digS
  by_cases h : l.head? = some 45
  · rw [if_pos h, if_pos h]; exact readD_2 true _
  · rw [if_neg h, if_neg h]; exact readD_2 false _
theorem cutN_digits : ∀ d : List Nat, d.all isD = true → (cutN d).2 = []
  | [], _ => rfl
  | c :: r, h => by
    rw [List.all_cons, Bool.and_eq_true] at h
    have hc : ¬ c = 46 := fun e => by
      have := h.1
      rw [e] at this
      exact absurd this (by decide)
    unfold cutN
    rw [if_neg hc]
    exact cutN_digits r h.2
theorem rdF_dig (m : Bool) (d : List Nat) (h : isDs d = true) : (rdF m d).2 = 2 := by
  unfold isDs at h
  rw [Bool.and_eq_true] at h
  unfold rdF
  rw [if_pos (Or.inr (by rw [cutN_digits d h.2]; rfl))]
theorem rdS_dig (l : List Nat) (h : digS l = true) : (rdS l).2 = 2 := by
  unfold digS at h
  unfold rdS
  by_cases g : l.head? = some 45
  · rw [if_pos g] at h ⊢; exact rdF_dig true _ h
  · rw [if_neg g] at h ⊢; exact rdF_dig false _ h
def refName (l : List Nat) : Bool := signR (l.getD 0 0) && l.all nameC
/-- what the document says of a word -/
def refWordS (s : ByteArray) : Option (Int × Int × ByteArray) :=
  if (readS (bytesOf s)).2 = 0 then some (2, (readS (bytesOf s)).1, ⟨#[]⟩)
  else if (rdS (bytesOf s)).2 = 0 then some (3, 0, bstr (eightS (rdS (bytesOf s)).1))
  else if 40 < s.size then none
  else if digS (bytesOf s) = true then none
  else if isConS (bytesOf s) = true then some (6, 0, s)
  else if refName (bytesOf s) = true then some (5, 0, s)
  else none
theorem head_c (c : Nat) (hn : nameC c = true) : signR c = !(isUp c || isDg c) := by
  unfold nameC isLet at hn
  unfold signR
  cases h1 : isUp c with
  | true =>
    have hs : isSgn c = false ∧ isLow c = false := by
      unfold isUp at h1
      have h1 := of_decide_eq_true h1
      refine ⟨?_, ?_⟩
      · exact sgn_miss c (fun j hj e => by
          have : ∀ j : Fin 12, ¬ (65 ≤ sgnL.getD j.val 0 ∧ sgnL.getD j.val 0 ≤ 90) := by decide
          exact this ⟨j, hj⟩ (by show 65 ≤ sgnL.getD j 0 ∧ _; rw [e]; exact h1))
      · unfold isLow; exact decide_eq_false (fun h => by omega)
    rw [hs.1, hs.2]; rfl
  | false =>
    cases h2 : isDg c with
    | true =>
      have hs : isSgn c = false ∧ isLow c = false := by
        unfold isDg at h2
        have h2 := of_decide_eq_true h2
        refine ⟨?_, ?_⟩
        · exact sgn_miss c (fun j hj e => by
            have : ∀ j : Fin 12, ¬ (48 ≤ sgnL.getD j.val 0 ∧ sgnL.getD j.val 0 ≤ 57) := by decide
            exact this ⟨j, hj⟩ (by show 48 ≤ sgnL.getD j 0 ∧ _; rw [e]; exact h2))
        · unfold isLow; exact decide_eq_false (fun h => by omega)
      rw [hs.1, hs.2]; rfl
    | false =>
      rw [h1, h2] at hn
      cases h3 : isLow c with
      | true => rw [Bool.or_true]; rfl
      | false =>
        rw [h3] at hn
        have : isSgn c = true := hn
        rw [this]; rfl
theorem name_same (l : List Nat) (h0 : l ≠ []) : refName l = isNameS l := by
  unfold refName isNameS
  cases ha : l.all nameC with
  | false => rw [Bool.and_false, Bool.and_false]
  | true =>
    cases l with
    | nil => exact absurd rfl h0
    | cons c t =>
      rw [List.all_cons, Bool.and_eq_true] at ha
      show (signR c && true) = (!(isUp c || isDg c) && true)
      rw [head_c c ha.1]
theorem word_order (s : ByteArray) (h0 : 0 < s.size) : wordS s = refWordS s := by
  unfold wordS refWordS
  have hne : bytesOf s ≠ [] := fun e => by
    have := bytesOf_length s
    rw [e] at this
    simp at this
    omega
  rw [name_same _ hne]
  by_cases h1 : (readS (bytesOf s)).2 = 0
  · rw [if_pos h1, if_pos h1]
  · rw [if_neg h1, if_neg h1]
    by_cases h2 : (readS (bytesOf s)).2 = 2
    · rw [if_neg (fun h => h h2)]
      have hd := (readS_2 _).1 h2
      rw [if_neg (show ¬ digS (bytesOf s) = true by rw [hd]; decide)]
    · rw [if_pos h2]
      have hd : digS (bytesOf s) = true := by
        cases hd : digS (bytesOf s) with
        | true => rfl
        | false => exact absurd ((readS_2 _).2 hd) h2
      have hr := rdS_dig _ hd
      rw [if_neg (show ¬ (rdS (bytesOf s)).2 = 0 by rw [hr]; decide), if_pos hd]
      split <;> rfl
end Go.Proofs.Ytghddknhoiaboaa
