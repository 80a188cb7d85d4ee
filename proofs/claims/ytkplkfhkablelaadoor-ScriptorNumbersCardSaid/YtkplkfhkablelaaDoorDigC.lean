/-
  The law NumDigits: the contract of the document's Read.
-/
import Derived.Test.YtkplkfhkablelaaDoorDigB
namespace Go.Proofs.YtkplkfhkablelaaDoor.Di
set_option maxRecDepth 100000
open Go.ChangeShapes Go.WideShapes Go.ChangeAt Go.RowKit
set_option linter.unusedVariables false

/-- behind k digits: the number, or it is too big -/
def Inv (d : List Nat) (k : Nat) (N : Int) (g : Bool) : Prop := (∀ j, j < k → isD (d.getD j 0) = true) ∧ (g = true → 4611686018427387904 < val (d.take k)) ∧ (g = false → N = (val (d.take k) : Int) ∧ N ≤ 4611686018427387904)
theorem inv_start (d : List Nat) : Inv d 0 0 false := ⟨fun j hj => by omega, fun h => (nomatch h), fun _ => ⟨rfl, by decide⟩⟩
theorem inv_bad {d : List Nat} {k : Nat} (hk : k < d.length) (h : isD (d.getD k 0) = false) : isDs d = false := by
  unfold isDs
  rw [not_all d k hk h, Bool.and_false]
theorem inv_step {d : List Nat} {k : Nat} {N : Int} {g : Bool} (h : Inv d k N g) (hk : k < d.length) (x : Nat) (hx : d.getD k 0 = 48 + x) (hx9 : x ≤ 9) :
    (g = true → Inv d (k + 1) N true) ∧ (g = false → N > 461168601842738790 → Inv d (k + 1) N true) ∧ (g = false → ¬ N > 461168601842738790 → Inv d (k + 1) (N * 10 + x) (decide (4611686018427387904 < N * 10 + (x : Int)))) := by
  obtain ⟨h1, h2, h3⟩ := h
  have hv := val_step d k hk
  rw [hx] at hv
  have hd : ∀ j, j < k + 1 → isD (d.getD j 0) = true := fun j hj => by
    by_cases g : j = k
    · subst g
      rw [hx]
      unfold isD
      simp
      omega
    · exact h1 j (by omega)
  refine ⟨fun hg => ⟨hd, fun _ => by have := h2 hg; omega, fun h => (nomatch h)⟩, fun hg hb => ⟨hd, fun _ => by have := h3 hg; omega, fun h => (nomatch h)⟩, fun hg hb => ⟨hd, fun h => ?_, fun h => ?_⟩⟩
  · have := h3 hg
    have h' := of_decide_eq_true h
    omega
  · have := h3 hg
    have h' := of_decide_eq_false h
    omega
theorem inv_end {d : List Nat} {k : Nat} {N : Int} {g : Bool} {m : Bool} (h : Inv d k N g) (hk : d.length ≤ k) (h0 : 0 < d.length) :
    (g = true → readD m d = (0, 4)) ∧ (g = false → ((mostOf m : Int) < N → readD m d = (0, 4)) ∧ (N ≤ mostOf m → readD m d = (if m = true then -N else N, 0)) ∧ N ≤ 4611686018427387904) := by
  obtain ⟨h1, h2, h3⟩ := h
  rw [List.take_of_length_le hk] at h2 h3
  have hds : isDs d = true := by
    unfold isDs
    rw [all_getD d (fun j hj => h1 j (by omega))]
    cases d with
    | nil => simp at h0
    | cons a l => rfl
  have hm : mostOf m ≤ 4611686018427387904 := by unfold mostOf; split <;> omega
  refine ⟨fun hg => readD_big hds (by have := h2 hg; omega), fun hg => ?_⟩
  obtain ⟨e, hb⟩ := h3 hg
  subst e
  exact ⟨fun h => readD_big hds (by omega), fun h => readD_ok hds (by omega), hb⟩

end Go.Proofs.YtkplkfhkablelaaDoor.Di
