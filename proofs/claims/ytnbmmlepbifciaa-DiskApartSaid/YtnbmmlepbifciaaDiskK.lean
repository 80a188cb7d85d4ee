/-
  What lasts, and what is read, behind writes, a barrier and a crash (no program in sight).
-/
import Derived.Test.YtnbmmlepbifciaaDiskJ
namespace Go.Proofs.Ytnbmmlepbifciaa
open Go.ChangeShapes Go.WideShapes Go.ChangeAt Go.RowKit Go.Deep
set_option linter.unusedVariables false

def em : ByteArray := ⟨#[]⟩
theorem lastsK_snoc (pk : Nat → Bool) (L : List ByteArray) (W : List (Nat × ByteArray)) (x : Nat × ByteArray) (k : Nat) (h : k ≤ W.length) : lastsK pk L (W ++ [x]) k = lastsK pk L W k := by
  induction k with
  | zero => rfl
  | succ k ih =>
    have hk : k < W.length := by omega
    rw [lastsK_at pk L W k hk, lastsK_at pk L (W ++ [x]) k (by simp; omega), ih (by omega), List.getElem_append_left hk]
theorem lastsK_end (pk : Nat → Bool) (L : List ByteArray) (W : List (Nat × ByteArray)) (x : Nat × ByteArray) : lastsK pk L (W ++ [x]) (W.length + 1) = if pk W.length = true then (lastsK pk L W W.length).set x.1 x.2 else lastsK pk L W W.length := by
  rw [lastsK_at pk L (W ++ [x]) W.length (by simp), lastsK_snoc pk L W x W.length (Nat.le_refl _)]
  have e : (W ++ [x])[W.length]'(by simp) = x := by simp
  rw [e]
theorem getD_set_eq (l : List ByteArray) (i : Nat) (x d : ByteArray) (h : i < l.length) : (l.set i x).getD i d = x := by
  simp [List.getD, h]
theorem getD_set_ne (l : List ByteArray) (i j : Nat) (x d : ByteArray) (h : i ≠ j) : (l.set i x).getD j d = l.getD j d := by
  simp [List.getD, List.getElem?_set_ne h]
theorem set_self (l : List ByteArray) (i : Nat) (d : ByteArray) : l.set i (l.getD i d) = l := by
  apply List.ext_getElem?
  intro j
  by_cases h : i = j
  · subst h
    by_cases hl : i < l.length
    · rw [List.getElem?_set_self hl, List.getD_eq_getElem?_getD, List.getElem?_eq_getElem hl]
      rfl
    · rw [List.getElem?_eq_none (by rw [List.length_set]; omega), List.getElem?_eq_none (by omega)]
  · rw [List.getElem?_set_ne h]

/-- what is read is what would last if all lasted -/
def App (s : DSt) : Prop := lastsK (fun _ => true) s.L s.W s.W.length = s.N
theorem app_new (n : Nat) : App ⟨List.replicate n blank, List.replicate n blank, [], false, 0, false, 0⟩ := rfl
theorem app_wr {s : DSt} (h : App s) (n : Nat) (x : ByteArray) : App (wr s n x) := by
  unfold App wr at *
  dsimp only
  rw [chg_L, List.length_append, List.length_singleton, lastsK_end, h]
  rfl
theorem nowK_self (N : List ByteArray) (W : List (Nat × ByteArray)) (k : Nat) : nowK N N W k = N := by
  induction k with
  | zero => rfl
  | succ k ih =>
    unfold nowK
    split
    · rw [ih, set_self]
    · exact ih
theorem app_barrier {s : DSt} (h : App s) : settleS (fun _ => true) (chg s) = { chg s with L := s.N, N := s.N, W := [] } := by
  unfold settleS
  rw [chg_L, chg_N, chg_W]
  unfold App at h
  rw [h, nowK_self]
theorem lasts_from (pk : Nat → Bool) (L : List ByteArray) (W : List (Nat × ByteArray)) (n : Nat) (d : ByteArray) (hn : n < L.length) (k : Nat) (hk : k ≤ W.length) :
    ((lastsK pk L W k).getD n d = L.getD n d) ∨ ∃ j, j < k ∧ W[j]? = some (n, (lastsK pk L W k).getD n d) := by
  induction k with
  | zero => exact .inl rfl
  | succ k ih =>
    have hkW : k < W.length := by omega
    have e := lastsK_at pk L W k hkW
    have ih' := ih (by omega)
    by_cases hp : pk k = true
    · rw [if_pos hp] at e
      rw [e]
      by_cases hx : (W[k]).1 = n
      · rw [hx, getD_set_eq _ _ _ _ (by rw [lastsK_len]; exact hn)]
        refine .inr ⟨k, by omega, ?_⟩
        rw [List.getElem?_eq_getElem hkW]
        congr 1
        exact Prod.ext hx rfl
      · rw [getD_set_ne _ _ _ _ _ hx]
        rcases ih' with h | ⟨j, hj, h⟩
        · exact .inl h
        · exact .inr ⟨j, by omega, h⟩
    · rw [if_neg hp] at e
      rw [e]
      rcases ih' with h | ⟨j, hj, h⟩
      · exact .inl h
      · exact .inr ⟨j, by omega, h⟩
theorem lasts_un (pk : Nat → Bool) (L : List ByteArray) (W : List (Nat × ByteArray)) (n : Nat) (d : ByteArray) (k : Nat) (hk : k ≤ W.length) (hW : ∀ j (hj : j < W.length), j < k → (W[j]).1 ≠ n) : (lastsK pk L W k).getD n d = L.getD n d := by
  induction k with
  | zero => rfl
  | succ k ih =>
    have hkW : k < W.length := by omega
    have e := lastsK_at pk L W k hkW
    have ih' := ih (by omega) (fun j hj hjk => hW j hj (by omega))
    rw [e]
    split
    · rw [getD_set_ne _ _ _ _ _ (hW k hkW (by omega))]
      exact ih'
    · exact ih'
theorem now_at (L N : List ByteArray) (W : List (Nat × ByteArray)) (n : Nat) (d : ByteArray) (hd : d = ⟨#[]⟩) (hn : n < N.length) (k : Nat) (hk : k ≤ W.length) :
    ((nowK L N W k).getD n d = L.getD n d) ∨ ((nowK L N W k).getD n d = N.getD n d ∧ ∀ j (hj : j < W.length), j < k → (W[j]).1 ≠ n) := by
  subst hd
  induction k with
  | zero => exact .inr ⟨rfl, fun j hj h => by omega⟩
  | succ k ih =>
    have hkW : k < W.length := by omega
    have e := nowK_at L N W k hkW
    rw [e]
    by_cases hx : (W[k]).1 = n
    · rw [hx, getD_set_eq _ _ _ _ (by rw [nowK_len]; exact hn)]
      exact .inl rfl
    · rw [getD_set_ne _ _ _ _ _ hx]
      rcases ih (by omega) with h | ⟨h, hW⟩
      · exact .inl h
      · refine .inr ⟨h, fun j hj hjk => ?_⟩
        by_cases hjk' : j = k
        · subst hjk'
          exact hx
        · exact hW j hj (by omega)
/-- behind a crash a sector has what lasted, or one of the writes -/
theorem crash_at {s : DSt} (h : App s) (pk : Nat → Bool) (n : Nat) (hn : n < s.L.length) (hl : s.N.length = s.L.length) :
    ((crashS pk s).N.getD n ⟨#[]⟩ = s.L.getD n ⟨#[]⟩) ∨ ∃ j, j < s.W.length ∧ s.W[j]? = some (n, (crashS pk s).N.getD n ⟨#[]⟩) := by
  have e : (crashS pk s).N = nowK (lastsK pk s.L s.W s.W.length) s.N s.W s.W.length := rfl
  rw [e]
  rcases now_at (lastsK pk s.L s.W s.W.length) s.N s.W n ⟨#[]⟩ rfl (by omega) s.W.length (Nat.le_refl _) with g | ⟨g, gW⟩
  · rw [g]
    exact lasts_from pk s.L s.W n ⟨#[]⟩ hn s.W.length (Nat.le_refl _)
  · rw [g]
    unfold App at h
    rw [← h, lasts_un (fun _ => true) s.L s.W n ⟨#[]⟩ s.W.length (Nat.le_refl _) gW]
    exact .inl rfl
end Go.Proofs.Ytnbmmlepbifciaa
