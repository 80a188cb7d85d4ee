/-
  The law NumReads: the contract of the document's ReadFloat.
-/
import Derived.Test.YtghddknhoiaboaaRdC
namespace Go.Proofs.Ytghddknhoiaboaa
set_option maxRecDepth 100000
open Go.ChangeShapes Go.WideShapes Go.ChangeAt Go.RowKit
open Fl (rung INFR NANB isNan canon made fi)
set_option linter.unusedVariables false

/-- behind k signs: digits ahead of the point, and behind it -/
def RI (d : List Nat) (k N T g a b : Nat) (pt : Bool) : Prop := ∃ w u : List Nat, (∀ c ∈ w, isD c = true) ∧ (∀ c ∈ u, isD c = true) ∧ (pt = false → u = [] ∧ d.take k = w) ∧ (pt = true → d.take k = w ++ 46 :: u) ∧ a = w.length ∧ b = u.length ∧ g = a + b ∧ N = val ((w ++ u).take 15) ∧ T = 10 ^ (min b 15)
theorem ri_start (d : List Nat) : RI d 0 0 1 0 0 0 false := by
  refine ⟨[], [], ?_, ?_, fun _ => ⟨rfl, rfl⟩, fun h => (nomatch h), rfl, rfl, rfl, rfl, rfl⟩
  · intro c hc
    cases hc
  · intro c hc
    cases hc
theorem take_next {d : List Nat} {k : Nat} (hk : k < d.length) : d.take (k + 1) = d.take k ++ [d.getD k 0] := by
  rw [List.take_add_one, List.getElem?_eq_getElem hk, Option.toList_some, List.getD_eq_getElem?_getD, List.getElem?_eq_getElem hk]
  rfl
theorem ri_bounds {d : List Nat} {k N T g a b : Nat} {pt : Bool} (h : RI d k N T g a b pt) : g ≤ d.length ∧ a ≤ g ∧ b ≤ g := by
  obtain ⟨w, u, h1, h2, h3, h4, ha, hb, hg, hN, hT⟩ := h
  refine ⟨?_, by omega, by omega⟩
  cases pt with
  | false =>
    obtain ⟨e1, e2⟩ := h3 rfl
    have := congrArg List.length e2
    rw [List.length_take] at this
    rw [e1] at hb
    simp at hb
    omega
  | true =>
    have := congrArg List.length (h4 rfl)
    rw [List.length_take, List.length_append, List.length_cons] at this
    omega
theorem ri_point {d : List Nat} {k N T g a b : Nat} {pt : Bool} (h : RI d k N T g a b pt) (hk : k < d.length) (hc : d.getD k 0 = 46) (hp : pt = false) : RI d (k + 1) N T g a b true := by
  obtain ⟨w, u, h1, h2, h3, h4, r⟩ := h
  obtain ⟨e1, e2⟩ := h3 hp
  subst e1
  exact ⟨w, [], h1, h2, fun h => (nomatch h), fun _ => by rw [take_next hk, e2, hc], r⟩
theorem val_take15 (l : List Nat) (x : Nat) : val ((l ++ [48 + x]).take 15) = if l.length + 1 ≤ 15 then val (l.take 15) * 10 + x else val (l.take 15) := by
  by_cases h : l.length + 1 ≤ 15
  · rw [if_pos h, List.take_of_length_le (by simp; omega), List.take_of_length_le (by omega), val_snoc]
    omega
  · rw [if_neg h, List.take_append_of_le_length (by omega)]
theorem isD_digit (x : Nat) (hx : x ≤ 9) : isD (48 + x) = true := by unfold isD; simp; omega
theorem ri_digit {d : List Nat} {k N T g a b : Nat} {pt : Bool} (h : RI d k N T g a b pt) (hk : k < d.length) (x : Nat) (hc : d.getD k 0 = 48 + x) (hx : x ≤ 9) :
    (pt = false → RI d (k + 1) (if g + 1 ≤ 15 then N * 10 + x else N) T (g + 1) (a + 1) b false) ∧
    (pt = true → RI d (k + 1) (if g + 1 ≤ 15 then N * 10 + x else N) (if b + 1 ≤ 15 then T * 10 else T) (g + 1) a (b + 1) true) ∧ (g + 1 ≤ 15 → N * 10 + x ≤ 1000000000000000) := by
  obtain ⟨w, u, h1, h2, h3, h4, ha, hb, hg, hN, hT⟩ := h
  have hdx := isD_digit x hx
  refine ⟨fun hp => ?_, fun hp => ?_, fun h15 => ?_⟩
  · obtain ⟨e1, e2⟩ := h3 hp
    subst e1
    have hl : b = 0 := by rw [hb]; rfl
    refine ⟨w ++ [48 + x], [], fun c hc => ?_, h2, fun _ => ⟨rfl, by rw [take_next hk, e2, hc]⟩, fun h => (nomatch h), by rw [List.length_append, ha]; rfl, hb, by omega, ?_, hT⟩
    · rcases List.mem_append.1 hc with hc | hc
      · exact h1 c hc
      · rw [List.mem_singleton.1 hc]; exact hdx
    · rw [List.append_nil, val_take15, hN, List.append_nil, show g = w.length by omega]
  · have e2 := h4 hp
    refine ⟨w, u ++ [48 + x], h1, fun c hc => ?_, fun h => (nomatch h), fun _ => by rw [take_next hk, e2, hc]; simp, ha, by rw [List.length_append, hb]; rfl, by omega, ?_, ?_⟩
    · rcases List.mem_append.1 hc with hc | hc
      · exact h2 c hc
      · rw [List.mem_singleton.1 hc]; exact hdx
    · rw [← List.append_assoc, val_take15, hN, List.length_append, ← ha, ← hb, ← hg]
    · by_cases h15 : b + 1 ≤ 15
      · rw [if_pos h15, hT, Nat.min_eq_left h15, Nat.min_eq_left (by omega), Nat.pow_succ]
      · rw [if_neg h15, hT, Nat.min_eq_right (by omega), Nat.min_eq_right (by omega)]
  · have hle : ((w ++ u) ++ [48 + x]).length ≤ 15 := by simp; omega
    have hv := val_lt ((w ++ u) ++ [48 + x]) (fun j hj => by
      have hm : ((w ++ u) ++ [48 + x]).getD j 0 ∈ (w ++ u) ++ [48 + x] := by
        rw [List.getD_eq_getElem?_getD, List.getElem?_eq_getElem hj]
        exact List.getElem_mem hj
      have hD : isD (((w ++ u) ++ [48 + x]).getD j 0) = true := by
        rcases List.mem_append.1 hm with hm | hm
        · rcases List.mem_append.1 hm with hm | hm
          · exact h1 _ hm
          · exact h2 _ hm
        · rw [List.mem_singleton.1 hm]; exact hdx
      generalize ((w ++ u) ++ [48 + x]).getD j 0 = y at hD
      clear hm
      unfold isD at hD
      simp at hD
      omega)
    rw [val_snoc, List.length_append, List.length_append, List.length_singleton] at hv
    rw [List.length_append, List.length_append, List.length_singleton] at hle
    have hp : 10 ^ (w.length + u.length + 1) ≤ 10 ^ 15 := Nat.pow_le_pow_right (by decide) hle
    have hp2 : (10 : Nat) ^ 15 = 1000000000000000 := by decide
    rw [hN, List.take_of_length_le (by rw [List.length_append]; omega)]
    rw [Nat.add_sub_cancel_left] at hv
    generalize val (w ++ u) = v at hv ⊢
    generalize 10 ^ (w.length + u.length + 1) = p at hv hp
    omega
theorem ri_ten {d : List Nat} {k N T g a b : Nat} {pt : Bool} (h : RI d k N T g a b pt) : T ≤ 1000000000000000 := by
  obtain ⟨w, u, _, _, _, _, _, _, _, _, hT⟩ := h
  rw [hT]
  exact Nat.le_trans (Nat.pow_le_pow_right (by decide) (Nat.min_le_right b 15)) (by decide)
theorem ri_one {d : List Nat} {k N T g a b : Nat} {pt : Bool} (h : RI d k N T g a b pt) : 1 ≤ T := by
  obtain ⟨w, u, _, _, _, _, _, _, _, _, hT⟩ := h
  rw [hT]
  exact Nat.pow_pos (by decide)
theorem no46 {w : List Nat} (h : ∀ c ∈ w, isD c = true) : ∀ c ∈ w, ¬ c = 46 := fun c hc e => by have := h c hc; rw [e] at this; exact absurd this (by decide)
theorem cutN_at : ∀ (w r : List Nat), (∀ c ∈ w, ¬ c = 46) → cutN (w ++ 46 :: r) = (w, r)
  | [], r, _ => by show (if (46 : Nat) = 46 then ([], r) else _) = _; rw [if_pos rfl]
  | c :: w, r, h => by
    have ih := cutN_at w r (fun x hx => h x (List.mem_cons_of_mem _ hx))
    show (if c = 46 then ([], w ++ 46 :: r) else (c :: (cutN (w ++ 46 :: r)).1, (cutN (w ++ 46 :: r)).2)) = _
    rw [if_neg (h c (List.mem_cons_self ..)), ih]
theorem cutN_none : ∀ (w : List Nat), (∀ c ∈ w, ¬ c = 46) → cutN w = (w, [])
  | [], _ => rfl
  | c :: w, h => by
    have ih := cutN_none w (fun x hx => h x (List.mem_cons_of_mem _ hx))
    show (if c = 46 then ([], w) else (c :: (cutN w).1, (cutN w).2)) = _
    rw [if_neg (h c (List.mem_cons_self ..)), ih]
theorem cutN_pass : ∀ (w r : List Nat) (c : Nat), (∀ x ∈ w, ¬ x = 46) → ¬ c = 46 → c ∈ (cutN (w ++ c :: r)).1
  | [], r, c, _, hc => by
    show c ∈ (if c = 46 then (([] : List Nat), r) else (c :: (cutN r).1, (cutN r).2)).1
    rw [if_neg hc]
    exact List.mem_cons_self ..
  | a :: w, r, c, h, hc => by
    have ih := cutN_pass w r c (fun x hx => h x (List.mem_cons_of_mem _ hx)) hc
    show c ∈ (if a = 46 then ([], w ++ c :: r) else (a :: (cutN (w ++ c :: r)).1, (cutN (w ++ c :: r)).2)).1
    rw [if_neg (h a (List.mem_cons_self ..))]
    exact List.mem_cons_of_mem _ ih
theorem isDs_not {l : List Nat} {c : Nat} (hc : c ∈ l) (h : isD c = false) : isDs l = false := by
  unfold isDs
  have : l.all isD = false := by
    cases ha : l.all isD with
    | false => rfl
    | true => rw [List.all_eq_true.1 ha c hc] at h; cases h
  rw [this, Bool.and_false]
theorem split_at {d : List Nat} {k : Nat} (hk : k < d.length) : d = d.take k ++ d.getD k 0 :: d.drop (k + 1) := by
  conv => lhs; rw [← List.take_append_drop k d, List.drop_eq_getElem_cons hk]
  rw [List.getD_eq_getElem?_getD, List.getElem?_eq_getElem hk]
  rfl
theorem ri_bad {d : List Nat} {k N T g a b : Nat} {pt m : Bool} (h : RI d k N T g a b pt) (hk : k < d.length) (hc : isD (d.getD k 0) = false) (hp : ¬ d.getD k 0 = 46 ∨ pt = true) : rdF m d = (0, 2) := by
  obtain ⟨w, u, h1, h2, h3, h4, _⟩ := h
  have hs := split_at hk
  unfold rdF
  rw [if_pos]
  cases pt with
  | true =>
    rw [h4 rfl, List.append_assoc, List.cons_append] at hs
    have e := cutN_at w (u ++ d.getD k 0 :: d.drop (k + 1)) (no46 h1)
    rw [← hs] at e
    rw [e]
    exact .inr (isDs_not (List.mem_append_right _ (List.mem_cons_self ..)) hc)
  | false =>
    have hne : ¬ d.getD k 0 = 46 := hp.resolve_right (fun h => nomatch h)
    rw [(h3 rfl).2] at hs
    have e := cutN_pass w (d.drop (k + 1)) (d.getD k 0) (no46 h1) hne
    rw [← hs] at e
    exact .inl (isDs_not e hc)
theorem isDs_of {l : List Nat} (h : ∀ c ∈ l, isD c = true) (h0 : ¬ l.length = 0) : isDs l = true := by
  unfold isDs
  rw [List.all_eq_true.2 h, Bool.and_true]
  cases l with
  | nil => exact absurd rfl h0
  | cons c r => rfl
theorem isDs_nil : isDs [] = false := rfl
theorem ri_end {d : List Nat} {k N T g a b : Nat} {pt m : Bool} (h : RI d k N T g a b pt) (hk : d.length ≤ k) :
    (pt = false → rdF m d = (0, 2)) ∧ (pt = true → ((a = 0 ∨ b = 0) → rdF m d = (0, 2)) ∧ (¬ a = 0 → ¬ b = 0 → 15 < g → rdF m d = (0, 4)) ∧ (¬ a = 0 → ¬ b = 0 → ¬ 15 < g → rdF m d = (sgn m (made (Fl.D.div (fi N) (fi T))), 0))) := by
  obtain ⟨w, u, h1, h2, h3, h4, ha, hb, hg, hN, hT⟩ := h
  rw [List.take_of_length_le hk] at h3 h4
  refine ⟨fun hp => ?_, fun hp => ?_⟩
  · have e := (h3 hp).2
    unfold rdF
    rw [e, cutN_none w (no46 h1), if_pos (.inr isDs_nil)]
  · have e := h4 hp
    have ec : cutN d = (w, u) := by rw [e]; exact cutN_at w u (no46 h1)
    unfold rdF
    rw [ec]
    refine ⟨fun h => ?_, fun h5 h6 h7 => ?_, fun h5 h6 h7 => ?_⟩
    · rw [if_pos]
      rcases h with h | h
      · have : w = [] := List.eq_nil_of_length_eq_zero (by omega)
        rw [this]; exact .inl isDs_nil
      · have : u = [] := List.eq_nil_of_length_eq_zero (by omega)
        rw [this]; exact .inr isDs_nil
    · have i1 := isDs_of h1 (by omega)
      have i2 := isDs_of h2 (by omega)
      rw [if_neg (by rw [i1, i2]; intro h; rcases h with h | h <;> cases h), if_pos (by dsimp only; omega)]
    · have i1 := isDs_of h1 (by omega)
      have i2 := isDs_of h2 (by omega)
      rw [if_neg (by rw [i1, i2]; intro h; rcases h with h | h <;> cases h), if_neg (by dsimp only; omega)]
      dsimp only
      rw [hN, hT, List.take_of_length_le (by rw [List.length_append]; omega), Nat.min_eq_left (by omega), hb]

end Go.Proofs.Ytghddknhoiaboaa
