/-
  lex: what Scan answers, seen as one; rows put together.
-/
import Derived.Test.YtghddknhoiaboaaLjA
import Derived.Laws.OwnMore
namespace Go.Proofs.Ytghddknhoiaboaa
open Go.ChangeShapes Go.WideShapes Go.ChangeAt Go.RowKit
set_option linter.unusedVariables false
set_option maxRecDepth 100000

theorem scanL_count : ∀ (f : Nat) (p : Nat × Nat) (l : List Nat) (L : List Tok), (∀ c ∈ l, c < 256) → scanL f p l = .ok L → L.length ≤ l.length
  | 0, _, _, L, _, h => by
    injection h with h
    subst h
    exact Nat.zero_le _
  | f + 1, p, l, L, h256, h => by
    rw [scanL_succ] at h
    by_cases h0 : l.length ≤ blankLen false l
    · rw [if_pos h0] at h
      injection h with h
      subst h
      exact Nat.zero_le _
    · rw [if_neg h0] at h
      cases hk : tokL (l.drop (blankLen false l)) with
      | bad k => rw [hk] at h; cases h
      | tok k n t len =>
        rw [hk] at h
        dsimp only at h
        have hl := tokL_len (l.drop (blankLen false l)) (fun c hc => h256 c (List.mem_of_mem_drop hc)) (by rw [List.length_drop]; omega) (blank_drop l) hk
        cases hr : scanL f (advs p (l.take (blankLen false l + len))) (l.drop (blankLen false l + len)) with
        | bad q => rw [hr] at h; cases h
        | ok M =>
          rw [hr] at h
          injection h with h
          subst h
          have := scanL_count f _ _ M (fun c hc => h256 c (List.mem_of_mem_drop hc)) hr
          rw [List.length_drop] at this hl
          rw [List.length_cons]
          omega
theorem scanS_count (s : ByteArray) (L : List Tok) (h : scanS s = .ok L) : L.length ≤ s.size := by
  rw [scanS_T] at h
  have := scanL_count _ _ _ _ (fun c hc => bytesOf_lt s c hc) h
  rw [bytesOf_length] at this
  exact this
def resOf (s : ByteArray) : List Tok × (Nat × Nat) × Int := match scanS s with
  | .ok L => (L, (0, 0), 0)
  | .bad p => ([], p, 10)
theorem resOf_count (s : ByteArray) : (resOf s).1.length ≤ s.size := by
  unfold resOf
  cases h : scanS s with
  | ok L => exact scanS_count s L h
  | bad p => exact Nat.zero_le _
theorem ScanP.view {w w' : World} {s : ByteArray} {e : Ending} (h : ScanP w s e w') :
    ∃ v, e = .returned (.tuple #[v, .agg #[.int .i64 ((resOf s).2.1.1 : Int), .int .i64 ((resOf s).2.1.2 : Int)], .int .i64 (resOf s).2.2]) ∧ w'.ownsRow (w.heap.size + 4) 44 5 v (resOf s).1.length (toks (resOf s).1) ∧ Below w.heap.size w w' := by
  obtain ⟨h1, h2⟩ := h
  unfold resOf
  cases hs : scanS s with
  | ok L =>
    rw [hs] at h1
    obtain ⟨v, he, ho⟩ := h1
    exact ⟨v, he, ho, h2⟩
  | bad p =>
    rw [hs] at h1
    exact ⟨_, h1, toks_none _ _, h2⟩
theorem toks_nil_of {L : List Tok} (h : L.length = 0) : L = [] := List.eq_nil_of_length_eq_zero h
/-- append(nil, v...) -/
theorem run_all_tokR (W : World) (ty : TypeId) (base b2 : Nat) (v : Value) (L : List Tok) (h : W.ownsRow b2 38 5 v L.length (toks L)) (hl : L.length ≤ 100000) (hbase : base ≤ W.heap.size) :
    ∃ v' W', (Builtin.append_ #[29, 29] ty #[.slice none 0 0, v]).run Try.prog W = .ok v' W' ∧ W'.ownsRow base 38 5 v' L.length (toks L) ∧ Below base W W' := by
  obtain ⟨i0, hi, hz0, hz1, hz2⟩ := info_parts infoTokR
  obtain ⟨h1, h2⟩ := h
  rcases h2 with ⟨rfl, hn⟩ | ⟨g, cap, cur, rfl, hb, hh, hcap, hmx, hs, ht⟩
  · obtain rfl := toks_nil_of hn
    exact ⟨_, W, run_append_owned_none (P := Try.prog) W base 29 ty 38 i0 5 Try.underlying29 hi _ 0 [] (toksR_none W base), toksR_none W base, Below.refl _ W⟩
  · have hc : ∀ j u, (toks L)[j]? = some u → W.cell? ((⟨g, 0, none⟩ : Addr).add j) = some u := fun j u hu => by
      have hj : j < (toks L).length := by
        rcases Nat.lt_or_ge j (toks L).length with hl | hl
        · exact hl
        · rw [List.getElem?_eq_none hl] at hu; cases hu
      have e : (⟨g, 0, none⟩ : Addr).add j = ⟨g, j, none⟩ := by simp [Addr.add]; omega
      rw [e]
      rw [← ht, List.getElem?_take, if_pos (by omega)] at hu
      simp only [World.cell?, hh]
      simpa using hu
    have h1c : ∀ u ∈ toks L, u.oneCell' = true := fun u hu => by
      unfold toks at hu
      obtain ⟨t, _, ht⟩ := List.mem_flatMap.1 hu
      simp only [tokCells, List.mem_cons, List.not_mem_nil, or_false] at ht
      rcases ht with rfl | rfl | rfl | rfl | rfl <;> rfl
    obtain ⟨v', W', hr, ho, hgr, hnil⟩ := run_append_own (P := Try.prog) W base 29 ty 38 i0 _ 5 48 Try.underlying29 hi hz0 hz1 hz2 rfl (by decide) (.slice none 0 0) 0 [] (toksR_none W base) ⟨g, 0, none⟩ L.length cap (toks L) (by rw [toks_length]) hc h1c (by unfold maxLen; omega) (by omega) hbase
    rw [Nat.zero_add, List.nil_append] at ho
    exact ⟨v', W', hr, ho, (Below.refl _ W).grown hgr hbase (fun k hk => by cases hk)⟩
theorem resOf_two (s : ByteArray) : (resOf s).2.2 = 0 ∧ scanS s = .ok (resOf s).1 ∧ (resOf s).2.1 = (0, 0) ∨ (resOf s).2.2 = 10 ∧ scanS s = .bad (resOf s).2.1 := by
  unfold resOf
  cases scanS s with
  | ok L => exact .inl ⟨rfl, rfl, rfl⟩
  | bad p => exact .inr ⟨rfl, rfl⟩
theorem res_join (a b : ByteArray) (h : (resOf a).2.2 = 0) :
    ((resOf b).2.2 = 0 ∧ (resOf (a ++ ⟨#[10]⟩ ++ b)).2.2 = 0 ∧ (resOf (a ++ ⟨#[10]⟩ ++ b)).1 = (resOf a).1 ++ (resOf b).1.map (Tok.down (1 + lines (bytesOf a)))) ∨
    ((resOf b).2.2 = 10 ∧ (resOf (a ++ ⟨#[10]⟩ ++ b)).2.2 = 10 ∧ (resOf (a ++ ⟨#[10]⟩ ++ b)).2.1 = ((resOf b).2.1.1 + (1 + lines (bytesOf a)), (resOf b).2.1.2)) := by
  have ha : scanS a = .ok (resOf a).1 := by
    rcases resOf_two a with ⟨_, h2, _⟩ | ⟨h1, _⟩
    · exact h2
    · rw [h1] at h; cases h
  have hj := scan_join a b _ ha
  have e : resOf (a ++ ⟨#[10]⟩ ++ b) = match scanS (a ++ ⟨#[10]⟩ ++ b) with
    | .ok L => (L, (0, 0), 0)
    | .bad p => ([], p, 10) := rfl
  rw [e, hj]
  have eb : resOf b = match scanS b with
    | .ok L => (L, (0, 0), 0)
    | .bad p => ([], p, 10) := rfl
  rw [eb]
  cases scanS b with
  | ok M => exact .inl ⟨rfl, rfl, rfl⟩
  | bad p => exact .inr ⟨rfl, rfl, rfl⟩
theorem lines_take (l : List Nat) (i : Nat) (hi : i < l.length) : lines (l.take (i + 1)) = lines (l.take i) + (if l.getD i 0 = 10 then 1 else 0) := by
  unfold lines
  rw [List.take_succ_eq_append_getElem hi, List.filter_append, List.length_append, List.getD_eq_getElem?_getD, List.getElem?_eq_getElem hi]
  congr 1
  show ([l[i]].filter fun c => c == 10).length = if l[i] = 10 then 1 else 0
  by_cases h : l[i] = 10
  · rw [if_pos h, h]; rfl
  · rw [if_neg h]; simp [h]
theorem lines_le (l : List Nat) : lines l ≤ l.length := List.length_filter_le ..
end Go.Proofs.Ytghddknhoiaboaa
