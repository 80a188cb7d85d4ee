/-
  The contract of reading a number: (*wire.In).Num.
-/
import Derived.Test.YtkplkfhkablelaaDoorWireK
import Derived.Maps.AppendAt
namespace Go.Proofs.YtkplkfhkablelaaDoor.Wr
set_option maxRecDepth 100000
open Go.ChangeShapes Go.WideShapes Go.ChangeAt Go.RowKit
set_option linter.unusedVariables false

theorem heap_set0 {w : World} {p : Nat} {x y v : Value} {t : TypeId} (h : w.heap[p]? = some (.cells #[x, y] t)) : (w.setCell ⟨p, 0, none⟩ v).heap[p]? = some (.cells #[v, y] t) := by
  simp only [World.setCell, Array.getElem?_modify, h]
  simp
theorem heap_set1 {w : World} {p : Nat} {x y v : Value} {t : TypeId} (h : w.heap[p]? = some (.cells #[x, y] t)) : (w.setCell ⟨p, 1, none⟩ v).heap[p]? = some (.cells #[x, v] t) := by
  simp only [World.setCell, Array.getElem?_modify, h]
  simp
theorem grown_cell (w : World) (p i : Nat) (v : Value) : w.grownBy (w.setCell ⟨p, i, none⟩ v) (some p) :=
  ⟨rfl, rfl, rfl, by simp [World.setCell], fun j hj hne => Below.heap_setCell w ⟨p, i, none⟩ v j (fun e => hne (by rw [e]))⟩
theorem grown_below {w w' : World} {p : Nat} (h : w.grownBy w' (some p)) (hp : p < w.heap.size) : ∀ B, B ≤ p → Below B w w' :=
  fun B hB => (Below.refl B w).grown h (by omega) (fun k hk => by cases hk; exact hB)
theorem InAt.lt {w : World} {p : Nat} {l : List Nat} {e : Int} (h : InAt w p l e) : p < w.heap.size := by
  obtain ⟨a, len, cap, h1, _⟩ := h
  rcases Nat.lt_or_ge p w.heap.size with h | h
  · exact h
  · rw [Array.getElem?_eq_none h] at h1
    cases h1
theorem ByteRow.aside {w : World} {a : Option Addr} {n : Nat} {l : List Nat} (h : ByteRow w a n l) {p i : Nat} {v : Value} (hx : ∀ x, a = some x → x.block ≠ p) : ByteRow (w.setCell ⟨p, i, none⟩ v) a n l := by
  refine ⟨h.1, h.2.1, h.2.2.1, fun h0 => ?_⟩
  obtain ⟨b, o, rfl, hc⟩ := h.2.2.2 h0
  refine ⟨b, o, rfl, fun i hi => ?_⟩
  rw [← hc i hi]
  exact World.cell?_of_block (Below.heap_setCell w ⟨p, _, none⟩ v b (hx _ rfl))
theorem fromA_block {a : Option Addr} {cap k p : Nat} (hx : ∀ x, a = some x → x.block ≠ p) : ∀ x, fromA a cap k = some x → x.block ≠ p := by
  intro x h
  unfold fromA at h
  split at h
  · exact hx x h
  · cases a with
    | none => cases h
    | some y =>
      simp only [Option.map_some, Option.some.injEq] at h
      rw [← h]
      have e : (y.add k).block = y.block := by unfold Addr.add; split <;> rfl
      rw [e]
      exact hx y rfl
theorem dec_size (l : List Nat) (hl : ∀ c ∈ l, c < 256) (h : (dec 0 0 l).2.2 = 0) : (dec 0 0 l).2.1 ≤ l.length := by
  obtain ⟨v, _, _, _, _, h2, _⟩ := enc_dec 10 0 0 l (dec 0 0 l).1 (dec 0 0 l).2.1 rfl (by omega) hl (Prod.ext rfl (Prod.ext rfl h))
  omega

set_option maxRecDepth 100000 in
theorem inNum_err (p : Nat) (least most : Int) (l : List Nat) (e : Int) (he : e ≠ 0) (w : World) (h : InAt w p l e) :
    Calls Tryd.prog 40 #[.pointer (some ⟨p, 0, none⟩), .int .i64 least, .int .i64 most] w fun e' w' => e' = .returned (.int .i64 0) ∧ InAt w' p l e ∧ w.grownBy w' (some p) := by
  have H := Lib.hid h
  clear h
  have hb : (e == 0) = false := by rw [beq_eq_false_iff_ne]; exact he
  clear he
  go_enter Tryd.func40, Tryd.ntmps40
  go_wp2_with (go_at_call 41; refine (err_any p l e _ H.out).mono ?_; rintro e' w' ⟨rfl, rfl⟩)
  go_ret
  exact ⟨rfl, H.out, World.grownBy.refl _ _⟩

set_option maxRecDepth 100000 in
theorem inNum_ok (p : Nat) (least most : Int) (l : List Nat) (w : World) (h : InAt w p l 0) (g : (dec 0 0 l).2.2 = 0) (g1 : ¬ unz (dec 0 0 l).1 < least) (g2 : ¬ unz (dec 0 0 l).1 > most) :
    Calls Tryd.prog 40 #[.pointer (some ⟨p, 0, none⟩), .int .i64 least, .int .i64 most] w fun e' w' => e' = .returned (.int .i64 (unz (dec 0 0 l).1)) ∧ InAt w' p (l.drop (dec 0 0 l).2.1) 0 ∧ w.grownBy w' (some p) := by
  have H := Lib.hid h
  obtain ⟨a, len, cap, h0, h1, f0, f1, hb, hx, hh⟩ := h.cells
  have HBY := Lib.hid hb
  have HX := Lib.hid hx
  have HH := Lib.hid hh
  have hsz : (dec 0 0 l).2.1 ≤ len := by rw [← hb.1.1]; exact dec_size l hb.1.2.2.1 g
  have hm : len ≤ maxLen := hb.1.2.1
  clear h hb hx hh
  have hnum := number_any a len cap l hm w HBY.out.1
  have en : numOf (dec 0 0 l) = unz (dec 0 0 l).1 := by unfold numOf; rw [if_pos g]
  have ee : errOf (dec 0 0 l) = 0 := by unfold errOf; rw [g]; rfl
  rw [en, ee] at hnum
  clear en ee g
  have HN := Lib.hid hnum
  clear hnum
  generalize unz (dec 0 0 l).1 = N at *
  generalize (dec 0 0 l).2.1 = S at *
  have hsl := fun W => slice_from a len cap S hsz W
  go_enter Tryd.func40, Tryd.ntmps40
  go_wp2_with (first
    | (go_at_call 41; refine (err_any p l 0 _ H.out).mono ?_; rintro e' w' ⟨rfl, rfl⟩)
    | (go_at_call 54; refine HN.out.mono ?_; rintro e' w' ⟨rfl, rfl⟩))
  go_ret
  refine ⟨rfl, ⟨fromA a cap S, len - S, cap - S, heap_set0 HH.out, ⟨(HBY.out.1.drop cap S hsz HBY.out.2.1).aside (fromA_block HX.out), by have := HBY.out.2.1; omega, by have := HBY.out.2.2.1; omega, fun hz => ?_⟩, fromA_block HX.out⟩, grown_cell w p _ _⟩
  have hc := HBY.out.2.1
  cases a with
  | none =>
    have := HBY.out.2.2.2 rfl
    omega
  | some y =>
    unfold fromA at hz
    split at hz
    · cases hz
    · cases hz

set_option maxRecDepth 100000 in
/-- the error that is met -/
theorem inNum_bad (p : Nat) (least most : Int) (l : List Nat) (w : World) (h : InAt w p l 0) (E : Nat) (hE : E ≠ 0)
    (hgo : (dec 0 0 l).2.2 = E ∨ ((dec 0 0 l).2.2 = 0 ∧ (unz (dec 0 0 l).1 < least ∨ unz (dec 0 0 l).1 > most) ∧ E = 4)) :
    Calls Tryd.prog 40 #[.pointer (some ⟨p, 0, none⟩), .int .i64 least, .int .i64 most] w fun e' w' => e' = .returned (.int .i64 0) ∧ InAt w' p l E ∧ w.grownBy w' (some p) := by
  have H := Lib.hid h
  obtain ⟨a, len, cap, h0, h1, f0, f1, hb, hx, hh⟩ := h.cells
  have HBY := Lib.hid hb
  have HX := Lib.hid hx
  have HH := Lib.hid hh
  have hm : len ≤ maxLen := hb.1.2.1
  clear h hb hx hh
  have hnum := number_any a len cap l hm w HBY.out.1
  rcases hgo with hgo | ⟨hgo, hbig, rfl⟩
  · have ee : errOf (dec 0 0 l) = E := by unfold errOf; rw [hgo]
    rw [ee] at hnum
    generalize numOf (dec 0 0 l) = N at *
    generalize ((dec 0 0 l).2.1 : Int) = S at *
    clear ee hgo
    have HN := Lib.hid hnum
    clear hnum
    have hEb : ((E : Int) == 0) = false := by rw [beq_eq_false_iff_ne]; omega
    clear hE
    go_enter Tryd.func40, Tryd.ntmps40
    go_wp2_with (first
      | (go_at_call 41; refine (err_any p l 0 _ H.out).mono ?_; rintro e' w' ⟨rfl, rfl⟩)
      | (go_at_call 54; refine HN.out.mono ?_; rintro e' w' ⟨rfl, rfl⟩))
    go_ret
    exact ⟨rfl, ⟨a, len, cap, heap_set1 HH.out, ⟨HBY.out.1.aside HX.out, HBY.out.2⟩, HX.out⟩, grown_cell w p _ _⟩
  · have en : numOf (dec 0 0 l) = unz (dec 0 0 l).1 := by unfold numOf; rw [if_pos hgo]
    have ee : errOf (dec 0 0 l) = 0 := by unfold errOf; rw [hgo]; rfl
    rw [en, ee] at hnum
    clear en ee hgo hE
    have HN := Lib.hid hnum
    clear hnum
    generalize unz (dec 0 0 l).1 = N at *
    generalize (dec 0 0 l).2.1 = S at *
    rcases Int.lt_or_le N least with g1 | g1
    · clear hbig
      go_enter Tryd.func40, Tryd.ntmps40
      go_wp2_with (first
        | (go_at_call 41; refine (err_any p l 0 _ H.out).mono ?_; rintro e' w' ⟨rfl, rfl⟩)
        | (go_at_call 54; refine HN.out.mono ?_; rintro e' w' ⟨rfl, rfl⟩))
      all_goals go_ret
      all_goals exact ⟨rfl, ⟨a, len, cap, heap_set1 HH.out, ⟨HBY.out.1.aside HX.out, HBY.out.2⟩, HX.out⟩, grown_cell w p _ _⟩
    · have g2 : most < N := by omega
      clear hbig
      go_enter Tryd.func40, Tryd.ntmps40
      go_wp2_with (first
        | (go_at_call 41; refine (err_any p l 0 _ H.out).mono ?_; rintro e' w' ⟨rfl, rfl⟩)
        | (go_at_call 54; refine HN.out.mono ?_; rintro e' w' ⟨rfl, rfl⟩))
      all_goals go_ret
      all_goals exact ⟨rfl, ⟨a, len, cap, heap_set1 HH.out, ⟨HBY.out.1.aside HX.out, HBY.out.2⟩, HX.out⟩, grown_cell w p _ _⟩

/-- reading a number: the one contract -/
theorem inNum_only (p : Nat) (least most : Int) (l : List Nat) (e : Int) (w : World) (h : InAt w p l e) :
    Calls Tryd.prog 40 #[.pointer (some ⟨p, 0, none⟩), .int .i64 least, .int .i64 most] w fun e' w' => e' = .returned (.int .i64 (readNum least most l e).1) ∧ InAt w' p (readNum least most l e).2.1 (readNum least most l e).2.2 ∧ w.grownBy w' (some p) := by
  unfold readNum
  by_cases he : e = 0
  · subst he
    rw [if_neg (by decide)]
    by_cases g : (dec 0 0 l).2.2 = 0
    · rw [if_neg (by omega)]
      by_cases gb : unz (dec 0 0 l).1 < least ∨ unz (dec 0 0 l).1 > most
      · rw [if_pos gb]
        exact inNum_bad p least most l w h 4 (by decide) (.inr ⟨g, gb, rfl⟩)
      · rw [if_neg gb]
        exact inNum_ok p least most l w h g (fun x => gb (.inl x)) (fun x => gb (.inr x))
    · rw [if_pos g]
      exact inNum_bad p least most l w h _ g (.inl rfl)
  · rw [if_pos he]
    exact inNum_err p least most l e he w h

theorem inNum_any (p : Nat) (least most : Int) (l : List Nat) (e : Int) (w : World) (h : InAt w p l e) :
    Calls Tryd.prog 40 #[.pointer (some ⟨p, 0, none⟩), .int .i64 least, .int .i64 most] w fun e' w' => e' = .returned (.int .i64 (readNum least most l e).1) ∧ InAt w' p (readNum least most l e).2.1 (readNum least most l e).2.2 ∧ ∀ B, B ≤ p → Below B w w' := by
  refine (inNum_only p least most l e w h).mono ?_
  rintro e' w' ⟨rfl, hi, hg⟩
  exact ⟨rfl, hi, grown_below hg h.lt⟩

end Go.Proofs.YtkplkfhkablelaaDoor.Wr
