/-
  The contracts of slices.Clone and wire.Open.
-/
import Derived.Test.YtkplkfhkablelaaDoorWireI
namespace Go.Proofs.YtkplkfhkablelaaDoor.Wr
set_option maxRecDepth 100000
open Go.ChangeShapes Go.WideShapes Go.ChangeAt Go.RowKit
set_option linter.unusedVariables false

theorem ByteRow.nil (w : World) (a : Option Addr) : ByteRow w a 0 [] := ⟨rfl, Nat.zero_le _, (by intro c hc; cases hc), (by intro h; omega)⟩
theorem cell_lt {w : World} {a : Addr} {v : Value} (h : w.cell? a = some v) : a.block < w.heap.size := by
  rcases Nat.lt_or_ge a.block w.heap.size with h' | h'
  · exact h'
  · simp [World.cell?, Array.getElem?_eq_none h'] at h
theorem ByteRow.below {w w' : World} {a : Option Addr} {n : Nat} {l : List Nat} (h : ByteRow w a n l) (hb : Below w.heap.size w w') : ByteRow w' a n l := by
  obtain ⟨h1, h2, h3, h4⟩ := h
  refine ⟨h1, h2, h3, fun h0 => ?_⟩
  obtain ⟨b, o, rfl, hc⟩ := h4 h0
  exact ⟨b, o, rfl, fun i hi => by rw [hb.cell (cell_lt (hc i hi))]; exact hc i hi⟩

set_option maxRecDepth 100000 in
theorem clone_some (x : Addr) (len cap : Nat) (l : List Nat) (w : World) (hr : ByteRow w (some x) len l) (hl : len ≤ 70368744177664) :
    Calls Tryd.prog 37 #[.slice (some x) len cap] w fun e w' => ∃ v, e = .returned v ∧ w'.ownsRow w.heap.size 5 1 v l.length (vals l) ∧ v ≠ .slice none 0 0 ∧ Below w.heap.size w w' := by
  obtain ⟨i0, hi, hz0, hz1, hz2⟩ := info_parts info5
  have hne : ∀ W, (binOp .eql 22 (.slice (some x) len cap) (.slice none 0 0)).run Tryd.prog W = .ok (.bool false) W := by
    intro W
    rfl
  have hsrc : ∀ (W : World), Below w.heap.size w W → ∀ (j : Nat) (u : Value), (vals l)[j]? = some u → W.cell? (x.add j) = some u := by
    intro W hB j u hj
    obtain ⟨h1, h2, h3, h4⟩ := hr.below hB
    have hj2 : j < l.length := by
      rcases Nat.lt_or_ge j l.length with h | h
      · exact h
      · rw [List.getElem?_eq_none (by rw [vals_length]; exact h)] at hj
        cases hj
    obtain ⟨b, o, hx, hc⟩ := h4 (by omega)
    obtain rfl : x = ⟨b, o, none⟩ := by simpa using hx
    rw [vals_get l j hj2] at hj
    have hu : u = .int .u8 ((l.getD j 0 : Nat) : Int) := by injection hj with h; exact h.symm
    rw [hu]
    have e1 : (⟨b, o, none⟩ : Addr).add j = ⟨b, o + j, none⟩ := by simp [Addr.add]
    rw [e1]
    exact hc j (by omega)
  have HSRC := Lib.hid hsrc
  have hlen := hr.1
  clear hsrc hr
  subst hlen
  have hown0 : (w.alloc (.cells #[] 5)).ownsRow w.heap.size 5 1 (.slice (some ⟨w.heap.size, 0, none⟩) 0 0) 0 [] := by
    refine ⟨rfl, .inr ⟨w.heap.size, 0, #[], rfl, Nat.le_refl _, ?_, Nat.le_refl _, Nat.zero_le _, rfl, rfl⟩⟩
    show (w.heap.push _)[w.heap.size]? = _
    simp
  have HO := Lib.hid hown0
  clear hown0
  go_enter Tryd.func37, Tryd.ntmps37
  go_wp2_with (at_builtin; refine wpList_append_own _ rfl (.tmp 5) (.tmp 6) 22 rfl w.heap.size 5 i0 (.int .u8 0) 1 1 Tryd.underlying22 hi hz0 hz1 hz2 rfl (by decide) _ 0 [] rfl HO.out x l.length cap (vals l) rfl ?c1 ?c2 ?c3 ?c4 ?c5 ?c6 ?_)
  case c1 => rw [vals_length, Nat.mul_one]
  case c2 => exact HSRC.out _ (Below.alloc' (Below.refl _ _) _)
  case c3 => exact vals_one _
  case c4 => unfold maxLen; omega
  case c5 => omega
  case c6 => simp
  intro v' w1 hown hgrow hnil
  have bel : Below w.heap.size w w1 := (Below.alloc' (Below.refl _ w) _).grown hgrow (by simp) (fun k hk => own_base HO.out hk)
  have hn2 : v' ≠ .slice none 0 0 := by simpa using hnil
  have HO2 := Lib.hid hown
  have HN := Lib.hid hn2
  have HB := Lib.hid bel
  clear hown hgrow hnil bel hn2
  go_wp2_with fail
  go_ret
  exact ⟨v', rfl, HO2.out, HN.out, HB.out⟩

/-- a slice of bytes, with room for its growing -/
def Bytes (w : World) (a : Option Addr) (len cap : Nat) (l : List Nat) : Prop := ByteRow w a len l ∧ len ≤ cap ∧ cap ≤ maxLen ∧ (a = none → len = 0 ∧ cap = 0)

theorem bytes_of_own {w : World} {base : Nat} {v : Value} {l : List Nat} (h : w.ownsRow base 5 1 v l.length (vals l)) (hl : ∀ c ∈ l, c < 256) (hm : l.length ≤ maxLen) :
    ∃ a cap, v = .slice a l.length cap ∧ Bytes w a l.length cap l ∧ ∀ x, a = some x → base ≤ x.block ∧ x.block < w.heap.size := by
  obtain ⟨h1, h2⟩ := h
  rcases h2 with ⟨rfl, h2⟩ | ⟨g, cap, cur, rfl, hb, hh, hn, hmx, hs, ht⟩
  · obtain rfl : l = [] := List.eq_nil_of_length_eq_zero h2
    exact ⟨none, 0, rfl, ⟨ByteRow.nil w none, Nat.le_refl _, Nat.zero_le _, fun _ => ⟨rfl, rfl⟩⟩, (fun x h => by cases h)⟩
  · refine ⟨some ⟨g, 0, none⟩, cap, rfl, ⟨⟨rfl, hm, hl, fun _ => ⟨g, 0, rfl, fun i hi => ?_⟩⟩, hn, hmx, fun h => by cases h⟩, fun x hx => ?_⟩
    · have e2 := vals_get l i hi
      rw [← ht, List.getElem?_take, if_pos (by omega)] at e2
      rw [Nat.zero_add]
      simp only [World.cell?, hh]
      simpa using e2
    · cases hx
      refine ⟨hb, ?_⟩
      rcases Nat.lt_or_ge g w.heap.size with h | h
      · exact h
      · rw [Array.getElem?_eq_none h] at hh
        cases hh

/-- slices.Clone -/
theorem clone_any (a : Option Addr) (len cap : Nat) (l : List Nat) (w : World) (hr : Bytes w a len cap l) (hl : len ≤ 70368744177664) :
    Calls Tryd.prog 37 #[.slice a len cap] w fun e w' => ∃ a2 cap2, e = .returned (.slice a2 len cap2) ∧ Bytes w' a2 len cap2 l ∧ (∀ x, a2 = some x → w.heap.size ≤ x.block ∧ x.block < w'.heap.size) ∧ Below w.heap.size w w' := by
  obtain ⟨hb, hc, hm, hz⟩ := hr
  cases a with
  | some x =>
    refine (clone_some x len cap l w hb hl).mono ?_
    rintro e w' ⟨v, rfl, ho, hn, hB⟩
    obtain ⟨a2, cap2, rfl, h1, h2⟩ := bytes_of_own ho hb.2.2.1 (by rw [hb.1]; exact hb.2.1)
    rw [hb.1] at h1 ⊢
    exact ⟨a2, cap2, rfl, h1, h2, hB⟩
  | none =>
    obtain ⟨rfl, rfl⟩ := hz rfl
    obtain rfl : l = [] := List.eq_nil_of_length_eq_zero hb.1
    have hne : ∀ W, (binOp .eql 22 (.slice none 0 0) (.slice none 0 0)).run Tryd.prog W = .ok (.bool true) W := fun _ => rfl
    go_enter Tryd.func37, Tryd.ntmps37
    go_wp2
    go_ret
    exact ⟨none, 0, rfl, ⟨ByteRow.nil w none, Nat.le_refl _, Nat.zero_le _, fun _ => ⟨rfl, rfl⟩⟩, (fun x h => by cases h), Below.refl _ _⟩

/-- what is read from: the bytes that are left, the first error -/
def InAt (w : World) (p : Nat) (l : List Nat) (e : Int) : Prop :=
  ∃ a len cap, w.heap[p]? = some (.cells #[.slice a len cap, .int .i64 e] 66) ∧ Bytes w a len cap l ∧ ∀ x, a = some x → x.block ≠ p

theorem Bytes.below {w w' : World} {a : Option Addr} {len cap : Nat} {l : List Nat} (h : Bytes w a len cap l) (hb : Below w.heap.size w w') : Bytes w' a len cap l := ⟨h.1.below hb, h.2⟩

theorem open_any (a : Option Addr) (len cap : Nat) (l : List Nat) (w : World) (hr : Bytes w a len cap l) (hl : len ≤ 70368744177664) :
    Calls Tryd.prog 24 #[.slice a len cap] w fun e w' => ∃ p, e = .returned (.pointer (some ⟨p, 0, none⟩)) ∧ InAt w' p l 0 ∧ w.heap.size ≤ p ∧ Below w.heap.size w w' := by
  have HR := Lib.hid hr
  have hlen := hr.1.1
  clear hr
  go_enter Tryd.func24, Tryd.ntmps24
  go_wp2_with (go_at_call 37; refine (clone_any a len cap l _ HR.out hl).mono ?_; rintro e w1 ⟨a2, cap2, rfl, hb, hx, hB⟩; have HBY := Lib.hid hb; have HX := Lib.hid hx; have HB := Lib.hid hB; clear hb hx hB)
  go_ret
  refine ⟨w1.heap.size, rfl, ⟨a2, len, cap2, ?_, HBY.out.below (Below.alloc' (Below.refl _ _) _), fun x hx => ?_⟩, HB.out.size, Below.alloc' HB.out _⟩
  · show (w1.heap.push _)[w1.heap.size]? = _
    simp
  · have := (HX.out x hx).2
    omega

end Go.Proofs.YtkplkfhkablelaaDoor.Wr
