/-
  The contracts of (*wire.In).Fail, End and Str.
-/
import Derived.Test.YtkplkfhkablelaaDoorWireM
namespace Go.Proofs.YtkplkfhkablelaaDoor.Wr
set_option maxRecDepth 100000
open Go.ChangeShapes Go.WideShapes Go.ChangeAt Go.RowKit
set_option linter.unusedVariables false

def failE (e x : Int) : Int := if e = 0 then x else e

theorem fail_only (p : Nat) (l : List Nat) (e x : Int) (w : World) (h : InAt w p l e) :
    Calls Tryd.prog 43 #[.pointer (some ⟨p, 0, none⟩), .int .i64 x] w fun e' w' => e' = .returned (.tuple #[]) ∧ InAt w' p l (failE e x) ∧ w.grownBy w' (some p) := by
  have H := Lib.hid h
  obtain ⟨a, len, cap, h0, h1, f0, f1, hb, hx, hh⟩ := h.cells
  have HBY := Lib.hid hb
  have HX := Lib.hid hx
  have HH := Lib.hid hh
  clear h hb hx hh
  by_cases he : e = 0
  · subst he
    go_enter Tryd.func43, Tryd.ntmps43
    go_wp2_with (go_at_call 41; refine (err_any p l 0 _ H.out).mono ?_; rintro e' w' ⟨rfl, rfl⟩)
    go_end0
    exact ⟨rfl, ⟨a, len, cap, heap_set1 HH.out, ⟨HBY.out.1.aside HX.out, HBY.out.2⟩, HX.out⟩, grown_cell w p _ _⟩
  · have heb : (e == 0) = false := by rw [beq_eq_false_iff_ne]; exact he
    have HE : Hid (failE e x = e) := if_neg he
    clear he
    go_enter Tryd.func43, Tryd.ntmps43
    go_wp2_with (go_at_call 41; refine (err_any p l e _ H.out).mono ?_; rintro e' w' ⟨rfl, rfl⟩)
    go_end0
    exact ⟨rfl, by rw [HE.out]; exact H.out, World.grownBy.refl _ _⟩

def endE (l : List Nat) (e : Int) : Int := if 0 < l.length then failE e 2 else e

theorem end_only (p : Nat) (l : List Nat) (e : Int) (w : World) (h : InAt w p l e) :
    Calls Tryd.prog 28 #[.pointer (some ⟨p, 0, none⟩)] w fun e' w' => e' = .returned (.int .i64 (endE l e)) ∧ InAt w' p l (endE l e) ∧ w.grownBy w' (some p) := by
  have H := Lib.hid h
  clear h
  by_cases hl : 0 < l.length
  · have HE : Hid (endE l e = failE e 2) := if_pos hl
    go_enter Tryd.func28, Tryd.ntmps28
    go_wp2_with (first
      | (go_at_call 42; refine (left_any p l e _ H.out).mono ?_; rintro e1 w1 ⟨rfl, rfl⟩)
      | (go_at_call 43; refine (fail_only p l e 2 _ H.out).mono ?_; rintro e2 w2 ⟨rfl, hi, hb⟩; have HI := Lib.hid hi; have HB := Lib.hid hb; clear hi hb)
      | (go_at_call 41; refine (err_any p l (failE e 2) _ HI.out).mono ?_; rintro e3 w3 ⟨rfl, rfl⟩))
    go_ret
    exact ⟨ret_int HE.out.symm, by rw [HE.out]; exact HI.out, HB.out⟩
  · have HE : Hid (endE l e = e) := if_neg hl
    go_enter Tryd.func28, Tryd.ntmps28
    go_wp2_with (first
      | (go_at_call 42; refine (left_any p l e _ H.out).mono ?_; rintro e1 w1 ⟨rfl, rfl⟩)
      | (go_at_call 41; refine (err_any p l e _ H.out).mono ?_; rintro e3 w3 ⟨rfl, rfl⟩))
    go_ret
    exact ⟨ret_int HE.out.symm, by rw [HE.out]; exact H.out, World.grownBy.refl _ _⟩

theorem conv_all {w : World} {a : Option Addr} {m : Nat} {l : List Nat} (cap : Nat) (h : ByteRow w a m l) :
    (convert 22 9 (.slice a m cap)).run Tryd.prog w = .ok (.string (bstr l)) w := by
  by_cases h0 : m = 0
  · subst h0
    obtain rfl : l = [] := List.eq_nil_of_length_eq_zero h.1
    rw [run_convert_bytes_string w 22 9 5 a 0 cap Tryd.underlying22 Tryd.underlying5 Tryd.underlying9]
    cases a with
    | none => rfl
    | some a => exact run_bytesToString w a 0 cap [] rfl
  · exact conv_row cap h (by omega)
theorem ret_string {s t : ByteArray} (h : s = t) : Ending.returned (.string s) = .returned (.string t) := by rw [h]
theorem fromA_none {a : Option Addr} {len cap k : Nat} (hk : k ≤ len) (hc : len ≤ cap) (hz : a = none → len = 0 ∧ cap = 0) (h : fromA a cap k = none) : len - k = 0 ∧ cap - k = 0 := by
  cases a with
  | none =>
    have := hz rfl
    omega
  | some y =>
    unfold fromA at h
    split at h
    · cases h
    · cases h

/-- reading a text of so many bytes at most -/
def readStr (most : Int) (l : List Nat) (e : Int) : List Nat × List Nat × Int :=
  if (readNum 0 most l e).2.2 ≠ 0 then ([], (readNum 0 most l e).2.1, (readNum 0 most l e).2.2)
  else if (readNum 0 most l e).1 > ((readNum 0 most l e).2.1.length : Int) then ([], (readNum 0 most l e).2.1, 3)
  else ((readNum 0 most l e).2.1.take (readNum 0 most l e).1.toNat, (readNum 0 most l e).2.1.drop (readNum 0 most l e).1.toNat, 0)

theorem readNum_pos (most : Int) (l : List Nat) (e : Int) : 0 ≤ (readNum 0 most l e).1 := by
  unfold readNum
  split
  · exact Int.le_refl _
  · split
    · exact Int.le_refl _
    · split
      · exact Int.le_refl _
      · show 0 ≤ unz _
        omega

set_option maxRecDepth 100000 in
theorem inStr_only (p : Nat) (most : Int) (l : List Nat) (e : Int) (w : World) (h : InAt w p l e) :
    Calls Tryd.prog 26 #[.pointer (some ⟨p, 0, none⟩), .int .i64 most] w fun e' w' => e' = .returned (.string (bstr (readStr most l e).1)) ∧ InAt w' p (readStr most l e).2.1 (readStr most l e).2.2 ∧ w.grownBy w' (some p) := by
  have hnum := inNum_only p 0 most l e w h
  have hpos := readNum_pos most l e
  unfold readStr
  generalize readNum 0 most l e = r at *
  obtain ⟨n, l1, e1⟩ := r
  dsimp only at *
  have HN := Lib.hid hnum
  clear hnum h
  by_cases he : e1 = 0
  · subst he
    rw [if_neg (by decide)]
    by_cases hn : n > (l1.length : Int)
    · rw [if_pos hn]
      go_enter Tryd.func26, Tryd.ntmps26
      go_wp2_with (first
        | (go_at_call 40; refine HN.out.mono ?_; rintro e2 w2 ⟨rfl, hi, hb⟩; obtain ⟨a, len, cap, h0, h1, f0, f1, hby, hx, hh⟩ := hi.cells; have hlen := hby.1.1; subst hlen; have HI := Lib.hid hi; have HBY := Lib.hid hby; have HX := Lib.hid hx; have HH := Lib.hid hh; have HB := Lib.hid hb; clear hi hb hby hx hh)
        | (go_at_call 41; refine (err_any p l1 0 _ HI.out).mono ?_; rintro e3 w3 ⟨rfl, rfl⟩))
      go_ret
      exact ⟨ret_string rfl, ⟨a, l1.length, cap, heap_set1 HH.out, ⟨HBY.out.1.aside HX.out, HBY.out.2⟩, HX.out⟩, World.grownBy.trans HB.out (grown_cell _ p _ _)⟩
    · rw [if_neg hn]
      obtain ⟨S, rfl⟩ := Int.eq_ofNat_of_zero_le hpos
      have hS : S ≤ l1.length := by omega
      have eS : ((S : Int)).toNat = S := rfl
      rw [eS]
      clear hn hpos eS
      go_enter Tryd.func26, Tryd.ntmps26
      go_wp2_with (first
        | (go_at_call 40; refine HN.out.mono ?_; rintro e2 w2 ⟨rfl, hi, hb⟩; obtain ⟨a, len, cap, h0, h1, f0, f1, hby, hx, hh⟩ := hi.cells; have hlen := hby.1.1; subst hlen; have HI := Lib.hid hi; have HBY := Lib.hid hby; have HX := Lib.hid hx; have HH := Lib.hid hh; have HB := Lib.hid hb; have hcv := conv_all cap (hby.1.take S hS); have hst := slice_to a l1.length cap S (Nat.le_trans hS hby.2.1) w2; have hsf := slice_from a l1.length cap S hS w2; clear hi hb hby hx hh)
        | (go_at_call 41; refine (err_any p l1 0 _ HI.out).mono ?_; rintro e3 w3 ⟨rfl, rfl⟩))
      go_ret
      refine ⟨ret_string rfl, ⟨fromA a cap S, l1.length - S, cap - S, heap_set0 HH.out, ⟨(HBY.out.1.drop cap S hS HBY.out.2.1).aside (fromA_block HX.out), by have := HBY.out.2.1; omega, by have := HBY.out.2.2.1; omega, fun hz => fromA_none hS HBY.out.2.1 HBY.out.2.2.2 hz⟩, fromA_block HX.out⟩, World.grownBy.trans HB.out (grown_cell _ p _ _)⟩
  · rw [if_pos he]
    have heb : (e1 == 0) = false := by rw [beq_eq_false_iff_ne]; exact he
    have HE : Hid (e1 ≠ 0) := he
    clear he
    go_enter Tryd.func26, Tryd.ntmps26
    go_wp2_with (first
      | (go_at_call 40; refine HN.out.mono ?_; rintro e2 w2 ⟨rfl, hi, hb⟩; have HI := Lib.hid hi; have HB := Lib.hid hb; clear hi hb)
      | (go_at_call 41; refine (err_any p l1 e1 _ HI.out).mono ?_; rintro e3 w3 ⟨rfl, rfl⟩))
    go_ret
    exact ⟨rfl, HI.out, HB.out⟩

theorem end_any (p : Nat) (l : List Nat) (e : Int) (w : World) (h : InAt w p l e) :
    Calls Tryd.prog 28 #[.pointer (some ⟨p, 0, none⟩)] w fun e' w' => e' = .returned (.int .i64 (endE l e)) ∧ InAt w' p l (endE l e) ∧ ∀ B, B ≤ p → Below B w w' := by
  refine (end_only p l e w h).mono ?_
  rintro e' w' ⟨rfl, hi, hg⟩
  exact ⟨rfl, hi, grown_below hg h.lt⟩
theorem inStr_any (p : Nat) (most : Int) (l : List Nat) (e : Int) (w : World) (h : InAt w p l e) :
    Calls Tryd.prog 26 #[.pointer (some ⟨p, 0, none⟩), .int .i64 most] w fun e' w' => e' = .returned (.string (bstr (readStr most l e).1)) ∧ InAt w' p (readStr most l e).2.1 (readStr most l e).2.2 ∧ ∀ B, B ≤ p → Below B w w' := by
  refine (inStr_only p most l e w h).mono ?_
  rintro e' w' ⟨rfl, hi, hg⟩
  exact ⟨rfl, hi, grown_below hg h.lt⟩

end Go.Proofs.YtkplkfhkablelaaDoor.Wr
