/-
  The contracts of the reference's (*In).Str and End.
-/
import Derived.Test.YtlknmnodchfkkaaWireP
namespace Go.Proofs.Ytlknmnodchfkkaa
open Go.ChangeShapes Go.WideShapes Go.ChangeAt Go.RowKit
set_option linter.unusedVariables false

theorem bytesOf_zero (s : ByteArray) : (s = ⟨#[]⟩) ↔ ¬ 0 < (bytesOf s).length := by
  rw [bytesOf_length]
  constructor
  · rintro rfl
    exact Nat.not_lt_zero 0
  · intro h
    apply ByteArray.ext
    exact Array.eq_empty_of_size_eq_zero (Nat.eq_zero_of_not_pos h)

set_option maxRecDepth 100000 in
theorem refEnd_any (p : Nat) (s : ByteArray) (e : Int) (w : World) (h : RefAt w p s e) :
    Calls Try.prog 23 #[.pointer (some ⟨p, 0, none⟩)] w fun e' w' => e' = .returned (.int .i64 (endE (bytesOf s) e)) ∧ RefAt w' p s (endE (bytesOf s) e) ∧ w.grownBy w' (some p) := by
  have H := Lib.hid h
  obtain ⟨h0, h1, f0, f1⟩ := h.cells
  clear h
  by_cases he : e = 0
  · subst he
    by_cases hz : s = ⟨#[]⟩
    · subst hz
      go_enter Try.func23, Try.ntmps23
      go_wp2
      go_ret
      exact ⟨rfl, H.out, World.grownBy.refl _ _⟩
    · have hE : endE (bytesOf s) 0 = 2 := by
        unfold endE failE
        rw [if_pos (by have := mt (bytesOf_zero s).2 hz; omega), if_pos rfl]
      have HE := Lib.hid hE
      have hem : s.toList.isEmpty = false := by
        rw [← decide_eq_emptyBytes s]
        exact decide_eq_false hz
      clear hE hz
      go_enter Try.func23, Try.ntmps23
      go_wp2
      go_ret
      exact ⟨ret_int HE.out.symm, by rw [HE.out]; exact set1 H.out, grown_cell w p _ _⟩
  · have heb : (e == 0) = false := by rw [beq_eq_false_iff_ne]; exact he
    have hE : endE (bytesOf s) e = e := by
      unfold endE failE
      rw [if_neg he]
      split <;> rfl
    have HE := Lib.hid hE
    clear hE he
    go_enter Try.func23, Try.ntmps23
    go_wp2
    go_ret
    exact ⟨ret_int HE.out.symm, by rw [HE.out]; exact H.out, World.grownBy.refl _ _⟩

theorem take_extract (s : ByteArray) (k : Nat) : bytesOf (s.extract 0 k) = (bytesOf s).take k := by
  unfold bytesOf
  rw [← List.map_take]
  congr 1
  simp

set_option maxRecDepth 100000 in
theorem refStrIn_any (p : Nat) (most : Int) (s : ByteArray) (e : Int) (w : World) (h : RefAt w p s e) (hs : s.size ≤ maxLen) :
    Calls Try.prog 22 #[.pointer (some ⟨p, 0, none⟩), .int .i64 most] w fun e' w' => e' = .returned (.string (bstr (readStr most (bytesOf s) e).1)) ∧ (∃ s', bytesOf s' = (readStr most (bytesOf s) e).2.1 ∧ RefAt w' p s' (readStr most (bytesOf s) e).2.2) ∧ w.grownBy w' (some p) := by
  have hnum := refIn_any p 0 most s e w h hs
  have hpos := readNum_pos most (bytesOf s) e
  unfold readStr
  generalize readNum 0 most (bytesOf s) e = r at *
  obtain ⟨n, l1, e1⟩ := r
  dsimp only at *
  have HN := Lib.hid hnum
  clear hnum h
  by_cases he : e1 = 0
  · subst he
    rw [if_neg (by decide)]
    by_cases hn : n > (l1.length : Int)
    · rw [if_pos hn]
      go_enter Try.func22, Try.ntmps22
      go_wp2_with (go_at_call 21; refine HN.out.mono ?_; rintro e2 w2 ⟨rfl, ⟨s2, hs2, hr⟩, hb⟩; obtain ⟨h0, h1, f0, f1⟩ := hr.cells; have hsz : l1.length = s2.size := (by rw [← hs2, bytesOf_length]); rw [hsz] at hn; have H := Lib.hid hr; have HB := Lib.hid hb; have HS2 := Lib.hid hs2; clear hr hb hs2 hsz)
      go_ret
      exact ⟨ret_string rfl, ⟨s2, HS2.out, set1 H.out⟩, World.grownBy.trans HB.out (grown_cell _ p _ _)⟩
    · rw [if_neg hn]
      obtain ⟨S, rfl⟩ := Int.eq_ofNat_of_zero_le hpos
      have hS : S ≤ l1.length := by omega
      have eS : ((S : Int)).toNat = S := rfl
      rw [eS]
      clear hn hpos eS
      go_enter Try.func22, Try.ntmps22
      go_wp2_with (go_at_call 21; refine HN.out.mono ?_; rintro e2 w2 ⟨rfl, ⟨s2, hs2, hr⟩, hb⟩; obtain ⟨h0, h1, f0, f1⟩ := hr.cells; have hsz : l1.length = s2.size := (by rw [← hs2, bytesOf_length]); rw [hsz] at hS; have H := Lib.hid hr; have HB := Lib.hid hb; have HS2 := Lib.hid hs2; clear hr hb hs2 hsz)
      go_ret
      refine ⟨ret_string ?_, ⟨s2.extract S s2.size, by rw [bytesOf_extract s2 S hS, HS2.out], set0 H.out⟩, World.grownBy.trans HB.out (grown_cell _ p _ _)⟩
      rw [← HS2.out, ← take_extract, bstr_bytesOf]
  · rw [if_pos he]
    have heb : (e1 == 0) = false := by rw [beq_eq_false_iff_ne]; exact he
    have HE : Hid (e1 ≠ 0) := he
    clear he
    go_enter Try.func22, Try.ntmps22
    go_wp2_with (go_at_call 21; refine HN.out.mono ?_; rintro e2 w2 ⟨rfl, ⟨s2, hs2, hr⟩, hb⟩; obtain ⟨h0, h1, f0, f1⟩ := hr.cells; have H := Lib.hid hr; have HB := Lib.hid hb; have HS2 := Lib.hid hs2; clear hr hb hs2)
    go_ret
    exact ⟨rfl, ⟨s2, HS2.out, H.out⟩, HB.out⟩

end Go.Proofs.Ytlknmnodchfkkaa
