/-
  The law NumDigits.
-/
import Derived.Test.YtbbkdoblafjkjaaDoorDigD
import Derived.Lib.SmallJoins
namespace Go.Proofs.YtbbkdoblafjkjaaDoor
open Go.ChangeShapes Go.WideShapes Go.ChangeAt Go.RowKit
set_option linter.unusedVariables false

theorem read_text (n : Int) : readS (bytesOf ⟨(Lib.itoa (w63 n)).toArray⟩) = (w63 n, 0) := by
  have h := w63_bd n
  have e : bytesOf ⟨(Lib.itoa (w63 n)).toArray⟩ = nat (Lib.itoa (w63 n)) := by simp [bytesOf, nat]
  rw [e]
  exact read_itoa _ h.1 h.2
theorem itoa_len (n : Int) : (⟨(Lib.itoa (w63 n)).toArray⟩ : ByteArray).size ≤ 9223372036854775807 := by
  have hb := w63_bd n
  show (Lib.itoa (w63 n)).toArray.size ≤ _
  rw [List.size_toArray]
  unfold Lib.itoa
  split
  · rw [List.length_cons, Lib.decDigits_length]
    have := Lib.nDigits_le20 (w63 n).natAbs (by omega)
    omega
  · rw [Lib.decDigits_length]
    have := Lib.nDigits_le20 (w63 n).toNat (by omega)
    omega
set_option maxRecDepth 100000 in
theorem digits_walk (s : ByteArray) (n : Int) (w : World) (hs : s.size ≤ 9223372036854775807) (htab : Lib.TabIs Tryd.prog w "internal/strconv.uint64pow10" .u64 Lib.pow10Tab) :
    Calls Tryd.prog 3 #[.string s, .int .i64 n] w fun e w' => e = .returned (.bool true) ∧ Below w.heap.size w w' := by
  have HC := Lib.hid counts_any
  by_cases h2000 : s.size ≤ 2000
  · have HR := Lib.hid (fun w => read_any s w hs)
    have HF := Lib.hid (fun w => refRead_any s w hs)
    have HT := Lib.hid (text_any n w htab)
    have HB := Lib.hid (fun w => read_any ⟨(Lib.itoa (w63 n)).toArray⟩ w (itoa_len n))
    rw [read_text n] at HB
    have HG := Lib.hid (refText_any n)
    have HW := Lib.hid (wrap_any n)
    clear htab
    generalize (⟨(Lib.itoa (w63 n)).toArray⟩ : ByteArray) = t at *
    generalize w63 n = m at *
    obtain ⟨x, hx⟩ : ∃ x, x = (readS (bytesOf s)).1 := ⟨_, rfl⟩
    obtain ⟨y, hy⟩ : ∃ y, y = (readS (bytesOf s)).2 := ⟨_, rfl⟩
    rw [← hx, ← hy] at HR HF
    clear hx hy
    go_enter Tryd.func3, Tryd.ntmps3
    go_wp2_with (first
      | (go_at_call_of 6 s; refine (HR.out _).mono ?_; rintro e w1 ⟨rfl, rfl⟩)
      | (go_at_call 7; refine (HF.out _).mono ?_; rintro e w1 ⟨rfl, rfl⟩)
      | (go_at_call 8; refine HT.out.mono ?_; rintro e w2 ⟨rfl, hb2⟩; have HB2 := Lib.hid hb2; clear hb2)
      | (go_at_call_of 6 t; refine (HB.out _).mono ?_; rintro e w1 ⟨rfl, rfl⟩)
      | (go_at_call 5; refine (HC.out _).mono ?_; rintro e w1 ⟨rfl, rfl⟩)
      | (go_at_call 9; refine (HG.out _).mono ?_; rintro e w3 ⟨rfl, hb3⟩; have HB3 := Lib.hid hb3; clear hb3)
      | (go_at_call 10; refine (HW.out _).mono ?_; rintro e w1 ⟨rfl, rfl⟩))
    go_ret
    exact ⟨rfl, HB2.out.trans (HB3.out.mono HB2.out.size)⟩
  · go_enter Tryd.func3, Tryd.ntmps3
    go_wp2_with (go_at_call 5; refine (HC.out _).mono ?_; rintro e w1 ⟨rfl, rfl⟩)
    go_ret
    exact ⟨rfl, Below.refl _ _⟩
theorem numDigits_law {w : World} (s : ByteArray) (hs : s.size ≤ maxLen) (n : Int) (hn : (Lit.int .i64 n).wf = true) (ht : Lib.TabIs Tryd.prog w "internal/strconv.uint64pow10" .u64 Lib.pow10Tab) :
    Calls Tryd.prog 3 #[.string s, .int .i64 n] w fun e w' => e = .returned (.bool true) ∧ Below w.heap.size w w' :=
  digits_walk s n w (by unfold maxLen at hs; omega) ht
end Go.Proofs.YtbbkdoblafjkjaaDoor
