/-
  The law NumReads.
-/
import Derived.Test.YtbbkdoblafjkjaaDoorRdE
namespace Go.Proofs.YtbbkdoblafjkjaaDoor
open Go.ChangeShapes Go.WideShapes Go.ChangeAt Go.RowKit
set_option linter.unusedVariables false

theorem cell_in {w : World} {a : Addr} {v : Value} (h : w.cell? a = some v) : a.block < w.heap.size := by
  cases hk : w.heap[a.block]? with
  | none => unfold World.cell? at h; rw [hk] at h; cases h
  | some o => exact (Array.getElem?_eq_some_iff.1 hk).1
theorem cell_later {w w' : World} {a : Addr} {v : Value} (h : w.cell? a = some v) (hb : Below w.heap.size w w') : w'.cell? a = some v := by
  rw [hb.cell (cell_in h)]; exact h
set_option maxRecDepth 100000 in
theorem reads_walk (s : ByteArray) (x : Nat) (w : World) (hx : x < 18446744073709551616) (ht : w.cell? ⟨4, 15, none⟩ = some (.int .u8 4)) (mx : Int) (hmx : w.cell? ⟨1, 0, none⟩ = some (.int .i64 mx)) :
    Calls Tryd.prog 4 #[.string s, .int .u64 (x : Int)] w fun e w' => e = .returned (.bool true) ∧ Below w.heap.size w w' := by
  have HC := Lib.hid counts_any
  by_cases h2000 : s.size ≤ 2000
  · have HR := Lib.hid (readFloat_any s w h2000 mx hmx)
    have HF := Lib.hid (fun w => refReadFloat_any s w h2000)
    have HB := Lib.hid (fun w1 h => bits_any x hx w1 (cell_later ht h))
    have HG := Lib.hid (fun w => refBits_any x hx w)
    clear ht hmx
    obtain ⟨a, ha⟩ : ∃ a, a = (rdS (bytesOf s)).1 := ⟨_, rfl⟩
    obtain ⟨b, hb⟩ : ∃ b, b = (rdS (bytesOf s)).2 := ⟨_, rfl⟩
    rw [← ha, ← hb] at HR HF
    clear ha hb
    generalize bitsT x = T at *
    go_enter Tryd.func4, Tryd.ntmps4
    go_wp2_with (first
      | (go_at_call 11; refine HR.out.mono ?_; rintro e w1 ⟨rfl, hb1⟩; have HB1 := Lib.hid hb1; clear hb1)
      | (go_at_call 12; refine (HF.out _).mono ?_; rintro e w2 ⟨rfl, rfl⟩)
      | (go_at_call 5; refine (HC.out _).mono ?_; rintro e w2 ⟨rfl, rfl⟩)
      | (go_at_call 13; refine (HB.out _ HB1.out).mono ?_; rintro e w2 ⟨rfl, hb2⟩; have HB2 := Lib.hid hb2; clear hb2)
      | (go_at_call 14; refine (HG.out _).mono ?_; rintro e w3 ⟨rfl, hb3⟩; have HB3 := Lib.hid hb3; clear hb3))
    go_ret
    exact ⟨rfl, (HB1.out.trans (HB2.out.mono HB1.out.size)).trans (HB3.out.mono (Nat.le_trans HB1.out.size HB2.out.size))⟩
  · go_enter Tryd.func4, Tryd.ntmps4
    go_wp2_with (go_at_call 5; refine (HC.out _).mono ?_; rintro e w1 ⟨rfl, rfl⟩)
    go_ret
    exact ⟨rfl, Below.refl _ _⟩
theorem numReads_law {w : World} (s : ByteArray) (hs : s.size ≤ maxLen) (x : Int) (hx : (Lit.int .u64 x).wf = true) (ht : w.cell? ⟨4, 15, none⟩ = some (.int .u8 4) ∧ ∃ mx, w.cell? ⟨1, 0, none⟩ = some (.int .i64 mx)) :
    Calls Tryd.prog 4 #[.string s, .int .u64 x] w fun e w' => e = .returned (.bool true) ∧ Below w.heap.size w w' := by
  have hb : 0 ≤ x ∧ x ≤ 18446744073709551615 := by simpa [Lit.wf, IntKind.min, IntKind.max, IntKind.signed, IntKind.bits] using hx
  obtain ⟨n, rfl⟩ : ∃ n : Nat, x = n := ⟨x.toNat, by omega⟩
  obtain ⟨mx, hmx⟩ := ht.2
  exact reads_walk s n w (by omega) ht.1 mx hmx
end Go.Proofs.YtbbkdoblafjkjaaDoor
