/-
  What the laws ask first: the three rows of bytes.
-/
import Derived.Test.YtlknmnodchfkkaaWireC
namespace Go.Proofs.Ytlknmnodchfkkaa
open Go.ChangeShapes Go.WideShapes Go.ChangeAt Go.RowKit
set_option linter.unusedVariables false

theorem below_of_step {w w1 w2 : World} (h : Below w.heap.size w w1) (k : Below w1.heap.size w1 w2) : Below w.heap.size w w2 := Below.step k h
theorem text_of_own {w : World} {base : Nat} {v : Value} {l : List Nat} (h : w.ownsRow base 5 1 v l.length (vals l)) (hv : v ≠ .slice none 0 0) :
    ∃ g n cap, v = .slice (some ⟨g, 0, none⟩) n cap ∧ (convert 23 9 v).run Try.prog w = .ok (.string (bstr l)) w ∧ Hid (n = l.length) := by
  obtain ⟨g, cap, h1, h2⟩ := str_of_own h hv
  exact ⟨g, _, cap, h1, h2, Lib.hid rfl⟩

theorem bstr1 : bstr (code (-1)) = ⟨#[1]⟩ := by decide +kernel
theorem bstr2 : bstr (code ((2 : Nat) : Int) ++ bytesOf ⟨#[97, 98]⟩) = ⟨#[4, 97, 98]⟩ := by decide +kernel
theorem bstr3 : bstr (code 64) = ⟨#[128, 1]⟩ := by decide +kernel

set_option maxRecDepth 100000 in
theorem wires_any (w : World) :
    Calls Try.prog 8 #[] w fun e w' => e = .returned (.bool true) ∧ Below w.heap.size w w' := by
  go_enter Try.func8, Try.ntmps8
  go_wp2_with (first
    | (go_at_call 9; refine (num_any _ (by omega) (by omega) _).mono ?_; rintro e w1 ⟨v, rfl, ho, hn, hb⟩; obtain ⟨g, len, cap, rfl, hcv, HE⟩ := text_of_own ho hn; have HB1 := Lib.hid hb; clear ho hn hb; simp only [bstr1, bstr3] at hcv)
    | (go_at_call 11; refine (str_any _ (by decide) _).mono ?_; rintro e w2 ⟨v, rfl, ho, hn, hb⟩; obtain ⟨g, len, cap, rfl, hcv, HE⟩ := text_of_own ho hn; have HB1 := Lib.hid hb; clear ho hn hb; rw [show ((⟨#[97, 98]⟩ : ByteArray).size) = 2 from rfl, bstr2] at hcv))
  go_ret
  rename_i w1a ga la ca HEa HBa hca gb lb cb hcb HEb HBb
  exact ⟨rfl, below_of_step (below_of_step HBa.out HBb.out) HB1.out⟩

end Go.Proofs.Ytlknmnodchfkkaa
