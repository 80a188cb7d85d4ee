/-
  What the laws ask first: the three rows of bytes.
-/
import Derived.Test.YtkplkfhkablelaaDoorWireC
namespace Go.Proofs.YtkplkfhkablelaaDoor.Wr
open Go.ChangeShapes Go.WideShapes Go.ChangeAt Go.RowKit
set_option linter.unusedVariables false

theorem below_of_step {w w1 w2 : World} (h : Below w.heap.size w w1) (k : Below w1.heap.size w1 w2) : Below w.heap.size w w2 := Below.step k h
theorem text_of_own {w : World} {base : Nat} {v : Value} {l : List Nat} (h : w.ownsRow base 5 1 v l.length (vals l)) (hv : v ≠ .slice none 0 0) :
    ∃ g n cap, v = .slice (some ⟨g, 0, none⟩) n cap ∧ (convert 22 9 v).run Tryd.prog w = .ok (.string (bstr l)) w ∧ Hid (n = l.length) := by
  obtain ⟨g, cap, h1, h2⟩ := str_of_own h hv
  exact ⟨g, _, cap, h1, h2, Lib.hid rfl⟩

theorem bstr1 : bstr (code (-1)) = ⟨#[1]⟩ := by decide +kernel
theorem bstr2 : bstr (code ((2 : Nat) : Int) ++ bytesOf ⟨#[97, 98]⟩) = ⟨#[4, 97, 98]⟩ := by decide +kernel
theorem bstr3 : bstr (code 64) = ⟨#[128, 1]⟩ := by decide +kernel

end Go.Proofs.YtkplkfhkablelaaDoor.Wr
