/-
  No cell of these rows narrows 'for every input' (looked for: loops, veiled, ifaces, maps, wideKeys, modest, calm, conditions, laid).
  DERIVED. THE GIVEN ROWS OF THIS SEAT. 8 by the template 'for every input the law returns true; each argument reads behind the call as it read before'; 0 by the template 'total and deterministic' (their statements: YtakbkfcnaalnkaaTotals.lean).
  GIVEN WITH THE SEED: the statements are not yours to turn. If you find one false, say at which input.
  Laid BY PROGRAM, IN A SANDBOX (cutbox-rows.mjs): the forced cells as the released guide's own fill.sh prints them over the translation 034f169a709e864a… (all of the seat's roots in one cut). By AI agents, Wed Nov 11 2026. No macro, syntax, notation, axiom, sorry.
-/
import Derived.Test.YtakbkfcnaalnkaaChecked
import GoSem.Claim
import GoSem.ClaimJoined
import GoSem.ClaimMapViews
import Derived.JoinedTies
import Derived.KernelRfl
namespace Go.Proofs.Ytakbkfcnaalnkaa
/- THE CELL 'sum', in the pinned program and in every row, IS THE sha256 OF THE DUMP (.gsa) THAT YtakbkfcnaalnkaaProg.lean LOADS. Nothing in Lean hashes anything: it is a label: what it is worth is what the hold of that sum in a sandbox is worth. -/
noncomputable def Try.pinned : Pinned := { name := "ytakbkfcnaalnkaa", sum := "034f169a709e864ad778edf9f4eddc69947bbdc88a3cc8e86e6cb706fe0618b6", checked := Try.checked }
namespace Rows
def none {H : Type} : Left H := { results := [], args := [] }

/-- 'scriptorlaw01.NumInts': WHATEVER THE INPUT: true; the input reads as it did. -/
def numIntsSpec : ChangeSpec := { name := "numInts", fn := fun _ => fun
  | [d1, d2] => { results := [.lit (.bool true)], args := [d1, d2] }
  | _ => none }
def numIntsRow : OpenClaim := { program := "ytakbkfcnaalnkaa", sum := "034f169a709e864ad778edf9f4eddc69947bbdc88a3cc8e86e6cb706fe0618b6", func := "scriptor/scriptorlaw01.NumInts", spec := "numInts", apart := false }
def NumIntsSaid : Prop := numIntsRow.holds Try.pinned (OpenSpec.ofChange numIntsSpec)

/-- ITS FALSE NEIGHBOUR: 'it returns false'. Refute it at one input. -/
def numIntsWrong : ChangeSpec := { name := "numInts", fn := fun _ => fun
  | [d1, d2] => { results := [.lit (.bool false)], args := [d1, d2] }
  | _ => none }
def NumIntsWrongFalsely : Prop := numIntsRow.holds Try.pinned (OpenSpec.ofChange numIntsWrong)

/-- 'scriptorlaw01.NumDivs': WHATEVER THE INPUT: true; the input reads as it did. -/
def numDivsSpec : ChangeSpec := { name := "numDivs", fn := fun _ => fun
  | [d1, d2] => { results := [.lit (.bool true)], args := [d1, d2] }
  | _ => none }
def numDivsRow : OpenClaim := { program := "ytakbkfcnaalnkaa", sum := "034f169a709e864ad778edf9f4eddc69947bbdc88a3cc8e86e6cb706fe0618b6", func := "scriptor/scriptorlaw01.NumDivs", spec := "numDivs", apart := false }
def NumDivsSaid : Prop := numDivsRow.holds Try.pinned (OpenSpec.ofChange numDivsSpec)

/-- ITS FALSE NEIGHBOUR: 'it returns false'. Refute it at one input. -/
def numDivsWrong : ChangeSpec := { name := "numDivs", fn := fun _ => fun
  | [d1, d2] => { results := [.lit (.bool false)], args := [d1, d2] }
  | _ => none }
def NumDivsWrongFalsely : Prop := numDivsRow.holds Try.pinned (OpenSpec.ofChange numDivsWrong)

/-- 'scriptorlaw01.NumRings': WHATEVER THE INPUT: true; the input reads as it did. -/
def numRingsSpec : ChangeSpec := { name := "numRings", fn := fun _ => fun
  | [d1, d2, d3] => { results := [.lit (.bool true)], args := [d1, d2, d3] }
  | _ => none }
def numRingsRow : OpenClaim := { program := "ytakbkfcnaalnkaa", sum := "034f169a709e864ad778edf9f4eddc69947bbdc88a3cc8e86e6cb706fe0618b6", func := "scriptor/scriptorlaw01.NumRings", spec := "numRings", apart := false }
def NumRingsSaid : Prop := numRingsRow.holds Try.pinned (OpenSpec.ofChange numRingsSpec)

/-- ITS FALSE NEIGHBOUR: 'it returns false'. Refute it at one input. -/
def numRingsWrong : ChangeSpec := { name := "numRings", fn := fun _ => fun
  | [d1, d2, d3] => { results := [.lit (.bool false)], args := [d1, d2, d3] }
  | _ => none }
def NumRingsWrongFalsely : Prop := numRingsRow.holds Try.pinned (OpenSpec.ofChange numRingsWrong)

/-- 'scriptorlaw01.NumFloats': WHATEVER THE INPUT: true; the input reads as it did. -/
def numFloatsSpec : ChangeSpec := { name := "numFloats", fn := fun _ => fun
  | [d1, d2] => { results := [.lit (.bool true)], args := [d1, d2] }
  | _ => none }
def numFloatsRow : OpenClaim := { program := "ytakbkfcnaalnkaa", sum := "034f169a709e864ad778edf9f4eddc69947bbdc88a3cc8e86e6cb706fe0618b6", func := "scriptor/scriptorlaw01.NumFloats", spec := "numFloats", inPlace := ["math.Float64frombits", "math.Float64bits", "math.sqrt"], apart := false }
def NumFloatsSaid : Prop := numFloatsRow.holds Try.pinned (OpenSpec.ofChange numFloatsSpec)

/-- ITS FALSE NEIGHBOUR: 'it returns false'. Refute it at one input. -/
def numFloatsWrong : ChangeSpec := { name := "numFloats", fn := fun _ => fun
  | [d1, d2] => { results := [.lit (.bool false)], args := [d1, d2] }
  | _ => none }
def NumFloatsWrongFalsely : Prop := numFloatsRow.holds Try.pinned (OpenSpec.ofChange numFloatsWrong)

/-- 'scriptorlaw01.NumOrders': WHATEVER THE INPUT: true; the input reads as it did. -/
def numOrdersSpec : ChangeSpec := { name := "numOrders", fn := fun _ => fun
  | [d1, d2, d3] => { results := [.lit (.bool true)], args := [d1, d2, d3] }
  | _ => none }
def numOrdersRow : OpenClaim := { program := "ytakbkfcnaalnkaa", sum := "034f169a709e864ad778edf9f4eddc69947bbdc88a3cc8e86e6cb706fe0618b6", func := "scriptor/scriptorlaw01.NumOrders", spec := "numOrders", inPlace := ["math.Float64frombits"], apart := false }
def NumOrdersSaid : Prop := numOrdersRow.holds Try.pinned (OpenSpec.ofChange numOrdersSpec)

/-- ITS FALSE NEIGHBOUR: 'it returns false'. Refute it at one input. -/
def numOrdersWrong : ChangeSpec := { name := "numOrders", fn := fun _ => fun
  | [d1, d2, d3] => { results := [.lit (.bool false)], args := [d1, d2, d3] }
  | _ => none }
def NumOrdersWrongFalsely : Prop := numOrdersRow.holds Try.pinned (OpenSpec.ofChange numOrdersWrong)

/-- 'scriptorlaw01.NumWholes': WHATEVER THE INPUT: true; the input reads as it did. -/
def numWholesSpec : ChangeSpec := { name := "numWholes", fn := fun _ => fun
  | [d1, d2] => { results := [.lit (.bool true)], args := [d1, d2] }
  | _ => none }
def numWholesRow : OpenClaim := { program := "ytakbkfcnaalnkaa", sum := "034f169a709e864ad778edf9f4eddc69947bbdc88a3cc8e86e6cb706fe0618b6", func := "scriptor/scriptorlaw01.NumWholes", spec := "numWholes", inPlace := ["math.Float64frombits", "math.Float64bits"], apart := false }
def NumWholesSaid : Prop := numWholesRow.holds Try.pinned (OpenSpec.ofChange numWholesSpec)

/-- ITS FALSE NEIGHBOUR: 'it returns false'. Refute it at one input. -/
def numWholesWrong : ChangeSpec := { name := "numWholes", fn := fun _ => fun
  | [d1, d2] => { results := [.lit (.bool false)], args := [d1, d2] }
  | _ => none }
def NumWholesWrongFalsely : Prop := numWholesRow.holds Try.pinned (OpenSpec.ofChange numWholesWrong)

/-- 'scriptorlaw01.NumAlgebra': WHATEVER THE INPUT: true; the input reads as it did. -/
def numAlgebraSpec : ChangeSpec := { name := "numAlgebra", fn := fun _ => fun
  | [d1, d2] => { results := [.lit (.bool true)], args := [d1, d2] }
  | _ => none }
def numAlgebraRow : OpenClaim := { program := "ytakbkfcnaalnkaa", sum := "034f169a709e864ad778edf9f4eddc69947bbdc88a3cc8e86e6cb706fe0618b6", func := "scriptor/scriptorlaw01.NumAlgebra", spec := "numAlgebra", inPlace := ["math.Float64frombits", "math.Float64bits"], apart := false }
def NumAlgebraSaid : Prop := numAlgebraRow.holds Try.pinned (OpenSpec.ofChange numAlgebraSpec)

/-- ITS FALSE NEIGHBOUR: 'it returns false'. Refute it at one input. -/
def numAlgebraWrong : ChangeSpec := { name := "numAlgebra", fn := fun _ => fun
  | [d1, d2] => { results := [.lit (.bool false)], args := [d1, d2] }
  | _ => none }
def NumAlgebraWrongFalsely : Prop := numAlgebraRow.holds Try.pinned (OpenSpec.ofChange numAlgebraWrong)

/-- 'scriptorlaw01.NumZeros': WHATEVER THE INPUT: true; the input reads as it did. -/
def numZerosSpec : ChangeSpec := { name := "numZeros", fn := fun _ => fun
  | [d] => { results := [.lit (.bool true)], args := [d] }
  | _ => none }
def numZerosRow : OpenClaim := { program := "ytakbkfcnaalnkaa", sum := "034f169a709e864ad778edf9f4eddc69947bbdc88a3cc8e86e6cb706fe0618b6", func := "scriptor/scriptorlaw01.NumZeros", spec := "numZeros", inPlace := ["math.Float64bits", "math.Float64frombits", "math.sqrt"], apart := false }
def NumZerosSaid : Prop := numZerosRow.holds Try.pinned (OpenSpec.ofChange numZerosSpec)

/-- ITS FALSE NEIGHBOUR: 'it returns false'. Refute it at one input. -/
def numZerosWrong : ChangeSpec := { name := "numZeros", fn := fun _ => fun
  | [d] => { results := [.lit (.bool false)], args := [d] }
  | _ => none }
def NumZerosWrongFalsely : Prop := numZerosRow.holds Try.pinned (OpenSpec.ofChange numZerosWrong)

/- THE SECOND FORM. 'bulk': how many values and letters a reading holds, each counted each time it is reached (what is shared counts as often as it is met; a slice's spare places count too). A statement '..UptoSaid' is the law's where the arguments, and the package variables that the reading takes, are together of bulk at most 1048576: NARROWER than '..Said'. Prove '..Said' where nothing that the law and all that it calls make is longer than what came in: it says more and counts as full. Else prove '..UptoSaid'. A law counts once. -/
mutual
def uptoBulk {H : Type} : DataW H → Nat
  | .lit (.string bytes) => bytes.length + 1
  | .lit _ => 1
  | .nil => 1
  | .ptr d => uptoBulk d + 1
  | .slice elems spare => uptoBulkAll elems + uptoBulkAll spare + 1
  | .agg parts => uptoBulkAll parts + 1
  | .iface _ d => uptoBulk d + 1
  | .map entries => uptoBulkEntries entries + 1
  | .held _ => 1
def uptoBulkAll {H : Type} : List (DataW H) → Nat
  | [] => 0
  | d :: r => uptoBulk d + uptoBulkAll r
def uptoBulkEntries {H : Type} : List (Lit × DataW H) → Nat
  | [] => 0
  | x :: r => uptoBulkEntry x + uptoBulkEntries r
def uptoBulkEntry {H : Type} : Lit × DataW H → Nat
  | (.string bytes, d) => bytes.length + uptoBulk d + 1
  | (_, d) => uptoBulk d + 1
 end
def uptoSmall : (H : Type) → List (DataW H) → Bool := fun _ ds => decide (uptoBulkAll ds ≤ 1048576)
def OpenSpec.upto (s : _root_.Go.ChangeSpec) : _root_.Go.OpenSpec := { _root_.Go.OpenSpec.ofChange s with cond := some uptoSmall }

/-- 'scriptorlaw01.NumInts', WHERE WHAT IT READS IS OF BULK AT MOST 1048576: true; the input reads as it did. -/
def numIntsUptoRow : OpenClaim := { program := "ytakbkfcnaalnkaa", sum := "034f169a709e864ad778edf9f4eddc69947bbdc88a3cc8e86e6cb706fe0618b6", func := "scriptor/scriptorlaw01.NumInts", spec := "numInts", apart := false, narrowed := true }
def NumIntsUptoSaid : Prop := numIntsUptoRow.holds Try.pinned (OpenSpec.upto numIntsSpec)

/-- 'scriptorlaw01.NumDivs', WHERE WHAT IT READS IS OF BULK AT MOST 1048576: true; the input reads as it did. -/
def numDivsUptoRow : OpenClaim := { program := "ytakbkfcnaalnkaa", sum := "034f169a709e864ad778edf9f4eddc69947bbdc88a3cc8e86e6cb706fe0618b6", func := "scriptor/scriptorlaw01.NumDivs", spec := "numDivs", apart := false, narrowed := true }
def NumDivsUptoSaid : Prop := numDivsUptoRow.holds Try.pinned (OpenSpec.upto numDivsSpec)

/-- 'scriptorlaw01.NumRings', WHERE WHAT IT READS IS OF BULK AT MOST 1048576: true; the input reads as it did. -/
def numRingsUptoRow : OpenClaim := { program := "ytakbkfcnaalnkaa", sum := "034f169a709e864ad778edf9f4eddc69947bbdc88a3cc8e86e6cb706fe0618b6", func := "scriptor/scriptorlaw01.NumRings", spec := "numRings", apart := false, narrowed := true }
def NumRingsUptoSaid : Prop := numRingsUptoRow.holds Try.pinned (OpenSpec.upto numRingsSpec)

/-- 'scriptorlaw01.NumFloats', WHERE WHAT IT READS IS OF BULK AT MOST 1048576: true; the input reads as it did. -/
def numFloatsUptoRow : OpenClaim := { program := "ytakbkfcnaalnkaa", sum := "034f169a709e864ad778edf9f4eddc69947bbdc88a3cc8e86e6cb706fe0618b6", func := "scriptor/scriptorlaw01.NumFloats", spec := "numFloats", inPlace := ["math.Float64frombits", "math.Float64bits", "math.sqrt"], apart := false, narrowed := true }
def NumFloatsUptoSaid : Prop := numFloatsUptoRow.holds Try.pinned (OpenSpec.upto numFloatsSpec)

/-- 'scriptorlaw01.NumOrders', WHERE WHAT IT READS IS OF BULK AT MOST 1048576: true; the input reads as it did. -/
def numOrdersUptoRow : OpenClaim := { program := "ytakbkfcnaalnkaa", sum := "034f169a709e864ad778edf9f4eddc69947bbdc88a3cc8e86e6cb706fe0618b6", func := "scriptor/scriptorlaw01.NumOrders", spec := "numOrders", inPlace := ["math.Float64frombits"], apart := false, narrowed := true }
def NumOrdersUptoSaid : Prop := numOrdersUptoRow.holds Try.pinned (OpenSpec.upto numOrdersSpec)

/-- 'scriptorlaw01.NumWholes', WHERE WHAT IT READS IS OF BULK AT MOST 1048576: true; the input reads as it did. -/
def numWholesUptoRow : OpenClaim := { program := "ytakbkfcnaalnkaa", sum := "034f169a709e864ad778edf9f4eddc69947bbdc88a3cc8e86e6cb706fe0618b6", func := "scriptor/scriptorlaw01.NumWholes", spec := "numWholes", inPlace := ["math.Float64frombits", "math.Float64bits"], apart := false, narrowed := true }
def NumWholesUptoSaid : Prop := numWholesUptoRow.holds Try.pinned (OpenSpec.upto numWholesSpec)

/-- 'scriptorlaw01.NumAlgebra', WHERE WHAT IT READS IS OF BULK AT MOST 1048576: true; the input reads as it did. -/
def numAlgebraUptoRow : OpenClaim := { program := "ytakbkfcnaalnkaa", sum := "034f169a709e864ad778edf9f4eddc69947bbdc88a3cc8e86e6cb706fe0618b6", func := "scriptor/scriptorlaw01.NumAlgebra", spec := "numAlgebra", inPlace := ["math.Float64frombits", "math.Float64bits"], apart := false, narrowed := true }
def NumAlgebraUptoSaid : Prop := numAlgebraUptoRow.holds Try.pinned (OpenSpec.upto numAlgebraSpec)

/-- 'scriptorlaw01.NumZeros', WHERE WHAT IT READS IS OF BULK AT MOST 1048576: true; the input reads as it did. -/
def numZerosUptoRow : OpenClaim := { program := "ytakbkfcnaalnkaa", sum := "034f169a709e864ad778edf9f4eddc69947bbdc88a3cc8e86e6cb706fe0618b6", func := "scriptor/scriptorlaw01.NumZeros", spec := "numZeros", inPlace := ["math.Float64bits", "math.Float64frombits", "math.sqrt"], apart := false, narrowed := true }
def NumZerosUptoSaid : Prop := numZerosUptoRow.holds Try.pinned (OpenSpec.upto numZerosSpec)

end Rows
end Go.Proofs.Ytakbkfcnaalnkaa
