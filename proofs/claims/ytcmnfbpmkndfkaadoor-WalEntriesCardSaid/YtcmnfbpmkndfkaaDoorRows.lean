/-
  NARROWER THAN 'FOR EVERY INPUT', by the rows' own cells (each row's printed sentence says how): WalEntries: laid · WalCrashes: laid · WalStale: laid.
  DERIVED. THE GIVEN ROWS OF THIS SEAT. 3 by the template 'for every input the law returns true; each argument reads behind the call as it read before'; 0 by the template 'total and deterministic' (their statements: YtcmnfbpmkndfkaaDoorTotals.lean).
  GIVEN WITH THE SEED: the statements are not yours to turn. If you find one false, say at which input.
  Laid BY PROGRAM, IN A SANDBOX (cutbox-rows.mjs): the forced cells as the released guide's own fill.sh prints them over the translation bf66c1af4435acb9… (all of the seat's roots in one cut). By AI agents, Wed Nov 11 2026. No macro, syntax, notation, axiom, sorry.
-/
import Derived.Test.YtcmnfbpmkndfkaaDoorChecked
import GoSem.Claim
import GoSem.ClaimJoined
import GoSem.ClaimMapViews
import Derived.JoinedTies
import Derived.KernelRfl
namespace Go.Proofs.YtcmnfbpmkndfkaaDoor
/- THE CELL 'sum', in the pinned program and in every row, IS THE sha256 OF THE DUMP (.gsa) THAT YtcmnfbpmkndfkaaDoorProg.lean LOADS. Nothing in Lean hashes anything: it is a label: what it is worth is what the hold of that sum in a sandbox is worth. -/
noncomputable def Tryd.pinned : Pinned := { name := "ytcmnfbpmkndfkaadoor", sum := "bf66c1af4435acb973137c4e1b6bd483d96e456f08592e9f18a403c57a787b5e", checked := Tryd.checked }
namespace Rows
def none {H : Type} : Left H := { results := [], args := [] }

/- WHAT THE LISTED PACKAGE-LEVEL VARIABLES READ AS WHEN THE CALL BEGINS. Each datum BY PROGRAM (the guide's laid-datum.mjs) off the statement by which the dump's own 'gosem.cut.vars' lays the variable. In a bare row this is a premise. The card (YtcmnfbpmkndfkaaDoorCards.lean) ties it to the program's text. -/
def laid_scriptor_crc_quarter {H : Type} : DataW H := .agg [.lit (.int .u32 0), .lit (.int .u32 274646895), .lit (.int .u32 549293790), .lit (.int .u32 820201905), .lit (.int .u32 1098587580), .lit (.int .u32 1361435347), .lit (.int .u32 1640403810), .lit (.int .u32 1905808397), .lit (.int .u32 2197175160), .lit (.int .u32 2460548119), .lit (.int .u32 2722870694), .lit (.int .u32 2987750089), .lit (.int .u32 3280807620), .lit (.int .u32 3553878443), .lit (.int .u32 3811616794), .lit (.int .u32 4084100981)]

/-- 'scriptorlaw05.WalEntries': WHATEVER THE INPUT: true; the input reads as it did. -/
def walEntriesSpec : ChangeSpec := { name := "walEntries", fn := fun _ => fun
  | [d] => { results := [.lit (.bool true)], args := [d] }
  | _ => none }
def walEntriesRow : OpenClaim := { program := "ytcmnfbpmkndfkaadoor", sum := "bf66c1af4435acb973137c4e1b6bd483d96e456f08592e9f18a403c57a787b5e", func := "scriptor/scriptorlaw05.WalEntries", spec := "walEntries", unfollowed := true, recurses := true, named := ["scriptor/crc.quarter"], apart := false, laid := [("scriptor/crc.quarter", laid_scriptor_crc_quarter)] }
def WalEntriesSaid : Prop := walEntriesRow.holds Tryd.pinned (OpenSpec.ofChange walEntriesSpec)

/-- ITS FALSE NEIGHBOUR: 'it returns false'. Refute it at one input. -/
def walEntriesWrong : ChangeSpec := { name := "walEntries", fn := fun _ => fun
  | [d] => { results := [.lit (.bool false)], args := [d] }
  | _ => none }
def WalEntriesWrongFalsely : Prop := walEntriesRow.holds Tryd.pinned (OpenSpec.ofChange walEntriesWrong)

/-- 'scriptorlaw05.WalCrashes': WHATEVER THE INPUT: true; the input reads as it did. -/
def walCrashesSpec : ChangeSpec := { name := "walCrashes", fn := fun _ => fun
  | [d] => { results := [.lit (.bool true)], args := [d] }
  | _ => none }
def walCrashesRow : OpenClaim := { program := "ytcmnfbpmkndfkaadoor", sum := "bf66c1af4435acb973137c4e1b6bd483d96e456f08592e9f18a403c57a787b5e", func := "scriptor/scriptorlaw05.WalCrashes", spec := "walCrashes", unfollowed := true, recurses := true, named := ["scriptor/crc.quarter"], apart := false, laid := [("scriptor/crc.quarter", laid_scriptor_crc_quarter)] }
def WalCrashesSaid : Prop := walCrashesRow.holds Tryd.pinned (OpenSpec.ofChange walCrashesSpec)

/-- ITS FALSE NEIGHBOUR: 'it returns false'. Refute it at one input. -/
def walCrashesWrong : ChangeSpec := { name := "walCrashes", fn := fun _ => fun
  | [d] => { results := [.lit (.bool false)], args := [d] }
  | _ => none }
def WalCrashesWrongFalsely : Prop := walCrashesRow.holds Tryd.pinned (OpenSpec.ofChange walCrashesWrong)

/-- 'scriptorlaw05.WalStale': WHATEVER THE INPUT: true; the input reads as it did. -/
def walStaleSpec : ChangeSpec := { name := "walStale", fn := fun _ => fun
  | [d1, d2] => { results := [.lit (.bool true)], args := [d1, d2] }
  | _ => none }
def walStaleRow : OpenClaim := { program := "ytcmnfbpmkndfkaadoor", sum := "bf66c1af4435acb973137c4e1b6bd483d96e456f08592e9f18a403c57a787b5e", func := "scriptor/scriptorlaw05.WalStale", spec := "walStale", unfollowed := true, recurses := true, named := ["scriptor/crc.quarter"], apart := false, laid := [("scriptor/crc.quarter", laid_scriptor_crc_quarter)] }
def WalStaleSaid : Prop := walStaleRow.holds Tryd.pinned (OpenSpec.ofChange walStaleSpec)

/-- ITS FALSE NEIGHBOUR: 'it returns false'. Refute it at one input. -/
def walStaleWrong : ChangeSpec := { name := "walStale", fn := fun _ => fun
  | [d1, d2] => { results := [.lit (.bool false)], args := [d1, d2] }
  | _ => none }
def WalStaleWrongFalsely : Prop := walStaleRow.holds Tryd.pinned (OpenSpec.ofChange walStaleWrong)

/- THE SECOND FORM. 'bulk': how many values and letters a reading holds, each counted each time it is reached (what is shared counts as often as it is met; a slice's spare places count too). A statement '..UptoSaid' is the law's where the arguments, and the package variables that the reading takes, are together of bulk at most 1048576: NARROWER than '..Said'. Prove '..Said' where nothing that the law and all that it calls make is longer than what came in: it says more and counts as full. Else prove '..UptoSaid'. A law counts once. -/
mutual
def uptoBulk {H : Type} : DataW H → Nat
  | .lit (.string bytes) => bytes.length + 1
  | .lit _ => 1
  | .nil => 1
  | .ptr d => uptoBulk d + 1
  | .slice elems spare => uptoBulkAll elems + uptoBulkAll spare + 1
  | .agg parts => uptoBulkAll parts + 1
  | .iface _ d => uptoBulk d + 1
  | .map entries => uptoBulkEntries entries + 1
  | .held _ => 1
def uptoBulkAll {H : Type} : List (DataW H) → Nat
  | [] => 0
  | d :: r => uptoBulk d + uptoBulkAll r
def uptoBulkEntries {H : Type} : List (Lit × DataW H) → Nat
  | [] => 0
  | x :: r => uptoBulkEntry x + uptoBulkEntries r
def uptoBulkEntry {H : Type} : Lit × DataW H → Nat
  | (.string bytes, d) => bytes.length + uptoBulk d + 1
  | (_, d) => uptoBulk d + 1
 end
def uptoSmall : (H : Type) → List (DataW H) → Bool := fun _ ds => decide (uptoBulkAll ds ≤ 1048576)
def OpenSpec.upto (s : _root_.Go.ChangeSpec) : _root_.Go.OpenSpec := { _root_.Go.OpenSpec.ofChange s with cond := some uptoSmall }

/-- 'scriptorlaw05.WalEntries', WHERE WHAT IT READS IS OF BULK AT MOST 1048576: true; the input reads as it did. -/
def walEntriesUptoRow : OpenClaim := { program := "ytcmnfbpmkndfkaadoor", sum := "bf66c1af4435acb973137c4e1b6bd483d96e456f08592e9f18a403c57a787b5e", func := "scriptor/scriptorlaw05.WalEntries", spec := "walEntries", unfollowed := true, recurses := true, named := ["scriptor/crc.quarter"], apart := false, laid := [("scriptor/crc.quarter", laid_scriptor_crc_quarter)], narrowed := true }
def WalEntriesUptoSaid : Prop := walEntriesUptoRow.holds Tryd.pinned (OpenSpec.upto walEntriesSpec)

/-- 'scriptorlaw05.WalCrashes', WHERE WHAT IT READS IS OF BULK AT MOST 1048576: true; the input reads as it did. -/
def walCrashesUptoRow : OpenClaim := { program := "ytcmnfbpmkndfkaadoor", sum := "bf66c1af4435acb973137c4e1b6bd483d96e456f08592e9f18a403c57a787b5e", func := "scriptor/scriptorlaw05.WalCrashes", spec := "walCrashes", unfollowed := true, recurses := true, named := ["scriptor/crc.quarter"], apart := false, laid := [("scriptor/crc.quarter", laid_scriptor_crc_quarter)], narrowed := true }
def WalCrashesUptoSaid : Prop := walCrashesUptoRow.holds Tryd.pinned (OpenSpec.upto walCrashesSpec)

/-- 'scriptorlaw05.WalStale', WHERE WHAT IT READS IS OF BULK AT MOST 1048576: true; the input reads as it did. -/
def walStaleUptoRow : OpenClaim := { program := "ytcmnfbpmkndfkaadoor", sum := "bf66c1af4435acb973137c4e1b6bd483d96e456f08592e9f18a403c57a787b5e", func := "scriptor/scriptorlaw05.WalStale", spec := "walStale", unfollowed := true, recurses := true, named := ["scriptor/crc.quarter"], apart := false, laid := [("scriptor/crc.quarter", laid_scriptor_crc_quarter)], narrowed := true }
def WalStaleUptoSaid : Prop := walStaleUptoRow.holds Tryd.pinned (OpenSpec.upto walStaleSpec)

end Rows
end Go.Proofs.YtcmnfbpmkndfkaaDoor
