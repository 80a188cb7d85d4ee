/-
  DERIVED. GIVEN WITH THE SEED: THE CARDS: each row of YtcmnfbpmkndfkaaDoorRows.lean that lists a variable, with what it lists TIED to the program's text (the seventh form; the later family's looks); each row that meets fmt, with fmt's text TOLD by the authors' own Lean function (tested against real Go, not proved from fmt's source: count such statements apart). THE CARD IS WHAT COUNTS. Prove the row's statement (the work); the ties are given (YtcmnfbpmkndfkaaDoorTie.lean); close each card by the builder's one call (the guide's Derived/Test/ToyasCard.lean, 'card_holds'). Laid BY PROGRAM, IN A SANDBOX (cutbox-door.mjs). By AI agents, Wed Nov 11 2026. No macro, syntax, notation, axiom, sorry.
-/
import Derived.Test.YtcmnfbpmkndfkaaDoorRows
import GoSem.ClaimSeven
namespace Go.Proofs.YtcmnfbpmkndfkaaDoor
namespace Rows

/-- THE TIED CARD OF 'scriptorlaw05.WalEntries'. -/
def walEntriesCard : Claim7 := { stood := { row := walEntriesRow, standIns := [], harness := (true, "f2861e0c7b5afde6374e037f3ba05623d35e6a219535dbc26c22dd2af1081981"), looks := false }, kinds := [], alts := [], laidByText := true, laidKinds := [.data], laidTests := true, laidLooks := .later }
def WalEntriesCardSaid : Prop := Claim7.holds Tryd.pinned (.plain (OpenSpec.ofChange walEntriesSpec)) walEntriesCard

/-- THE TIED CARD OF 'scriptorlaw05.WalCrashes'. -/
def walCrashesCard : Claim7 := { stood := { row := walCrashesRow, standIns := [], harness := (true, "f2861e0c7b5afde6374e037f3ba05623d35e6a219535dbc26c22dd2af1081981"), looks := false }, kinds := [], alts := [], laidByText := true, laidKinds := [.data], laidTests := true, laidLooks := .later }
def WalCrashesCardSaid : Prop := Claim7.holds Tryd.pinned (.plain (OpenSpec.ofChange walCrashesSpec)) walCrashesCard

/-- THE TIED CARD OF 'scriptorlaw05.WalStale'. -/
def walStaleCard : Claim7 := { stood := { row := walStaleRow, standIns := [], harness := (true, "f2861e0c7b5afde6374e037f3ba05623d35e6a219535dbc26c22dd2af1081981"), looks := false }, kinds := [], alts := [], laidByText := true, laidKinds := [.data], laidTests := true, laidLooks := .later }
def WalStaleCardSaid : Prop := Claim7.holds Tryd.pinned (.plain (OpenSpec.ofChange walStaleSpec)) walStaleCard

/-- THE SECOND FORM's CARD OF 'scriptorlaw05.WalEntries'. -/
def walEntriesUptoCard : Claim7 := { stood := { row := walEntriesUptoRow, standIns := [], harness := (true, "f2861e0c7b5afde6374e037f3ba05623d35e6a219535dbc26c22dd2af1081981"), looks := false }, kinds := [], alts := [], laidByText := true, laidKinds := [.data], laidTests := true, laidLooks := .later }
def WalEntriesUptoCardSaid : Prop := Claim7.holds Tryd.pinned (.plain (OpenSpec.upto walEntriesSpec)) walEntriesUptoCard

/-- THE SECOND FORM's CARD OF 'scriptorlaw05.WalCrashes'. -/
def walCrashesUptoCard : Claim7 := { stood := { row := walCrashesUptoRow, standIns := [], harness := (true, "f2861e0c7b5afde6374e037f3ba05623d35e6a219535dbc26c22dd2af1081981"), looks := false }, kinds := [], alts := [], laidByText := true, laidKinds := [.data], laidTests := true, laidLooks := .later }
def WalCrashesUptoCardSaid : Prop := Claim7.holds Tryd.pinned (.plain (OpenSpec.upto walCrashesSpec)) walCrashesUptoCard

/-- THE SECOND FORM's CARD OF 'scriptorlaw05.WalStale'. -/
def walStaleUptoCard : Claim7 := { stood := { row := walStaleUptoRow, standIns := [], harness := (true, "f2861e0c7b5afde6374e037f3ba05623d35e6a219535dbc26c22dd2af1081981"), looks := false }, kinds := [], alts := [], laidByText := true, laidKinds := [.data], laidTests := true, laidLooks := .later }
def WalStaleUptoCardSaid : Prop := Claim7.holds Tryd.pinned (.plain (OpenSpec.upto walStaleSpec)) walStaleUptoCard
end Rows
end Go.Proofs.YtcmnfbpmkndfkaaDoor
