/-
  DERIVED. GIVEN WITH THE SEED: THE CARDS: each row of YtcbepmjojppokaaGreatDoorRows.lean that lists a variable, with what it lists TIED to the program's text (the seventh form; the later family's looks); each row that meets fmt, with fmt's text TOLD by the authors' own Lean function (tested against real Go, not proved from fmt's source: count such statements apart). THE CARD IS WHAT COUNTS. Prove the row's statement (the work); the ties are given (YtcbepmjojppokaaGreatDoorTie.lean); close each card by the builder's one call (the guide's Derived/Test/ToyasCard.lean, 'card_holds'). Laid BY PROGRAM, IN A SANDBOX (cutbox-door.mjs). By AI agents, Wed Nov 11 2026. No macro, syntax, notation, axiom, sorry.
-/
import Derived.Test.YtcbepmjojppokaaGreatDoorRows
import GoSem.ClaimSeven
namespace Go.Proofs.YtcbepmjojppokaaGreatDoor
namespace Rows

/-- THE TIED CARD OF 'caesuralaw23.TestParses'. -/
def testParsesCard : Claim7 := { stood := { row := testParsesRow, standIns := [], harness := (true, "887f56d839e1b60f7fe714070df64fc32d64cfd9703cda5fe43206b311d80abf"), looks := true }, kinds := [], alts := [], laidByText := true, laidKinds := [.data, .data, .data, .data, .handle, .sentinel, .sentinel, .sentinel, .sentinel, .sentinel, .sentinel, .sentinel, .sentinel, .sentinel, .sentinel, .sentinel, .sentinel, .sentinel, .pinned], laidTests := true, laidLooks := .later }
def TestParsesCardSaid : Prop := Claim7.holds Tryz.pinned (.plain (OpenSpec.ofChange testParsesSpec)) testParsesCard

/-- THE TIED CARD OF 'caesuralaw23.TestShort'. -/
def testShortCard : Claim7 := { stood := { row := testShortRow, standIns := [], harness := (true, "887f56d839e1b60f7fe714070df64fc32d64cfd9703cda5fe43206b311d80abf"), looks := true }, kinds := [], alts := [], laidByText := true, laidKinds := [.data, .data, .data, .data, .handle, .sentinel, .sentinel, .sentinel, .sentinel, .sentinel, .pinned, .pinned], laidTests := true, laidLooks := .later }
def TestShortCardSaid : Prop := Claim7.holds Tryz.pinned (.plain (OpenSpec.ofChange testShortSpec)) testShortCard

/-- THE TIED CARD OF 'caesuralaw23.TestBack'. -/
def testBackCard : Claim7 := { stood := { row := testBackRow, standIns := [], harness := (true, "887f56d839e1b60f7fe714070df64fc32d64cfd9703cda5fe43206b311d80abf"), looks := true }, kinds := [], alts := [], laidByText := true, laidKinds := [.data, .data, .data, .data, .handle, .sentinel, .sentinel, .sentinel, .sentinel, .sentinel, .sentinel, .sentinel, .sentinel, .sentinel, .sentinel, .sentinel, .sentinel, .sentinel, .pinned, .pinned], laidTests := true, laidLooks := .later }
def TestBackCardSaid : Prop := Claim7.holds Tryz.pinned (.plain (OpenSpec.ofChange testBackSpec)) testBackCard

/-- THE SECOND FORM's CARD OF 'caesuralaw23.TestParses'. -/
def testParsesUptoCard : Claim7 := { stood := { row := testParsesUptoRow, standIns := [], harness := (true, "887f56d839e1b60f7fe714070df64fc32d64cfd9703cda5fe43206b311d80abf"), looks := true }, kinds := [], alts := [], laidByText := true, laidKinds := [.data, .data, .data, .data, .handle, .sentinel, .sentinel, .sentinel, .sentinel, .sentinel, .sentinel, .sentinel, .sentinel, .sentinel, .sentinel, .sentinel, .sentinel, .sentinel, .pinned], laidTests := true, laidLooks := .later }
def TestParsesUptoCardSaid : Prop := Claim7.holds Tryz.pinned (.plain (OpenSpec.upto testParsesSpec)) testParsesUptoCard

/-- THE SECOND FORM's CARD OF 'caesuralaw23.TestShort'. -/
def testShortUptoCard : Claim7 := { stood := { row := testShortUptoRow, standIns := [], harness := (true, "887f56d839e1b60f7fe714070df64fc32d64cfd9703cda5fe43206b311d80abf"), looks := true }, kinds := [], alts := [], laidByText := true, laidKinds := [.data, .data, .data, .data, .handle, .sentinel, .sentinel, .sentinel, .sentinel, .sentinel, .pinned, .pinned], laidTests := true, laidLooks := .later }
def TestShortUptoCardSaid : Prop := Claim7.holds Tryz.pinned (.plain (OpenSpec.upto testShortSpec)) testShortUptoCard

/-- THE SECOND FORM's CARD OF 'caesuralaw23.TestBack'. -/
def testBackUptoCard : Claim7 := { stood := { row := testBackUptoRow, standIns := [], harness := (true, "887f56d839e1b60f7fe714070df64fc32d64cfd9703cda5fe43206b311d80abf"), looks := true }, kinds := [], alts := [], laidByText := true, laidKinds := [.data, .data, .data, .data, .handle, .sentinel, .sentinel, .sentinel, .sentinel, .sentinel, .sentinel, .sentinel, .sentinel, .sentinel, .sentinel, .sentinel, .sentinel, .sentinel, .pinned, .pinned], laidTests := true, laidLooks := .later }
def TestBackUptoCardSaid : Prop := Claim7.holds Tryz.pinned (.plain (OpenSpec.upto testBackSpec)) testBackUptoCard
end Rows
end Go.Proofs.YtcbepmjojppokaaGreatDoor
