/-
  DERIVED. GIVEN WITH THE SEED: THE CARDS: each row of YtoopigkndomdgabDoorRows.lean that lists a variable, with what it lists TIED to the program's text (the seventh form; the later family's looks); each row that meets fmt, with fmt's text TOLD by the authors' own Lean function (tested against real Go, not proved from fmt's source: count such statements apart). THE CARD IS WHAT COUNTS. Prove the row's statement (the work); the ties are given (YtoopigkndomdgabDoorTie.lean); close each card by the builder's one call (the guide's Derived/Test/ToyasCard.lean, 'card_holds'). Laid BY PROGRAM, IN A SANDBOX (cutbox-door.mjs). By AI agents, Wed Nov 11 2026. No macro, syntax, notation, axiom, sorry.
-/
import Derived.Test.YtoopigkndomdgabDoorRows
import GoSem.ClaimSeven
namespace Go.Proofs.YtoopigkndomdgabDoor
namespace Rows

/-- THE TIED CARD OF 'caesuralaw2.UnitsCover'. -/
def unitsCoverCard : Claim7 := { stood := { row := unitsCoverRow, standIns := [], harness := (true, "8fb66004a077dc1dbe04dd3164299bdb469396a0f56ffd3b109952fd8ef5a754"), looks := false }, kinds := [], alts := [], laidByText := true, laidKinds := [.sentinel, .data], laidTests := true, laidLooks := .later }
def UnitsCoverCardSaid : Prop := Claim7.holds Tryd.pinned (.plain (OpenSpec.ofChange unitsCoverSpec)) unitsCoverCard

/-- THE TIED CARD OF 'caesuralaw2.UnitsBack'. -/
def unitsBackCard : Claim7 := { stood := { row := unitsBackRow, standIns := [], harness := (true, "8fb66004a077dc1dbe04dd3164299bdb469396a0f56ffd3b109952fd8ef5a754"), looks := false }, kinds := [], alts := [], laidByText := true, laidKinds := [.sentinel, .data], laidTests := true, laidLooks := .later }
def UnitsBackCardSaid : Prop := Claim7.holds Tryd.pinned (.plain (OpenSpec.ofChange unitsBackSpec)) unitsBackCard

/-- THE TIED CARD OF 'caesuralaw2.UnitsSteps'. -/
def unitsStepsCard : Claim7 := { stood := { row := unitsStepsRow, standIns := [], harness := (true, "8fb66004a077dc1dbe04dd3164299bdb469396a0f56ffd3b109952fd8ef5a754"), looks := false }, kinds := [], alts := [], laidByText := true, laidKinds := [.data], laidTests := true, laidLooks := .later }
def UnitsStepsCardSaid : Prop := Claim7.holds Tryd.pinned (.plain (OpenSpec.ofChange unitsStepsSpec)) unitsStepsCard

/-- THE SECOND FORM's CARD OF 'caesuralaw2.UnitsCover'. -/
def unitsCoverUptoCard : Claim7 := { stood := { row := unitsCoverUptoRow, standIns := [], harness := (true, "8fb66004a077dc1dbe04dd3164299bdb469396a0f56ffd3b109952fd8ef5a754"), looks := false }, kinds := [], alts := [], laidByText := true, laidKinds := [.sentinel, .data], laidTests := true, laidLooks := .later }
def UnitsCoverUptoCardSaid : Prop := Claim7.holds Tryd.pinned (.plain (OpenSpec.upto unitsCoverSpec)) unitsCoverUptoCard

/-- THE SECOND FORM's CARD OF 'caesuralaw2.UnitsBack'. -/
def unitsBackUptoCard : Claim7 := { stood := { row := unitsBackUptoRow, standIns := [], harness := (true, "8fb66004a077dc1dbe04dd3164299bdb469396a0f56ffd3b109952fd8ef5a754"), looks := false }, kinds := [], alts := [], laidByText := true, laidKinds := [.sentinel, .data], laidTests := true, laidLooks := .later }
def UnitsBackUptoCardSaid : Prop := Claim7.holds Tryd.pinned (.plain (OpenSpec.upto unitsBackSpec)) unitsBackUptoCard

/-- THE SECOND FORM's CARD OF 'caesuralaw2.UnitsSteps'. -/
def unitsStepsUptoCard : Claim7 := { stood := { row := unitsStepsUptoRow, standIns := [], harness := (true, "8fb66004a077dc1dbe04dd3164299bdb469396a0f56ffd3b109952fd8ef5a754"), looks := false }, kinds := [], alts := [], laidByText := true, laidKinds := [.data], laidTests := true, laidLooks := .later }
def UnitsStepsUptoCardSaid : Prop := Claim7.holds Tryd.pinned (.plain (OpenSpec.upto unitsStepsSpec)) unitsStepsUptoCard
end Rows
end Go.Proofs.YtoopigkndomdgabDoor
