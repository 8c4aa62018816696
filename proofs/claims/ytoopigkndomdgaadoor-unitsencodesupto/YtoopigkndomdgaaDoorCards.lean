/-
  DERIVED. GIVEN WITH THE SEED: THE CARDS: each row of YtoopigkndomdgaaDoorRows.lean that lists a variable, with what it lists TIED to the program's text (the seventh form; the later family's looks); each row that meets fmt, with fmt's text TOLD by the authors' own Lean function (tested against real Go, not proved from fmt's source: count such statements apart). THE CARD IS WHAT COUNTS. Prove the row's statement (the work); the ties are given (YtoopigkndomdgaaDoorTie.lean); close each card by the builder's one call (the guide's Derived/Test/ToyasCard.lean, 'card_holds'). Laid BY PROGRAM, IN A SANDBOX (cutbox-door.mjs). By AI agents, Wed Nov 11 2026. No macro, syntax, notation, axiom, sorry.
-/
import Derived.Test.YtoopigkndomdgaaDoorRows
import GoSem.ClaimSeven
namespace Go.Proofs.YtoopigkndomdgaaDoor
namespace Rows

/-- THE TIED CARD OF 'caesuralaw2.UnitsPieces'. -/
def unitsPiecesCard : Claim7 := { stood := { row := unitsPiecesRow, standIns := [], harness := (true, "3c3153006ad276ae62256a5bc2804889bd23770a57a6a75e49fe9f37ed366d0d"), looks := true }, kinds := [], alts := [], laidByText := true, laidKinds := [.data], laidTests := true, laidLooks := .later }
def UnitsPiecesCardSaid : Prop := Claim7.holds Tryd.pinned (.plain (OpenSpec.ofChange unitsPiecesSpec)) unitsPiecesCard

/-- THE TIED CARD OF 'caesuralaw2.UnitsCuts'. -/
def unitsCutsCard : Claim7 := { stood := { row := unitsCutsRow, standIns := [], harness := (true, "3c3153006ad276ae62256a5bc2804889bd23770a57a6a75e49fe9f37ed366d0d"), looks := true }, kinds := [], alts := [], laidByText := true, laidKinds := [.data], laidTests := true, laidLooks := .later }
def UnitsCutsCardSaid : Prop := Claim7.holds Tryd.pinned (.plain (OpenSpec.ofChange unitsCutsSpec)) unitsCutsCard

/-- THE TIED CARD OF 'caesuralaw2.UnitsHeld'. -/
def unitsHeldCard : Claim7 := { stood := { row := unitsHeldRow, standIns := [], harness := (true, "3c3153006ad276ae62256a5bc2804889bd23770a57a6a75e49fe9f37ed366d0d"), looks := true }, kinds := [], alts := [], laidByText := true, laidKinds := [.data], laidTests := true, laidLooks := .later }
def UnitsHeldCardSaid : Prop := Claim7.holds Tryd.pinned (.plain (OpenSpec.ofChange unitsHeldSpec)) unitsHeldCard

/-- THE TIED CARD OF 'caesuralaw2.UnitsSplits'. -/
def unitsSplitsCard : Claim7 := { stood := { row := unitsSplitsRow, standIns := [], harness := (true, "3c3153006ad276ae62256a5bc2804889bd23770a57a6a75e49fe9f37ed366d0d"), looks := true }, kinds := [], alts := [], laidByText := true, laidKinds := [.data], laidTests := true, laidLooks := .later }
def UnitsSplitsCardSaid : Prop := Claim7.holds Tryd.pinned (.plain (OpenSpec.ofChange unitsSplitsSpec)) unitsSplitsCard

/-- THE TIED CARD OF 'caesuralaw2.UnitsEncodes'. -/
def unitsEncodesCard : Claim7 := { stood := { row := unitsEncodesRow, standIns := [], harness := (true, "3c3153006ad276ae62256a5bc2804889bd23770a57a6a75e49fe9f37ed366d0d"), looks := true }, kinds := [], alts := [], laidByText := true, laidKinds := [.sentinel, .sentinel, .sentinel, .sentinel, .sentinel, .sentinel, .sentinel, .sentinel, .sentinel, .sentinel, .sentinel], laidTests := true, laidLooks := .later }
def UnitsEncodesCardSaid : Prop := Claim7.holds Tryd.pinned (.plain (OpenSpec.ofChange unitsEncodesSpec)) unitsEncodesCard

/-- THE TIED CARD OF 'caesuralaw2.UnitsMemory'. -/
def unitsMemoryCard : Claim7 := { stood := { row := unitsMemoryRow, standIns := [], harness := (true, "3c3153006ad276ae62256a5bc2804889bd23770a57a6a75e49fe9f37ed366d0d"), looks := true }, kinds := [], alts := [], laidByText := true, laidKinds := [.data], laidTests := true, laidLooks := .later }
def UnitsMemoryCardSaid : Prop := Claim7.holds Tryd.pinned (.plain (OpenSpec.ofChange unitsMemorySpec)) unitsMemoryCard

/-- THE SECOND FORM's CARD OF 'caesuralaw2.UnitsPieces'. -/
def unitsPiecesUptoCard : Claim7 := { stood := { row := unitsPiecesUptoRow, standIns := [], harness := (true, "3c3153006ad276ae62256a5bc2804889bd23770a57a6a75e49fe9f37ed366d0d"), looks := true }, kinds := [], alts := [], laidByText := true, laidKinds := [.data], laidTests := true, laidLooks := .later }
def UnitsPiecesUptoCardSaid : Prop := Claim7.holds Tryd.pinned (.plain (OpenSpec.upto unitsPiecesSpec)) unitsPiecesUptoCard

/-- THE SECOND FORM's CARD OF 'caesuralaw2.UnitsCuts'. -/
def unitsCutsUptoCard : Claim7 := { stood := { row := unitsCutsUptoRow, standIns := [], harness := (true, "3c3153006ad276ae62256a5bc2804889bd23770a57a6a75e49fe9f37ed366d0d"), looks := true }, kinds := [], alts := [], laidByText := true, laidKinds := [.data], laidTests := true, laidLooks := .later }
def UnitsCutsUptoCardSaid : Prop := Claim7.holds Tryd.pinned (.plain (OpenSpec.upto unitsCutsSpec)) unitsCutsUptoCard

/-- THE SECOND FORM's CARD OF 'caesuralaw2.UnitsHeld'. -/
def unitsHeldUptoCard : Claim7 := { stood := { row := unitsHeldUptoRow, standIns := [], harness := (true, "3c3153006ad276ae62256a5bc2804889bd23770a57a6a75e49fe9f37ed366d0d"), looks := true }, kinds := [], alts := [], laidByText := true, laidKinds := [.data], laidTests := true, laidLooks := .later }
def UnitsHeldUptoCardSaid : Prop := Claim7.holds Tryd.pinned (.plain (OpenSpec.upto unitsHeldSpec)) unitsHeldUptoCard

/-- THE SECOND FORM's CARD OF 'caesuralaw2.UnitsSplits'. -/
def unitsSplitsUptoCard : Claim7 := { stood := { row := unitsSplitsUptoRow, standIns := [], harness := (true, "3c3153006ad276ae62256a5bc2804889bd23770a57a6a75e49fe9f37ed366d0d"), looks := true }, kinds := [], alts := [], laidByText := true, laidKinds := [.data], laidTests := true, laidLooks := .later }
def UnitsSplitsUptoCardSaid : Prop := Claim7.holds Tryd.pinned (.plain (OpenSpec.upto unitsSplitsSpec)) unitsSplitsUptoCard

/-- THE SECOND FORM's CARD OF 'caesuralaw2.UnitsEncodes'. -/
def unitsEncodesUptoCard : Claim7 := { stood := { row := unitsEncodesUptoRow, standIns := [], harness := (true, "3c3153006ad276ae62256a5bc2804889bd23770a57a6a75e49fe9f37ed366d0d"), looks := true }, kinds := [], alts := [], laidByText := true, laidKinds := [.sentinel, .sentinel, .sentinel, .sentinel, .sentinel, .sentinel, .sentinel, .sentinel, .sentinel, .sentinel, .sentinel], laidTests := true, laidLooks := .later }
def UnitsEncodesUptoCardSaid : Prop := Claim7.holds Tryd.pinned (.plain (OpenSpec.upto unitsEncodesSpec)) unitsEncodesUptoCard

/-- THE SECOND FORM's CARD OF 'caesuralaw2.UnitsMemory'. -/
def unitsMemoryUptoCard : Claim7 := { stood := { row := unitsMemoryUptoRow, standIns := [], harness := (true, "3c3153006ad276ae62256a5bc2804889bd23770a57a6a75e49fe9f37ed366d0d"), looks := true }, kinds := [], alts := [], laidByText := true, laidKinds := [.data], laidTests := true, laidLooks := .later }
def UnitsMemoryUptoCardSaid : Prop := Claim7.holds Tryd.pinned (.plain (OpenSpec.upto unitsMemorySpec)) unitsMemoryUptoCard
end Rows
end Go.Proofs.YtoopigkndomdgaaDoor
