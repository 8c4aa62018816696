/-
  DERIVED. GIVEN WITH THE SEED: THE CARDS: each row of YtlkgghbdgjomkaaDoorRows.lean that lists a variable, with what it lists TIED to the program's text (the seventh form; the later family's looks); each row that meets fmt, with fmt's text TOLD by the authors' own Lean function (tested against real Go, not proved from fmt's source: count such statements apart). THE CARD IS WHAT COUNTS. Prove the row's statement (the work); the ties are given (YtlkgghbdgjomkaaDoorTie.lean); close each card by the builder's one call (the guide's Derived/Test/ToyasCard.lean, 'card_holds'). Laid BY PROGRAM, IN A SANDBOX (cutbox-door.mjs). By AI agents, Wed Nov 11 2026. No macro, syntax, notation, axiom, sorry.
-/
import Derived.Test.YtlkgghbdgjomkaaDoorRows
import GoSem.ClaimSeven
namespace Go.Proofs.YtlkgghbdgjomkaaDoor
namespace Rows

/-- THE TIED CARD OF 'caesuralaw11.PlacesTurn'. -/
def placesTurnCard : Claim7 := { stood := { row := placesTurnRow, standIns := [], harness := (true, "bc4851f6a814b28bf51b348553241e14a41377409e0f81a6c0067c589eaad659"), looks := true }, kinds := [], alts := [], laidByText := true, laidKinds := [.data, .sentinel, .sentinel], laidTests := true, laidLooks := .later }
def PlacesTurnCardSaid : Prop := Claim7.holds Tryd.pinned (.plain (OpenSpec.ofChange placesTurnSpec)) placesTurnCard

/-- THE TIED CARD OF 'caesuralaw11.PlacesReads'. -/
def placesReadsCard : Claim7 := { stood := { row := placesReadsRow, standIns := [], harness := (true, "bc4851f6a814b28bf51b348553241e14a41377409e0f81a6c0067c589eaad659"), looks := true }, kinds := [], alts := [], laidByText := true, laidKinds := [.data, .sentinel, .sentinel, .sentinel, .sentinel, .sentinel, .sentinel, .sentinel, .sentinel, .sentinel, .sentinel, .sentinel], laidTests := true, laidLooks := .later }
def PlacesReadsCardSaid : Prop := Claim7.holds Tryd.pinned (.plain (OpenSpec.ofChange placesReadsSpec)) placesReadsCard

/-- THE SECOND FORM's CARD OF 'caesuralaw11.PlacesTurn'. -/
def placesTurnUptoCard : Claim7 := { stood := { row := placesTurnUptoRow, standIns := [], harness := (true, "bc4851f6a814b28bf51b348553241e14a41377409e0f81a6c0067c589eaad659"), looks := true }, kinds := [], alts := [], laidByText := true, laidKinds := [.data, .sentinel, .sentinel], laidTests := true, laidLooks := .later }
def PlacesTurnUptoCardSaid : Prop := Claim7.holds Tryd.pinned (.plain (OpenSpec.upto placesTurnSpec)) placesTurnUptoCard

/-- THE SECOND FORM's CARD OF 'caesuralaw11.PlacesReads'. -/
def placesReadsUptoCard : Claim7 := { stood := { row := placesReadsUptoRow, standIns := [], harness := (true, "bc4851f6a814b28bf51b348553241e14a41377409e0f81a6c0067c589eaad659"), looks := true }, kinds := [], alts := [], laidByText := true, laidKinds := [.data, .sentinel, .sentinel, .sentinel, .sentinel, .sentinel, .sentinel, .sentinel, .sentinel, .sentinel, .sentinel, .sentinel], laidTests := true, laidLooks := .later }
def PlacesReadsUptoCardSaid : Prop := Claim7.holds Tryd.pinned (.plain (OpenSpec.upto placesReadsSpec)) placesReadsUptoCard
end Rows
end Go.Proofs.YtlkgghbdgjomkaaDoor
