/-
  DERIVED. GIVEN WITH THE SEED: THE CARDS: each row of YthdmhelgmejicaaGreatDoorRows.lean that lists a variable, with what it lists TIED to the program's text (the seventh form; the later family's looks); each row that meets fmt, with fmt's text TOLD by the authors' own Lean function (tested against real Go, not proved from fmt's source: count such statements apart). THE CARD IS WHAT COUNTS. Prove the row's statement (the work); the ties are given (YthdmhelgmejicaaGreatDoorTie.lean); close each card by the builder's one call (the guide's Derived/Test/ToyasCard.lean, 'card_holds'). Laid BY PROGRAM, IN A SANDBOX (cutbox-door.mjs). By AI agents, Wed Nov 11 2026. No macro, syntax, notation, axiom, sorry.
-/
import Derived.Test.YthdmhelgmejicaaGreatDoorRows
import GoSem.ClaimSeven
namespace Go.Proofs.YthdmhelgmejicaaGreatDoor
namespace Rows

/-- THE TIED CARD OF 'caesuralaw4.PropParses'. -/
def propParsesCard : Claim7 := { stood := { row := propParsesRow, standIns := [], harness := (true, "157b5c4eabb7183a33f68272d25ce81cf64dfb83c7c34b1f820e23f73f465954"), looks := true }, kinds := [], alts := [], laidByText := true, laidKinds := [.data, .data, .data, .data, .sentinel, .sentinel, .sentinel, .sentinel, .sentinel, .sentinel, .sentinel, .sentinel, .sentinel, .sentinel, .sentinel, .sentinel, .sentinel, .pinned], laidTests := true, laidLooks := .later }
def PropParsesCardSaid : Prop := Claim7.holds Tryz.pinned (.plain (OpenSpec.ofChange propParsesSpec)) propParsesCard

/-- THE TIED CARD OF 'caesuralaw4.PropShort'. -/
def propShortCard : Claim7 := { stood := { row := propShortRow, standIns := [], harness := (true, "157b5c4eabb7183a33f68272d25ce81cf64dfb83c7c34b1f820e23f73f465954"), looks := true }, kinds := [], alts := [], laidByText := true, laidKinds := [.data, .data, .data, .data, .sentinel, .sentinel, .sentinel, .sentinel, .sentinel, .sentinel, .sentinel, .sentinel, .pinned, .pinned], laidTests := true, laidLooks := .later }
def PropShortCardSaid : Prop := Claim7.holds Tryz.pinned (.plain (OpenSpec.ofChange propShortSpec)) propShortCard

/-- THE TIED CARD OF 'caesuralaw4.PropBack'. -/
def propBackCard : Claim7 := { stood := { row := propBackRow, standIns := [], harness := (true, "157b5c4eabb7183a33f68272d25ce81cf64dfb83c7c34b1f820e23f73f465954"), looks := true }, kinds := [], alts := [], laidByText := true, laidKinds := [.data, .data, .data, .data, .sentinel, .sentinel, .sentinel, .sentinel, .sentinel, .sentinel, .sentinel, .sentinel, .sentinel, .sentinel, .sentinel, .sentinel, .sentinel, .pinned, .pinned], laidTests := true, laidLooks := .later }
def PropBackCardSaid : Prop := Claim7.holds Tryz.pinned (.plain (OpenSpec.ofChange propBackSpec)) propBackCard

/-- THE TIED CARD OF 'caesuralaw4.PropSays'. -/
def propSaysCard : Claim7 := { stood := { row := propSaysRow, standIns := [], harness := (true, "157b5c4eabb7183a33f68272d25ce81cf64dfb83c7c34b1f820e23f73f465954"), looks := true }, kinds := [], alts := [], laidByText := true, laidKinds := [.data, .data, .data, .data, .sentinel, .sentinel, .sentinel, .sentinel, .sentinel, .sentinel, .sentinel, .sentinel, .sentinel, .sentinel, .sentinel, .sentinel, .sentinel, .pinned, .pinned], laidTests := true, laidLooks := .later }
def PropSaysCardSaid : Prop := Claim7.holds Tryz.pinned (.plain (OpenSpec.ofChange propSaysSpec)) propSaysCard

/-- THE TIED CARD OF 'caesuralaw4.PropApart'. -/
def propApartCard : Claim7 := { stood := { row := propApartRow, standIns := [], harness := (true, "157b5c4eabb7183a33f68272d25ce81cf64dfb83c7c34b1f820e23f73f465954"), looks := true }, kinds := [], alts := [], laidByText := true, laidKinds := [.data, .data, .data, .data, .sentinel, .sentinel, .sentinel, .sentinel, .sentinel, .sentinel, .sentinel, .sentinel, .pinned, .pinned], laidTests := true, laidLooks := .later }
def PropApartCardSaid : Prop := Claim7.holds Tryz.pinned (.plain (OpenSpec.ofChange propApartSpec)) propApartCard

/-- THE SECOND FORM's CARD OF 'caesuralaw4.PropParses'. -/
def propParsesUptoCard : Claim7 := { stood := { row := propParsesUptoRow, standIns := [], harness := (true, "157b5c4eabb7183a33f68272d25ce81cf64dfb83c7c34b1f820e23f73f465954"), looks := true }, kinds := [], alts := [], laidByText := true, laidKinds := [.data, .data, .data, .data, .sentinel, .sentinel, .sentinel, .sentinel, .sentinel, .sentinel, .sentinel, .sentinel, .sentinel, .sentinel, .sentinel, .sentinel, .sentinel, .pinned], laidTests := true, laidLooks := .later }
def PropParsesUptoCardSaid : Prop := Claim7.holds Tryz.pinned (.plain (OpenSpec.upto propParsesSpec)) propParsesUptoCard

/-- THE SECOND FORM's CARD OF 'caesuralaw4.PropShort'. -/
def propShortUptoCard : Claim7 := { stood := { row := propShortUptoRow, standIns := [], harness := (true, "157b5c4eabb7183a33f68272d25ce81cf64dfb83c7c34b1f820e23f73f465954"), looks := true }, kinds := [], alts := [], laidByText := true, laidKinds := [.data, .data, .data, .data, .sentinel, .sentinel, .sentinel, .sentinel, .sentinel, .sentinel, .sentinel, .sentinel, .pinned, .pinned], laidTests := true, laidLooks := .later }
def PropShortUptoCardSaid : Prop := Claim7.holds Tryz.pinned (.plain (OpenSpec.upto propShortSpec)) propShortUptoCard

/-- THE SECOND FORM's CARD OF 'caesuralaw4.PropBack'. -/
def propBackUptoCard : Claim7 := { stood := { row := propBackUptoRow, standIns := [], harness := (true, "157b5c4eabb7183a33f68272d25ce81cf64dfb83c7c34b1f820e23f73f465954"), looks := true }, kinds := [], alts := [], laidByText := true, laidKinds := [.data, .data, .data, .data, .sentinel, .sentinel, .sentinel, .sentinel, .sentinel, .sentinel, .sentinel, .sentinel, .sentinel, .sentinel, .sentinel, .sentinel, .sentinel, .pinned, .pinned], laidTests := true, laidLooks := .later }
def PropBackUptoCardSaid : Prop := Claim7.holds Tryz.pinned (.plain (OpenSpec.upto propBackSpec)) propBackUptoCard

/-- THE SECOND FORM's CARD OF 'caesuralaw4.PropSays'. -/
def propSaysUptoCard : Claim7 := { stood := { row := propSaysUptoRow, standIns := [], harness := (true, "157b5c4eabb7183a33f68272d25ce81cf64dfb83c7c34b1f820e23f73f465954"), looks := true }, kinds := [], alts := [], laidByText := true, laidKinds := [.data, .data, .data, .data, .sentinel, .sentinel, .sentinel, .sentinel, .sentinel, .sentinel, .sentinel, .sentinel, .sentinel, .sentinel, .sentinel, .sentinel, .sentinel, .pinned, .pinned], laidTests := true, laidLooks := .later }
def PropSaysUptoCardSaid : Prop := Claim7.holds Tryz.pinned (.plain (OpenSpec.upto propSaysSpec)) propSaysUptoCard

/-- THE SECOND FORM's CARD OF 'caesuralaw4.PropApart'. -/
def propApartUptoCard : Claim7 := { stood := { row := propApartUptoRow, standIns := [], harness := (true, "157b5c4eabb7183a33f68272d25ce81cf64dfb83c7c34b1f820e23f73f465954"), looks := true }, kinds := [], alts := [], laidByText := true, laidKinds := [.data, .data, .data, .data, .sentinel, .sentinel, .sentinel, .sentinel, .sentinel, .sentinel, .sentinel, .sentinel, .pinned, .pinned], laidTests := true, laidLooks := .later }
def PropApartUptoCardSaid : Prop := Claim7.holds Tryz.pinned (.plain (OpenSpec.upto propApartSpec)) propApartUptoCard
end Rows
end Go.Proofs.YthdmhelgmejicaaGreatDoor
