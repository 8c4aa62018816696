/-
  DERIVED. GIVEN WITH THE SEED: THE CARDS: each row of YthoogkpiacopiaaDoorRows.lean that lists a variable, with what it lists TIED to the program's text (the seventh form; the later family's looks); each row that meets fmt, with fmt's text TOLD by the authors' own Lean function (tested against real Go, not proved from fmt's source: count such statements apart). THE CARD IS WHAT COUNTS. Prove the row's statement (the work); the ties are given (YthoogkpiacopiaaDoorTie.lean); close each card by the builder's one call (the guide's Derived/Test/ToyasCard.lean, 'card_holds'). Laid BY PROGRAM, IN A SANDBOX (cutbox-door.mjs). By AI agents, Wed Nov 11 2026. No macro, syntax, notation, axiom, sorry.
-/
import Derived.Test.YthoogkpiacopiaaDoorRows
import GoSem.ClaimSeven
namespace Go.Proofs.YthoogkpiacopiaaDoor
namespace Rows

/-- THE TIED CARD OF 'caesuralaw13.MinimalApart'. -/
def minimalApartCard : Claim7 := { stood := { row := minimalApartRow, standIns := [], harness := (true, "ff3d85a463116b9ee4563554a802eff9c65870756ed5ab95c73e45b8b1cc194d"), looks := true }, kinds := [], alts := [], laidByText := true, laidKinds := [.sentinel, .sentinel, .sentinel, .sentinel, .sentinel, .sentinel, .sentinel, .sentinel, .sentinel, .sentinel, .sentinel], laidTests := true, laidLooks := .later }
def MinimalApartCardSaid : Prop := Claim7.holds Tryd.pinned (.plain (OpenSpec.ofChange minimalApartSpec)) minimalApartCard

/-- THE TIED CARD OF 'caesuralaw14.PairReads'. -/
def pairReadsCard : Claim7 := { stood := { row := pairReadsRow, standIns := [], harness := (true, "ff3d85a463116b9ee4563554a802eff9c65870756ed5ab95c73e45b8b1cc194d"), looks := true }, kinds := [], alts := [], laidByText := true, laidKinds := [.sentinel, .sentinel, .sentinel, .sentinel, .sentinel, .sentinel, .sentinel, .sentinel, .sentinel, .sentinel, .sentinel], laidTests := true, laidLooks := .later }
def PairReadsCardSaid : Prop := Claim7.holds Tryd.pinned (.plain (OpenSpec.ofChange pairReadsSpec)) pairReadsCard

/-- THE SECOND FORM's CARD OF 'caesuralaw13.MinimalApart'. -/
def minimalApartUptoCard : Claim7 := { stood := { row := minimalApartUptoRow, standIns := [], harness := (true, "ff3d85a463116b9ee4563554a802eff9c65870756ed5ab95c73e45b8b1cc194d"), looks := true }, kinds := [], alts := [], laidByText := true, laidKinds := [.sentinel, .sentinel, .sentinel, .sentinel, .sentinel, .sentinel, .sentinel, .sentinel, .sentinel, .sentinel, .sentinel], laidTests := true, laidLooks := .later }
def MinimalApartUptoCardSaid : Prop := Claim7.holds Tryd.pinned (.plain (OpenSpec.upto minimalApartSpec)) minimalApartUptoCard

/-- THE SECOND FORM's CARD OF 'caesuralaw14.PairReads'. -/
def pairReadsUptoCard : Claim7 := { stood := { row := pairReadsUptoRow, standIns := [], harness := (true, "ff3d85a463116b9ee4563554a802eff9c65870756ed5ab95c73e45b8b1cc194d"), looks := true }, kinds := [], alts := [], laidByText := true, laidKinds := [.sentinel, .sentinel, .sentinel, .sentinel, .sentinel, .sentinel, .sentinel, .sentinel, .sentinel, .sentinel, .sentinel], laidTests := true, laidLooks := .later }
def PairReadsUptoCardSaid : Prop := Claim7.holds Tryd.pinned (.plain (OpenSpec.upto pairReadsSpec)) pairReadsUptoCard
end Rows
end Go.Proofs.YthoogkpiacopiaaDoor
