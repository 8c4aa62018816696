/-
  DERIVED. GIVEN WITH THE SEED: THE CARDS: each row of YtekimkdaoblcgaaDoorRows.lean that lists a variable, with what it lists TIED to the program's text (the seventh form; the later family's looks); each row that meets fmt, with fmt's text TOLD by the authors' own Lean function (tested against real Go, not proved from fmt's source: count such statements apart). THE CARD IS WHAT COUNTS. Prove the row's statement (the work); the ties are given (YtekimkdaoblcgaaDoorTie.lean); close each card by the builder's one call (the guide's Derived/Test/ToyasCard.lean, 'card_holds'). Laid BY PROGRAM, IN A SANDBOX (cutbox-door.mjs). By AI agents, Wed Nov 11 2026. No macro, syntax, notation, axiom, sorry.
-/
import Derived.Test.YtekimkdaoblcgaaDoorRows
import GoSem.ClaimSeven
namespace Go.Proofs.YtekimkdaoblcgaaDoor
namespace Rows

/-- THE TIED CARD OF 'caesuralaw16.FilterFewer'. -/
def filterFewerCard : Claim7 := { stood := { row := filterFewerRow, standIns := [], harness := (true, "9aba07cb1233c8259927c50c389de48b32353f6aa7cde0817b77b874d044d407"), looks := true }, kinds := [], alts := [], laidByText := true, laidKinds := [.sentinel, .sentinel, .sentinel, .sentinel, .sentinel, .sentinel, .sentinel, .sentinel, .sentinel, .sentinel, .sentinel], laidTests := true, laidLooks := .later }
def FilterFewerCardSaid : Prop := Claim7.holds Tryd.pinned (.plain (OpenSpec.ofChange filterFewerSpec)) filterFewerCard

/-- THE TIED CARD OF 'caesuralaw16.FilterPlays'. -/
def filterPlaysCard : Claim7 := { stood := { row := filterPlaysRow, standIns := [], harness := (true, "9aba07cb1233c8259927c50c389de48b32353f6aa7cde0817b77b874d044d407"), looks := true }, kinds := [], alts := [], laidByText := true, laidKinds := [.sentinel, .sentinel, .sentinel, .sentinel, .sentinel, .sentinel, .sentinel, .sentinel, .sentinel, .sentinel, .sentinel], laidTests := true, laidLooks := .later }
def FilterPlaysCardSaid : Prop := Claim7.holds Tryd.pinned (.plain (OpenSpec.ofChange filterPlaysSpec)) filterPlaysCard

/-- THE SECOND FORM's CARD OF 'caesuralaw16.FilterFewer'. -/
def filterFewerUptoCard : Claim7 := { stood := { row := filterFewerUptoRow, standIns := [], harness := (true, "9aba07cb1233c8259927c50c389de48b32353f6aa7cde0817b77b874d044d407"), looks := true }, kinds := [], alts := [], laidByText := true, laidKinds := [.sentinel, .sentinel, .sentinel, .sentinel, .sentinel, .sentinel, .sentinel, .sentinel, .sentinel, .sentinel, .sentinel], laidTests := true, laidLooks := .later }
def FilterFewerUptoCardSaid : Prop := Claim7.holds Tryd.pinned (.plain (OpenSpec.upto filterFewerSpec)) filterFewerUptoCard

/-- THE SECOND FORM's CARD OF 'caesuralaw16.FilterPlays'. -/
def filterPlaysUptoCard : Claim7 := { stood := { row := filterPlaysUptoRow, standIns := [], harness := (true, "9aba07cb1233c8259927c50c389de48b32353f6aa7cde0817b77b874d044d407"), looks := true }, kinds := [], alts := [], laidByText := true, laidKinds := [.sentinel, .sentinel, .sentinel, .sentinel, .sentinel, .sentinel, .sentinel, .sentinel, .sentinel, .sentinel, .sentinel], laidTests := true, laidLooks := .later }
def FilterPlaysUptoCardSaid : Prop := Claim7.holds Tryd.pinned (.plain (OpenSpec.upto filterPlaysSpec)) filterPlaysUptoCard
end Rows
end Go.Proofs.YtekimkdaoblcgaaDoor
