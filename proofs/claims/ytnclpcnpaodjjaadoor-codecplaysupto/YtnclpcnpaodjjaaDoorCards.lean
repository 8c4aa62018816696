/-
  DERIVED. GIVEN WITH THE SEED: THE CARDS: each row of YtnclpcnpaodjjaaDoorRows.lean that lists a variable, with what it lists TIED to the program's text (the seventh form; the later family's looks); each row that meets fmt, with fmt's text TOLD by the authors' own Lean function (tested against real Go, not proved from fmt's source: count such statements apart). THE CARD IS WHAT COUNTS. Prove the row's statement (the work); the ties are given (YtnclpcnpaodjjaaDoorTie.lean); close each card by the builder's one call (the guide's Derived/Test/ToyasCard.lean, 'card_holds'). Laid BY PROGRAM, IN A SANDBOX (cutbox-door.mjs). By AI agents, Wed Nov 11 2026. No macro, syntax, notation, axiom, sorry.
-/
import Derived.Test.YtnclpcnpaodjjaaDoorRows
import GoSem.ClaimSeven
namespace Go.Proofs.YtnclpcnpaodjjaaDoor
namespace Rows

/-- THE TIED CARD OF 'caesuralaw1.CodecPlays'. -/
def codecPlaysCard : Claim7 := { stood := { row := codecPlaysRow, standIns := [], harness := (true, "5162a32e7823e3954195e691b35b2e04e302f6bb36e43e1e1d29d41249eb2dcd"), looks := true }, kinds := [], alts := [], laidByText := true, laidKinds := [.sentinel, .sentinel, .sentinel, .sentinel, .sentinel, .sentinel, .sentinel, .sentinel, .sentinel, .sentinel, .sentinel, .sentinel], laidTests := true, laidLooks := .later }
def CodecPlaysCardSaid : Prop := Claim7.holds Tryd.pinned (.plain (OpenSpec.ofChange codecPlaysSpec)) codecPlaysCard

/-- THE TIED CARD OF 'caesuralaw0.Names'. -/
def namesCard : Claim7 := { stood := { row := namesRow, standIns := [], harness := (true, "5162a32e7823e3954195e691b35b2e04e302f6bb36e43e1e1d29d41249eb2dcd"), looks := true }, kinds := [], alts := [], laidByText := true, laidKinds := [.sentinel, .sentinel, .sentinel, .sentinel, .sentinel, .sentinel, .sentinel, .sentinel, .sentinel, .sentinel, .sentinel, .data, .data, .data, .data], laidTests := true, laidLooks := .later }
def NamesCardSaid : Prop := Claim7.holds Tryd.pinned (.plain (OpenSpec.ofChange namesSpec)) namesCard

/-- THE SECOND FORM's CARD OF 'caesuralaw1.CodecPlays'. -/
def codecPlaysUptoCard : Claim7 := { stood := { row := codecPlaysUptoRow, standIns := [], harness := (true, "5162a32e7823e3954195e691b35b2e04e302f6bb36e43e1e1d29d41249eb2dcd"), looks := true }, kinds := [], alts := [], laidByText := true, laidKinds := [.sentinel, .sentinel, .sentinel, .sentinel, .sentinel, .sentinel, .sentinel, .sentinel, .sentinel, .sentinel, .sentinel, .sentinel], laidTests := true, laidLooks := .later }
def CodecPlaysUptoCardSaid : Prop := Claim7.holds Tryd.pinned (.plain (OpenSpec.upto codecPlaysSpec)) codecPlaysUptoCard

/-- THE SECOND FORM's CARD OF 'caesuralaw0.Names'. -/
def namesUptoCard : Claim7 := { stood := { row := namesUptoRow, standIns := [], harness := (true, "5162a32e7823e3954195e691b35b2e04e302f6bb36e43e1e1d29d41249eb2dcd"), looks := true }, kinds := [], alts := [], laidByText := true, laidKinds := [.sentinel, .sentinel, .sentinel, .sentinel, .sentinel, .sentinel, .sentinel, .sentinel, .sentinel, .sentinel, .sentinel, .data, .data, .data, .data], laidTests := true, laidLooks := .later }
def NamesUptoCardSaid : Prop := Claim7.holds Tryd.pinned (.plain (OpenSpec.upto namesSpec)) namesUptoCard
end Rows
end Go.Proofs.YtnclpcnpaodjjaaDoor
