/-
  DERIVED. GIVEN WITH THE SEED: THE CARDS: each row of YtpimameogmkpcaaDoorRows.lean that lists a variable, with what it lists TIED to the program's text (the seventh form; the later family's looks); each row that meets fmt, with fmt's text TOLD by the authors' own Lean function (tested against real Go, not proved from fmt's source: count such statements apart). THE CARD IS WHAT COUNTS. Prove the row's statement (the work); the ties are given (YtpimameogmkpcaaDoorTie.lean); close each card by the builder's one call (the guide's Derived/Test/ToyasCard.lean, 'card_holds'). Laid BY PROGRAM, IN A SANDBOX (cutbox-door.mjs). By AI agents, Wed Nov 11 2026. No macro, syntax, notation, axiom, sorry.
-/
import Derived.Test.YtpimameogmkpcaaDoorRows
import GoSem.ClaimSeven
namespace Go.Proofs.YtpimameogmkpcaaDoor
namespace Rows

/-- THE TIED CARD OF 'caesuralaw5.PropsSpans'. -/
def propsSpansCard : Claim7 := { stood := { row := propsSpansRow, standIns := [], harness := (true, "b4fa7e1af061e86e4d44b973f918651ef7d048b795fd56c0433ce50a8c6702df"), looks := true }, kinds := [], alts := [], laidByText := true, laidKinds := [.sentinel, .sentinel, .sentinel, .sentinel, .sentinel], laidTests := true, laidLooks := .later }
def PropsSpansCardSaid : Prop := Claim7.holds Tryd.pinned (.plain (OpenSpec.ofChange propsSpansSpec)) propsSpansCard

/-- THE TIED CARD OF 'caesuralaw5.PropsMemory'. -/
def propsMemoryCard : Claim7 := { stood := { row := propsMemoryRow, standIns := [], harness := (true, "b4fa7e1af061e86e4d44b973f918651ef7d048b795fd56c0433ce50a8c6702df"), looks := true }, kinds := [], alts := [], laidByText := true, laidKinds := [.sentinel, .sentinel, .sentinel, .sentinel, .sentinel], laidTests := true, laidLooks := .later }
def PropsMemoryCardSaid : Prop := Claim7.holds Tryd.pinned (.plain (OpenSpec.ofChange propsMemorySpec)) propsMemoryCard

/-- THE TIED CARD OF 'caesuralaw5.PropsTables'. -/
def propsTablesCard : Claim7 := { stood := { row := propsTablesRow, standIns := [], harness := (true, "b4fa7e1af061e86e4d44b973f918651ef7d048b795fd56c0433ce50a8c6702df"), looks := true }, kinds := [], alts := [], laidByText := true, laidKinds := [.sentinel, .sentinel, .sentinel, .sentinel, .sentinel, .sentinel, .sentinel, .sentinel, .sentinel, .sentinel, .sentinel], laidTests := true, laidLooks := .later }
def PropsTablesCardSaid : Prop := Claim7.holds Tryd.pinned (.plain (OpenSpec.ofChange propsTablesSpec)) propsTablesCard

/-- THE SECOND FORM's CARD OF 'caesuralaw5.PropsSpans'. -/
def propsSpansUptoCard : Claim7 := { stood := { row := propsSpansUptoRow, standIns := [], harness := (true, "b4fa7e1af061e86e4d44b973f918651ef7d048b795fd56c0433ce50a8c6702df"), looks := true }, kinds := [], alts := [], laidByText := true, laidKinds := [.sentinel, .sentinel, .sentinel, .sentinel, .sentinel], laidTests := true, laidLooks := .later }
def PropsSpansUptoCardSaid : Prop := Claim7.holds Tryd.pinned (.plain (OpenSpec.upto propsSpansSpec)) propsSpansUptoCard

/-- THE SECOND FORM's CARD OF 'caesuralaw5.PropsMemory'. -/
def propsMemoryUptoCard : Claim7 := { stood := { row := propsMemoryUptoRow, standIns := [], harness := (true, "b4fa7e1af061e86e4d44b973f918651ef7d048b795fd56c0433ce50a8c6702df"), looks := true }, kinds := [], alts := [], laidByText := true, laidKinds := [.sentinel, .sentinel, .sentinel, .sentinel, .sentinel], laidTests := true, laidLooks := .later }
def PropsMemoryUptoCardSaid : Prop := Claim7.holds Tryd.pinned (.plain (OpenSpec.upto propsMemorySpec)) propsMemoryUptoCard

/-- THE SECOND FORM's CARD OF 'caesuralaw5.PropsTables'. -/
def propsTablesUptoCard : Claim7 := { stood := { row := propsTablesUptoRow, standIns := [], harness := (true, "b4fa7e1af061e86e4d44b973f918651ef7d048b795fd56c0433ce50a8c6702df"), looks := true }, kinds := [], alts := [], laidByText := true, laidKinds := [.sentinel, .sentinel, .sentinel, .sentinel, .sentinel, .sentinel, .sentinel, .sentinel, .sentinel, .sentinel, .sentinel], laidTests := true, laidLooks := .later }
def PropsTablesUptoCardSaid : Prop := Claim7.holds Tryd.pinned (.plain (OpenSpec.upto propsTablesSpec)) propsTablesUptoCard
end Rows
end Go.Proofs.YtpimameogmkpcaaDoor
