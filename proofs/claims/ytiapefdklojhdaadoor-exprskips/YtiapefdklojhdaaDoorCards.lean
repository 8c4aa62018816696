/-
  DERIVED. GIVEN WITH THE SEED: THE CARDS: each row of YtiapefdklojhdaaDoorRows.lean that lists a variable, with what it lists TIED to the program's text (the seventh form; the later family's looks); each row that meets fmt, with fmt's text TOLD by the authors' own Lean function (tested against real Go, not proved from fmt's source: count such statements apart). THE CARD IS WHAT COUNTS. Prove the row's statement (the work); the ties are given (YtiapefdklojhdaaDoorTie.lean); close each card by the builder's one call (the guide's Derived/Test/ToyasCard.lean, 'card_holds'). Laid BY PROGRAM, IN A SANDBOX (cutbox-door.mjs). By AI agents, Wed Nov 11 2026. No macro, syntax, notation, axiom, sorry.
-/
import Derived.Test.YtiapefdklojhdaaDoorRows
import GoSem.ClaimSeven
namespace Go.Proofs.YtiapefdklojhdaaDoor
namespace Rows

/-- THE TIED CARD OF 'caesuralaw8.ExprSkips'. -/
def exprSkipsCard : Claim7 := { stood := { row := exprSkipsRow, standIns := [], harness := (true, "cf5aef386347218e5425956ab1d8ee1a28bea8e68e4e13ce771f80c842422edc"), looks := true }, kinds := [], alts := [], laidByText := true, laidKinds := [.data, .sentinel, .sentinel, .sentinel, .pinned], laidTests := true, laidLooks := .later }
def ExprSkipsCardSaid : Prop := Claim7.holds Tryd.pinned (.plain (OpenSpec.ofChange exprSkipsSpec)) exprSkipsCard

/-- THE TIED CARD OF 'caesuralaw8.ExprMemory'. -/
def exprMemoryCard : Claim7 := { stood := { row := exprMemoryRow, standIns := [], harness := (true, "cf5aef386347218e5425956ab1d8ee1a28bea8e68e4e13ce771f80c842422edc"), looks := true }, kinds := [], alts := [], laidByText := true, laidKinds := [.data, .sentinel, .sentinel, .sentinel, .pinned], laidTests := true, laidLooks := .later }
def ExprMemoryCardSaid : Prop := Claim7.holds Tryd.pinned (.plain (OpenSpec.ofChange exprMemorySpec)) exprMemoryCard

/-- THE SECOND FORM's CARD OF 'caesuralaw8.ExprSkips'. -/
def exprSkipsUptoCard : Claim7 := { stood := { row := exprSkipsUptoRow, standIns := [], harness := (true, "cf5aef386347218e5425956ab1d8ee1a28bea8e68e4e13ce771f80c842422edc"), looks := true }, kinds := [], alts := [], laidByText := true, laidKinds := [.data, .sentinel, .sentinel, .sentinel, .pinned], laidTests := true, laidLooks := .later }
def ExprSkipsUptoCardSaid : Prop := Claim7.holds Tryd.pinned (.plain (OpenSpec.upto exprSkipsSpec)) exprSkipsUptoCard

/-- THE SECOND FORM's CARD OF 'caesuralaw8.ExprMemory'. -/
def exprMemoryUptoCard : Claim7 := { stood := { row := exprMemoryUptoRow, standIns := [], harness := (true, "cf5aef386347218e5425956ab1d8ee1a28bea8e68e4e13ce771f80c842422edc"), looks := true }, kinds := [], alts := [], laidByText := true, laidKinds := [.data, .sentinel, .sentinel, .sentinel, .pinned], laidTests := true, laidLooks := .later }
def ExprMemoryUptoCardSaid : Prop := Claim7.holds Tryd.pinned (.plain (OpenSpec.upto exprMemorySpec)) exprMemoryUptoCard
end Rows
end Go.Proofs.YtiapefdklojhdaaDoor
