/-
  DERIVED. GIVEN WITH THE SEED: THE CARDS: each row of YthfnaalbgjeaeaaDoorRows.lean that lists a variable, with what it lists TIED to the program's text (the seventh form; the later family's looks); each row that meets fmt, with fmt's text TOLD by the authors' own Lean function (tested against real Go, not proved from fmt's source: count such statements apart). THE CARD IS WHAT COUNTS. Prove the row's statement (the work); the ties are given (YthfnaalbgjeaeaaDoorTie.lean); close each card by the builder's one call (the guide's Derived/Test/ToyasCard.lean, 'card_holds'). Laid BY PROGRAM, IN A SANDBOX (cutbox-door.mjs). By AI agents, Wed Nov 11 2026. No macro, syntax, notation, axiom, sorry.
-/
import Derived.Test.YthfnaalbgjeaeaaDoorRows
import GoSem.ClaimSeven
namespace Go.Proofs.YthfnaalbgjeaeaaDoor
namespace Rows

/-- THE TIED CARD OF 'caesuralaw8.ExprWords'. -/
def exprWordsCard : Claim7 := { stood := { row := exprWordsRow, standIns := [], harness := (true, "876baab1fa482b666ac48c6517e2036bb43a2cfd0d9764f5aa035cf70028de76"), looks := true }, kinds := [], alts := [], laidByText := true, laidKinds := [.data, .sentinel, .sentinel, .sentinel, .pinned], laidTests := true, laidLooks := .later }
def ExprWordsCardSaid : Prop := Claim7.holds Tryd.pinned (.plain (OpenSpec.ofChange exprWordsSpec)) exprWordsCard

/-- THE SECOND FORM's CARD OF 'caesuralaw8.ExprWords'. -/
def exprWordsUptoCard : Claim7 := { stood := { row := exprWordsUptoRow, standIns := [], harness := (true, "876baab1fa482b666ac48c6517e2036bb43a2cfd0d9764f5aa035cf70028de76"), looks := true }, kinds := [], alts := [], laidByText := true, laidKinds := [.data, .sentinel, .sentinel, .sentinel, .pinned], laidTests := true, laidLooks := .later }
def ExprWordsUptoCardSaid : Prop := Claim7.holds Tryd.pinned (.plain (OpenSpec.upto exprWordsSpec)) exprWordsUptoCard
end Rows
end Go.Proofs.YthfnaalbgjeaeaaDoor
