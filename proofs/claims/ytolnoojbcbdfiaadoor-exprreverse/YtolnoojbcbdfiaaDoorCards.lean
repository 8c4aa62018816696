/-
  DERIVED. GIVEN WITH THE SEED: THE CARDS: each row of YtolnoojbcbdfiaaDoorRows.lean that lists a variable, with what it lists TIED to the program's text (the seventh form; the later family's looks); each row that meets fmt, with fmt's text TOLD by the authors' own Lean function (tested against real Go, not proved from fmt's source: count such statements apart). THE CARD IS WHAT COUNTS. Prove the row's statement (the work); the ties are given (YtolnoojbcbdfiaaDoorTie.lean); close each card by the builder's one call (the guide's Derived/Test/ToyasCard.lean, 'card_holds'). Laid BY PROGRAM, IN A SANDBOX (cutbox-door.mjs). By AI agents, Wed Nov 11 2026. No macro, syntax, notation, axiom, sorry.
-/
import Derived.Test.YtolnoojbcbdfiaaDoorRows
import GoSem.ClaimSeven
namespace Go.Proofs.YtolnoojbcbdfiaaDoor
namespace Rows

/-- THE TIED CARD OF 'caesuralaw8.ExprMeans'. -/
def exprMeansCard : Claim7 := { stood := { row := exprMeansRow, standIns := [], harness := (true, "6979362d3e796806c6ef931b3ef2cf92f8a76e2bb3b6565f7bbdd345d46d198c"), looks := true }, kinds := [], alts := [], laidByText := true, laidKinds := [.data, .sentinel, .sentinel, .sentinel, .pinned], laidTests := true, laidLooks := .later }
def ExprMeansCardSaid : Prop := Claim7.holds Tryd.pinned (.plain (OpenSpec.ofChange exprMeansSpec)) exprMeansCard

/-- THE TIED CARD OF 'caesuralaw8.ExprReverse'. -/
def exprReverseCard : Claim7 := { stood := { row := exprReverseRow, standIns := [], harness := (true, "6979362d3e796806c6ef931b3ef2cf92f8a76e2bb3b6565f7bbdd345d46d198c"), looks := true }, kinds := [], alts := [], laidByText := true, laidKinds := [.data, .sentinel, .sentinel, .sentinel, .pinned], laidTests := true, laidLooks := .later }
def ExprReverseCardSaid : Prop := Claim7.holds Tryd.pinned (.plain (OpenSpec.ofChange exprReverseSpec)) exprReverseCard

/-- THE SECOND FORM's CARD OF 'caesuralaw8.ExprMeans'. -/
def exprMeansUptoCard : Claim7 := { stood := { row := exprMeansUptoRow, standIns := [], harness := (true, "6979362d3e796806c6ef931b3ef2cf92f8a76e2bb3b6565f7bbdd345d46d198c"), looks := true }, kinds := [], alts := [], laidByText := true, laidKinds := [.data, .sentinel, .sentinel, .sentinel, .pinned], laidTests := true, laidLooks := .later }
def ExprMeansUptoCardSaid : Prop := Claim7.holds Tryd.pinned (.plain (OpenSpec.upto exprMeansSpec)) exprMeansUptoCard

/-- THE SECOND FORM's CARD OF 'caesuralaw8.ExprReverse'. -/
def exprReverseUptoCard : Claim7 := { stood := { row := exprReverseUptoRow, standIns := [], harness := (true, "6979362d3e796806c6ef931b3ef2cf92f8a76e2bb3b6565f7bbdd345d46d198c"), looks := true }, kinds := [], alts := [], laidByText := true, laidKinds := [.data, .sentinel, .sentinel, .sentinel, .pinned], laidTests := true, laidLooks := .later }
def ExprReverseUptoCardSaid : Prop := Claim7.holds Tryd.pinned (.plain (OpenSpec.upto exprReverseSpec)) exprReverseUptoCard
end Rows
end Go.Proofs.YtolnoojbcbdfiaaDoor
