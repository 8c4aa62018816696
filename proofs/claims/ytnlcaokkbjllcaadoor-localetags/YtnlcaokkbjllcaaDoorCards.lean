/-
  DERIVED. GIVEN WITH THE SEED: THE CARDS: each row of YtnlcaokkbjllcaaDoorRows.lean that lists a variable, with what it lists TIED to the program's text (the seventh form; the later family's looks); each row that meets fmt, with fmt's text TOLD by the authors' own Lean function (tested against real Go, not proved from fmt's source: count such statements apart). THE CARD IS WHAT COUNTS. Prove the row's statement (the work); the ties are given (YtnlcaokkbjllcaaDoorTie.lean); close each card by the builder's one call (the guide's Derived/Test/ToyasCard.lean, 'card_holds'). Laid BY PROGRAM, IN A SANDBOX (cutbox-door.mjs). By AI agents, Wed Nov 11 2026. No macro, syntax, notation, axiom, sorry.
-/
import Derived.Test.YtnlcaokkbjllcaaDoorRows
import GoSem.ClaimSeven
namespace Go.Proofs.YtnlcaokkbjllcaaDoor
namespace Rows

/-- THE TIED CARD OF 'caesuralaw7.LocaleTags'. -/
def localeTagsCard : Claim7 := { stood := { row := localeTagsRow, standIns := [], harness := (true, "5346470cd1b89b24a9f3a8404b5ec551fc4264ebe1c962356bd2b990f7da1cb2"), looks := true }, kinds := [], alts := [], laidByText := true, laidKinds := [.data, .sentinel, .sentinel, .sentinel, .sentinel, .sentinel, .sentinel, .sentinel, .sentinel, .sentinel, .sentinel, .sentinel, .data, .pinned, .pinned], laidTests := true, laidLooks := .later }
def LocaleTagsCardSaid : Prop := Claim7.holds Tryd.pinned (.plain (OpenSpec.ofChange localeTagsSpec)) localeTagsCard

/-- THE SECOND FORM's CARD OF 'caesuralaw7.LocaleTags'. -/
def localeTagsUptoCard : Claim7 := { stood := { row := localeTagsUptoRow, standIns := [], harness := (true, "5346470cd1b89b24a9f3a8404b5ec551fc4264ebe1c962356bd2b990f7da1cb2"), looks := true }, kinds := [], alts := [], laidByText := true, laidKinds := [.data, .sentinel, .sentinel, .sentinel, .sentinel, .sentinel, .sentinel, .sentinel, .sentinel, .sentinel, .sentinel, .sentinel, .data, .pinned, .pinned], laidTests := true, laidLooks := .later }
def LocaleTagsUptoCardSaid : Prop := Claim7.holds Tryd.pinned (.plain (OpenSpec.upto localeTagsSpec)) localeTagsUptoCard
end Rows
end Go.Proofs.YtnlcaokkbjllcaaDoor
