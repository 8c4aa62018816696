/-
  DERIVED. GIVEN WITH THE SEED: THE CARDS: each row of YtlnejmmhhmmomaaGreatDoorRows.lean that lists a variable, with what it lists TIED to the program's text (the seventh form; the later family's looks); each row that meets fmt, with fmt's text TOLD by the authors' own Lean function (tested against real Go, not proved from fmt's source: count such statements apart). THE CARD IS WHAT COUNTS. Prove the row's statement (the work); the ties are given (YtlnejmmhhmmomaaGreatDoorTie.lean); close each card by the builder's one call (the guide's Derived/Test/ToyasCard.lean, 'card_holds'). Laid BY PROGRAM, IN A SANDBOX (cutbox-door.mjs). By AI agents, Wed Nov 11 2026. No macro, syntax, notation, axiom, sorry.
-/
import Derived.Test.YtlnejmmhhmmomaaGreatDoorRows
import GoSem.ClaimSeven
namespace Go.Proofs.YtlnejmmhhmmomaaGreatDoor
namespace Rows

/-- THE TIED CARD OF 'caesuralaw7.LocaleResolves'. -/
def localeResolvesCard : Claim7 := { stood := { row := localeResolvesRow, standIns := [], harness := (true, "0993c9edc9ac175b5c95527abcd4fd3d2404f0283273b3afe4765d400b1a3d2b"), looks := true }, kinds := [], alts := [], laidByText := true, laidKinds := [.data, .sentinel, .sentinel, .sentinel, .sentinel, .sentinel, .sentinel, .sentinel, .sentinel, .sentinel, .sentinel, .sentinel, .data, .pinned, .pinned], laidTests := true, laidLooks := .later }
def LocaleResolvesCardSaid : Prop := Claim7.holds Tryz.pinned (.plain (OpenSpec.ofChange localeResolvesSpec)) localeResolvesCard

/-- THE TIED CARD OF 'caesuralaw7.LocaleApart'. -/
def localeApartCard : Claim7 := { stood := { row := localeApartRow, standIns := [], harness := (true, "0993c9edc9ac175b5c95527abcd4fd3d2404f0283273b3afe4765d400b1a3d2b"), looks := true }, kinds := [], alts := [], laidByText := true, laidKinds := [.data, .sentinel, .sentinel, .sentinel, .sentinel, .sentinel, .data, .pinned, .pinned], laidTests := true, laidLooks := .later }
def LocaleApartCardSaid : Prop := Claim7.holds Tryz.pinned (.plain (OpenSpec.ofChange localeApartSpec)) localeApartCard

/-- THE SECOND FORM's CARD OF 'caesuralaw7.LocaleResolves'. -/
def localeResolvesUptoCard : Claim7 := { stood := { row := localeResolvesUptoRow, standIns := [], harness := (true, "0993c9edc9ac175b5c95527abcd4fd3d2404f0283273b3afe4765d400b1a3d2b"), looks := true }, kinds := [], alts := [], laidByText := true, laidKinds := [.data, .sentinel, .sentinel, .sentinel, .sentinel, .sentinel, .sentinel, .sentinel, .sentinel, .sentinel, .sentinel, .sentinel, .data, .pinned, .pinned], laidTests := true, laidLooks := .later }
def LocaleResolvesUptoCardSaid : Prop := Claim7.holds Tryz.pinned (.plain (OpenSpec.upto localeResolvesSpec)) localeResolvesUptoCard

/-- THE SECOND FORM's CARD OF 'caesuralaw7.LocaleApart'. -/
def localeApartUptoCard : Claim7 := { stood := { row := localeApartUptoRow, standIns := [], harness := (true, "0993c9edc9ac175b5c95527abcd4fd3d2404f0283273b3afe4765d400b1a3d2b"), looks := true }, kinds := [], alts := [], laidByText := true, laidKinds := [.data, .sentinel, .sentinel, .sentinel, .sentinel, .sentinel, .data, .pinned, .pinned], laidTests := true, laidLooks := .later }
def LocaleApartUptoCardSaid : Prop := Claim7.holds Tryz.pinned (.plain (OpenSpec.upto localeApartSpec)) localeApartUptoCard
end Rows
end Go.Proofs.YtlnejmmhhmmomaaGreatDoor
