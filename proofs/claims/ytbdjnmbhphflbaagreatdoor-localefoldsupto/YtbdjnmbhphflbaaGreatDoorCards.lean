/-
  DERIVED. GIVEN WITH THE SEED: THE CARDS: each row of YtbdjnmbhphflbaaGreatDoorRows.lean that lists a variable, with what it lists TIED to the program's text (the seventh form; the later family's looks); each row that meets fmt, with fmt's text TOLD by the authors' own Lean function (tested against real Go, not proved from fmt's source: count such statements apart). THE CARD IS WHAT COUNTS. Prove the row's statement (the work); the ties are given (YtbdjnmbhphflbaaGreatDoorTie.lean); close each card by the builder's one call (the guide's Derived/Test/ToyasCard.lean, 'card_holds'). Laid BY PROGRAM, IN A SANDBOX (cutbox-door.mjs). By AI agents, Wed Nov 11 2026. No macro, syntax, notation, axiom, sorry.
-/
import Derived.Test.YtbdjnmbhphflbaaGreatDoorRows
import GoSem.ClaimSeven
namespace Go.Proofs.YtbdjnmbhphflbaaGreatDoor
namespace Rows

/-- THE TIED CARD OF 'caesuralaw7.LocaleAlone'. -/
def localeAloneCard : Claim7 := { stood := { row := localeAloneRow, standIns := [], harness := (true, "14322bd401dca78c728d0f13051498353c841e05666370401d2fe053436227fc"), looks := true }, kinds := [], alts := [], laidByText := true, laidKinds := [.data, .sentinel, .sentinel, .sentinel, .sentinel, .sentinel, .data, .pinned, .pinned], laidTests := true, laidLooks := .later }
def LocaleAloneCardSaid : Prop := Claim7.holds Tryz.pinned (.plain (OpenSpec.ofChange localeAloneSpec)) localeAloneCard

/-- THE TIED CARD OF 'caesuralaw7.LocaleForms'. -/
def localeFormsCard : Claim7 := { stood := { row := localeFormsRow, standIns := [], harness := (true, "14322bd401dca78c728d0f13051498353c841e05666370401d2fe053436227fc"), looks := true }, kinds := [], alts := [], laidByText := true, laidKinds := [.data, .sentinel, .sentinel, .sentinel, .sentinel, .sentinel, .sentinel, .sentinel, .sentinel, .sentinel, .sentinel, .sentinel, .data, .pinned, .pinned], laidTests := true, laidLooks := .later }
def LocaleFormsCardSaid : Prop := Claim7.holds Tryz.pinned (.plain (OpenSpec.ofChange localeFormsSpec)) localeFormsCard

/-- THE TIED CARD OF 'caesuralaw7.LocaleFolds'. -/
def localeFoldsCard : Claim7 := { stood := { row := localeFoldsRow, standIns := [], harness := (true, "14322bd401dca78c728d0f13051498353c841e05666370401d2fe053436227fc"), looks := true }, kinds := [], alts := [], laidByText := true, laidKinds := [.data, .sentinel, .sentinel, .sentinel, .sentinel, .sentinel, .sentinel, .sentinel, .sentinel, .sentinel, .sentinel, .sentinel, .data, .pinned, .pinned], laidTests := true, laidLooks := .later }
def LocaleFoldsCardSaid : Prop := Claim7.holds Tryz.pinned (.plain (OpenSpec.ofChange localeFoldsSpec)) localeFoldsCard

/-- THE TIED CARD OF 'caesuralaw7.LocaleChains'. -/
def localeChainsCard : Claim7 := { stood := { row := localeChainsRow, standIns := [], harness := (true, "14322bd401dca78c728d0f13051498353c841e05666370401d2fe053436227fc"), looks := true }, kinds := [], alts := [], laidByText := true, laidKinds := [.data, .sentinel, .sentinel, .sentinel, .sentinel, .sentinel, .sentinel, .sentinel, .sentinel, .sentinel, .sentinel, .sentinel, .data, .pinned, .pinned], laidTests := true, laidLooks := .later }
def LocaleChainsCardSaid : Prop := Claim7.holds Tryz.pinned (.plain (OpenSpec.ofChange localeChainsSpec)) localeChainsCard

/-- THE TIED CARD OF 'caesuralaw7.LocaleApart'. -/
def localeApartCard : Claim7 := { stood := { row := localeApartRow, standIns := [], harness := (true, "14322bd401dca78c728d0f13051498353c841e05666370401d2fe053436227fc"), looks := true }, kinds := [], alts := [], laidByText := true, laidKinds := [.data, .sentinel, .sentinel, .sentinel, .sentinel, .sentinel, .data, .pinned, .pinned], laidTests := true, laidLooks := .later }
def LocaleApartCardSaid : Prop := Claim7.holds Tryz.pinned (.plain (OpenSpec.ofChange localeApartSpec)) localeApartCard

/-- THE SECOND FORM's CARD OF 'caesuralaw7.LocaleAlone'. -/
def localeAloneUptoCard : Claim7 := { stood := { row := localeAloneUptoRow, standIns := [], harness := (true, "14322bd401dca78c728d0f13051498353c841e05666370401d2fe053436227fc"), looks := true }, kinds := [], alts := [], laidByText := true, laidKinds := [.data, .sentinel, .sentinel, .sentinel, .sentinel, .sentinel, .data, .pinned, .pinned], laidTests := true, laidLooks := .later }
def LocaleAloneUptoCardSaid : Prop := Claim7.holds Tryz.pinned (.plain (OpenSpec.upto localeAloneSpec)) localeAloneUptoCard

/-- THE SECOND FORM's CARD OF 'caesuralaw7.LocaleForms'. -/
def localeFormsUptoCard : Claim7 := { stood := { row := localeFormsUptoRow, standIns := [], harness := (true, "14322bd401dca78c728d0f13051498353c841e05666370401d2fe053436227fc"), looks := true }, kinds := [], alts := [], laidByText := true, laidKinds := [.data, .sentinel, .sentinel, .sentinel, .sentinel, .sentinel, .sentinel, .sentinel, .sentinel, .sentinel, .sentinel, .sentinel, .data, .pinned, .pinned], laidTests := true, laidLooks := .later }
def LocaleFormsUptoCardSaid : Prop := Claim7.holds Tryz.pinned (.plain (OpenSpec.upto localeFormsSpec)) localeFormsUptoCard

/-- THE SECOND FORM's CARD OF 'caesuralaw7.LocaleFolds'. -/
def localeFoldsUptoCard : Claim7 := { stood := { row := localeFoldsUptoRow, standIns := [], harness := (true, "14322bd401dca78c728d0f13051498353c841e05666370401d2fe053436227fc"), looks := true }, kinds := [], alts := [], laidByText := true, laidKinds := [.data, .sentinel, .sentinel, .sentinel, .sentinel, .sentinel, .sentinel, .sentinel, .sentinel, .sentinel, .sentinel, .sentinel, .data, .pinned, .pinned], laidTests := true, laidLooks := .later }
def LocaleFoldsUptoCardSaid : Prop := Claim7.holds Tryz.pinned (.plain (OpenSpec.upto localeFoldsSpec)) localeFoldsUptoCard

/-- THE SECOND FORM's CARD OF 'caesuralaw7.LocaleChains'. -/
def localeChainsUptoCard : Claim7 := { stood := { row := localeChainsUptoRow, standIns := [], harness := (true, "14322bd401dca78c728d0f13051498353c841e05666370401d2fe053436227fc"), looks := true }, kinds := [], alts := [], laidByText := true, laidKinds := [.data, .sentinel, .sentinel, .sentinel, .sentinel, .sentinel, .sentinel, .sentinel, .sentinel, .sentinel, .sentinel, .sentinel, .data, .pinned, .pinned], laidTests := true, laidLooks := .later }
def LocaleChainsUptoCardSaid : Prop := Claim7.holds Tryz.pinned (.plain (OpenSpec.upto localeChainsSpec)) localeChainsUptoCard

/-- THE SECOND FORM's CARD OF 'caesuralaw7.LocaleApart'. -/
def localeApartUptoCard : Claim7 := { stood := { row := localeApartUptoRow, standIns := [], harness := (true, "14322bd401dca78c728d0f13051498353c841e05666370401d2fe053436227fc"), looks := true }, kinds := [], alts := [], laidByText := true, laidKinds := [.data, .sentinel, .sentinel, .sentinel, .sentinel, .sentinel, .data, .pinned, .pinned], laidTests := true, laidLooks := .later }
def LocaleApartUptoCardSaid : Prop := Claim7.holds Tryz.pinned (.plain (OpenSpec.upto localeApartSpec)) localeApartUptoCard
end Rows
end Go.Proofs.YtbdjnmbhphflbaaGreatDoor
