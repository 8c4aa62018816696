/-
  DERIVED. GIVEN WITH THE SEED: THE CARDS: each row of YtcbepmjojppokaaDoorRows.lean that lists a variable, with what it lists TIED to the program's text (the seventh form; the later family's looks); each row that meets fmt, with fmt's text TOLD by the authors' own Lean function (tested against real Go, not proved from fmt's source: count such statements apart). THE CARD IS WHAT COUNTS. Prove the row's statement (the work); the ties are given (YtcbepmjojppokaaDoorTie.lean); close each card by the builder's one call (the guide's Derived/Test/ToyasCard.lean, 'card_holds'). Laid BY PROGRAM, IN A SANDBOX (cutbox-door.mjs). By AI agents, Wed Nov 11 2026. No macro, syntax, notation, axiom, sorry.
-/
import Derived.Test.YtcbepmjojppokaaDoorRows
import GoSem.ClaimSeven
namespace Go.Proofs.YtcbepmjojppokaaDoor
namespace Rows

/-- THE TIED CARD OF 'caesuralaw25.DeskQuote'. -/
def deskQuoteCard : Claim7 := { stood := { row := deskQuoteRow, standIns := [], harness := (true, "fedfc4f8a531db5dcb66fed4ee64afe8b866e5a291aaca34533cddf65f56ad9f"), looks := true }, kinds := [], alts := [], laidByText := true, laidKinds := [.data, .sentinel, .pinned], laidTests := true, laidLooks := .later }
def DeskQuoteCardSaid : Prop := Claim7.holds Tryd.pinned (.plain (OpenSpec.ofChange deskQuoteSpec)) deskQuoteCard

/-- THE TIED CARD OF 'caesuralaw25.DeskWords'. -/
def deskWordsCard : Claim7 := { stood := { row := deskWordsRow, standIns := [], harness := (true, "fedfc4f8a531db5dcb66fed4ee64afe8b866e5a291aaca34533cddf65f56ad9f"), looks := true }, kinds := [], alts := [], laidByText := true, laidKinds := [.data, .sentinel, .sentinel, .sentinel, .sentinel, .sentinel, .sentinel, .sentinel, .sentinel, .sentinel, .sentinel, .sentinel, .pinned], laidTests := true, laidLooks := .later }
def DeskWordsCardSaid : Prop := Claim7.holds Tryd.pinned (.plain (OpenSpec.ofChange deskWordsSpec)) deskWordsCard

/-- THE SECOND FORM's CARD OF 'caesuralaw25.DeskQuote'. -/
def deskQuoteUptoCard : Claim7 := { stood := { row := deskQuoteUptoRow, standIns := [], harness := (true, "fedfc4f8a531db5dcb66fed4ee64afe8b866e5a291aaca34533cddf65f56ad9f"), looks := true }, kinds := [], alts := [], laidByText := true, laidKinds := [.data, .sentinel, .pinned], laidTests := true, laidLooks := .later }
def DeskQuoteUptoCardSaid : Prop := Claim7.holds Tryd.pinned (.plain (OpenSpec.upto deskQuoteSpec)) deskQuoteUptoCard

/-- THE SECOND FORM's CARD OF 'caesuralaw25.DeskWords'. -/
def deskWordsUptoCard : Claim7 := { stood := { row := deskWordsUptoRow, standIns := [], harness := (true, "fedfc4f8a531db5dcb66fed4ee64afe8b866e5a291aaca34533cddf65f56ad9f"), looks := true }, kinds := [], alts := [], laidByText := true, laidKinds := [.data, .sentinel, .sentinel, .sentinel, .sentinel, .sentinel, .sentinel, .sentinel, .sentinel, .sentinel, .sentinel, .sentinel, .pinned], laidTests := true, laidLooks := .later }
def DeskWordsUptoCardSaid : Prop := Claim7.holds Tryd.pinned (.plain (OpenSpec.upto deskWordsSpec)) deskWordsUptoCard
end Rows
end Go.Proofs.YtcbepmjojppokaaDoor
