/-
  DERIVED. GIVEN WITH THE SEED: THE CARDS: each row of YtamgjdgnlcoapaaDoorRows.lean that lists a variable, with what it lists TIED to the program's text (the seventh form; the later family's looks); each row that meets fmt, with fmt's text TOLD by the authors' own Lean function (tested against real Go, not proved from fmt's source: count such statements apart). THE CARD IS WHAT COUNTS. Prove the row's statement (the work); the ties are given (YtamgjdgnlcoapaaDoorTie.lean); close each card by the builder's one call (the guide's Derived/Test/ToyasCard.lean, 'card_holds'). Laid BY PROGRAM, IN A SANDBOX (cutbox-door.mjs). By AI agents, Wed Nov 11 2026. No macro, syntax, notation, axiom, sorry.
-/
import Derived.Test.YtamgjdgnlcoapaaDoorRows
import GoSem.ClaimSeven
namespace Go.Proofs.YtamgjdgnlcoapaaDoor
namespace Rows

/-- THE TIED CARD OF 'caesuralaw15.TriePieces'. -/
def triePiecesCard : Claim7 := { stood := { row := triePiecesRow, standIns := [], harness := (true, "af61d2bdcd3a1decdb84e64af2c745410af1a9bcee857111937d4597e1b08390"), looks := true }, kinds := [], alts := [], laidByText := true, laidKinds := [.sentinel, .sentinel, .sentinel], laidTests := true, laidLooks := .later }
def TriePiecesCardSaid : Prop := Claim7.holds Tryd.pinned (.plain (OpenSpec.ofChange triePiecesSpec)) triePiecesCard

/-- THE TIED CARD OF 'caesuralaw15.TrieAll'. -/
def trieAllCard : Claim7 := { stood := { row := trieAllRow, standIns := [], harness := (true, "af61d2bdcd3a1decdb84e64af2c745410af1a9bcee857111937d4597e1b08390"), looks := true }, kinds := [], alts := [], laidByText := true, laidKinds := [.sentinel, .sentinel, .sentinel], laidTests := true, laidLooks := .later }
def TrieAllCardSaid : Prop := Claim7.holds Tryd.pinned (.plain (OpenSpec.ofChange trieAllSpec)) trieAllCard

/-- THE TIED CARD OF 'caesuralaw15.TrieLongest'. -/
def trieLongestCard : Claim7 := { stood := { row := trieLongestRow, standIns := [], harness := (true, "af61d2bdcd3a1decdb84e64af2c745410af1a9bcee857111937d4597e1b08390"), looks := true }, kinds := [], alts := [], laidByText := true, laidKinds := [.sentinel, .sentinel, .sentinel], laidTests := true, laidLooks := .later }
def TrieLongestCardSaid : Prop := Claim7.holds Tryd.pinned (.plain (OpenSpec.ofChange trieLongestSpec)) trieLongestCard

/-- THE TIED CARD OF 'caesuralaw15.TrieOwn'. -/
def trieOwnCard : Claim7 := { stood := { row := trieOwnRow, standIns := [], harness := (true, "af61d2bdcd3a1decdb84e64af2c745410af1a9bcee857111937d4597e1b08390"), looks := true }, kinds := [], alts := [], laidByText := true, laidKinds := [.sentinel, .sentinel, .sentinel], laidTests := true, laidLooks := .later }
def TrieOwnCardSaid : Prop := Claim7.holds Tryd.pinned (.plain (OpenSpec.ofChange trieOwnSpec)) trieOwnCard

/-- THE TIED CARD OF 'caesuralaw15.TrieAnswers'. -/
def trieAnswersCard : Claim7 := { stood := { row := trieAnswersRow, standIns := [], harness := (true, "af61d2bdcd3a1decdb84e64af2c745410af1a9bcee857111937d4597e1b08390"), looks := true }, kinds := [], alts := [], laidByText := true, laidKinds := [.sentinel, .sentinel, .sentinel, .sentinel, .sentinel, .sentinel, .sentinel, .sentinel, .sentinel, .sentinel, .sentinel], laidTests := true, laidLooks := .later }
def TrieAnswersCardSaid : Prop := Claim7.holds Tryd.pinned (.plain (OpenSpec.ofChange trieAnswersSpec)) trieAnswersCard

/-- THE SECOND FORM's CARD OF 'caesuralaw15.TriePieces'. -/
def triePiecesUptoCard : Claim7 := { stood := { row := triePiecesUptoRow, standIns := [], harness := (true, "af61d2bdcd3a1decdb84e64af2c745410af1a9bcee857111937d4597e1b08390"), looks := true }, kinds := [], alts := [], laidByText := true, laidKinds := [.sentinel, .sentinel, .sentinel], laidTests := true, laidLooks := .later }
def TriePiecesUptoCardSaid : Prop := Claim7.holds Tryd.pinned (.plain (OpenSpec.upto triePiecesSpec)) triePiecesUptoCard

/-- THE SECOND FORM's CARD OF 'caesuralaw15.TrieAll'. -/
def trieAllUptoCard : Claim7 := { stood := { row := trieAllUptoRow, standIns := [], harness := (true, "af61d2bdcd3a1decdb84e64af2c745410af1a9bcee857111937d4597e1b08390"), looks := true }, kinds := [], alts := [], laidByText := true, laidKinds := [.sentinel, .sentinel, .sentinel], laidTests := true, laidLooks := .later }
def TrieAllUptoCardSaid : Prop := Claim7.holds Tryd.pinned (.plain (OpenSpec.upto trieAllSpec)) trieAllUptoCard

/-- THE SECOND FORM's CARD OF 'caesuralaw15.TrieLongest'. -/
def trieLongestUptoCard : Claim7 := { stood := { row := trieLongestUptoRow, standIns := [], harness := (true, "af61d2bdcd3a1decdb84e64af2c745410af1a9bcee857111937d4597e1b08390"), looks := true }, kinds := [], alts := [], laidByText := true, laidKinds := [.sentinel, .sentinel, .sentinel], laidTests := true, laidLooks := .later }
def TrieLongestUptoCardSaid : Prop := Claim7.holds Tryd.pinned (.plain (OpenSpec.upto trieLongestSpec)) trieLongestUptoCard

/-- THE SECOND FORM's CARD OF 'caesuralaw15.TrieOwn'. -/
def trieOwnUptoCard : Claim7 := { stood := { row := trieOwnUptoRow, standIns := [], harness := (true, "af61d2bdcd3a1decdb84e64af2c745410af1a9bcee857111937d4597e1b08390"), looks := true }, kinds := [], alts := [], laidByText := true, laidKinds := [.sentinel, .sentinel, .sentinel], laidTests := true, laidLooks := .later }
def TrieOwnUptoCardSaid : Prop := Claim7.holds Tryd.pinned (.plain (OpenSpec.upto trieOwnSpec)) trieOwnUptoCard

/-- THE SECOND FORM's CARD OF 'caesuralaw15.TrieAnswers'. -/
def trieAnswersUptoCard : Claim7 := { stood := { row := trieAnswersUptoRow, standIns := [], harness := (true, "af61d2bdcd3a1decdb84e64af2c745410af1a9bcee857111937d4597e1b08390"), looks := true }, kinds := [], alts := [], laidByText := true, laidKinds := [.sentinel, .sentinel, .sentinel, .sentinel, .sentinel, .sentinel, .sentinel, .sentinel, .sentinel, .sentinel, .sentinel], laidTests := true, laidLooks := .later }
def TrieAnswersUptoCardSaid : Prop := Claim7.holds Tryd.pinned (.plain (OpenSpec.upto trieAnswersSpec)) trieAnswersUptoCard
end Rows
end Go.Proofs.YtamgjdgnlcoapaaDoor
