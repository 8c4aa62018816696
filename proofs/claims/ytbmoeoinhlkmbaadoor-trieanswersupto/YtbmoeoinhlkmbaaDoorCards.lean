/-
  DERIVED. GIVEN WITH THE SEED: THE CARDS: each row of YtbmoeoinhlkmbaaDoorRows.lean that lists a variable, with what it lists TIED to the program's text (the seventh form; the later family's looks); each row that meets fmt, with fmt's text TOLD by the authors' own Lean function (tested against real Go, not proved from fmt's source: count such statements apart). THE CARD IS WHAT COUNTS. Prove the row's statement (the work); the ties are given (YtbmoeoinhlkmbaaDoorTie.lean); close each card by the builder's one call (the guide's Derived/Test/ToyasCard.lean, 'card_holds'). Laid BY PROGRAM, IN A SANDBOX (cutbox-door.mjs). By AI agents, Wed Nov 11 2026. No macro, syntax, notation, axiom, sorry.
-/
import Derived.Test.YtbmoeoinhlkmbaaDoorRows
import GoSem.ClaimSeven
namespace Go.Proofs.YtbmoeoinhlkmbaaDoor
namespace Rows

/-- THE TIED CARD OF 'caesuralaw15.TrieOwn'. -/
def trieOwnCard : Claim7 := { stood := { row := trieOwnRow, standIns := [], harness := (true, "a928e63d82f3d50aa96a402a06e06e2c7b625f74fcc7e04a6eadb24fb1eac4e7"), looks := true }, kinds := [], alts := [], laidByText := true, laidKinds := [.sentinel, .sentinel, .sentinel], laidTests := true, laidLooks := .later }
def TrieOwnCardSaid : Prop := Claim7.holds Tryd.pinned (.plain (OpenSpec.ofChange trieOwnSpec)) trieOwnCard

/-- THE TIED CARD OF 'caesuralaw15.TrieAnswers'. -/
def trieAnswersCard : Claim7 := { stood := { row := trieAnswersRow, standIns := [], harness := (true, "a928e63d82f3d50aa96a402a06e06e2c7b625f74fcc7e04a6eadb24fb1eac4e7"), looks := true }, kinds := [], alts := [], laidByText := true, laidKinds := [.sentinel, .sentinel, .sentinel, .sentinel, .sentinel, .sentinel, .sentinel, .sentinel, .sentinel, .sentinel, .sentinel], laidTests := true, laidLooks := .later }
def TrieAnswersCardSaid : Prop := Claim7.holds Tryd.pinned (.plain (OpenSpec.ofChange trieAnswersSpec)) trieAnswersCard

/-- THE SECOND FORM's CARD OF 'caesuralaw15.TrieOwn'. -/
def trieOwnUptoCard : Claim7 := { stood := { row := trieOwnUptoRow, standIns := [], harness := (true, "a928e63d82f3d50aa96a402a06e06e2c7b625f74fcc7e04a6eadb24fb1eac4e7"), looks := true }, kinds := [], alts := [], laidByText := true, laidKinds := [.sentinel, .sentinel, .sentinel], laidTests := true, laidLooks := .later }
def TrieOwnUptoCardSaid : Prop := Claim7.holds Tryd.pinned (.plain (OpenSpec.upto trieOwnSpec)) trieOwnUptoCard

/-- THE SECOND FORM's CARD OF 'caesuralaw15.TrieAnswers'. -/
def trieAnswersUptoCard : Claim7 := { stood := { row := trieAnswersUptoRow, standIns := [], harness := (true, "a928e63d82f3d50aa96a402a06e06e2c7b625f74fcc7e04a6eadb24fb1eac4e7"), looks := true }, kinds := [], alts := [], laidByText := true, laidKinds := [.sentinel, .sentinel, .sentinel, .sentinel, .sentinel, .sentinel, .sentinel, .sentinel, .sentinel, .sentinel, .sentinel], laidTests := true, laidLooks := .later }
def TrieAnswersUptoCardSaid : Prop := Claim7.holds Tryd.pinned (.plain (OpenSpec.upto trieAnswersSpec)) trieAnswersUptoCard
end Rows
end Go.Proofs.YtbmoeoinhlkmbaaDoor
