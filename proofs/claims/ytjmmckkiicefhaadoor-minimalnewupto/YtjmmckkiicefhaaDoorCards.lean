/-
  DERIVED. GIVEN WITH THE SEED: THE CARDS: each row of YtjmmckkiicefhaaDoorRows.lean that lists a variable, with what it lists TIED to the program's text (the seventh form; the later family's looks); each row that meets fmt, with fmt's text TOLD by the authors' own Lean function (tested against real Go, not proved from fmt's source: count such statements apart). THE CARD IS WHAT COUNTS. Prove the row's statement (the work); the ties are given (YtjmmckkiicefhaaDoorTie.lean); close each card by the builder's one call (the guide's Derived/Test/ToyasCard.lean, 'card_holds'). Laid BY PROGRAM, IN A SANDBOX (cutbox-door.mjs). By AI agents, Wed Nov 11 2026. No macro, syntax, notation, axiom, sorry.
-/
import Derived.Test.YtjmmckkiicefhaaDoorRows
import GoSem.ClaimSeven
namespace Go.Proofs.YtjmmckkiicefhaaDoor
namespace Rows

/-- THE TIED CARD OF 'caesuralaw13.MinimalNew'. -/
def minimalNewCard : Claim7 := { stood := { row := minimalNewRow, standIns := [], harness := (true, "749f1ad8dba55afaa444eaf2fe1906ec7d96b9045ca167c80de9ebb320c6e5ca"), looks := false }, kinds := [], alts := [], laidByText := true, laidKinds := [.sentinel], laidTests := true, laidLooks := .later }
def MinimalNewCardSaid : Prop := Claim7.holds Tryd.pinned (.plain (OpenSpec.ofChange minimalNewSpec)) minimalNewCard

/-- THE SECOND FORM's CARD OF 'caesuralaw13.MinimalNew'. -/
def minimalNewUptoCard : Claim7 := { stood := { row := minimalNewUptoRow, standIns := [], harness := (true, "749f1ad8dba55afaa444eaf2fe1906ec7d96b9045ca167c80de9ebb320c6e5ca"), looks := false }, kinds := [], alts := [], laidByText := true, laidKinds := [.sentinel], laidTests := true, laidLooks := .later }
def MinimalNewUptoCardSaid : Prop := Claim7.holds Tryd.pinned (.plain (OpenSpec.upto minimalNewSpec)) minimalNewUptoCard
end Rows
end Go.Proofs.YtjmmckkiicefhaaDoor
