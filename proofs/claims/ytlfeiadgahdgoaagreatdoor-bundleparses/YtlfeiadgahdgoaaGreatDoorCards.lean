/-
  DERIVED. GIVEN WITH THE SEED: THE CARDS: each row of YtlfeiadgahdgoaaGreatDoorRows.lean that lists a variable, with what it lists TIED to the program's text (the seventh form; the later family's looks); each row that meets fmt, with fmt's text TOLD by the authors' own Lean function (tested against real Go, not proved from fmt's source: count such statements apart). THE CARD IS WHAT COUNTS. Prove the row's statement (the work); the ties are given (YtlfeiadgahdgoaaGreatDoorTie.lean); close each card by the builder's one call (the guide's Derived/Test/ToyasCard.lean, 'card_holds'). Laid BY PROGRAM, IN A SANDBOX (cutbox-door.mjs). By AI agents, Wed Nov 11 2026. No macro, syntax, notation, axiom, sorry.
-/
import Derived.Test.YtlfeiadgahdgoaaGreatDoorRows
import GoSem.ClaimSeven
namespace Go.Proofs.YtlfeiadgahdgoaaGreatDoor
namespace Rows

/-- THE TIED CARD OF 'caesuralaw6.BundleBack'. -/
def bundleBackCard : Claim7 := { stood := { row := bundleBackRow, standIns := [], harness := (true, "061762733047347665f6ab816cb42b36a1baf9ea383c36a1c4a5598da1d9714b"), looks := true }, kinds := [], alts := [], laidByText := true, laidKinds := [.data, .data, .data, .data, .sentinel, .sentinel, .sentinel, .sentinel, .sentinel, .data, .sentinel, .sentinel, .pinned, .pinned], laidTests := true, laidLooks := .later }
def BundleBackCardSaid : Prop := Claim7.holds Tryz.pinned (.plain (OpenSpec.ofChange bundleBackSpec)) bundleBackCard

/-- THE TIED CARD OF 'caesuralaw6.BundleAgain'. -/
def bundleAgainCard : Claim7 := { stood := { row := bundleAgainRow, standIns := [], harness := (true, "061762733047347665f6ab816cb42b36a1baf9ea383c36a1c4a5598da1d9714b"), looks := true }, kinds := [], alts := [], laidByText := true, laidKinds := [.data, .data, .data, .data, .sentinel, .sentinel, .sentinel, .sentinel, .sentinel, .data, .sentinel, .sentinel, .pinned, .pinned], laidTests := true, laidLooks := .later }
def BundleAgainCardSaid : Prop := Claim7.holds Tryz.pinned (.plain (OpenSpec.ofChange bundleAgainSpec)) bundleAgainCard

/-- THE TIED CARD OF 'caesuralaw6.BundleHolds'. -/
def bundleHoldsCard : Claim7 := { stood := { row := bundleHoldsRow, standIns := [], harness := (true, "061762733047347665f6ab816cb42b36a1baf9ea383c36a1c4a5598da1d9714b"), looks := true }, kinds := [], alts := [], laidByText := true, laidKinds := [.data, .data, .data, .data, .sentinel, .sentinel, .sentinel, .sentinel, .sentinel, .data, .sentinel, .sentinel, .pinned, .pinned], laidTests := true, laidLooks := .later }
def BundleHoldsCardSaid : Prop := Claim7.holds Tryz.pinned (.plain (OpenSpec.ofChange bundleHoldsSpec)) bundleHoldsCard

/-- THE TIED CARD OF 'caesuralaw6.BundleParses'. -/
def bundleParsesCard : Claim7 := { stood := { row := bundleParsesRow, standIns := [], harness := (true, "061762733047347665f6ab816cb42b36a1baf9ea383c36a1c4a5598da1d9714b"), looks := true }, kinds := [], alts := [], laidByText := true, laidKinds := [.data, .data, .data, .data, .sentinel, .sentinel, .sentinel, .sentinel, .sentinel, .sentinel, .sentinel, .sentinel, .sentinel, .sentinel, .sentinel, .data, .sentinel, .sentinel, .pinned, .pinned], laidTests := true, laidLooks := .later }
def BundleParsesCardSaid : Prop := Claim7.holds Tryz.pinned (.plain (OpenSpec.ofChange bundleParsesSpec)) bundleParsesCard

/-- THE SECOND FORM's CARD OF 'caesuralaw6.BundleBack'. -/
def bundleBackUptoCard : Claim7 := { stood := { row := bundleBackUptoRow, standIns := [], harness := (true, "061762733047347665f6ab816cb42b36a1baf9ea383c36a1c4a5598da1d9714b"), looks := true }, kinds := [], alts := [], laidByText := true, laidKinds := [.data, .data, .data, .data, .sentinel, .sentinel, .sentinel, .sentinel, .sentinel, .data, .sentinel, .sentinel, .pinned, .pinned], laidTests := true, laidLooks := .later }
def BundleBackUptoCardSaid : Prop := Claim7.holds Tryz.pinned (.plain (OpenSpec.upto bundleBackSpec)) bundleBackUptoCard

/-- THE SECOND FORM's CARD OF 'caesuralaw6.BundleAgain'. -/
def bundleAgainUptoCard : Claim7 := { stood := { row := bundleAgainUptoRow, standIns := [], harness := (true, "061762733047347665f6ab816cb42b36a1baf9ea383c36a1c4a5598da1d9714b"), looks := true }, kinds := [], alts := [], laidByText := true, laidKinds := [.data, .data, .data, .data, .sentinel, .sentinel, .sentinel, .sentinel, .sentinel, .data, .sentinel, .sentinel, .pinned, .pinned], laidTests := true, laidLooks := .later }
def BundleAgainUptoCardSaid : Prop := Claim7.holds Tryz.pinned (.plain (OpenSpec.upto bundleAgainSpec)) bundleAgainUptoCard

/-- THE SECOND FORM's CARD OF 'caesuralaw6.BundleHolds'. -/
def bundleHoldsUptoCard : Claim7 := { stood := { row := bundleHoldsUptoRow, standIns := [], harness := (true, "061762733047347665f6ab816cb42b36a1baf9ea383c36a1c4a5598da1d9714b"), looks := true }, kinds := [], alts := [], laidByText := true, laidKinds := [.data, .data, .data, .data, .sentinel, .sentinel, .sentinel, .sentinel, .sentinel, .data, .sentinel, .sentinel, .pinned, .pinned], laidTests := true, laidLooks := .later }
def BundleHoldsUptoCardSaid : Prop := Claim7.holds Tryz.pinned (.plain (OpenSpec.upto bundleHoldsSpec)) bundleHoldsUptoCard

/-- THE SECOND FORM's CARD OF 'caesuralaw6.BundleParses'. -/
def bundleParsesUptoCard : Claim7 := { stood := { row := bundleParsesUptoRow, standIns := [], harness := (true, "061762733047347665f6ab816cb42b36a1baf9ea383c36a1c4a5598da1d9714b"), looks := true }, kinds := [], alts := [], laidByText := true, laidKinds := [.data, .data, .data, .data, .sentinel, .sentinel, .sentinel, .sentinel, .sentinel, .sentinel, .sentinel, .sentinel, .sentinel, .sentinel, .sentinel, .data, .sentinel, .sentinel, .pinned, .pinned], laidTests := true, laidLooks := .later }
def BundleParsesUptoCardSaid : Prop := Claim7.holds Tryz.pinned (.plain (OpenSpec.upto bundleParsesSpec)) bundleParsesUptoCard
end Rows
end Go.Proofs.YtlfeiadgahdgoaaGreatDoor
