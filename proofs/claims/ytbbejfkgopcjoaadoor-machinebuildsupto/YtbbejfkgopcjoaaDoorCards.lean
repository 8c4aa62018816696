/-
  DERIVED. GIVEN WITH THE SEED: THE CARDS: each row of YtbbejfkgopcjoaaDoorRows.lean that lists a variable, with what it lists TIED to the program's text (the seventh form; the later family's looks); each row that meets fmt, with fmt's text TOLD by the authors' own Lean function (tested against real Go, not proved from fmt's source: count such statements apart). THE CARD IS WHAT COUNTS. Prove the row's statement (the work); the ties are given (YtbbejfkgopcjoaaDoorTie.lean); close each card by the builder's one call (the guide's Derived/Test/ToyasCard.lean, 'card_holds'). Laid BY PROGRAM, IN A SANDBOX (cutbox-door.mjs). By AI agents, Wed Nov 11 2026. No macro, syntax, notation, axiom, sorry.
-/
import Derived.Test.YtbbejfkgopcjoaaDoorRows
import GoSem.ClaimSeven
namespace Go.Proofs.YtbbejfkgopcjoaaDoor
namespace Rows

/-- THE TIED CARD OF 'caesuralaw12.MachineMeets'. -/
def machineMeetsCard : Claim7 := { stood := { row := machineMeetsRow, standIns := [], harness := (true, "d6b8446549003ea0bb033d8df42864cf3b751a1551d0433967ba37273aed88a1"), looks := true }, kinds := [], alts := [], laidByText := true, laidKinds := [.data, .sentinel, .sentinel], laidTests := true, laidLooks := .later }
def MachineMeetsCardSaid : Prop := Claim7.holds Tryd.pinned (.plain (OpenSpec.ofChange machineMeetsSpec)) machineMeetsCard

/-- THE TIED CARD OF 'caesuralaw12.MachineMost'. -/
def machineMostCard : Claim7 := { stood := { row := machineMostRow, standIns := [], harness := (true, "d6b8446549003ea0bb033d8df42864cf3b751a1551d0433967ba37273aed88a1"), looks := true }, kinds := [], alts := [], laidByText := true, laidKinds := [.data, .sentinel, .sentinel], laidTests := true, laidLooks := .later }
def MachineMostCardSaid : Prop := Claim7.holds Tryd.pinned (.plain (OpenSpec.ofChange machineMostSpec)) machineMostCard

/-- THE TIED CARD OF 'caesuralaw12.MachineStep'. -/
def machineStepCard : Claim7 := { stood := { row := machineStepRow, standIns := [], harness := (true, "d6b8446549003ea0bb033d8df42864cf3b751a1551d0433967ba37273aed88a1"), looks := true }, kinds := [], alts := [], laidByText := true, laidKinds := [.data, .sentinel, .sentinel], laidTests := true, laidLooks := .later }
def MachineStepCardSaid : Prop := Claim7.holds Tryd.pinned (.plain (OpenSpec.ofChange machineStepSpec)) machineStepCard

/-- THE TIED CARD OF 'caesuralaw12.MachineTells'. -/
def machineTellsCard : Claim7 := { stood := { row := machineTellsRow, standIns := [], harness := (true, "d6b8446549003ea0bb033d8df42864cf3b751a1551d0433967ba37273aed88a1"), looks := true }, kinds := [], alts := [], laidByText := true, laidKinds := [.data, .sentinel, .sentinel], laidTests := true, laidLooks := .later }
def MachineTellsCardSaid : Prop := Claim7.holds Tryd.pinned (.plain (OpenSpec.ofChange machineTellsSpec)) machineTellsCard

/-- THE TIED CARD OF 'caesuralaw12.MachineBuilds'. -/
def machineBuildsCard : Claim7 := { stood := { row := machineBuildsRow, standIns := [], harness := (true, "d6b8446549003ea0bb033d8df42864cf3b751a1551d0433967ba37273aed88a1"), looks := true }, kinds := [], alts := [], laidByText := true, laidKinds := [.data, .sentinel, .sentinel, .sentinel, .sentinel, .sentinel, .sentinel, .sentinel, .sentinel, .sentinel, .sentinel, .sentinel], laidTests := true, laidLooks := .later }
def MachineBuildsCardSaid : Prop := Claim7.holds Tryd.pinned (.plain (OpenSpec.ofChange machineBuildsSpec)) machineBuildsCard

/-- THE SECOND FORM's CARD OF 'caesuralaw12.MachineMeets'. -/
def machineMeetsUptoCard : Claim7 := { stood := { row := machineMeetsUptoRow, standIns := [], harness := (true, "d6b8446549003ea0bb033d8df42864cf3b751a1551d0433967ba37273aed88a1"), looks := true }, kinds := [], alts := [], laidByText := true, laidKinds := [.data, .sentinel, .sentinel], laidTests := true, laidLooks := .later }
def MachineMeetsUptoCardSaid : Prop := Claim7.holds Tryd.pinned (.plain (OpenSpec.upto machineMeetsSpec)) machineMeetsUptoCard

/-- THE SECOND FORM's CARD OF 'caesuralaw12.MachineMost'. -/
def machineMostUptoCard : Claim7 := { stood := { row := machineMostUptoRow, standIns := [], harness := (true, "d6b8446549003ea0bb033d8df42864cf3b751a1551d0433967ba37273aed88a1"), looks := true }, kinds := [], alts := [], laidByText := true, laidKinds := [.data, .sentinel, .sentinel], laidTests := true, laidLooks := .later }
def MachineMostUptoCardSaid : Prop := Claim7.holds Tryd.pinned (.plain (OpenSpec.upto machineMostSpec)) machineMostUptoCard

/-- THE SECOND FORM's CARD OF 'caesuralaw12.MachineStep'. -/
def machineStepUptoCard : Claim7 := { stood := { row := machineStepUptoRow, standIns := [], harness := (true, "d6b8446549003ea0bb033d8df42864cf3b751a1551d0433967ba37273aed88a1"), looks := true }, kinds := [], alts := [], laidByText := true, laidKinds := [.data, .sentinel, .sentinel], laidTests := true, laidLooks := .later }
def MachineStepUptoCardSaid : Prop := Claim7.holds Tryd.pinned (.plain (OpenSpec.upto machineStepSpec)) machineStepUptoCard

/-- THE SECOND FORM's CARD OF 'caesuralaw12.MachineTells'. -/
def machineTellsUptoCard : Claim7 := { stood := { row := machineTellsUptoRow, standIns := [], harness := (true, "d6b8446549003ea0bb033d8df42864cf3b751a1551d0433967ba37273aed88a1"), looks := true }, kinds := [], alts := [], laidByText := true, laidKinds := [.data, .sentinel, .sentinel], laidTests := true, laidLooks := .later }
def MachineTellsUptoCardSaid : Prop := Claim7.holds Tryd.pinned (.plain (OpenSpec.upto machineTellsSpec)) machineTellsUptoCard

/-- THE SECOND FORM's CARD OF 'caesuralaw12.MachineBuilds'. -/
def machineBuildsUptoCard : Claim7 := { stood := { row := machineBuildsUptoRow, standIns := [], harness := (true, "d6b8446549003ea0bb033d8df42864cf3b751a1551d0433967ba37273aed88a1"), looks := true }, kinds := [], alts := [], laidByText := true, laidKinds := [.data, .sentinel, .sentinel, .sentinel, .sentinel, .sentinel, .sentinel, .sentinel, .sentinel, .sentinel, .sentinel, .sentinel], laidTests := true, laidLooks := .later }
def MachineBuildsUptoCardSaid : Prop := Claim7.holds Tryd.pinned (.plain (OpenSpec.upto machineBuildsSpec)) machineBuildsUptoCard
end Rows
end Go.Proofs.YtbbejfkgopcjoaaDoor
