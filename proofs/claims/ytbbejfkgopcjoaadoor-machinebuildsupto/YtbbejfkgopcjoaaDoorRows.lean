/-
  NARROWER THAN 'FOR EVERY INPUT', by the rows' own cells (each row's printed sentence says how): MachineMeets: laid · MachineMost: laid · MachineStep: laid · MachineTells: laid · MachineBuilds: laid.
  DERIVED. THE GIVEN ROWS OF THIS SEAT. 5 by the template 'for every input the law returns true; each argument reads behind the call as it read before'; 0 by the template 'total and deterministic' (their statements: YtbbejfkgopcjoaaDoorTotals.lean).
  GIVEN WITH THE SEED: the statements are not yours to turn. If you find one false, say at which input.
  Laid BY PROGRAM, IN A SANDBOX (cutbox-rows.mjs): the forced cells as the released guide's own fill.sh prints them over the translation a382e5578a6ea5ac… (all of the seat's roots in one cut). By AI agents, Wed Nov 11 2026. No macro, syntax, notation, axiom, sorry.
-/
import Derived.Test.YtbbejfkgopcjoaaDoorChecked
import GoSem.Claim
import GoSem.ClaimJoined
import GoSem.ClaimMapViews
import Derived.JoinedTies
import Derived.KernelRfl
namespace Go.Proofs.YtbbejfkgopcjoaaDoor
/- THE CELL 'sum', in the pinned program and in every row, IS THE sha256 OF THE DUMP (.gsa) THAT YtbbejfkgopcjoaaDoorProg.lean LOADS. Nothing in Lean hashes anything: it is a label: what it is worth is what the hold of that sum in a sandbox is worth. -/
noncomputable def Tryd.pinned : Pinned := { name := "ytbbejfkgopcjoaadoor", sum := "a382e5578a6ea5acb227a1e1bf2ad5dafca541d732479086a2a87d677a715bb1", checked := Tryd.checked }
namespace Rows
def none {H : Type} : Left H := { results := [], args := [] }

/- WHAT THE LISTED PACKAGE-LEVEL VARIABLES READ AS WHEN THE CALL BEGINS. Each datum BY PROGRAM (the guide's laid-datum.mjs) off the statement by which the dump's own 'gosem.cut.vars' lays the variable. In a bare row this is a premise. The card (YtbbejfkgopcjoaaDoorCards.lean) ties it to the program's text. -/
def laid_math_bits_deBruijn64tab {H : Type} : DataW H := .agg [.lit (.int .u8 0), .lit (.int .u8 1), .lit (.int .u8 56), .lit (.int .u8 2), .lit (.int .u8 57), .lit (.int .u8 49), .lit (.int .u8 28), .lit (.int .u8 3), .lit (.int .u8 61), .lit (.int .u8 58), .lit (.int .u8 42), .lit (.int .u8 50), .lit (.int .u8 38), .lit (.int .u8 29), .lit (.int .u8 17), .lit (.int .u8 4), .lit (.int .u8 62), .lit (.int .u8 47), .lit (.int .u8 59), .lit (.int .u8 36), .lit (.int .u8 45), .lit (.int .u8 43), .lit (.int .u8 51), .lit (.int .u8 22), .lit (.int .u8 53), .lit (.int .u8 39), .lit (.int .u8 33), .lit (.int .u8 30), .lit (.int .u8 24), .lit (.int .u8 18), .lit (.int .u8 12), .lit (.int .u8 5), .lit (.int .u8 63), .lit (.int .u8 55), .lit (.int .u8 48), .lit (.int .u8 27), .lit (.int .u8 60), .lit (.int .u8 41), .lit (.int .u8 37), .lit (.int .u8 16), .lit (.int .u8 46), .lit (.int .u8 35), .lit (.int .u8 44), .lit (.int .u8 21), .lit (.int .u8 52), .lit (.int .u8 32), .lit (.int .u8 23), .lit (.int .u8 11), .lit (.int .u8 54), .lit (.int .u8 26), .lit (.int .u8 40), .lit (.int .u8 15), .lit (.int .u8 34), .lit (.int .u8 20), .lit (.int .u8 31), .lit (.int .u8 10), .lit (.int .u8 25), .lit (.int .u8 14), .lit (.int .u8 19), .lit (.int .u8 9), .lit (.int .u8 13), .lit (.int .u8 8), .lit (.int .u8 7), .lit (.int .u8 6)]
def laid_caesura_api_ErrArg {H : Type} : DataW H := .iface "*errors.errorString" (.ptr (.agg [.lit (.string [97, 32, 110, 117, 109, 98, 101, 114, 32, 111, 114, 32, 97, 110, 32, 97, 114, 103, 117, 109, 101, 110, 116, 32, 105, 115, 32, 111, 117, 116, 32, 111, 102, 32, 105, 116, 115, 32, 112, 108, 97, 99, 101])]))
def laid_caesura_api_ErrMany {H : Type} : DataW H := .iface "*errors.errorString" (.ptr (.agg [.lit (.string [97, 98, 111, 118, 101, 32, 97, 32, 108, 105, 109, 105, 116])]))
def laid_caesura_api_ErrText {H : Type} : DataW H := .iface "*errors.errorString" (.ptr (.agg [.lit (.string [97, 32, 116, 101, 120, 116, 32, 111, 114, 32, 98, 121, 116, 101, 115, 32, 116, 104, 97, 116, 32, 99, 97, 110, 110, 111, 116, 32, 98, 101, 32, 114, 101, 97, 100])]))
def laid_caesura_api_ErrShort {H : Type} : DataW H := .iface "*errors.errorString" (.ptr (.agg [.lit (.string [115, 111, 109, 101, 116, 104, 105, 110, 103, 32, 105, 115, 32, 109, 105, 115, 115, 105, 110, 103])]))
def laid_caesura_api_ErrTwice {H : Type} : DataW H := .iface "*errors.errorString" (.ptr (.agg [.lit (.string [116, 104, 101, 114, 101, 32, 116, 119, 105, 99, 101])]))
def laid_caesura_api_ErrLost {H : Type} : DataW H := .iface "*errors.errorString" (.ptr (.agg [.lit (.string [110, 111, 116, 32, 116, 104, 101, 114, 101])]))
def laid_caesura_api_ErrOrder {H : Type} : DataW H := .iface "*errors.errorString" (.ptr (.agg [.lit (.string [110, 111, 116, 32, 105, 110, 32, 111, 114, 100, 101, 114])]))
def laid_caesura_api_ErrCycle {H : Type} : DataW H := .iface "*errors.errorString" (.ptr (.agg [.lit (.string [103, 111, 101, 115, 32, 114, 111, 117, 110, 100, 32, 105, 110, 32, 97, 32, 99, 105, 114, 99, 108, 101])]))
def laid_caesura_api_ErrSum {H : Type} : DataW H := .iface "*errors.errorString" (.ptr (.agg [.lit (.string [116, 104, 101, 32, 115, 117, 109, 32, 100, 111, 101, 115, 32, 110, 111, 116, 32, 102, 105, 116])]))
def laid_caesura_api_ErrForm {H : Type} : DataW H := .iface "*errors.errorString" (.ptr (.agg [.lit (.string [110, 111, 116, 32, 116, 104, 101, 32, 111, 110, 101, 32, 102, 111, 114, 109, 32, 116, 104, 97, 116, 32, 105, 115, 32, 119, 114, 105, 116, 116, 101, 110])]))
def laid_caesura_api_ErrEnd {H : Type} : DataW H := .iface "*errors.errorString" (.ptr (.agg [.lit (.string [105, 116, 32, 104, 97, 115, 32, 101, 110, 100, 101, 100])]))

/-- 'caesuralaw12.MachineMeets': WHATEVER THE INPUT: true; the input reads as it did. -/
def machineMeetsSpec : ChangeSpec := { name := "machineMeets", fn := fun _ => fun
  | [d] => { results := [.lit (.bool true)], args := [d] }
  | _ => none }
def machineMeetsRow : OpenClaim := { program := "ytbbejfkgopcjoaadoor", sum := "a382e5578a6ea5acb227a1e1bf2ad5dafca541d732479086a2a87d677a715bb1", func := "caesura/caesuralaw12.MachineMeets", spec := "machineMeets", unfollowed := true, recurses := true, named := ["caesura/api.ErrArg", "caesura/api.ErrMany", "math/bits.deBruijn64tab"], apart := false, laid := [("math/bits.deBruijn64tab", laid_math_bits_deBruijn64tab), ("caesura/api.ErrArg", laid_caesura_api_ErrArg), ("caesura/api.ErrMany", laid_caesura_api_ErrMany)] }
def MachineMeetsSaid : Prop := machineMeetsRow.holds Tryd.pinned (OpenSpec.ofChange machineMeetsSpec)

/-- ITS FALSE NEIGHBOUR: 'it returns false'. Refute it at one input. -/
def machineMeetsWrong : ChangeSpec := { name := "machineMeets", fn := fun _ => fun
  | [d] => { results := [.lit (.bool false)], args := [d] }
  | _ => none }
def MachineMeetsWrongFalsely : Prop := machineMeetsRow.holds Tryd.pinned (OpenSpec.ofChange machineMeetsWrong)

/-- 'caesuralaw12.MachineMost': WHATEVER THE INPUT: true; the input reads as it did. -/
def machineMostSpec : ChangeSpec := { name := "machineMost", fn := fun _ => fun
  | [d] => { results := [.lit (.bool true)], args := [d] }
  | _ => none }
def machineMostRow : OpenClaim := { program := "ytbbejfkgopcjoaadoor", sum := "a382e5578a6ea5acb227a1e1bf2ad5dafca541d732479086a2a87d677a715bb1", func := "caesura/caesuralaw12.MachineMost", spec := "machineMost", unfollowed := true, recurses := true, named := ["caesura/api.ErrMany", "caesura/api.ErrArg", "math/bits.deBruijn64tab"], apart := false, laid := [("math/bits.deBruijn64tab", laid_math_bits_deBruijn64tab), ("caesura/api.ErrArg", laid_caesura_api_ErrArg), ("caesura/api.ErrMany", laid_caesura_api_ErrMany)] }
def MachineMostSaid : Prop := machineMostRow.holds Tryd.pinned (OpenSpec.ofChange machineMostSpec)

/-- ITS FALSE NEIGHBOUR: 'it returns false'. Refute it at one input. -/
def machineMostWrong : ChangeSpec := { name := "machineMost", fn := fun _ => fun
  | [d] => { results := [.lit (.bool false)], args := [d] }
  | _ => none }
def MachineMostWrongFalsely : Prop := machineMostRow.holds Tryd.pinned (OpenSpec.ofChange machineMostWrong)

/-- 'caesuralaw12.MachineStep': WHATEVER THE INPUT: true; the input reads as it did. -/
def machineStepSpec : ChangeSpec := { name := "machineStep", fn := fun _ => fun
  | [d] => { results := [.lit (.bool true)], args := [d] }
  | _ => none }
def machineStepRow : OpenClaim := { program := "ytbbejfkgopcjoaadoor", sum := "a382e5578a6ea5acb227a1e1bf2ad5dafca541d732479086a2a87d677a715bb1", func := "caesura/caesuralaw12.MachineStep", spec := "machineStep", unfollowed := true, recurses := true, named := ["caesura/api.ErrArg", "caesura/api.ErrMany", "math/bits.deBruijn64tab"], apart := false, laid := [("math/bits.deBruijn64tab", laid_math_bits_deBruijn64tab), ("caesura/api.ErrArg", laid_caesura_api_ErrArg), ("caesura/api.ErrMany", laid_caesura_api_ErrMany)] }
def MachineStepSaid : Prop := machineStepRow.holds Tryd.pinned (OpenSpec.ofChange machineStepSpec)

/-- ITS FALSE NEIGHBOUR: 'it returns false'. Refute it at one input. -/
def machineStepWrong : ChangeSpec := { name := "machineStep", fn := fun _ => fun
  | [d] => { results := [.lit (.bool false)], args := [d] }
  | _ => none }
def MachineStepWrongFalsely : Prop := machineStepRow.holds Tryd.pinned (OpenSpec.ofChange machineStepWrong)

/-- 'caesuralaw12.MachineTells': WHATEVER THE INPUT: true; the input reads as it did. -/
def machineTellsSpec : ChangeSpec := { name := "machineTells", fn := fun _ => fun
  | [d] => { results := [.lit (.bool true)], args := [d] }
  | _ => none }
def machineTellsRow : OpenClaim := { program := "ytbbejfkgopcjoaadoor", sum := "a382e5578a6ea5acb227a1e1bf2ad5dafca541d732479086a2a87d677a715bb1", func := "caesura/caesuralaw12.MachineTells", spec := "machineTells", unfollowed := true, recurses := true, named := ["caesura/api.ErrArg", "caesura/api.ErrMany", "math/bits.deBruijn64tab"], apart := false, laid := [("math/bits.deBruijn64tab", laid_math_bits_deBruijn64tab), ("caesura/api.ErrArg", laid_caesura_api_ErrArg), ("caesura/api.ErrMany", laid_caesura_api_ErrMany)] }
def MachineTellsSaid : Prop := machineTellsRow.holds Tryd.pinned (OpenSpec.ofChange machineTellsSpec)

/-- ITS FALSE NEIGHBOUR: 'it returns false'. Refute it at one input. -/
def machineTellsWrong : ChangeSpec := { name := "machineTells", fn := fun _ => fun
  | [d] => { results := [.lit (.bool false)], args := [d] }
  | _ => none }
def MachineTellsWrongFalsely : Prop := machineTellsRow.holds Tryd.pinned (OpenSpec.ofChange machineTellsWrong)

/-- 'caesuralaw12.MachineBuilds': WHATEVER THE INPUT: true; the input reads as it did. -/
def machineBuildsSpec : ChangeSpec := { name := "machineBuilds", fn := fun _ => fun
  | [d] => { results := [.lit (.bool true)], args := [d] }
  | _ => none }
def machineBuildsRow : OpenClaim := { program := "ytbbejfkgopcjoaadoor", sum := "a382e5578a6ea5acb227a1e1bf2ad5dafca541d732479086a2a87d677a715bb1", func := "caesura/caesuralaw12.MachineBuilds", spec := "machineBuilds", unfollowed := true, recurses := true, named := ["caesura/api.ErrArg", "caesura/api.ErrMany", "math/bits.deBruijn64tab", "caesura/api.ErrText", "caesura/api.ErrShort", "caesura/api.ErrTwice", "caesura/api.ErrOrder", "caesura/api.ErrLost", "caesura/api.ErrCycle", "caesura/api.ErrSum", "caesura/api.ErrForm", "caesura/api.ErrEnd"], apart := false, laid := [("math/bits.deBruijn64tab", laid_math_bits_deBruijn64tab), ("caesura/api.ErrArg", laid_caesura_api_ErrArg), ("caesura/api.ErrText", laid_caesura_api_ErrText), ("caesura/api.ErrMany", laid_caesura_api_ErrMany), ("caesura/api.ErrShort", laid_caesura_api_ErrShort), ("caesura/api.ErrTwice", laid_caesura_api_ErrTwice), ("caesura/api.ErrLost", laid_caesura_api_ErrLost), ("caesura/api.ErrOrder", laid_caesura_api_ErrOrder), ("caesura/api.ErrCycle", laid_caesura_api_ErrCycle), ("caesura/api.ErrSum", laid_caesura_api_ErrSum), ("caesura/api.ErrForm", laid_caesura_api_ErrForm), ("caesura/api.ErrEnd", laid_caesura_api_ErrEnd)] }
def MachineBuildsSaid : Prop := machineBuildsRow.holds Tryd.pinned (OpenSpec.ofChange machineBuildsSpec)

/-- ITS FALSE NEIGHBOUR: 'it returns false'. Refute it at one input. -/
def machineBuildsWrong : ChangeSpec := { name := "machineBuilds", fn := fun _ => fun
  | [d] => { results := [.lit (.bool false)], args := [d] }
  | _ => none }
def MachineBuildsWrongFalsely : Prop := machineBuildsRow.holds Tryd.pinned (OpenSpec.ofChange machineBuildsWrong)

/- THE SECOND FORM. 'bulk': how many values and letters a reading holds, each counted each time it is reached (what is shared counts as often as it is met; a slice's spare places count too). A statement '..UptoSaid' is the law's where the arguments, and the package variables that the reading takes, are together of bulk at most 1048576: NARROWER than '..Said'. Prove '..Said' where nothing that the law and all that it calls make is longer than what came in: it says more and counts as full. Else prove '..UptoSaid'. A law counts once. -/
mutual
def uptoBulk {H : Type} : DataW H → Nat
  | .lit (.string bytes) => bytes.length + 1
  | .lit _ => 1
  | .nil => 1
  | .ptr d => uptoBulk d + 1
  | .slice elems spare => uptoBulkAll elems + uptoBulkAll spare + 1
  | .agg parts => uptoBulkAll parts + 1
  | .iface _ d => uptoBulk d + 1
  | .map entries => uptoBulkEntries entries + 1
  | .held _ => 1
def uptoBulkAll {H : Type} : List (DataW H) → Nat
  | [] => 0
  | d :: r => uptoBulk d + uptoBulkAll r
def uptoBulkEntries {H : Type} : List (Lit × DataW H) → Nat
  | [] => 0
  | x :: r => uptoBulkEntry x + uptoBulkEntries r
def uptoBulkEntry {H : Type} : Lit × DataW H → Nat
  | (.string bytes, d) => bytes.length + uptoBulk d + 1
  | (_, d) => uptoBulk d + 1
 end
def uptoSmall : (H : Type) → List (DataW H) → Bool := fun _ ds => decide (uptoBulkAll ds ≤ 1048576)
def OpenSpec.upto (s : _root_.Go.ChangeSpec) : _root_.Go.OpenSpec := { _root_.Go.OpenSpec.ofChange s with cond := some uptoSmall }

/-- 'caesuralaw12.MachineMeets', WHERE WHAT IT READS IS OF BULK AT MOST 1048576: true; the input reads as it did. -/
def machineMeetsUptoRow : OpenClaim := { program := "ytbbejfkgopcjoaadoor", sum := "a382e5578a6ea5acb227a1e1bf2ad5dafca541d732479086a2a87d677a715bb1", func := "caesura/caesuralaw12.MachineMeets", spec := "machineMeets", unfollowed := true, recurses := true, named := ["caesura/api.ErrArg", "caesura/api.ErrMany", "math/bits.deBruijn64tab"], apart := false, laid := [("math/bits.deBruijn64tab", laid_math_bits_deBruijn64tab), ("caesura/api.ErrArg", laid_caesura_api_ErrArg), ("caesura/api.ErrMany", laid_caesura_api_ErrMany)], narrowed := true }
def MachineMeetsUptoSaid : Prop := machineMeetsUptoRow.holds Tryd.pinned (OpenSpec.upto machineMeetsSpec)

/-- 'caesuralaw12.MachineMost', WHERE WHAT IT READS IS OF BULK AT MOST 1048576: true; the input reads as it did. -/
def machineMostUptoRow : OpenClaim := { program := "ytbbejfkgopcjoaadoor", sum := "a382e5578a6ea5acb227a1e1bf2ad5dafca541d732479086a2a87d677a715bb1", func := "caesura/caesuralaw12.MachineMost", spec := "machineMost", unfollowed := true, recurses := true, named := ["caesura/api.ErrMany", "caesura/api.ErrArg", "math/bits.deBruijn64tab"], apart := false, laid := [("math/bits.deBruijn64tab", laid_math_bits_deBruijn64tab), ("caesura/api.ErrArg", laid_caesura_api_ErrArg), ("caesura/api.ErrMany", laid_caesura_api_ErrMany)], narrowed := true }
def MachineMostUptoSaid : Prop := machineMostUptoRow.holds Tryd.pinned (OpenSpec.upto machineMostSpec)

/-- 'caesuralaw12.MachineStep', WHERE WHAT IT READS IS OF BULK AT MOST 1048576: true; the input reads as it did. -/
def machineStepUptoRow : OpenClaim := { program := "ytbbejfkgopcjoaadoor", sum := "a382e5578a6ea5acb227a1e1bf2ad5dafca541d732479086a2a87d677a715bb1", func := "caesura/caesuralaw12.MachineStep", spec := "machineStep", unfollowed := true, recurses := true, named := ["caesura/api.ErrArg", "caesura/api.ErrMany", "math/bits.deBruijn64tab"], apart := false, laid := [("math/bits.deBruijn64tab", laid_math_bits_deBruijn64tab), ("caesura/api.ErrArg", laid_caesura_api_ErrArg), ("caesura/api.ErrMany", laid_caesura_api_ErrMany)], narrowed := true }
def MachineStepUptoSaid : Prop := machineStepUptoRow.holds Tryd.pinned (OpenSpec.upto machineStepSpec)

/-- 'caesuralaw12.MachineTells', WHERE WHAT IT READS IS OF BULK AT MOST 1048576: true; the input reads as it did. -/
def machineTellsUptoRow : OpenClaim := { program := "ytbbejfkgopcjoaadoor", sum := "a382e5578a6ea5acb227a1e1bf2ad5dafca541d732479086a2a87d677a715bb1", func := "caesura/caesuralaw12.MachineTells", spec := "machineTells", unfollowed := true, recurses := true, named := ["caesura/api.ErrArg", "caesura/api.ErrMany", "math/bits.deBruijn64tab"], apart := false, laid := [("math/bits.deBruijn64tab", laid_math_bits_deBruijn64tab), ("caesura/api.ErrArg", laid_caesura_api_ErrArg), ("caesura/api.ErrMany", laid_caesura_api_ErrMany)], narrowed := true }
def MachineTellsUptoSaid : Prop := machineTellsUptoRow.holds Tryd.pinned (OpenSpec.upto machineTellsSpec)

/-- 'caesuralaw12.MachineBuilds', WHERE WHAT IT READS IS OF BULK AT MOST 1048576: true; the input reads as it did. -/
def machineBuildsUptoRow : OpenClaim := { program := "ytbbejfkgopcjoaadoor", sum := "a382e5578a6ea5acb227a1e1bf2ad5dafca541d732479086a2a87d677a715bb1", func := "caesura/caesuralaw12.MachineBuilds", spec := "machineBuilds", unfollowed := true, recurses := true, named := ["caesura/api.ErrArg", "caesura/api.ErrMany", "math/bits.deBruijn64tab", "caesura/api.ErrText", "caesura/api.ErrShort", "caesura/api.ErrTwice", "caesura/api.ErrOrder", "caesura/api.ErrLost", "caesura/api.ErrCycle", "caesura/api.ErrSum", "caesura/api.ErrForm", "caesura/api.ErrEnd"], apart := false, laid := [("math/bits.deBruijn64tab", laid_math_bits_deBruijn64tab), ("caesura/api.ErrArg", laid_caesura_api_ErrArg), ("caesura/api.ErrText", laid_caesura_api_ErrText), ("caesura/api.ErrMany", laid_caesura_api_ErrMany), ("caesura/api.ErrShort", laid_caesura_api_ErrShort), ("caesura/api.ErrTwice", laid_caesura_api_ErrTwice), ("caesura/api.ErrLost", laid_caesura_api_ErrLost), ("caesura/api.ErrOrder", laid_caesura_api_ErrOrder), ("caesura/api.ErrCycle", laid_caesura_api_ErrCycle), ("caesura/api.ErrSum", laid_caesura_api_ErrSum), ("caesura/api.ErrForm", laid_caesura_api_ErrForm), ("caesura/api.ErrEnd", laid_caesura_api_ErrEnd)], narrowed := true }
def MachineBuildsUptoSaid : Prop := machineBuildsUptoRow.holds Tryd.pinned (OpenSpec.upto machineBuildsSpec)

end Rows
end Go.Proofs.YtbbejfkgopcjoaaDoor
