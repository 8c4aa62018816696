/-
  From a row's list to the refusals in memory.
-/
import Derived.Test.YtageiccempcbaaaDoorOneW
import Derived.Test.YtageiccempcbaaaDoorTabP
namespace Go.Proofs.YtageiccempcbaaaDoor
open Go.ChangeShapes Go.WideShapes Go.ChangeAt Go.RowKit Go.Joins
theorem star : ("*" ++ "errors.errorString" : String) = "*errors.errorString" := by decide
theorem errRow (u : TypeId) (h : Tryd.prog.typeName? 3 u = some "*errors.errorString") : u = 85 :=
  typeName_ptr_named (nm := "errors.errorString") (by rw [star]; kernel_rfl) (by kernel_rfl) (by decide) u (by rw [star]; exact h)
theorem cellsErr : Tryd.prog.cellsOf 101 = 1 := by kernel_rfl
theorem cellsStr : Tryd.prog.cellsOf 9 = 1 := by kernel_rfl
theorem gArg : Tryd.prog.globalNamed "caesura/api.ErrArg" = some 1 := by kernel_rfl
theorem gArgT : (Tryd.prog.globals[1]?).map (·.type) = some 51 := by kernel_rfl
theorem gShort : Tryd.prog.globalNamed "caesura/api.ErrShort" = some 3 := by kernel_rfl
theorem gShortT : (Tryd.prog.globals[3]?).map (·.type) = some 51 := by kernel_rfl
theorem gForm : Tryd.prog.globalNamed "caesura/api.ErrForm" = some 4 := by kernel_rfl
theorem gFormT : (Tryd.prog.globals[4]?).map (·.type) = some 51 := by kernel_rfl
theorem err_of {W : World} {n : String} {g : Nat} {text : List UInt8} {r : List (String × DataW Unit)} (h : laidMet Tryd.prog ((n, .iface "*errors.errorString" (.ptr (.agg [.lit (.string text)]))) :: r) W)
    (hg : Tryd.prog.globalNamed n = some g) (ht : (Tryd.prog.globals[g]?).map (·.type) = some 51) : ∃ a : Addr, W.cell? ⟨g, 0, none⟩ = some (.iface 85 (.pointer (some a))) := by
  obtain ⟨a, s, hv, _, _, _⟩ := laid_sentinel h hg ht Tryd.underlying51 errRow Tryd.underlying85 Tryd.underlying101 rfl rfl Tryd.underlying9 cellsErr cellsStr
  exact ⟨a, by simpa using World.var?_cell hg hv 0⟩
end Go.Proofs.YtageiccempcbaaaDoor
