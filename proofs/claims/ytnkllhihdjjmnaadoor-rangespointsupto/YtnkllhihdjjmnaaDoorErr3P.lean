/-
  From a row's list to the refusal in memory.
-/
import Derived.Test.YtnkllhihdjjmnaaDoorRangeP
import Derived.Test.YtnkllhihdjjmnaaDoorCombW
import Derived.Stop.LaidErr
namespace Go.Proofs.YtnkllhihdjjmnaaDoor
open Go.ChangeShapes Go.WideShapes Go.ChangeAt Go.RowKit Go.Joins
theorem star : ("*" ++ "errors.errorString" : String) = "*errors.errorString" := by decide
theorem errRow (u : TypeId) (h : Tryd.prog.typeName? 3 u = some "*errors.errorString") : u = 99 :=
  typeName_ptr_named (nm := "errors.errorString") (by rw [star]; kernel_rfl) (by kernel_rfl) (by decide) u (by rw [star]; exact h)
theorem cellsErr : Tryd.prog.cellsOf 115 = 1 := by kernel_rfl
theorem cellsStr : Tryd.prog.cellsOf 9 = 1 := by kernel_rfl
theorem gArg : Tryd.prog.globalNamed "caesura/api.ErrArg" = some 0 := by kernel_rfl
theorem gArgT : (Tryd.prog.globals[0]?).map (·.type) = some 27 := by kernel_rfl
theorem err_of {W : World} {n : String} {g : Nat} {text : List UInt8} {r : List (String × DataW Unit)} (h : laidMet Tryd.prog ((n, .iface "*errors.errorString" (.ptr (.agg [.lit (.string text)]))) :: r) W)
    (hg : Tryd.prog.globalNamed n = some g) (ht : (Tryd.prog.globals[g]?).map (·.type) = some 27) : ∃ a : Addr, W.cell? ⟨g, 0, none⟩ = some (errArg a) := by
  obtain ⟨a, s, hv, _, _, _⟩ := laid_sentinel h hg ht Tryd.underlying27 errRow Tryd.underlying99 Tryd.underlying115 rfl rfl Tryd.underlying9 cellsErr cellsStr
  exact ⟨a, by simpa [errArg] using World.var?_cell hg hv 0⟩
end Go.Proofs.YtnkllhihdjjmnaaDoor
