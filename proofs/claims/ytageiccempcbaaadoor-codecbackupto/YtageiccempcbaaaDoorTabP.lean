/-
  From a row's list to the table in memory; a number of 32 bits as a word.
-/
import Derived.Test.YtageiccempcbaaaDoorSumsW
import Derived.Test.YtageiccempcbaaaDoorDoor
import Derived.Stop.LaidErr
namespace Go.Proofs.YtageiccempcbaaaDoor
open Go.ChangeShapes Go.WideShapes Go.ChangeAt Go.RowKit Go.Joins
theorem gTabType : (Tryd.prog.globals[0]?).map (·.type) = some 67 := by kernel_rfl
theorem cellsTab : Tryd.prog.cellsOf 67 = 16 := by kernel_rfl
theorem cellsU32 : Tryd.prog.cellsOf 22 = 1 := by kernel_rfl
def tabI : List Int := [0, 498536548, 997073096, 651767980, 1994146192, 1802195444, 1303535960, 1342533948, 3988292384, 4027552580, 3604390888, 3412177804, 2607071920, 2262029012, 2685067896, 3183342108]
/-- What the row's list gives: the table's cells. -/
theorem tabAt_of {W : World} {rest : List (String × DataW Unit)} (h : laidMet Tryd.prog (("caesura/codec.halves", Rows.laid_caesura_codec_halves) :: rest) W) : TabAt W := by
  have ht : Lib.TabIs Tryd.prog W "caesura/codec.halves" .u32 tabI :=
    Lib.tabIs_of_head (rest := rest) gTab gTabType Tryd.underlying67 Tryd.underlying22 cellsU32 cellsTab h
  intro a
  have hlt := Crc.and15_lt a
  have hc := ht.cell gTab (a &&& 15#32).toNat (by simpa [tabI] using hlt)
  rw [Crc.u_toNat, hc]
  have e : tabI.getD (a &&& 15#32).toNat 0 = Crc.u (Crc.tab (a &&& 15#32)) := by
    unfold Crc.tab
    generalize (a &&& 15#32).toNat = n at hlt
    revert n
    decide
  rw [e]
theorem u_of {n : Int} (wn : (Lit.int .u32 n).wf = true) : ∃ b : BitVec 32, n = Crc.u b := by
  have hb := bounds_u32 wn
  refine ⟨BitVec.ofNat 32 n.toNat, ?_⟩
  unfold Crc.u
  rw [BitVec.toNat_ofNat]
  omega
end Go.Proofs.YtageiccempcbaaaDoor
