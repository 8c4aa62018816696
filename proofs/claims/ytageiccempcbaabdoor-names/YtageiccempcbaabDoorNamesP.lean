/-
  caesuralaw0.Names: the row's statement and the card.
-/
import Derived.Test.YtageiccempcbaabDoorNamesW
import Derived.Test.YtageiccempcbaabDoorSentP
namespace Go.Proofs.YtageiccempcbaabDoor
open Go.ChangeShapes Go.WideShapes Go.ChangeAt Go.RowKit
theorem gLim : Tryd.prog.globalNamed "caesura/caesuralaw0.limits" = some 0 := by kernel_rfl
theorem gLimT : (Tryd.prog.globals[0]?).map (·.type) = some 49 := by kernel_rfl
theorem gWan : Tryd.prog.globalNamed "caesura/caesuralaw0.wanted" = some 1 := by kernel_rfl
theorem gWanT : (Tryd.prog.globals[1]?).map (·.type) = some 49 := by kernel_rfl
theorem gKin : Tryd.prog.globalNamed "caesura/caesuralaw0.kinds" = some 2 := by kernel_rfl
theorem gKinT : (Tryd.prog.globals[2]?).map (·.type) = some 50 := by kernel_rfl
theorem gNum : Tryd.prog.globalNamed "caesura/caesuralaw0.numbers" = some 3 := by kernel_rfl
theorem gNumT : (Tryd.prog.globals[3]?).map (·.type) = some 50 := by kernel_rfl
theorem cells25 : Tryd.prog.cellsOf 49 = 25 := by kernel_rfl
theorem cells11 : Tryd.prog.cellsOf 50 = 11 := by kernel_rfl
theorem cellsInt : Tryd.prog.cellsOf 3 = 1 := by kernel_rfl
def limI : List Int := [1114111, 1048576, 62, 32, 65536, 500, 20000, 32, 2000, 64, 16, 64, 64, 32, 4000, 4096, 16384, 16384, 20000, 1048576, 4194304, 1048576, 64, 262144, 16777216]
def kinI : List Int := [-1, -1, 1, 2, 3, 4, 5, 6, 7, 1, 2]
theorem names_sents {W : World} (h : laidMetH Tryd.prog Rows.namesRow.laid W) : ∃ A, Sents W A := sents_of (rest := [("caesura/caesuralaw0.limits", Rows.laid_caesura_caesuralaw0_limits), ("caesura/caesuralaw0.wanted", Rows.laid_caesura_caesuralaw0_wanted), ("caesura/caesuralaw0.kinds", Rows.laid_caesura_caesuralaw0_kinds), ("caesura/caesuralaw0.numbers", Rows.laid_caesura_caesuralaw0_numbers)]) h
theorem laidMet_drop {P : Program} {w : World} : ∀ (k : Nat) {l : List (String × DataW Unit)}, laidMet P l w → laidMet P (l.drop k) w
  | 0, _, h => h
  | _ + 1, [], h => h
  | k + 1, _ :: _, h => laidMet_drop k (laidMet.tail h)
theorem names_tabs {W : World} (h : laidMetH Tryd.prog Rows.namesRow.laid W) : Tabs W (fun k => limI.getD k 0) (fun k => kinI.getD k 0) := by
  have h0 : laidMet Tryd.prog Rows.namesRow.laid W := h
  have t1 : Lib.TabIs Tryd.prog W "caesura/caesuralaw0.limits" .i64 limI := Lib.tabIs_of_head gLim gLimT Tryd.underlying49 Tryd.underlying3 cellsInt cells25 (laidMet_drop 11 h0)
  have t2 : Lib.TabIs Tryd.prog W "caesura/caesuralaw0.wanted" .i64 limI := Lib.tabIs_of_head gWan gWanT Tryd.underlying49 Tryd.underlying3 cellsInt cells25 (laidMet_drop 12 h0)
  have t3 : Lib.TabIs Tryd.prog W "caesura/caesuralaw0.kinds" .i64 kinI := Lib.tabIs_of_head gKin gKinT Tryd.underlying50 Tryd.underlying3 cellsInt cells11 (laidMet_drop 13 h0)
  have t4 : Lib.TabIs Tryd.prog W "caesura/caesuralaw0.numbers" .i64 kinI := Lib.tabIs_of_head gNum gNumT Tryd.underlying50 Tryd.underlying3 cellsInt cells11 (laidMet_drop 14 h0)
  exact ⟨fun k hk => t1.cell gLim k hk, fun k hk => t2.cell gWan k hk, fun k hk => t3.cell gKin k hk, fun k hk => t4.cell gNum k hk⟩
set_option maxRecDepth 100000 in
theorem names_lifted (os : Os) (started : os.Started) (H : Type) (enc : TypeId × Value → H) (F : Stop.Interp) :
    ReturnsInHanded {} Tryd.checked os 4 .any ((OpenSpec.ofChange Rows.namesSpec).preRow enc Tryd.prog Tryd.f4 Rows.namesRow.domain false Rows.namesRow.laid) (((OpenSpec.ofChange Rows.namesSpec).at F).post enc Tryd.prog Tryd.f4 false true false false) := by
  refine returnsInHanded_of_row (C := Tryd.checked) (s := OpenSpec.ofChange Rows.namesSpec) own started (by kernel_rfl) Tryd.func4
    (witness_row_shaped (enc := enc) (C := Tryd.checked) (laidWorld (World.holding Tryd.prog os ⟨#[], #[], []⟩)) #[] rfl (door_shaped os _) (by kernel_rfl)
      (OpenSpec.preRow_of_cond 8 (x := ([], [], [])) (by kernel_rfl) (by kernel_rfl) (fun k hk => by cases hk) (by kernel_rfl) (laidMet_of_run' 8 (by kernel_rfl) (by kernel_rfl)))) ?_
  intro W base args ds gs before _ hW _ _ _ hL _ _
  obtain ⟨A, hA⟩ := names_sents hL
  exact law_contract0 rfl rfl rfl (fun _ => rfl) W args ds gs before hW (names_walk W A _ _ hA (names_tabs hL))
theorem names_said : Rows.NamesSaid :=
  OpenClaim.holds_of_cond 4 Tryd.f4 rfl rfl rfl rfl rfl rfl rfl ⟨rfl, rfl, rfl, rfl, rfl⟩ rfl rfl rfl rfl rfl (by kernel_rfl) Tryd.func4 (by kernel_rfl)
    (of_decide_eq_true (by kernel_rfl)) (by unfold Func.isWrapper; first | (rw [if_pos (by decide +kernel)]; kernel_rfl) | (rw [if_neg (by decide +kernel)]; exact ⟨rfl, rfl⟩))
    (fun os started H enc _ F => by rw [OpenClaim.pre_eq_preRow]; exact names_lifted os started H enc F)
theorem names_plain (f : FuncId) (fn : Func) (hf : Tryd.pinned.checked.prog.funcNamed "caesura/caesuralaw0.Names" = some f) (hfn : Tryd.pinned.checked.prog.funcs[f]? = some fn) :
    true = Tryd.pinned.checked.prog.looks [] ∧ ∀ (j : Nat) t, fn.params[j]? = some t → Tryd.pinned.checked.prog.wantsStandIn t = false := by
  obtain rfl : f = 4 := Option.some.inj ((show Tryd.prog.funcNamed "caesura/caesuralaw0.Names" = some 4 by kernel_rfl).symm.trans hf) |>.symm
  obtain rfl : fn = Tryd.f4 := (Option.some.inj (Tryd.func4.symm.trans hfn)).symm
  refine ⟨by kernel_rfl, fun j t ht => ?_⟩
  rw [show Tryd.f4.params = #[] from by kernel_rfl] at ht
  simp at ht
theorem names_card : Rows.NamesCardSaid :=
  Claim7.holds_tied_plain_at .later [] _ _ _ _ names_said (fun _ h => by cases h) (by kernel_rfl) (fun _ h => by cases h) names_row_tie rfl ⟨rfl, rfl⟩ (by kernel_rfl) rfl names_plain (by kernel_rfl)
end Go.Proofs.YtageiccempcbaabDoor
