/-
  McxP.
-/
import Derived.Test.YtleeedjpccooaaaDoorNca
import Derived.Test.YtleeedjpccooaaaDoorNao
namespace Go.Proofs.YtleeedjpccooaaaDoor
open Go.ChangeShapes Go.WideShapes Go.ChangeAt Go.RowKit Go.Joins
set_option maxRecDepth 100000 in
theorem machineStep_walk {H : Type} (enc : TypeId × Value → H) (W : World) (base : Nat) (hL : laidMetH Tryd.prog Rows.machineStepUptoRow.laid W) (v : Value) (d : DataW H) (p : List MemPlace) (hv : Value.okWide Tryd.prog W .any base 38 v)
    (h0 : DataW.Trod enc Tryd.prog W 0 (fun _ => true) true 38 v d p) (_hlt : ∀ x ∈ p, x.block < W.heap.size) (_hw : ∀ x ∈ d.weights Tryd.prog 38, x ≤ reachBytes) (hk : Rows.uptoSmall H ([d] ++ []) = true) :
    Calls Tryd.prog 5 #[v] W fun e W' => e = .returned (.bool true) ∧ Below W.heap.size W W' := by
  have hs := of_decide_eq_true hk
  simp only [List.append_nil, Rows.uptoBulkAll] at hs
  obtain ⟨A, hA⟩ := env_of hL
  obtain ⟨aP, aW, rs, Wd, cP, cW, sy, rfl, hp, hb, hW, hy, hwl, _⟩ := open_read hv h0 (by omega)
  exact machineStep_any A rs sy Wd aP aW cP cW W ⟨hp, hA, hb, hy.2, hy.1, by decide, by decide⟩ hW
set_option maxRecDepth 100000 in
theorem machineStep_lifted (os : Os) (started : os.Started) (H : Type) (enc : TypeId × Value → H) (F : Stop.Interp) :
    ReturnsInHanded {} Tryd.checked os 5 .any ((Rows.OpenSpec.upto Rows.machineStepSpec).preRow enc Tryd.prog Tryd.f5 Rows.machineStepUptoRow.domain false Rows.machineStepUptoRow.laid) (((Rows.OpenSpec.upto Rows.machineStepSpec).at F).post enc Tryd.prog Tryd.f5 false true false false) := by
  refine returnsInHanded_of_row (C := Tryd.checked) (s := Rows.OpenSpec.upto Rows.machineStepSpec) own started (by kernel_rfl) Tryd.func5
    (witness_row_shaped (enc := enc) (C := Tryd.checked) (World.laidAll Tryd.prog os Rows.machineStepUptoRow.laid) #[.agg #[.slice none 0 0, .int .i64 0, .slice none 0 0]] (World.laidAll_os _ _ _) (World.shaped_of_ZipB (by kernel_rfl) (by kernel_rfl)) (by kernel_rfl)
      (OpenSpec.preRow_of_cond 8 (x := ([.agg [.nil, .lit (.int .i64 0), .nil]], [], [])) (by kernel_rfl) (by kernel_rfl) (fun k hk => by cases hk; kernel_rfl) (by kernel_rfl) (laidMet_laidAll _ (by kernel_rfl) (by kernel_rfl)))) ?_
  intro W base args ds gs before hval hW _ hcond hsz hL _ _
  exact law_contract rfl rfl rfl (fun _ _ => rfl) (by kernel_rfl) (of_decide_eq_true (by kernel_rfl)) W base args ds gs before hval hW hsz (fun v d p hv h0 hlt hw e1 e2 => machineStep_walk enc W base hL v d p hv h0 hlt hw (by have := hcond _ rfl; rw [e1, e2] at this; exact this))
theorem machineStep_said : Rows.MachineStepUptoSaid :=
  OpenClaim.holds_of_cond 5 Tryd.f5 rfl rfl rfl rfl rfl rfl rfl ⟨rfl, rfl, rfl, rfl, rfl⟩ rfl rfl rfl rfl rfl (by kernel_rfl) Tryd.func5 (by kernel_rfl)
    (of_decide_eq_true (by kernel_rfl)) (by unfold Func.isWrapper; first | (rw [if_pos (by decide +kernel)]; kernel_rfl) | (rw [if_neg (by decide +kernel)]; exact ⟨rfl, rfl⟩))
    (fun os started H enc _ F => by rw [OpenClaim.pre_eq_preRow]; exact machineStep_lifted os started H enc F)
theorem machineStep_plain (f : FuncId) (fn : Func) (hf : Tryd.pinned.checked.prog.funcNamed "caesura/caesuralaw12.MachineStep" = some f) (hfn : Tryd.pinned.checked.prog.funcs[f]? = some fn) :
    true = Tryd.pinned.checked.prog.looks [] ∧ ∀ (j : Nat) t, fn.params[j]? = some t → Tryd.pinned.checked.prog.wantsStandIn t = false := by
  obtain rfl : f = 5 := Option.some.inj ((show Tryd.prog.funcNamed "caesura/caesuralaw12.MachineStep" = some 5 by kernel_rfl).symm.trans hf) |>.symm
  obtain rfl : fn = Tryd.f5 := (Option.some.inj (Tryd.func5.symm.trans hfn)).symm
  refine ⟨by kernel_rfl, fun j t ht => ?_⟩
  rw [Tryd.params5] at ht
  obtain rfl : t = 38 := by simpa using Array.mem_of_getElem? ht
  exact (show Tryd.prog.wantsStandIn 38 = false by kernel_rfl)
theorem machineStep_card : Rows.MachineStepUptoCardSaid :=
  Claim7.holds_tied_plain_at .later [] _ _ _ _ machineStep_said (fun _ h => by cases h) (by kernel_rfl) (fun _ h => by cases h) machineStepUpto_row_tie rfl ⟨rfl, rfl⟩ (by kernel_rfl) rfl machineStep_plain (by kernel_rfl)
end Go.Proofs.YtleeedjpccooaaaDoor
