/-
  caesuralaw1.CodecBursts: the row's statement and the card.
-/
import Derived.Test.YtageiccempcbaaaDoorBurstsW
import Derived.Test.YtageiccempcbaaaDoorTabP
namespace Go.Proofs.YtageiccempcbaaaDoor
open Go.ChangeShapes Go.WideShapes Go.ChangeAt Go.RowKit Go.Joins
theorem codecBursts_tab {W : World} (h : laidMetH Tryd.prog Rows.codecBurstsRow.laid W) : TabAt W :=
  tabAt_of (rest := []) (laidMet.tail (laidMet.tail h))
theorem cellsBurst : Tryd.prog.cellsOf 40 = 3 := by kernel_rfl
set_option maxRecDepth 100000 in
theorem codecBursts_walk {H : Type} (enc : TypeId × Value → H) (W : World) (base : Nat) (hL : laidMetH Tryd.prog Rows.codecBurstsRow.laid W) (v : Value) (d : DataW H) (p : List MemPlace) (hv : Value.okWide Tryd.prog W .any base 40 v)
    (h0 : DataW.Trod enc Tryd.prog W 0 (fun _ => true) true 40 v d p) (_hlt : ∀ x ∈ p, x.block < W.heap.size) (hw : ∀ x ∈ d.weights Tryd.prog 40, x ≤ reachBytes) :
    Calls Tryd.prog 6 #[v] W fun e W' => e = .returned (.bool true) ∧ Below W.heap.size W W' := by
  obtain ⟨c0, c1, c2, y0, y1, y2, m, rfl, rfl, rfl, hy0, hy1, hy2⟩ := open_agg3 Tryd.underlying40 (by kernel_rfl) cellsBurst hv h0
  obtain ⟨a, e0, rfl, hal⟩ := DataW.trod_string Tryd.underlying9 hy0
  obtain ⟨k, e1, rfl, wk⟩ := DataW.trod_int Tryd.underlying3 hy1
  obtain ⟨n, e2, rfl, wn⟩ := DataW.trod_int Tryd.underlying22 hy2
  simp at e0 e1 e2
  subst e0 e1 e2
  obtain ⟨t, rfl⟩ := u_of wn
  have h1 := hw a.data.toList.length (by simp [DataW.weights, DataW.weightsEach, Tryd.underlying40])
  exact bursts_walk a k t W (by simpa [reachBytes] using h1) (codecBursts_tab hL)
set_option maxRecDepth 100000 in
theorem codecBursts_lifted (os : Os) (started : os.Started) (H : Type) (enc : TypeId × Value → H) (F : Stop.Interp) :
    ReturnsInHanded {} Tryd.checked os 6 .any ((OpenSpec.ofChange Rows.codecBurstsSpec).preRow enc Tryd.prog Tryd.f6 Rows.codecBurstsRow.domain false Rows.codecBurstsRow.laid) (((OpenSpec.ofChange Rows.codecBurstsSpec).at F).post enc Tryd.prog Tryd.f6 false true false false) := by
  refine returnsInHanded_of_row (C := Tryd.checked) (s := OpenSpec.ofChange Rows.codecBurstsSpec) own started (by kernel_rfl) Tryd.func6
    (witness_row_shaped (enc := enc) (C := Tryd.checked) (laidWorld (World.holding Tryd.prog os ⟨#[], #[], []⟩)) #[.agg #[.string ByteArray.empty, .int .i64 0, .int .u32 0]] rfl (door_shaped os _) (by kernel_rfl)
      (OpenSpec.preRow_of_cond 8 (x := ([.agg [.lit (.string []), .lit (.int .i64 0), .lit (.int .u32 0)]], [], [])) (by kernel_rfl) (by kernel_rfl) (fun k hk => by cases hk) (by kernel_rfl) (laidMet_of_run' 8 (by kernel_rfl) (by kernel_rfl)))) ?_
  intro W base args ds gs before hval hW _ _ hsz hL _ _
  exact law_contract rfl rfl rfl (fun _ _ => rfl) (by kernel_rfl) (of_decide_eq_true (by kernel_rfl)) W base args ds gs before hval hW hsz (fun v d p hv h0 hlt hw _ _ => codecBursts_walk enc W base hL v d p hv h0 hlt hw )
theorem codecBursts_said : Rows.CodecBurstsSaid :=
  OpenClaim.holds_of_cond 6 Tryd.f6 rfl rfl rfl rfl rfl rfl rfl ⟨rfl, rfl, rfl, rfl, rfl⟩ rfl rfl rfl rfl rfl (by kernel_rfl) Tryd.func6 (by kernel_rfl)
    (of_decide_eq_true (by kernel_rfl)) (by unfold Func.isWrapper; first | (rw [if_pos (by decide +kernel)]; kernel_rfl) | (rw [if_neg (by decide +kernel)]; exact ⟨rfl, rfl⟩))
    (fun os started H enc _ F => by rw [OpenClaim.pre_eq_preRow]; exact codecBursts_lifted os started H enc F)
theorem codecBursts_plain (f : FuncId) (fn : Func) (hf : Tryd.pinned.checked.prog.funcNamed "caesura/caesuralaw1.CodecBursts" = some f) (hfn : Tryd.pinned.checked.prog.funcs[f]? = some fn) :
    false = Tryd.pinned.checked.prog.looks [] ∧ ∀ (j : Nat) t, fn.params[j]? = some t → Tryd.pinned.checked.prog.wantsStandIn t = false := by
  obtain rfl : f = 6 := Option.some.inj ((show Tryd.prog.funcNamed "caesura/caesuralaw1.CodecBursts" = some 6 by kernel_rfl).symm.trans hf) |>.symm
  obtain rfl : fn = Tryd.f6 := (Option.some.inj (Tryd.func6.symm.trans hfn)).symm
  refine ⟨by kernel_rfl, fun j t ht => ?_⟩
  rw [Tryd.params6] at ht
  obtain rfl : t = 40 := by simpa using Array.mem_of_getElem? ht
  exact (show Tryd.prog.wantsStandIn 40 = false by kernel_rfl)
theorem codecBursts_card : Rows.CodecBurstsCardSaid :=
  Claim7.holds_tied_plain_at .later [] _ _ _ _ codecBursts_said (fun _ h => by cases h) (by kernel_rfl) (fun _ h => by cases h) codecBursts_row_tie rfl ⟨rfl, rfl⟩ (by kernel_rfl) rfl codecBursts_plain (by kernel_rfl)
end Go.Proofs.YtageiccempcbaaaDoor
