/-
  caesuralaw1.CodecLike: the row's statement and the card.
-/
import Derived.Test.YtageiccempcbaaaDoorLikeW
import Derived.Test.YtageiccempcbaaaDoorTabP
namespace Go.Proofs.YtageiccempcbaaaDoor
open Go.ChangeShapes Go.WideShapes Go.ChangeAt Go.RowKit Go.Joins
theorem codecLike_tab {W : World} (h : laidMetH Tryd.prog Rows.codecLikeRow.laid W) : TabAt W :=
  tabAt_of (rest := []) (laidMet.tail (laidMet.tail h))
theorem cellsThree : Tryd.prog.cellsOf 37 = 3 := by kernel_rfl
set_option maxRecDepth 100000 in
theorem codecLike_walk {H : Type} (enc : TypeId × Value → H) (W : World) (base : Nat) (hL : laidMetH Tryd.prog Rows.codecLikeRow.laid W) (v : Value) (d : DataW H) (p : List MemPlace) (hv : Value.okWide Tryd.prog W .any base 37 v)
    (h0 : DataW.Trod enc Tryd.prog W 0 (fun _ => true) true 37 v d p) (_hlt : ∀ x ∈ p, x.block < W.heap.size) (hw : ∀ x ∈ d.weights Tryd.prog 37, x ≤ reachBytes) :
    Calls Tryd.prog 5 #[v] W fun e W' => e = .returned (.bool true) ∧ Below W.heap.size W W' := by
  obtain ⟨c0, c1, c2, y0, y1, y2, m, rfl, rfl, rfl, hy0, hy1, hy2⟩ := open_agg3 Tryd.underlying37 (by kernel_rfl) cellsThree hv h0
  obtain ⟨a, e0, rfl, hal⟩ := DataW.trod_string Tryd.underlying9 hy0
  obtain ⟨b, e1, rfl, hbl⟩ := DataW.trod_string Tryd.underlying9 hy1
  obtain ⟨c, e2, rfl, hcl⟩ := DataW.trod_string Tryd.underlying9 hy2
  simp at e0 e1 e2
  subst e0 e1 e2
  have h1 := hw a.data.toList.length (by simp [DataW.weights, DataW.weightsEach, Tryd.underlying37])
  have h2 := hw b.data.toList.length (by simp [DataW.weights, DataW.weightsEach, Tryd.underlying37])
  have h3 := hw c.data.toList.length (by simp [DataW.weights, DataW.weightsEach, Tryd.underlying37])
  exact like_walk a b c W (by simpa [reachBytes] using h1) (by simpa [reachBytes] using h2) (by simpa [reachBytes] using h3) (codecLike_tab hL)
set_option maxRecDepth 100000 in
theorem codecLike_lifted (os : Os) (started : os.Started) (H : Type) (enc : TypeId × Value → H) (F : Stop.Interp) :
    ReturnsInHanded {} Tryd.checked os 5 .any ((OpenSpec.ofChange Rows.codecLikeSpec).preRow enc Tryd.prog Tryd.f5 Rows.codecLikeRow.domain false Rows.codecLikeRow.laid) (((OpenSpec.ofChange Rows.codecLikeSpec).at F).post enc Tryd.prog Tryd.f5 false true false false) := by
  refine returnsInHanded_of_row (C := Tryd.checked) (s := OpenSpec.ofChange Rows.codecLikeSpec) own started (by kernel_rfl) Tryd.func5
    (witness_row_shaped (enc := enc) (C := Tryd.checked) (laidWorld (World.holding Tryd.prog os ⟨#[], #[], []⟩)) #[.agg #[.string ByteArray.empty, .string ByteArray.empty, .string ByteArray.empty]] rfl (door_shaped os _) (by kernel_rfl)
      (OpenSpec.preRow_of_cond 8 (x := ([.agg [.lit (.string []), .lit (.string []), .lit (.string [])]], [], [])) (by kernel_rfl) (by kernel_rfl) (fun k hk => by cases hk) (by kernel_rfl) (laidMet_of_run' 8 (by kernel_rfl) (by kernel_rfl)))) ?_
  intro W base args ds gs before hval hW _ _ hsz hL _ _
  exact law_contract rfl rfl rfl (fun _ _ => rfl) (by kernel_rfl) (of_decide_eq_true (by kernel_rfl)) W base args ds gs before hval hW hsz (fun v d p hv h0 hlt hw _ _ => codecLike_walk enc W base hL v d p hv h0 hlt hw )
theorem codecLike_said : Rows.CodecLikeSaid :=
  OpenClaim.holds_of_cond 5 Tryd.f5 rfl rfl rfl rfl rfl rfl rfl ⟨rfl, rfl, rfl, rfl, rfl⟩ rfl rfl rfl rfl rfl (by kernel_rfl) Tryd.func5 (by kernel_rfl)
    (of_decide_eq_true (by kernel_rfl)) (by unfold Func.isWrapper; first | (rw [if_pos (by decide +kernel)]; kernel_rfl) | (rw [if_neg (by decide +kernel)]; exact ⟨rfl, rfl⟩))
    (fun os started H enc _ F => by rw [OpenClaim.pre_eq_preRow]; exact codecLike_lifted os started H enc F)
theorem codecLike_plain (f : FuncId) (fn : Func) (hf : Tryd.pinned.checked.prog.funcNamed "caesura/caesuralaw1.CodecLike" = some f) (hfn : Tryd.pinned.checked.prog.funcs[f]? = some fn) :
    false = Tryd.pinned.checked.prog.looks [] ∧ ∀ (j : Nat) t, fn.params[j]? = some t → Tryd.pinned.checked.prog.wantsStandIn t = false := by
  obtain rfl : f = 5 := Option.some.inj ((show Tryd.prog.funcNamed "caesura/caesuralaw1.CodecLike" = some 5 by kernel_rfl).symm.trans hf) |>.symm
  obtain rfl : fn = Tryd.f5 := (Option.some.inj (Tryd.func5.symm.trans hfn)).symm
  refine ⟨by kernel_rfl, fun j t ht => ?_⟩
  rw [Tryd.params5] at ht
  obtain rfl : t = 37 := by simpa using Array.mem_of_getElem? ht
  exact (show Tryd.prog.wantsStandIn 37 = false by kernel_rfl)
theorem codecLike_card : Rows.CodecLikeCardSaid :=
  Claim7.holds_tied_plain_at .later [] _ _ _ _ codecLike_said (fun _ h => by cases h) (by kernel_rfl) (fun _ h => by cases h) codecLike_row_tie rfl ⟨rfl, rfl⟩ (by kernel_rfl) rfl codecLike_plain (by kernel_rfl)
end Go.Proofs.YtageiccempcbaaaDoor
