/-
  caesuralaw5.PropsSpans, where what it reads is of the bulk that the second form tells: the row's statement and the card.
-/
import Derived.Test.YtgmicmepcmmcaaaDoorPbS3W
import Derived.Test.YtgmicmepcmmcaaaDoorPbOqP
namespace Go.Proofs.YtgmicmepcmmcaaaDoor
open Go.ChangeShapes Go.WideShapes Go.ChangeAt Go.RowKit Go.Joins
set_option maxRecDepth 100000 in
theorem propsSpans_walk {H : Type} (enc : TypeId × Value → H) (W : World) (base : Nat) (hL : laidMetH Tryd.prog Rows.propsSpansUptoRow.laid W) (v : Value) (d : DataW H) (p : List MemPlace) (hv : Value.okWide Tryd.prog W .any base 28 v)
    (h0 : DataW.Trod enc Tryd.prog W 0 (fun _ => true) true 28 v d p) (_hlt : ∀ x ∈ p, x.block < W.heap.size) (_hw : ∀ x ∈ d.weights Tryd.prog 28, x ≤ reachBytes) (hk : Rows.uptoSmall H ([d] ++ []) = true) :
    Calls Tryd.prog 3 #[v] W fun e W' => e = .returned (.bool true) ∧ Below W.heap.size W W' := by
  obtain ⟨c0, c1, c2, c3, y0, y1, y2, n, rfl, rfl, hy0, hy1⟩ := open_four hv h0
  obtain ⟨z0, z1, k, hz, hz0, hz1⟩ := open_prop hy0
  obtain ⟨aN, L, cN, rfl, hsa, hnil, hN, hLb, hLs⟩ := open_names hz0
  obtain ⟨aS, S, cS, rfl, hpa, hS, hSb, _⟩ := open_spans hz1
  obtain ⟨aP, ps, cP, rfl, hia, hb⟩ := open_points hy1
  obtain ⟨A, hA⟩ := sents5_of (rest := []) hL
  have hs := of_decide_eq_true hk
  rw [hz] at hs
  simp only [List.append_nil, Rows.uptoBulkAll, Rows.uptoBulk] at hs
  refine propsSpans_any A L S ps aN aS aP cN cS cP c3 W hN (by omega) hS (by omega) (by omega) hnil (fun s hs' => by have := hLs s hs'; omega) hsa hpa (fun q hq => ?_) hia hA
  subst hq
  exact spans_block hv
set_option maxRecDepth 100000 in
theorem propsSpans_lifted (os : Os) (started : os.Started) (H : Type) (enc : TypeId × Value → H) (F : Stop.Interp) :
    ReturnsInHanded {} Tryd.checked os 3 .any ((Rows.OpenSpec.upto Rows.propsSpansSpec).preRow enc Tryd.prog Tryd.f3 Rows.propsSpansUptoRow.domain false Rows.propsSpansUptoRow.laid) (((Rows.OpenSpec.upto Rows.propsSpansSpec).at F).post enc Tryd.prog Tryd.f3 false true false false) := by
  refine returnsInHanded_of_row (C := Tryd.checked) (s := Rows.OpenSpec.upto Rows.propsSpansSpec) own started (by kernel_rfl) Tryd.func3
    (witness_row_shaped (enc := enc) (C := Tryd.checked) (laidWorld (World.holding Tryd.prog os ⟨#[], #[], []⟩)) #[.agg #[.slice none 0 0, .slice none 0 0, .slice none 0 0, .string ByteArray.empty]] rfl (door_shaped os _) (by kernel_rfl)
      (OpenSpec.preRow_of_cond 8 (x := ([.agg [.agg [.nil, .nil], .nil, .lit (.string [])]], [], [])) (by kernel_rfl) (by kernel_rfl) (fun k hk => by cases hk; kernel_rfl) (by kernel_rfl) (laidMet_of_run' 8 (by kernel_rfl) (by kernel_rfl)))) ?_
  intro W base args ds gs before hval hW _ hcond hsz hL _ _
  exact law_contract rfl rfl rfl (fun _ _ => rfl) (by kernel_rfl) (of_decide_eq_true (by kernel_rfl)) W base args ds gs before hval hW hsz (fun v d p hv h0 hlt hw e1 e2 => propsSpans_walk enc W base hL v d p hv h0 hlt hw (by have := hcond _ rfl; rw [e1, e2] at this; exact this))
theorem propsSpans_said : Rows.PropsSpansUptoSaid :=
  OpenClaim.holds_of_cond 3 Tryd.f3 rfl rfl rfl rfl rfl rfl rfl ⟨rfl, rfl, rfl, rfl, rfl⟩ rfl rfl rfl rfl rfl (by kernel_rfl) Tryd.func3 (by kernel_rfl)
    (of_decide_eq_true (by kernel_rfl)) (by unfold Func.isWrapper; first | (rw [if_pos (by decide +kernel)]; kernel_rfl) | (rw [if_neg (by decide +kernel)]; exact ⟨rfl, rfl⟩))
    (fun os started H enc _ F => by rw [OpenClaim.pre_eq_preRow]; exact propsSpans_lifted os started H enc F)
theorem propsSpans_plain (f : FuncId) (fn : Func) (hf : Tryd.pinned.checked.prog.funcNamed "caesura/caesuralaw5.PropsSpans" = some f) (hfn : Tryd.pinned.checked.prog.funcs[f]? = some fn) :
    true = Tryd.pinned.checked.prog.looks [] ∧ ∀ (j : Nat) t, fn.params[j]? = some t → Tryd.pinned.checked.prog.wantsStandIn t = false := by
  obtain rfl : f = 3 := Option.some.inj ((show Tryd.prog.funcNamed "caesura/caesuralaw5.PropsSpans" = some 3 by kernel_rfl).symm.trans hf) |>.symm
  obtain rfl : fn = Tryd.f3 := (Option.some.inj (Tryd.func3.symm.trans hfn)).symm
  refine ⟨by kernel_rfl, fun j t ht => ?_⟩
  rw [Tryd.params3] at ht
  obtain rfl : t = 28 := by simpa using Array.mem_of_getElem? ht
  exact (show Tryd.prog.wantsStandIn 28 = false by kernel_rfl)
theorem propsSpans_card : Rows.PropsSpansUptoCardSaid :=
  Claim7.holds_tied_plain_at .later [] _ _ _ _ propsSpans_said (fun _ h => by cases h) (by kernel_rfl) (fun _ h => by cases h) propsSpansUpto_row_tie rfl ⟨rfl, rfl⟩ (by kernel_rfl) rfl propsSpans_plain (by kernel_rfl)
end Go.Proofs.YtgmicmepcmmcaaaDoor
