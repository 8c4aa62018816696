/-
  caesuralaw1.CodecSums: the row's statement and the card.
-/
import Derived.Test.YtageiccempcbaaaDoorSumsW
import Derived.Test.YtageiccempcbaaaDoorDoor
namespace Go.Proofs.YtageiccempcbaaaDoor
open Go.ChangeShapes Go.WideShapes Go.ChangeAt Go.RowKit Go.Joins
open Go.ChangeMaps (open_string shut_string)
theorem gTabType : (Tryd.prog.globals[0]?).map (·.type) = some 67 := by kernel_rfl
theorem cellsTab : Tryd.prog.cellsOf 67 = 16 := by kernel_rfl
theorem cellsU32 : Tryd.prog.cellsOf 22 = 1 := by kernel_rfl
def tabI : List Int := [0, 498536548, 997073096, 651767980, 1994146192, 1802195444, 1303535960, 1342533948, 3988292384, 4027552580, 3604390888, 3412177804, 2607071920, 2262029012, 2685067896, 3183342108]
/-- What the row's list gives: the table's cells. -/
theorem tabAt_of {W : World} {rest : List (String × DataW Unit)} (h : laidMet Tryd.prog (("caesura/codec.halves", Rows.laid_caesura_codec_halves) :: rest) W) : TabAt W := by
  have ht : Lib.TabIs Tryd.prog W "caesura/codec.halves" .u32 tabI :=
    Lib.tabIs_of_head (rest := rest) gTab gTabType Tryd.underlying67 Tryd.underlying22 cellsU32 cellsTab h
  intro a
  have hlt := Crc.and15_lt a
  have hc := ht.cell gTab (a &&& 15#32).toNat (by simpa [tabI] using hlt)
  rw [Crc.u_toNat, hc]
  have e : tabI.getD (a &&& 15#32).toNat 0 = Crc.u (Crc.tab (a &&& 15#32)) := by
    unfold Crc.tab
    generalize (a &&& 15#32).toNat = n at hlt
    revert n
    decide
  rw [e]
theorem codecSums_tab {W : World} (h : laidMetH Tryd.prog Rows.codecSumsRow.laid W) : TabAt W := tabAt_of (rest := []) h
theorem cells24 : Tryd.prog.cellsOf 24 = 2 := by kernel_rfl
theorem u_of {n : Int} (wn : (Lit.int .u32 n).wf = true) : ∃ b : BitVec 32, n = Crc.u b := by
  have hb := bounds_u32 wn
  refine ⟨BitVec.ofNat 32 n.toNat, ?_⟩
  unfold Crc.u
  rw [BitVec.toNat_ofNat]
  omega
set_option maxRecDepth 100000 in
theorem codecSums_walk {H : Type} (enc : TypeId × Value → H) (W : World) (base : Nat) (hT : TabAt W) (v : Value) (d : DataW H) (p : List MemPlace) (hv : Value.okWide Tryd.prog W .any base 24 v)
    (h0 : DataW.Trod enc Tryd.prog W 0 (fun _ => true) true 24 v d p) (hw : ∀ x ∈ d.weights Tryd.prog 24, x ≤ reachBytes) :
    Calls Tryd.prog 3 #[v] W fun e W' => e = .returned (.bool true) ∧ Below W.heap.size W W' := by
  obtain ⟨c0, c1, y0, y1, m, rfl, rfl, rfl, hy0, hy1⟩ := open_agg2 Tryd.underlying24 (by kernel_rfl) cells24 hv h0
  obtain ⟨s, e0, rfl, hsl⟩ := DataW.trod_string Tryd.underlying9 hy0
  obtain ⟨n, e1, rfl, wn⟩ := DataW.trod_int Tryd.underlying22 hy1
  simp at e0 e1
  subst e0 e1
  obtain ⟨b, rfl⟩ := u_of wn
  have hs : s.size ≤ reachBytes := by
    have := hw s.data.toList.length (by simp [DataW.weights, DataW.weightsEach, Tryd.underlying24])
    simpa using this
  exact sums_walk s b W (by simpa [reachBytes] using hs) hT
set_option maxRecDepth 100000 in
theorem codecSums_lifted (os : Os) (started : os.Started) (H : Type) (enc : TypeId × Value → H) (F : Stop.Interp) :
    ReturnsInHanded {} Tryd.checked os 3 .any ((OpenSpec.ofChange Rows.codecSumsSpec).preRow enc Tryd.prog Tryd.f3 Rows.codecSumsRow.domain false Rows.codecSumsRow.laid) (((OpenSpec.ofChange Rows.codecSumsSpec).at F).post enc Tryd.prog Tryd.f3 false true false false) := by
  refine returnsInHanded_of_row (C := Tryd.checked) (s := OpenSpec.ofChange Rows.codecSumsSpec) own started (by kernel_rfl) Tryd.func3
    (witness_row_shaped (enc := enc) (C := Tryd.checked) (laidWorld (World.holding Tryd.prog os ⟨#[], #[], []⟩)) #[.agg #[.string ByteArray.empty, .int .u32 0]] rfl (door_shaped os _) (by kernel_rfl)
      (OpenSpec.preRow_of_cond 8 (x := ([.agg [.lit (.string []), .lit (.int .u32 0)]], [], [])) (by kernel_rfl) (by kernel_rfl) (fun k hk => by cases hk) (by kernel_rfl) (laidMet_of_run' 8 (by kernel_rfl) (by kernel_rfl)))) ?_
  intro W base args ds gs before hval hW _ _ hsz hL _ _
  exact law_contract rfl rfl rfl (fun _ _ => rfl) (by kernel_rfl) (of_decide_eq_true (by kernel_rfl)) W base args ds gs before hval hW hsz (fun v d p hv h0 _ hw _ _ => codecSums_walk enc W base (codecSums_tab hL) v d p hv h0 hw)
theorem codecSums_said : Rows.CodecSumsSaid :=
  OpenClaim.holds_of_cond 3 Tryd.f3 rfl rfl rfl rfl rfl rfl rfl ⟨rfl, rfl, rfl, rfl, rfl⟩ rfl rfl rfl rfl rfl (by kernel_rfl) Tryd.func3 (by kernel_rfl)
    (of_decide_eq_true (by kernel_rfl)) (by unfold Func.isWrapper; first | (rw [if_pos (by decide +kernel)]; kernel_rfl) | (rw [if_neg (by decide +kernel)]; exact ⟨rfl, rfl⟩))
    (fun os started H enc _ F => by rw [OpenClaim.pre_eq_preRow]; exact codecSums_lifted os started H enc F)
theorem codecSums_plain (f : FuncId) (fn : Func) (hf : Tryd.pinned.checked.prog.funcNamed "caesura/caesuralaw1.CodecSums" = some f) (hfn : Tryd.pinned.checked.prog.funcs[f]? = some fn) :
    false = Tryd.pinned.checked.prog.looks [] ∧ ∀ (j : Nat) t, fn.params[j]? = some t → Tryd.pinned.checked.prog.wantsStandIn t = false := by
  obtain rfl : f = 3 := Option.some.inj ((show Tryd.prog.funcNamed "caesura/caesuralaw1.CodecSums" = some 3 by kernel_rfl).symm.trans hf) |>.symm
  obtain rfl : fn = Tryd.f3 := (Option.some.inj (Tryd.func3.symm.trans hfn)).symm
  refine ⟨by kernel_rfl, fun j t ht => ?_⟩
  rw [Tryd.params3] at ht
  obtain rfl : t = 24 := by simpa using Array.mem_of_getElem? ht
  exact (show Tryd.prog.wantsStandIn 24 = false by kernel_rfl)
theorem codecSums_card : Rows.CodecSumsCardSaid :=
  Claim7.holds_tied_plain_at .later [] _ _ _ _ codecSums_said (fun _ h => by cases h) (by kernel_rfl) (fun _ h => by cases h) codecSums_row_tie rfl ⟨rfl, rfl⟩ (by kernel_rfl) rfl codecSums_plain (by kernel_rfl)
end Go.Proofs.YtageiccempcbaaaDoor
