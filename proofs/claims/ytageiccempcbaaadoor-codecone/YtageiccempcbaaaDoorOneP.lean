/-
  caesuralaw1.CodecOne: the row's statement and the card.
-/
import Derived.Test.YtageiccempcbaaaDoorErrP
namespace Go.Proofs.YtageiccempcbaaaDoor
open Go.ChangeShapes Go.WideShapes Go.ChangeAt Go.RowKit Go.Joins
theorem codecOne_tab {W : World} (h : laidMetH Tryd.prog Rows.codecOneRow.laid W) : TabAt W :=
  tabAt_of (rest := []) (laidMet.tail (laidMet.tail (laidMet.tail (laidMet.tail h))))
theorem codecOne_errs {W : World} (h : laidMetH Tryd.prog Rows.codecOneRow.laid W) : ∃ pa ps pf, Errs W pa ps pf := by
  have h0 : laidMet Tryd.prog Rows.codecOneRow.laid W := h
  obtain ⟨pa, ha⟩ := err_of h0 gArg gArgT
  obtain ⟨ps, hs⟩ := err_of (laidMet.tail h0) gShort gShortT
  obtain ⟨pf, hf⟩ := err_of (laidMet.tail (laidMet.tail h0)) gForm gFormT
  exact ⟨pa, ps, pf, ha, hs, hf⟩
theorem cellsTwo : Tryd.prog.cellsOf 45 = 3 := by kernel_rfl
theorem one_walk (P : ByteArray) (N M : Int) (hN1 : -9223372036854775808 ≤ N) (hN2 : N ≤ 9223372036854775807) (hM1 : -9223372036854775808 ≤ M) (hM2 : M ≤ 9223372036854775807) (pa ps pf : Addr) (w : World) (hP : P.size ≤ 140737488351232) (ht : TabAt w) (hE : Errs w pa ps pf) :
    Calls Tryd.prog 7 #[.agg #[.string P, .int .i64 N, .int .i64 M]] w fun e w' => e = .returned (.bool true) ∧ Below w.heap.size w w' := by
  have hNp : 0 ≤ N → ∃ a : Nat, N = (a : Int) ∧ a < 9223372036854775808 := fun h => ⟨N.toNat, by omega, by omega⟩
  have hMp : 0 ≤ M → ∃ a : Nat, M = (a : Int) ∧ a < 9223372036854775808 := fun h => ⟨M.toNat, by omega, by omega⟩
  cases hr : num P.data.toList with
  | ok n k =>
    have hk := (numFrom_le 0 0 _ n k hr).2
    have hl : k + (P.size - k) = P.size := by simp at hk; omega
    by_cases h1 : N < 0
    · by_cases h2 : M < 0
      · exact one_ok_nn P N h1 M h2 n k _ pa ps pf w hP ht hE hr hl
      · obtain ⟨b, rfl, hb⟩ := hMp (by omega)
        exact one_ok_np P N h1 b hb n k _ pa ps pf w hP ht hE hr hl
    · obtain ⟨a, rfl, ha⟩ := hNp (by omega)
      by_cases h2 : M < 0
      · exact one_ok_pn P a ha M h2 n k _ pa ps pf w hP ht hE hr hl
      · obtain ⟨b, rfl, hb⟩ := hMp (by omega)
        exact one_ok_pp P a ha b hb n k _ pa ps pf w hP ht hE hr hl
  | form =>
    have e1 := congrArg (rdVal (.iface 85 (.pointer (some ps))) (.iface 85 (.pointer (some pf)))) hr
    have e2 := congrArg (rdRest P.data.toList) hr
    by_cases h1 : N < 0
    · by_cases h2 : M < 0
      · exact one_bad_nn P N h1 M h2 pf pa ps pf w hP ht hE e1 e2
      · obtain ⟨b, rfl, hb⟩ := hMp (by omega)
        exact one_bad_np P N h1 b hb pf pa ps pf w hP ht hE e1 e2
    · obtain ⟨a, rfl, ha⟩ := hNp (by omega)
      by_cases h2 : M < 0
      · exact one_bad_pn P a ha M h2 pf pa ps pf w hP ht hE e1 e2
      · obtain ⟨b, rfl, hb⟩ := hMp (by omega)
        exact one_bad_pp P a ha b hb pf pa ps pf w hP ht hE e1 e2
  | short =>
    have e1 := congrArg (rdVal (.iface 85 (.pointer (some ps))) (.iface 85 (.pointer (some pf)))) hr
    have e2 := congrArg (rdRest P.data.toList) hr
    by_cases h1 : N < 0
    · by_cases h2 : M < 0
      · exact one_bad_nn P N h1 M h2 ps pa ps pf w hP ht hE e1 e2
      · obtain ⟨b, rfl, hb⟩ := hMp (by omega)
        exact one_bad_np P N h1 b hb ps pa ps pf w hP ht hE e1 e2
    · obtain ⟨a, rfl, ha⟩ := hNp (by omega)
      by_cases h2 : M < 0
      · exact one_bad_pn P a ha M h2 ps pa ps pf w hP ht hE e1 e2
      · obtain ⟨b, rfl, hb⟩ := hMp (by omega)
        exact one_bad_pp P a ha b hb ps pa ps pf w hP ht hE e1 e2
set_option maxRecDepth 100000 in
theorem codecOne_walk {H : Type} (enc : TypeId × Value → H) (W : World) (base : Nat) (hL : laidMetH Tryd.prog Rows.codecOneRow.laid W) (v : Value) (d : DataW H) (p : List MemPlace) (hv : Value.okWide Tryd.prog W .any base 45 v)
    (h0 : DataW.Trod enc Tryd.prog W 0 (fun _ => true) true 45 v d p) (_hlt : ∀ x ∈ p, x.block < W.heap.size) (hw : ∀ x ∈ d.weights Tryd.prog 45, x ≤ reachBytes) :
    Calls Tryd.prog 7 #[v] W fun e W' => e = .returned (.bool true) ∧ Below W.heap.size W W' := by
  obtain ⟨c0, c1, c2, y0, y1, y2, m, rfl, rfl, rfl, hy0, hy1, hy2⟩ := open_agg3 Tryd.underlying45 (by kernel_rfl) cellsTwo hv h0
  obtain ⟨a, e0, rfl, hal⟩ := DataW.trod_string Tryd.underlying9 hy0
  obtain ⟨k, e1, rfl, wk⟩ := DataW.trod_int Tryd.underlying3 hy1
  obtain ⟨n, e2, rfl, wn⟩ := DataW.trod_int Tryd.underlying3 hy2
  simp at e0 e1 e2
  subst e0 e1 e2
  have h1 := hw a.data.toList.length (by simp [DataW.weights, DataW.weightsEach, Tryd.underlying45])
  have b1 := bounds_i64 wk
  have b2 := bounds_i64 wn
  obtain ⟨pa, ps, pf, hE⟩ := codecOne_errs hL
  exact one_walk a k n b1.1 b1.2 b2.1 b2.2 pa ps pf W (by simpa [reachBytes] using h1) (codecOne_tab hL) hE
set_option maxRecDepth 100000 in
theorem codecOne_lifted (os : Os) (started : os.Started) (H : Type) (enc : TypeId × Value → H) (F : Stop.Interp) :
    ReturnsInHanded {} Tryd.checked os 7 .any ((OpenSpec.ofChange Rows.codecOneSpec).preRow enc Tryd.prog Tryd.f7 Rows.codecOneRow.domain false Rows.codecOneRow.laid) (((OpenSpec.ofChange Rows.codecOneSpec).at F).post enc Tryd.prog Tryd.f7 false true false false) := by
  refine returnsInHanded_of_row (C := Tryd.checked) (s := OpenSpec.ofChange Rows.codecOneSpec) own started (by kernel_rfl) Tryd.func7
    (witness_row_shaped (enc := enc) (C := Tryd.checked) (laidWorld (World.holding Tryd.prog os ⟨#[], #[], []⟩)) #[.agg #[.string ByteArray.empty, .int .i64 0, .int .i64 0]] rfl (door_shaped os _) (by kernel_rfl)
      (OpenSpec.preRow_of_cond 8 (x := ([.agg [.lit (.string []), .lit (.int .i64 0), .lit (.int .i64 0)]], [], [])) (by kernel_rfl) (by kernel_rfl) (fun k hk => by cases hk) (by kernel_rfl) (laidMet_of_run' 8 (by kernel_rfl) (by kernel_rfl)))) ?_
  intro W base args ds gs before hval hW _ _ hsz hL _ _
  exact law_contract rfl rfl rfl (fun _ _ => rfl) (by kernel_rfl) (of_decide_eq_true (by kernel_rfl)) W base args ds gs before hval hW hsz (fun v d p hv h0 hlt hw _ _ => codecOne_walk enc W base hL v d p hv h0 hlt hw )
theorem codecOne_said : Rows.CodecOneSaid :=
  OpenClaim.holds_of_cond 7 Tryd.f7 rfl rfl rfl rfl rfl rfl rfl ⟨rfl, rfl, rfl, rfl, rfl⟩ rfl rfl rfl rfl rfl (by kernel_rfl) Tryd.func7 (by kernel_rfl)
    (of_decide_eq_true (by kernel_rfl)) (by unfold Func.isWrapper; first | (rw [if_pos (by decide +kernel)]; kernel_rfl) | (rw [if_neg (by decide +kernel)]; exact ⟨rfl, rfl⟩))
    (fun os started H enc _ F => by rw [OpenClaim.pre_eq_preRow]; exact codecOne_lifted os started H enc F)
theorem codecOne_plain (f : FuncId) (fn : Func) (hf : Tryd.pinned.checked.prog.funcNamed "caesura/caesuralaw1.CodecOne" = some f) (hfn : Tryd.pinned.checked.prog.funcs[f]? = some fn) :
    false = Tryd.pinned.checked.prog.looks [] ∧ ∀ (j : Nat) t, fn.params[j]? = some t → Tryd.pinned.checked.prog.wantsStandIn t = false := by
  obtain rfl : f = 7 := Option.some.inj ((show Tryd.prog.funcNamed "caesura/caesuralaw1.CodecOne" = some 7 by kernel_rfl).symm.trans hf) |>.symm
  obtain rfl : fn = Tryd.f7 := (Option.some.inj (Tryd.func7.symm.trans hfn)).symm
  refine ⟨by kernel_rfl, fun j t ht => ?_⟩
  rw [Tryd.params7] at ht
  obtain rfl : t = 45 := by simpa using Array.mem_of_getElem? ht
  exact (show Tryd.prog.wantsStandIn 45 = false by kernel_rfl)
theorem codecOne_card : Rows.CodecOneCardSaid :=
  Claim7.holds_tied_plain_at .later [] _ _ _ _ codecOne_said (fun _ h => by cases h) (by kernel_rfl) (fun _ h => by cases h) codecOne_row_tie rfl ⟨rfl, rfl⟩ (by kernel_rfl) rfl codecOne_plain (by kernel_rfl)
end Go.Proofs.YtageiccempcbaaaDoor
