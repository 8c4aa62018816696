/-
  ParP.
-/
import Derived.Test.YtlfeiadgahdgoaaGreatDoorMqj
import Derived.Lib.LaidU8
import Derived.Shelf.Vars
import Derived.Lay
import Derived.LaidMore
namespace Go.Proofs.YtlfeiadgahdgoaaGreatDoor
open Go.ChangeShapes Go.WideShapes Go.ChangeAt Go.RowKit Go.Joins
theorem laid_tail {P : Program} {w : World} {x : String × DataW Unit} {l : List (String × DataW Unit)} (h : laidMet P (x :: l) w) : laidMet P l w := by
  obtain ⟨ps, hl, hnd, hrows⟩ := h
  obtain ⟨g0, t0, cs0, f0, p0, q0, hg0, ht0, hv0, hd0, hl', rfl⟩ := hl
  exact ⟨q0, hl', (List.nodup_append.1 hnd).2.1, fun b off hb => hrows b off (List.mem_append_right _ hb)⟩
theorem mx_of {W : World} (h : W.ShapedOpen Tryz.prog) : Mx W :=
  cell_of_shapedOpen_int (g := 11) (t := 3) (zero := #[.int .i64 0]) (k := .i64) h (of_decide_eq_true (by kernel_rfl)) (by kernel_rfl) rfl (by kernel_rfl) (by kernel_rfl) Tryz.underlying3
theorem g64 : Tryz.prog.globalNamed "math/bits.deBruijn64tab" = some 17 := by kernel_rfl
theorem g64Type : (Tryz.prog.globals[17]?).map (·.type) = some 195 := by kernel_rfl
theorem cells64 : Tryz.prog.cellsOf 195 = 64 := by kernel_rfl
theorem cellsU8 : Tryz.prog.cellsOf 5 = 1 := by kernel_rfl
def tab64 : List Int := [0, 1, 56, 2, 57, 49, 28, 3, 61, 58, 42, 50, 38, 29, 17, 4, 62, 47, 59, 36, 45, 43, 51, 22, 53, 39, 33, 30, 24, 18, 12, 5, 63, 55, 48, 27, 60, 41, 37, 16, 46, 35, 44, 21, 52, 32, 23, 11, 54, 26, 40, 15, 34, 20, 31, 10, 25, 14, 19, 9, 13, 8, 7, 6]
theorem tab64_at : ∀ j, j < Lib.deBruijn64tab.length → tab64.getD j 0 = ((Lib.deBruijn64tab.getD j 0 : Nat) : Int) := by decide
theorem tab_of {W : World} {rest : List (String × DataW Unit)} (h : laidMet Tryz.prog (("math/bits.deBruijn64tab", Rows.laid_math_bits_deBruijn64tab) :: rest) W) : TabAt 17 Lib.deBruijn64tab W := by
  have ht : Lib.TabIs Tryz.prog W "math/bits.deBruijn64tab" .u8 tab64 :=
    Lib.tabIs_of_head (rest := rest) g64 g64Type Tryz.underlying195 Tryz.underlying5 cellsU8 cells64 h
  intro j hj
  have hc := ht.cell g64 j (by have e : tab64.length = Lib.deBruijn64tab.length := rfl; omega)
  rw [hc, tab64_at j hj]
theorem sents6_of {W : World} {rest : List (String × DataW Unit)} (h : laidMet Tryz.prog (sentList.map sentRow ++ rest) W) : ∃ A, Sent6 W A := by
  obtain ⟨ps, hl, hnd, hrows⟩ := h
  obtain ⟨xs, h1, h2, h3, h4⟩ := sents_list rest sentList ps hl hnd hrows sentTypes
  have h11 : xs.length = 11 := h1
  have hlt : ∀ i, isSent i = true → i < xs.length := fun i hi => by rcases sent_cases hi with rfl | rfl | rfl | rfl | rfl <;> omega
  have hne : ∀ i j, i < xs.length → j < xs.length → i ≠ j → xs.getD i ⟨0, 0, none⟩ ≠ xs.getD j ⟨0, 0, none⟩ := fun i j hi hj hij e => by
    simp only [List.getD_eq_getElem?_getD, List.getElem?_eq_getElem hi, List.getElem?_eq_getElem hj, Option.getD_some] at e
    exact hij ((List.getElem_inj h2).1 e)
  have hbk : ∀ i, i < xs.length → ∃ c t, W.heap[(xs.getD i ⟨0, 0, none⟩).block]? = some (.cells c t (0, 0)) := fun i hi => by
    simp only [List.getD_eq_getElem?_getD, List.getElem?_eq_getElem hi, Option.getD_some]
    exact (h3 _ (List.getElem_mem hi)).2
  refine ⟨fun i => xs.getD i ⟨0, 0, none⟩, ⟨h4 0 (by decide) _ g_ErrArg, h4 1 (by decide) _ g_ErrText, h4 2 (by decide) _ g_ErrMany, h4 4 (by decide) _ g_ErrTwice, h4 6 (by decide) _ g_ErrOrder, fun i j hi hj hij => hne i j (hlt i hi) (hlt j hj) hij, fun i hi => hbk i (hlt i hi)⟩, h4 3 (by decide) _ g_ErrShort, fun i hi => hne i 3 (hlt i hi) (by omega) (fun e => by subst e; cases hi), hbk 3 (by omega)⟩
set_option maxRecDepth 100000 in
theorem bundleParses_walk {H : Type} (enc : TypeId × Value → H) (W : World) (base : Nat) (hL : laidMetH Tryz.prog Rows.bundleParsesRow.laid W) (hSh : W.ShapedOpen Tryz.prog) (v : Value) (d : DataW H) (p : List MemPlace) (hv : Value.okWide Tryz.prog W .any base 9 v)
    (h0 : DataW.Trod enc Tryz.prog W 0 (fun _ => true) true 9 v d p) (_hlt : ∀ x ∈ p, x.block < W.heap.size) (_hw : ∀ x ∈ d.weights Tryz.prog 9, x ≤ reachBytes) :
    Calls Tryz.prog 6 #[v] W fun e W' => e = .returned (.bool true) ∧ Below W.heap.size W W' := by
  obtain ⟨s, rfl, rfl, _⟩ := Go.ChangeMaps.open_string Tryz.underlying9 hv h0
  have hL0 : laidMet Tryz.prog Rows.bundleParsesRow.laid W := hL
  have hD := tab_of (laid_tail hL0)
  have hL4 := laid_tail (laid_tail (laid_tail (laid_tail hL0)))
  obtain ⟨A, hA⟩ := sents6_of (rest := [("caesura/units.sequences", Rows.laid_caesura_units_sequences), ("strconv.ErrRange", Rows.laid_strconv_ErrRange), ("strconv.ErrSyntax", Rows.laid_strconv_ErrSyntax), ("unicode.CaseRanges", Rows.laid_unicode_CaseRanges), ("unicode/utf8.first", Rows.laid_unicode_utf8_first)]) hL4
  have hL9 := laid_tail (laid_tail (laid_tail (laid_tail (laid_tail (laid_tail (laid_tail (laid_tail (laid_tail (laid_tail (laid_tail hL4))))))))))
  have hQ : SeqAt W := seqAt_of hL9
  have hS : Syn W := syn_of (laid_tail (laid_tail hL9))
  exact bundleParses_any A s W ⟨mx_of hSh, hS, hQ, hD, hA.s⟩ hA
set_option maxRecDepth 100000 in
theorem bundleParses_lifted (os : Os) (started : os.Started) (H : Type) (enc : TypeId × Value → H) (F : Stop.Interp) :
    ReturnsInHanded {} Tryz.checked os 6 .any ((OpenSpec.ofChange Rows.bundleParsesSpec).preRow enc Tryz.prog Tryz.f6 Rows.bundleParsesRow.domain false Rows.bundleParsesRow.laid) (((OpenSpec.ofChange Rows.bundleParsesSpec).at F).post enc Tryz.prog Tryz.f6 false true false false) := by
  refine returnsInHanded_of_row (C := Tryz.checked) (s := OpenSpec.ofChange Rows.bundleParsesSpec) own started (by kernel_rfl) Tryz.func6
    (witness_row_shaped (enc := enc) (C := Tryz.checked) (World.laidAll Tryz.prog os Rows.bundleParsesRow.laid) #[.string ByteArray.empty] (World.laidAll_os _ _ _) (World.shaped_of_ZipB (by kernel_rfl) (by kernel_rfl)) (by kernel_rfl)
      (OpenSpec.preRow_of_cond 8 (x := ([.lit (.string [])], [], [])) (by kernel_rfl) (by kernel_rfl) (fun k hk => by cases hk) (by kernel_rfl) (laidMet_laidAll _ (by kernel_rfl) (by kernel_rfl)))) ?_
  intro W base args ds gs before hval hW _ _ hsz hL hSh _
  exact law_contract rfl rfl rfl (fun _ _ => rfl) (by kernel_rfl) (of_decide_eq_true (by kernel_rfl)) W base args ds gs before hval hW hsz (fun v d p hv h0 hlt hw _ _ => bundleParses_walk enc W base hL hSh v d p hv h0 hlt hw )
theorem bundleParses_said : Rows.BundleParsesSaid :=
  OpenClaim.holds_of_cond 6 Tryz.f6 rfl rfl rfl rfl rfl rfl rfl ⟨rfl, rfl, rfl, rfl, rfl⟩ rfl rfl rfl rfl rfl (by kernel_rfl) Tryz.func6 (by kernel_rfl)
    (of_decide_eq_true (by kernel_rfl)) (by unfold Func.isWrapper; first | (rw [if_pos (by decide +kernel)]; kernel_rfl) | (rw [if_neg (by decide +kernel)]; exact ⟨rfl, rfl⟩))
    (fun os started H enc _ F => by rw [OpenClaim.pre_eq_preRow]; exact bundleParses_lifted os started H enc F)
theorem bundleParses_plain (f : FuncId) (fn : Func) (hf : Tryz.pinned.checked.prog.funcNamed "caesura/caesuralaw6.BundleParses" = some f) (hfn : Tryz.pinned.checked.prog.funcs[f]? = some fn) :
    true = Tryz.pinned.checked.prog.looks [] ∧ ∀ (j : Nat) t, fn.params[j]? = some t → Tryz.pinned.checked.prog.wantsStandIn t = false := by
  obtain rfl : f = 6 := Option.some.inj ((show Tryz.prog.funcNamed "caesura/caesuralaw6.BundleParses" = some 6 by kernel_rfl).symm.trans hf) |>.symm
  obtain rfl : fn = Tryz.f6 := (Option.some.inj (Tryz.func6.symm.trans hfn)).symm
  refine ⟨by kernel_rfl, fun j t ht => ?_⟩
  rw [Tryz.params6] at ht
  obtain rfl : t = 9 := by simpa using Array.mem_of_getElem? ht
  exact (show Tryz.prog.wantsStandIn 9 = false by kernel_rfl)
theorem bundleParses_card : Rows.BundleParsesCardSaid :=
  Claim7.holds_tied_plain_at .later [] _ _ _ _ bundleParses_said (fun _ h => by cases h) (by kernel_rfl) (fun _ h => by cases h) bundleParses_row_tie rfl ⟨rfl, rfl⟩ (by kernel_rfl) rfl bundleParses_plain (by kernel_rfl)
end Go.Proofs.YtlfeiadgahdgoaaGreatDoor
