/-
  caesuralaw4.PropApart, at every text: the row's statement and the card.
-/
import Derived.Test.YtiiflacadndhcaaGreatDoorPfApW
import Derived.Test.YtiiflacadndhcaaGreatDoorSentP
import Derived.Lay
namespace Go.Proofs.YtiiflacadndhcaaGreatDoor
open Go.ChangeShapes Go.WideShapes Go.ChangeAt Go.RowKit Go.Joins
theorem laid_tail {P : Program} {w : World} {x : String × DataW Unit} {l : List (String × DataW Unit)} (h : laidMet P (x :: l) w) : laidMet P l w := by
  obtain ⟨ps, hl, hnd, hrows⟩ := h
  obtain ⟨g0, t0, cs0, f0, p0, q0, hg0, ht0, hv0, hd0, hl', rfl⟩ := hl
  exact ⟨q0, hl', (List.nodup_append.1 hnd).2.1, fun b off hb => hrows b off (List.mem_append_right _ hb)⟩
theorem g64 : Tryz.prog.globalNamed "math/bits.deBruijn64tab" = some 19 := by kernel_rfl
theorem g64Type : (Tryz.prog.globals[19]?).map (·.type) = some 246 := by kernel_rfl
theorem cells64 : Tryz.prog.cellsOf 246 = 64 := by kernel_rfl
theorem cellsU8 : Tryz.prog.cellsOf 5 = 1 := by kernel_rfl
def tab64 : List Int := [0, 1, 56, 2, 57, 49, 28, 3, 61, 58, 42, 50, 38, 29, 17, 4, 62, 47, 59, 36, 45, 43, 51, 22, 53, 39, 33, 30, 24, 18, 12, 5, 63, 55, 48, 27, 60, 41, 37, 16, 46, 35, 44, 21, 52, 32, 23, 11, 54, 26, 40, 15, 34, 20, 31, 10, 25, 14, 19, 9, 13, 8, 7, 6]
theorem tab64_at : ∀ j, j < Lib.deBruijn64tab.length → tab64.getD j 0 = ((Lib.deBruijn64tab.getD j 0 : Nat) : Int) := by decide
/-- What the row's list gives: the table's cells. -/
theorem tab_of {W : World} {rest : List (String × DataW Unit)} (h : laidMet Tryz.prog (("math/bits.deBruijn64tab", Rows.laid_math_bits_deBruijn64tab) :: rest) W) : TabAt 19 Lib.deBruijn64tab W := by
  have ht : Lib.TabIs Tryz.prog W "math/bits.deBruijn64tab" .u8 tab64 :=
    Lib.tabIs_of_head (rest := rest) g64 g64Type Tryz.underlying246 Tryz.underlying5 cellsU8 cells64 h
  intro j hj
  have hc := ht.cell g64 j (by have e : tab64.length = Lib.deBruijn64tab.length := rfl; omega)
  rw [hc, tab64_at j hj]
def sentList6 : List (String × List UInt8) := [("caesura/api.ErrArg", sentText Rows.laid_caesura_api_ErrArg), ("caesura/api.ErrText", sentText Rows.laid_caesura_api_ErrText), ("caesura/api.ErrMany", sentText Rows.laid_caesura_api_ErrMany), ("caesura/api.ErrTwice", sentText Rows.laid_caesura_api_ErrTwice), ("caesura/api.ErrLost", sentText Rows.laid_caesura_api_ErrLost), ("caesura/api.ErrOrder", sentText Rows.laid_caesura_api_ErrOrder)]
theorem sentIn6 : ∀ x ∈ sentList6, x ∈ sentList := by
  intro x hx
  simp only [sentList6, List.mem_cons, List.not_mem_nil, or_false] at hx
  simp only [sentList, List.mem_cons, List.not_mem_nil, or_false]
  rcases hx with h | h | h | h | h | h <;> simp [h]
theorem sents6_of {W : World} {rest : List (String × DataW Unit)} (h : laidMet Tryz.prog (sentList6.map sentRow ++ rest) W) : ∃ A, Sents6 W A := by
  obtain ⟨ps, hl, hnd, hrows⟩ := h
  obtain ⟨xs, h1, h2, h3, h4⟩ := sents_list rest sentList6 ps hl hnd hrows (fun x hx => sentTypes x (sentIn6 x hx))
  exact ⟨fun i => xs.getD ([0, 1, 2, 0, 3, 4, 5].getD i 0) ⟨0, 0, none⟩, h4 0 (by decide) _ g_ErrArg, h4 1 (by decide) _ g_ErrText, h4 2 (by decide) _ g_ErrMany, h4 3 (by decide) _ g_ErrTwice, h4 4 (by decide) _ g_ErrLost, h4 5 (by decide) _ g_ErrOrder⟩
set_option maxRecDepth 100000 in
theorem propApart_walk {H : Type} (enc : TypeId × Value → H) (W : World) (base : Nat) (hL : laidMetH Tryz.prog Rows.propApartRow.laid W) (v : Value) (d : DataW H) (p : List MemPlace) (hv : Value.okWide Tryz.prog W .any base 9 v)
    (h0 : DataW.Trod enc Tryz.prog W 0 (fun _ => true) true 9 v d p) (_hlt : ∀ x ∈ p, x.block < W.heap.size) (_hw : ∀ x ∈ d.weights Tryz.prog 9, x ≤ reachBytes) :
    Calls Tryz.prog 7 #[v] W fun e W' => e = .returned (.bool true) ∧ Below W.heap.size W W' := by
  obtain ⟨s, rfl, rfl, _⟩ := Go.ChangeMaps.open_string Tryz.underlying9 hv h0
  have hL0 : laidMet Tryz.prog Rows.propApartRow.laid W := hL
  have hT := tab_of (laid_tail hL0)
  obtain ⟨A, hA⟩ := sents6_of (rest := [("strconv.ErrRange", Rows.laid_strconv_ErrRange), ("strconv.ErrSyntax", Rows.laid_strconv_ErrSyntax), ("unicode.CaseRanges", Rows.laid_unicode_CaseRanges), ("unicode/utf8.first", Rows.laid_unicode_utf8_first)]) (laid_tail (laid_tail (laid_tail (laid_tail hL0))))
  exact propApart_any s A W hA hT
set_option maxRecDepth 100000 in
theorem propApart_lifted (os : Os) (started : os.Started) (H : Type) (enc : TypeId × Value → H) (F : Stop.Interp) :
    ReturnsInHanded {} Tryz.checked os 7 .any ((OpenSpec.ofChange Rows.propApartSpec).preRow enc Tryz.prog Tryz.f7 Rows.propApartRow.domain false Rows.propApartRow.laid) (((OpenSpec.ofChange Rows.propApartSpec).at F).post enc Tryz.prog Tryz.f7 false true false false) := by
  refine returnsInHanded_of_row (C := Tryz.checked) (s := OpenSpec.ofChange Rows.propApartSpec) own started (by kernel_rfl) Tryz.func7
    (witness_row_shaped (enc := enc) (C := Tryz.checked) (World.laidAll Tryz.prog os Rows.propApartRow.laid) #[.string ByteArray.empty] (World.laidAll_os _ _ _) (World.shaped_of_ZipB (by kernel_rfl) (by kernel_rfl)) (by kernel_rfl)
      (OpenSpec.preRow_of_cond 8 (x := ([.lit (.string [])], [], [])) (by kernel_rfl) (by kernel_rfl) (fun k hk => by cases hk) (by kernel_rfl) (laidMet_laidAll _ (by kernel_rfl) (by kernel_rfl)))) ?_
  intro W base args ds gs before hval hW _ _ hsz hL _ _
  exact law_contract rfl rfl rfl (fun _ _ => rfl) (by kernel_rfl) (of_decide_eq_true (by kernel_rfl)) W base args ds gs before hval hW hsz (fun v d p hv h0 hlt hw _ _ => propApart_walk enc W base hL v d p hv h0 hlt hw )
theorem propApart_said : Rows.PropApartSaid :=
  OpenClaim.holds_of_cond 7 Tryz.f7 rfl rfl rfl rfl rfl rfl rfl ⟨rfl, rfl, rfl, rfl, rfl⟩ rfl rfl rfl rfl rfl (by kernel_rfl) Tryz.func7 (by kernel_rfl)
    (of_decide_eq_true (by kernel_rfl)) (by unfold Func.isWrapper; first | (rw [if_pos (by decide +kernel)]; kernel_rfl) | (rw [if_neg (by decide +kernel)]; exact ⟨rfl, rfl⟩))
    (fun os started H enc _ F => by rw [OpenClaim.pre_eq_preRow]; exact propApart_lifted os started H enc F)
theorem propApart_plain (f : FuncId) (fn : Func) (hf : Tryz.pinned.checked.prog.funcNamed "caesura/caesuralaw4.PropApart" = some f) (hfn : Tryz.pinned.checked.prog.funcs[f]? = some fn) :
    true = Tryz.pinned.checked.prog.looks [] ∧ ∀ (j : Nat) t, fn.params[j]? = some t → Tryz.pinned.checked.prog.wantsStandIn t = false := by
  obtain rfl : f = 7 := Option.some.inj ((show Tryz.prog.funcNamed "caesura/caesuralaw4.PropApart" = some 7 by kernel_rfl).symm.trans hf) |>.symm
  obtain rfl : fn = Tryz.f7 := (Option.some.inj (Tryz.func7.symm.trans hfn)).symm
  refine ⟨by kernel_rfl, fun j t ht => ?_⟩
  rw [Tryz.params7] at ht
  obtain rfl : t = 9 := by simpa using Array.mem_of_getElem? ht
  exact (show Tryz.prog.wantsStandIn 9 = false by kernel_rfl)
theorem propApart_card : Rows.PropApartCardSaid :=
  Claim7.holds_tied_plain_at .later [] _ _ _ _ propApart_said (fun _ h => by cases h) (by kernel_rfl) (fun _ h => by cases h) propApart_row_tie rfl ⟨rfl, rfl⟩ (by kernel_rfl) rfl propApart_plain (by kernel_rfl)
end Go.Proofs.YtiiflacadndhcaaGreatDoor
