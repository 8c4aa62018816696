/-
  caesuralaw26.OffsetsJoin, where what it reads is of the bulk that the second form tells: the row's statement and the card.
-/
import Derived.Test.YtlmbbohhdgeedaaDoorOzJW
import Derived.Test.YtlmbbohhdgeedaaDoorArgQP
import Derived.Lib.LaidU8
import Derived.Shelf.Vars
import Derived.Lay
import Derived.LaidMore
namespace Go.Proofs.YtlmbbohhdgeedaaDoor
open Go.ChangeShapes Go.WideShapes Go.ChangeAt Go.RowKit Go.Joins
theorem cellsTwo : Tryd.prog.cellsOf 41 = 2 := by kernel_rfl
theorem cellsInts : Tryd.prog.cellsOf 39 = 1 := by kernel_rfl
set_option maxRecDepth 100000 in
/-- A slice of numbers that is read, as a field. -/
theorem open_numsF {H : Type} {enc : TypeId × Value → H} {W : World} {fuel : Nat} {cs : List Value} {y : DataW H} {q : List MemPlace} (h0 : DataW.trod enc Tryd.prog W 0 (fun _ => true) true fuel 39 cs = some (y, q)) :
    ∃ (a : Option Addr) (ps : List Int) (cap : Nat), cs = [.slice a ps.length cap] ∧ PA W a ps ∧ ps.length ≤ Rows.uptoBulk y := by
  rcases open_ints Tryd.underlying39 Tryd.underlying3 cellsInt h0 with ⟨h1, h2⟩ | ⟨a, len, cap, zs, h1, h2, h3, h4, h5, h6, h7, h8⟩
  · subst h1
    exact ⟨none, [], 0, rfl, ⟨fun k h => absurd h (Nat.not_lt_zero _)⟩, Nat.zero_le _⟩
  · subst h1
    simp only [if_true] at h5
    simp only [Prod.mk.injEq] at h6
    obtain ⟨rfl, _⟩ := h6
    have hl : (zs.take len).length = len := by rw [List.length_take]; omega
    have hb := bulk_lits (H := H) (zs.take len)
    refine ⟨some a, zs.take len, cap, by rw [hl], ⟨fun k hk' => ?_⟩, by simp only [Rows.uptoBulk]; omega⟩
    rw [hl] at hk'
    have h9 := h7 k (by omega)
    obtain ⟨b, off, spot⟩ := a
    cases spot with
    | some sp =>
      exfalso
      have h10 := h7 0 (by omega)
      rw [show (⟨b, off, some sp⟩ : Addr).add 0 = ⟨b, off, some sp⟩ from rfl] at h10
      unfold World.cell? at h10
      split at h10 <;> simp at h10
    | none =>
      refine ⟨b, off, rfl, ?_⟩
      rw [Addr.add_lit] at h9
      rw [h9]
      congr 2
      rw [List.getElem_take, List.getD_eq_getElem?_getD, List.getElem?_eq_getElem (by omega)]
      rfl
set_option maxRecDepth 100000 in
theorem offsetsJoin_walk {H : Type} (enc : TypeId × Value → H) (W : World) (base : Nat) (hL : laidMetH Tryd.prog Rows.offsetsJoinUptoRow.laid W) (v : Value) (d : DataW H) (p : List MemPlace) (hv : Value.okWide Tryd.prog W .any base 41 v)
    (h0 : DataW.Trod enc Tryd.prog W 0 (fun _ => true) true 41 v d p) (_hlt : ∀ x ∈ p, x.block < W.heap.size) (_hw : ∀ x ∈ d.weights Tryd.prog 41, x ≤ reachBytes) (hk : Rows.uptoSmall H ([d] ++ []) = true) :
    Calls Tryd.prog 4 #[v] W fun e W' => e = .returned (.bool true) ∧ Below W.heap.size W W' := by
  obtain ⟨pe, hpe⟩ := err_of hL gArg gArgT
  have hQ : SeqAt W := seqAt_of (rest := []) (laidMet.tail hL)
  have hs := of_decide_eq_true hk
  obtain ⟨fuel, hf⟩ := h0
  have hcs : ∃ cs, v = .agg cs := by
    simp only [Value.okWide, Tryd.underlying41] at hv
    obtain ⟨cs, h1, _⟩ := hv
    exact ⟨cs, h1⟩
  obtain ⟨cs, rfl⟩ := hcs
  obtain ⟨xs, n, _, hx, hlen, hxl, hfs⟩ := DataW.trod_struct Tryd.underlying41 hf
  rw [cellsTwo] at hlen
  obtain ⟨l⟩ := cs
  match l, hlen with
  | [c0, c1], _ =>
    obtain ⟨y0, y1, rfl⟩ : ∃ y0 y1, xs = [y0, y1] := by
      match xs, hxl with
      | [y0, y1], _ => exact ⟨y0, y1, rfl⟩
    have f0 := hfs 0 _ rfl
    have f1 := hfs 1 _ rfl
    simp [Value.cells, cellsInts] at f0
    simp [Value.cells, cellsInts] at f1
    obtain ⟨d0, q0⟩ := y0
    obtain ⟨d1, q1⟩ := y1
    obtain ⟨a1, l1, k1, e1, m1, b1⟩ := open_numsF f0
    obtain ⟨a2, l2, k2, e2, m2, b2⟩ := open_numsF f1
    simp only [List.cons.injEq, and_true] at e1 e2
    subst e1 e2
    simp only [Prod.mk.injEq] at hx
    obtain ⟨rfl, _⟩ := hx
    simp [Rows.uptoBulkAll, Rows.uptoBulk] at hs
    exact join_any l1 l2 a1 a2 k1 k2 pe (by omega) W hQ hpe m1 m2
set_option maxRecDepth 100000 in
theorem offsetsJoin_lifted (os : Os) (started : os.Started) (H : Type) (enc : TypeId × Value → H) (F : Stop.Interp) :
    ReturnsInHanded {} Tryd.checked os 4 .any ((Rows.OpenSpec.upto Rows.offsetsJoinSpec).preRow enc Tryd.prog Tryd.f4 Rows.offsetsJoinUptoRow.domain false Rows.offsetsJoinUptoRow.laid) (((Rows.OpenSpec.upto Rows.offsetsJoinSpec).at F).post enc Tryd.prog Tryd.f4 false true false false) := by
  refine returnsInHanded_of_row (C := Tryd.checked) (s := Rows.OpenSpec.upto Rows.offsetsJoinSpec) own started (by kernel_rfl) Tryd.func4
    (witness_row_shaped (enc := enc) (C := Tryd.checked) (World.laidAll Tryd.prog os Rows.offsetsJoinUptoRow.laid) #[.agg #[.slice none 0 0, .slice none 0 0]] (World.laidAll_os _ _ _) (World.shaped_of_ZipB (by kernel_rfl) (by kernel_rfl)) (by kernel_rfl)
      (OpenSpec.preRow_of_cond 8 (x := ([.agg [.nil, .nil]], [], [])) (by kernel_rfl) (by kernel_rfl) (fun k hk => by cases hk; kernel_rfl) (by kernel_rfl) (laidMet_laidAll _ (by kernel_rfl) (by kernel_rfl)))) ?_
  intro W base args ds gs before hval hW _ hcond hsz hL _ _
  exact law_contract rfl rfl rfl (fun _ _ => rfl) (by kernel_rfl) (of_decide_eq_true (by kernel_rfl)) W base args ds gs before hval hW hsz (fun v d p hv h0 hlt hw e1 e2 => offsetsJoin_walk enc W base hL v d p hv h0 hlt hw (by have := hcond _ rfl; rw [e1, e2] at this; exact this))
theorem offsetsJoin_said : Rows.OffsetsJoinUptoSaid :=
  OpenClaim.holds_of_cond 4 Tryd.f4 rfl rfl rfl rfl rfl rfl rfl ⟨rfl, rfl, rfl, rfl, rfl⟩ rfl rfl rfl rfl rfl (by kernel_rfl) Tryd.func4 (by kernel_rfl)
    (of_decide_eq_true (by kernel_rfl)) (by unfold Func.isWrapper; first | (rw [if_pos (by decide +kernel)]; kernel_rfl) | (rw [if_neg (by decide +kernel)]; exact ⟨rfl, rfl⟩))
    (fun os started H enc _ F => by rw [OpenClaim.pre_eq_preRow]; exact offsetsJoin_lifted os started H enc F)
theorem offsetsJoin_plain (f : FuncId) (fn : Func) (hf : Tryd.pinned.checked.prog.funcNamed "caesura/caesuralaw26.OffsetsJoin" = some f) (hfn : Tryd.pinned.checked.prog.funcs[f]? = some fn) :
    true = Tryd.pinned.checked.prog.looks [] ∧ ∀ (j : Nat) t, fn.params[j]? = some t → Tryd.pinned.checked.prog.wantsStandIn t = false := by
  obtain rfl : f = 4 := Option.some.inj ((show Tryd.prog.funcNamed "caesura/caesuralaw26.OffsetsJoin" = some 4 by kernel_rfl).symm.trans hf) |>.symm
  obtain rfl : fn = Tryd.f4 := (Option.some.inj (Tryd.func4.symm.trans hfn)).symm
  refine ⟨by kernel_rfl, fun j t ht => ?_⟩
  rw [Tryd.params4] at ht
  obtain rfl : t = 41 := by simpa using Array.mem_of_getElem? ht
  exact (show Tryd.prog.wantsStandIn 41 = false by kernel_rfl)
theorem offsetsJoin_card : Rows.OffsetsJoinUptoCardSaid :=
  Claim7.holds_tied_plain_at .later [] _ _ _ _ offsetsJoin_said (fun _ h => by cases h) (by kernel_rfl) (fun _ h => by cases h) offsetsJoinUpto_row_tie rfl ⟨rfl, rfl⟩ (by kernel_rfl) rfl offsetsJoin_plain (by kernel_rfl)
end Go.Proofs.YtlmbbohhdgeedaaDoor
