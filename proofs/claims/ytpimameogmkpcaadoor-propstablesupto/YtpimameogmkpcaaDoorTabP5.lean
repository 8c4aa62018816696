/-
  caesuralaw5.PropsTables, where what it reads is of the bulk that the second form tells: the row's statement and the card.
-/
import Derived.Test.YtpimameogmkpcaaDoorPbT5W
import Derived.Test.YtpimameogmkpcaaDoorPbOqP
namespace Go.Proofs.YtpimameogmkpcaaDoor
open Go.ChangeShapes Go.WideShapes Go.ChangeAt Go.RowKit Go.Joins
theorem spans_nil {H : Type} {enc : TypeId × Value → H} {W : World} {n m cap : Nat} {x : DataW H × List MemPlace} (h : DataW.trod enc Tryd.prog W 0 (fun _ => true) true n 23 [.slice none m cap] = some x) : cap = 0 := by
  rcases Deep.open_slice Tryd.underlying23 h with ⟨h0, _⟩ | ⟨a, len, cap', m', n', D, Pl, hc, _⟩
  · simp only [List.cons.injEq, and_true, Value.slice.injEq] at h0
    exact h0.2.2
  · simp only [List.cons.injEq, and_true, Value.slice.injEq] at hc
    exact nomatch hc.1
theorem open_named {H : Type} {enc : TypeId × Value → H} {W : World} {c0 c1 c2 c3 : Value} {d : DataW H} {p : List MemPlace} (h0 : DataW.Trod enc Tryd.prog W 0 (fun _ => true) true 28 (.agg #[c0, c1, c2, c3]) d p) : ∃ s : ByteArray, c3 = .string s := by
  obtain ⟨fuel, hf⟩ := h0
  obtain ⟨xs, n, _, hx, hlen, hxl, hfs⟩ := DataW.trod_struct Tryd.underlying28 hf
  obtain ⟨y0, y1, y2, rfl⟩ : ∃ y0 y1 y2, xs = [y0, y1, y2] := by
    match xs, hxl with
    | [y0, y1, y2], _ => exact ⟨y0, y1, y2, rfl⟩
  have h2 := hfs 2 _ rfl
  have h3 : DataW.trod enc Tryd.prog W 0 (fun _ => true) true n 9 [c3] = some y2 := by simpa [Value.cells, cellsStr] using h2
  obtain ⟨s, e, _⟩ := DataW.trod_string Tryd.underlying9 h3
  simp only [List.cons.injEq, and_true] at e
  exact ⟨s, e⟩
set_option maxRecDepth 100000 in
theorem propsTables_walk {H : Type} (enc : TypeId × Value → H) (W : World) (base : Nat) (hL : laidMetH Tryd.prog Rows.propsTablesUptoRow.laid W) (v : Value) (d : DataW H) (p : List MemPlace) (hv : Value.okWide Tryd.prog W .any base 28 v)
    (h0 : DataW.Trod enc Tryd.prog W 0 (fun _ => true) true 28 v d p) (_hlt : ∀ x ∈ p, x.block < W.heap.size) (_hw : ∀ x ∈ d.weights Tryd.prog 28, x ≤ reachBytes) (hk : Rows.uptoSmall H ([d] ++ []) = true) :
    Calls Tryd.prog 5 #[v] W fun e W' => e = .returned (.bool true) ∧ Below W.heap.size W W' := by
  obtain ⟨c0, c1, c2, c3, y0, y1, y2, n, rfl, rfl, hy0, hy1⟩ := open_four hv h0
  obtain ⟨s, rfl⟩ := open_named h0
  obtain ⟨z0, z1, k, hz, hz0, hz1⟩ := open_prop hy0
  obtain ⟨aN, L, cN, rfl, hsa, hnil, hN, hLb, hLs⟩ := open_names hz0
  obtain ⟨aS, S, cS, rfl, hpa, hS, hSb, _⟩ := open_spans hz1
  obtain ⟨aP, ps, cP, rfl, hia, hb⟩ := open_points hy1
  obtain ⟨A, hA⟩ := sents_of (rest := []) hL
  have hs := of_decide_eq_true hk
  rw [hz] at hs
  simp only [List.append_nil, Rows.uptoBulkAll, Rows.uptoBulk] at hs
  exact propsTables_any A L S ps aN aS aP cN cS cP s W (by omega) (by omega) (by omega) hnil (fun e => by subst e; exact spans_nil hz1) (fun q hq' => by have := hLs q hq'; omega) hsa hpa hia hA
set_option maxRecDepth 100000 in
theorem propsTables_lifted (os : Os) (started : os.Started) (H : Type) (enc : TypeId × Value → H) (F : Stop.Interp) :
    ReturnsInHanded {} Tryd.checked os 5 .any ((Rows.OpenSpec.upto Rows.propsTablesSpec).preRow enc Tryd.prog Tryd.f5 Rows.propsTablesUptoRow.domain false Rows.propsTablesUptoRow.laid) (((Rows.OpenSpec.upto Rows.propsTablesSpec).at F).post enc Tryd.prog Tryd.f5 false true false false) := by
  refine returnsInHanded_of_row (C := Tryd.checked) (s := Rows.OpenSpec.upto Rows.propsTablesSpec) own started (by kernel_rfl) Tryd.func5
    (witness_row_shaped (enc := enc) (C := Tryd.checked) (laidWorld (World.holding Tryd.prog os ⟨#[], #[], []⟩)) #[.agg #[.slice none 0 0, .slice none 0 0, .slice none 0 0, .string ByteArray.empty]] rfl (door_shaped os _) (by kernel_rfl)
      (OpenSpec.preRow_of_cond 8 (x := ([.agg [.agg [.nil, .nil], .nil, .lit (.string [])]], [], [])) (by kernel_rfl) (by kernel_rfl) (fun k hk => by cases hk; kernel_rfl) (by kernel_rfl) (laidMet_of_run' 8 (by kernel_rfl) (by kernel_rfl)))) ?_
  intro W base args ds gs before hval hW _ hcond hsz hL _ _
  exact law_contract rfl rfl rfl (fun _ _ => rfl) (by kernel_rfl) (of_decide_eq_true (by kernel_rfl)) W base args ds gs before hval hW hsz (fun v d p hv h0 hlt hw e1 e2 => propsTables_walk enc W base hL v d p hv h0 hlt hw (by have := hcond _ rfl; rw [e1, e2] at this; exact this))
theorem propsTables_said : Rows.PropsTablesUptoSaid :=
  OpenClaim.holds_of_cond 5 Tryd.f5 rfl rfl rfl rfl rfl rfl rfl ⟨rfl, rfl, rfl, rfl, rfl⟩ rfl rfl rfl rfl rfl (by kernel_rfl) Tryd.func5 (by kernel_rfl)
    (of_decide_eq_true (by kernel_rfl)) (by unfold Func.isWrapper; first | (rw [if_pos (by decide +kernel)]; kernel_rfl) | (rw [if_neg (by decide +kernel)]; exact ⟨rfl, rfl⟩))
    (fun os started H enc _ F => by rw [OpenClaim.pre_eq_preRow]; exact propsTables_lifted os started H enc F)
theorem propsTables_plain (f : FuncId) (fn : Func) (hf : Tryd.pinned.checked.prog.funcNamed "caesura/caesuralaw5.PropsTables" = some f) (hfn : Tryd.pinned.checked.prog.funcs[f]? = some fn) :
    true = Tryd.pinned.checked.prog.looks [] ∧ ∀ (j : Nat) t, fn.params[j]? = some t → Tryd.pinned.checked.prog.wantsStandIn t = false := by
  obtain rfl : f = 5 := Option.some.inj ((show Tryd.prog.funcNamed "caesura/caesuralaw5.PropsTables" = some 5 by kernel_rfl).symm.trans hf) |>.symm
  obtain rfl : fn = Tryd.f5 := (Option.some.inj (Tryd.func5.symm.trans hfn)).symm
  refine ⟨by kernel_rfl, fun j t ht => ?_⟩
  rw [Tryd.params5] at ht
  obtain rfl : t = 28 := by simpa using Array.mem_of_getElem? ht
  exact (show Tryd.prog.wantsStandIn 28 = false by kernel_rfl)
theorem propsTables_card : Rows.PropsTablesUptoCardSaid :=
  Claim7.holds_tied_plain_at .later [] _ _ _ _ propsTables_said (fun _ h => by cases h) (by kernel_rfl) (fun _ h => by cases h) propsTablesUpto_row_tie rfl ⟨rfl, rfl⟩ (by kernel_rfl) rfl propsTables_plain (by kernel_rfl)
end Go.Proofs.YtpimameogmkpcaaDoor
