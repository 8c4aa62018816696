/-
  PlMbW, PlKW, PlLW.
-/
import Derived.Test.YtlkgghbdgjomkaaDoorMte
import Derived.Test.YtlkgghbdgjomkaaDoorMtc
import Derived.Test.YtlkgghbdgjomkaaDoorMtb
namespace Go.Proofs.YtlkgghbdgjomkaaDoor
open Go.RowKit Go.Shelf
theorem head_cases (l : List Value) : (l = [] ∧ l.head? = none) ∨ (∃ v r, l = v :: r ∧ l.head? = some v) := by
  cases l with
  | nil => exact .inl ⟨rfl, rfl⟩
  | cons v r => exact .inr ⟨v, r, rfl, rfl⟩
set_option maxRecDepth 10000 in
set_option maxHeartbeats 1600000 in
theorem over_LO (w : World) (lo b1 b2 b3 hi gL cL gF cF gA cA gO cO : Nat) (sL sO : List Value) (nF nA : Nat) (kL kO : List Nat) (em : Bool) (h : Ln w lo b1 b2 b3 hi gL cL gF cF gA cA gO cO sL sO nF nA kL kO) (v1 : Value) (hv1 : sL.head? = some v1) (v2 : Value) (hv2 : sO.head? = some v2) :
    Calls Tryd.prog 23 #[.agg #[.slice (some ⟨gL, 0, none⟩) sL.length cL, .slice (some ⟨gF, 0, none⟩) nF cF, .slice (some ⟨gA, 0, none⟩) nA cA, .slice (some ⟨gO, 0, none⟩) sO.length cO, .bool em]] w fun e w' => e = .returned (.tuple #[]) ∧ Ln w' lo b1 b2 b3 hi gL cL gF cF gA cA gO cO sL sO nF nA kL kO ∧ Only w w' (fun b => lo ≤ b ∧ b < hi) := by
  obtain ⟨j0, hj, hy0, hy1, hy2⟩ := info_parts infoInts
  obtain ⟨w0, hw0⟩ : ∃ w0, w0 = w.alloc (.cells #[.slice (some ⟨gL, 0, none⟩) sL.length cL, .slice (some ⟨gF, 0, none⟩) nF cF, .slice (some ⟨gA, 0, none⟩) nA cA, .slice (some ⟨gO, 0, none⟩) sO.length cO, .bool em] 25) := ⟨_, rfl⟩
  have hr0 : w0.heap[w.heap.size]? = some (.cells #[.slice (some ⟨gL, 0, none⟩) sL.length cL, .slice (some ⟨gF, 0, none⟩) nF cF, .slice (some ⟨gA, 0, none⟩) nA cA, .slice (some ⟨gO, 0, none⟩) sO.length cO, .bool em] 25 (0, 0)) := by rw [hw0]; exact heap_alloc_new w _
  have hb0 : Below w.heap.size w w0 := by rw [hw0]; exact (Below.refl _ _).alloc (Nat.le_refl _) _
  have hs0 : w0.heap.size = w.heap.size + 1 := by rw [hw0]; simp
  have hhi := h.hi'
  have HL0 := hid0 (h.kept hb0.size (fun k _ hk => hb0.block k (by omega)))
  have HC5 : Hid (∀ W, Below w0.heap.size w0 W → W.cell? ⟨w.heap.size, 0, none⟩ = some (.slice (some ⟨gL, 0, none⟩) sL.length cL) ∧ W.cell? ⟨w.heap.size, 1, none⟩ = some (.slice (some ⟨gF, 0, none⟩) nF cF) ∧ W.cell? ⟨w.heap.size, 2, none⟩ = some (.slice (some ⟨gA, 0, none⟩) nA cA) ∧ W.cell? ⟨w.heap.size, 3, none⟩ = some (.slice (some ⟨gO, 0, none⟩) sO.length cO) ∧ W.cell? ⟨w.heap.size, 4, none⟩ = some (.bool em)) := hid0 (fun W hW => row5 ((hW.block w.heap.size (by omega)).trans hr0))
  obtain ⟨c0, c1, c2, c3, c4⟩ := row5 hr0
  have hsm := h.small
  have hfold := hw0.symm
  have HB0 := hid0 hb0
  have Hwr : Hid (∀ v, (v = .slice (some ⟨gF, 0, none⟩) nF cF ∨ v = .slice (some ⟨gA, 0, none⟩) nA cA ∨ sL.head? = some v ∨ sO.head? = some v) → ∃ g m c, v = .slice (some ⟨g, 0, none⟩) m c ∧ (lo ≤ g ∧ g < hi) ∧ m ≤ 4000000 ∧ ∀ W, Ln W lo b1 b2 b3 hi gL cL gF cF gA cA gO cO sL sO nF nA kL kO → 0 < m → (∃ z, W.cell? ⟨g, 0, none⟩ = some (.int .i64 z)) ∧ W.frozen? ⟨g, 0, none⟩ = false ∧ ∀ z, inI z → Ln (W.setCell ⟨g, 0, none⟩ (.int .i64 z)) lo b1 b2 b3 hi gL cL gF cF gA cA gO cO sL sO nF nA kL kO) := hid0 (fun v hv => by
    obtain ⟨g, m, c, e, h1, h2, _⟩ := h.write v hv
    refine ⟨g, m, c, e, h1, h2, fun W hW hm => ?_⟩
    obtain ⟨g', m', c', e', h1', h2', h3'⟩ := hW.write v hv
    rw [e] at e'
    simp only [Value.slice.injEq, Option.some.injEq, Addr.mk.injEq, and_true] at e'
    obtain ⟨rfl, rfl, rfl⟩ := e'
    exact h3' hm)
  have HcC : Hid (∀ W, Below w0.heap.size w0 W → (∀ v, sL.head? = some v → W.cell? ⟨gL, 0, none⟩ = some v) ∧ (∀ v, sO.head? = some v → W.cell? ⟨gO, 0, none⟩ = some v)) := hid0 (fun W hW => by
    have hk := HL0.out.kept (W' := W) hW.size (fun k _ hk => hW.block k (by omega))
    obtain ⟨psL, psO, Fi, La, e1, e2, e3, e4, e5, e6, p1, p2, p3, p4, p5⟩ := hk.ex
    refine ⟨fun v hv => ?_, fun v hv => ?_⟩
    · rw [World.ownsRow.cellAt p1.outer 0 (by rw [← e1] at hv; cases psL with | nil => cases hv | cons a b => simp), e1]
      rw [← hv, List.head?_eq_getElem?]
    · rw [World.ownsRow.cellAt p4.outer 0 (by rw [← e2] at hv; cases psO with | nil => cases hv | cons a b => simp), e2]
      rw [← hv, List.head?_eq_getElem?])
  have hs1 : w.heap.size < w0.heap.size := by omega
  clear hw0 h hr0 hb0 hs0
  obtain ⟨xL, mL, dL, hvL, _, hmL, _⟩ := Hwr.out v1 (.inr (.inr (.inl hv1)))
  subst hvL
  have eL0 := hv1
  have hpL : 0 < sL.length := by cases sL with | nil => cases hv1 | cons a b => simp
  have hpLI : (0 : Int) < (sL.length : Int) := by omega
  obtain ⟨xO, mO, dO, hvO, _, hmO, _⟩ := Hwr.out v2 (.inr (.inr (.inr hv2)))
  subst hvO
  have eO0 := hv2
  have hpO : 0 < sO.length := by cases sO with | nil => cases hv2 | cons a b => simp
  have hpOI : (0 : Int) < (sO.length : Int) := by omega
  obtain ⟨kL0, kO0⟩ := HcC.out w0 (Below.refl _ _)
  have eL := kL0 _ eL0
  have eO := kO0 _ eO0
  clear kL0 kO0
  have hvs : ∀ v ∈ ([.slice (some ⟨gF, 0, none⟩) nF cF, .slice (some ⟨gA, 0, none⟩) nA cA, .slice (some ⟨xL, 0, none⟩) mL dL, .slice (some ⟨xO, 0, none⟩) mO dO] : List Value), ∃ g m c, v = .slice (some ⟨g, 0, none⟩) m c ∧ (lo ≤ g ∧ g < hi) ∧ m ≤ 4000000 ∧ ∀ W, Ln W lo b1 b2 b3 hi gL cL gF cF gA cA gO cO sL sO nF nA kL kO → 0 < m → (∃ z, W.cell? ⟨g, 0, none⟩ = some (.int .i64 z)) ∧ W.frozen? ⟨g, 0, none⟩ = false ∧ ∀ z, inI z → Ln (W.setCell ⟨g, 0, none⟩ (.int .i64 z)) lo b1 b2 b3 hi gL cL gF cF gA cA gO cO sL sO nF nA kL kO := fun v hv => by
    simp only [List.mem_cons, List.not_mem_nil, or_false] at hv
    have hv' : v = .slice (some ⟨gF, 0, none⟩) nF cF ∨ v = .slice (some ⟨gA, 0, none⟩) nA cA ∨ sL.head? = some v ∨ sO.head? = some v := by
      rcases hv with rfl | rfl | rfl | rfl
      · exact .inl rfl
      · exact .inr (.inl rfl)
      · exact .inr (.inr (.inl eL0))
      · exact .inr (.inr (.inr eO0))
    exact Hwr.out v hv'
  have Hvs := hid0 hvs
  clear hvs
  go_enter Tryd.func23, Tryd.ntmps23
  have HO2 : Hid ((w0.alloc (.cells #[.slice (some ⟨gF, 0, none⟩) nF cF, .slice (some ⟨gA, 0, none⟩) nA cA] 23)).ownsRow w0.heap.size 23 1 (.slice (some ⟨w0.heap.size, 0, none⟩) 2 2) 2 [.slice (some ⟨gF, 0, none⟩) nF cF, .slice (some ⟨gA, 0, none⟩) nA cA]) := hid0 (World.ownsRow_lit w0 #[.slice (some ⟨gF, 0, none⟩) nF cF, .slice (some ⟨gA, 0, none⟩) nA cA] 2 (Nat.le_refl _) (by unfold maxLen; omega) rfl)
  obtain ⟨w2, hw2⟩ : ∃ w2, w2 = w0.alloc (.cells #[.slice (some ⟨gF, 0, none⟩) nF cF, .slice (some ⟨gA, 0, none⟩) nA cA] 23) := ⟨_, rfl⟩
  rw [← hw2] at HO2
  have hbl2 : Below w0.heap.size w0 w2 := by rw [hw2]; exact (Below.refl _ _).alloc (Nat.le_refl _) _
  have HBl2 := hid0 hbl2
  have hz2 := hbl2.size
  obtain ⟨e0, e1, e2, e3, e4⟩ := HC5.out w2 hbl2
  obtain ⟨kL2, kO2⟩ := HcC.out w2 hbl2
  have fL := kL2 _ eL0
  have fO := kO2 _ eO0
  clear kL2 kO2
  have hf2 := hw2.symm
  clear hw2 hbl2
  go_upto_region 7 with (first
    | (at_builtin; go_loud ((
      refine wpList_append_own_at _ rfl _ _ 22 rfl w0.heap.size 23 j0 (.slice none 0 0) 1 24 Tryd.underlying22 hj hy0 hy1 hy2 rfl (by decide) _ 2 [.slice (some ⟨gF, 0, none⟩) nF cF, .slice (some ⟨gA, 0, none⟩) nA cA] rfl (World.ownsRow.alloc HO2.out _) ⟨w2.heap.size, 0, none⟩ 1 1 [.slice (some ⟨xL, 0, none⟩) mL dL] rfl rfl (cell_one_new _ _ _) (by simp [Value.oneCell']) (by unfold maxLen; omega) (by omega) (by simp; omega) ?_
      intro v2 w3 hown2 hgrow2 _ hat2
      obtain ⟨g3, d3, rfl, hg3, _, _⟩ := own_form hown2 (by omega)
      have HO3 := hid0 hown2
      have hbl := ((HBl2.out.alloc (by omega) _).grown hgrow2 (by simp; omega) (fun k' hk' => (World.ownsRow.lt HO2.out k' hk').1))
      have HBl3 := hid0 hbl
      have hz3 := hbl.size
      clear c0 c1 c2 c3 c4 eL eO
      obtain ⟨c0, c1, c2, c3, c4⟩ := HC5.out w3 hbl
      obtain ⟨kL2, kO2⟩ := HcC.out w3 hbl
      have eL := kL2 _ eL0
      have eO := kO2 _ eO0
      clear kL2 kO2 hown2 hgrow2 hat2 hbl)))
    | (at_builtin; go_loud ((
      refine wpList_append_own_at _ rfl _ _ 22 rfl w0.heap.size 23 j0 (.slice none 0 0) 1 24 Tryd.underlying22 hj hy0 hy1 hy2 rfl (by decide) _ 3 [.slice (some ⟨gF, 0, none⟩) nF cF, .slice (some ⟨gA, 0, none⟩) nA cA, .slice (some ⟨xL, 0, none⟩) mL dL] rfl (World.ownsRow.alloc HO3.out _) ⟨w3.heap.size, 0, none⟩ 1 1 [.slice (some ⟨xO, 0, none⟩) mO dO] rfl rfl (cell_one_new _ _ _) (by simp [Value.oneCell']) (by unfold maxLen; omega) (by omega) (by simp; omega) ?_
      intro v2 w4 hown2 hgrow2 _ hat2
      obtain ⟨g4, d4, rfl, hg4, _, _⟩ := own_form hown2 (by omega)
      have HO4 := hid0 hown2
      have hbl := ((HBl3.out.alloc (by omega) _).grown hgrow2 (by simp; omega) (fun k' hk' => (World.ownsRow.lt HO3.out k' hk').1))
      have HBl4 := hid0 hbl
      have hz4 := hbl.size
      clear c0 c1 c2 c3 c4 eL eO
      obtain ⟨c0, c1, c2, c3, c4⟩ := HC5.out w4 hbl
      obtain ⟨kL2, kO2⟩ := HcC.out w4 hbl
      have eL := kL2 _ eL0
      have eO := kO2 _ eO0
      clear kL2 kO2 hown2 hgrow2 hat2 hbl)))
    | fail)
  obtain ⟨gl, hgl⟩ : ∃ gl, gl = g4 := ⟨_, rfl⟩
  obtain ⟨vs, hvs⟩ : ∃ vs : List Value, vs = [.slice (some ⟨gF, 0, none⟩) nF cF, .slice (some ⟨gA, 0, none⟩) nA cA, .slice (some ⟨xL, 0, none⟩) mL dL, .slice (some ⟨xO, 0, none⟩) mO dO] := ⟨_, rfl⟩
  have hlen : vs.length = 4 := by rw [hvs]; rfl
  have hgw : w0.heap.size ≤ gl ∧ gl < w4.heap.size := by rw [hgl]; exact World.ownsRow.lt HO4.out _ rfl
  have HLW : Hid (Ln w4 lo b1 b2 b3 hi gL cL gF cF gA cA gO cO sL sO nF nA kL kO) := hid0 (HL0.out.kept HBl4.out.size (fun k _ hk => HBl4.out.block k (by omega)))
  have HOW : Hid (Only w0 w4 (fun b => lo ≤ b ∧ b < hi)) := hid0 (Only.ofNew HBl4.out _)
  have HOv : Hid (w4.ownsRow w0.heap.size 23 1 (.slice (some ⟨gl, 0, none⟩) 4 d4) 4 vs) := hid0 (by rw [hgl, hvs]; exact HO4.out)
  rw [← hvs] at Hvs
  rw [← hgl]
  have hgW : gl < w4.heap.size := hgw.2
  clear hvs hgl HO4
  go_loopw [3] (fun i wr => ∃ k : Nat, k ≤ 4 ∧ i = .int .i64 (k : Int) ∧ Hid (Ln wr lo b1 b2 b3 hi gL cL gF cF gA cA gO cO sL sO nF nA kL kO) ∧ Hid (wr.ownsRow w0.heap.size 23 1 (.slice (some ⟨gl, 0, none⟩) 4 d4) 4 vs) ∧ Hid (Only w0 wr (fun b => lo ≤ b ∧ b < hi))) (fun i _ => 4 - (intOf i).toNat)
  case atStart => exact ⟨0, Nat.zero_le _, rfl, HLW, HOv, HOW⟩
  case round =>
    clear HLW HOv HOW
    obtain ⟨k, hk, rfl, HL, HOv, HOn⟩ := hrel
    by_cases hlt : k < 4
    · have hkv : k < vs.length := by omega
      obtain ⟨g, nn, cc, hv, hgb, hnn, hW⟩ := Hvs.out vs[k] (List.getElem_mem hkv)
      have hcell : wr.cell? ⟨gl, k, none⟩ = some (.slice (some ⟨g, 0, none⟩) nn cc) := by rw [World.ownsRow.cellAt HOv.out k (by omega), List.getElem?_eq_getElem hkv, hv]
      have hkI : (k : Int) < 4 := by omega
      have hkI0 : (0 : Int) ≤ (k : Int) := by omega
      by_cases hn0 : 0 < nn
      · obtain ⟨⟨z, hz⟩, hfr, hput⟩ := hW wr HL.out hn0
        have hnI : (0 : Int) < (nn : Int) := by omega
        have hpk := pickN_lt z 2 (by omega)
        have hpI : (pickN z 2 : Int) < 2 := by omega
        have hpI0 : (0 : Int) ≤ (pickN z 2 : Int) := by omega
        have HL5 := hid0 (hput (1 - (pickN z 2 : Int)) (by simp [inI, Lit.wf, IntKind.min, IntKind.max, IntKind.bits, IntKind.signed]; omega))
        have HOv5 := hid0 (own_blk HOv.out (W' := wr.setCell ⟨g, 0, none⟩ (.int .i64 (1 - (pickN z 2 : Int)))) (fun q hq => Below.heap_setCell wr _ _ q (by have e : gl = q := (by simpa [Value.ownBlock] using hq); show q ≠ g; omega)))
        have HOn5 : Hid (Only w0 (wr.setCell ⟨g, 0, none⟩ (.int .i64 (1 - (pickN z 2 : Int)))) (fun b => lo ≤ b ∧ b < hi)) := hid0 (HOn.out.trans (Only.setCell wr g 0 _) (fun i hi => by subst hi; exact .inl hgb))
        have HS5 : Hid ((wr.setCell ⟨g, 0, none⟩ (.int .i64 (1 - (pickN z 2 : Int)))).cell? ⟨gl, k, none⟩ = some (.slice (some ⟨g, 0, none⟩) nn cc)) := hid0 (by rw [World.ownsRow.cellAt HOv5.out k (by omega), List.getElem?_eq_getElem hkv, hv])
        have hwp : IntKind.i64.wrap (1 - (pickN z 2 : Int)) = 1 - (pickN z 2 : Int) := by simp [IntKind.wrap, IntKind.signed, IntKind.bits]; omega
        have HL6 : Hid (Ln (wr.setCell ⟨g, 0, none⟩ (.int .i64 (1 - (pickN z 2 : Int)))).drew lo b1 b2 b3 hi gL cL gF cF gA cA gO cO sL sO nF nA kL kO) := hid0 (HL5.out.kept (Nat.le_refl _) (fun _ _ _ => rfl))
        have HOn6 : Hid (Only w0 (wr.setCell ⟨g, 0, none⟩ (.int .i64 (1 - (pickN z 2 : Int)))).drew (fun b => lo ≤ b ∧ b < hi)) := hid0 (HOn5.out.trans (Only.drewN _ 1 (fun b => lo ≤ b ∧ b < hi)) (fun i hi => .inl hi))
        clear hput hv hW HL HOv HOn hpk HL5 HOn5
        go_upto_region 10 with fail
        refine wp_region_noPanic ?_
        refine wp_region_held_drew (S := (fun V => V.cell? ⟨gl, k, none⟩ = some (.slice (some ⟨g, 0, none⟩) nn cc))) (by kernel_rfl) ?_ (fun hHeld => ?_)
        · exact hcell
        refine tkV (i := 0) (d := some 43) (v := ?_) rfl (by kernel_rfl) (by kernel_rfl) (by kernel_rfl) rfl (fun _ _ _ h => h) (by rfl) ?_ (by assumption) ?_
        rotate_left
        · (intro w hSw; (try dsimp only at hSw); (try simp only [List.getElem_toArray, List.getElem_cons_zero]); go_simp; try with_reducible rfl)
        try simp only [Act.put, List.setIfInBounds_toArray, List.set_cons_zero, List.set_cons_succ]
        refine tkV (i := 1) (d := some 44) (v := ?_) rfl (by kernel_rfl) (by kernel_rfl) (by kernel_rfl) rfl (fun _ _ _ h => h) (by rfl) ?_ (by assumption) ?_
        rotate_left
        · (intro w hSw; (try dsimp only at hSw); (try simp only [List.getElem_toArray, List.getElem_cons_zero, List.getElem_cons_succ]); go_simp; try with_reducible rfl)
        try simp only [Act.put, List.setIfInBounds_toArray, List.set_cons_zero, List.set_cons_succ]
        refine tkV (i := 2) (d := some 45) (v := ?_) rfl (by kernel_rfl) (by kernel_rfl) (by kernel_rfl) rfl (fun _ _ _ h => h) (by rfl) ?_ (by assumption) ?_
        rotate_left
        · (intro w hSw; (try dsimp only at hSw); (try simp only [List.getElem_toArray, List.getElem_cons_zero, List.getElem_cons_succ]); go_simp; try with_reducible rfl)
        try simp only [Act.put, List.setIfInBounds_toArray, List.set_cons_zero, List.set_cons_succ]
        refine tkV (i := 3) (d := some 46) (v := ?_) rfl (by kernel_rfl) (by kernel_rfl) (by kernel_rfl) rfl (fun _ _ _ h => h) (by rfl) ?_ (by assumption) ?_
        rotate_left
        · (intro w hSw; (try dsimp only at hSw); (try simp only [List.getElem_toArray, List.getElem_cons_zero, List.getElem_cons_succ]); go_simp; try with_reducible rfl)
        try simp only [Act.put, List.setIfInBounds_toArray, List.set_cons_zero, List.set_cons_succ]
        refine tkV (i := 4) (d := some 47) (v := ?_) rfl (by kernel_rfl) (by kernel_rfl) (by kernel_rfl) rfl (fun _ _ _ h => h) (by rfl) ?_ (by assumption) ?_
        rotate_left
        · (intro w hSw; (try dsimp only at hSw); (try simp only [List.getElem_toArray, List.getElem_cons_zero, List.getElem_cons_succ]); go_simp; try with_reducible rfl)
        try simp only [Act.put, List.setIfInBounds_toArray, List.set_cons_zero, List.set_cons_succ]
        refine tkV (i := 5) (d := some 48) (v := ?_) rfl (by kernel_rfl) (by kernel_rfl) (by kernel_rfl) rfl (fun _ _ _ h => h) (by rfl) ?_ (by assumption) ?_
        rotate_left
        · (intro w hSw; (try dsimp only at hSw); (try simp only [List.getElem_toArray, List.getElem_cons_zero, List.getElem_cons_succ]); go_simp; try with_reducible rfl)
        try simp only [Act.put, List.setIfInBounds_toArray, List.set_cons_zero, List.set_cons_succ]
        refine tkV (i := 6) (d := some 49) (v := ?_) rfl (by kernel_rfl) (by kernel_rfl) (by kernel_rfl) rfl (fun _ _ _ h => h) (by rfl) ?_ (by assumption) ?_
        rotate_left
        · (intro w hSw; (try dsimp only at hSw); (try simp only [List.getElem_toArray, List.getElem_cons_zero, List.getElem_cons_succ]); go_simp; try with_reducible rfl)
        try simp only [Act.put, List.setIfInBounds_toArray, List.set_cons_zero, List.set_cons_succ]
        refine tkV (i := 7) (d := some 50) (v := ?_) rfl (by kernel_rfl) (by kernel_rfl) (by kernel_rfl) rfl (fun _ _ _ h => h) (by rfl) ?_ (by assumption) ?_
        rotate_left
        · (intro w hSw; (try dsimp only at hSw); (try simp only [List.getElem_toArray, List.getElem_cons_zero, List.getElem_cons_succ]); go_simp; try with_reducible rfl)
        try simp only [Act.put, List.setIfInBounds_toArray, List.set_cons_zero, List.set_cons_succ]
        refine tkV (i := 8) (d := some 51) (v := ?_) rfl (by kernel_rfl) (by kernel_rfl) (by kernel_rfl) rfl (fun _ _ _ h => h) (by rfl) ?_ (by assumption) ?_
        rotate_left
        · (intro w hSw; (try dsimp only at hSw); (try simp only [List.getElem_toArray, List.getElem_cons_zero, List.getElem_cons_succ]); go_simp; try with_reducible rfl)
        try simp only [Act.put, List.setIfInBounds_toArray, List.set_cons_zero, List.set_cons_succ]
        refine wpAnyH_ready (rs := [9]) (by kernel_rfl) (by simp) (AllReadyH.cons rfl (fun K hK => ?_) AllReadyH.nil)
        try simp only [List.getElem_toArray, List.getElem_cons_zero, List.getElem_cons_succ]
        go_simp
        refine hK.out _ _ ?_ (fun hHeld9 => ?_)
        · assumption
        clear hK K
        (try simp only [Act.put]); (try simp only [List.setIfInBounds_toArray]); (try simp only [List.set_cons_succ]); (try simp only [List.set_cons_zero])
        refine wpAnyH_ready (rs := [10]) (by kernel_rfl) (by simp) (AllReadyH.cons rfl (fun K hK => ?_) AllReadyH.nil)
        try simp only [List.getElem_toArray, List.getElem_cons_zero, List.getElem_cons_succ]
        go_simp
        refine (pick_at z 2 (by omega) (by omega) wr.drew).mono ?_
        rintro e w2 ⟨rfl, hw2⟩
        have hw2' := hw2.symm
        subst hw2'
        clear hw2
        go_wp2_with fail
        refine hK.out _ _ ?_ (fun hHeld10 => ?_)
        · assumption
        clear hK K
        (try simp only [Act.put]); (try simp only [List.setIfInBounds_toArray]); (try simp only [List.set_cons_succ]); (try simp only [List.set_cons_zero])
        refine tkV (i := 11) (d := some 54) (v := ?_) rfl (by kernel_rfl) (by kernel_rfl) (by kernel_rfl) rfl (fun _ _ _ h => h) (by rfl) ?_ (by assumption) ?_
        rotate_left
        · (intro w hSw; (try dsimp only at hSw); (try simp only [List.getElem_toArray, List.getElem_cons_zero, List.getElem_cons_succ]); go_simp; try with_reducible rfl)
        try simp only [Act.put, List.setIfInBounds_toArray, List.set_cons_zero, List.set_cons_succ]
        refine tkV (i := 12) (d := some 55) (v := ?_) rfl (by kernel_rfl) (by kernel_rfl) (by kernel_rfl) rfl (fun _ _ _ h => h) (by rfl) ?_ (by assumption) ?_
        rotate_left
        · (intro w hSw; (try dsimp only at hSw); (try simp only [List.getElem_toArray, List.getElem_cons_zero, List.getElem_cons_succ]); go_simp; try with_reducible rfl)
        try simp only [Act.put, List.setIfInBounds_toArray, List.set_cons_zero, List.set_cons_succ]
        refine wpAnyH_ready (rs := [13]) (by kernel_rfl) (by simp) (AllReadyH.cons rfl (fun K hK => ?_) AllReadyH.nil)
        try simp only [List.getElem_toArray, List.getElem_cons_zero, List.getElem_cons_succ]
        go_simp
        refine hK.out _ _ ?_ (fun hHeld13 => ?_)
        · exact HS5.out
        clear hK K
        (try simp only [Act.put]); (try simp only [List.setIfInBounds_toArray]); (try simp only [List.set_cons_succ]); (try simp only [List.set_cons_zero])
        refine wpAnyH_done (by kernel_rfl) ?_ _
        refine NoPanic.normal ?_
        go_wp2
        go_roundw
        case rel => exact ⟨k + 1, by omega, by go_num, HL6, HOv5, HOn6⟩
        case measure => simp [intOf]; omega
      · have hn1 : nn = 0 := by omega
        subst hn1
        clear hW hv
        go_wp2
        go_roundw
        case rel => exact ⟨k + 1, by omega, by go_num, HL, HOv, HOn⟩
        case measure => simp [intOf]; omega
    · have hke : k = 4 := by omega
      subst hke
      go_wp2
      go_end0
      exact ⟨rfl, HL.out, (Only.ofNew HB0.out (fun b => lo ≤ b ∧ b < hi)).trans HOn.out (fun i hi => .inl hi)⟩
set_option maxRecDepth 10000 in
set_option maxHeartbeats 1600000 in
theorem over_L (w : World) (lo b1 b2 b3 hi gL cL gF cF gA cA gO cO : Nat) (sL sO : List Value) (nF nA : Nat) (kL kO : List Nat) (em : Bool) (h : Ln w lo b1 b2 b3 hi gL cL gF cF gA cA gO cO sL sO nF nA kL kO) (v1 : Value) (hv1 : sL.head? = some v1) (hv2 : sO = []) :
    Calls Tryd.prog 23 #[.agg #[.slice (some ⟨gL, 0, none⟩) sL.length cL, .slice (some ⟨gF, 0, none⟩) nF cF, .slice (some ⟨gA, 0, none⟩) nA cA, .slice (some ⟨gO, 0, none⟩) sO.length cO, .bool em]] w fun e w' => e = .returned (.tuple #[]) ∧ Ln w' lo b1 b2 b3 hi gL cL gF cF gA cA gO cO sL sO nF nA kL kO ∧ Only w w' (fun b => lo ≤ b ∧ b < hi) := by
  obtain ⟨j0, hj, hy0, hy1, hy2⟩ := info_parts infoInts
  obtain ⟨w0, hw0⟩ : ∃ w0, w0 = w.alloc (.cells #[.slice (some ⟨gL, 0, none⟩) sL.length cL, .slice (some ⟨gF, 0, none⟩) nF cF, .slice (some ⟨gA, 0, none⟩) nA cA, .slice (some ⟨gO, 0, none⟩) sO.length cO, .bool em] 25) := ⟨_, rfl⟩
  have hr0 : w0.heap[w.heap.size]? = some (.cells #[.slice (some ⟨gL, 0, none⟩) sL.length cL, .slice (some ⟨gF, 0, none⟩) nF cF, .slice (some ⟨gA, 0, none⟩) nA cA, .slice (some ⟨gO, 0, none⟩) sO.length cO, .bool em] 25 (0, 0)) := by rw [hw0]; exact heap_alloc_new w _
  have hb0 : Below w.heap.size w w0 := by rw [hw0]; exact (Below.refl _ _).alloc (Nat.le_refl _) _
  have hs0 : w0.heap.size = w.heap.size + 1 := by rw [hw0]; simp
  have hhi := h.hi'
  have HL0 := hid0 (h.kept hb0.size (fun k _ hk => hb0.block k (by omega)))
  have HC5 : Hid (∀ W, Below w0.heap.size w0 W → W.cell? ⟨w.heap.size, 0, none⟩ = some (.slice (some ⟨gL, 0, none⟩) sL.length cL) ∧ W.cell? ⟨w.heap.size, 1, none⟩ = some (.slice (some ⟨gF, 0, none⟩) nF cF) ∧ W.cell? ⟨w.heap.size, 2, none⟩ = some (.slice (some ⟨gA, 0, none⟩) nA cA) ∧ W.cell? ⟨w.heap.size, 3, none⟩ = some (.slice (some ⟨gO, 0, none⟩) sO.length cO) ∧ W.cell? ⟨w.heap.size, 4, none⟩ = some (.bool em)) := hid0 (fun W hW => row5 ((hW.block w.heap.size (by omega)).trans hr0))
  obtain ⟨c0, c1, c2, c3, c4⟩ := row5 hr0
  have hsm := h.small
  have hfold := hw0.symm
  have HB0 := hid0 hb0
  have Hwr : Hid (∀ v, (v = .slice (some ⟨gF, 0, none⟩) nF cF ∨ v = .slice (some ⟨gA, 0, none⟩) nA cA ∨ sL.head? = some v ∨ sO.head? = some v) → ∃ g m c, v = .slice (some ⟨g, 0, none⟩) m c ∧ (lo ≤ g ∧ g < hi) ∧ m ≤ 4000000 ∧ ∀ W, Ln W lo b1 b2 b3 hi gL cL gF cF gA cA gO cO sL sO nF nA kL kO → 0 < m → (∃ z, W.cell? ⟨g, 0, none⟩ = some (.int .i64 z)) ∧ W.frozen? ⟨g, 0, none⟩ = false ∧ ∀ z, inI z → Ln (W.setCell ⟨g, 0, none⟩ (.int .i64 z)) lo b1 b2 b3 hi gL cL gF cF gA cA gO cO sL sO nF nA kL kO) := hid0 (fun v hv => by
    obtain ⟨g, m, c, e, h1, h2, _⟩ := h.write v hv
    refine ⟨g, m, c, e, h1, h2, fun W hW hm => ?_⟩
    obtain ⟨g', m', c', e', h1', h2', h3'⟩ := hW.write v hv
    rw [e] at e'
    simp only [Value.slice.injEq, Option.some.injEq, Addr.mk.injEq, and_true] at e'
    obtain ⟨rfl, rfl, rfl⟩ := e'
    exact h3' hm)
  have HcC : Hid (∀ W, Below w0.heap.size w0 W → (∀ v, sL.head? = some v → W.cell? ⟨gL, 0, none⟩ = some v) ∧ (∀ v, sO.head? = some v → W.cell? ⟨gO, 0, none⟩ = some v)) := hid0 (fun W hW => by
    have hk := HL0.out.kept (W' := W) hW.size (fun k _ hk => hW.block k (by omega))
    obtain ⟨psL, psO, Fi, La, e1, e2, e3, e4, e5, e6, p1, p2, p3, p4, p5⟩ := hk.ex
    refine ⟨fun v hv => ?_, fun v hv => ?_⟩
    · rw [World.ownsRow.cellAt p1.outer 0 (by rw [← e1] at hv; cases psL with | nil => cases hv | cons a b => simp), e1]
      rw [← hv, List.head?_eq_getElem?]
    · rw [World.ownsRow.cellAt p4.outer 0 (by rw [← e2] at hv; cases psO with | nil => cases hv | cons a b => simp), e2]
      rw [← hv, List.head?_eq_getElem?])
  have hs1 : w.heap.size < w0.heap.size := by omega
  clear hw0 h hr0 hb0 hs0
  obtain ⟨xL, mL, dL, hvL, _, hmL, _⟩ := Hwr.out v1 (.inr (.inr (.inl hv1)))
  subst hvL
  have eL0 := hv1
  have hpL : 0 < sL.length := by cases sL with | nil => cases hv1 | cons a b => simp
  have hpLI : (0 : Int) < (sL.length : Int) := by omega
  have hpOI : ¬ (0 : Int) < (sO.length : Int) := by rw [hv2]; simp
  clear hv2
  obtain ⟨kL0, kO0⟩ := HcC.out w0 (Below.refl _ _)
  have eL := kL0 _ eL0
  have eO := True.intro
  clear kL0 kO0
  have hvs : ∀ v ∈ ([.slice (some ⟨gF, 0, none⟩) nF cF, .slice (some ⟨gA, 0, none⟩) nA cA, .slice (some ⟨xL, 0, none⟩) mL dL] : List Value), ∃ g m c, v = .slice (some ⟨g, 0, none⟩) m c ∧ (lo ≤ g ∧ g < hi) ∧ m ≤ 4000000 ∧ ∀ W, Ln W lo b1 b2 b3 hi gL cL gF cF gA cA gO cO sL sO nF nA kL kO → 0 < m → (∃ z, W.cell? ⟨g, 0, none⟩ = some (.int .i64 z)) ∧ W.frozen? ⟨g, 0, none⟩ = false ∧ ∀ z, inI z → Ln (W.setCell ⟨g, 0, none⟩ (.int .i64 z)) lo b1 b2 b3 hi gL cL gF cF gA cA gO cO sL sO nF nA kL kO := fun v hv => by
    simp only [List.mem_cons, List.not_mem_nil, or_false] at hv
    have hv' : v = .slice (some ⟨gF, 0, none⟩) nF cF ∨ v = .slice (some ⟨gA, 0, none⟩) nA cA ∨ sL.head? = some v ∨ sO.head? = some v := by
      rcases hv with rfl | rfl | rfl
      · exact .inl rfl
      · exact .inr (.inl rfl)
      · exact .inr (.inr (.inl eL0))
    exact Hwr.out v hv'
  have Hvs := hid0 hvs
  clear hvs
  go_enter Tryd.func23, Tryd.ntmps23
  have HO2 : Hid ((w0.alloc (.cells #[.slice (some ⟨gF, 0, none⟩) nF cF, .slice (some ⟨gA, 0, none⟩) nA cA] 23)).ownsRow w0.heap.size 23 1 (.slice (some ⟨w0.heap.size, 0, none⟩) 2 2) 2 [.slice (some ⟨gF, 0, none⟩) nF cF, .slice (some ⟨gA, 0, none⟩) nA cA]) := hid0 (World.ownsRow_lit w0 #[.slice (some ⟨gF, 0, none⟩) nF cF, .slice (some ⟨gA, 0, none⟩) nA cA] 2 (Nat.le_refl _) (by unfold maxLen; omega) rfl)
  obtain ⟨w2, hw2⟩ : ∃ w2, w2 = w0.alloc (.cells #[.slice (some ⟨gF, 0, none⟩) nF cF, .slice (some ⟨gA, 0, none⟩) nA cA] 23) := ⟨_, rfl⟩
  rw [← hw2] at HO2
  have hbl2 : Below w0.heap.size w0 w2 := by rw [hw2]; exact (Below.refl _ _).alloc (Nat.le_refl _) _
  have HBl2 := hid0 hbl2
  have hz2 := hbl2.size
  obtain ⟨e0, e1, e2, e3, e4⟩ := HC5.out w2 hbl2
  obtain ⟨kL2, kO2⟩ := HcC.out w2 hbl2
  have fL := kL2 _ eL0
  have fO := True.intro
  clear kL2 kO2
  have hf2 := hw2.symm
  clear hw2 hbl2
  go_upto_region 7 with (first
    | (at_builtin; go_loud ((
      refine wpList_append_own_at _ rfl _ _ 22 rfl w0.heap.size 23 j0 (.slice none 0 0) 1 24 Tryd.underlying22 hj hy0 hy1 hy2 rfl (by decide) _ 2 [.slice (some ⟨gF, 0, none⟩) nF cF, .slice (some ⟨gA, 0, none⟩) nA cA] rfl (World.ownsRow.alloc HO2.out _) ⟨w2.heap.size, 0, none⟩ 1 1 [.slice (some ⟨xL, 0, none⟩) mL dL] rfl rfl (cell_one_new _ _ _) (by simp [Value.oneCell']) (by unfold maxLen; omega) (by omega) (by simp; omega) ?_
      intro v2 w3 hown2 hgrow2 _ hat2
      obtain ⟨g3, d3, rfl, hg3, _, _⟩ := own_form hown2 (by omega)
      have HO3 := hid0 hown2
      have hbl := ((HBl2.out.alloc (by omega) _).grown hgrow2 (by simp; omega) (fun k' hk' => (World.ownsRow.lt HO2.out k' hk').1))
      have HBl3 := hid0 hbl
      have hz3 := hbl.size
      clear c0 c1 c2 c3 c4 eL eO
      obtain ⟨c0, c1, c2, c3, c4⟩ := HC5.out w3 hbl
      obtain ⟨kL2, kO2⟩ := HcC.out w3 hbl
      have eL := kL2 _ eL0
      have eO := True.intro
      clear kL2 kO2 hown2 hgrow2 hat2 hbl)))
    | fail)
  obtain ⟨gl, hgl⟩ : ∃ gl, gl = g3 := ⟨_, rfl⟩
  obtain ⟨vs, hvs⟩ : ∃ vs : List Value, vs = [.slice (some ⟨gF, 0, none⟩) nF cF, .slice (some ⟨gA, 0, none⟩) nA cA, .slice (some ⟨xL, 0, none⟩) mL dL] := ⟨_, rfl⟩
  have hlen : vs.length = 3 := by rw [hvs]; rfl
  have hgw : w0.heap.size ≤ gl ∧ gl < w3.heap.size := by rw [hgl]; exact World.ownsRow.lt HO3.out _ rfl
  have HLW : Hid (Ln w3 lo b1 b2 b3 hi gL cL gF cF gA cA gO cO sL sO nF nA kL kO) := hid0 (HL0.out.kept HBl3.out.size (fun k _ hk => HBl3.out.block k (by omega)))
  have HOW : Hid (Only w0 w3 (fun b => lo ≤ b ∧ b < hi)) := hid0 (Only.ofNew HBl3.out _)
  have HOv : Hid (w3.ownsRow w0.heap.size 23 1 (.slice (some ⟨gl, 0, none⟩) 3 d3) 3 vs) := hid0 (by rw [hgl, hvs]; exact HO3.out)
  rw [← hvs] at Hvs
  rw [← hgl]
  have hgW : gl < w3.heap.size := hgw.2
  clear hvs hgl HO3
  go_loopw [3] (fun i wr => ∃ k : Nat, k ≤ 3 ∧ i = .int .i64 (k : Int) ∧ Hid (Ln wr lo b1 b2 b3 hi gL cL gF cF gA cA gO cO sL sO nF nA kL kO) ∧ Hid (wr.ownsRow w0.heap.size 23 1 (.slice (some ⟨gl, 0, none⟩) 3 d3) 3 vs) ∧ Hid (Only w0 wr (fun b => lo ≤ b ∧ b < hi))) (fun i _ => 3 - (intOf i).toNat)
  case atStart => exact ⟨0, Nat.zero_le _, rfl, HLW, HOv, HOW⟩
  case round =>
    clear HLW HOv HOW
    obtain ⟨k, hk, rfl, HL, HOv, HOn⟩ := hrel
    by_cases hlt : k < 3
    · have hkv : k < vs.length := by omega
      obtain ⟨g, nn, cc, hv, hgb, hnn, hW⟩ := Hvs.out vs[k] (List.getElem_mem hkv)
      have hcell : wr.cell? ⟨gl, k, none⟩ = some (.slice (some ⟨g, 0, none⟩) nn cc) := by rw [World.ownsRow.cellAt HOv.out k (by omega), List.getElem?_eq_getElem hkv, hv]
      have hkI : (k : Int) < 3 := by omega
      have hkI0 : (0 : Int) ≤ (k : Int) := by omega
      by_cases hn0 : 0 < nn
      · obtain ⟨⟨z, hz⟩, hfr, hput⟩ := hW wr HL.out hn0
        have hnI : (0 : Int) < (nn : Int) := by omega
        have hpk := pickN_lt z 2 (by omega)
        have hpI : (pickN z 2 : Int) < 2 := by omega
        have hpI0 : (0 : Int) ≤ (pickN z 2 : Int) := by omega
        have HL5 := hid0 (hput (1 - (pickN z 2 : Int)) (by simp [inI, Lit.wf, IntKind.min, IntKind.max, IntKind.bits, IntKind.signed]; omega))
        have HOv5 := hid0 (own_blk HOv.out (W' := wr.setCell ⟨g, 0, none⟩ (.int .i64 (1 - (pickN z 2 : Int)))) (fun q hq => Below.heap_setCell wr _ _ q (by have e : gl = q := (by simpa [Value.ownBlock] using hq); show q ≠ g; omega)))
        have HOn5 : Hid (Only w0 (wr.setCell ⟨g, 0, none⟩ (.int .i64 (1 - (pickN z 2 : Int)))) (fun b => lo ≤ b ∧ b < hi)) := hid0 (HOn.out.trans (Only.setCell wr g 0 _) (fun i hi => by subst hi; exact .inl hgb))
        have HS5 : Hid ((wr.setCell ⟨g, 0, none⟩ (.int .i64 (1 - (pickN z 2 : Int)))).cell? ⟨gl, k, none⟩ = some (.slice (some ⟨g, 0, none⟩) nn cc)) := hid0 (by rw [World.ownsRow.cellAt HOv5.out k (by omega), List.getElem?_eq_getElem hkv, hv])
        have hwp : IntKind.i64.wrap (1 - (pickN z 2 : Int)) = 1 - (pickN z 2 : Int) := by simp [IntKind.wrap, IntKind.signed, IntKind.bits]; omega
        have HL6 : Hid (Ln (wr.setCell ⟨g, 0, none⟩ (.int .i64 (1 - (pickN z 2 : Int)))).drew lo b1 b2 b3 hi gL cL gF cF gA cA gO cO sL sO nF nA kL kO) := hid0 (HL5.out.kept (Nat.le_refl _) (fun _ _ _ => rfl))
        have HOn6 : Hid (Only w0 (wr.setCell ⟨g, 0, none⟩ (.int .i64 (1 - (pickN z 2 : Int)))).drew (fun b => lo ≤ b ∧ b < hi)) := hid0 (HOn5.out.trans (Only.drewN _ 1 (fun b => lo ≤ b ∧ b < hi)) (fun i hi => .inl hi))
        clear hput hv hW HL HOv HOn hpk HL5 HOn5
        go_upto_region 10 with fail
        refine wp_region_noPanic ?_
        refine wp_region_held_drew (S := (fun V => V.cell? ⟨gl, k, none⟩ = some (.slice (some ⟨g, 0, none⟩) nn cc))) (by kernel_rfl) ?_ (fun hHeld => ?_)
        · exact hcell
        refine tkV (i := 0) (d := some 43) (v := ?_) rfl (by kernel_rfl) (by kernel_rfl) (by kernel_rfl) rfl (fun _ _ _ h => h) (by rfl) ?_ (by assumption) ?_
        rotate_left
        · (intro w hSw; (try dsimp only at hSw); (try simp only [List.getElem_toArray, List.getElem_cons_zero]); go_simp; try with_reducible rfl)
        try simp only [Act.put, List.setIfInBounds_toArray, List.set_cons_zero, List.set_cons_succ]
        refine tkV (i := 1) (d := some 44) (v := ?_) rfl (by kernel_rfl) (by kernel_rfl) (by kernel_rfl) rfl (fun _ _ _ h => h) (by rfl) ?_ (by assumption) ?_
        rotate_left
        · (intro w hSw; (try dsimp only at hSw); (try simp only [List.getElem_toArray, List.getElem_cons_zero, List.getElem_cons_succ]); go_simp; try with_reducible rfl)
        try simp only [Act.put, List.setIfInBounds_toArray, List.set_cons_zero, List.set_cons_succ]
        refine tkV (i := 2) (d := some 45) (v := ?_) rfl (by kernel_rfl) (by kernel_rfl) (by kernel_rfl) rfl (fun _ _ _ h => h) (by rfl) ?_ (by assumption) ?_
        rotate_left
        · (intro w hSw; (try dsimp only at hSw); (try simp only [List.getElem_toArray, List.getElem_cons_zero, List.getElem_cons_succ]); go_simp; try with_reducible rfl)
        try simp only [Act.put, List.setIfInBounds_toArray, List.set_cons_zero, List.set_cons_succ]
        refine tkV (i := 3) (d := some 46) (v := ?_) rfl (by kernel_rfl) (by kernel_rfl) (by kernel_rfl) rfl (fun _ _ _ h => h) (by rfl) ?_ (by assumption) ?_
        rotate_left
        · (intro w hSw; (try dsimp only at hSw); (try simp only [List.getElem_toArray, List.getElem_cons_zero, List.getElem_cons_succ]); go_simp; try with_reducible rfl)
        try simp only [Act.put, List.setIfInBounds_toArray, List.set_cons_zero, List.set_cons_succ]
        refine tkV (i := 4) (d := some 47) (v := ?_) rfl (by kernel_rfl) (by kernel_rfl) (by kernel_rfl) rfl (fun _ _ _ h => h) (by rfl) ?_ (by assumption) ?_
        rotate_left
        · (intro w hSw; (try dsimp only at hSw); (try simp only [List.getElem_toArray, List.getElem_cons_zero, List.getElem_cons_succ]); go_simp; try with_reducible rfl)
        try simp only [Act.put, List.setIfInBounds_toArray, List.set_cons_zero, List.set_cons_succ]
        refine tkV (i := 5) (d := some 48) (v := ?_) rfl (by kernel_rfl) (by kernel_rfl) (by kernel_rfl) rfl (fun _ _ _ h => h) (by rfl) ?_ (by assumption) ?_
        rotate_left
        · (intro w hSw; (try dsimp only at hSw); (try simp only [List.getElem_toArray, List.getElem_cons_zero, List.getElem_cons_succ]); go_simp; try with_reducible rfl)
        try simp only [Act.put, List.setIfInBounds_toArray, List.set_cons_zero, List.set_cons_succ]
        refine tkV (i := 6) (d := some 49) (v := ?_) rfl (by kernel_rfl) (by kernel_rfl) (by kernel_rfl) rfl (fun _ _ _ h => h) (by rfl) ?_ (by assumption) ?_
        rotate_left
        · (intro w hSw; (try dsimp only at hSw); (try simp only [List.getElem_toArray, List.getElem_cons_zero, List.getElem_cons_succ]); go_simp; try with_reducible rfl)
        try simp only [Act.put, List.setIfInBounds_toArray, List.set_cons_zero, List.set_cons_succ]
        refine tkV (i := 7) (d := some 50) (v := ?_) rfl (by kernel_rfl) (by kernel_rfl) (by kernel_rfl) rfl (fun _ _ _ h => h) (by rfl) ?_ (by assumption) ?_
        rotate_left
        · (intro w hSw; (try dsimp only at hSw); (try simp only [List.getElem_toArray, List.getElem_cons_zero, List.getElem_cons_succ]); go_simp; try with_reducible rfl)
        try simp only [Act.put, List.setIfInBounds_toArray, List.set_cons_zero, List.set_cons_succ]
        refine tkV (i := 8) (d := some 51) (v := ?_) rfl (by kernel_rfl) (by kernel_rfl) (by kernel_rfl) rfl (fun _ _ _ h => h) (by rfl) ?_ (by assumption) ?_
        rotate_left
        · (intro w hSw; (try dsimp only at hSw); (try simp only [List.getElem_toArray, List.getElem_cons_zero, List.getElem_cons_succ]); go_simp; try with_reducible rfl)
        try simp only [Act.put, List.setIfInBounds_toArray, List.set_cons_zero, List.set_cons_succ]
        refine wpAnyH_ready (rs := [9]) (by kernel_rfl) (by simp) (AllReadyH.cons rfl (fun K hK => ?_) AllReadyH.nil)
        try simp only [List.getElem_toArray, List.getElem_cons_zero, List.getElem_cons_succ]
        go_simp
        refine hK.out _ _ ?_ (fun hHeld9 => ?_)
        · assumption
        clear hK K
        (try simp only [Act.put]); (try simp only [List.setIfInBounds_toArray]); (try simp only [List.set_cons_succ]); (try simp only [List.set_cons_zero])
        refine wpAnyH_ready (rs := [10]) (by kernel_rfl) (by simp) (AllReadyH.cons rfl (fun K hK => ?_) AllReadyH.nil)
        try simp only [List.getElem_toArray, List.getElem_cons_zero, List.getElem_cons_succ]
        go_simp
        refine (pick_at z 2 (by omega) (by omega) wr.drew).mono ?_
        rintro e w2 ⟨rfl, hw2⟩
        have hw2' := hw2.symm
        subst hw2'
        clear hw2
        go_wp2_with fail
        refine hK.out _ _ ?_ (fun hHeld10 => ?_)
        · assumption
        clear hK K
        (try simp only [Act.put]); (try simp only [List.setIfInBounds_toArray]); (try simp only [List.set_cons_succ]); (try simp only [List.set_cons_zero])
        refine tkV (i := 11) (d := some 54) (v := ?_) rfl (by kernel_rfl) (by kernel_rfl) (by kernel_rfl) rfl (fun _ _ _ h => h) (by rfl) ?_ (by assumption) ?_
        rotate_left
        · (intro w hSw; (try dsimp only at hSw); (try simp only [List.getElem_toArray, List.getElem_cons_zero, List.getElem_cons_succ]); go_simp; try with_reducible rfl)
        try simp only [Act.put, List.setIfInBounds_toArray, List.set_cons_zero, List.set_cons_succ]
        refine tkV (i := 12) (d := some 55) (v := ?_) rfl (by kernel_rfl) (by kernel_rfl) (by kernel_rfl) rfl (fun _ _ _ h => h) (by rfl) ?_ (by assumption) ?_
        rotate_left
        · (intro w hSw; (try dsimp only at hSw); (try simp only [List.getElem_toArray, List.getElem_cons_zero, List.getElem_cons_succ]); go_simp; try with_reducible rfl)
        try simp only [Act.put, List.setIfInBounds_toArray, List.set_cons_zero, List.set_cons_succ]
        refine wpAnyH_ready (rs := [13]) (by kernel_rfl) (by simp) (AllReadyH.cons rfl (fun K hK => ?_) AllReadyH.nil)
        try simp only [List.getElem_toArray, List.getElem_cons_zero, List.getElem_cons_succ]
        go_simp
        refine hK.out _ _ ?_ (fun hHeld13 => ?_)
        · exact HS5.out
        clear hK K
        (try simp only [Act.put]); (try simp only [List.setIfInBounds_toArray]); (try simp only [List.set_cons_succ]); (try simp only [List.set_cons_zero])
        refine wpAnyH_done (by kernel_rfl) ?_ _
        refine NoPanic.normal ?_
        go_wp2
        go_roundw
        case rel => exact ⟨k + 1, by omega, by go_num, HL6, HOv5, HOn6⟩
        case measure => simp [intOf]; omega
      · have hn1 : nn = 0 := by omega
        subst hn1
        clear hW hv
        go_wp2
        go_roundw
        case rel => exact ⟨k + 1, by omega, by go_num, HL, HOv, HOn⟩
        case measure => simp [intOf]; omega
    · have hke : k = 3 := by omega
      subst hke
      go_wp2
      go_end0
      exact ⟨rfl, HL.out, (Only.ofNew HB0.out (fun b => lo ≤ b ∧ b < hi)).trans HOn.out (fun i hi => .inl hi)⟩
set_option maxRecDepth 10000 in
set_option maxHeartbeats 1600000 in
theorem over_O (w : World) (lo b1 b2 b3 hi gL cL gF cF gA cA gO cO : Nat) (sL sO : List Value) (nF nA : Nat) (kL kO : List Nat) (em : Bool) (h : Ln w lo b1 b2 b3 hi gL cL gF cF gA cA gO cO sL sO nF nA kL kO) (hv1 : sL = []) (v2 : Value) (hv2 : sO.head? = some v2) :
    Calls Tryd.prog 23 #[.agg #[.slice (some ⟨gL, 0, none⟩) sL.length cL, .slice (some ⟨gF, 0, none⟩) nF cF, .slice (some ⟨gA, 0, none⟩) nA cA, .slice (some ⟨gO, 0, none⟩) sO.length cO, .bool em]] w fun e w' => e = .returned (.tuple #[]) ∧ Ln w' lo b1 b2 b3 hi gL cL gF cF gA cA gO cO sL sO nF nA kL kO ∧ Only w w' (fun b => lo ≤ b ∧ b < hi) := by
  obtain ⟨j0, hj, hy0, hy1, hy2⟩ := info_parts infoInts
  obtain ⟨w0, hw0⟩ : ∃ w0, w0 = w.alloc (.cells #[.slice (some ⟨gL, 0, none⟩) sL.length cL, .slice (some ⟨gF, 0, none⟩) nF cF, .slice (some ⟨gA, 0, none⟩) nA cA, .slice (some ⟨gO, 0, none⟩) sO.length cO, .bool em] 25) := ⟨_, rfl⟩
  have hr0 : w0.heap[w.heap.size]? = some (.cells #[.slice (some ⟨gL, 0, none⟩) sL.length cL, .slice (some ⟨gF, 0, none⟩) nF cF, .slice (some ⟨gA, 0, none⟩) nA cA, .slice (some ⟨gO, 0, none⟩) sO.length cO, .bool em] 25 (0, 0)) := by rw [hw0]; exact heap_alloc_new w _
  have hb0 : Below w.heap.size w w0 := by rw [hw0]; exact (Below.refl _ _).alloc (Nat.le_refl _) _
  have hs0 : w0.heap.size = w.heap.size + 1 := by rw [hw0]; simp
  have hhi := h.hi'
  have HL0 := hid0 (h.kept hb0.size (fun k _ hk => hb0.block k (by omega)))
  have HC5 : Hid (∀ W, Below w0.heap.size w0 W → W.cell? ⟨w.heap.size, 0, none⟩ = some (.slice (some ⟨gL, 0, none⟩) sL.length cL) ∧ W.cell? ⟨w.heap.size, 1, none⟩ = some (.slice (some ⟨gF, 0, none⟩) nF cF) ∧ W.cell? ⟨w.heap.size, 2, none⟩ = some (.slice (some ⟨gA, 0, none⟩) nA cA) ∧ W.cell? ⟨w.heap.size, 3, none⟩ = some (.slice (some ⟨gO, 0, none⟩) sO.length cO) ∧ W.cell? ⟨w.heap.size, 4, none⟩ = some (.bool em)) := hid0 (fun W hW => row5 ((hW.block w.heap.size (by omega)).trans hr0))
  obtain ⟨c0, c1, c2, c3, c4⟩ := row5 hr0
  have hsm := h.small
  have hfold := hw0.symm
  have HB0 := hid0 hb0
  have Hwr : Hid (∀ v, (v = .slice (some ⟨gF, 0, none⟩) nF cF ∨ v = .slice (some ⟨gA, 0, none⟩) nA cA ∨ sL.head? = some v ∨ sO.head? = some v) → ∃ g m c, v = .slice (some ⟨g, 0, none⟩) m c ∧ (lo ≤ g ∧ g < hi) ∧ m ≤ 4000000 ∧ ∀ W, Ln W lo b1 b2 b3 hi gL cL gF cF gA cA gO cO sL sO nF nA kL kO → 0 < m → (∃ z, W.cell? ⟨g, 0, none⟩ = some (.int .i64 z)) ∧ W.frozen? ⟨g, 0, none⟩ = false ∧ ∀ z, inI z → Ln (W.setCell ⟨g, 0, none⟩ (.int .i64 z)) lo b1 b2 b3 hi gL cL gF cF gA cA gO cO sL sO nF nA kL kO) := hid0 (fun v hv => by
    obtain ⟨g, m, c, e, h1, h2, _⟩ := h.write v hv
    refine ⟨g, m, c, e, h1, h2, fun W hW hm => ?_⟩
    obtain ⟨g', m', c', e', h1', h2', h3'⟩ := hW.write v hv
    rw [e] at e'
    simp only [Value.slice.injEq, Option.some.injEq, Addr.mk.injEq, and_true] at e'
    obtain ⟨rfl, rfl, rfl⟩ := e'
    exact h3' hm)
  have HcC : Hid (∀ W, Below w0.heap.size w0 W → (∀ v, sL.head? = some v → W.cell? ⟨gL, 0, none⟩ = some v) ∧ (∀ v, sO.head? = some v → W.cell? ⟨gO, 0, none⟩ = some v)) := hid0 (fun W hW => by
    have hk := HL0.out.kept (W' := W) hW.size (fun k _ hk => hW.block k (by omega))
    obtain ⟨psL, psO, Fi, La, e1, e2, e3, e4, e5, e6, p1, p2, p3, p4, p5⟩ := hk.ex
    refine ⟨fun v hv => ?_, fun v hv => ?_⟩
    · rw [World.ownsRow.cellAt p1.outer 0 (by rw [← e1] at hv; cases psL with | nil => cases hv | cons a b => simp), e1]
      rw [← hv, List.head?_eq_getElem?]
    · rw [World.ownsRow.cellAt p4.outer 0 (by rw [← e2] at hv; cases psO with | nil => cases hv | cons a b => simp), e2]
      rw [← hv, List.head?_eq_getElem?])
  have hs1 : w.heap.size < w0.heap.size := by omega
  clear hw0 h hr0 hb0 hs0
  have hpLI : ¬ (0 : Int) < (sL.length : Int) := by rw [hv1]; simp
  clear hv1
  obtain ⟨xO, mO, dO, hvO, _, hmO, _⟩ := Hwr.out v2 (.inr (.inr (.inr hv2)))
  subst hvO
  have eO0 := hv2
  have hpO : 0 < sO.length := by cases sO with | nil => cases hv2 | cons a b => simp
  have hpOI : (0 : Int) < (sO.length : Int) := by omega
  obtain ⟨kL0, kO0⟩ := HcC.out w0 (Below.refl _ _)
  have eL := True.intro
  have eO := kO0 _ eO0
  clear kL0 kO0
  have hvs : ∀ v ∈ ([.slice (some ⟨gF, 0, none⟩) nF cF, .slice (some ⟨gA, 0, none⟩) nA cA, .slice (some ⟨xO, 0, none⟩) mO dO] : List Value), ∃ g m c, v = .slice (some ⟨g, 0, none⟩) m c ∧ (lo ≤ g ∧ g < hi) ∧ m ≤ 4000000 ∧ ∀ W, Ln W lo b1 b2 b3 hi gL cL gF cF gA cA gO cO sL sO nF nA kL kO → 0 < m → (∃ z, W.cell? ⟨g, 0, none⟩ = some (.int .i64 z)) ∧ W.frozen? ⟨g, 0, none⟩ = false ∧ ∀ z, inI z → Ln (W.setCell ⟨g, 0, none⟩ (.int .i64 z)) lo b1 b2 b3 hi gL cL gF cF gA cA gO cO sL sO nF nA kL kO := fun v hv => by
    simp only [List.mem_cons, List.not_mem_nil, or_false] at hv
    have hv' : v = .slice (some ⟨gF, 0, none⟩) nF cF ∨ v = .slice (some ⟨gA, 0, none⟩) nA cA ∨ sL.head? = some v ∨ sO.head? = some v := by
      rcases hv with rfl | rfl | rfl
      · exact .inl rfl
      · exact .inr (.inl rfl)
      · exact .inr (.inr (.inr eO0))
    exact Hwr.out v hv'
  have Hvs := hid0 hvs
  clear hvs
  go_enter Tryd.func23, Tryd.ntmps23
  have HO2 : Hid ((w0.alloc (.cells #[.slice (some ⟨gF, 0, none⟩) nF cF, .slice (some ⟨gA, 0, none⟩) nA cA] 23)).ownsRow w0.heap.size 23 1 (.slice (some ⟨w0.heap.size, 0, none⟩) 2 2) 2 [.slice (some ⟨gF, 0, none⟩) nF cF, .slice (some ⟨gA, 0, none⟩) nA cA]) := hid0 (World.ownsRow_lit w0 #[.slice (some ⟨gF, 0, none⟩) nF cF, .slice (some ⟨gA, 0, none⟩) nA cA] 2 (Nat.le_refl _) (by unfold maxLen; omega) rfl)
  obtain ⟨w2, hw2⟩ : ∃ w2, w2 = w0.alloc (.cells #[.slice (some ⟨gF, 0, none⟩) nF cF, .slice (some ⟨gA, 0, none⟩) nA cA] 23) := ⟨_, rfl⟩
  rw [← hw2] at HO2
  have hbl2 : Below w0.heap.size w0 w2 := by rw [hw2]; exact (Below.refl _ _).alloc (Nat.le_refl _) _
  have HBl2 := hid0 hbl2
  have hz2 := hbl2.size
  obtain ⟨e0, e1, e2, e3, e4⟩ := HC5.out w2 hbl2
  obtain ⟨kL2, kO2⟩ := HcC.out w2 hbl2
  have fL := True.intro
  have fO := kO2 _ eO0
  clear kL2 kO2
  have hf2 := hw2.symm
  clear hw2 hbl2
  go_upto_region 7 with (first
    | (at_builtin; go_loud ((
      refine wpList_append_own_at _ rfl _ _ 22 rfl w0.heap.size 23 j0 (.slice none 0 0) 1 24 Tryd.underlying22 hj hy0 hy1 hy2 rfl (by decide) _ 2 [.slice (some ⟨gF, 0, none⟩) nF cF, .slice (some ⟨gA, 0, none⟩) nA cA] rfl (World.ownsRow.alloc HO2.out _) ⟨w2.heap.size, 0, none⟩ 1 1 [.slice (some ⟨xO, 0, none⟩) mO dO] rfl rfl (cell_one_new _ _ _) (by simp [Value.oneCell']) (by unfold maxLen; omega) (by omega) (by simp; omega) ?_
      intro v2 w3 hown2 hgrow2 _ hat2
      obtain ⟨g3, d3, rfl, hg3, _, _⟩ := own_form hown2 (by omega)
      have HO3 := hid0 hown2
      have hbl := ((HBl2.out.alloc (by omega) _).grown hgrow2 (by simp; omega) (fun k' hk' => (World.ownsRow.lt HO2.out k' hk').1))
      have HBl3 := hid0 hbl
      have hz3 := hbl.size
      clear c0 c1 c2 c3 c4 eL eO
      obtain ⟨c0, c1, c2, c3, c4⟩ := HC5.out w3 hbl
      obtain ⟨kL2, kO2⟩ := HcC.out w3 hbl
      have eL := True.intro
      have eO := kO2 _ eO0
      clear kL2 kO2 hown2 hgrow2 hat2 hbl)))
    | fail)
  obtain ⟨gl, hgl⟩ : ∃ gl, gl = g3 := ⟨_, rfl⟩
  obtain ⟨vs, hvs⟩ : ∃ vs : List Value, vs = [.slice (some ⟨gF, 0, none⟩) nF cF, .slice (some ⟨gA, 0, none⟩) nA cA, .slice (some ⟨xO, 0, none⟩) mO dO] := ⟨_, rfl⟩
  have hlen : vs.length = 3 := by rw [hvs]; rfl
  have hgw : w0.heap.size ≤ gl ∧ gl < w3.heap.size := by rw [hgl]; exact World.ownsRow.lt HO3.out _ rfl
  have HLW : Hid (Ln w3 lo b1 b2 b3 hi gL cL gF cF gA cA gO cO sL sO nF nA kL kO) := hid0 (HL0.out.kept HBl3.out.size (fun k _ hk => HBl3.out.block k (by omega)))
  have HOW : Hid (Only w0 w3 (fun b => lo ≤ b ∧ b < hi)) := hid0 (Only.ofNew HBl3.out _)
  have HOv : Hid (w3.ownsRow w0.heap.size 23 1 (.slice (some ⟨gl, 0, none⟩) 3 d3) 3 vs) := hid0 (by rw [hgl, hvs]; exact HO3.out)
  rw [← hvs] at Hvs
  rw [← hgl]
  have hgW : gl < w3.heap.size := hgw.2
  clear hvs hgl HO3
  go_loopw [3] (fun i wr => ∃ k : Nat, k ≤ 3 ∧ i = .int .i64 (k : Int) ∧ Hid (Ln wr lo b1 b2 b3 hi gL cL gF cF gA cA gO cO sL sO nF nA kL kO) ∧ Hid (wr.ownsRow w0.heap.size 23 1 (.slice (some ⟨gl, 0, none⟩) 3 d3) 3 vs) ∧ Hid (Only w0 wr (fun b => lo ≤ b ∧ b < hi))) (fun i _ => 3 - (intOf i).toNat)
  case atStart => exact ⟨0, Nat.zero_le _, rfl, HLW, HOv, HOW⟩
  case round =>
    clear HLW HOv HOW
    obtain ⟨k, hk, rfl, HL, HOv, HOn⟩ := hrel
    by_cases hlt : k < 3
    · have hkv : k < vs.length := by omega
      obtain ⟨g, nn, cc, hv, hgb, hnn, hW⟩ := Hvs.out vs[k] (List.getElem_mem hkv)
      have hcell : wr.cell? ⟨gl, k, none⟩ = some (.slice (some ⟨g, 0, none⟩) nn cc) := by rw [World.ownsRow.cellAt HOv.out k (by omega), List.getElem?_eq_getElem hkv, hv]
      have hkI : (k : Int) < 3 := by omega
      have hkI0 : (0 : Int) ≤ (k : Int) := by omega
      by_cases hn0 : 0 < nn
      · obtain ⟨⟨z, hz⟩, hfr, hput⟩ := hW wr HL.out hn0
        have hnI : (0 : Int) < (nn : Int) := by omega
        have hpk := pickN_lt z 2 (by omega)
        have hpI : (pickN z 2 : Int) < 2 := by omega
        have hpI0 : (0 : Int) ≤ (pickN z 2 : Int) := by omega
        have HL5 := hid0 (hput (1 - (pickN z 2 : Int)) (by simp [inI, Lit.wf, IntKind.min, IntKind.max, IntKind.bits, IntKind.signed]; omega))
        have HOv5 := hid0 (own_blk HOv.out (W' := wr.setCell ⟨g, 0, none⟩ (.int .i64 (1 - (pickN z 2 : Int)))) (fun q hq => Below.heap_setCell wr _ _ q (by have e : gl = q := (by simpa [Value.ownBlock] using hq); show q ≠ g; omega)))
        have HOn5 : Hid (Only w0 (wr.setCell ⟨g, 0, none⟩ (.int .i64 (1 - (pickN z 2 : Int)))) (fun b => lo ≤ b ∧ b < hi)) := hid0 (HOn.out.trans (Only.setCell wr g 0 _) (fun i hi => by subst hi; exact .inl hgb))
        have HS5 : Hid ((wr.setCell ⟨g, 0, none⟩ (.int .i64 (1 - (pickN z 2 : Int)))).cell? ⟨gl, k, none⟩ = some (.slice (some ⟨g, 0, none⟩) nn cc)) := hid0 (by rw [World.ownsRow.cellAt HOv5.out k (by omega), List.getElem?_eq_getElem hkv, hv])
        have hwp : IntKind.i64.wrap (1 - (pickN z 2 : Int)) = 1 - (pickN z 2 : Int) := by simp [IntKind.wrap, IntKind.signed, IntKind.bits]; omega
        have HL6 : Hid (Ln (wr.setCell ⟨g, 0, none⟩ (.int .i64 (1 - (pickN z 2 : Int)))).drew lo b1 b2 b3 hi gL cL gF cF gA cA gO cO sL sO nF nA kL kO) := hid0 (HL5.out.kept (Nat.le_refl _) (fun _ _ _ => rfl))
        have HOn6 : Hid (Only w0 (wr.setCell ⟨g, 0, none⟩ (.int .i64 (1 - (pickN z 2 : Int)))).drew (fun b => lo ≤ b ∧ b < hi)) := hid0 (HOn5.out.trans (Only.drewN _ 1 (fun b => lo ≤ b ∧ b < hi)) (fun i hi => .inl hi))
        clear hput hv hW HL HOv HOn hpk HL5 HOn5
        go_upto_region 10 with fail
        refine wp_region_noPanic ?_
        refine wp_region_held_drew (S := (fun V => V.cell? ⟨gl, k, none⟩ = some (.slice (some ⟨g, 0, none⟩) nn cc))) (by kernel_rfl) ?_ (fun hHeld => ?_)
        · exact hcell
        refine tkV (i := 0) (d := some 43) (v := ?_) rfl (by kernel_rfl) (by kernel_rfl) (by kernel_rfl) rfl (fun _ _ _ h => h) (by rfl) ?_ (by assumption) ?_
        rotate_left
        · (intro w hSw; (try dsimp only at hSw); (try simp only [List.getElem_toArray, List.getElem_cons_zero]); go_simp; try with_reducible rfl)
        try simp only [Act.put, List.setIfInBounds_toArray, List.set_cons_zero, List.set_cons_succ]
        refine tkV (i := 1) (d := some 44) (v := ?_) rfl (by kernel_rfl) (by kernel_rfl) (by kernel_rfl) rfl (fun _ _ _ h => h) (by rfl) ?_ (by assumption) ?_
        rotate_left
        · (intro w hSw; (try dsimp only at hSw); (try simp only [List.getElem_toArray, List.getElem_cons_zero, List.getElem_cons_succ]); go_simp; try with_reducible rfl)
        try simp only [Act.put, List.setIfInBounds_toArray, List.set_cons_zero, List.set_cons_succ]
        refine tkV (i := 2) (d := some 45) (v := ?_) rfl (by kernel_rfl) (by kernel_rfl) (by kernel_rfl) rfl (fun _ _ _ h => h) (by rfl) ?_ (by assumption) ?_
        rotate_left
        · (intro w hSw; (try dsimp only at hSw); (try simp only [List.getElem_toArray, List.getElem_cons_zero, List.getElem_cons_succ]); go_simp; try with_reducible rfl)
        try simp only [Act.put, List.setIfInBounds_toArray, List.set_cons_zero, List.set_cons_succ]
        refine tkV (i := 3) (d := some 46) (v := ?_) rfl (by kernel_rfl) (by kernel_rfl) (by kernel_rfl) rfl (fun _ _ _ h => h) (by rfl) ?_ (by assumption) ?_
        rotate_left
        · (intro w hSw; (try dsimp only at hSw); (try simp only [List.getElem_toArray, List.getElem_cons_zero, List.getElem_cons_succ]); go_simp; try with_reducible rfl)
        try simp only [Act.put, List.setIfInBounds_toArray, List.set_cons_zero, List.set_cons_succ]
        refine tkV (i := 4) (d := some 47) (v := ?_) rfl (by kernel_rfl) (by kernel_rfl) (by kernel_rfl) rfl (fun _ _ _ h => h) (by rfl) ?_ (by assumption) ?_
        rotate_left
        · (intro w hSw; (try dsimp only at hSw); (try simp only [List.getElem_toArray, List.getElem_cons_zero, List.getElem_cons_succ]); go_simp; try with_reducible rfl)
        try simp only [Act.put, List.setIfInBounds_toArray, List.set_cons_zero, List.set_cons_succ]
        refine tkV (i := 5) (d := some 48) (v := ?_) rfl (by kernel_rfl) (by kernel_rfl) (by kernel_rfl) rfl (fun _ _ _ h => h) (by rfl) ?_ (by assumption) ?_
        rotate_left
        · (intro w hSw; (try dsimp only at hSw); (try simp only [List.getElem_toArray, List.getElem_cons_zero, List.getElem_cons_succ]); go_simp; try with_reducible rfl)
        try simp only [Act.put, List.setIfInBounds_toArray, List.set_cons_zero, List.set_cons_succ]
        refine tkV (i := 6) (d := some 49) (v := ?_) rfl (by kernel_rfl) (by kernel_rfl) (by kernel_rfl) rfl (fun _ _ _ h => h) (by rfl) ?_ (by assumption) ?_
        rotate_left
        · (intro w hSw; (try dsimp only at hSw); (try simp only [List.getElem_toArray, List.getElem_cons_zero, List.getElem_cons_succ]); go_simp; try with_reducible rfl)
        try simp only [Act.put, List.setIfInBounds_toArray, List.set_cons_zero, List.set_cons_succ]
        refine tkV (i := 7) (d := some 50) (v := ?_) rfl (by kernel_rfl) (by kernel_rfl) (by kernel_rfl) rfl (fun _ _ _ h => h) (by rfl) ?_ (by assumption) ?_
        rotate_left
        · (intro w hSw; (try dsimp only at hSw); (try simp only [List.getElem_toArray, List.getElem_cons_zero, List.getElem_cons_succ]); go_simp; try with_reducible rfl)
        try simp only [Act.put, List.setIfInBounds_toArray, List.set_cons_zero, List.set_cons_succ]
        refine tkV (i := 8) (d := some 51) (v := ?_) rfl (by kernel_rfl) (by kernel_rfl) (by kernel_rfl) rfl (fun _ _ _ h => h) (by rfl) ?_ (by assumption) ?_
        rotate_left
        · (intro w hSw; (try dsimp only at hSw); (try simp only [List.getElem_toArray, List.getElem_cons_zero, List.getElem_cons_succ]); go_simp; try with_reducible rfl)
        try simp only [Act.put, List.setIfInBounds_toArray, List.set_cons_zero, List.set_cons_succ]
        refine wpAnyH_ready (rs := [9]) (by kernel_rfl) (by simp) (AllReadyH.cons rfl (fun K hK => ?_) AllReadyH.nil)
        try simp only [List.getElem_toArray, List.getElem_cons_zero, List.getElem_cons_succ]
        go_simp
        refine hK.out _ _ ?_ (fun hHeld9 => ?_)
        · assumption
        clear hK K
        (try simp only [Act.put]); (try simp only [List.setIfInBounds_toArray]); (try simp only [List.set_cons_succ]); (try simp only [List.set_cons_zero])
        refine wpAnyH_ready (rs := [10]) (by kernel_rfl) (by simp) (AllReadyH.cons rfl (fun K hK => ?_) AllReadyH.nil)
        try simp only [List.getElem_toArray, List.getElem_cons_zero, List.getElem_cons_succ]
        go_simp
        refine (pick_at z 2 (by omega) (by omega) wr.drew).mono ?_
        rintro e w2 ⟨rfl, hw2⟩
        have hw2' := hw2.symm
        subst hw2'
        clear hw2
        go_wp2_with fail
        refine hK.out _ _ ?_ (fun hHeld10 => ?_)
        · assumption
        clear hK K
        (try simp only [Act.put]); (try simp only [List.setIfInBounds_toArray]); (try simp only [List.set_cons_succ]); (try simp only [List.set_cons_zero])
        refine tkV (i := 11) (d := some 54) (v := ?_) rfl (by kernel_rfl) (by kernel_rfl) (by kernel_rfl) rfl (fun _ _ _ h => h) (by rfl) ?_ (by assumption) ?_
        rotate_left
        · (intro w hSw; (try dsimp only at hSw); (try simp only [List.getElem_toArray, List.getElem_cons_zero, List.getElem_cons_succ]); go_simp; try with_reducible rfl)
        try simp only [Act.put, List.setIfInBounds_toArray, List.set_cons_zero, List.set_cons_succ]
        refine tkV (i := 12) (d := some 55) (v := ?_) rfl (by kernel_rfl) (by kernel_rfl) (by kernel_rfl) rfl (fun _ _ _ h => h) (by rfl) ?_ (by assumption) ?_
        rotate_left
        · (intro w hSw; (try dsimp only at hSw); (try simp only [List.getElem_toArray, List.getElem_cons_zero, List.getElem_cons_succ]); go_simp; try with_reducible rfl)
        try simp only [Act.put, List.setIfInBounds_toArray, List.set_cons_zero, List.set_cons_succ]
        refine wpAnyH_ready (rs := [13]) (by kernel_rfl) (by simp) (AllReadyH.cons rfl (fun K hK => ?_) AllReadyH.nil)
        try simp only [List.getElem_toArray, List.getElem_cons_zero, List.getElem_cons_succ]
        go_simp
        refine hK.out _ _ ?_ (fun hHeld13 => ?_)
        · exact HS5.out
        clear hK K
        (try simp only [Act.put]); (try simp only [List.setIfInBounds_toArray]); (try simp only [List.set_cons_succ]); (try simp only [List.set_cons_zero])
        refine wpAnyH_done (by kernel_rfl) ?_ _
        refine NoPanic.normal ?_
        go_wp2
        go_roundw
        case rel => exact ⟨k + 1, by omega, by go_num, HL6, HOv5, HOn6⟩
        case measure => simp [intOf]; omega
      · have hn1 : nn = 0 := by omega
        subst hn1
        clear hW hv
        go_wp2
        go_roundw
        case rel => exact ⟨k + 1, by omega, by go_num, HL, HOv, HOn⟩
        case measure => simp [intOf]; omega
    · have hke : k = 3 := by omega
      subst hke
      go_wp2
      go_end0
      exact ⟨rfl, HL.out, (Only.ofNew HB0.out (fun b => lo ≤ b ∧ b < hi)).trans HOn.out (fun i hi => .inl hi)⟩
set_option maxRecDepth 10000 in
set_option maxHeartbeats 1600000 in
theorem over_N (w : World) (lo b1 b2 b3 hi gL cL gF cF gA cA gO cO : Nat) (sL sO : List Value) (nF nA : Nat) (kL kO : List Nat) (em : Bool) (h : Ln w lo b1 b2 b3 hi gL cL gF cF gA cA gO cO sL sO nF nA kL kO) (hv1 : sL = []) (hv2 : sO = []) :
    Calls Tryd.prog 23 #[.agg #[.slice (some ⟨gL, 0, none⟩) sL.length cL, .slice (some ⟨gF, 0, none⟩) nF cF, .slice (some ⟨gA, 0, none⟩) nA cA, .slice (some ⟨gO, 0, none⟩) sO.length cO, .bool em]] w fun e w' => e = .returned (.tuple #[]) ∧ Ln w' lo b1 b2 b3 hi gL cL gF cF gA cA gO cO sL sO nF nA kL kO ∧ Only w w' (fun b => lo ≤ b ∧ b < hi) := by
  obtain ⟨j0, hj, hy0, hy1, hy2⟩ := info_parts infoInts
  obtain ⟨w0, hw0⟩ : ∃ w0, w0 = w.alloc (.cells #[.slice (some ⟨gL, 0, none⟩) sL.length cL, .slice (some ⟨gF, 0, none⟩) nF cF, .slice (some ⟨gA, 0, none⟩) nA cA, .slice (some ⟨gO, 0, none⟩) sO.length cO, .bool em] 25) := ⟨_, rfl⟩
  have hr0 : w0.heap[w.heap.size]? = some (.cells #[.slice (some ⟨gL, 0, none⟩) sL.length cL, .slice (some ⟨gF, 0, none⟩) nF cF, .slice (some ⟨gA, 0, none⟩) nA cA, .slice (some ⟨gO, 0, none⟩) sO.length cO, .bool em] 25 (0, 0)) := by rw [hw0]; exact heap_alloc_new w _
  have hb0 : Below w.heap.size w w0 := by rw [hw0]; exact (Below.refl _ _).alloc (Nat.le_refl _) _
  have hs0 : w0.heap.size = w.heap.size + 1 := by rw [hw0]; simp
  have hhi := h.hi'
  have HL0 := hid0 (h.kept hb0.size (fun k _ hk => hb0.block k (by omega)))
  have HC5 : Hid (∀ W, Below w0.heap.size w0 W → W.cell? ⟨w.heap.size, 0, none⟩ = some (.slice (some ⟨gL, 0, none⟩) sL.length cL) ∧ W.cell? ⟨w.heap.size, 1, none⟩ = some (.slice (some ⟨gF, 0, none⟩) nF cF) ∧ W.cell? ⟨w.heap.size, 2, none⟩ = some (.slice (some ⟨gA, 0, none⟩) nA cA) ∧ W.cell? ⟨w.heap.size, 3, none⟩ = some (.slice (some ⟨gO, 0, none⟩) sO.length cO) ∧ W.cell? ⟨w.heap.size, 4, none⟩ = some (.bool em)) := hid0 (fun W hW => row5 ((hW.block w.heap.size (by omega)).trans hr0))
  obtain ⟨c0, c1, c2, c3, c4⟩ := row5 hr0
  have hsm := h.small
  have hfold := hw0.symm
  have HB0 := hid0 hb0
  have Hwr : Hid (∀ v, (v = .slice (some ⟨gF, 0, none⟩) nF cF ∨ v = .slice (some ⟨gA, 0, none⟩) nA cA ∨ sL.head? = some v ∨ sO.head? = some v) → ∃ g m c, v = .slice (some ⟨g, 0, none⟩) m c ∧ (lo ≤ g ∧ g < hi) ∧ m ≤ 4000000 ∧ ∀ W, Ln W lo b1 b2 b3 hi gL cL gF cF gA cA gO cO sL sO nF nA kL kO → 0 < m → (∃ z, W.cell? ⟨g, 0, none⟩ = some (.int .i64 z)) ∧ W.frozen? ⟨g, 0, none⟩ = false ∧ ∀ z, inI z → Ln (W.setCell ⟨g, 0, none⟩ (.int .i64 z)) lo b1 b2 b3 hi gL cL gF cF gA cA gO cO sL sO nF nA kL kO) := hid0 (fun v hv => by
    obtain ⟨g, m, c, e, h1, h2, _⟩ := h.write v hv
    refine ⟨g, m, c, e, h1, h2, fun W hW hm => ?_⟩
    obtain ⟨g', m', c', e', h1', h2', h3'⟩ := hW.write v hv
    rw [e] at e'
    simp only [Value.slice.injEq, Option.some.injEq, Addr.mk.injEq, and_true] at e'
    obtain ⟨rfl, rfl, rfl⟩ := e'
    exact h3' hm)
  have HcC : Hid (∀ W, Below w0.heap.size w0 W → (∀ v, sL.head? = some v → W.cell? ⟨gL, 0, none⟩ = some v) ∧ (∀ v, sO.head? = some v → W.cell? ⟨gO, 0, none⟩ = some v)) := hid0 (fun W hW => by
    have hk := HL0.out.kept (W' := W) hW.size (fun k _ hk => hW.block k (by omega))
    obtain ⟨psL, psO, Fi, La, e1, e2, e3, e4, e5, e6, p1, p2, p3, p4, p5⟩ := hk.ex
    refine ⟨fun v hv => ?_, fun v hv => ?_⟩
    · rw [World.ownsRow.cellAt p1.outer 0 (by rw [← e1] at hv; cases psL with | nil => cases hv | cons a b => simp), e1]
      rw [← hv, List.head?_eq_getElem?]
    · rw [World.ownsRow.cellAt p4.outer 0 (by rw [← e2] at hv; cases psO with | nil => cases hv | cons a b => simp), e2]
      rw [← hv, List.head?_eq_getElem?])
  have hs1 : w.heap.size < w0.heap.size := by omega
  clear hw0 h hr0 hb0 hs0
  have hpLI : ¬ (0 : Int) < (sL.length : Int) := by rw [hv1]; simp
  clear hv1
  have hpOI : ¬ (0 : Int) < (sO.length : Int) := by rw [hv2]; simp
  clear hv2
  obtain ⟨kL0, kO0⟩ := HcC.out w0 (Below.refl _ _)
  have eL := True.intro
  have eO := True.intro
  clear kL0 kO0
  have hvs : ∀ v ∈ ([.slice (some ⟨gF, 0, none⟩) nF cF, .slice (some ⟨gA, 0, none⟩) nA cA] : List Value), ∃ g m c, v = .slice (some ⟨g, 0, none⟩) m c ∧ (lo ≤ g ∧ g < hi) ∧ m ≤ 4000000 ∧ ∀ W, Ln W lo b1 b2 b3 hi gL cL gF cF gA cA gO cO sL sO nF nA kL kO → 0 < m → (∃ z, W.cell? ⟨g, 0, none⟩ = some (.int .i64 z)) ∧ W.frozen? ⟨g, 0, none⟩ = false ∧ ∀ z, inI z → Ln (W.setCell ⟨g, 0, none⟩ (.int .i64 z)) lo b1 b2 b3 hi gL cL gF cF gA cA gO cO sL sO nF nA kL kO := fun v hv => by
    simp only [List.mem_cons, List.not_mem_nil, or_false] at hv
    have hv' : v = .slice (some ⟨gF, 0, none⟩) nF cF ∨ v = .slice (some ⟨gA, 0, none⟩) nA cA ∨ sL.head? = some v ∨ sO.head? = some v := by
      rcases hv with rfl | rfl
      · exact .inl rfl
      · exact .inr (.inl rfl)
    exact Hwr.out v hv'
  have Hvs := hid0 hvs
  clear hvs
  go_enter Tryd.func23, Tryd.ntmps23
  have HO2 : Hid ((w0.alloc (.cells #[.slice (some ⟨gF, 0, none⟩) nF cF, .slice (some ⟨gA, 0, none⟩) nA cA] 23)).ownsRow w0.heap.size 23 1 (.slice (some ⟨w0.heap.size, 0, none⟩) 2 2) 2 [.slice (some ⟨gF, 0, none⟩) nF cF, .slice (some ⟨gA, 0, none⟩) nA cA]) := hid0 (World.ownsRow_lit w0 #[.slice (some ⟨gF, 0, none⟩) nF cF, .slice (some ⟨gA, 0, none⟩) nA cA] 2 (Nat.le_refl _) (by unfold maxLen; omega) rfl)
  obtain ⟨w2, hw2⟩ : ∃ w2, w2 = w0.alloc (.cells #[.slice (some ⟨gF, 0, none⟩) nF cF, .slice (some ⟨gA, 0, none⟩) nA cA] 23) := ⟨_, rfl⟩
  rw [← hw2] at HO2
  have hbl2 : Below w0.heap.size w0 w2 := by rw [hw2]; exact (Below.refl _ _).alloc (Nat.le_refl _) _
  have HBl2 := hid0 hbl2
  have hz2 := hbl2.size
  obtain ⟨e0, e1, e2, e3, e4⟩ := HC5.out w2 hbl2
  obtain ⟨kL2, kO2⟩ := HcC.out w2 hbl2
  have fL := True.intro
  have fO := True.intro
  clear kL2 kO2
  have hf2 := hw2.symm
  clear hw2 hbl2
  go_upto_region 7 with fail
  obtain ⟨gl, hgl⟩ : ∃ gl, gl = w0.heap.size := ⟨_, rfl⟩
  obtain ⟨vs, hvs⟩ : ∃ vs : List Value, vs = [.slice (some ⟨gF, 0, none⟩) nF cF, .slice (some ⟨gA, 0, none⟩) nA cA] := ⟨_, rfl⟩
  have hlen : vs.length = 2 := by rw [hvs]; rfl
  have hgw : w0.heap.size ≤ gl ∧ gl < w2.heap.size := by rw [hgl]; exact World.ownsRow.lt HO2.out _ rfl
  have HLW : Hid (Ln w2 lo b1 b2 b3 hi gL cL gF cF gA cA gO cO sL sO nF nA kL kO) := hid0 (HL0.out.kept HBl2.out.size (fun k _ hk => HBl2.out.block k (by omega)))
  have HOW : Hid (Only w0 w2 (fun b => lo ≤ b ∧ b < hi)) := hid0 (Only.ofNew HBl2.out _)
  have HOv : Hid (w2.ownsRow w0.heap.size 23 1 (.slice (some ⟨gl, 0, none⟩) 2 2) 2 vs) := hid0 (by rw [hgl, hvs]; exact HO2.out)
  rw [← hvs] at Hvs
  rw [← hgl]
  have hgW : gl < w2.heap.size := hgw.2
  clear hvs hgl HO2
  go_loopw [3] (fun i wr => ∃ k : Nat, k ≤ 2 ∧ i = .int .i64 (k : Int) ∧ Hid (Ln wr lo b1 b2 b3 hi gL cL gF cF gA cA gO cO sL sO nF nA kL kO) ∧ Hid (wr.ownsRow w0.heap.size 23 1 (.slice (some ⟨gl, 0, none⟩) 2 2) 2 vs) ∧ Hid (Only w0 wr (fun b => lo ≤ b ∧ b < hi))) (fun i _ => 2 - (intOf i).toNat)
  case atStart => exact ⟨0, Nat.zero_le _, rfl, HLW, HOv, HOW⟩
  case round =>
    clear HLW HOv HOW
    obtain ⟨k, hk, rfl, HL, HOv, HOn⟩ := hrel
    by_cases hlt : k < 2
    · have hkv : k < vs.length := by omega
      obtain ⟨g, nn, cc, hv, hgb, hnn, hW⟩ := Hvs.out vs[k] (List.getElem_mem hkv)
      have hcell : wr.cell? ⟨gl, k, none⟩ = some (.slice (some ⟨g, 0, none⟩) nn cc) := by rw [World.ownsRow.cellAt HOv.out k (by omega), List.getElem?_eq_getElem hkv, hv]
      have hkI : (k : Int) < 2 := by omega
      have hkI0 : (0 : Int) ≤ (k : Int) := by omega
      by_cases hn0 : 0 < nn
      · obtain ⟨⟨z, hz⟩, hfr, hput⟩ := hW wr HL.out hn0
        have hnI : (0 : Int) < (nn : Int) := by omega
        have hpk := pickN_lt z 2 (by omega)
        have hpI : (pickN z 2 : Int) < 2 := by omega
        have hpI0 : (0 : Int) ≤ (pickN z 2 : Int) := by omega
        have HL5 := hid0 (hput (1 - (pickN z 2 : Int)) (by simp [inI, Lit.wf, IntKind.min, IntKind.max, IntKind.bits, IntKind.signed]; omega))
        have HOv5 := hid0 (own_blk HOv.out (W' := wr.setCell ⟨g, 0, none⟩ (.int .i64 (1 - (pickN z 2 : Int)))) (fun q hq => Below.heap_setCell wr _ _ q (by have e : gl = q := (by simpa [Value.ownBlock] using hq); show q ≠ g; omega)))
        have HOn5 : Hid (Only w0 (wr.setCell ⟨g, 0, none⟩ (.int .i64 (1 - (pickN z 2 : Int)))) (fun b => lo ≤ b ∧ b < hi)) := hid0 (HOn.out.trans (Only.setCell wr g 0 _) (fun i hi => by subst hi; exact .inl hgb))
        have HS5 : Hid ((wr.setCell ⟨g, 0, none⟩ (.int .i64 (1 - (pickN z 2 : Int)))).cell? ⟨gl, k, none⟩ = some (.slice (some ⟨g, 0, none⟩) nn cc)) := hid0 (by rw [World.ownsRow.cellAt HOv5.out k (by omega), List.getElem?_eq_getElem hkv, hv])
        have hwp : IntKind.i64.wrap (1 - (pickN z 2 : Int)) = 1 - (pickN z 2 : Int) := by simp [IntKind.wrap, IntKind.signed, IntKind.bits]; omega
        have HL6 : Hid (Ln (wr.setCell ⟨g, 0, none⟩ (.int .i64 (1 - (pickN z 2 : Int)))).drew lo b1 b2 b3 hi gL cL gF cF gA cA gO cO sL sO nF nA kL kO) := hid0 (HL5.out.kept (Nat.le_refl _) (fun _ _ _ => rfl))
        have HOn6 : Hid (Only w0 (wr.setCell ⟨g, 0, none⟩ (.int .i64 (1 - (pickN z 2 : Int)))).drew (fun b => lo ≤ b ∧ b < hi)) := hid0 (HOn5.out.trans (Only.drewN _ 1 (fun b => lo ≤ b ∧ b < hi)) (fun i hi => .inl hi))
        clear hput hv hW HL HOv HOn hpk HL5 HOn5
        go_upto_region 10 with fail
        refine wp_region_noPanic ?_
        refine wp_region_held_drew (S := (fun V => V.cell? ⟨gl, k, none⟩ = some (.slice (some ⟨g, 0, none⟩) nn cc))) (by kernel_rfl) ?_ (fun hHeld => ?_)
        · exact hcell
        refine tkV (i := 0) (d := some 43) (v := ?_) rfl (by kernel_rfl) (by kernel_rfl) (by kernel_rfl) rfl (fun _ _ _ h => h) (by rfl) ?_ (by assumption) ?_
        rotate_left
        · (intro w hSw; (try dsimp only at hSw); (try simp only [List.getElem_toArray, List.getElem_cons_zero]); go_simp; try with_reducible rfl)
        try simp only [Act.put, List.setIfInBounds_toArray, List.set_cons_zero, List.set_cons_succ]
        refine tkV (i := 1) (d := some 44) (v := ?_) rfl (by kernel_rfl) (by kernel_rfl) (by kernel_rfl) rfl (fun _ _ _ h => h) (by rfl) ?_ (by assumption) ?_
        rotate_left
        · (intro w hSw; (try dsimp only at hSw); (try simp only [List.getElem_toArray, List.getElem_cons_zero, List.getElem_cons_succ]); go_simp; try with_reducible rfl)
        try simp only [Act.put, List.setIfInBounds_toArray, List.set_cons_zero, List.set_cons_succ]
        refine tkV (i := 2) (d := some 45) (v := ?_) rfl (by kernel_rfl) (by kernel_rfl) (by kernel_rfl) rfl (fun _ _ _ h => h) (by rfl) ?_ (by assumption) ?_
        rotate_left
        · (intro w hSw; (try dsimp only at hSw); (try simp only [List.getElem_toArray, List.getElem_cons_zero, List.getElem_cons_succ]); go_simp; try with_reducible rfl)
        try simp only [Act.put, List.setIfInBounds_toArray, List.set_cons_zero, List.set_cons_succ]
        refine tkV (i := 3) (d := some 46) (v := ?_) rfl (by kernel_rfl) (by kernel_rfl) (by kernel_rfl) rfl (fun _ _ _ h => h) (by rfl) ?_ (by assumption) ?_
        rotate_left
        · (intro w hSw; (try dsimp only at hSw); (try simp only [List.getElem_toArray, List.getElem_cons_zero, List.getElem_cons_succ]); go_simp; try with_reducible rfl)
        try simp only [Act.put, List.setIfInBounds_toArray, List.set_cons_zero, List.set_cons_succ]
        refine tkV (i := 4) (d := some 47) (v := ?_) rfl (by kernel_rfl) (by kernel_rfl) (by kernel_rfl) rfl (fun _ _ _ h => h) (by rfl) ?_ (by assumption) ?_
        rotate_left
        · (intro w hSw; (try dsimp only at hSw); (try simp only [List.getElem_toArray, List.getElem_cons_zero, List.getElem_cons_succ]); go_simp; try with_reducible rfl)
        try simp only [Act.put, List.setIfInBounds_toArray, List.set_cons_zero, List.set_cons_succ]
        refine tkV (i := 5) (d := some 48) (v := ?_) rfl (by kernel_rfl) (by kernel_rfl) (by kernel_rfl) rfl (fun _ _ _ h => h) (by rfl) ?_ (by assumption) ?_
        rotate_left
        · (intro w hSw; (try dsimp only at hSw); (try simp only [List.getElem_toArray, List.getElem_cons_zero, List.getElem_cons_succ]); go_simp; try with_reducible rfl)
        try simp only [Act.put, List.setIfInBounds_toArray, List.set_cons_zero, List.set_cons_succ]
        refine tkV (i := 6) (d := some 49) (v := ?_) rfl (by kernel_rfl) (by kernel_rfl) (by kernel_rfl) rfl (fun _ _ _ h => h) (by rfl) ?_ (by assumption) ?_
        rotate_left
        · (intro w hSw; (try dsimp only at hSw); (try simp only [List.getElem_toArray, List.getElem_cons_zero, List.getElem_cons_succ]); go_simp; try with_reducible rfl)
        try simp only [Act.put, List.setIfInBounds_toArray, List.set_cons_zero, List.set_cons_succ]
        refine tkV (i := 7) (d := some 50) (v := ?_) rfl (by kernel_rfl) (by kernel_rfl) (by kernel_rfl) rfl (fun _ _ _ h => h) (by rfl) ?_ (by assumption) ?_
        rotate_left
        · (intro w hSw; (try dsimp only at hSw); (try simp only [List.getElem_toArray, List.getElem_cons_zero, List.getElem_cons_succ]); go_simp; try with_reducible rfl)
        try simp only [Act.put, List.setIfInBounds_toArray, List.set_cons_zero, List.set_cons_succ]
        refine tkV (i := 8) (d := some 51) (v := ?_) rfl (by kernel_rfl) (by kernel_rfl) (by kernel_rfl) rfl (fun _ _ _ h => h) (by rfl) ?_ (by assumption) ?_
        rotate_left
        · (intro w hSw; (try dsimp only at hSw); (try simp only [List.getElem_toArray, List.getElem_cons_zero, List.getElem_cons_succ]); go_simp; try with_reducible rfl)
        try simp only [Act.put, List.setIfInBounds_toArray, List.set_cons_zero, List.set_cons_succ]
        refine wpAnyH_ready (rs := [9]) (by kernel_rfl) (by simp) (AllReadyH.cons rfl (fun K hK => ?_) AllReadyH.nil)
        try simp only [List.getElem_toArray, List.getElem_cons_zero, List.getElem_cons_succ]
        go_simp
        refine hK.out _ _ ?_ (fun hHeld9 => ?_)
        · assumption
        clear hK K
        (try simp only [Act.put]); (try simp only [List.setIfInBounds_toArray]); (try simp only [List.set_cons_succ]); (try simp only [List.set_cons_zero])
        refine wpAnyH_ready (rs := [10]) (by kernel_rfl) (by simp) (AllReadyH.cons rfl (fun K hK => ?_) AllReadyH.nil)
        try simp only [List.getElem_toArray, List.getElem_cons_zero, List.getElem_cons_succ]
        go_simp
        refine (pick_at z 2 (by omega) (by omega) wr.drew).mono ?_
        rintro e w2 ⟨rfl, hw2⟩
        have hw2' := hw2.symm
        subst hw2'
        clear hw2
        go_wp2_with fail
        refine hK.out _ _ ?_ (fun hHeld10 => ?_)
        · assumption
        clear hK K
        (try simp only [Act.put]); (try simp only [List.setIfInBounds_toArray]); (try simp only [List.set_cons_succ]); (try simp only [List.set_cons_zero])
        refine tkV (i := 11) (d := some 54) (v := ?_) rfl (by kernel_rfl) (by kernel_rfl) (by kernel_rfl) rfl (fun _ _ _ h => h) (by rfl) ?_ (by assumption) ?_
        rotate_left
        · (intro w hSw; (try dsimp only at hSw); (try simp only [List.getElem_toArray, List.getElem_cons_zero, List.getElem_cons_succ]); go_simp; try with_reducible rfl)
        try simp only [Act.put, List.setIfInBounds_toArray, List.set_cons_zero, List.set_cons_succ]
        refine tkV (i := 12) (d := some 55) (v := ?_) rfl (by kernel_rfl) (by kernel_rfl) (by kernel_rfl) rfl (fun _ _ _ h => h) (by rfl) ?_ (by assumption) ?_
        rotate_left
        · (intro w hSw; (try dsimp only at hSw); (try simp only [List.getElem_toArray, List.getElem_cons_zero, List.getElem_cons_succ]); go_simp; try with_reducible rfl)
        try simp only [Act.put, List.setIfInBounds_toArray, List.set_cons_zero, List.set_cons_succ]
        refine wpAnyH_ready (rs := [13]) (by kernel_rfl) (by simp) (AllReadyH.cons rfl (fun K hK => ?_) AllReadyH.nil)
        try simp only [List.getElem_toArray, List.getElem_cons_zero, List.getElem_cons_succ]
        go_simp
        refine hK.out _ _ ?_ (fun hHeld13 => ?_)
        · exact HS5.out
        clear hK K
        (try simp only [Act.put]); (try simp only [List.setIfInBounds_toArray]); (try simp only [List.set_cons_succ]); (try simp only [List.set_cons_zero])
        refine wpAnyH_done (by kernel_rfl) ?_ _
        refine NoPanic.normal ?_
        go_wp2
        go_roundw
        case rel => exact ⟨k + 1, by omega, by go_num, HL6, HOv5, HOn6⟩
        case measure => simp [intOf]; omega
      · have hn1 : nn = 0 := by omega
        subst hn1
        clear hW hv
        go_wp2
        go_roundw
        case rel => exact ⟨k + 1, by omega, by go_num, HL, HOv, HOn⟩
        case measure => simp [intOf]; omega
    · have hke : k = 2 := by omega
      subst hke
      go_wp2
      go_end0
      exact ⟨rfl, HL.out, (Only.ofNew HB0.out (fun b => lo ≤ b ∧ b < hi)).trans HOn.out (fun i hi => .inl hi)⟩
theorem over_any (w : World) (lo b1 b2 b3 hi gL cL gF cF gA cA gO cO : Nat) (sL sO : List Value) (nF nA : Nat) (kL kO : List Nat) (em : Bool) (h : Ln w lo b1 b2 b3 hi gL cL gF cF gA cA gO cO sL sO nF nA kL kO) :
    Calls Tryd.prog 23 #[.agg #[.slice (some ⟨gL, 0, none⟩) sL.length cL, .slice (some ⟨gF, 0, none⟩) nF cF, .slice (some ⟨gA, 0, none⟩) nA cA, .slice (some ⟨gO, 0, none⟩) sO.length cO, .bool em]] w fun e w' => e = .returned (.tuple #[]) ∧ Ln w' lo b1 b2 b3 hi gL cL gF cF gA cA gO cO sL sO nF nA kL kO ∧ Only w w' (fun b => lo ≤ b ∧ b < hi) := by
  rcases head_cases sL with ⟨h1, _⟩ | ⟨v1, r1, _, h1⟩
  · rcases head_cases sO with ⟨h2, _⟩ | ⟨v2, r2, _, h2⟩
    · exact over_N w lo b1 b2 b3 hi gL cL gF cF gA cA gO cO sL sO nF nA kL kO em h h1 h2
    · exact over_O w lo b1 b2 b3 hi gL cL gF cF gA cA gO cO sL sO nF nA kL kO em h h1 v2 h2
  · rcases head_cases sO with ⟨h2, _⟩ | ⟨v2, r2, _, h2⟩
    · exact over_L w lo b1 b2 b3 hi gL cL gF cF gA cA gO cO sL sO nF nA kL kO em h v1 h1 h2
    · exact over_LO w lo b1 b2 b3 hi gL cL gF cF gA cA gO cO sL sO nF nA kL kO em h v1 h1 v2 h2
end Go.Proofs.YtlkgghbdgjomkaaDoor
namespace Go.Proofs.YtlkgghbdgjomkaaDoor
open Go.RowKit Go.Shelf
theorem Bag.keep {w w' : World} {base : Nat} {v : Value} {ps : Lot} (h : Bag w base v ps) (hk : ∀ k, base ≤ k → k < w.heap.size → w'.heap[k]? = w.heap[k]?) : Bag w' base v ps :=
  ⟨own_blk h.outer (fun k hk' => hk k (World.ownsRow.lt h.outer k hk').1 (World.ownsRow.lt h.outer k hk').2), fun x hx => own_blk (h.row x hx) (fun k hk' => hk k (World.ownsRow.lt (h.row x hx) k hk').1 (World.ownsRow.lt (h.row x hx) k hk').2), h.apart, h.away⟩
theorem OwnI.keep {w w' : World} {base : Nat} {v : Value} {L : List Int} (h : OwnI w base v L) (hk : ∀ k, base ≤ k → k < w.heap.size → w'.heap[k]? = w.heap[k]?) : OwnI w' base v L := own_blk h (fun k hk' => hk k (World.ownsRow.lt h k hk').1 (World.ownsRow.lt h k hk').2)
/-- The positions that are being made, in their variable X. -/
structure Mk (w0 V : World) (X : Nat) (c0 c1 c2 c3 c4 : Value) : Prop where
  row : V.heap[X]? = some (.cells #[c0, c1, c2, c3, c4] 25 (0, 0))
  bel : Below w0.heap.size w0 V
  lo : w0.heap.size ≤ X
theorem Mk.past {w0 V V' : World} {X : Nat} {c0 c1 c2 c3 c4 : Value} (h : Mk w0 V X c0 c1 c2 c3 c4) (hb : Below (X + 1) V V') : Mk w0 V' X c0 c1 c2 c3 c4 :=
  ⟨(hb.block X (by omega)).trans h.row, h.bel.trans (hb.mono (by have := h.lo; omega)), h.lo⟩
theorem Mk.lt {w0 V : World} {X : Nat} {c0 c1 c2 c3 c4 : Value} (h : Mk w0 V X c0 c1 c2 c3 c4) : X < V.heap.size := (Array.getElem?_eq_some_iff.1 h.row).1
theorem Mk.set0 {w0 V : World} {X : Nat} {c0 c1 c2 c3 c4 : Value} (h : Mk w0 V X c0 c1 c2 c3 c4) (u : Value) : Mk w0 (V.setCell ⟨X, 0, none⟩ u) X u c1 c2 c3 c4 := ⟨heap_setCell_same _ _ 0 _ _ u h.row, h.bel.setCell (p := ⟨X, 0, none⟩) h.lo u, h.lo⟩
theorem Mk.set1 {w0 V : World} {X : Nat} {c0 c1 c2 c3 c4 : Value} (h : Mk w0 V X c0 c1 c2 c3 c4) (u : Value) : Mk w0 (V.setCell ⟨X, 1, none⟩ u) X c0 u c2 c3 c4 := ⟨heap_setCell_same _ _ 1 _ _ u h.row, h.bel.setCell (p := ⟨X, 1, none⟩) h.lo u, h.lo⟩
theorem Mk.set2 {w0 V : World} {X : Nat} {c0 c1 c2 c3 c4 : Value} (h : Mk w0 V X c0 c1 c2 c3 c4) (u : Value) : Mk w0 (V.setCell ⟨X, 2, none⟩ u) X c0 c1 u c3 c4 := ⟨heap_setCell_same _ _ 2 _ _ u h.row, h.bel.setCell (p := ⟨X, 2, none⟩) h.lo u, h.lo⟩
theorem Mk.set3 {w0 V : World} {X : Nat} {c0 c1 c2 c3 c4 : Value} (h : Mk w0 V X c0 c1 c2 c3 c4) (u : Value) : Mk w0 (V.setCell ⟨X, 3, none⟩ u) X c0 c1 c2 u c4 := ⟨heap_setCell_same _ _ 3 _ _ u h.row, h.bel.setCell (p := ⟨X, 3, none⟩) h.lo u, h.lo⟩
theorem Mk.set4 {w0 V : World} {X : Nat} {c0 c1 c2 c3 c4 : Value} (h : Mk w0 V X c0 c1 c2 c3 c4) (u : Value) : Mk w0 (V.setCell ⟨X, 4, none⟩ u) X c0 c1 c2 c3 u := ⟨heap_setCell_same _ _ 4 _ _ u h.row, h.bel.setCell (p := ⟨X, 4, none⟩) h.lo u, h.lo⟩
theorem put_other {V : World} {X j : Nat} {u : Value} : ∀ k, X + 1 ≤ k → k < V.heap.size → (V.setCell ⟨X, j, none⟩ u).heap[k]? = V.heap[k]? := fun k hk _ => Below.heap_setCell V _ _ k (by show k ≠ X; omega)
/-- What is sound, rises, and no more. -/
theorem rev_cond (Le Fo : List (List Int)) (Fi La : List Int) : (soundP Le.length Fi La Fo && riseA Le.length Fo && riseF Le.length 0 Fi && riseF Le.length 0 La) = (decide (Fo.length = Le.length) && plRise Le.length Fi La Fo) := by
  rw [Bool.eq_iff_iff]
  unfold soundP plRise insA
  simp only [Bool.and_eq_true, decide_eq_true_eq, List.all_eq_true]
  constructor
  · rintro ⟨⟨⟨⟨⟨⟨h1, _⟩, _⟩, _⟩, h5⟩, h6⟩, h7⟩
    exact ⟨h1, ⟨h6, h7⟩, h5⟩
  · rintro ⟨h1, ⟨h6, h7⟩, h5⟩
    have h5' := h5
    unfold riseA at h5'
    simp only [List.all_eq_true] at h5'
    exact ⟨⟨⟨⟨⟨⟨h1, fun y hy => (oneOf_iff _ _).2 (rise_in Fi 0 (Int.le_refl _) h6 y hy)⟩, fun y hy => (oneOf_iff _ _).2 (rise_in La 0 (Int.le_refl _) h7 y hy)⟩, fun r hr y hy => (oneOf_iff _ _).2 (rise_in r 0 (Int.le_refl _) (h5' r hr) y hy)⟩, h5⟩, h6⟩, h7⟩
set_option maxRecDepth 10000 in
set_option maxHeartbeats 6400000 in
theorem refReverse_any (aL aF aA aO : Option Addr) (cL cF cA cO : Nat) (Le Fo : List (List Int)) (Fi La : List Int) (em : Bool) (w : World) (hp : PosA w aL aF aA aO Le Fo Fi La) (hnL : RwN w aL Le) (hnF : aF = none → cF = 0) (hnA : aA = none → cA = 0) :
    Calls Tryd.prog 16 #[posV aL aF aA aO cL cF cA cO Le Fo Fi La em] w fun r w' => RevR w (revP Le Fo Fi La em) r w' := by
  unfold posV
  obtain ⟨wa, hwa⟩ : ∃ wa, wa = w.alloc (.cells #[.slice aL Le.length cL, .slice aF Fi.length cF, .slice aA La.length cA, .slice aO Fo.length cO, .bool em] 25) := ⟨_, rfl⟩
  obtain ⟨w0, hw0⟩ : ∃ w0, w0 = wa.alloc (.cells #[.slice none 0 0, .slice none 0 0, .slice none 0 0, .slice none 0 0, .bool false] 25) := ⟨_, rfl⟩
  have hsa : wa.heap.size = w.heap.size + 1 := by rw [hwa]; simp
  have hs0 : w0.heap.size = w.heap.size + 1 + 1 := by rw [hw0]; simp [hsa]
  have hBa : Below w.heap.size w wa := by rw [hwa]; exact (Below.refl _ _).alloc (Nat.le_refl _) _
  have hBb : Below wa.heap.size wa w0 := by rw [hw0]; exact (Below.refl _ _).alloc (Nat.le_refl _) _
  have hB0 : Below w.heap.size w w0 := Below.later hBa hBb
  have hXa : wa.heap[w.heap.size]? = some (.cells #[.slice aL Le.length cL, .slice aF Fi.length cF, .slice aA La.length cA, .slice aO Fo.length cO, .bool em] 25 (0, 0)) := by rw [hwa]; exact heap_alloc_new w _
  have hX0 : w0.heap[w.heap.size]? = some (.cells #[.slice aL Le.length cL, .slice aF Fi.length cF, .slice aA La.length cA, .slice aO Fo.length cO, .bool em] 25 (0, 0)) := (hBb.block _ (by omega)).trans hXa
  have hY0 : w0.heap[w.heap.size + 1]? = some (.cells #[.slice none 0 0, .slice none 0 0, .slice none 0 0, .slice none 0 0, .bool false] 25 (0, 0)) := by rw [hw0, ← hsa]; exact heap_alloc_new wa _
  have HB0 := hid0 hB0
  have HY0 := hid0 hY0
  have HS0 := hid0 hs0
  have hp0 := hp.past hB0
  have HP0 := hid0 hp0
  have HNL := hid0 (hnL.past hB0)
  have HNF := hid0 hnF
  have HNA := hid0 hnA
  have hl1 := hp.l1
  have hl2 := hp.l2
  have hl3 := hp.l3
  have hl4 := hp.l4
  have HXX : Hid (∀ V, Below w0.heap.size w0 V → V.cell? ⟨w.heap.size, 0, none⟩ = some (.slice aL Le.length cL) ∧ V.cell? ⟨w.heap.size, 1, none⟩ = some (.slice aF Fi.length cF) ∧ V.cell? ⟨w.heap.size, 2, none⟩ = some (.slice aA La.length cA) ∧ V.cell? ⟨w.heap.size, 3, none⟩ = some (.slice aO Fo.length cO) ∧ V.cell? ⟨w.heap.size, 4, none⟩ = some (.bool em)) := hid0 (fun V hV => row5 ((hV.block _ (by omega)).trans hX0))
  have HYY : Hid (∀ V, Below w0.heap.size w0 V → V.heap[w.heap.size + 1]? = some (.cells #[.slice none 0 0, .slice none 0 0, .slice none 0 0, .slice none 0 0, .bool false] 25 (0, 0))) := hid0 (fun V hV => (hV.block _ (by omega)).trans hY0)
  have H1 := hid0 (refSound_any aL aF aA aO cL cF cA cO Le Fo Fi La em w0 hp0)
  unfold posV at H1
  have H2 := hid0 (fun (V : World) (hV : Below w0.heap.size w0 V) => refAll_any Le.length Fo aO cO V (by omega) (fun r hr => by have := hp.r4 r hr; omega) (hp0.fo.past hV))
  have H3 := hid0 (fun (V : World) (hV : Below w0.heap.size w0 V) => refRises_any Le.length Fi aF cF V (by omega) (hp0.fi.past hV))
  have H4 := hid0 (fun (V : World) (hV : Below w0.heap.size w0 V) => refRises_any Le.length La aA cA V (by omega) (hp0.la.past hV))
  have HCd := hid0 (rev_cond Le Fo Fi La)
  have HRv : Hid (revP Le Fo Fi La em = if (soundP Le.length Fi La Fo && riseA Le.length Fo && riseF Le.length 0 Fi && riseF Le.length 0 La) then ⟨Le, La, Fi, turnL Fo, em⟩ else ⟨[], [], [], [], false⟩) := hid0 (by rw [HCd.out]; rfl)
  have HIn : Hid ((soundP Le.length Fi La Fo && riseA Le.length Fo && riseF Le.length 0 Fi && riseF Le.length 0 La) = true → Fo.length = Le.length ∧ ∀ r ∈ Fo, ∀ y ∈ r, 0 ≤ y ∧ y < (Fo.length : Int)) := hid0 (fun h => by
    rw [HCd.out, Bool.and_eq_true, decide_eq_true_eq] at h
    exact ⟨h.1, fun r hr y hy => by have := plRise_in h.2 r hr y hy; omega⟩)
  obtain ⟨x0, x1, x2, x3, x4⟩ := HXX.out w0 (Below.refl _ _)
  have hfa := hwa.symm
  have hfold := hw0.symm
  clear hwa hw0 hB0 hBa hBb hXa hX0 hY0 hs0 hsa HCd
  subst hfa
  generalize soundP Le.length Fi La Fo = b1 at *
  generalize riseA (Le.length : Int) Fo = b2 at *
  generalize riseF (Le.length : Int) 0 Fi = b3 at *
  generalize riseF (Le.length : Int) 0 La = b4 at *
  go_enter Tryd.func16, Tryd.ntmps16
  go_upto_region 3 with (go_at_call 38; refine H1.out.mono ?_; rintro e w1 ⟨rfl, h⟩; have HB1 := hid0 h; clear h x0 x1 x2 x3 x4; obtain ⟨x0, x1, x2, x3, x4⟩ := HXX.out w1 HB1.out)
  go_upto_region 4 with (go_at_call 39; refine (H2.out w1 HB1.out).mono ?_; rintro e w2 ⟨rfl, q2, hw2⟩; have HB2 := hid0 (show Below w0.heap.size w0 w2 by rw [hw2]; exact below_drew' HB1.out _); clear hw2 x0 x1 x2 x3 x4; obtain ⟨x0, x1, x2, x3, x4⟩ := HXX.out w2 HB2.out)
  go_upto_region 5 with (go_at_call 40; refine (H3.out w2 HB2.out).mono ?_; rintro e w3 ⟨rfl, q3, hw3⟩; have HB3 := hid0 (show Below w0.heap.size w0 w3 by rw [hw3]; exact below_drew' HB2.out _); clear hw3 x0 x1 x2 x3 x4; obtain ⟨x0, x1, x2, x3, x4⟩ := HXX.out w3 HB3.out)
  go_upto_region 6 with (go_at_call 40; refine (H4.out w3 HB3.out).mono ?_; rintro e w4 ⟨rfl, q4, hw4⟩; have HB4 := hid0 (show Below w0.heap.size w0 w4 by rw [hw4]; exact below_drew' HB3.out _); clear hw4 x0 x1 x2 x3 x4; obtain ⟨x0, x1, x2, x3, x4⟩ := HXX.out w4 HB4.out)
  clear H1 H2 H3 H4 HB1 HB2 HB3
  by_cases hbb : (b1 && b2 && b3 && b4) = true
  case neg =>
    have hbf : (b1 && b2 && b3 && b4) = false := by simpa using hbb
    have HV : Hid (revP Le Fo Fi La em = ⟨[], [], [], [], false⟩) := hid0 (by rw [HRv.out, hbf]; rfl)
    have hY1 := HYY.out w4 HB4.out
    obtain ⟨y0, y1, y2, y3, y4⟩ := row5 hY1
    obtain ⟨f0, f1, f2, f3, f4⟩ := frz5 hY1
    obtain ⟨V5, hV5⟩ : ∃ V5, V5 = set5 w4 (w.heap.size + 1) (.slice none 0 0) (.slice none 0 0) (.slice none 0 0) (.slice none 0 0) (.bool false) := ⟨_, rfl⟩
    obtain ⟨k0, k1, k2, k3, k4⟩ := row5 (hV5 ▸ set5_row hY1 (.slice none 0 0) (.slice none 0 0) (.slice none 0 0) (.slice none 0 0) (.bool false))
    have HR : Hid (RevR w (revP Le Fo Fi La em) (.returned (.agg #[.slice none 0 0, .slice none 0 0, .slice none 0 0, .slice none 0 0, .bool false])) V5) := hid0 (by rw [HV.out, hV5]; exact RevR.zero (set5_below (Below.later HB0.out HB4.out) (by omega) _ _ _ _ _))
    unfold set5 at hV5
    have hf5 := hV5.symm
    clear hV5 hY1 HRv HIn hbb HV
    cases b1 <;> cases b2 <;> cases b3 <;> cases b4
    all_goals first
      | (exfalso; revert hbf; decide)
      | (go_wp2
         exact bodyPost_ret (v := .agg #[.slice none 0 0, .slice none 0 0, .slice none 0 0, .slice none 0 0, .bool false]) (by simp [results, Tryd.results16, go_sem, k0, k1, k2, k3, k4]) rfl HR.out)
  have HV : Hid (revP Le Fo Fi La em = ⟨Le, La, Fi, turnL Fo, em⟩) := hid0 (by rw [HRv.out, hbb]; rfl)
  obtain ⟨hle, hin⟩ := HIn.out hbb
  have HIn2 := hid0 hin
  have HLE := hid0 hle
  clear hle
  simp only [Bool.and_eq_true] at hbb
  obtain ⟨⟨⟨rfl, rfl⟩, rfl⟩, rfl⟩ := hbb
  clear HRv HIn hin
  go_upto_region 9 with fail
  obtain ⟨i0, hi, hz0, hz1, hz2⟩ := info_parts infoInt
  obtain ⟨j0, hj, hy0, hy1, hy2⟩ := info_parts infoInts
  obtain ⟨X, hX⟩ : ∃ X, X = w4.heap.size := ⟨_, rfl⟩
  obtain ⟨V0, hV0⟩ : ∃ V0, V0 = w4.alloc (.cells #[.slice none 0 0, .slice none 0 0, .slice none 0 0, .slice none 0 0, .bool false] 25) := ⟨_, rfl⟩
  have hb0 : Below w4.heap.size w4 V0 := by rw [hV0]; exact (Below.refl _ _).alloc (Nat.le_refl _) _
  have hs0 : V0.heap.size = X + 1 := by rw [hV0, hX]; simp
  have HM0 : Hid (Mk w0 V0 X (.slice none 0 0) (.slice none 0 0) (.slice none 0 0) (.slice none 0 0) (.bool false)) := hid0 ⟨by rw [hV0, hX]; exact heap_alloc_new w4 _, Below.later HB4.out hb0, by rw [hX]; exact HB4.out.size⟩
  rw [← hV0, ← hX]
  clear hV0 hX hb0 HB4 x0 x1 x2 x3 x4
  obtain ⟨x0, x1, x2, x3, x4⟩ := HXX.out V0 HM0.out.bel
  have HCp := hid0 (refCopyOf_any Le aL cL V0 (by omega) (fun r hr => by have := hp.r1 r hr; omega) (HNL.out.past HM0.out.bel))
  go_upto_region 10 with (go_at_call 41; refine HCp.out.mono ?_; rintro e V1 ⟨uL, rfl, psL, hbL, hmL, hblL⟩; rw [hs0] at hbL; have hM1 := HM0.out.past (hblL.mono (by omega)); obtain ⟨y0, y1, y2, y3, y4⟩ := row5 hM1.row; obtain ⟨f0, f1, f2, f3, f4⟩ := frz5 hM1.row; obtain ⟨vL, dL, rfl, _⟩ := hbL.rwq' hmL (Nat.le_refl _); have HM1 := hid0 hM1; have HL1 := hid0 hbL; have HmL := hid0 hmL; clear hbL hmL hblL hM1)
  have HM2 := hid0 (HM1.out.set0 (.slice vL Le.length dL))
  have HL2 := hid0 (HL1.out.keep (put_other (V := V1) (X := X) (j := 0) (u := .slice vL Le.length dL)))
  generalize V1.setCell ⟨X, 0, none⟩ (.slice vL Le.length dL) = U1 at *
  clear x0 x1 x2 x3 x4 y0 y1 y2 y3 y4 f0 f1 f2 f3 f4 HM0 HM1 HL1 HCp hs0
  obtain ⟨x0, x1, x2, x3, x4⟩ := HXX.out U1 HM2.out.bel
  obtain ⟨y0, y1, y2, y3, y4⟩ := row5 HM2.out.row
  have hU1 := HM2.out.lt
  have HILa := hid0 (HP0.out.la.past HM2.out.bel)
  go_upto_region 11 with (at_builtin; refine wpList_spreadI rfl _ _ rfl aA La cA U1.heap.size rfl rfl HNA.out HILa.out (by omega) (Nat.le_refl _) ?_; intro v2 V2 hown2 hgrow2; have hb2 := (Below.refl U1.heap.size U1).grown hgrow2 (Nat.le_refl _) (fun k hk => by cases hk); have hM3 := HM2.out.past (hb2.mono (by omega)); have HL3 := hid0 (HL2.out.later hb2); clear y0 y1 y2 y3 y4; obtain ⟨y0, y1, y2, y3, y4⟩ := row5 hM3.row; obtain ⟨f0, f1, f2, f3, f4⟩ := frz5 hM3.row; have hov := OwnI.lower (lo := X + 1) hown2 (by omega); obtain ⟨vF, dF, rfl, _⟩ := hov.iq; have HF3 := hid0 hov; have HM3 := hid0 hM3; clear hown2 hgrow2 hb2 hM3 hov)
  have HM4 := hid0 (HM3.out.set1 (.slice vF La.length dF))
  have HL4 := hid0 (HL3.out.keep (put_other (V := V2) (X := X) (j := 1) (u := .slice vF La.length dF)))
  have HF4 := hid0 (HF3.out.keep (put_other (V := V2) (X := X) (j := 1) (u := .slice vF La.length dF)))
  generalize V2.setCell ⟨X, 1, none⟩ (.slice vF La.length dF) = U2 at *
  clear x0 x1 x2 x3 x4 y0 y1 y2 y3 y4 f0 f1 f2 f3 f4 HM2 HM3 HL2 HL3 HF3 HILa hU1
  obtain ⟨x0, x1, x2, x3, x4⟩ := HXX.out U2 HM4.out.bel
  obtain ⟨y0, y1, y2, y3, y4⟩ := row5 HM4.out.row
  have hU2 := HM4.out.lt
  have HIFi := hid0 (HP0.out.fi.past HM4.out.bel)
  go_upto_region 12 with (at_builtin; refine wpList_spreadI rfl _ _ rfl aF Fi cF U2.heap.size rfl rfl HNF.out HIFi.out (by omega) (Nat.le_refl _) ?_; intro v2 V2 hown2 hgrow2; have hb2 := (Below.refl U2.heap.size U2).grown hgrow2 (Nat.le_refl _) (fun k hk => by cases hk); have hM3 := HM4.out.past (hb2.mono (by omega)); have HL5 := hid0 (HL4.out.later hb2); have HF5 := hid0 (HF4.out.past hb2); clear y0 y1 y2 y3 y4; obtain ⟨y0, y1, y2, y3, y4⟩ := row5 hM3.row; obtain ⟨f0, f1, f2, f3, f4⟩ := frz5 hM3.row; have hov := OwnI.lower (lo := X + 1) hown2 (by omega); obtain ⟨vA, dA, rfl, _⟩ := hov.iq; have HA5 := hid0 hov; have HM5 := hid0 hM3; clear hown2 hgrow2 hb2 hM3 hov)
  have HM6 := hid0 (HM5.out.set2 (.slice vA Fi.length dA))
  have HL6 := hid0 (HL5.out.keep (put_other (V := V2) (X := X) (j := 2) (u := .slice vA Fi.length dA)))
  have HF6 := hid0 (HF5.out.keep (put_other (V := V2) (X := X) (j := 2) (u := .slice vA Fi.length dA)))
  have HA6 := hid0 (HA5.out.keep (put_other (V := V2) (X := X) (j := 2) (u := .slice vA Fi.length dA)))
  generalize V2.setCell ⟨X, 2, none⟩ (.slice vA Fi.length dA) = U3 at *
  clear x0 x1 x2 x3 x4 y0 y1 y2 y3 y4 f0 f1 f2 f3 f4 HM4 HM5 HL4 HL5 HF4 HF5 HA5 HIFi hU2
  obtain ⟨x0, x1, x2, x3, x4⟩ := HXX.out U3 HM6.out.bel
  obtain ⟨y0, y1, y2, y3, y4⟩ := row5 HM6.out.row
  obtain ⟨f0, f1, f2, f3, f4⟩ := frz5 HM6.out.row
  go_upto_region 13 with fail
  have HM7 := hid0 (HM6.out.set4 (.bool em))
  have HL7 := hid0 (HL6.out.keep (put_other (V := U3) (X := X) (j := 4) (u := .bool em)))
  have HF7 := hid0 (HF6.out.keep (put_other (V := U3) (X := X) (j := 4) (u := .bool em)))
  have HA7 := hid0 (HA6.out.keep (put_other (V := U3) (X := X) (j := 4) (u := .bool em)))
  generalize U3.setCell ⟨X, 4, none⟩ (.bool em) = U4 at *
  clear x0 x1 x2 x3 x4 y0 y1 y2 y3 y4 f0 f1 f2 f3 f4 HM6 HL6 HF6 HA6
  have HPQ : Hid (∃ psL : Lot, psL.map (·.2) = Le ∧ Bag U4 (X + 1) (.slice vL Le.length dL) psL ∧ OwnI U4 (X + 1) (.slice vF La.length dF) La ∧ OwnI U4 (X + 1) (.slice vA Fi.length dA) Fi) := hid0 ⟨psL, HmL.out, HL7.out, HF7.out, HA7.out⟩
  clear HL7 HF7 HA7 HmL
  obtain ⟨F, hF⟩ : ∃ F, F = U4.heap.size := ⟨_, rfl⟩
  have HXF : Hid (X < F) := hid0 (by rw [hF]; exact HM7.out.lt)
  have HF0 : Hid (F ≤ U4.heap.size) := hid0 (by omega)
  have HFU := hid0 hF
  have HR4 := hid0 hp.r4
  clear hF
  go_wp2
  go_loopw [9] (fun i V => ∃ (k : Nat) (ps : Lot) (a3 : Option Addr) (c3 : Nat), k ≤ Le.length ∧ i = .int .i64 (k : Int) ∧ Hid (Mk w0 V X (.slice vL Le.length dL) (.slice vF La.length dF) (.slice vA Fi.length dA) (.slice a3 k c3) (.bool em)) ∧ Hid (Bag V F (.slice a3 k c3) ps) ∧ Hid (ps.length = k) ∧ Hid (ps.map (·.2) = List.replicate k []) ∧ Hid (∀ q, X + 1 ≤ q → q < F → V.heap[q]? = U4.heap[q]?) ∧ Hid (F ≤ V.heap.size)) (fun i _ => Le.length - (intOf i).toNat)
  case atStart => exact ⟨0, [], none, 0, Nat.zero_le _, rfl, HM7, hid0 (Bag.nil _ _), hid0 rfl, hid0 rfl, hid0 (fun _ _ _ => rfl), HF0⟩
  case round =>
    clear HM7 HF0
    obtain ⟨k, ps, a3, c3, hk, rfl, HM, HBg, HPl, HPm, HK, HFs⟩ := hrel
    have hFs := HFs.out
    by_cases hlt : k < Le.length
    · have hkI : (k : Int) < (Le.length : Int) := by omega
      obtain ⟨y0, y1, y2, y3, y4⟩ := row5 HM.out.row
      have HOO : Hid (wr.ownsRow F 23 1 (.slice a3 k c3) k (ps.map (·.1))) := hid0 (by have h := HBg.out.outer; rw [HPl.out] at h; exact h)
      go_wp2_with (at_builtin; go_loud ((
        refine wpList_append_own_at _ rfl _ _ 22 rfl F 23 j0 (.slice none 0 0) 1 24 Tryd.underlying22 hj hy0 hy1 hy2 rfl (by decide) _ k (ps.map (·.1)) rfl (World.ownsRow.alloc HOO.out _) ⟨wr.heap.size, 0, none⟩ 1 1 [.slice none 0 0] rfl rfl (cell_one_new _ _ _) (by simp [Value.oneCell']) (by unfold maxLen; omega) (by omega) (by simp; omega) ?_
        intro v2 V2 hown2 hgrow2 _ hat2
        have hS := Bag.snoc (w := wr) (l := []) HPl.out.symm HBg.out (Below.refl _ _) (World.ownsRow_nil _ _ _ _) hFs hown2 hgrow2 hat2 (Below.refl F wr)
        have HBg1 := hid0 hS.1
        have hM1 := HM.out.past (hS.2.mono (by have := HXF.out; omega))
        have HK1 : Hid (∀ q, X + 1 ≤ q → q < F → V2.heap[q]? = U4.heap[q]?) := hid0 (fun q h1 h2 => (hS.2.block q h2).trans (HK.out q h1 h2))
        have HFs1 : Hid (F ≤ V2.heap.size) := hid0 (by have := hS.2.size; omega)
        obtain ⟨a4, c4, ev4⟩ : ∃ a4 c4, v2 = .slice a4 (k + 1) c4 := by { obtain ⟨a4, c4, e4, _⟩ := hS.1.rwq; rw [List.length_map, List.length_append, HPl.out] at e4; exact ⟨a4, c4, e4⟩ }
        subst ev4
        obtain ⟨z0, z1, z2, z3, z4⟩ := row5 hM1.row
        obtain ⟨f0, f1, f2, f3, f4⟩ := frz5 hM1.row
        have HM1 := hid0 hM1
        clear hown2 hgrow2 hat2 hS hM1)))
      have HM2 := hid0 (HM1.out.set3 (.slice a4 (k + 1) c4))
      have HBg2 := hid0 (HBg1.out.keep (fun q h1 _ => Below.heap_setCell V2 ⟨X, 3, none⟩ (.slice a4 (k + 1) c4) q (by have := HXF.out; show q ≠ X; omega)))
      have HK2 : Hid (∀ q, X + 1 ≤ q → q < F → (V2.setCell ⟨X, 3, none⟩ (.slice a4 (k + 1) c4)).heap[q]? = U4.heap[q]?) := hid0 (fun q h1 h2 => (Below.heap_setCell V2 ⟨X, 3, none⟩ (.slice a4 (k + 1) c4) q (by show q ≠ X; omega)).trans (HK1.out q h1 h2))
      have HFs2 : Hid (F ≤ (V2.setCell ⟨X, 3, none⟩ (.slice a4 (k + 1) c4)).heap.size) := hid0 (by have := HFs1.out; simpa using this)
      have HPl2 : Hid ((ps ++ [((Value.slice none 0 0), ([] : List Int))]).length = k + 1) := hid0 (by rw [List.length_append, HPl.out]; rfl)
      have HPm2 : Hid ((ps ++ [((Value.slice none 0 0), ([] : List Int))]).map (·.2) = List.replicate (k + 1) []) := hid0 (by rw [List.map_append, HPm.out, List.replicate_succ']; rfl)
      clear HM HM1 HBg HBg1 HPl HPm HK HK1 HFs HFs1 HOO
      go_roundw
      case rel => exact ⟨k + 1, _, a4, c4, by omega, by go_num, HM2, HBg2, HPl2, HPm2, HK2, HFs2⟩
      case measure => simp [intOf]; omega
    · have hkI : ¬ (k : Int) < (Le.length : Int) := by omega
      have hkn : k = Fo.length := by have := HLE.out; omega
      subst hkn
      have HT0 : Hid (turnA 0 (Fo.drop 0) (ps.map (·.2)) = turnL Fo) := hid0 (by rw [HPm.out]; rfl)
      have HSz0 : Hid (∀ x ∈ ps, x.2.length ≤ sumL (Fo.take 0)) := hid0 (fun x hx => by
        have h1 : x.2 ∈ ps.map (·.2) := List.mem_map_of_mem (f := fun x : Value × List Int => x.2) hx
        rw [HPm.out] at h1
        rw [List.eq_of_mem_replicate h1]
        simp)
      clear HPm hlt
      go_wp2
      go_loopw [10] (fun i V => ∃ (k : Nat) (ps : Lot), k ≤ Fo.length ∧ i = .int .i64 (k : Int) ∧ Hid (Mk w0 V X (.slice vL Le.length dL) (.slice vF La.length dF) (.slice vA Fi.length dA) (.slice a3 Fo.length c3) (.bool em)) ∧ Hid (Bag V F (.slice a3 Fo.length c3) ps) ∧ Hid (ps.length = Fo.length) ∧ Hid (turnA k (Fo.drop k) (ps.map (·.2)) = turnL Fo) ∧ Hid (∀ x ∈ ps, x.2.length ≤ sumL (Fo.take k)) ∧ Hid (∀ q, X + 1 ≤ q → q < F → V.heap[q]? = U4.heap[q]?) ∧ Hid (F ≤ V.heap.size)) (fun i _ => Fo.length - (intOf i).toNat)
      case atStart => exact ⟨0, ps, Nat.zero_le _, rfl, HM, HBg, HPl, HT0, HSz0, HK, HFs⟩
      case round =>
        clear HM HBg HPl HT0 HSz0 HK HFs hFs hkI hk
        obtain ⟨k, ps, hk, rfl, HM, HBg, HPl, HT, HSz, HK, HFs⟩ := hrel
        have hsk := sumL_le HR4.out hl4 k
        by_cases hlt : k < Fo.length
        · have hkI : (k : Int) < (Le.length : Int) := by have := HLE.out; omega
          have hkI0 : (0 : Int) ≤ (k : Int) := by omega
          have hkI1 : (k : Int) < (Fo.length : Int) := by omega
          have HFoA := hid0 (fun (V : World) (hV : Below w0.heap.size w0 V) => HP0.out.fo.past hV)
          obtain ⟨b, off, ea, _, a1, c1, d1, i1⟩ := (HFoA.out wr HM.out.bel).at' k hlt
          subst ea
          have hrl := HR4.out _ (List.getElem_mem hlt)
          have HInk := hid0 (HIn2.out _ (List.getElem_mem hlt))
          have HTk := hid0 (sumL_take hlt)
          have HTD := hid0 (fun T => turnA_drop (T := T) hlt)
          have HIk : Hid (∀ V, Below w0.heap.size w0 V → V.cell? ⟨b, off + k, none⟩ = some (.slice a1 (Fo[k]).length c1) ∧ IA V a1 Fo[k]) := hid0 (fun V hV => by
            obtain ⟨b', off', e', _, a1', c1', d1', i1'⟩ := (HFoA.out V hV).at' k hlt
            obtain ⟨b2, off2, e2, hb2, a12, c12, d12, _⟩ := HP0.out.fo.at' k hlt
            cases e'
            cases e2
            have q1 := (hV.cell (p := ⟨b, off + k, none⟩) hb2).trans d12
            have q2 := (HM.out.bel.cell (p := ⟨b, off + k, none⟩) hb2).trans d12
            rw [q1] at d1'
            rw [q2] at d1
            simp only [Option.some.injEq, Value.slice.injEq] at d1 d1'
            refine ⟨?_, ?_⟩
            · rw [q1, d1.1, d1.2.2]
            · rw [← d1.1, d1'.1]; exact i1')
          clear i1 d1
          generalize Fo[k] = r at *
          generalize sumL (Fo.take k) = m at *
          have HT1 : Hid (turnA (k + 1) (Fo.drop (k + 1)) ((r.drop 0).foldl (putT k) (ps.map (·.2))) = turnL Fo) := hid0 (by rw [← HT.out, HTD.out]; rfl)
          have HSz1 : Hid (∀ x ∈ ps, x.2.length ≤ m + 0) := HSz
          clear HT HTD HSz
          go_wp2
          go_loopw [11] (fun i V => ∃ (q : Nat) (ps : Lot), q ≤ r.length ∧ i = .int .i64 (q : Int) ∧ Hid (Mk w0 V X (.slice vL Le.length dL) (.slice vF La.length dF) (.slice vA Fi.length dA) (.slice a3 Fo.length c3) (.bool em)) ∧ Hid (Bag V F (.slice a3 Fo.length c3) ps) ∧ Hid (ps.length = Fo.length) ∧ Hid (turnA (k + 1) (Fo.drop (k + 1)) ((r.drop q).foldl (putT k) (ps.map (·.2))) = turnL Fo) ∧ Hid (∀ x ∈ ps, x.2.length ≤ m + q) ∧ Hid (∀ q, X + 1 ≤ q → q < F → V.heap[q]? = U4.heap[q]?) ∧ Hid (F ≤ V.heap.size)) (fun i _ => r.length - (intOf i).toNat)
          case atStart => exact ⟨0, ps, Nat.zero_le _, rfl, HM, HBg, HPl, HT1, HSz1, HK, HFs⟩
          case round =>
            clear HM HBg HPl HT1 HSz1 HK HFs
            obtain ⟨q, ps, hq, rfl, HM, HBg, HPl, HT, HSz, HK, HFs⟩ := hrel
            obtain ⟨d1, i1⟩ := HIk.out wr HM.out.bel
            obtain ⟨x0, x1, x2, x3, x4⟩ := HXX.out wr HM.out.bel
            by_cases hql : q < r.length
            · obtain ⟨b2, off2, rfl, _, d2⟩ := i1.at' q hql
              have hqI : (q : Int) < (r.length : Int) := by omega
              have hqI0 : (0 : Int) ≤ (q : Int) := by omega
              have hy := HInk.out _ (List.getElem_mem hql)
              have HFD := hid0 (fun T => fold_drop (x := k) (T := T) hql)
              generalize r[q] = y at *
              obtain ⟨yn, rfl⟩ : ∃ yn : Nat, y = (yn : Int) := ⟨y.toNat, by omega⟩
              have hyn : yn < ps.length := by rw [HPl.out]; omega
              have hyI1 : (yn : Int) < (Fo.length : Int) := by omega
              have hyI0 : (0 : Int) ≤ (yn : Int) := by omega
              obtain ⟨G, hG⟩ : ∃ G, a3 = some ⟨G, 0, none⟩ := by
                rcases HBg.out.outer.2 with ⟨e, h0⟩ | ⟨g, cap, cur, e, _⟩
                · omega
                · simp only [Value.slice.injEq] at e; exact ⟨g, e.1⟩
              subst hG
              obtain ⟨cc, ff⟩ := HBg.out.cells HPl.out.symm yn hyn
              have hro := HBg.out.row _ (List.getElem_mem hyn)
              have hszy := HSz.out _ (List.getElem_mem hyn)
              have hFs := HFs.out
              have hGs := World.ownsRow.lt HBg.out.outer G rfl
              obtain ⟨av, cv, ev, _⟩ := hro.ia
              have HMP := hid0 (fun v => map_putT (x := k) hyn (v := v))
              have hro' := hro
              rw [ev] at hro'
              obtain ⟨v2, w2, hrun, hown2, hgrow2, _, hat2⟩ := run_append_own_at (P := Tryd.prog) ((wr.alloc (.cells #[.int .i64 (k : Int)] 3)).drew) F 23 23 3 i0 (.int .i64 0) 1 8 Tryd.underlying23 hi hz0 hz1 hz2 rfl (by decide) (.slice av (ps[yn]).2.length cv) (ps[yn]).2.length ((ps[yn]).2.map (Value.int .i64)) (show World.ownsRow (wr.alloc (.cells #[.int .i64 (k : Int)] 3)).drew _ _ _ _ _ _ from World.ownsRow.alloc (show World.ownsRow wr _ _ _ _ _ _ from hro') _) ⟨wr.heap.size, 0, none⟩ 1 1 [.int .i64 (k : Int)] rfl (show ∀ j u, [Value.int .i64 (k : Int)][j]? = some u → (wr.alloc (.cells #[.int .i64 (k : Int)] 3)).drew.cell? (Addr.add ⟨wr.heap.size, 0, none⟩ j) = some u from cell_one_new wr _ _) (by simp [Value.oneCell']) (by unfold maxLen; omega) (by omega) (by simp; omega)
              obtain ⟨cc2, ff2, hk2⟩ := HBg.out.grown (w2 := w2) (o := .cells #[.int .i64 (k : Int)] 3) HPl.out.symm yn hyn (row := (Value.slice av (ps[yn]).2.length cv).ownBlock) (by rw [ev]) ⟨hgrow2.os, hgrow2.tape, hgrow2.output, hgrow2.size, hgrow2.block⟩
              have hov : OwnI w2 F v2 ((ps[yn]).2 ++ [(k : Int)]) := by
                unfold OwnI
                rw [List.length_append, List.map_append]
                exact hown2
              obtain ⟨av2, cv2, ev2, _⟩ := hov.ia
              rw [List.length_append, List.length_singleton] at ev2
              subst ev2
              have hbg := HBg.out.set (w1 := w2) HPl.out.symm yn hyn hk2 hov (fun q' hq' => hat2.elim (fun h => .inl (by rw [ev]; exact h.symm.trans hq')) (fun h => .inr (by have e := Option.some.inj (h.symm.trans hq'); simp at e; omega)))
              have hb2 : Below F wr w2 := by
                have h1 : Below F wr (wr.drew.alloc (.cells #[.int .i64 (k : Int)] 3)) := (show Below F wr wr.drew from ⟨rfl, rfl, rfl, Nat.le_refl _, fun _ _ => rfl⟩).alloc hFs _
                exact h1.grown hgrow2 (by simp; omega) (fun k' hk' => (World.ownsRow.lt hro' k' hk').1)
              have hM1 := HM.out.past (hb2.mono (by have := HXF.out; omega))
              have HBg2 := hid0 hbg
              have HM2 : Hid (Mk w0 (w2.setCell ⟨G, yn, none⟩ (.slice av2 ((ps[yn]).2.length + 1) cv2)) X (.slice vL Le.length dL) (.slice vF La.length dF) (.slice vA Fi.length dA) (.slice (some ⟨G, 0, none⟩) Fo.length c3) (.bool em)) := hid0 (hM1.past ((Below.refl (X + 1) w2).setCell (p := ⟨G, yn, none⟩) (by have := HXF.out; show X + 1 ≤ G; omega) _))
              have HK2 : Hid (∀ q, X + 1 ≤ q → q < F → (w2.setCell ⟨G, yn, none⟩ (.slice av2 ((ps[yn]).2.length + 1) cv2)).heap[q]? = U4.heap[q]?) := hid0 (fun q h1 h2 => (Below.heap_setCell w2 ⟨G, yn, none⟩ _ q (by show q ≠ G; omega)).trans ((hb2.block q h2).trans (HK.out q h1 h2)))
              have HFs2 : Hid (F ≤ (w2.setCell ⟨G, yn, none⟩ (.slice av2 ((ps[yn]).2.length + 1) cv2)).heap.size) := hid0 (by have := hb2.size; simp; omega)
              have HMem : Hid (∀ x ∈ ps.set yn (.slice av2 ((ps[yn]).2.length + 1) cv2, (ps[yn]).2 ++ [(k : Int)]), x.2.length ≤ m + (q + 1)) := hid0 (fun x hx => by
                rcases List.mem_or_eq_of_mem_set hx with hx | rfl
                · have := HSz.out x hx; omega
                · simp; omega)
              have HPl2 : Hid ((ps.set yn (Value.slice av2 ((ps[yn]).2.length + 1) cv2, (ps[yn]).2 ++ [(k : Int)])).length = Fo.length) := hid0 (by rw [List.length_set]; exact HPl.out)
              have HT2 : Hid (turnA (k + 1) (Fo.drop (k + 1)) ((r.drop (q + 1)).foldl (putT k) ((ps.set yn (Value.slice av2 ((ps[yn]).2.length + 1) cv2, (ps[yn]).2 ++ [(k : Int)])).map (·.2))) = turnL Fo) := hid0 (by rw [HMP.out, ← HFD.out]; exact HT.out)
              obtain ⟨_, _, _, y3, _⟩ := row5 HM.out.row
              obtain ⟨_, _, _, z3, _⟩ := row5 hM1.row
              rw [ev] at cc cc2
              have ya : (wr.alloc (.cells #[.int .i64 (k : Int)] 3)).drew.cell? ⟨X, 3, none⟩ = some (.slice (some ⟨G, 0, none⟩) Fo.length c3) := cell_alloc (show wr.cell? ⟨X, 3, none⟩ = _ from y3) _
              have yb : (wr.alloc (.cells #[.int .i64 (k : Int)] 3)).drew.cell? ⟨G, yn, none⟩ = some (.slice av (ps[yn]).2.length cv) := cell_alloc (show wr.cell? ⟨G, yn, none⟩ = _ from cc) _
              have yc : wr.drew.cell? ⟨X, 3, none⟩ = some (.slice (some ⟨G, 0, none⟩) Fo.length c3) := y3
              have yd : wr.drew.cell? ⟨G, yn, none⟩ = some (.slice av (ps[yn]).2.length cv) := cc
              clear hbg hM1 hb2 hov hk2 hgrow2 hown2 hat2 hro hro' ev HT HSz HM HBg HPl HK HFs HMP HFD hszy
              generalize (ps[yn]).2 = T at *
              go_wp2
              go_region_law (refine step_append_run rfl (.tmp 104) (.tmp 106) 23 rfl _ _ _ _ hrun (by simp [Act.eval]) (by simp [Act.eval]) ?_)
              all_goals (
                go_wp2
                go_roundw
                case rel => exact ⟨q + 1, _, by omega, by go_num, HM2, HBg2, HPl2, HT2, HMem, HK2, HFs2⟩
                case measure => simp [intOf]; omega)
            · have hqI : ¬ (q : Int) < (r.length : Int) := by omega
              have HT2 : Hid (turnA (k + 1) (Fo.drop (k + 1)) (ps.map (·.2)) = turnL Fo) := hid0 (by rw [← HT.out, List.drop_of_length_le (l := r) (by omega)]; rfl)
              have HSz2 : Hid (∀ x ∈ ps, x.2.length ≤ sumL (Fo.take (k + 1))) := hid0 (fun x hx => by have := HSz.out x hx; rw [HTk.out]; omega)
              clear HT HSz i1
              go_wp2
              go_roundw
              case rel => exact ⟨k + 1, ps, by omega, by go_num, HM, HBg, HPl, HT2, HSz2, HK, HFs⟩
              case measure => simp [intOf]; omega
        · have hkI : ¬ (k : Int) < (Le.length : Int) := by have := HLE.out; omega
          have HE : Hid (ps.map (·.2) = turnL Fo) := hid0 (by rw [← HT.out, turnA_end (by omega)])
          obtain ⟨x0, x1, x2, x3, x4⟩ := row5 HM.out.row
          have hY1 := HYY.out wr HM.out.bel
          obtain ⟨y0, y1, y2, y3, y4⟩ := row5 hY1
          obtain ⟨f0, f1, f2, f3, f4⟩ := frz5 hY1
          have HTl : Hid (Fo.length = (turnL Fo).length) := hid0 (by rw [← HE.out, List.length_map, HPl.out])
          obtain ⟨V5, hV5⟩ : ∃ V5, V5 = set5 wr (w.heap.size + 1) (.slice vL Le.length dL) (.slice vF La.length dF) (.slice vA Fi.length dA) (.slice a3 Fo.length c3) (.bool em) := ⟨_, rfl⟩
          obtain ⟨k0, k1, k2, k3, k4⟩ := row5 (hV5 ▸ set5_row hY1 (.slice vL Le.length dL) (.slice vF La.length dF) (.slice vA Fi.length dA) (.slice a3 Fo.length c3) (.bool em))
          have HPq : Hid (PosQ wr (X + 1) vL vF vA a3 Le (turnL Fo) La Fi) := hid0 (by
            obtain ⟨psL, hmL, hbL, hoF, hoA⟩ := HPQ.out
            have hsz : U4.heap.size ≤ wr.heap.size := by have := HFs.out; have := HFU.out; omega
            have hkp : ∀ q, X + 1 ≤ q → q < U4.heap.size → wr.heap[q]? = U4.heap[q]? := fun q h1 h2 => HK.out q h1 (by have := HFU.out; omega)
            refine ⟨?_, ?_, ?_, ?_⟩
            · obtain ⟨a', c', e', h'⟩ := hbL.rwq' hmL (Nat.le_refl _)
              cases e'
              exact h'.keep hsz hkp
            · obtain ⟨a', c', e', h'⟩ := hoF.iq
              cases e'
              exact h'.keep hsz hkp
            · obtain ⟨a', c', e', h'⟩ := hoA.iq
              cases e'
              exact h'.keep hsz hkp
            · obtain ⟨a', c', e', h'⟩ := HBg.out.rwq' HE.out (lo := X + 1) (by have := HXF.out; omega)
              simp only [Value.slice.injEq] at e'
              rw [e'.1]
              exact h')
          have HR : Hid (RevR w (revP Le Fo Fi La em) (.returned (.agg #[.slice vL Le.length dL, .slice vF La.length dF, .slice vA Fi.length dA, .slice a3 Fo.length c3, .bool em])) V5) := hid0 (by
            rw [HV.out, hV5]
            refine ⟨vL, vF, vA, a3, dL, dF, dA, c3, ?_, (set5_keep HPq.out (by have := HM.out.lo; have := HS0.out; omega) _ _ _ _ _).lower (by have := HM.out.lo; have := HS0.out; omega), set5_below (Below.later HB0.out HM.out.bel) (by omega) _ _ _ _ _⟩
            unfold posV
            rw [← HTl.out])
          unfold set5 at hV5
          have hf5 := hV5.symm
          clear hV5 hY1 HT HE HPq HTl
          go_wp2
          exact bodyPost_ret (v := .agg #[.slice vL Le.length dL, .slice vF La.length dF, .slice vA Fi.length dA, .slice a3 Fo.length c3, .bool em]) (by simp [results, Tryd.results16, go_sem, k0, k1, k2, k3, k4]) rfl HR.out
end Go.Proofs.YtlkgghbdgjomkaaDoor
namespace Go.Proofs.YtlkgghbdgjomkaaDoor
open Go.RowKit Go.Shelf
theorem drew_more {w w' : World} {a b : Nat} (h : ∃ m, w' = (w.drewN (a + b)).drewN m) : ∃ n, w' = w.drewN (a + n) := by
  obtain ⟨m, hm⟩ := h
  exact ⟨b + m, by rw [hm, World.drewN_drewN, Nat.add_assoc]⟩
set_option maxRecDepth 10000 in
set_option maxHeartbeats 1600000 in
theorem sameRows (L : List (List Int)) (a b : Option Addr) (ca cb : Nat) (w : World) (hl : L.length ≤ 1000000000) (hr : ∀ r ∈ L, r.length ≤ 1000000000) (ha : RwA w a L) (hb : RwA w b L) :
    Calls Tryd.prog 29 #[.slice a L.length ca, .slice b L.length cb] w fun e w' => e = .returned (.bool true) ∧ ∃ n, w' = w.drewN n := by
  have HA := hid0 ha
  have HB := hid0 hb
  have HR := hid0 hr
  clear ha hb hr
  go_enter Tryd.func29, Tryd.ntmps29
  go_wp2
  go_loopw [5] (fun i wr => ∃ k : Nat, k ≤ L.length ∧ i = .int .i64 (k : Int) ∧ ∃ n, wr = w.drewN n) (fun i _ => L.length - (intOf i).toNat)
  case atStart => exact ⟨0, Nat.zero_le _, rfl, 0, rfl⟩
  case round =>
    obtain ⟨k, hk, rfl, nd, rfl⟩ := hrel
    by_cases hlt : k < L.length
    · obtain ⟨b1, o1, rfl, _, a1, c1, d1, i1⟩ := HA.out.at' k hlt
      obtain ⟨b2, o2, rfl, _, a2, c2, d2, i2⟩ := HB.out.at' k hlt
      have HS := hid0 (fun n => sameI L[k] a1 a2 c1 c2 (w.drewN n) (by have := HR.out _ (List.getElem_mem hlt); omega) ⟨i1.at'⟩ ⟨i2.at'⟩)
      clear i1 i2
      generalize L[k] = s at *
      have hkI : (k : Int) < (L.length : Int) := by omega
      have hkI0 : (0 : Int) ≤ (k : Int) := by omega
      go_wp2
      go_quiet ((go_at_call 15; exact (HS.out _).mono (fun _ _ h => ⟨h.1, drew_more h.2⟩)))
      go_wp2
      go_roundw
      case rel => exact ⟨k + 1, by omega, by go_num, _, rfl⟩
      case measure => simp [intOf]; omega
    · have hkI : ¬ (k : Int) < (L.length : Int) := by omega
      go_wp2
      go_ret
      exact ⟨rfl, nd, rfl⟩
set_option maxRecDepth 10000 in
set_option maxHeartbeats 1600000 in
theorem samePos (aL aF aA aO bL bF bA bO : Option Addr) (cL cF cA cO dL dF dA dO : Nat) (Le Fo : List (List Int)) (Fi La : List Int) (em : Bool) (w : World) (hp : PosA w aL aF aA aO Le Fo Fi La) (hq : PosA w bL bF bA bO Le Fo Fi La) :
    Calls Tryd.prog 8 #[posV aL aF aA aO cL cF cA cO Le Fo Fi La em, posV bL bF bA bO dL dF dA dO Le Fo Fi La em] w fun e w' => e = .returned (.bool true) ∧ Below w.heap.size w w' := by
  unfold posV
  obtain ⟨wa, hwa⟩ : ∃ wa, wa = w.alloc (.cells #[.slice aL Le.length cL, .slice aF Fi.length cF, .slice aA La.length cA, .slice aO Fo.length cO, .bool em] 25) := ⟨_, rfl⟩
  obtain ⟨w0, hw0⟩ : ∃ w0, w0 = wa.alloc (.cells #[.slice bL Le.length dL, .slice bF Fi.length dF, .slice bA La.length dA, .slice bO Fo.length dO, .bool em] 25) := ⟨_, rfl⟩
  have hsa : wa.heap.size = w.heap.size + 1 := by rw [hwa]; simp
  have hBa : Below w.heap.size w wa := by rw [hwa]; exact (Below.refl _ _).alloc (Nat.le_refl _) _
  have hBb : Below wa.heap.size wa w0 := by rw [hw0]; exact (Below.refl _ _).alloc (Nat.le_refl _) _
  have hB0 : Below w.heap.size w w0 := Below.later hBa hBb
  have hXa : wa.heap[w.heap.size]? = some (.cells #[.slice aL Le.length cL, .slice aF Fi.length cF, .slice aA La.length cA, .slice aO Fo.length cO, .bool em] 25 (0, 0)) := by rw [hwa]; exact heap_alloc_new w _
  have hX0 : w0.heap[w.heap.size]? = some (.cells #[.slice aL Le.length cL, .slice aF Fi.length cF, .slice aA La.length cA, .slice aO Fo.length cO, .bool em] 25 (0, 0)) := (hBb.block _ (by omega)).trans hXa
  have hY0 : w0.heap[w.heap.size + 1]? = some (.cells #[.slice bL Le.length dL, .slice bF Fi.length dF, .slice bA La.length dA, .slice bO Fo.length dO, .bool em] 25 (0, 0)) := by rw [hw0, ← hsa]; exact heap_alloc_new wa _
  have HB0 := hid0 hB0
  have hp0 := hp.past hB0
  have hq0 := hq.past hB0
  obtain ⟨x0, x1, x2, x3, x4⟩ := row5 hX0
  obtain ⟨y0, y1, y2, y3, y4⟩ := row5 hY0
  have H1 := hid0 (fun n => sameRows Le aL bL cL dL (w0.drewN n) (by have := hp.l1; omega) (fun r hr => by have := hp.r1 r hr; omega) (hp0.le.drewN n) (hq0.le.drewN n))
  have H2 := hid0 (fun n => sameI Fi aF bF cF dF (w0.drewN n) (by have := hp.l2; omega) ⟨hp0.fi.at'⟩ ⟨hq0.fi.at'⟩)
  have H3 := hid0 (fun n => sameI La aA bA cA dA (w0.drewN n) (by have := hp.l3; omega) ⟨hp0.la.at'⟩ ⟨hq0.la.at'⟩)
  have H4 := hid0 (fun n => sameRows Fo aO bO cO dO (w0.drewN n) (by have := hp.l4; omega) (fun r hr => by have := hp.r4 r hr; omega) (hp0.fo.drewN n) (hq0.fo.drewN n))
  have hfa := hwa.symm
  have hfold := hw0.symm
  clear hwa hw0 hp hq hp0 hq0 hB0 hBa hBb hXa hX0 hY0 hsa
  subst hfa
  have hself : (em == em) = true := by simp
  go_enter Tryd.func8, Tryd.ntmps8
  go_upto_region 2 with (go_at_call 29; refine (H1.out 0).mono ?_; rintro e w1 ⟨rfl, hw1⟩; obtain ⟨n1, rfl⟩ := drew_add hw1; clear hw1)
  go_upto_region 3 with (go_at_call 15; refine (H2.out _).mono ?_; rintro e w2 ⟨rfl, hw2⟩; obtain ⟨n2, rfl⟩ := drew_add hw2; clear hw2)
  go_upto_region 4 with (go_at_call 15; refine (H3.out _).mono ?_; rintro e w3 ⟨rfl, hw3⟩; obtain ⟨n3, rfl⟩ := drew_add hw3; clear hw3)
  go_upto_region 5 with (go_at_call 29; refine (H4.out _).mono ?_; rintro e w4 ⟨rfl, hw4⟩; obtain ⟨n4, rfl⟩ := drew_add hw4; clear hw4)
  go_wp2
  go_ret
  exact ⟨rfl, below_drew' HB0.out _⟩
end Go.Proofs.YtlkgghbdgjomkaaDoor
