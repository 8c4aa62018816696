/-
  caesurakit.Rules.
-/
import Derived.Test.YthcpalpcakjfnaaMgRM
import Derived.Test.YthcpalpcakjfnaaMgNW
import Derived.Deep.Cut
namespace Go.Proofs.Ythcpalpcakjfnaa
open Go.RowKit Go.Shelf
theorem infoRule : (Try.prog.info? 50).map (fun i => (i.zero, i.size, i.bytes)) = some (some (.agg #[.string ⟨#[]⟩, .int .i64 0, .bool false, .slice none 0 0, .slice none 0 0, .slice none 0 0, .int .i64 0, .bool false, .slice none 0 0, .slice none 0 0, .slice none 0 0, .bool false, .bool false, .bool false]), 14, 200) := by kernel_rfl
theorem row6 {W : World} {X : Nat} {t : TypeId} {a b c d e f : Value} (h : W.heap[X]? = some (.cells #[a, b, c, d, e, f] t (0, 0))) : (W.cell? ⟨X, 0, none⟩ = some a ∧ W.cell? ⟨X, 1, none⟩ = some b ∧ W.cell? ⟨X, 2, none⟩ = some c ∧ W.cell? ⟨X, 3, none⟩ = some d ∧ W.cell? ⟨X, 4, none⟩ = some e ∧ W.cell? ⟨X, 5, none⟩ = some f) ∧ (W.frozen? ⟨X, 0, none⟩ = false ∧ W.frozen? ⟨X, 1, none⟩ = false ∧ W.frozen? ⟨X, 2, none⟩ = false ∧ W.frozen? ⟨X, 3, none⟩ = false ∧ W.frozen? ⟨X, 4, none⟩ = false ∧ W.frozen? ⟨X, 5, none⟩ = false) :=
  ⟨⟨by rw [cell_of_row _ _ _ _ _ _ h]; rfl, by rw [cell_of_row _ _ _ _ _ _ h]; rfl, by rw [cell_of_row _ _ _ _ _ _ h]; rfl, by rw [cell_of_row _ _ _ _ _ _ h]; rfl, by rw [cell_of_row _ _ _ _ _ _ h]; rfl, by rw [cell_of_row _ _ _ _ _ _ h]; rfl⟩,
   by simp [World.frozen?, h], by simp [World.frozen?, h], by simp [World.frozen?, h], by simp [World.frozen?, h], by simp [World.frozen?, h], by simp [World.frozen?, h]⟩
theorem two_rows6 (w : World) (t : TypeId) (a b c d e f a' b' c' d' e' f' : Value) (W : World) (hW : W = (w.alloc (.cells #[a, b, c, d, e, f] t)).alloc (.cells #[a', b', c', d', e', f'] t)) :
    W.heap[w.heap.size]? = some (.cells #[a, b, c, d, e, f] t (0, 0)) ∧ W.heap[w.heap.size + 1]? = some (.cells #[a', b', c', d', e', f'] t (0, 0)) ∧ Below w.heap.size w W ∧ W.heap.size = w.heap.size + 2 := by
  obtain ⟨wa, hwa⟩ : ∃ wa, wa = w.alloc (.cells #[a, b, c, d, e, f] t) := ⟨_, rfl⟩
  have sa : wa.heap.size = w.heap.size + 1 := by rw [hwa]; simp
  have hW2 : W = wa.alloc (.cells #[a', b', c', d', e', f'] t) := by rw [hW, hwa]
  refine ⟨?_, ?_, ?_, ?_⟩
  · rw [hW2, Below.heap_alloc wa _ _ (by omega), hwa]; exact heap_alloc_new w _
  · rw [hW2, ← sa]; exact heap_alloc_new wa _
  · rw [hW]; exact ((Below.refl _ _).alloc (Nat.le_refl _) _).alloc (by simp) _
  · rw [hW2]; simp [sa]
/-- Five cells of a row of fourteen written over. -/
def set5 (W : World) (X o : Nat) (a b c d e : Value) : World := ((((W.setCell ⟨X, o, none⟩ a).setCell ⟨X, o + 1, none⟩ b).setCell ⟨X, o + 2, none⟩ c).setCell ⟨X, o + 3, none⟩ d).setCell ⟨X, o + 4, none⟩ e
theorem set5_row1 {W : World} {X : Nat} {t : TypeId} {v0 v1 v2 v3 v4 v5 v6 v7 v8 v9 v10 v11 v12 v13 : Value} (h : W.heap[X]? = some (.cells #[v0, v1, v2, v3, v4, v5, v6, v7, v8, v9, v10, v11, v12, v13] t (0, 0))) (a b c d e : Value) : (set5 W X 1 a b c d e).heap[X]? = some (.cells #[v0, a, b, c, d, e, v6, v7, v8, v9, v10, v11, v12, v13] t (0, 0)) := by
  unfold set5
  exact heap_setCell_same _ _ 5 _ _ e (heap_setCell_same _ _ 4 _ _ d (heap_setCell_same _ _ 3 _ _ c (heap_setCell_same _ _ 2 _ _ b (heap_setCell_same _ _ 1 _ _ a h))))
theorem set5_row6 {W : World} {X : Nat} {t : TypeId} {v0 v1 v2 v3 v4 v5 v6 v7 v8 v9 v10 v11 v12 v13 : Value} (h : W.heap[X]? = some (.cells #[v0, v1, v2, v3, v4, v5, v6, v7, v8, v9, v10, v11, v12, v13] t (0, 0))) (a b c d e : Value) : (set5 W X 6 a b c d e).heap[X]? = some (.cells #[v0, v1, v2, v3, v4, v5, a, b, c, d, e, v11, v12, v13] t (0, 0)) := by
  unfold set5
  exact heap_setCell_same _ _ 10 _ _ e (heap_setCell_same _ _ 9 _ _ d (heap_setCell_same _ _ 8 _ _ c (heap_setCell_same _ _ 7 _ _ b (heap_setCell_same _ _ 6 _ _ a h))))
theorem set5_below {B : Nat} {w W : World} {X : Nat} (h : Below B w W) (hX : B ≤ X) (o : Nat) (a b c d e : Value) : Below B w (set5 W X o a b c d e) := by
  unfold set5
  exact ((((h.setCell (p := ⟨X, o, none⟩) hX a).setCell (p := ⟨X, o + 1, none⟩) hX b).setCell (p := ⟨X, o + 2, none⟩) hX c).setCell (p := ⟨X, o + 3, none⟩) hX d).setCell (p := ⟨X, o + 4, none⟩) hX e
theorem set5_keeps {W : World} {X : Nat} (o : Nat) (a b c d e : Value) : Keeps (fun g => g ≠ X) W (set5 W X o a b c d e) := by
  have ho : ∀ g, g ≠ X → (set5 W X o a b c d e).heap[g]? = W.heap[g]? := fun g hg => by
    unfold set5
    rw [Below.heap_setCell _ _ _ g hg, Below.heap_setCell _ _ _ g hg, Below.heap_setCell _ _ _ g hg, Below.heap_setCell _ _ _ g hg, Below.heap_setCell _ _ _ g hg]
  have hs : W.heap.size ≤ (set5 W X o a b c d e).heap.size := by unfold set5; simp
  generalize set5 W X o a b c d e = V at *
  exact ⟨hs, fun g o hg _ => World.cell?_of_block (w := W) (ho g hg)⟩
theorem row14 {W : World} {X : Nat} {t : TypeId} {v0 v1 v2 v3 v4 v5 v6 v7 v8 v9 v10 v11 v12 v13 : Value} (h : W.heap[X]? = some (.cells #[v0, v1, v2, v3, v4, v5, v6, v7, v8, v9, v10, v11, v12, v13] t (0, 0))) :
    (W.cell? ⟨X, 0, none⟩ = some v0 ∧ W.cell? ⟨X, 1, none⟩ = some v1 ∧ W.cell? ⟨X, 2, none⟩ = some v2 ∧ W.cell? ⟨X, 3, none⟩ = some v3 ∧ W.cell? ⟨X, 4, none⟩ = some v4 ∧ W.cell? ⟨X, 5, none⟩ = some v5 ∧ W.cell? ⟨X, 6, none⟩ = some v6 ∧ W.cell? ⟨X, 7, none⟩ = some v7 ∧ W.cell? ⟨X, 8, none⟩ = some v8 ∧ W.cell? ⟨X, 9, none⟩ = some v9 ∧ W.cell? ⟨X, 10, none⟩ = some v10 ∧ W.cell? ⟨X, 11, none⟩ = some v11 ∧ W.cell? ⟨X, 12, none⟩ = some v12 ∧ W.cell? ⟨X, 13, none⟩ = some v13) ∧ ∀ k, W.frozen? ⟨X, k, none⟩ = false := by
  refine ⟨⟨?_, ?_, ?_, ?_, ?_, ?_, ?_, ?_, ?_, ?_, ?_, ?_, ?_, ?_⟩, fun k => by simp [World.frozen?, h]⟩ <;> (rw [cell_of_row _ _ _ _ _ _ h]; rfl)
theorem cells14_new (w : World) (u : Ru) (x y : EV) (t : TypeId) : ∀ j v, (ruC u x y)[j]? = some v → (w.alloc (.cells #[.string u.nm, x.k, x.t, x.n, x.p, x.r, y.k, y.t, y.n, y.p, y.r, .bool u.s, .bool u.t, .bool u.b] t)).cell? ((⟨w.heap.size, 0, none⟩ : Addr).add j) = some v := by
  intro j v h
  rw [Addr.add_mid, cell_of_row _ _ _ _ _ _ (heap_alloc_new w _)]
  simpa [ruC] using h
theorem ruC_one {u : Ru} {x y : EV} (hx : ∀ v, v ∈ evC x → v.oneCell' = true) (hy : ∀ v, v ∈ evC y → v.oneCell' = true) : ∀ v, v ∈ ruC u x y → v.oneCell' = true := by
  intro v hv
  simp only [ruC, List.mem_cons, List.not_mem_nil, or_false] at hv
  simp only [evC, List.mem_cons, List.not_mem_nil, or_false] at hx hy
  rcases hv with rfl | rfl | rfl | rfl | rfl | rfl | rfl | rfl | rfl | rfl | rfl | rfl | rfl | rfl
  · rfl
  · exact hx _ (by simp)
  · exact hx _ (by simp)
  · exact hx _ (by simp)
  · exact hx _ (by simp)
  · exact hx _ (by simp)
  · exact hy _ (by simp)
  · exact hy _ (by simp)
  · exact hy _ (by simp)
  · exact hy _ (by simp)
  · exact hy _ (by simp)
  · rfl
  · rfl
  · rfl
set_option maxRecDepth 10000 in
set_option maxHeartbeats 3200000 in
theorem rules_any (B : Nat) (s : Int) (nt : Bool) (N : List ByteArray) (P : List (Int × Int)) (el : Bool) (R : List Ru) (a b c : Option Addr) (ca cb cc : Nat) (xs ys : Nat → EV) (w : World) (hBw : B ≤ w.heap.size) (hN : SA w a N) (hP : RA w b P) (lN : N.length ≤ 100000000) (lP : P.length ≤ 100000000) (lR : R.length ≤ 100000000) (nN : a = none → ca = 0) (nP : b = none → cb = 0) (hR : RuH w B c R xs ys) :
    Calls Try.prog 5 #[.agg #[.slice c R.length cc, .int .i64 s, .bool nt, .slice a N.length ca, .slice b P.length cb, .bool el]] w fun r w' => RulesR w s nt N P el R r w' := by
  obtain ⟨i0, hi, hz0, hz1, hz2⟩ := info_parts infoRule
  have HSet := hid0 (fun (V : World) (hV : Below w.heap.size w V) => set_any nt N P a b ca cb V (by omega) (by omega) nN nP (hN.below hV) (hP.below hV))
  obtain ⟨W, hW⟩ : ∃ W, (w.alloc (.cells #[.slice c R.length cc, .int .i64 s, .bool nt, .slice a N.length ca, .slice b P.length cb, .bool el] 31)).alloc (.cells #[.slice none 0 0, .int .i64 0, .bool false, .slice none 0 0, .slice none 0 0, .bool false] 31) = W := ⟨_, rfl⟩
  obtain ⟨hr0, hr1, hb, hs⟩ := two_rows6 w _ _ _ _ _ _ _ _ _ _ _ _ _ W hW.symm
  have HR1 := hid0 hr1
  have HB := hid0 hb
  have HS := hid0 hs
  have HBW : Hid (B ≤ W.heap.size) := hid0 (by omega)
  have HBw := hid0 hBw
  have HSk : Hid (∀ V, Below W.heap.size W V → V.cell? ⟨w.heap.size, 0, none⟩ = some (.slice c R.length cc) ∧ V.cell? ⟨w.heap.size, 1, none⟩ = some (.int .i64 s) ∧ V.cell? ⟨w.heap.size, 2, none⟩ = some (.bool nt) ∧ V.cell? ⟨w.heap.size, 3, none⟩ = some (.slice a N.length ca) ∧ V.cell? ⟨w.heap.size, 4, none⟩ = some (.slice b P.length cb) ∧ V.cell? ⟨w.heap.size, 5, none⟩ = some (.bool el)) := hid0 (fun V hV => (row6 (kept hV hr0)).1)
  have HRu := hid0 hR
  clear hr0 hr1 hb hs hN hP hR nN nP hBw lN lP
  go_enter Try.func5, Try.ntmps5
  go_wp2
  go_cut [3] from 6 (fun p wx => ∃ F gN cN gP cP : Nat, p = .pointer (some ⟨F, 0, none⟩) ∧ Hid (UP W wx B F s nt N P el gN cN gP cP (.slice none 0 0) []))
  case first =>
    refine wp_region_noPanic ?_
    refine wp_region_held_drew (S := (fun V => V.cell? ⟨w.heap.size, 0, none⟩ = some (.slice c R.length cc) ∧ V.cell? ⟨w.heap.size, 1, none⟩ = some (.int .i64 s) ∧ V.cell? ⟨w.heap.size, 2, none⟩ = some (.bool nt) ∧ V.cell? ⟨w.heap.size, 3, none⟩ = some (.slice a N.length ca) ∧ V.cell? ⟨w.heap.size, 4, none⟩ = some (.slice b P.length cb) ∧ V.cell? ⟨w.heap.size, 5, none⟩ = some (.bool el))) (by kernel_rfl) ?_ (fun hHeld => ?_)
    · exact HSk.out _ (Below.refl W.heap.size W).drew
    refine tkV (i := 0) (d := some 6) (v := ?_) rfl (by kernel_rfl) (by kernel_rfl) (by kernel_rfl) rfl (fun _ _ _ h => h) (by rfl) ?_ (by assumption) ?_
    rotate_left
    · (intro w hSw; (try dsimp only at hSw); (try simp only [List.getElem_toArray, List.getElem_cons_zero]); go_simp; try with_reducible rfl)
    try simp only [Act.put, List.setIfInBounds_toArray, List.set_cons_zero, List.set_cons_succ]
    refine tkV (i := 1) (d := some 7) (v := ?_) rfl (by kernel_rfl) (by kernel_rfl) (by kernel_rfl) rfl (fun _ _ _ h => h) (by rfl) ?_ (by assumption) ?_
    rotate_left
    · (intro w hSw; (try dsimp only at hSw); (try simp only [List.getElem_toArray, List.getElem_cons_zero, List.getElem_cons_succ]); go_simp; try with_reducible rfl)
    try simp only [Act.put, List.setIfInBounds_toArray, List.set_cons_zero, List.set_cons_succ]
    refine tkV (i := 2) (d := some 8) (v := ?_) rfl (by kernel_rfl) (by kernel_rfl) (by kernel_rfl) rfl (fun _ _ _ h => h) (by rfl) ?_ (by assumption) ?_
    rotate_left
    · (intro w hSw; (try dsimp only at hSw); (try simp only [List.getElem_toArray, List.getElem_cons_zero, List.getElem_cons_succ]); go_simp; try with_reducible rfl)
    try simp only [Act.put, List.setIfInBounds_toArray, List.set_cons_zero, List.set_cons_succ]
    refine tkV (i := 3) (d := some 9) (v := ?_) rfl (by kernel_rfl) (by kernel_rfl) (by kernel_rfl) rfl (fun _ _ _ h => h) (by rfl) ?_ (by assumption) ?_
    rotate_left
    · (intro w hSw; (try dsimp only at hSw); (try simp only [List.getElem_toArray, List.getElem_cons_zero, List.getElem_cons_succ]); go_simp; try with_reducible rfl)
    try simp only [Act.put, List.setIfInBounds_toArray, List.set_cons_zero, List.set_cons_succ]
    refine tkV (i := 5) (d := some 11) (v := ?_) rfl (by kernel_rfl) (by kernel_rfl) (by kernel_rfl) rfl (fun _ _ _ h => h) (by rfl) ?_ (by assumption) ?_
    rotate_left
    · (intro w hSw; (try dsimp only at hSw); (try simp only [List.getElem_toArray, List.getElem_cons_zero, List.getElem_cons_succ]); go_simp; try with_reducible rfl)
    try simp only [Act.put, List.setIfInBounds_toArray, List.set_cons_zero, List.set_cons_succ]
    refine tkV (i := 6) (d := some 12) (v := ?_) rfl (by kernel_rfl) (by kernel_rfl) (by kernel_rfl) rfl (fun _ _ _ h => h) (by rfl) ?_ (by assumption) ?_
    rotate_left
    · (intro w hSw; (try dsimp only at hSw); (try simp only [List.getElem_toArray, List.getElem_cons_zero, List.getElem_cons_succ]); go_simp; try with_reducible rfl)
    try simp only [Act.put, List.setIfInBounds_toArray, List.set_cons_zero, List.set_cons_succ]
    refine wpAnyH_ready (rs := [4, 8]) (by kernel_rfl) (by simp) (AllReadyH.cons rfl (fun K hK => ?_) (AllReadyH.cons rfl (fun K hK => ?_) AllReadyH.nil))
    · try simp only [List.getElem_toArray, List.getElem_cons_zero, List.getElem_cons_succ]
      go_simp
      refine (HSet.out (W.drew) (Below.later HB.out ((Below.refl W.heap.size W).drew))).mono ?_
      rintro r w1 ⟨gN, cN, gP, cP, rfl, h1, h2, _, hb1⟩
      obtain ⟨hq1, hq2, hkN, hkP⟩ := set_qs h1 h2
      have HQ1 := hid0 hq1
      have HQ2 := hid0 hq2
      have HKN := hid0 hkN
      have HKP := hid0 hkP
      have HB1 := hid0 (Below.later ((Below.refl W.heap.size W).drew) hb1)
      have HB1s := hid0 hb1
      have hs1 := HSk.out _ HB1.out
      clear h1 h2 hb1 hq1 hq2 hkN hkP
      go_wp2_with fail
      refine hK.out _ _ ?_ (fun hHeldC => ?_)
      · exact hs1
      clear hK K
      (try simp only [Act.put]); (try simp only [List.setIfInBounds_toArray]); (try simp only [List.set_cons_succ]); (try simp only [List.set_cons_zero])
      refine tkV (i := 7) (d := some 13) (v := ?_) rfl (by kernel_rfl) (by kernel_rfl) (by kernel_rfl) rfl (fun _ _ _ h => h) (by rfl) ?_ (by assumption) ?_
      rotate_left
      · (intro w hSw; (try dsimp only at hSw); (try simp only [List.getElem_toArray, List.getElem_cons_zero, List.getElem_cons_succ]); go_simp; try with_reducible rfl)
      try simp only [Act.put, List.setIfInBounds_toArray, List.set_cons_zero, List.set_cons_succ]
      refine wpAnyH_ready (rs := [8]) (by kernel_rfl) (by simp) (AllReadyH.cons rfl (fun K hK => ?_) AllReadyH.nil)
      try simp only [List.getElem_toArray, List.getElem_cons_zero, List.getElem_cons_succ]
      go_simp
      refine hK.out _ _ ?_ (fun hHeldL => ?_)
      · exact HSk.out _ (Below.later HB1.out ((Below.refl w1.heap.size w1).alloc (Nat.le_refl _) (.cells #[.slice none 0 0, .int .i64 0, .bool false, .slice none 0 0, .slice none 0 0, .bool false] 31)))
      clear hK K
      (try simp only [Act.put]); (try simp only [List.setIfInBounds_toArray]); (try simp only [List.set_cons_succ]); (try simp only [List.set_cons_zero])
      obtain ⟨V5, hV5⟩ : ∃ V5, w1.alloc (.cells #[.slice none 0 0, .int .i64 s, .bool nt, .slice (some ⟨gN, 0, none⟩) N.length cN, .slice (some ⟨gP, 0, none⟩) P.length cP, .bool el] 31) = V5 := ⟨_, rfl⟩
      obtain ⟨bb5, hR5, _⟩ := laid hV5
      have HBz := hid0 (Below.later HB1.out bb5)
      have HUP : Hid (UP W V5 B w1.heap.size s nt N P el gN cN gP cP (.slice none 0 0) []) := hid0 (UP.start HBW.out HB1.out.size hR5 ((HQ1.out.mono (Q' := fun b => W.heap.size ≤ b ∧ b ≠ w1.heap.size) (fun b hl hb => ⟨hb, by omega⟩)).keeps (Keeps.past bb5)) ((HQ2.out.mono (Q' := fun b => W.heap.size ≤ b ∧ b ≠ w1.heap.size) (fun b hl hb => ⟨hb, by omega⟩)).keeps (Keeps.past bb5)) HKN.out HKP.out HBz.out)
      have HSz : Hid (V5.cell? ⟨w.heap.size, 0, none⟩ = some (.slice c R.length cc) ∧ V5.cell? ⟨w.heap.size, 1, none⟩ = some (.int .i64 s) ∧ V5.cell? ⟨w.heap.size, 2, none⟩ = some (.bool nt) ∧ V5.cell? ⟨w.heap.size, 3, none⟩ = some (.slice a N.length ca) ∧ V5.cell? ⟨w.heap.size, 4, none⟩ = some (.slice b P.length cb) ∧ V5.cell? ⟨w.heap.size, 5, none⟩ = some (.bool el)) := hid0 (HSk.out _ HBz.out)
      have HV5 : Hid (V5 = w1.alloc (.cells #[.slice none 0 0, .int .i64 s, .bool nt, .slice (some ⟨gN, 0, none⟩) N.length cN, .slice (some ⟨gP, 0, none⟩) P.length cP, .bool el] 31)) := hid0 hV5.symm
      rw [HV5.out] at HSz
      clear hV5 bb5 hR5
      refine wpAnyH_ready (rs := [9]) (by kernel_rfl) (by simp) (AllReadyH.cons rfl (fun K hK => ?_) AllReadyH.nil)
      try simp only [List.getElem_toArray, List.getElem_cons_zero, List.getElem_cons_succ]
      go_simp
      refine hK.out _ _ ?_ (fun hHeldL => ?_)
      · exact HSz.out
      clear hK K
      (try simp only [Act.put]); (try simp only [List.setIfInBounds_toArray]); (try simp only [List.set_cons_succ]); (try simp only [List.set_cons_zero])
      refine wpAnyH_done (by kernel_rfl) ?_ _
      refine NoPanic.normal ?_
      rw [← HV5.out]
      go_wp2_with fail
      go_meet
      case rel => exact ⟨w1.heap.size, gN, cN, gP, cP, rfl, HUP⟩
    · try simp only [List.getElem_toArray, List.getElem_cons_zero, List.getElem_cons_succ]
      go_simp
      refine hK.out _ _ ?_ (fun hHeldL => ?_)
      · exact HSk.out _ (((Below.refl W.heap.size W).drew).alloc (Nat.le_refl _) (.cells #[.slice none 0 0, .int .i64 0, .bool false, .slice none 0 0, .slice none 0 0, .bool false] 31))
      clear hK K
      (try simp only [Act.put]); (try simp only [List.setIfInBounds_toArray]); (try simp only [List.set_cons_succ]); (try simp only [List.set_cons_zero])
      refine wpAnyH_ready (rs := [4]) (by kernel_rfl) (by simp) (AllReadyH.cons rfl (fun K hK => ?_) AllReadyH.nil)
      try simp only [List.getElem_toArray, List.getElem_cons_zero, List.getElem_cons_succ]
      go_simp
      refine (HSet.out (W.drew.alloc (.cells #[.slice none 0 0, .int .i64 0, .bool false, .slice none 0 0, .slice none 0 0, .bool false] 31)) (Below.later HB.out ((((Below.refl W.heap.size W).drew).alloc (Nat.le_refl _) (.cells #[.slice none 0 0, .int .i64 0, .bool false, .slice none 0 0, .slice none 0 0, .bool false] 31))))).mono ?_
      rintro r w1 ⟨gN, cN, gP, cP, rfl, h1, h2, _, hb1⟩
      obtain ⟨hq1, hq2, hkN, hkP⟩ := set_qs h1 h2
      have HQ1 := hid0 hq1
      have HQ2 := hid0 hq2
      have HKN := hid0 hkN
      have HKP := hid0 hkP
      have HB1 := hid0 (Below.later ((((Below.refl W.heap.size W).drew).alloc (Nat.le_refl _) (.cells #[.slice none 0 0, .int .i64 0, .bool false, .slice none 0 0, .slice none 0 0, .bool false] 31))) hb1)
      have HB1s := hid0 hb1
      have hs1 := HSk.out _ HB1.out
      clear h1 h2 hb1 hq1 hq2 hkN hkP
      have HRX := hid0 (kept HB1s.out (show (W.drew.alloc (.cells #[.slice none 0 0, .int .i64 0, .bool false, .slice none 0 0, .slice none 0 0, .bool false] 31)).heap[W.heap.size]? = some (.cells #[.slice none 0 0, .int .i64 0, .bool false, .slice none 0 0, .slice none 0 0, .bool false] 31 (0, 0)) from heap_alloc_new W.drew _))
      obtain ⟨⟨z0, z1, z2, z3, z4, z5⟩, f0, f1, f2, f3, f4, f5⟩ := row6 HRX.out
      obtain ⟨V5, hV5⟩ : ∃ V5, V5 = setU w1 W.heap.size (.slice none 0 0) (.int .i64 s) (.bool nt) (.slice (some ⟨gN, 0, none⟩) N.length cN) (.slice (some ⟨gP, 0, none⟩) P.length cP) (.bool el) := ⟨_, rfl⟩
      have HBz := hid0 (show Below W.heap.size W V5 by rw [hV5]; exact setU_below HB1.out (Nat.le_refl _) _ _ _ _ _ _)
      have HUP : Hid (UP W V5 B W.heap.size s nt N P el gN cN gP cP (.slice none 0 0) []) := hid0 (by { have hk := setU_keeps (W := w1) (X := W.heap.size) (.slice none 0 0) (.int .i64 s) (.bool nt) (.slice (some ⟨gN, 0, none⟩) N.length cN) (.slice (some ⟨gP, 0, none⟩) P.length cP) (.bool el); rw [← hV5] at hk; exact UP.start HBW.out (Nat.le_refl _) (by rw [hV5]; exact setU_row HRX.out _ _ _ _ _ _) ((HQ1.out.mono (Q' := fun b => W.heap.size ≤ b ∧ b ≠ W.heap.size) (fun b _ hb => by simp at hb; omega)).keeps ⟨hk.size, fun b o' hq hl => hk.cell b o' hq.2 hl⟩) ((HQ2.out.mono (Q' := fun b => W.heap.size ≤ b ∧ b ≠ W.heap.size) (fun b _ hb => by simp at hb; omega)).keeps ⟨hk.size, fun b o' hq hl => hk.cell b o' hq.2 hl⟩) HKN.out HKP.out HBz.out })
      have HSz : Hid (V5.cell? ⟨w.heap.size, 0, none⟩ = some (.slice c R.length cc) ∧ V5.cell? ⟨w.heap.size, 1, none⟩ = some (.int .i64 s) ∧ V5.cell? ⟨w.heap.size, 2, none⟩ = some (.bool nt) ∧ V5.cell? ⟨w.heap.size, 3, none⟩ = some (.slice a N.length ca) ∧ V5.cell? ⟨w.heap.size, 4, none⟩ = some (.slice b P.length cb) ∧ V5.cell? ⟨w.heap.size, 5, none⟩ = some (.bool el)) := hid0 (HSk.out _ HBz.out)
      unfold setU at hV5
      have HV5 := hid0 hV5
      rw [HV5.out] at HSz
      clear hV5
      go_wp2_with fail
      refine hK.out _ _ ?_ (fun hHeldC => ?_)
      · exact hs1
      clear hK K
      (try simp only [Act.put]); (try simp only [List.setIfInBounds_toArray]); (try simp only [List.set_cons_succ]); (try simp only [List.set_cons_zero])
      refine tkV (i := 7) (d := some 13) (v := ?_) rfl (by kernel_rfl) (by kernel_rfl) (by kernel_rfl) rfl (fun _ _ _ h => h) (by rfl) ?_ (by assumption) ?_
      rotate_left
      · (intro w hSw; (try dsimp only at hSw); (try simp only [List.getElem_toArray, List.getElem_cons_zero, List.getElem_cons_succ]); go_simp; try with_reducible rfl)
      try simp only [Act.put, List.setIfInBounds_toArray, List.set_cons_zero, List.set_cons_succ]
      refine wpAnyH_ready (rs := [9]) (by kernel_rfl) (by simp) (AllReadyH.cons rfl (fun K hK => ?_) AllReadyH.nil)
      try simp only [List.getElem_toArray, List.getElem_cons_zero, List.getElem_cons_succ]
      go_simp
      refine hK.out _ _ ?_ (fun hHeldL => ?_)
      · exact HSz.out
      clear hK K
      (try simp only [Act.put]); (try simp only [List.setIfInBounds_toArray]); (try simp only [List.set_cons_succ]); (try simp only [List.set_cons_zero])
      refine wpAnyH_done (by kernel_rfl) ?_ _
      refine NoPanic.normal ?_
      rw [← HV5.out]
      go_wp2_with fail
      go_meet
      case rel => exact ⟨W.heap.size, gN, cN, gP, cP, rfl, HUP⟩
  case rest =>
    obtain ⟨F, gN, cN, gP, cP, rfl, HUP⟩ := hcut
    clear HSet hW
    go_wp2
    go_loopw [4, 5] (fun i _ wr => ∃ (m : Nat) (zs : List Rm) (av : Option Addr) (cv : Nat), m ≤ R.length ∧ i = .int .i64 (m : Int) ∧ Hid (zs.map (·.u) = R.take m) ∧ Hid (zs.length = m) ∧ Hid (UP W wr B F s nt N P el gN cN gP cP (.slice av m cv) zs)) (fun i _ _ => R.length - (intOf i).toNat)
    case atStart => exact ⟨0, [], none, 0, Nat.zero_le _, rfl, hid0 rfl, hid0 rfl, HUP⟩
    case round =>
      clear HUP
      obtain ⟨m, zs, av, cv, hm, rfl, HM, HZ, HUP⟩ := hrel
      obtain ⟨e0, e1, e2, e3, e4, e5⟩ := HSk.out wr HUP.out.below
      obtain ⟨⟨g0, g1, g2, g3, g4, g5⟩, q0, q1, q2, q3, q4, q5⟩ := row6 HUP.out.box
      have HFl := hid0 HUP.out.F_lt
      clear e1 e2 e3 e4 e5 g1 g2 g3 g4 g5 q1 q2 q3 q4 q5
      by_cases hlt : m < R.length
      · have hmI : (m : Int) < (R.length : Int) := by omega
        have hm0 : (0 : Int) ≤ (m : Int) := by omega
        have hru := HRu.out.past (Below.later HB.out HUP.out.below)
        obtain ⟨h0, off, rfl, ⟨p0, p1, p2, p3, p4, p5, p6, p7, p8, p9, p10, p11, p12, p13⟩⟩ := hru.at' m hlt
        obtain ⟨k1, t1, a1, m1, c1, b1, n1, d1, g1, l1, z1, ex1⟩ := (hru.l m hlt).is.flat
        obtain ⟨k2, t2, a2, m2, c2, b2, n2, d2, g2, l2, z2, ex2⟩ := (hru.r m hlt).is.flat
        have HBr : Hid (B ≤ wr.heap.size) := hid0 (Nat.le_trans HUP.out.base HUP.out.below.size)
        have HC1 : Hid (∀ V, Below wr.heap.size wr V → Calls Try.prog 13 #[.agg #[.int .i64 k1, .bool t1, .slice a1 m1 c1, .slice b1 n1 d1, .slice g1 l1 z1]] V fun r w' => LentR V B 5001 R[m].l r w') := hid0 (fun V hV => by
          have h := expr_any B R[m].l (xs m) V (Nat.le_trans HBr.out hV.size) ((hru.l m hlt).past hV)
          unfold EV.v at h
          rw [ex1] at h
          exact h)
        have HC2 : Hid (∀ V, Below wr.heap.size wr V → Calls Try.prog 13 #[.agg #[.int .i64 k2, .bool t2, .slice a2 m2 c2, .slice b2 n2 d2, .slice g2 l2 z2]] V fun r w' => LentR V B 5001 R[m].r r w') := hid0 (fun V hV => by
          have h := expr_any B R[m].r (ys m) V (Nat.le_trans HBr.out hV.size) ((hru.r m hlt).past hV)
          unfold EV.v at h
          rw [ex2] at h
          exact h)
        rw [ex1] at p1 p2 p3 p4 p5
        rw [ex2] at p6 p7 p8 p9 p10
        simp only [] at p1 p2 p3 p4 p5 p6 p7 p8 p9 p10
        have HTK : Hid (R.take (m + 1) = R.take m ++ [R[m]]) := hid0 (by rw [List.take_add_one, List.getElem?_eq_getElem hlt]; rfl)
        generalize R[m] = u at *
        obtain ⟨nm, ul, ur, bs, bt, bb⟩ := u
        simp only [] at p0 p11 p12 p13 HC1 HC2
        obtain ⟨wa, hwa⟩ : ∃ wa, wr.alloc (.cells #[.string nm, .int .i64 k1, .bool t1, .slice a1 m1 c1, .slice b1 n1 d1, .slice g1 l1 z1, .int .i64 k2, .bool t2, .slice a2 m2 c2, .slice b2 n2 d2, .slice g2 l2 z2, .bool bs, .bool bt, .bool bb] 50) = wa := ⟨_, rfl⟩
        obtain ⟨ba, hRa, hsa⟩ := laid hwa
        obtain ⟨⟨x0, x1, x2, x3, x4, x5, x6, x7, x8, x9, x10, x11, x12, x13⟩, _⟩ := row14 hRa
        have HBa := hid0 ba
        have HRa := hid0 hRa
        have HSa := hid0 hsa
        have M1 : Hid True := trivial
        clear ex1 ex2 hru ba hRa hsa
        go_wp2_with (first
          | (go_at_call 13
             clear M1
             refine (HC1.out _ HBa.out).mono ?_
             rintro r w1 ⟨y, rfl, hy, hb1⟩
             obtain ⟨k3, t3, a3, m3, c3, b3, n3, d3, g3, l3, z3, rfl⟩ := hy.is.flat
             unfold EV.v
             simp only []
             have hr1 := kept hb1 HRa.out
             obtain ⟨_, fz1⟩ := row14 hr1
             have f1 := fz1 1
             have f2 := fz1 2
             have f3 := fz1 3
             have f4 := fz1 4
             have f5 := fz1 5
             obtain ⟨⟨i0', i1, i2, i3, i4, i5, i6, i7, i8, i9, i10, i11, i12, i13⟩, _⟩ := row14 hr1
             obtain ⟨V1, hV1⟩ : ∃ V1, V1 = set5 w1 wr.heap.size 1 (.int .i64 k3) (.bool t3) (.slice a3 m3 c3) (.slice b3 n3 d3) (.slice g3 l3 z3) := ⟨_, rfl⟩
             have hrV1 : V1.heap[wr.heap.size]? = some (.cells #[.string nm, .int .i64 k3, .bool t3, .slice a3 m3 c3, .slice b3 n3 d3, .slice g3 l3 z3, .int .i64 k2, .bool t2, .slice a2 m2 c2, .slice b2 n2 d2, .slice g2 l2 z2, .bool bs, .bool bt, .bool bb] 50 (0, 0)) := by rw [hV1]; exact set5_row1 hr1 _ _ _ _ _
             obtain ⟨⟨j0, j1, j2, j3, j4, j5, j6, j7, j8, j9, j10, j11, j12, j13⟩, _⟩ := row14 hrV1
             have HRV1 := hid0 hrV1
             have HBV1 : Hid (Below wr.heap.size wr V1) := hid0 (by rw [hV1]; exact set5_below (Below.later HBa.out hb1) (Nat.le_refl _) _ _ _ _ _ _)
             have HY1 : Hid (ExL V1 (fun g => (g < B ∨ wr.heap.size ≤ g) ∧ g ≠ wr.heap.size) 5001 ul ⟨.int .i64 k3, .bool t3, .slice a3 m3 c3, .slice b3 n3 d3, .slice g3 l3 z3⟩) := hid0 (by
               have hk := set5_keeps (W := w1) (X := wr.heap.size) 1 (.int .i64 k3) (.bool t3) (.slice a3 m3 c3) (.slice b3 n3 d3) (.slice g3 l3 z3)
               rw [← hV1] at hk
               exact (hy.mono (fun g _ hg => ⟨hg.imp id (fun q => by have := HSa.out; omega), by have := HSa.out; have := HBr.out; omega⟩)).keeps ⟨hk.size, fun g o' hq hl => hk.cell g o' hq.2 hl⟩)
             have HO1 := hid0 hy.is.one
             unfold set5 at hV1
             have hf1 := hV1.symm
             have M2 : Hid True := trivial
             clear hy hb1 hr1 hV1 hrV1 fz1 hwa x0 x1 x2 x3 x4 x5 x6 x7 x8 x9 x10 x11 x12 x13)
          | (go_at_call 13
             clear M2
             refine (HC2.out _ HBV1.out).mono ?_
             rintro r w2 ⟨y, rfl, hy, hb2⟩
             obtain ⟨k4, t4, a4, m4, c4, b4, n4, d4, g4, l4, z4, rfl⟩ := hy.is.flat
             unfold EV.v
             simp only []
             have hr2 := kept hb2 HRV1.out
             obtain ⟨_, fz2⟩ := row14 hr2
             have f6 := fz2 6
             have f7 := fz2 7
             have f8 := fz2 8
             have f9 := fz2 9
             have f10 := fz2 10
             obtain ⟨⟨n0', n1', n2', n3', n4', n5', n6', n7', n8', n9', n10', n11', n12', n13'⟩, _⟩ := row14 hr2
             obtain ⟨V2, hV2⟩ : ∃ V2, V2 = set5 w2 wr.heap.size 6 (.int .i64 k4) (.bool t4) (.slice a4 m4 c4) (.slice b4 n4 d4) (.slice g4 l4 z4) := ⟨_, rfl⟩
             have hrV2 : V2.heap[wr.heap.size]? = some (.cells #[.string nm, .int .i64 k3, .bool t3, .slice a3 m3 c3, .slice b3 n3 d3, .slice g3 l3 z3, .int .i64 k4, .bool t4, .slice a4 m4 c4, .slice b4 n4 d4, .slice g4 l4 z4, .bool bs, .bool bt, .bool bb] 50 (0, 0)) := by rw [hV2]; exact set5_row6 hr2 _ _ _ _ _
             obtain ⟨⟨o0, o1, o2, o3, o4, o5, o6, o7, o8, o9, o10, o11, o12, o13⟩, _⟩ := row14 hrV2
             have HBV2 : Hid (Below wr.heap.size wr V2) := hid0 (by rw [hV2]; exact set5_below (Below.later HBV1.out hb2) (Nat.le_refl _) _ _ _ _ _ _)
             have hk := set5_keeps (W := w2) (X := wr.heap.size) 6 (.int .i64 k4) (.bool t4) (.slice a4 m4 c4) (.slice b4 n4 d4) (.slice g4 l4 z4)
             rw [← hV2] at hk
             have HY2 : Hid (ExL V2 (fun g => g < B ∨ wr.heap.size ≤ g) 5001 ur ⟨.int .i64 k4, .bool t4, .slice a4 m4 c4, .slice b4 n4 d4, .slice g4 l4 z4⟩) := hid0 (by
               have hlt1 := lt_of_rowC HRV1.out
               exact ((hy.mono (Q' := fun g => (g < B ∨ wr.heap.size ≤ g) ∧ g ≠ wr.heap.size) (fun g _ hg => ⟨hg.imp id (fun q => by omega), by have := HBr.out; omega⟩)).keeps ⟨hk.size, fun g o' hq hl => hk.cell g o' hq.2 hl⟩).mono (fun _ _ hq => hq.1))
             have HY1b : Hid (ExL V2 (fun g => g < B ∨ wr.heap.size ≤ g) 5001 ul ⟨.int .i64 k3, .bool t3, .slice a3 m3 c3, .slice b3 n3 d3, .slice g3 l3 z3⟩) := hid0 (((HY1.out.past hb2).keeps ⟨hk.size, fun g o' hq hl => hk.cell g o' hq.2 hl⟩).mono (fun _ _ hq => hq.1))
             have HO2 := hid0 hy.is.one
             obtain ⟨⟨s0, _⟩, t0, _⟩ := row6 (kept HBV2.out HUP.out.box)
             have HSz2 : Hid (wr.heap.size ≤ V2.heap.size) := hid0 HBV2.out.size
             have HOk : Hid (V2.ownsRow W.heap.size 50 14 (.slice av m cv) m (zs.flatMap rmC)) := hid0 (by have ho := (HUP.out.pl.past HBV2.out).own; rw [HZ.out] at ho; exact ho)
             have HWsz : Hid (W.heap.size ≤ V2.heap.size) := hid0 (Nat.le_trans HUP.out.below.size HBV2.out.size)
             unfold set5 at hV2
             have hf2 := hV2.symm
             clear hy hb2 hr2 hV2 hrV2 hk fz2 hf1 i0' i1 i2 i3 i4 i5 i6 i7 i8 i9 i10 i11 i12 i13 j0 j1 j2 j3 j4 j5 j6 j7 j8 j9 j10 j11 j12 j13 f1 f2 f3 f4 f5)
          | (at_builtin; go_loud ((
               refine wpList_append_own_at _ (by rfl) _ _ 26 (by rfl) W.heap.size 50 i0 (.agg #[.string ⟨#[]⟩, .int .i64 0, .bool false, .slice none 0 0, .slice none 0 0, .slice none 0 0, .int .i64 0, .bool false, .slice none 0 0, .slice none 0 0, .slice none 0 0, .bool false, .bool false, .bool false]) 14 200 Try.underlying26 hi hz0 hz1 hz2 rfl (by decide) (.slice av m cv) m (zs.flatMap rmC) (by rfl) (World.ownsRow.alloc HOk.out _) ⟨V2.heap.size, 0, none⟩ 1 1 (ruC ⟨nm, ul, ur, bs, bt, bb⟩ ⟨.int .i64 k3, .bool t3, .slice a3 m3 c3, .slice b3 n3 d3, .slice g3 l3 z3⟩ ⟨.int .i64 k4, .bool t4, .slice a4 m4 c4, .slice b4 n4 d4, .slice g4 l4 z4⟩) (by rfl) (by rfl) (cells14_new V2 ⟨nm, ul, ur, bs, bt, bb⟩ ⟨.int .i64 k3, .bool t3, .slice a3 m3 c3, .slice b3 n3 d3, .slice g3 l3 z3⟩ ⟨.int .i64 k4, .bool t4, .slice a4 m4 c4, .slice b4 n4 d4, .slice g4 l4 z4⟩ _) (ruC_one HO1.out HO2.out) (by unfold maxLen; omega) (by omega) (by have := HWsz.out; simp; omega) ?_
               intro v4 w4 hown4 hgrow4 _ hat4
               obtain ⟨g, cq, rfl⟩ := Go.Joins.ownsRow_form hown4 (by omega)
               have hst := UP.step (z := ⟨⟨nm, ul, ur, bs, bt, bb⟩, ⟨.int .i64 k3, .bool t3, .slice a3 m3 c3, .slice b3 n3 d3, .slice g3 l3 z3⟩, ⟨.int .i64 k4, .bool t4, .slice a4 m4 c4, .slice b4 n4 d4, .slice g4 l4 z4⟩⟩) HUP.out HBV2.out HY1b.out HY2.out hgrow4 hat4 (by rw [HZ.out]; exact hown4)
               have hx4 : w4.heap[F]? = V2.heap[F]? := (hgrow4.block F (by have := HFl.out; have := HSz2.out; simp; omega) (fun e => HUP.out.off e.symm)).trans (Below.heap_alloc V2 _ F (by have := HFl.out; have := HSz2.out; omega))
               obtain ⟨⟨i40, _⟩, j40, _⟩ := row6 (hx4.trans (kept HBV2.out HUP.out.box))
               have HST := hid0 hst
               clear hown4 hgrow4 hat4 hst hx4)))
          | fail)
        have HM2 : Hid ((zs ++ [(⟨⟨nm, ul, ur, bs, bt, bb⟩, ⟨.int .i64 k3, .bool t3, .slice a3 m3 c3, .slice b3 n3 d3, .slice g3 l3 z3⟩, ⟨.int .i64 k4, .bool t4, .slice a4 m4 c4, .slice b4 n4 d4, .slice g4 l4 z4⟩⟩ : Rm)]).map (·.u) = R.take (m + 1)) := hid0 (by rw [List.map_append, HM.out, HTK.out]; rfl)
        have HZ2 : Hid ((zs ++ [(⟨⟨nm, ul, ur, bs, bt, bb⟩, ⟨.int .i64 k3, .bool t3, .slice a3 m3 c3, .slice b3 n3 d3, .slice g3 l3 z3⟩, ⟨.int .i64 k4, .bool t4, .slice a4 m4 c4, .slice b4 n4 d4, .slice g4 l4 z4⟩⟩ : Rm)]).length = m + 1) := hid0 (by rw [List.length_append, HZ.out]; rfl)
        go_roundw
        case rel => exact ⟨m + 1, _, _, _, by omega, by go_num, HM2, HZ2, HST⟩
        case measure => simp [intOf]; omega
      · have hmI : ¬ (m : Int) < (R.length : Int) := by omega
        have hml : m = R.length := by omega
        subst hml
        have HME : Hid (zs.map (·.u) = R) := hid0 (by rw [HM.out, List.take_of_length_le (Nat.le_refl _)])
        have HOk : Hid (wr.ownsRow W.heap.size 50 14 (.slice av R.length cv) R.length (zs.flatMap rmC)) := hid0 (by have ho := HUP.out.pl.own; rw [HZ.out] at ho; exact ho)
        have HWsz : Hid (W.heap.size ≤ wr.heap.size) := hid0 HUP.out.below.size
        have HX1 : Hid (B ≤ w.heap.size + 1) := hid0 (by have := HBw.out; omega)
        go_wp2_with (first
          | (at_builtin; go_loud ((
               refine wpList_append_own_at _ (by rfl) _ _ 26 (by rfl) W.heap.size 50 i0 (.agg #[.string ⟨#[]⟩, .int .i64 0, .bool false, .slice none 0 0, .slice none 0 0, .slice none 0 0, .int .i64 0, .bool false, .slice none 0 0, .slice none 0 0, .slice none 0 0, .bool false, .bool false, .bool false]) 14 200 Try.underlying26 hi hz0 hz1 hz2 rfl (by decide) (.slice av R.length cv) R.length (zs.flatMap rmC) (by rfl) (World.ownsRow.alloc HOk.out _) ⟨wr.heap.size, 0, none⟩ 1 1 (ruC ⟨⟨#[109, 97, 114, 107]⟩, .mk 0 false [] [] [], .mk 0 false [] [] [], false, false, false⟩ ⟨.int .i64 0, .bool false, .slice none 0 0, .slice none 0 0, .slice none 0 0⟩ ⟨.int .i64 0, .bool false, .slice none 0 0, .slice none 0 0, .slice none 0 0⟩) (by rfl) (by rfl) (cells14_new wr ⟨⟨#[109, 97, 114, 107]⟩, .mk 0 false [] [] [], .mk 0 false [] [] [], false, false, false⟩ ⟨.int .i64 0, .bool false, .slice none 0 0, .slice none 0 0, .slice none 0 0⟩ ⟨.int .i64 0, .bool false, .slice none 0 0, .slice none 0 0, .slice none 0 0⟩ _) (fun u hu => by simp only [ruC, List.mem_cons, List.not_mem_nil, or_false] at hu; rcases hu with rfl | rfl | rfl | rfl | rfl | rfl | rfl | rfl | rfl | rfl | rfl | rfl | rfl | rfl <;> rfl) (by unfold maxLen; omega) (by omega) (by have := HWsz.out; simp; omega) ?_
               intro v4 w4 hown4 hgrow4 _ hat4
               obtain ⟨g, cq, rfl⟩ := Go.Joins.ownsRow_form hown4 (by omega)
               obtain ⟨V5, V6, V7, hV5, hV6, hV7, hcap, hb4, hb5, hb6, hx4, hx5, hx6, hx7, hR⟩ := UP.done (z := ⟨⟨⟨#[109, 97, 114, 107]⟩, .mk 0 false [] [] [], .mk 0 false [] [] [], false, false, false⟩, ⟨.int .i64 0, .bool false, .slice none 0 0, .slice none 0 0, .slice none 0 0⟩, ⟨.int .i64 0, .bool false, .slice none 0 0, .slice none 0 0, .slice none 0 0⟩⟩) HUP.out HME.out hgrow4 hat4 hown4 rfl HB.out (Nat.le_succ _) HR1.out HX1.out
               obtain ⟨⟨i4, _⟩, j4, _⟩ := row6 hx4
               obtain ⟨⟨i5, _⟩, j5, _⟩ := row6 hx5
               obtain ⟨⟨c60, c61, c62, c63, c64, c65⟩, _⟩ := row6 hx6
               obtain ⟨b4, _⟩ := HSk.out w4 hb4
               obtain ⟨b5, _⟩ := HSk.out V5 hb5
               obtain ⟨⟨r60, r61, r62, r63, r64, r65⟩, s60, s61, s62, s63, s64, s65⟩ := row6 ((hb6.block _ (by have := HS.out; omega)).trans HR1.out)
               have HR := hid0 hR
               have HX7 := hid0 hx7
               have hf5 := hV5.symm
               have hf6 := hV6.symm
               unfold setU at hV7
               have HV7 := hid0 hV7
               have hcI : (R.length : Int) ≤ (cq : Int) := by omega
               clear hown4 hgrow4 hat4 hV5 hV6 hV7 hb4 hb5 hb6 hx4 hx5 hx6 hx7 hR)))
          | fail)
        rw [← HV7.out]
        obtain ⟨⟨k0, k1, k2, k3, k4, k5⟩, _⟩ := row6 HX7.out
        exact bodyPost_ret (v := .agg #[.slice (some ⟨g, 0, none⟩) R.length cq, .int .i64 s, .bool nt, .slice (some ⟨gN, 0, none⟩) N.length cN, .slice (some ⟨gP, 0, none⟩) P.length cP, .bool el]) (by simp [results, Try.results5, go_sem, k0, k1, k2, k3, k4, k5]) rfl HR.out
end Go.Proofs.Ythcpalpcakjfnaa
