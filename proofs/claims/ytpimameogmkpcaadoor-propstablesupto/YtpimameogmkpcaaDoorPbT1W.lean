/-
  The walk of caesuralaw5's lent.
-/
import Derived.Test.YtpimameogmkpcaaDoorPbR5W
namespace Go.Proofs.YtpimameogmkpcaaDoor
open Go.RowKit Go.Shelf
def markB : ByteArray := ⟨#[109, 97, 114, 107]⟩
theorem cellT2_new (w : World) (a b : Value) (t : TypeId) : ∀ j u, [a, b][j]? = some u → (w.alloc (.cells #[a, b] t)).cell? ((⟨w.heap.size, 0, none⟩ : Addr).add j) = some u := by
  intro j u hu
  rw [Addr.add_mid, cell_of_row _ _ _ _ _ _ (heap_alloc_new w _)]
  have hj := (List.getElem?_eq_some_iff.1 hu).1
  simp only [List.length_cons, List.length_nil] at hj
  have h2 : j = 0 ∨ j = 1 := by omega
  rcases h2 with rfl | rfl <;> simpa using hu
theorem cellT6_new (w : World) (a b c d e f : Value) (t : TypeId) : ∀ j u, [a, b, c, d, e, f][j]? = some u → (w.alloc (.cells #[a, b, c, d, e, f] t)).cell? ((⟨w.heap.size, 0, none⟩ : Addr).add j) = some u := by
  intro j u hu
  rw [Addr.add_mid, cell_of_row _ _ _ _ _ _ (heap_alloc_new w _)]
  have hj := (List.getElem?_eq_some_iff.1 hu).1
  simp only [List.length_cons, List.length_nil] at hj
  have h2 : j = 0 ∨ j = 1 ∨ j = 2 ∨ j = 3 ∨ j = 4 ∨ j = 5 := by omega
  rcases h2 with rfl | rfl | rfl | rfl | rfl | rfl <;> simpa using hu
theorem own_form {w : World} {base : Nat} {e : TypeId} {size : Nat} {v : Value} {n : Nat} {xs : List Value} (h : w.ownsRow base e size v n xs) (hn : 0 < n) : ∃ g cap, v = .slice (some ⟨g, 0, none⟩) n cap ∧ base ≤ g ∧ g < w.heap.size ∧ n ≤ cap := by
  have h0 := h
  rcases h.2 with ⟨_, h1⟩ | ⟨g, cap, cur, rfl, hb, hr, hc, _⟩
  · omega
  · exact ⟨g, cap, rfl, hb, (World.ownsRow.lt h0 g rfl).2, hc⟩
/-- What lent leaves. -/
def Lent (L : List ByteArray) (ss : List Sp) (w : World) (e : Ending) (w' : World) : Prop :=
  ∃ g cap h cap', e = .returned (.tuple #[.agg #[.slice (some ⟨g, 0, none⟩) L.length cap, .slice (some ⟨h, 0, none⟩) ss.length cap'], .slice (some ⟨g, 0, none⟩) (L.length + 2) cap, .slice (some ⟨h, 0, none⟩) (ss.length + 2) cap']) ∧
    OwnS w' w.heap.size (.slice (some ⟨g, 0, none⟩) (L.length + 2) cap) (L ++ [markB, markB]) ∧ OwnP w' w.heap.size (.slice (some ⟨h, 0, none⟩) (ss.length + 2) cap') (ss ++ [(0, 0, 77), (0, 0, 77)]) ∧ ¬ g = h ∧ Below w.heap.size w w'
set_option maxRecDepth 10000 in
set_option maxHeartbeats 1600000 in
theorem lent_any (L : List ByteArray) (l : List Sp) (aN a : Option Addr) (cN cS : Nat) (w : World) (hcN : L.length ≤ 100000000) (hcS : l.length ≤ 100000000)
    (hnN : aN = none → cN = 0) (hnS : a = none → cS = 0) (ha : SA w aN L) (hb : PA w a l) :
    Calls Tryd.prog 17 #[.agg #[.slice aN L.length cN, .slice a l.length cS]] w fun e w' => Lent L l w e w' := by
  obtain ⟨i0, hi, hz0, hz1, hz2⟩ := info_parts infoStr
  obtain ⟨j0, hj, hy0, hy1, hy2⟩ := info_parts infoSpan
  obtain ⟨w0, hw0⟩ : ∃ w0, w0 = (w.alloc (.cells #[.slice aN L.length cN, .slice a l.length cS] 25)).alloc (.cells #[.slice none 0 0, .slice none 0 0] 25) := ⟨_, rfl⟩
  have hs0 : w0.heap.size = w.heap.size + 2 := by rw [hw0]; simp
  have hB0 : Below w.heap.size w w0 := by rw [hw0]; exact ((Below.refl _ _).alloc (Nat.le_refl _) _).alloc (by simp) _
  have hX0 : w0.heap[w.heap.size]? = some (.cells #[.slice aN L.length cN, .slice a l.length cS] 25 (0, 0)) := by
    rw [hw0]
    exact (Below.heap_alloc _ _ _ (by simp)).trans (heap_alloc_new w _)
  have hX1 : w0.heap[w.heap.size + 1]? = some (.cells #[.slice none 0 0, .slice none 0 0] 25 (0, 0)) := by
    rw [hw0]
    have h := heap_alloc_new (w.alloc (.cells #[.slice aN L.length cN, .slice a l.length cS] 25)) (.cells #[.slice none 0 0, .slice none 0 0] 25)
    rw [show (w.alloc (.cells #[.slice aN L.length cN, .slice a l.length cS] 25)).heap.size = w.heap.size + 1 by simp] at h
    exact h
  have HX : Hid (∀ W, Below w0.heap.size w0 W → W.cell? ⟨w.heap.size, 0, none⟩ = some (.slice aN L.length cN) ∧ W.cell? ⟨w.heap.size, 1, none⟩ = some (.slice a l.length cS) ∧ W.cell? ⟨w.heap.size + 1, 0, none⟩ = some (.slice none 0 0) ∧ W.cell? ⟨w.heap.size + 1, 1, none⟩ = some (.slice none 0 0) ∧ W.frozen? ⟨w.heap.size + 1, 0, none⟩ = false ∧ W.frozen? ⟨w.heap.size + 1, 1, none⟩ = false) := hid0 (fun W hW => by
    have hr := (hW.block w.heap.size (by omega)).trans hX0
    have hq := (hW.block (w.heap.size + 1) (by omega)).trans hX1
    exact ⟨by rw [cell_of_row _ _ _ _ _ _ hr]; rfl, by rw [cell_of_row _ _ _ _ _ _ hr]; rfl, by rw [cell_of_row _ _ _ _ _ _ hq]; rfl, by rw [cell_of_row _ _ _ _ _ _ hq]; rfl, by simp [World.frozen?, hq], by simp [World.frozen?, hq]⟩)
  have HX1 := hid0 hX1
  have HSA := hid0 (ha.below hB0)
  have HPA := hid0 (hb.below hB0)
  have HB0 := hid0 hB0
  have HS0 := hid0 hs0
  have HNN := hid0 hnN
  have HNS := hid0 hnS
  obtain ⟨x0, x1, x2, x3, x4, x5⟩ := HX.out w0 (Below.refl _ _)
  have hfold := hw0.symm
  clear ha hb hB0 hw0 hX0 hX1 hs0 hnN hnS
  have M0 : Hid True := trivial
  go_enter Tryd.func17, Tryd.ntmps17
  go_wp2_with (first
    | (at_builtin; clear M0; refine wpList_spread (by rfl) _ _ (by rfl) aN L cN w0.heap.size (by rfl) (by rfl) HNN.out HSA.out (by omega) (Nat.le_refl _) ?_; intro vC w1 hoC hgC
       have hb1 : Below w0.heap.size w0 w1 := ((Below.refl _ _).grown hgC (Nat.le_refl _) (fun k hk => by cases hk))
       obtain ⟨aV, cV, rfl, hjunk⟩ := hoC.sa
       clear hjunk
       have HO1 := hid0 hoC
       have HB1 := hid0 hb1
       have HA1 : Hid (Below w0.heap.size w0 (w1.alloc (.cells #[.string ⟨#[109, 97, 114, 107]⟩, .string ⟨#[109, 97, 114, 107]⟩] 9))) := hid0 (hb1.alloc hb1.size _)
       have HO1a : Hid (OwnS (w1.alloc (.cells #[.string ⟨#[109, 97, 114, 107]⟩, .string ⟨#[109, 97, 114, 107]⟩] 9)) w0.heap.size (.slice aV L.length cV) L) := hid0 (World.ownsRow.alloc hoC _)
       have M1 : Hid True := trivial
       clear hoC hgC hb1)
    | (at_builtin; clear M1; refine wpList_append_own _ (by rfl) _ _ 22 (by rfl) w0.heap.size 9 i0 (.string ⟨#[]⟩) 1 16 Tryd.underlying22 hi hz0 hz1 hz2 rfl (by decide) (.slice aV L.length cV) L.length (cellsS L) (by rfl) HO1a.out ⟨w1.heap.size, 0, none⟩ 2 2 [.string ⟨#[109, 97, 114, 107]⟩, .string ⟨#[109, 97, 114, 107]⟩] (by rfl) (by rfl) (cellT2_new _ _ _ _) (fun u hu => by simp only [List.mem_cons, List.not_mem_nil, or_false, or_self] at hu; subst hu; rfl) (by unfold maxLen; omega) (by omega) HA1.out.size ?_; intro v2 w2 ho2 hg2 hat2
       have hb2 : Below w0.heap.size w0 w2 := HA1.out.grown hg2 HA1.out.size (fun k hk => (World.ownsRow.lt HO1.out k hk).1)
       obtain ⟨g, cap, rfl, hju1, hju2, hju3⟩ := own_form ho2 (Nat.succ_pos _)
       have HC2 : Hid ((L.length : Int) ≤ (cap : Int)) := hid0 (by omega)
       obtain ⟨z0, z1, z2, z3, z4, z5⟩ := HX.out w2 hb2
       have HO2 := hid0 ho2
       have HB2 := hid0 hb2
       have HPA2 : Hid (PA w2 a l) := hid0 (HPA.out.below hb2)
       have M2 : Hid True := trivial
       clear hju1 hju2 hju3 ho2 hg2 hat2 hb2 HO1 HO1a HA1)
    | (at_builtin; clear M2; refine wpList_spreadP (by rfl) _ _ (by rfl) a l cS w2.heap.size (by rfl) (by rfl) HNS.out HPA2.out (by omega) (Nat.le_refl _) ?_; intro v3 w3 ho3 hg3
       have hb3 : Below w2.heap.size w2 w3 := ((Below.refl _ _).grown hg3 (Nat.le_refl _) (fun k hk => by cases hk))
       obtain ⟨aW, cW, rfl, hjunk⟩ := ho3.pa
       clear hjunk
       have HO3 := hid0 ho3
       have HB3 := hid0 hb3
       have HA3 : Hid (Below w2.heap.size w2 (w3.alloc (.cells #[.int .i64 0, .int .i64 0, .int .i64 77, .int .i64 0, .int .i64 0, .int .i64 77] 38))) := hid0 (hb3.alloc hb3.size _)
       have HO3a : Hid (OwnP (w3.alloc (.cells #[.int .i64 0, .int .i64 0, .int .i64 77, .int .i64 0, .int .i64 0, .int .i64 77] 38)) w2.heap.size (.slice aW l.length cW) l) := hid0 (World.ownsRow.alloc ho3 _)
       have M3 : Hid True := trivial
       clear ho3 hg3 hb3)
    | (at_builtin; clear M3; refine wpList_append_own _ (by rfl) _ _ 23 (by rfl) w2.heap.size 38 j0 (.agg #[.int .i64 0, .int .i64 0, .int .i64 0]) 3 24 Tryd.underlying23 hj hy0 hy1 hy2 rfl (by decide) (.slice aW l.length cW) l.length (cellsP l) (by rfl) HO3a.out ⟨w3.heap.size, 0, none⟩ 2 2 [.int .i64 0, .int .i64 0, .int .i64 77, .int .i64 0, .int .i64 0, .int .i64 77] (by rfl) (by rfl) (cellT6_new _ _ _ _ _ _ _ _) (fun u hu => by simp only [List.mem_cons, List.not_mem_nil, or_false] at hu; rcases hu with rfl | rfl | rfl | rfl | rfl | rfl <;> rfl) (by unfold maxLen; omega) (by omega) HA3.out.size ?_; intro v4 w4 ho4 hg4 hat4
       have hb4 : Below w2.heap.size w2 w4 := HA3.out.grown hg4 HA3.out.size (fun k hk => (World.ownsRow.lt HO3.out k hk).1)
       obtain ⟨h, cap', rfl, hju1, hju2, hju3⟩ := own_form ho4 (Nat.succ_pos _)
       have HC4 : Hid ((l.length : Int) ≤ (cap' : Int)) := hid0 (by omega)
       have HO4 := hid0 ho4
       have HB4 := hid0 hb4
       have M4 : Hid True := trivial
       clear hju1 hju2 hju3 ho4 hg4 hat4 hb4 HO3 HO3a HA3))
  have hlt2 : w.heap.size + 1 < w4.heap.size := by
    have h1 := HS0.out
    have h2 := HB2.out.size
    have h3 := HB4.out.size
    omega
  have HB04 : Hid (Below w0.heap.size w0 w4) := hid0 (⟨HB4.out.os.trans HB2.out.os, HB4.out.tape.trans HB2.out.tape, HB4.out.output.trans HB2.out.output, Nat.le_trans HB2.out.size HB4.out.size, fun k hk => (HB4.out.block k (Nat.lt_of_lt_of_le hk HB2.out.size)).trans (HB2.out.block k hk)⟩)
  obtain ⟨t0, t1, t2, t3, t4, t5⟩ := HX.out w4 HB04.out
  have q0 : (0 : Int) ≤ (L.length : Int) := by omega
  have q1 : (L.length : Int) ≤ (cap : Int) := HC2.out
  have q2 : (0 : Int) ≤ (l.length : Int) := by omega
  have q3 : (l.length : Int) ≤ (cap' : Int) := HC4.out
  clear x0 x1 x2 x3 x4 x5 z0 z1 z2 z3 z4 z5 hfold
  go_region
  obtain ⟨w5, hw5⟩ : ∃ w5, w5 = ((w4.setCell ⟨w.heap.size + 1, 0, none⟩ (.slice (some ⟨g, 0, none⟩) L.length cap)).setCell ⟨w.heap.size + 1, 1, none⟩ (.slice (some ⟨h, 0, none⟩) l.length cap')).drew := ⟨_, rfl⟩
  have r4 := (HB04.out.block (w.heap.size + 1) (by have := HS0.out; omega)).trans HX1.out
  have r5 : w5.heap[w.heap.size + 1]? = some (.cells #[.slice (some ⟨g, 0, none⟩) L.length cap, .slice (some ⟨h, 0, none⟩) l.length cap'] 25 (0, 0)) := by
    have e1 := heap_setCell_same w4 _ 0 _ _ (.slice (some ⟨g, 0, none⟩) L.length cap) r4
    have e2 := heap_setCell_same _ _ 1 _ _ (.slice (some ⟨h, 0, none⟩) l.length cap') e1
    rw [hw5]
    exact e2
  have c0 : w5.cell? ⟨w.heap.size + 1, 0, none⟩ = some (.slice (some ⟨g, 0, none⟩) L.length cap) := by rw [cell_of_row _ _ _ _ _ _ r5]; rfl
  have c1 : w5.cell? ⟨w.heap.size + 1, 1, none⟩ = some (.slice (some ⟨h, 0, none⟩) l.length cap') := by rw [cell_of_row _ _ _ _ _ _ r5]; rfl
  have a24 : Agree w2 w5 w0.heap.size := by
    rw [hw5]
    have h1 := (((Agree.refl w2 w0.heap.size).below HB4.out).only (Only.setCell w4 (w.heap.size + 1) 0 (.slice (some ⟨g, 0, none⟩) L.length cap)) (fun k hk => .inl (by have := HS0.out; omega))).only (Only.setCell _ (w.heap.size + 1) 1 (.slice (some ⟨h, 0, none⟩) l.length cap')) (fun k hk => .inl (by have := HS0.out; omega))
    exact ⟨h1.size, h1.block⟩
  have a45 : Agree w4 w5 w2.heap.size := by
    rw [hw5]
    have h1 := ((Agree.refl w4 w2.heap.size).only (Only.setCell w4 (w.heap.size + 1) 0 (.slice (some ⟨g, 0, none⟩) L.length cap)) (fun k hk => .inl (by have h2 := HS0.out; have h3 := HB2.out.size; omega))).only (Only.setCell _ (w.heap.size + 1) 1 (.slice (some ⟨h, 0, none⟩) l.length cap')) (fun k hk => .inl (by have h2 := HS0.out; have h3 := HB2.out.size; omega))
    exact ⟨h1.size, h1.block⟩
  have hbe : Below w.heap.size w w5 := by
    rw [hw5]
    exact (((Below.later HB0.out HB04.out).setCell (Nat.le_succ _) _).setCell (Nat.le_succ _) _).drew
  have HV : Hid (Lent L l w (.returned (.tuple #[.agg #[.slice (some ⟨g, 0, none⟩) L.length cap, .slice (some ⟨h, 0, none⟩) l.length cap'], .slice (some ⟨g, 0, none⟩) (L.length + 2) cap, .slice (some ⟨h, 0, none⟩) (l.length + 2) cap'])) w5) := hid0 (by
    have o2 := owns_lower (own_agree HO2.out a24) (by have := HS0.out; omega : w.heap.size ≤ w0.heap.size)
    have o4 := owns_lower (own_agree HO4.out a45) (by have h2 := HS0.out; have h3 := HB2.out.size; omega : w.heap.size ≤ w2.heap.size)
    refine ⟨g, cap, h, cap', rfl, ?_, ?_, ?_, hbe⟩
    · unfold OwnS
      rw [show (L ++ [markB, markB]).length = L.length + 2 by simp, show cellsS (L ++ [markB, markB]) = cellsS L ++ [.string ⟨#[109, 97, 114, 107]⟩, .string ⟨#[109, 97, 114, 107]⟩] by simp [cellsS, markB]]
      exact o2
    · unfold OwnP
      rw [show (l ++ [((0 : Int), (0 : Int), (77 : Int)), (0, 0, 77)]).length = l.length + 2 by simp, show cellsP (l ++ [((0 : Int), (0 : Int), (77 : Int)), (0, 0, 77)]) = cellsP l ++ [.int .i64 0, .int .i64 0, .int .i64 77, .int .i64 0, .int .i64 0, .int .i64 77] by rw [cellsP_append]; rfl]
      exact o4
    · intro e
      have h1 := (World.ownsRow.lt HO2.out g rfl).2
      have h2 := (World.ownsRow.lt HO4.out h rfl).1
      omega)
  rw [← hw5]
  clear hw5 r4 r5 a24 a45 hbe t0 t1 t2 t3 t4 t5
  go_wp2
  refine bodyPost_ret (w := w5) ?_ rfl HV.out
  simp [results, Tryd.results17, go_sem, c0, c1]
end Go.Proofs.YtpimameogmkpcaaDoor
