/-
  The walk of (*propfile.reading).add.
-/
import Derived.Test.YthdmhelgmejicaaGreatDoorPfAdW
import Derived.Test.YthdmhelgmejicaaGreatDoorPfSmW
import Derived.Deep.RegionLaw
import Derived.Deep.AppendLies
import Derived.Deep.RegionHeldLaw
namespace Go.Proofs.YthdmhelgmejicaaGreatDoor
open Go.RowKit Go.Shelf
theorem use_key {G T : Prop} (main : Hid T → G) (cont : T) : G := main cont
theorem row_not {w : World} {base b : Nat} {t t' : TypeId} {s n : Nat} {v : Value} {xs : List Value} {c : Array Value} {z : Nat × Nat} (h : w.ownsRow base t s v n xs) (hb : w.heap[b]? = some (.cells c t' z)) (ht : ¬ t = t') : ¬ some b = v.ownBlock := by
  rcases h.2 with ⟨rfl, _⟩ | ⟨g, cap, cur, rfl, _, hh, _⟩
  · simp [Value.ownBlock]
  · intro e
    simp only [Value.ownBlock, Option.some.injEq] at e
    subst e
    rw [hh] at hb
    simp only [Option.some.injEq, Obj.cells.injEq] at hb
    exact ht hb.2.1
set_option maxRecDepth 10000 in
set_option maxHeartbeats 8000000 in
theorem add_new (names : List ByteArray) (F : Nat → List (Int × Int)) (f : Nat → Bool) (n lo hi : Nat) (nm : ByteArray) (base R G N cap : Nat) (vN vP : Value) (vs : List Value) (A : Nat → Addr) (w : World)
    (h : RS w base R G N cap n names F f vN vP vs) (hE2 : w.cell? ⟨0, 0, none⟩ = some (errAt A 2)) (hE4 : w.cell? ⟨4, 0, none⟩ = some (errAt A 4)) (hg2 : 0 < base) (_hg4 : 4 < base)
    (hn : n ≤ 65536) (hnl : names.length ≤ 62) (hbs : base ≤ w.heap.size) (hNm : nm.size ≤ 4194400) (_hlo : lo ≤ hi) (hh : hi < 64 * N) (hN : N ≤ 1000000)
    (hm : ¬ 65536 < n + 1) (hnl2 : names.length < 62) (hm2 : Lib.idxOfS names nm < 0) (hq : ∀ q, lo ≤ q → q ≤ hi → f q = false) (hvl : vs.length = names.length) (hFn : F names.length = []) :
    Calls Tryz.prog 48 #[.pointer (some ⟨R, 0, none⟩), .agg #[.int .i64 (lo : Int), .int .i64 (hi : Int), .string nm]] w fun e w' => Frm base R G w w' ∧ e = .returned .nilIface ∧ ∃ vN' vP' x', RS w' base R G N cap (n + 1) (names ++ [nm]) (fun j => if j = names.length then F names.length ++ [((lo : Int), (hi : Int))] else F j) (fun q => (decide (lo ≤ q) && decide (q ≤ hi)) || f q) vN' vP' ((vs ++ [Value.slice none 0 0]).set names.length x') := by
  obtain ⟨aN, cN, rfl, hsaN⟩ := h.names.sa
  have hR2 : ¬ 0 = R := fun e => by have h0 := h.cell.1; rw [← e] at h0; rw [h0] at hE2; simp [errAt] at hE2
  have hR4 : ¬ 4 = R := fun e => by have h0 := h.cell.1; rw [← e] at h0; rw [h0] at hE4; simp [errAt] at hE4
  have hG2 : ¬ 0 = G := fun e => by have h0 := (h.bit.cell 0 (by omega)).1; rw [← e] at h0; rw [h0] at hE2; simp [errAt] at hE2
  have hG4 : ¬ 4 = G := fun e => by have h0 := (h.bit.cell 0 (by omega)).1; rw [← e] at h0; rw [h0] at hE4; simp [errAt] at hE4
  obtain ⟨nc, hnc⟩ : ∃ nc : Nat, n + 1 = nc := ⟨_, rfl⟩
  have hcn : (n : Int) + 1 = (nc : Int) := by omega
  have hn0 : (0 : Int) ≤ (n : Int) := by omega
  have hn1 : (n : Int) ≤ 65536 := by omega
  have h1 := h.later ((Below.refl _ w).alloc (Nat.le_refl _) (.cells #[.int .i64 (lo : Int), .int .i64 (hi : Int), .string nm] 88))
  obtain ⟨q0, q1, q2, q3, qf⟩ := h1.cell
  have HR1 := hid0 (h1.count nc)
  have HF1 : Hid (Frm base R G w ((w.alloc (.cells #[.int .i64 (lo : Int), .int .i64 (hi : Int), .string nm] 88)).setCell ⟨R, 0, none⟩ (.int .i64 (nc : Int)))) := hid0 ((Frm.alloc w _).trans (Frm.setCell _ R 0 _ (.inl rfl)))
  have HX1 : Hid (∀ j v, (#[.int .i64 (lo : Int), .int .i64 (hi : Int), .string nm] : Array Value)[j]? = some v → ((w.alloc (.cells #[.int .i64 (lo : Int), .int .i64 (hi : Int), .string nm] 88)).setCell ⟨R, 0, none⟩ (.int .i64 (nc : Int))).cell? ⟨w.heap.size, j, none⟩ = some v) := hid0 (fun j v hv => by
    have hne : w.heap.size ≠ R := fun e => by have := h.ltR; omega
    rw [World.cell?_of_block (w := w.alloc (.cells #[.int .i64 (lo : Int), .int .i64 (hi : Int), .string nm] 88)) (a := ⟨w.heap.size, j, none⟩) (Below.heap_setCell _ _ _ w.heap.size hne), cell_of_row _ _ _ _ _ _ (heap_alloc_new w _)]
    exact hv)
  have HSz : Hid (((w.alloc (.cells #[.int .i64 (lo : Int), .int .i64 (hi : Int), .string nm] 88)).setCell ⟨R, 0, none⟩ (.int .i64 (nc : Int))).heap.size = w.heap.size + 1) := hid0 (by simp [World.setCell])
  have HBk1 : Hid (((w.alloc (.cells #[.int .i64 (lo : Int), .int .i64 (hi : Int), .string nm] 88)).setCell ⟨R, 0, none⟩ (.int .i64 (nc : Int))).heap[w.heap.size]? = some (.cells #[.int .i64 (lo : Int), .int .i64 (hi : Int), .string nm] 88 (0, 0))) := hid0 ((Below.heap_setCell _ _ _ w.heap.size (fun e => by have := h.ltR; simp at e; omega)).trans (heap_alloc_new w _))
  have HE2 := hid0 hE2
  have HE4 := hid0 hE4
  have H0 := hid0 h
  clear h h1 hE2 hE4
  go_enter Tryz.func48, Tryz.ntmps48
  go_wp2
  clear q0 q1 q2 q3 qf hsaN
  generalize (w.alloc (.cells #[.int .i64 (lo : Int), .int .i64 (hi : Int), .string nm] 88)).setCell ⟨R, 0, none⟩ (.int .i64 (nc : Int)) = W1 at HR1 HF1 HX1 HSz HBk1 ⊢
  obtain ⟨q0, q1, q2, q3, qf⟩ := HR1.out.cell
  have x0 := HX1.out 0 _ rfl
  have x1 := HX1.out 1 _ rfl
  have x2 := HX1.out 2 _ rfl
  have hsa1 : SA W1 aN names := by
    obtain ⟨a', c', e, hs⟩ := HR1.out.names.sa
    simp only [Value.slice.injEq, true_and] at e
    obtain ⟨rfl, rfl⟩ := e
    exact hs
  have HIx := hid0 (fun k => index_q names aN cN nm W1 (by omega) hsa1 k)
  have y2 : ∀ k, (W1.drewN k).cell? ⟨0, 0, none⟩ = some (errAt A 2) := fun k => (World.cell?_of_block (w := w) (w' := W1.drewN k) (a := ⟨0, 0, none⟩) (HF1.out.kept _ hg2 (World.block_lt_of_cell? w _ HE2.out) hR2 hG2)).trans HE2.out
  clear hsa1 HX1
  obtain ⟨ix, hix⟩ : ∃ ix, Lib.idxOfS names nm = ix := ⟨_, rfl⟩
  rw [hix] at HIx
  have HGc : Hid (∃ c t z, W1.heap[G]? = some (.cells c t z)) := hid0 HR1.out.bit.cells
  have m1I : ¬ (65536 : Int) < (nc : Int) := by omega
  have HMk : Hid (∀ k, Calls Tryz.prog 85 #[.pointer (some ⟨R, 0, none⟩), .agg #[.int .i64 (lo : Int), .int .i64 (hi : Int)]] (W1.drewN k) fun e w' => e = .returned (.bool true) ∧ Only (W1.drewN k) w' (fun i => i = G) ∧ Bits w' R G N cap (fun q => (decide (lo ≤ q) && decide (q ≤ hi)) || f q)) := hid0 (fun k => (mark_any lo hi R G N cap hh hN f (W1.drewN k) (HR1.out.drewN k).bit).mono (by
    rintro e w' ⟨h1, ⟨h2, _, h3⟩ | ⟨_, q, a1, a2, a3⟩⟩
    · exact ⟨h2, h1, h3⟩
    · rw [hq q a1 a2] at a3
      cases a3))
  clear hq y2
  have hw1 : w.heap.size < W1.heap.size := by have := HSz.out; omega
  have hwG : ¬ w.heap.size = G := fun e => by have := H0.out.ltG; omega
  rw [hix] at hm2
  have m3B : ((names.length : Int) == 62) = false := by
    simp only [beq_eq_false_iff_ne, ne_eq]; omega
  clear hm hnl
  go_big_quiet (first | (go_at_call 84; with_reducible exact Calls.quiet_of_same (HIx.out _)) | fail)
  go_wp2_with (go_at_call 85; refine (HMk.out _).mono ?_; rintro e W2 ⟨rfl, hon, hbi⟩; have HR2 := hid0 ((HR1.out.drewN _).mark hon hbi); have HX2 := hid0 (And.intro ((hon.cell (p := ⟨w.heap.size, 0, none⟩) hw1 hwG).trans x0) (And.intro ((hon.cell (p := ⟨w.heap.size, 1, none⟩) hw1 hwG).trans x1) ((hon.cell (p := ⟨w.heap.size, 2, none⟩) hw1 hwG).trans x2))); have HBk2 := hid0 ((hon.block w.heap.size hw1 hwG).trans HBk1.out); have HF2 := hid0 (HF1.out.trans ((Frm.drewN _ _).trans (Frm.ofOnly hon HGc.out))); clear hon hbi x0 x1 x2 q0 q1 q2 q3 qf; obtain ⟨q0, q1, q2, q3, qf⟩ := HR2.out.cell; obtain ⟨x0, x1, x2⟩ := HX2.out)
  have HNc := hid0 hnc
  clear hnc hcn hix hn0 hn1 m1I hn HE2 HE4 HMk HIx HSz HBk1 HGc hR2 hR4 hG2 hG4 HF1 HR1
  have hRl : R < W2.heap.size := (Array.getElem?_eq_some_iff.1 HR2.out.box).1
  have hbx : base ≤ W2.heap.size := Nat.le_trans hbs HF2.out.size
  have HOn : Hid (W2.drew.ownsRow base 9 1 (.slice aN names.length cN) names.length (cellsS names)) := hid0 (HR2.out.drewN 1).names
  have hneR : ¬ some R = (Value.slice aN names.length cN).ownBlock := fun e => by have := (World.ownsRow.lt HOn.out R e.symm).1; have := HR2.out.ltR; omega
  have HKp : Hid (∀ w1, Below W2.heap.size W2.drew w1 → (w1.cell? ⟨R, 1, none⟩ = some (.slice aN names.length cN) ∧ w1.frozen? ⟨R, 1, none⟩ = false ∧ ∀ o, (w1.alloc o).cell? ⟨R, 1, none⟩ = some (.slice aN names.length cN)) ∧ ∀ o w3, (w1.alloc o).grownBy w3 (Value.slice aN names.length cN).ownBlock → w3.cell? ⟨R, 1, none⟩ = some (.slice aN names.length cN) ∧ w3.frozen? ⟨R, 1, none⟩ = false) := hid0 (fun w1 hb => by
    have e1 : w1.heap[R]? = W2.heap[R]? := hb.block R hRl
    have hR1 : R < w1.heap.size := Nat.lt_of_lt_of_le hRl hb.size
    refine ⟨⟨(World.cell?_of_block (w := W2) (a := ⟨R, 1, none⟩) e1).trans q1, (World.frozen?_of_block (w := W2) (a := ⟨R, 1, none⟩) e1).trans (qf 1), fun o => (World.cell?_of_block (w := W2) (a := ⟨R, 1, none⟩) ((Below.heap_alloc _ _ R hR1).trans e1)).trans q1⟩, fun o w3 hg => ?_⟩
    have e2 : w3.heap[R]? = W2.heap[R]? := ((hg.block R (by simp; omega) hneR).trans (Below.heap_alloc _ _ R hR1)).trans e1
    exact ⟨(World.cell?_of_block (w := W2) (a := ⟨R, 1, none⟩) e2).trans q1, (World.frozen?_of_block (w := W2) (a := ⟨R, 1, none⟩) e2).trans (qf 1)⟩)
  obtain ⟨s0, hs0, sz0, sz1, sz2⟩ := info_parts infoStr
  obtain ⟨cs, hcs⟩ : ∃ cs, cellsS names = cs := ⟨_, rfl⟩
  rw [hcs] at HOn
  have HCs := hid0 hcs
  clear hcs hneR hRl HX2
  apply use_key
  case main =>
    intro key
    go_region_law
      (first
      | (refine step_append_lies _ (by rfl) _ _ _ (by rfl) base 9 s0 (.string ⟨#[]⟩) 1 16 Tryz.underlying22 hs0 sz0 sz1 sz2 rfl (by decide) (.slice aN names.length cN) names.length cs (by rfl) (World.ownsRow.alloc (row_later HOn.out HB1.out) _) ⟨w1.heap.size, 0, none⟩ 1 1 [.string nm] (by rfl) (by rfl) (World.news_of_block (cs := #[.string nm]) (t := 9) (fr := (0, 0)) (heap_alloc_new w1 _)) (by simp [Value.oneCell']) (by omega) (by unfold maxLen; omega) (by omega) (by have := HB1.out.size; simp at this ⊢; omega) _ rfl ?_; intro g2 cap2 w3 hown3 hgrow3 hat3 hlt3; obtain ⟨u1, u2⟩ := (HKp.out w1 HB1.out).2 _ _ hgrow3; have HO3 := hid0 hown3; have HG3 := hid0 hgrow3; clear hown3 hgrow3 hat3)
      | (go_simp; go_at_call 86; refine (clone_any nm (by omega) _).mono ?_; rintro e w1 ⟨rfl, hb1⟩; obtain ⟨⟨t1, t2, t3⟩, _⟩ := HKp.out w1 hb1; have HB1 := hid0 hb1; clear hb1))
    all_goals
      have HR3 : Hid (RS (w3.setCell ⟨R, 1, none⟩ (.slice (some ⟨g2, 0, none⟩) (names.length + 1) cap2)) base R G N cap nc (names ++ [nm]) F (fun q => (decide (lo ≤ q) && decide (q ≤ hi)) || f q) (.slice (some ⟨g2, 0, none⟩) (names.length + 1) cap2) vP vs) := hid0 (((HR2.out.drewN 1).later HB1.out).name rfl (by rw [HCs.out]; exact HO3.out) HG3.out)
      have HF3 : Hid (Frm base R G w (w3.setCell ⟨R, 1, none⟩ (.slice (some ⟨g2, 0, none⟩) (names.length + 1) cap2))) := hid0 (HF2.out.trans (((Frm.drewN _ 1).trans ((Frm.ofBelow HB1.out).trans (Frm.alloc _ _))).trans ((Frm.grown HG3.out (row_cells (World.ownsRow.alloc (row_later HOn.out HB1.out) _))).trans (Frm.setCell _ R 1 _ (.inl rfl)))))
      have HBk3 : Hid ((w3.setCell ⟨R, 1, none⟩ (.slice (some ⟨g2, 0, none⟩) (names.length + 1) cap2)).heap[w.heap.size]? = some (.cells #[.int .i64 (lo : Int), .int .i64 (hi : Int), .string nm] 88 (0, 0))) := hid0 (by
        have hlt2 : w.heap.size < W2.heap.size := (Array.getElem?_eq_some_iff.1 HBk2.out).1
        have b1 : (w1.alloc (.cells #[.string nm] 9)).heap[w.heap.size]? = some (.cells #[.int .i64 (lo : Int), .int .i64 (hi : Int), .string nm] 88 (0, 0)) := (Below.heap_alloc _ _ _ (Nat.lt_of_lt_of_le hlt2 HB1.out.size)).trans ((HB1.out.block _ hlt2).trans HBk2.out)
        refine (Below.heap_setCell _ _ _ w.heap.size (fun e => by have := H0.out.ltR; simp at e; omega)).trans ((HG3.out.block _ (Array.getElem?_eq_some_iff.1 b1).1 (row_not (World.ownsRow.alloc (row_later HOn.out HB1.out) _) b1 (by decide))).trans b1))
      clear HO3 HG3 HB1 u1 u2 t1 t2 t3
      generalize w3.setCell ⟨R, 1, none⟩ (.slice (some ⟨g2, 0, none⟩) (names.length + 1) cap2) = W3 at HR3 HF3 HBk3 ⊢
      obtain ⟨p0, p1, p2, p3, pf⟩ := HR3.out.cell
      clear p0 p1 p3 hlt3
      have hb3 : base ≤ W3.heap.size := Nat.le_trans hbs HF3.out.size
      obtain ⟨r0, hr0, rz0, rz1, rz2⟩ := info_parts infoRanges
      have hR3 : R < W3.heap.size := (Array.getElem?_eq_some_iff.1 HR3.out.box).1
      go_wp2_with (at_builtin; go_loud (refine wpList_append_own _ rfl _ _ 56 rfl base 93 r0 (.slice none 0 0) 1 24 Tryz.underlying56 hr0 rz0 rz1 rz2 rfl (by decide) vP vs.length vs rfl (World.ownsRow.alloc HR3.out.parts.outer _) ⟨W3.heap.size, 0, none⟩ 1 1 [.slice none 0 0] rfl rfl (cell_one_new _ _ _) (by simp [Value.oneCell']) (by unfold maxLen; omega) (by omega) (by simp; omega) ?_); intro vP' w4 hown4 hgrow4 hgx4; clear hgx4; obtain ⟨g4, c4, rfl, h41, h42⟩ := World.ownsRow.form hown4 (by omega); clear h41 h42; have hne4 : ¬ some R = vP.ownBlock := (fun e => by have := (World.ownsRow.lt HR3.out.parts.outer R e.symm).1; have := HR3.out.ltR; omega); have e4 : w4.heap[R]? = W3.heap[R]? := (hgrow4.block R (by simp; omega) hne4).trans (Below.heap_alloc _ _ R hR3); have v1 : w4.cell? ⟨R, 2, none⟩ = some vP := (World.cell?_of_block (w := W3) (a := ⟨R, 2, none⟩) e4).trans p2; have v2 : w4.frozen? ⟨R, 2, none⟩ = false := (World.frozen?_of_block (w := W3) (a := ⟨R, 2, none⟩) e4).trans (pf 2); have HO4 := hid0 hown4; have HG4 := hid0 hgrow4; clear hown4 hgrow4 e4)
      have HR4 : Hid (RS (w4.setCell ⟨R, 2, none⟩ (.slice (some ⟨g4, 0, none⟩) (names.length + 1) c4)) base R G N cap nc (names ++ [nm]) F (fun q => (decide (lo ≤ q) && decide (q ≤ hi)) || f q) (.slice (some ⟨g2, 0, none⟩) (names.length + 1) cap2) (.slice (some ⟨g4, 0, none⟩) (names.length + 1) c4) (vs ++ [Value.slice none 0 0])) := hid0 (HR3.out.part (m := names.length) hvl.symm hFn (by have h := HO4.out; rw [hvl] at h; exact h) HG4.out)
      have HF4 : Hid (Frm base R G w (w4.setCell ⟨R, 2, none⟩ (.slice (some ⟨g4, 0, none⟩) (names.length + 1) c4))) := hid0 (HF3.out.trans ((Frm.alloc _ _).trans ((Frm.grown HG4.out (row_cells (World.ownsRow.alloc HR3.out.parts.outer _))).trans (Frm.setCell _ R 2 _ (.inl rfl)))))
      have hbk4 : (w4.setCell ⟨R, 2, none⟩ (.slice (some ⟨g4, 0, none⟩) (names.length + 1) c4)).heap[w.heap.size]? = some (.cells #[.int .i64 (lo : Int), .int .i64 (hi : Int), .string nm] 88 (0, 0)) := by
        have b1 : (W3.alloc (.cells #[.slice none 0 0] 93)).heap[w.heap.size]? = some (.cells #[.int .i64 (lo : Int), .int .i64 (hi : Int), .string nm] 88 (0, 0)) := (Below.heap_alloc _ _ _ (Array.getElem?_eq_some_iff.1 HBk3.out).1).trans HBk3.out
        exact (Below.heap_setCell _ _ _ w.heap.size (fun e => by have := H0.out.ltR; simp at e; omega)).trans ((HG4.out.block _ (Array.getElem?_eq_some_iff.1 b1).1 (row_not (World.ownsRow.alloc HR3.out.parts.outer _) b1 (by decide))).trans b1)
      have HX4 : Hid ((w4.setCell ⟨R, 2, none⟩ (.slice (some ⟨g4, 0, none⟩) (names.length + 1) c4)).cell? ⟨w.heap.size, 0, none⟩ = some (.int .i64 (lo : Int)) ∧ (w4.setCell ⟨R, 2, none⟩ (.slice (some ⟨g4, 0, none⟩) (names.length + 1) c4)).cell? ⟨w.heap.size, 1, none⟩ = some (.int .i64 (hi : Int)) ∧ (w4.setCell ⟨R, 2, none⟩ (.slice (some ⟨g4, 0, none⟩) (names.length + 1) c4)).cell? ⟨w.heap.size, 2, none⟩ = some (.string nm)) := hid0 ⟨by rw [cell_of_row _ _ _ _ _ _ hbk4]; rfl, by rw [cell_of_row _ _ _ _ _ _ hbk4]; rfl, by rw [cell_of_row _ _ _ _ _ _ hbk4]; rfl⟩
      clear HR3 HF3 HBk3 HO4 HG4 hbk4 p2 pf v1 v2 hb3 hR3 hne4 hr0 rz0 rz1 rz2
      generalize w4.setCell ⟨R, 2, none⟩ (.slice (some ⟨g4, 0, none⟩) (names.length + 1) c4) = W4 at HR4 HF4 HX4 ⊢
      generalize w1.heap.size = s1
      generalize W3.heap.size = s3
      rename_i K11 hK11
      revert K11 s1 s3 g2 cap2 g4 c4 W4 HR4 HF4 HX4
      exact key.out
  case cont =>
    intro g2 cap2 gO cO K11 hK11 W4 HR4 HF4 HX4 s1 s3
    clear HR2 HF2 HBk2 HOn HKp q0 q1 q2 q3 qf x0 x1 x2 HCs hs0 sz0 sz1 sz2 hbx H0
    have hkx : names.length < (vs ++ [Value.slice none 0 0]).length := by simp; omega
    have hFl : (F names.length).length ≤ 65536 := by rw [hFn]; simp
    have hOut := HR4.out.parts.outer
    rw [show (vs ++ [Value.slice none 0 0]).length = names.length + 1 by simp [hvl]] at hOut
    obtain ⟨hgO1, hgO2⟩ := World.ownsRow.lt HR4.out.parts.outer gO rfl
    obtain ⟨xk, hxk⟩ : ∃ x, (vs ++ [Value.slice none 0 0])[names.length]'hkx = x := ⟨_, rfl⟩
    obtain ⟨q0, q1, q2, q3, qf⟩ := HR4.out.cell
    have o0 : W4.cell? ⟨gO, names.length, none⟩ = some xk := by
      have := World.ownsRow.cellAt hOut names.length (by omega)
      rw [this, List.getElem?_eq_getElem hkx, hxk]
    have of0 : W4.frozen? ⟨gO, names.length, none⟩ = false := World.ownsRow.frozenAt hOut names.length
    obtain ⟨x0, x1, x2⟩ := HX4.out
    have HOw : Hid (W4.drew.ownsRow base 86 2 xk (F names.length).length (cellsR (F names.length))) := hid0 (by rw [← hxk]; exact (HR4.out.drewN 1).parts.row names.length hkx)
    have HOO : Hid (W4.drew.ownsRow base 93 1 (.slice (some ⟨gO, 0, none⟩) (names.length + 1) cO) (vs ++ [Value.slice none 0 0]).length (vs ++ [Value.slice none 0 0])) := hid0 (HR4.out.drewN 1).parts.outer
    have hneO : ¬ some gO = xk.ownBlock := fun e => rows_ne' HOw.out HOO.out (by decide) rfl e.symm
    have hneR : ¬ some R = xk.ownBlock := fun e => by have := (World.ownsRow.lt HOw.out R e.symm).1; have := HR4.out.ltR; omega
    have hRl : R < W4.heap.size := (Array.getElem?_eq_some_iff.1 HR4.out.box).1
    have hbx : base ≤ W4.heap.size := Nat.le_trans hbs HF4.out.size
    obtain ⟨i0, hi0, hz0, hz1, hz2⟩ := info_parts infoRange
    have HFar : Hid (∀ o w2, (W4.drew.alloc o).grownBy w2 xk.ownBlock → w2.cell? ⟨R, 2, none⟩ = some (.slice (some ⟨gO, 0, none⟩) (names.length + 1) cO) ∧ w2.cell? ⟨gO, names.length, none⟩ = some xk ∧ w2.frozen? ⟨gO, names.length, none⟩ = false) := hid0 (fun o w2 hg => ⟨(World.cell?_of_block (w := W4) (a := ⟨R, 2, none⟩) ((hg.block R (by simp; omega) hneR).trans (Below.heap_alloc _ _ R hRl))).trans q2, (World.cell?_of_block (w := W4) (a := ⟨gO, names.length, none⟩) ((hg.block gO (by simp; omega) hneO).trans (Below.heap_alloc _ _ gO hgO2))).trans o0, (World.frozen?_of_block (w := W4) (a := ⟨gO, names.length, none⟩) ((hg.block gO (by simp; omega) hneO).trans (Below.heap_alloc _ _ gO hgO2))).trans of0⟩)
    have HXk : Hid ((vs ++ [Value.slice none 0 0])[names.length]? = some xk) := hid0 (by rw [List.getElem?_eq_getElem hkx, hxk])
    have hkI : (names.length : Int) < (names.length : Int) + 1 := by omega
    clear hxk hneO hneR HOO
    generalize hnk : (F names.length).length = nk at HOw hFl
    generalize hxs : cellsR (F names.length) = xs at HOw
    have HNk := hid0 hnk
    have HXs := hid0 hxs
    clear hnk hxs hkx hvl hOut
    go_region_law
      (refine step_append_lies _ (by rfl) _ _ _ (by rfl) base 86 i0 (.agg #[.int .i64 0, .int .i64 0]) 2 16 Tryz.underlying93 hi0 hz0 hz1 hz2 rfl (by decide) xk nk xs (by rfl) (World.ownsRow.alloc HOw.out _) ⟨W4.heap.size, 0, none⟩ 1 1 [.int .i64 (lo : Int), .int .i64 (hi : Int)] (by rfl) (by rfl) (World.news_of_block (cs := #[.int .i64 (lo : Int), .int .i64 (hi : Int)]) (t := 86) (fr := (0, 0)) (heap_alloc_new W4.drew _)) (by simp [Value.oneCell']) (by omega) (by unfold maxLen; omega) (by omega) (by simp; omega) _ rfl ?_; intro g2 cap2 w3 hown3 hgrow3 hat3 hlt3; obtain ⟨z1, z2, z3⟩ := HFar.out _ _ hgrow3; have HO3 := hid0 hown3; have HG3 := hid0 hgrow3; have HA3 := hid0 hat3; clear hown3 hgrow3 hat3)
    all_goals
      go_wp2
      go_ret
      obtain ⟨hk2, e3⟩ := List.getElem?_eq_some_iff.1 HXk.out
      have e1 := HNk.out
      have e5 := HNc.out
      subst e5
      have e2 := HXs.out
      subst e1
      subst e2
      subst e3
      refine ⟨?_, rfl, _, _, _, (HR4.out.drewN 1).range names.length hk2 ((lo : Int), (hi : Int)) rfl HO3.out HG3.out (by rcases HA3.out with h | h; exact .inl h.symm; exact .inr (by rw [h]; rfl)) rfl⟩
      exact HF4.out.trans (((Frm.drewN _ 1).trans (Frm.alloc _ _)).trans ((Frm.grown HG3.out (row_cells (World.ownsRow.alloc ((HR4.out.drewN 1).parts.row names.length hk2) _))).trans (Frm.setCell _ gO names.length _ (.inr (.inr hgO1)))))
end Go.Proofs.YthdmhelgmejicaaGreatDoor
