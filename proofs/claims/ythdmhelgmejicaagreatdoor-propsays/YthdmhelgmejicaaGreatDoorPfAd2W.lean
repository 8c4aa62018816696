/-
  The walk of (*propfile.reading).add.
-/
import Derived.Test.YthdmhelgmejicaaGreatDoorPfAdW
import Derived.Test.YthdmhelgmejicaaGreatDoorPfSmW
import Derived.Deep.RegionLaw
import Derived.Deep.AppendLies
import Derived.Deep.RegionHeldLaw
namespace Go.Proofs.YthdmhelgmejicaaGreatDoor
open Go.RowKit Go.Shelf
set_option maxRecDepth 10000 in
set_option maxHeartbeats 8000000 in
theorem add_old (names : List ByteArray) (F : Nat → List (Int × Int)) (f : Nat → Bool) (n lo hi : Nat) (nm : ByteArray) (base R G N cap : Nat) (vN vP : Value) (vs : List Value) (A : Nat → Addr) (w : World)
    (h : RS w base R G N cap n names F f vN vP vs) (hE2 : w.cell? ⟨0, 0, none⟩ = some (errAt A 2)) (hE4 : w.cell? ⟨4, 0, none⟩ = some (errAt A 4)) (hg2 : 0 < base) (_hg4 : 4 < base)
    (hn : n ≤ 65536) (hnl : names.length ≤ 62) (hbs : base ≤ w.heap.size) (_hNm : nm.size ≤ 4194400) (_hlo : lo ≤ hi) (hh : hi < 64 * N) (hN : N ≤ 1000000)
    (hm : ¬ 65536 < n + 1) (kx : Nat) (hkn : kx < names.length) (hm2 : Lib.idxOfS names nm = (kx : Int)) (hq : ∀ q, lo ≤ q → q ≤ hi → f q = false) (hvl : vs.length = names.length) (hFl : (F kx).length ≤ 65536) :
    Calls Tryz.prog 48 #[.pointer (some ⟨R, 0, none⟩), .agg #[.int .i64 (lo : Int), .int .i64 (hi : Int), .string nm]] w fun e w' => Frm base R G w w' ∧ e = .returned .nilIface ∧ ∃ x', RS w' base R G N cap (n + 1) names (fun j => if j = kx then F kx ++ [((lo : Int), (hi : Int))] else F j) (fun q => (decide (lo ≤ q) && decide (q ≤ hi)) || f q) vN vP (vs.set kx x') := by
  obtain ⟨aN, cN, rfl, hsaN⟩ := h.names.sa
  have hR2 : ¬ 0 = R := fun e => by have h0 := h.cell.1; rw [← e] at h0; rw [h0] at hE2; simp [errAt] at hE2
  have hR4 : ¬ 4 = R := fun e => by have h0 := h.cell.1; rw [← e] at h0; rw [h0] at hE4; simp [errAt] at hE4
  have hG2 : ¬ 0 = G := fun e => by have h0 := (h.bit.cell 0 (by omega)).1; rw [← e] at h0; rw [h0] at hE2; simp [errAt] at hE2
  have hG4 : ¬ 4 = G := fun e => by have h0 := (h.bit.cell 0 (by omega)).1; rw [← e] at h0; rw [h0] at hE4; simp [errAt] at hE4
  obtain ⟨nc, hnc⟩ : ∃ nc : Nat, n + 1 = nc := ⟨_, rfl⟩
  have hcn : (n : Int) + 1 = (nc : Int) := by omega
  have hn0 : (0 : Int) ≤ (n : Int) := by omega
  have hn1 : (n : Int) ≤ 65536 := by omega
  have h1 := h.later ((Below.refl _ w).alloc (Nat.le_refl _) (.cells #[.int .i64 (lo : Int), .int .i64 (hi : Int), .string nm] 88))
  obtain ⟨q0, q1, q2, q3, qf⟩ := h1.cell
  have HR1 := hid0 (h1.count nc)
  have HF1 : Hid (Frm base R G w ((w.alloc (.cells #[.int .i64 (lo : Int), .int .i64 (hi : Int), .string nm] 88)).setCell ⟨R, 0, none⟩ (.int .i64 (nc : Int)))) := hid0 ((Frm.alloc w _).trans (Frm.setCell _ R 0 _ (.inl rfl)))
  have HX1 : Hid (∀ j v, (#[.int .i64 (lo : Int), .int .i64 (hi : Int), .string nm] : Array Value)[j]? = some v → ((w.alloc (.cells #[.int .i64 (lo : Int), .int .i64 (hi : Int), .string nm] 88)).setCell ⟨R, 0, none⟩ (.int .i64 (nc : Int))).cell? ⟨w.heap.size, j, none⟩ = some v) := hid0 (fun j v hv => by
    have hne : w.heap.size ≠ R := fun e => by have := h.ltR; omega
    rw [World.cell?_of_block (w := w.alloc (.cells #[.int .i64 (lo : Int), .int .i64 (hi : Int), .string nm] 88)) (a := ⟨w.heap.size, j, none⟩) (Below.heap_setCell _ _ _ w.heap.size hne), cell_of_row _ _ _ _ _ _ (heap_alloc_new w _)]
    exact hv)
  have HSz : Hid (((w.alloc (.cells #[.int .i64 (lo : Int), .int .i64 (hi : Int), .string nm] 88)).setCell ⟨R, 0, none⟩ (.int .i64 (nc : Int))).heap.size = w.heap.size + 1) := hid0 (by simp [World.setCell])
  have HBk1 : Hid (((w.alloc (.cells #[.int .i64 (lo : Int), .int .i64 (hi : Int), .string nm] 88)).setCell ⟨R, 0, none⟩ (.int .i64 (nc : Int))).heap[w.heap.size]? = some (.cells #[.int .i64 (lo : Int), .int .i64 (hi : Int), .string nm] 88 (0, 0))) := hid0 ((Below.heap_setCell _ _ _ w.heap.size (fun e => by have := h.ltR; simp at e; omega)).trans (heap_alloc_new w _))
  have HE2 := hid0 hE2
  have HE4 := hid0 hE4
  have H0 := hid0 h
  clear h h1 hE2 hE4
  go_enter Tryz.func48, Tryz.ntmps48
  go_wp2
  clear q0 q1 q2 q3 qf hsaN
  generalize (w.alloc (.cells #[.int .i64 (lo : Int), .int .i64 (hi : Int), .string nm] 88)).setCell ⟨R, 0, none⟩ (.int .i64 (nc : Int)) = W1 at HR1 HF1 HX1 HSz HBk1 ⊢
  obtain ⟨q0, q1, q2, q3, qf⟩ := HR1.out.cell
  have x0 := HX1.out 0 _ rfl
  have x1 := HX1.out 1 _ rfl
  have x2 := HX1.out 2 _ rfl
  have hsa1 : SA W1 aN names := by
    obtain ⟨a', c', e, hs⟩ := HR1.out.names.sa
    simp only [Value.slice.injEq, true_and] at e
    obtain ⟨rfl, rfl⟩ := e
    exact hs
  have HIx := hid0 (fun k => index_q names aN cN nm W1 (by omega) hsa1 k)
  have y2 : ∀ k, (W1.drewN k).cell? ⟨0, 0, none⟩ = some (errAt A 2) := fun k => (World.cell?_of_block (w := w) (w' := W1.drewN k) (a := ⟨0, 0, none⟩) (HF1.out.kept _ hg2 (World.block_lt_of_cell? w _ HE2.out) hR2 hG2)).trans HE2.out
  clear hsa1 HX1
  obtain ⟨ix, hix⟩ : ∃ ix, Lib.idxOfS names nm = ix := ⟨_, rfl⟩
  rw [hix] at HIx
  have HGc : Hid (∃ c t z, W1.heap[G]? = some (.cells c t z)) := hid0 HR1.out.bit.cells
  have m1I : ¬ (65536 : Int) < (nc : Int) := by omega
  have HMk : Hid (∀ k, Calls Tryz.prog 85 #[.pointer (some ⟨R, 0, none⟩), .agg #[.int .i64 (lo : Int), .int .i64 (hi : Int)]] (W1.drewN k) fun e w' => e = .returned (.bool true) ∧ Only (W1.drewN k) w' (fun i => i = G) ∧ Bits w' R G N cap (fun q => (decide (lo ≤ q) && decide (q ≤ hi)) || f q)) := hid0 (fun k => (mark_any lo hi R G N cap hh hN f (W1.drewN k) (HR1.out.drewN k).bit).mono (by
    rintro e w' ⟨h1, ⟨h2, _, h3⟩ | ⟨_, q, a1, a2, a3⟩⟩
    · exact ⟨h2, h1, h3⟩
    · rw [hq q a1 a2] at a3
      cases a3))
  clear hq y2
  have hw1 : w.heap.size < W1.heap.size := by have := HSz.out; omega
  have hwG : ¬ w.heap.size = G := fun e => by have := H0.out.ltG; omega
  rw [hix] at hm2
  subst hm2
  have hkx : kx < vs.length := by omega
  have m2 : ¬ (kx : Int) < 0 := by omega
  clear hm hnl
  go_big_quiet (first | (go_at_call 84; with_reducible exact Calls.quiet_of_same (HIx.out _)) | fail)
  go_wp2_with (go_at_call 85; refine (HMk.out _).mono ?_; rintro e W2 ⟨rfl, hon, hbi⟩; have HR2 := hid0 ((HR1.out.drewN _).mark hon hbi); have HX2 := hid0 (And.intro ((hon.cell (p := ⟨w.heap.size, 0, none⟩) hw1 hwG).trans x0) (And.intro ((hon.cell (p := ⟨w.heap.size, 1, none⟩) hw1 hwG).trans x1) ((hon.cell (p := ⟨w.heap.size, 2, none⟩) hw1 hwG).trans x2))); have HF2 := hid0 (HF1.out.trans ((Frm.drewN _ _).trans (Frm.ofOnly hon HGc.out))); clear hon hbi x0 x1 x2 q0 q1 q2 q3 qf)
  have HNc := hid0 hnc
  clear hnc hcn hix hn0 hn1 m1I m2 hn HE2 HE4 HMk HIx HSz HBk1 HGc hR2 hR4 hG2 hG4 HF1 HR1
  obtain ⟨gO, cO, rfl, hgO1, hgO2⟩ := World.ownsRow.form HR2.out.parts.outer (by omega)
  obtain ⟨xk, hxk⟩ : ∃ x, (vs)[kx]'hkx = x := ⟨_, rfl⟩
  obtain ⟨q0, q1, q2, q3, qf⟩ := HR2.out.cell
  have o0 : W2.cell? ⟨gO, kx, none⟩ = some xk := by
    have := World.ownsRow.cellAt HR2.out.parts.outer kx (by simpa using hkx)
    rw [this, List.getElem?_eq_getElem hkx, hxk]
  have of0 : W2.frozen? ⟨gO, kx, none⟩ = false := World.ownsRow.frozenAt HR2.out.parts.outer kx
  obtain ⟨x0, x1, x2⟩ := HX2.out
  have HOw : Hid (W2.drew.ownsRow base 86 2 xk (F kx).length (cellsR (F kx))) := hid0 (by rw [← hxk]; exact (HR2.out.drewN 1).parts.row kx hkx)
  have HOO : Hid (W2.drew.ownsRow base 93 1 (.slice (some ⟨gO, 0, none⟩) (vs).length cO) (vs).length (vs)) := hid0 (HR2.out.drewN 1).parts.outer
  have hneO : ¬ some gO = xk.ownBlock := fun e => rows_ne' HOw.out HOO.out (by decide) rfl e.symm
  have hneR : ¬ some R = xk.ownBlock := fun e => by have := (World.ownsRow.lt HOw.out R e.symm).1; have := HR2.out.ltR; omega
  have hRl : R < W2.heap.size := (Array.getElem?_eq_some_iff.1 HR2.out.box).1
  have hbx : base ≤ W2.heap.size := Nat.le_trans hbs HF2.out.size
  obtain ⟨i0, hi0, hz0, hz1, hz2⟩ := info_parts infoRange
  have HFar : Hid (∀ o w2, (W2.drew.alloc o).grownBy w2 xk.ownBlock → w2.cell? ⟨R, 2, none⟩ = some (.slice (some ⟨gO, 0, none⟩) (vs).length cO) ∧ w2.cell? ⟨gO, kx, none⟩ = some xk ∧ w2.frozen? ⟨gO, kx, none⟩ = false) := hid0 (fun o w2 hg => ⟨(World.cell?_of_block (w := W2) (a := ⟨R, 2, none⟩) ((hg.block R (by simp; omega) hneR).trans (Below.heap_alloc _ _ R hRl))).trans q2, (World.cell?_of_block (w := W2) (a := ⟨gO, kx, none⟩) ((hg.block gO (by simp; omega) hneO).trans (Below.heap_alloc _ _ gO hgO2))).trans o0, (World.frozen?_of_block (w := W2) (a := ⟨gO, kx, none⟩) ((hg.block gO (by simp; omega) hneO).trans (Below.heap_alloc _ _ gO hgO2))).trans of0⟩)
  have HXk : Hid ((vs)[kx]? = some xk) := hid0 (by rw [List.getElem?_eq_getElem hkx, hxk])
  have hM : (vs).length = names.length := by simp [hvl]
  have HM := hid0 hM
  rw [hM] at q2 HFar
  have hkI : (kx : Int) < (names.length : Int) := by omega
  clear hxk hneO hneR hM HOO
  generalize hnk : (F kx).length = nk at HOw hFl
  generalize hxs : cellsR (F kx) = xs at HOw
  have HNk := hid0 hnk
  have HXs := hid0 hxs
  clear hnk hxs hkx hvl
  go_region_law
    (refine step_append_lies _ (by rfl) _ _ _ (by rfl) base 86 i0 (.agg #[.int .i64 0, .int .i64 0]) 2 16 Tryz.underlying93 hi0 hz0 hz1 hz2 rfl (by decide) xk nk xs (by rfl) (World.ownsRow.alloc HOw.out _) ⟨W2.heap.size, 0, none⟩ 1 1 [.int .i64 (lo : Int), .int .i64 (hi : Int)] (by rfl) (by rfl) (World.news_of_block (cs := #[.int .i64 (lo : Int), .int .i64 (hi : Int)]) (t := 86) (fr := (0, 0)) (heap_alloc_new W2.drew _)) (by simp [Value.oneCell']) (by omega) (by unfold maxLen; omega) (by omega) (by simp; omega) _ rfl ?_; intro g2 cap2 w3 hown3 hgrow3 hat3 hlt3; obtain ⟨z1, z2, z3⟩ := HFar.out _ _ hgrow3; have HO3 := hid0 hown3; have HG3 := hid0 hgrow3; have HA3 := hid0 hat3; clear hown3 hgrow3 hat3)
  all_goals
    go_wp2
    go_ret
    obtain ⟨hk2, e3⟩ := List.getElem?_eq_some_iff.1 HXk.out
    have e1 := HNk.out
    have e5 := HNc.out
    subst e5
    have e2 := HXs.out
    subst e1
    subst e2
    subst e3
    refine ⟨?_, rfl, _, (HR2.out.drewN 1).range kx hk2 ((lo : Int), (hi : Int)) rfl HO3.out HG3.out (by rcases HA3.out with h | h; exact .inl h.symm; exact .inr (by rw [h]; rfl)) rfl⟩
    exact HF2.out.trans (((Frm.drewN _ 1).trans (Frm.alloc _ _)).trans ((Frm.grown HG3.out (row_cells (World.ownsRow.alloc ((HR2.out.drewN 1).parts.row kx hk2) _))).trans (Frm.setCell _ gO kx _ (.inr (.inr hgO1)))))
end Go.Proofs.YthdmhelgmejicaaGreatDoor
