/-
  caesuralaw8.ExprHolds at whatever set and unit.
-/
import Derived.Test.YtiebndgpbgiclaaEh2W
import Derived.Test.YtiebndgpbgiclaaEh5W
namespace Go.Proofs.Ytiebndgpbgiclaa
open Go.RowKit Go.Shelf
theorem cell_alloc {w : World} {p : Addr} {v : Value} (h : w.cell? p = some v) (o : Obj) : (w.alloc o).cell? p = some v := ((Only.alloc w o (fun _ => False)).cell (World.block_lt_of_cell? w p h) id).trans h
theorem set_cells {W : World} {B : Nat} {nt : Bool} {sN sR : Value} (h : W.heap[B]? = some (.cells #[.bool nt, sN, sR] 25 (0, 0))) : W.cell? ⟨B, 0, none⟩ = some (.bool nt) ∧ W.cell? ⟨B, 1, none⟩ = some sN ∧ W.cell? ⟨B, 2, none⟩ = some sR :=
  ⟨by rw [cell_of_row _ _ _ _ _ _ h]; rfl, by rw [cell_of_row _ _ _ _ _ _ h]; rfl, by rw [cell_of_row _ _ _ _ _ _ h]; rfl⟩
theorem own_cap {w : World} {lo t s g n m cap : Nat} {xs : List Value} (h : w.ownsRow lo t s (.slice (some ⟨g, 0, none⟩) m cap) n xs) : n ≤ cap := by
  rcases h.2 with ⟨hv, _⟩ | ⟨g', cap', cur, hv, _, _, hc, _⟩
  · cases hv
  · injection hv with _ _ e
    rw [e]
    exact hc
theorem Only.belowAfter {w w1 w2 : World} {S : Nat → Prop} {B : Nat} (h : Only w1 w2 S) (hb : Below B w w1) (hB : B ≤ w.heap.size) (hs : ∀ i, S i → B ≤ i) : Below B w w2 :=
  ⟨h.os.trans hb.os, h.tape.trans hb.tape, h.output.trans hb.output, Nat.le_trans hb.size h.size, fun k hk => by
    have := hb.size
    exact (h.block k (by omega) (fun hi => by have := hs k hi; omega)).trans (hb.block k hk)⟩
set_option maxRecDepth 10000 in
set_option maxHeartbeats 1600000 in
theorem exprHolds_any (nt : Bool) (L : List ByteArray) (R : List (Int × Int)) (a b : Option Addr) (ca cb : Nat) (c : ByteArray) (p : Int) (w : World) (hl : (L.length + 1) * 16 ≤ 140737488355328) (hr : (R.length + 1) * 16 ≤ 140737488355328)
    (hnN : a = none → ca = 0) (hnR : b = none → cb = 0) (ha : SA w a L) (hb : RA w b R) :
    Calls Try.prog 3 #[.agg #[.bool nt, .slice a L.length ca, .slice b R.length cb, .string c, .int .i64 p]] w fun e w' => e = .returned (.bool true) ∧ Below w.heap.size w w' := by
  obtain ⟨w0, hw0⟩ : ∃ w0, w0 = w.alloc (.cells #[.bool nt, .slice a L.length ca, .slice b R.length cb, .string c, .int .i64 p] 29) := ⟨_, rfl⟩
  have hs0 : w0.heap.size = w.heap.size + 1 := by rw [hw0]; simp
  have hB0 : Below w.heap.size w w0 := by rw [hw0]; exact (Below.refl _ _).alloc (Nat.le_refl _) _
  have hX0 : w0.heap[w.heap.size]? = some (.cells #[.bool nt, .slice a L.length ca, .slice b R.length cb, .string c, .int .i64 p] 29 (0, 0)) := by rw [hw0]; exact heap_alloc_new w _
  have HX : Hid (∀ W, Below w0.heap.size w0 W → W.cell? ⟨w.heap.size, 0, none⟩ = some (.bool nt) ∧ W.cell? ⟨w.heap.size, 1, none⟩ = some (.slice a L.length ca) ∧ W.cell? ⟨w.heap.size, 2, none⟩ = some (.slice b R.length cb) ∧ W.cell? ⟨w.heap.size, 3, none⟩ = some (.string c) ∧ W.cell? ⟨w.heap.size, 4, none⟩ = some (.int .i64 p)) := hid0 (fun W hW => by
    have hr := (hW.block w.heap.size (by omega)).trans hX0
    exact ⟨by rw [cell_of_row _ _ _ _ _ _ hr]; rfl, by rw [cell_of_row _ _ _ _ _ _ hr]; rfl, by rw [cell_of_row _ _ _ _ _ _ hr]; rfl, by rw [cell_of_row _ _ _ _ _ _ hr]; rfl, by rw [cell_of_row _ _ _ _ _ _ hr]; rfl⟩)
  obtain ⟨x0, x1, x2, x3, x4⟩ := HX.out w0 (Below.refl _ _)
  have HSA := hid0 (ha.below hB0)
  have HRA := hid0 (hb.below hB0)
  have HB0 := hid0 hB0
  have HS0 := hid0 hs0
  have HC := hid0 (set_any nt L R a b ca cb w0 hl hr hnN hnR (ha.below hB0) (hb.below hB0))
  have HL := hid0 hl
  have HR := hid0 hr
  have hfold := hw0.symm
  clear ha hb hB0 hw0 hX0 hs0 hnN hnR hl hr
  have M0 : Hid True := trivial
  go_enter Try.func3, Try.ntmps3
  go_wp2_with (first
    | (go_at_call 4; clear M0
       refine HC.out.mono ?_
       rintro e w1 ⟨g, cap, h, cap', rfl, hN, hR, hgh, hb1⟩
       obtain ⟨y0, y1, y2, y3, y4⟩ := HX.out w1 hb1
       obtain ⟨wk, hwk⟩ : ∃ wk, wk = w1.alloc (.cells #[.bool nt, .slice (some ⟨g, 0, none⟩) L.length cap, .slice (some ⟨h, 0, none⟩) R.length cap'] 25) := ⟨_, rfl⟩
       have c3 : (w1.alloc (.cells #[.bool nt, .slice (some ⟨g, 0, none⟩) L.length cap, .slice (some ⟨h, 0, none⟩) R.length cap'] 25)).cell? ⟨w.heap.size, 3, none⟩ = some (.string c) := cell_alloc y3 _
       have c4 : (w1.alloc (.cells #[.bool nt, .slice (some ⟨g, 0, none⟩) L.length cap, .slice (some ⟨h, 0, none⟩) R.length cap'] 25)).cell? ⟨w.heap.size, 4, none⟩ = some (.int .i64 p) := cell_alloc y4 _
       have hbk : Below w0.heap.size w0 wk := by rw [hwk]; exact hb1.alloc hb1.size _
       have hsk : wk.heap.size = w1.heap.size + 1 := by rw [hwk]; simp
       have hXk : wk.heap[w1.heap.size]? = some (.cells #[.bool nt, .slice (some ⟨g, 0, none⟩) L.length cap, .slice (some ⟨h, 0, none⟩) R.length cap'] 25 (0, 0)) := by rw [hwk]; exact heap_alloc_new w1 _
       have HT : Hid (∀ W : World, W.heap[w1.heap.size]? = wk.heap[w1.heap.size]? → W.cell? ⟨w1.heap.size, 0, none⟩ = some (.bool nt) ∧ W.cell? ⟨w1.heap.size, 1, none⟩ = some (.slice (some ⟨g, 0, none⟩) L.length cap) ∧ W.cell? ⟨w1.heap.size, 2, none⟩ = some (.slice (some ⟨h, 0, none⟩) R.length cap')) := hid0 (fun W hW => set_cells (hW.trans hXk))
       have HN : Hid (OwnS wk w0.heap.size (.slice (some ⟨g, 0, none⟩) (L.length + 1) cap) (L ++ [markB])) := hid0 (by rw [hwk]; exact World.ownsRow.alloc hN _)
       have HRk : Hid (OwnR wk w0.heap.size (.slice (some ⟨h, 0, none⟩) (R.length + 1) cap') (R ++ [(-77, 0)])) := hid0 (by rw [hwk]; exact World.ownsRow.alloc hR _)
       have HGl : Hid (w0.heap.size ≤ g ∧ g < w1.heap.size ∧ w0.heap.size ≤ h ∧ h < w1.heap.size) := hid0 ⟨(World.ownsRow.lt hN g rfl).1, (World.ownsRow.lt hN g rfl).2, (World.ownsRow.lt hR h rfl).1, (World.ownsRow.lt hR h rfl).2⟩
       have HGH := hid0 hgh
       have HBK := hid0 hbk
       have HSK := hid0 hsk
       have HWK := hid0 hwk.symm
       have M1 : Hid True := trivial
       clear hN hR hgh hb1 hwk hbk hsk hXk y0 y1 y2 y3 y4)
    | (go_at_call 5; clear M1
       rw [HWK.out]
       refine (holds_any nt L R (some ⟨g, 0, none⟩) (some ⟨h, 0, none⟩) cap cap' c p wk (by have := HL.out; omega) (by have := HR.out; omega) (SA.front (ownS_sa HN.out)) (RA.front (ownR_ra HRk.out))).mono ?_
       rintro e w2 ⟨rfl, hb2⟩
       obtain ⟨y0, y1, y2, y3, y4⟩ := HX.out w2 (Below.later HBK.out hb2)
       obtain ⟨t0, t1, t2⟩ := HT.out w2 (hb2.block _ (by have := HSK.out; omega))
       have HB2 := hid0 hb2
       have M2 : Hid True := trivial
       clear hb2 c3 c4 x0 x1 x2 x3 x4 hfold)
    | (go_at_call 6; clear M2
       refine (sameSet nt L R (some ⟨g, 0, none⟩) (some ⟨h, 0, none⟩) a b cap cap' ca cb w2 (by have := HL.out; omega) (by have := HR.out; omega) ((SA.front (ownS_sa HN.out)).below HB2.out) ((RA.front (ownR_ra HRk.out)).below HB2.out) ((HSA.out.below HBK.out).below HB2.out) ((HRA.out.below HBK.out).below HB2.out)).mono ?_
       rintro e w3 ⟨rfl, hb3'⟩
       have hb3 := Below.later HB2.out hb3'
       obtain ⟨z0, z1, z2, z3, z4⟩ := HX.out w3 (Below.later HBK.out hb3)
       obtain ⟨u0, u1, u2⟩ := HT.out w3 (hb3.block _ (by have := HSK.out; omega))
       have HB3 := hid0 hb3
       have M3 : Hid True := trivial
       clear hb3 hb3' HB2 y0 y1 y2 y3 y4 t0 t1 t2)
    | (go_at_call 7; clear M3
       have hSN := (ownS_sa HN.out).below HB3.out
       have hSR := (ownR_ra HRk.out).below HB3.out
       obtain ⟨b1, o1, e1, _, d1⟩ := hSN.at' L.length (by simp)
       cases e1
       obtain ⟨b2, o2, e2, d2, _⟩ := hSR.at' R.length (by simp)
       cases e2
       simp only [Nat.zero_add, List.getElem_append_right (Nat.le_refl _), Nat.sub_self, List.getElem_cons_zero] at d1 d2
       refine (setLeft_any nt L.length R.length g h cap cap' w3 (by have := HL.out; omega) (by have := HR.out; omega) (own_cap (ownS_row HN.out (by simp))) (own_cap (ownR_row HRk.out (by simp))) d1 d2).mono ?_
       rintro e w4 ⟨rfl, hb4'⟩
       have hb4 := Below.later HB3.out hb4'
       obtain ⟨y0, y1, y2, y3, y4⟩ := HX.out w4 (Below.later HBK.out hb4)
       obtain ⟨t0, t1, t2⟩ := HT.out w4 (hb4.block _ (by have := HSK.out; omega))
       have HB4 := hid0 hb4
       have M4 : Hid True := trivial
       clear hb4 hb4' HB3 z0 z1 z2 z3 z4 u0 u1 u2 hSN hSR d1 d2)
    | (go_at_call 8; clear M4
       refine (refHolds_any nt L R a b ca cb c p w4 (by have := HL.out; omega) (by have := HR.out; omega) ((HSA.out.below HBK.out).below HB4.out) ((HRA.out.below HBK.out).below HB4.out)).mono ?_
       rintro e w5 ⟨rfl, hb5'⟩
       have hb5 := Below.later HB4.out hb5'
       obtain ⟨z0, z1, z2, z3, z4⟩ := HX.out w5 (Below.later HBK.out hb5)
       obtain ⟨u0, u1, u2⟩ := HT.out w5 (hb5.block _ (by have := HSK.out; omega))
       have HB5 := hid0 hb5
       have M5 : Hid True := trivial
       generalize holdsF nt L R c p = res at *
       have hres : (res != res) = false := by simp
       clear hb5 hb5' HB4 y0 y1 y2 y3 y4 t0 t1 t2)
    | (go_at_call 9; clear M5
       refine (overSet_any nt L R g h cap cap' w0.heap.size w5 HGH.out (by have := HL.out; omega) (by have := HR.out; omega) (own_blk HN.out (fun k hk => by cases hk; exact HB5.out.block g (by have := HSK.out; have := HGl.out; omega))) (own_blk HRk.out (fun k hk => by cases hk; exact HB5.out.block h (by have := HSK.out; have := HGl.out; omega)))).mono ?_
       rintro e w6 ⟨⟨v6, rfl⟩, ⟨L', R', hL', hR', hS', hR''⟩, ho6⟩
       have hsz5 := HB5.out.size
       have hgl := HGl.out
       have hsk := HSK.out
       have hs0 := HS0.out
       have hbx : Below w0.heap.size w0 w6 := ho6.belowAfter (Below.later HBK.out HB5.out) (Nat.le_refl _) (fun i hi => by rcases hi with rfl | rfl <;> omega)
       obtain ⟨y0, y1, y2, y3, y4⟩ := HX.out w6 hbx
       obtain ⟨t0, t1, t2⟩ := HT.out w6 ((ho6.block w1.heap.size (by omega) (fun hi => by omega)).trans (HB5.out.block _ (by omega)))
       have HS6 := hid0 hS'
       have HR6 := hid0 hR''
       have HL6 := hid0 hL'
       have HR7 := hid0 hR'
       have HB6 := hid0 hbx
       have M6 : Hid True := trivial
       clear hL' hR' hS' hR'' ho6 hsz5 hgl hsk hs0 hbx HB5 z0 z1 z2 z3 z4 u0 u1 u2)
    | (go_at_call 8; clear M6
       have hc := refHolds_any nt L' R' (some ⟨g, 0, none⟩) (some ⟨h, 0, none⟩) cap cap' c p w6 (by have := HL.out; have := HL6.out; omega) (by have := HR.out; have := HR7.out; omega) HS6.out HR6.out
       rw [HL6.out, HR7.out] at hc
       refine hc.mono ?_
       clear hc
       rintro e w7 ⟨rfl, hb7⟩
       obtain ⟨z0, z1, z2, z3, z4⟩ := HX.out w7 (Below.later HB6.out hb7)
       have hsz := HB6.out.size
       obtain ⟨u0, u1, u2⟩ : w7.cell? ⟨w1.heap.size, 0, none⟩ = some (.bool nt) ∧ w7.cell? ⟨w1.heap.size, 1, none⟩ = some (.slice (some ⟨g, 0, none⟩) L.length cap) ∧ w7.cell? ⟨w1.heap.size, 2, none⟩ = some (.slice (some ⟨h, 0, none⟩) R.length cap') := ⟨(hb7.cell (p := ⟨w1.heap.size, 0, none⟩) (World.block_lt_of_cell? w6 _ t0)).trans t0, (hb7.cell (p := ⟨w1.heap.size, 1, none⟩) (World.block_lt_of_cell? w6 _ t1)).trans t1, (hb7.cell (p := ⟨w1.heap.size, 2, none⟩) (World.block_lt_of_cell? w6 _ t2)).trans t2⟩
       have HB7 := hid0 hb7
       have M7 : Hid True := trivial
       clear hb7 hsz y0 y1 y2 y3 y4 t0 t1 t2)
    | (go_at_call 5; clear M7
       have hc := holds_any nt L' R' (some ⟨g, 0, none⟩) (some ⟨h, 0, none⟩) cap cap' c p w7 (by have := HL.out; have := HL6.out; omega) (by have := HR.out; have := HR7.out; omega) (HS6.out.below HB7.out) (HR6.out.below HB7.out)
       rw [HL6.out, HR7.out] at hc
       refine hc.mono ?_
       clear hc
       rintro e w8 ⟨rfl, hb8⟩
       have HB8 : Hid (Below w.heap.size w w8) := hid0 (Below.later (Below.later (Below.later HB0.out HB6.out) HB7.out) hb8)
       generalize holdsF nt L' R' c p = res2 at *
       have hres2 : (res2 == res2) = true := by simp
       clear hb8 z0 z1 z2 z3 z4 u0 u1 u2))
  go_ret
  exact ⟨by simp, HB8.out⟩
end Go.Proofs.Ytiebndgpbgiclaa
