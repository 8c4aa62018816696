/-
  ExSmW, ExWdW, ExWiW, ExWeW, ExWgM, ExWhW, ExWrW, ExWfM, ExWkM, ExWlW, Door, WrdP.
-/
import Derived.Test.YthfnaalbgjeaeaaDoorMwa
import Derived.Test.YthfnaalbgjeaeaaDoorMwc
import Derived.Test.YthfnaalbgjeaeaaDoorMwb
import Derived.Lib.SmallJoins
import Derived.Deep.RegionHeldLaw
import Derived.Test.YthfnaalbgjeaeaaDoorCards
import Derived.Test.YthfnaalbgjeaeaaDoorTie
import Derived.WalkKit
import Derived.ProofKit
import Derived.OpenShut
import Derived.Deep.DeepHandedRow
import Derived.Lib.LaidTab
import Derived.Stop.LaidErr
import Derived.Lib.LaidU8
import Derived.Shelf.Vars
import Derived.Lay
import Derived.LaidMore
import Derived.ChangeSlices
import Derived.Deep.Slices
namespace Go.Proofs.YthfnaalbgjeaeaaDoor
open Go.RowKit Go.Shelf
def SameP (w : World) (e : Ex) (x : EV) : Prop := ∀ (W : World) (y : EV) (Q' : Nat → Prop), Below w.heap.size w W → ExIs W Q' e y → Calls Tryd.prog 7 #[x.v, y.v] W fun r w' => r = .returned (.bool true) ∧ Below W.heap.size W w'
set_option maxRecDepth 10000 in
set_option maxHeartbeats 3200000 in
theorem sameE {w : World} {Q : Nat → Prop} {e : Ex} {x : EV} (h : ExIs w Q e x) : SameP w e x := by
  induction h with
  | mk k nt N P L a ca b cb c cc vs hN hP lN lP lL hL hR ih =>
    intro W y Q' hWb hy
    obtain ⟨a2, ca2, b2, cb2, c2, cc2, rfl, hN2, hP2, _, _, _, ws, hL2, hR2⟩ := hy.shape
    obtain ⟨w0, hw0⟩ : ∃ w0, w0 = (W.alloc (.cells #[.int .i64 k, .bool nt, .slice a N.length ca, .slice b P.length cb, .slice c L.length cc] 30)).alloc (.cells #[.int .i64 k, .bool nt, .slice a2 N.length ca2, .slice b2 P.length cb2, .slice c2 L.length cc2] 30) := ⟨_, rfl⟩
    have hb0 : Below W.heap.size W w0 := by rw [hw0]; exact ((Below.refl _ _).alloc (Nat.le_refl _) _).alloc (by simp) _
    have hX0 : w0.heap[W.heap.size]? = some (.cells #[.int .i64 k, .bool nt, .slice a N.length ca, .slice b P.length cb, .slice c L.length cc] 30 (0, 0)) := by
      rw [hw0]
      exact (Below.heap_alloc _ _ _ (by simp)).trans (heap_alloc_new W _)
    have hX1 : w0.heap[W.heap.size + 1]? = some (.cells #[.int .i64 k, .bool nt, .slice a2 N.length ca2, .slice b2 P.length cb2, .slice c2 L.length cc2] 30 (0, 0)) := by
      rw [hw0]
      have h := heap_alloc_new (W.alloc (.cells #[.int .i64 k, .bool nt, .slice a N.length ca, .slice b P.length cb, .slice c L.length cc] 30)) (.cells #[.int .i64 k, .bool nt, .slice a2 N.length ca2, .slice b2 P.length cb2, .slice c2 L.length cc2] 30)
      simp only [World.size_alloc] at h
      exact h
    have HX : Hid (∀ V, Below w0.heap.size w0 V → (V.cell? ⟨W.heap.size, 0, none⟩ = some (.int .i64 k) ∧ V.cell? ⟨W.heap.size, 1, none⟩ = some (.bool nt) ∧ V.cell? ⟨W.heap.size, 2, none⟩ = some (.slice a N.length ca) ∧ V.cell? ⟨W.heap.size, 3, none⟩ = some (.slice b P.length cb) ∧ V.cell? ⟨W.heap.size, 4, none⟩ = some (.slice c L.length cc)) ∧
        V.cell? ⟨W.heap.size + 1, 0, none⟩ = some (.int .i64 k) ∧ V.cell? ⟨W.heap.size + 1, 1, none⟩ = some (.bool nt) ∧ V.cell? ⟨W.heap.size + 1, 2, none⟩ = some (.slice a2 N.length ca2) ∧ V.cell? ⟨W.heap.size + 1, 3, none⟩ = some (.slice b2 P.length cb2) ∧ V.cell? ⟨W.heap.size + 1, 4, none⟩ = some (.slice c2 L.length cc2)) := hid0 (fun V hV => by
      have p := (hV.block _ (lt_of_rowC hX0)).trans hX0
      have q := (hV.block _ (lt_of_rowC hX1)).trans hX1
      exact ⟨⟨by rw [cell_of_row _ _ _ _ _ _ p]; rfl, by rw [cell_of_row _ _ _ _ _ _ p]; rfl, by rw [cell_of_row _ _ _ _ _ _ p]; rfl, by rw [cell_of_row _ _ _ _ _ _ p]; rfl, by rw [cell_of_row _ _ _ _ _ _ p]; rfl⟩, by rw [cell_of_row _ _ _ _ _ _ q]; rfl, by rw [cell_of_row _ _ _ _ _ _ q]; rfl, by rw [cell_of_row _ _ _ _ _ _ q]; rfl, by rw [cell_of_row _ _ _ _ _ _ q]; rfl, by rw [cell_of_row _ _ _ _ _ _ q]; rfl⟩)
    have HSt := hid0 (sameSet nt N P a b a2 b2 ca cb ca2 cb2 w0 (by omega) (by omega) ((hN.sa.below hWb).below hb0) ((hP.ra.below hWb).below hb0) (hN2.sa.below hb0) (hP2.ra.below hb0))
    have HLx : Hid (LA w Q c L vs) := hid0 ⟨hL, hR⟩
    have HLy : Hid (LA W Q' c2 L ws) := hid0 ⟨hL2, hR2⟩
    have HIH := hid0 ih
    have HWb := hid0 hWb
    have HB0 := hid0 hb0
    obtain ⟨⟨x0, x1, x2, x3, x4⟩, y0, y1, y2, y3, y4⟩ := HX.out w0 (Below.refl _ _)
    have hf := hw0.symm
    unfold EV.v
    clear hy hN hP hL hR ih hN2 hP2 hL2 hR2 hw0 hb0 hX0 hX1 hWb
    go_enter Tryd.func7, Tryd.ntmps7
    go_wp2_with (go_at_call 15; refine HSt.out.mono ?_; rintro r w1 ⟨rfl, hb1⟩; obtain ⟨⟨u0, u1, u2, u3, u4⟩, v0, v1, v2, v3, v4⟩ := HX.out w1 hb1; have HB1 := hid0 hb1; clear hb1)
    clear x0 x1 x2 x3 x4 y0 y1 y2 y3 y4 u0 u1 u2 u3 u4 v0 v1 v2 v3 v4 hf
    go_loopw [6, 7] (fun i _ wr => ∃ m : Nat, m ≤ L.length ∧ i = .int .i64 (m : Int) ∧ Hid (Below w0.heap.size w0 wr)) (fun i _ _ => L.length - (intOf i).toNat)
    case atStart => exact ⟨0, Nat.zero_le _, rfl, HB1⟩
    case round =>
      clear HB1
      obtain ⟨m, hm, rfl, HB⟩ := hrel
      obtain ⟨⟨u0, u1, u2, u3, u4⟩, v0, v1, v2, v3, v4⟩ := HX.out wr HB.out
      clear u0 u1 u2 u3 v0 v1 v2 v3
      by_cases hlt : m < L.length
      · have hmI : (m : Int) < (L.length : Int) := by omega
        have hm0 : (0 : Int) ≤ (m : Int) := by omega
        have hbw := Below.later HWb.out (Below.later HB0.out HB.out)
        have hbW := Below.later HB0.out HB.out
        have hlx := HLx.out.keeps (Keeps.past hbw)
        have hly := HLy.out.keeps (Keeps.past hbW)
        obtain ⟨g1, o1, rfl, hg1, e0, e1, e2, e3, e4⟩ := hlx.at' m hlt
        obtain ⟨g2, o2, rfl, hg2, i0, i1, i2, i3, i4⟩ := hly.at' m hlt
        obtain ⟨f0, ⟨t5, f1⟩, ⟨a5, m5, c5, f2⟩, ⟨b5, n5, d5, f3⟩, ⟨g5, l5, z5, f4⟩⟩ := (hlx.is m hlt).form
        obtain ⟨h0, ⟨t6, h1⟩, ⟨a6, m6, c6, h2⟩, ⟨b6, n6, d6, h3⟩, ⟨g6, l6, z6, h4⟩⟩ := (hly.is m hlt).form
        have HCa : Hid (∀ V, Below w0.heap.size w0 V → Calls Tryd.prog 7 #[.agg #[.int .i64 L[m].kind, .bool t5, .slice a5 m5 c5, .slice b5 n5 d5, .slice g5 l5 z5], .agg #[.int .i64 L[m].kind, .bool t6, .slice a6 m6 c6, .slice b6 n6 d6, .slice g6 l6 z6]] V fun r w' => r = .returned (.bool true) ∧ Below V.heap.size V w') := hid0 (fun V hV => by
          have h := HIH.out m hlt V (ws m) Q' (Below.later HWb.out (Below.later HB0.out hV)) ((HLy.out.keeps (Keeps.past (Below.later HB0.out hV))).is m hlt)
          unfold EV.v at h
          rw [f0, f1, f2, f3, f4, h0, h1, h2, h3, h4] at h
          exact h)
        rw [f0] at e0
        rw [f1] at e1
        rw [f2] at e2
        rw [f3] at e3
        rw [f4] at e4
        rw [h0] at i0
        rw [h1] at i1
        rw [h2] at i2
        rw [h3] at i3
        rw [h4] at i4
        have HSo0 : Hid (∀ V, Below wr.heap.size wr V → Below w0.heap.size w0 V) := hid0 (fun V h => Below.later HB.out h)
        generalize L[m].kind = lk at *
        clear hlx hly f0 f1 f2 f3 f4 h0 h1 h2 h3 h4 hg1 hg2 hbw hbW
        have HSo : Hid (∀ V, Below wr.heap.size wr V → (fun V => V.cell? ⟨W.heap.size, 4, none⟩ = some (.slice (some ⟨g1, o1, none⟩) L.length cc) ∧ V.cell? ⟨W.heap.size + 1, 4, none⟩ = some (.slice (some ⟨g2, o2, none⟩) L.length cc2) ∧ V.cell? ⟨g1, o1 + m * 5, none⟩ = some (.int .i64 lk) ∧ V.cell? ⟨g1, o1 + m * 5 + 1, none⟩ = some (.bool t5) ∧ V.cell? ⟨g1, o1 + m * 5 + 2, none⟩ = some (.slice a5 m5 c5) ∧ V.cell? ⟨g1, o1 + m * 5 + 3, none⟩ = some (.slice b5 n5 d5) ∧ V.cell? ⟨g1, o1 + m * 5 + 4, none⟩ = some (.slice g5 l5 z5) ∧ V.cell? ⟨g2, o2 + m * 5, none⟩ = some (.int .i64 lk) ∧ V.cell? ⟨g2, o2 + m * 5 + 1, none⟩ = some (.bool t6) ∧ V.cell? ⟨g2, o2 + m * 5 + 2, none⟩ = some (.slice a6 m6 c6) ∧ V.cell? ⟨g2, o2 + m * 5 + 3, none⟩ = some (.slice b6 n6 d6) ∧ V.cell? ⟨g2, o2 + m * 5 + 4, none⟩ = some (.slice g6 l6 z6) ∧ Below w0.heap.size w0 V) V) := hid0 (fun V h => ⟨(h.cell (World.block_lt_of_cell? wr _ u4)).trans u4, (h.cell (World.block_lt_of_cell? wr _ v4)).trans v4, (h.cell (World.block_lt_of_cell? wr _ e0)).trans e0, (h.cell (World.block_lt_of_cell? wr _ e1)).trans e1, (h.cell (World.block_lt_of_cell? wr _ e2)).trans e2, (h.cell (World.block_lt_of_cell? wr _ e3)).trans e3, (h.cell (World.block_lt_of_cell? wr _ e4)).trans e4, (h.cell (World.block_lt_of_cell? wr _ i0)).trans i0, (h.cell (World.block_lt_of_cell? wr _ i1)).trans i1, (h.cell (World.block_lt_of_cell? wr _ i2)).trans i2, (h.cell (World.block_lt_of_cell? wr _ i3)).trans i3, (h.cell (World.block_lt_of_cell? wr _ i4)).trans i4, Below.later HB.out h⟩)
        go_wp2
        refine wp_region_held_drew (S := (fun V => V.cell? ⟨W.heap.size, 4, none⟩ = some (.slice (some ⟨g1, o1, none⟩) L.length cc) ∧ V.cell? ⟨W.heap.size + 1, 4, none⟩ = some (.slice (some ⟨g2, o2, none⟩) L.length cc2) ∧ V.cell? ⟨g1, o1 + m * 5, none⟩ = some (.int .i64 lk) ∧ V.cell? ⟨g1, o1 + m * 5 + 1, none⟩ = some (.bool t5) ∧ V.cell? ⟨g1, o1 + m * 5 + 2, none⟩ = some (.slice a5 m5 c5) ∧ V.cell? ⟨g1, o1 + m * 5 + 3, none⟩ = some (.slice b5 n5 d5) ∧ V.cell? ⟨g1, o1 + m * 5 + 4, none⟩ = some (.slice g5 l5 z5) ∧ V.cell? ⟨g2, o2 + m * 5, none⟩ = some (.int .i64 lk) ∧ V.cell? ⟨g2, o2 + m * 5 + 1, none⟩ = some (.bool t6) ∧ V.cell? ⟨g2, o2 + m * 5 + 2, none⟩ = some (.slice a6 m6 c6) ∧ V.cell? ⟨g2, o2 + m * 5 + 3, none⟩ = some (.slice b6 n6 d6) ∧ V.cell? ⟨g2, o2 + m * 5 + 4, none⟩ = some (.slice g6 l6 z6) ∧ Below w0.heap.size w0 V)) (by kernel_rfl) ?_ (fun hHeld => ?_)
        · exact HSo.out _ ((Below.refl _ wr).drew)
        have HBd := hid0 ((Below.refl wr.heap.size wr).drew)
        refine tkV (i := 0) (d := some 38) (v := ?_) rfl (by kernel_rfl) (by kernel_rfl) (by kernel_rfl) rfl (fun _ _ _ h => h) (by rfl) ?_ (by assumption) ?_
        rotate_left
        · (intro w hSw; (try dsimp only at hSw); (try simp only [List.getElem_toArray, List.getElem_cons_zero]); go_simp; try with_reducible rfl)
        simp only [Act.put, List.setIfInBounds_toArray, List.set_cons_zero, List.set_cons_succ]
        refine tkV (i := 1) (d := some 39) (v := ?_) rfl (by kernel_rfl) (by kernel_rfl) (by kernel_rfl) rfl (fun _ _ _ h => h) (by rfl) ?_ (by assumption) ?_
        rotate_left
        · (intro w hSw; (try dsimp only at hSw); (try simp only [List.getElem_toArray, List.getElem_cons_zero, List.getElem_cons_succ]); go_simp; try with_reducible rfl)
        simp only [Act.put, List.setIfInBounds_toArray, List.set_cons_zero, List.set_cons_succ]
        refine tkV (i := 2) (d := some 40) (v := ?_) rfl (by kernel_rfl) (by kernel_rfl) (by kernel_rfl) rfl (fun _ _ _ h => h) (by rfl) ?_ (by assumption) ?_
        rotate_left
        · (intro w hSw; (try dsimp only at hSw); (try simp only [List.getElem_toArray, List.getElem_cons_zero, List.getElem_cons_succ]); go_simp; try with_reducible rfl)
        simp only [Act.put, List.setIfInBounds_toArray, List.set_cons_zero, List.set_cons_succ]
        refine tkV (i := 3) (d := some 41) (v := ?_) rfl (by kernel_rfl) (by kernel_rfl) (by kernel_rfl) rfl (fun _ _ _ h => h) (by rfl) ?_ (by assumption) ?_
        rotate_left
        · (intro w hSw; (try dsimp only at hSw); (try simp only [List.getElem_toArray, List.getElem_cons_zero, List.getElem_cons_succ]); go_simp; try with_reducible rfl)
        simp only [Act.put, List.setIfInBounds_toArray, List.set_cons_zero, List.set_cons_succ]
        refine tkV (i := 4) (d := some 42) (v := ?_) rfl (by kernel_rfl) (by kernel_rfl) (by kernel_rfl) rfl (fun _ _ _ h => h) (by rfl) ?_ (by assumption) ?_
        rotate_left
        · (intro w hSw; (try dsimp only at hSw); (try simp only [List.getElem_toArray, List.getElem_cons_zero, List.getElem_cons_succ]); go_simp; try with_reducible rfl)
        simp only [Act.put, List.setIfInBounds_toArray, List.set_cons_zero, List.set_cons_succ]
        refine tkV (i := 5) (d := some 43) (v := ?_) rfl (by kernel_rfl) (by kernel_rfl) (by kernel_rfl) rfl (fun _ _ _ h => h) (by rfl) ?_ (by assumption) ?_
        rotate_left
        · (intro w hSw; (try dsimp only at hSw); (try simp only [List.getElem_toArray, List.getElem_cons_zero, List.getElem_cons_succ]); go_simp; try with_reducible rfl)
        simp only [Act.put, List.setIfInBounds_toArray, List.set_cons_zero, List.set_cons_succ]
        refine tkV (i := 6) (d := some 44) (v := ?_) rfl (by kernel_rfl) (by kernel_rfl) (by kernel_rfl) rfl (fun _ _ _ h => h) (by rfl) ?_ (by assumption) ?_
        rotate_left
        · (intro w hSw; (try dsimp only at hSw); (try simp only [List.getElem_toArray, List.getElem_cons_zero, List.getElem_cons_succ]); go_simp; try with_reducible rfl)
        simp only [Act.put, List.setIfInBounds_toArray, List.set_cons_zero, List.set_cons_succ]
        refine tkV (i := 7) (d := some 45) (v := ?_) rfl (by kernel_rfl) (by kernel_rfl) (by kernel_rfl) rfl (fun _ _ _ h => h) (by rfl) ?_ (by assumption) ?_
        rotate_left
        · (intro w hSw; (try dsimp only at hSw); (try simp only [List.getElem_toArray, List.getElem_cons_zero, List.getElem_cons_succ]); go_simp; try with_reducible rfl)
        simp only [Act.put, List.setIfInBounds_toArray, List.set_cons_zero, List.set_cons_succ]
        refine tkV (i := 8) (d := some 46) (v := ?_) rfl (by kernel_rfl) (by kernel_rfl) (by kernel_rfl) rfl (fun _ _ _ h => h) (by rfl) ?_ (by assumption) ?_
        rotate_left
        · (intro w hSw; (try dsimp only at hSw); (try simp only [List.getElem_toArray, List.getElem_cons_zero, List.getElem_cons_succ]); go_simp; try with_reducible rfl)
        simp only [Act.put, List.setIfInBounds_toArray, List.set_cons_zero, List.set_cons_succ]
        refine tkV (i := 9) (d := some 47) (v := ?_) rfl (by kernel_rfl) (by kernel_rfl) (by kernel_rfl) rfl (fun _ _ _ h => h) (by rfl) ?_ (by assumption) ?_
        rotate_left
        · (intro w hSw; (try dsimp only at hSw); (try simp only [List.getElem_toArray, List.getElem_cons_zero, List.getElem_cons_succ]); go_simp; try with_reducible rfl)
        simp only [Act.put, List.setIfInBounds_toArray, List.set_cons_zero, List.set_cons_succ]
        refine wpAnyH_ready (rs := [10]) (by kernel_rfl) (by simp) (AllReadyH.cons rfl (fun K hK => ?_) AllReadyH.nil)
        try simp only [List.getElem_toArray, List.getElem_cons_zero, List.getElem_cons_succ]
        go_simp
        go_split_ands
        refine (HCa.out _ (HSo0.out _ HBd.out)).mono ?_
        rintro r w6 ⟨rfl, hb6⟩
        have HB6 := hid0 (Below.later HBd.out hb6)
        clear hb6
        go_wp2_with fail
        refine hK.out _ _ ?_ (fun hHeld2 => ?_)
        · exact HSo.out _ HB6.out
        clear hK K
        (try simp only [Act.put]); (try simp only [List.setIfInBounds_toArray]); (try simp only [List.set_cons_succ]); (try simp only [List.set_cons_zero])
        refine wpAnyH_ready (rs := [11]) (by kernel_rfl) (by simp) (AllReadyH.cons rfl (fun K hK => ?_) AllReadyH.nil)
        try simp only [List.getElem_toArray, List.getElem_cons_zero, List.getElem_cons_succ]
        go_simp
        refine hK.out _ _ ?_ (fun hHeld3 => ?_)
        · exact HSo.out _ HB6.out
        clear hK K
        (try simp only [Act.put]); (try simp only [List.setIfInBounds_toArray]); (try simp only [List.set_cons_succ]); (try simp only [List.set_cons_zero])
        refine wpAnyH_done (by kernel_rfl) ?_ _
        try clear hHeld2
        try clear hHeld3
        clear HSo HBd HCa e0 e1 e2 e3 e4 i0 i1 i2 i3 i4
        go_wp2
        go_roundw
        case rel => exact ⟨m + 1, by omega, by go_num, hid0 (Below.later HB.out HB6.out)⟩
        case measure => simp [intOf]; omega
      · have hmI : ¬ (m : Int) < (L.length : Int) := by omega
        go_wp2
        go_ret
        exact ⟨rfl, Below.later HB0.out HB.out⟩
end Go.Proofs.YthfnaalbgjeaeaaDoor
namespace Go.Proofs.YthfnaalbgjeaeaaDoor
open Go.RowKit Go.Shelf
/-- The expression of one point. -/
def ptE (p : Int) : Ex := .mk 2 false [] [(p, p)] []
def ptV (g c : Nat) : EV := ⟨.int .i64 2, .bool false, .slice none 0 0, .slice (some ⟨g, 0, none⟩) 1 c, .slice none 0 0⟩
/-- The expression of a word. -/
def wordE (L : List Int) : Ex := match L with
  | [] => .mk 1 false [] [] []
  | [p] => ptE p
  | L => .mk 3 false [] [] (L.map ptE)
theorem ptE_is {w : World} {Q : Nat → Prop} {g c : Nat} {p : Int} (hq : Q g) (h : w.heap[g]? = some (.cells #[.int .i64 p, .int .i64 p] 45 (0, 0))) : ExIs w Q (ptE p) (ptV g c) := by
  have h0 : w.cell? ⟨g, 0, none⟩ = some (.int .i64 p) := by rw [cell_of_row _ _ _ _ _ _ h]; rfl
  have h1 : w.cell? ⟨g, 1, none⟩ = some (.int .i64 p) := by rw [cell_of_row _ _ _ _ _ _ h]; rfl
  exact .mk 2 false [] [(p, p)] [] none 0 (some ⟨g, 0, none⟩) c none 0 (fun _ => ptV g c) (SQ.nil _ _ _) ⟨fun k hk => by
    have : k = 0 := by simpa using hk
    subst this
    exact ⟨g, 0, rfl, hq, h0, h1⟩⟩ (by simp) (by simp) (by simp) (fun i hi => absurd hi (Nat.not_lt_zero _)) (fun i hi => absurd hi (Nat.not_lt_zero _))
set_option maxRecDepth 10000 in
set_option maxHeartbeats 800000 in
theorem onePoint_any (p : Int) (w : World) : Calls Tryd.prog 13 #[.int .i64 p] w fun r w' => ∃ g, r = .returned (ptV g 1).v ∧ w.heap.size ≤ g ∧ w'.heap[g]? = some (.cells #[.int .i64 p, .int .i64 p] 45 (0, 0)) ∧ Below w.heap.size w w' := by
  unfold ptV EV.v
  simp only
  go_enter Tryd.func13, Tryd.ntmps13
  go_wp2
  obtain ⟨w2, hw2⟩ : ∃ w2, w2 = (w.alloc (.cells #[.int .i64 2, .bool false, .slice none 0 0, .slice (some ⟨w.heap.size + 1, 0, none⟩) 1 1, .slice none 0 0] 30)).alloc (.cells #[.int .i64 p, .int .i64 p] 45) := ⟨_, rfl⟩
  have hb : Below w.heap.size w w2 := by rw [hw2]; exact ((Below.refl _ _).alloc (Nat.le_refl _) _).alloc (by simp) _
  have hX : w2.heap[w.heap.size]? = some (.cells #[.int .i64 2, .bool false, .slice none 0 0, .slice (some ⟨w.heap.size + 1, 0, none⟩) 1 1, .slice none 0 0] 30 (0, 0)) := by
    rw [hw2]
    exact (Below.heap_alloc _ _ _ (by simp)).trans (heap_alloc_new w _)
  have hY : w2.heap[w.heap.size + 1]? = some (.cells #[.int .i64 p, .int .i64 p] 45 (0, 0)) := by
    rw [hw2]
    have h := heap_alloc_new (w.alloc (.cells #[.int .i64 2, .bool false, .slice none 0 0, .slice (some ⟨w.heap.size + 1, 0, none⟩) 1 1, .slice none 0 0] 30)) (.cells #[.int .i64 p, .int .i64 p] 45)
    simp only [World.size_alloc] at h
    exact h
  rw [← hw2]
  have k0 : w2.cell? ⟨w.heap.size, 0, none⟩ = some (.int .i64 2) := by rw [cell_of_row _ _ _ _ _ _ hX]; rfl
  have k1 : w2.cell? ⟨w.heap.size, 1, none⟩ = some (.bool false) := by rw [cell_of_row _ _ _ _ _ _ hX]; rfl
  have k2 : w2.cell? ⟨w.heap.size, 2, none⟩ = some (.slice none 0 0) := by rw [cell_of_row _ _ _ _ _ _ hX]; rfl
  have k3 : w2.cell? ⟨w.heap.size, 3, none⟩ = some (.slice (some ⟨w.heap.size + 1, 0, none⟩) 1 1) := by rw [cell_of_row _ _ _ _ _ _ hX]; rfl
  have k4 : w2.cell? ⟨w.heap.size, 4, none⟩ = some (.slice none 0 0) := by rw [cell_of_row _ _ _ _ _ _ hX]; rfl
  clear hw2 hX
  refine bodyPost_ret (v := .agg #[.int .i64 2, .bool false, .slice none 0 0, .slice (some ⟨w.heap.size + 1, 0, none⟩) 1 1, .slice none 0 0]) (by simp [results, Tryd.results13, go_sem, k0, k1, k2, k3, k4]) rfl ⟨w.heap.size + 1, rfl, by omega, hY, hb⟩
theorem infoExpr : (Tryd.prog.info? 30).map (fun i => (i.zero, i.size, i.bytes)) = some (some (.agg #[.int .i64 0, .bool false, .slice none 0 0, .slice none 0 0, .slice none 0 0]), 5, 88) := by kernel_rfl
/-- The ways that a word's expression is gone. -/
theorem way_word (L : List Int) (h : ∀ p, p ∈ L → 0 ≤ p) : WayP (wordE L) := by
  have hp : ∀ p, 0 ≤ p → WayP (ptE p) := fun p hp => way_set false [] [(p, p)] [] namesC_nil ⟨fun k hk => by
    have : k = 0 := by simpa using hk
    subst this
    exact ⟨hp, Int.le_refl _⟩, fun i j hi hj hij => by
    simp only [List.length_singleton] at hi hj
    omega⟩
  match L, h with
  | [], _ => exact way_none false [] [] []
  | [p], h => exact hp p (h p (by simp))
  | p :: q :: L, h =>
    exact way_seq false [] [] ((p :: q :: L).map ptE) (fun e he => by
      obtain ⟨r, hr, rfl⟩ := List.mem_map.1 he
      exact hp r (h r hr))
theorem allM_word (L : List Int) : AllM (fun _ P => ptsF P) (wordE L) := by
  have hp : ∀ p, AllM (fun _ P => ptsF P) (ptE p) := fun p => .mk 2 false [] [(p, p)] [] (mayC_none _) (fun e he => by cases he)
  match L with
  | [] => exact .mk 1 false [] [] [] (mayC_none _) (fun e he => by cases he)
  | [p] => exact hp p
  | p :: q :: L =>
    exact .mk 3 false [] [] ((p :: q :: L).map ptE) (mayC_none _) (fun e he => by
      obtain ⟨r, _, rfl⟩ := List.mem_map.1 he
      exact hp r)
end Go.Proofs.YthfnaalbgjeaeaaDoor
namespace Go.Proofs.YthfnaalbgjeaeaaDoor
open Go.RowKit Go.Shelf
/-- Numbers in memory. -/
structure IA (w : World) (a : Option Addr) (L : List Int) : Prop where
  at' : ∀ k (h : k < L.length), ∃ b off, a = some ⟨b, off, none⟩ ∧ b < w.heap.size ∧ w.cell? ⟨b, off + k, none⟩ = some (.int .i64 L[k])
theorem IA.past {w w' : World} {a : Option Addr} {L : List Int} (h : IA w a L) (hb : Below w.heap.size w w') : IA w' a L := ⟨fun k hk => by
  obtain ⟨b, off, rfl, h1, h2⟩ := h.at' k hk
  exact ⟨b, off, rfl, Nat.lt_of_lt_of_le h1 hb.size, (hb.cell (p := ⟨b, off + k, none⟩) h1).trans h2⟩⟩
def OwnI (w : World) (base : Nat) (v : Value) (ps : List Int) : Prop := w.ownsRow base 3 1 v ps.length (ps.map (Value.int .i64))
theorem infoInt : (Tryd.prog.info? 3).map (fun i => (i.zero, i.size, i.bytes)) = some (some (.int .i64 0), 1, 8) := by kernel_rfl
theorem OwnI.ia {w : World} {base : Nat} {v : Value} {L : List Int} (h : OwnI w base v L) : ∃ a cap, v = .slice a L.length cap ∧ IA w a L := by
  have h0 := h
  rcases h.2 with ⟨rfl, hn⟩ | ⟨g, cap, cur, rfl, hg, hr, hc, _⟩
  · exact ⟨none, 0, by rw [hn], ⟨fun k hk => by omega⟩⟩
  · refine ⟨_, cap, rfl, ⟨fun k hk => ⟨g, 0, rfl, (World.ownsRow.lt h0 g rfl).2, ?_⟩⟩⟩
    have := World.ownsRow.cellAt h0 k (by omega)
    rw [Nat.zero_add, this]
    simp [hk]
theorem IA.below {w w' : World} {a : Option Addr} {L : List Int} {B : Nat} (h : IA w a L) (hb : Below B w w') (ha : ∀ p, a = some p → p.block < B) : IA w' a L := ⟨fun k hk => by
  obtain ⟨b, off, rfl, h1, h2⟩ := h.at' k hk
  exact ⟨b, off, rfl, Nat.lt_of_lt_of_le h1 hb.size, (hb.cell (p := ⟨b, off + k, none⟩) (ha ⟨b, off, none⟩ rfl)).trans h2⟩⟩
theorem ownI_snoc {w wr w1 : World} {base : Nat} {v v' : Value} {L : List Int} {c : Int} {o : Obj} {n : Nat} (hn : n = L.length) (hown : OwnI wr base v L)
    (hown' : w1.ownsRow base 3 1 v' (n + 1) (L.map (Value.int .i64) ++ [.int .i64 c])) (hgrow : (wr.alloc o).grownBy w1 v.ownBlock) (hbel : Below base w wr) (hb : base ≤ w.heap.size) :
    OwnI w1 base v' (L ++ [c]) ∧ Below base w w1 := by
  subst hn
  have hsz := hbel.size
  refine ⟨?_, (hbel.alloc (by omega) o).grown hgrow (by simp; omega) (fun k hk => (World.ownsRow.lt hown k hk).1)⟩
  unfold OwnI
  rw [List.length_append, List.length_singleton, List.map_append]
  exact hown'
set_option maxRecDepth 10000 in
set_option maxHeartbeats 800000 in
theorem ints_any (L : List Int) (a : Option Addr) (cap : Nat) (w : World) (hl : L.length ≤ 1000000000) (ha : IA w a L) :
    Calls Tryd.prog 12 #[.slice a L.length cap] w fun e w' => ∃ v, e = .returned v ∧ OwnI w' w.heap.size v L ∧ Below w.heap.size w w' := by
  obtain ⟨i0, hi, hz0, hz1, hz2⟩ := info_parts infoInt
  have HA := hid0 ha
  clear ha
  go_enter Tryd.func12, Tryd.ntmps12
  go_wp2
  go_loopw [3, 4] (fun v i wr => ∃ k : Nat, k ≤ L.length ∧ i = .int .i64 (k : Int) ∧ Hid (OwnI wr w.heap.size v (L.take k)) ∧ Hid (Below w.heap.size w wr)) (fun _ i _ => L.length - (intOf i).toNat)
  case atStart => exact ⟨0, Nat.zero_le _, rfl, hid0 (World.ownsRow_nil _ _ _ _), hid0 (Below.refl _ _)⟩
  case round =>
    obtain ⟨k, hk, rfl, HO, HB⟩ := hrel
    have hbs := HB.out.size
    by_cases hlt : k < L.length
    · obtain ⟨b, off, rfl, hbw, hc⟩ := HA.out.at' k hlt
      have hc' := (HB.out.cell (p := ⟨b, off + k, none⟩) hbw).trans hc
      have hkI : (k : Int) < (L.length : Int) := by omega
      have hkI0 : (0 : Int) ≤ (k : Int) := by omega
      have HTK : Hid (L.take (k + 1) = L.take k ++ [L[k]]) := hid0 (by rw [List.take_add_one, List.getElem?_eq_getElem hlt]; rfl)
      have htl : (L.take k).length = k := by rw [List.length_take]; omega
      have hOO : wr.ownsRow w.heap.size 3 1 u3 k ((L.take k).map (Value.int .i64)) := by have h := HO.out; unfold OwnI at h; rw [htl] at h; exact h
      have HOO := hid0 hOO
      have HTL := hid0 htl
      generalize L[k] = s at *
      clear hc hOO htl
      go_wp2_with (at_builtin; refine wpList_append_own _ rfl _ _ 22 rfl w.heap.size 3 i0 (.int .i64 0) 1 8 Tryd.underlying22 hi hz0 hz1 hz2 rfl (by decide) _ _ _ rfl (HOO.out.alloc _) ⟨wr.heap.size, 0, none⟩ 1 1 [.int .i64 s] rfl rfl (cell_one_new _ _ _) ?c2b ?c3b ?c4b ?c5b ?_)
      case c2b => simp [Value.oneCell']
      case c3b => unfold maxLen; omega
      case c4b => omega
      case c5b => simp; omega
      intro v2 w4 hown' hgrow _
      rw [← List.map_take] at hown'
      obtain ⟨g1, g2⟩ := ownI_snoc (w := w) (base := w.heap.size) (L := L.take k) (c := s) (n := k) HTL.out.symm HO.out hown' hgrow HB.out (Nat.le_refl _)
      have HO4 : Hid (OwnI w4 w.heap.size v2 (L.take (k + 1))) := hid0 (by rw [HTK.out]; exact g1)
      have HB4 := hid0 g2
      clear hown' hgrow g1 g2 HOO HO HB
      go_wp2
      go_roundw
      case rel => exact ⟨k + 1, by omega, by go_num, HO4, HB4⟩
      case measure => simp [intOf]; omega
    · have hkI : ¬ (k : Int) < (L.length : Int) := by omega
      have HE : Hid (OwnI wr w.heap.size u3 L) := hid0 (by have h := HO.out; rw [List.take_of_length_le (by omega)] at h; exact h)
      go_wp2
      go_ret
      exact ⟨u3, rfl, HE.out, HB.out⟩
set_option maxRecDepth 10000 in
set_option maxHeartbeats 800000 in
theorem sameI (l : List Int) (a b : Option Addr) (ca cb : Nat) (w : World) (hl : l.length ≤ 1000000000) (ha : IA w a l) (hb : IA w b l) :
    Calls Tryd.prog 8 #[.slice a l.length ca, .slice b l.length cb] w fun e w' => e = .returned (.bool true) ∧ ∃ n, w' = w.drewN n := by
  have HA := hid0 ha
  have HB := hid0 hb
  clear ha hb
  go_enter Tryd.func8, Tryd.ntmps8
  go_wp2
  go_loopw [5] (fun i wr => ∃ k : Nat, k ≤ l.length ∧ i = .int .i64 (k : Int) ∧ ∃ n, wr = w.drewN n) (fun i _ => l.length - (intOf i).toNat)
  case atStart => exact ⟨0, Nat.zero_le _, rfl, 0, rfl⟩
  case round =>
    obtain ⟨k, hk, rfl, nd, rfl⟩ := hrel
    by_cases hlt : k < l.length
    · obtain ⟨b1, o1, rfl, _, d1⟩ := HA.out.at' k hlt
      obtain ⟨b2, o2, rfl, _, d2⟩ := HB.out.at' k hlt
      have hkI : (k : Int) < (l.length : Int) := by omega
      have hkI0 : (0 : Int) ≤ (k : Int) := by omega
      generalize l[k] = s at *
      have hself : (s == s) = true := by simp
      go_wp2
      go_quiet ((fail))
      go_wp2
      go_roundw
      case rel => exact ⟨k + 1, by omega, by go_num, _, rfl⟩
      case measure => simp [intOf]; omega
    · have hkI : ¬ (k : Int) < (l.length : Int) := by omega
      go_wp2
      go_ret
      exact ⟨rfl, nd, rfl⟩
/-- A list that List made: two marks behind it. -/
def LW (w : World) (lo g c : Nat) (L : List Int) : Prop := w.ownsRow lo 3 1 (.slice (some ⟨g, 0, none⟩) (L.length + 2) c) (L.length + 2) (L.map (Value.int .i64) ++ [.int .i64 (-77), .int .i64 (-77)])
theorem LW.ia {w : World} {lo g c : Nat} {L : List Int} (h : LW w lo g c L) : IA w (some ⟨g, 0, none⟩) L := ⟨fun k hk => ⟨g, 0, rfl, (World.ownsRow.lt h g rfl).2, by
  have := World.ownsRow.cellAt h k (by omega)
  rw [Nat.zero_add, this, List.getElem?_append_left (by simpa using hk)]
  simp [hk]⟩⟩
theorem LW.past {w w' : World} {lo g c : Nat} {L : List Int} (h : LW w lo g c L) (hb : Below w.heap.size w w') : LW w' lo g c L :=
  own_blk h (fun k hk => hb.block k (World.ownsRow.lt h k hk).2)
theorem LW.cap {w : World} {lo g c : Nat} {L : List Int} (h : LW w lo g c L) : L.length + 2 ≤ c := by
  rcases h.2 with ⟨e, _⟩ | ⟨g', cap, cur, e, _, _, h1, h2, _⟩
  · cases e
  · cases e; omega
theorem LW.marks {w : World} {lo g c : Nat} {L : List Int} (h : LW w lo g c L) : w.cell? ⟨g, L.length, none⟩ = some (.int .i64 (-77)) ∧ w.cell? ⟨g, L.length + 1, none⟩ = some (.int .i64 (-77)) := by
  constructor
  · rw [World.ownsRow.cellAt h L.length (by omega), List.getElem?_append_right (by simp)]; simp
  · rw [World.ownsRow.cellAt h (L.length + 1) (by omega), List.getElem?_append_right (by simp)]; simp
def ListR (w : World) (L : List Int) (r : Ending) (w' : World) : Prop := ∃ g c, r = .returned (.slice (some ⟨g, 0, none⟩) L.length c) ∧ LW w' w.heap.size g c L ∧ Below w.heap.size w w'
set_option maxRecDepth 10000 in
set_option maxHeartbeats 800000 in
theorem list_any (L : List Int) (a : Option Addr) (cap : Nat) (w : World) (hl : L.length ≤ 1000000000) (ha : IA w a L) :
    Calls Tryd.prog 4 #[.slice a L.length cap] w fun r w' => ListR w L r w' := by
  obtain ⟨i0, hi, hz0, hz1, hz2⟩ := info_parts infoInt
  have HI := hid0 (ints_any L a cap w hl ha)
  clear ha
  go_enter Tryd.func4, Tryd.ntmps4
  go_wp2_with (first
    | (go_at_call 12; refine HI.out.mono ?_; rintro r w1 ⟨v, rfl, ho1, hb1⟩; have hs1 := hb1.size; have HO1 := hid0 ho1; have HB1 := hid0 hb1; clear ho1 hb1; obtain ⟨av, cv, rfl⟩ : ∃ av cv, v = .slice av L.length cv := by { obtain ⟨av, cv, e, _⟩ := HO1.out.ia; exact ⟨av, cv, e⟩ })
    | (at_builtin; go_loud ((
         refine wpList_append_own _ (by rfl) _ _ 22 (by rfl) w.heap.size 3 i0 (.int .i64 0) 1 8 Tryd.underlying22 hi hz0 hz1 hz2 rfl (by decide) (.slice av L.length cv) L.length (L.map (Value.int .i64)) (by rfl) (World.ownsRow.alloc HO1.out _) ⟨w1.heap.size, 0, none⟩ 2 2 [.int .i64 (-77), .int .i64 (-77)] (by rfl) (by rfl) (cell2_new w1 _ _ _) (fun u hu => by simp only [List.mem_cons, List.not_mem_nil, or_false] at hu; rcases hu with rfl | rfl <;> rfl) (by unfold maxLen; omega) (by omega) (by simp; omega) ?_
         intro v2 w2 hown2 hgrow2 _
         obtain ⟨g, c, rfl⟩ := Go.Joins.ownsRow_form hown2 (by omega)
         have HL2 : Hid (LW w2 w.heap.size g c L) := hid0 hown2
         have hcap := HL2.out.cap
         have HB2 := hid0 (((HB1.out).alloc (by omega) _).grown hgrow2 (by simp; omega) (fun q hq => (World.ownsRow.lt HO1.out q hq).1))
         clear hown2 hgrow2)))
    | fail)
  go_ret
  exact ⟨g, c, rfl, HL2.out, HB2.out⟩
set_option maxRecDepth 10000 in
set_option maxHeartbeats 800000 in
theorem listLeft_any (L : List Int) (lo g c : Nat) (w : World) (hl : L.length ≤ 1000000000) (h : LW w lo g c L) :
    Calls Tryd.prog 9 #[.slice (some ⟨g, 0, none⟩) L.length c] w fun r w' => r = .returned (.bool true) ∧ ∃ n, w' = w.drewN n := by
  obtain ⟨m1, m2⟩ := h.marks
  have hcap := h.cap
  clear h
  go_enter Tryd.func9, Tryd.ntmps9
  go_wp2
  go_ret
  exact ⟨rfl, 0, rfl⟩
end Go.Proofs.YthfnaalbgjeaeaaDoor
namespace Go.Proofs.YthfnaalbgjeaeaaDoor
open Go.RowKit Go.Shelf
def ptC (g : Nat) : List Value := [.int .i64 2, .bool false, .slice none 0 0, .slice (some ⟨g, 0, none⟩) 1 1, .slice none 0 0]
theorem cell5_new (w : World) (a b c d e : Value) (t : TypeId) : ∀ j u, [a, b, c, d, e][j]? = some u → (w.alloc (.cells #[a, b, c, d, e] t)).cell? ((⟨w.heap.size, 0, none⟩ : Addr).add j) = some u := by
  intro j u h
  rw [Addr.add_mid, cell_of_row _ _ _ _ _ _ (heap_alloc_new w _)]
  simpa using h
/-- Parts of one point each, in memory of one's own. -/
structure PW (w : World) (lo : Nat) (v : Value) (L : List Int) (gs : List Nat) : Prop where
  len : gs.length = L.length
  own : w.ownsRow lo 30 5 v L.length (gs.flatMap ptC)
  rng : ∀ k (h : k < L.length), lo ≤ gs[k]'(by omega) ∧ w.heap[gs[k]'(by omega)]? = some (.cells #[.int .i64 L[k], .int .i64 L[k]] 45 (0, 0))
theorem PW.nil (w : World) (lo : Nat) : PW w lo (.slice none 0 0) [] [] := ⟨rfl, World.ownsRow_nil _ _ _ _, fun _ h => absurd h (Nat.not_lt_zero _)⟩
theorem PW.past {w w' : World} {lo : Nat} {v : Value} {L : List Int} {gs : List Nat} (h : PW w lo v L gs) (k : Below w.heap.size w w') : PW w' lo v L gs :=
  ⟨h.len, own_blk h.own (fun g hg => by
    obtain ⟨c, e, _⟩ := own_type h.own g hg
    exact k.block g (lt_of_row e)), fun i hi => ⟨(h.rng i hi).1, (k.block _ (lt_of_row (h.rng i hi).2)).trans (h.rng i hi).2⟩⟩
theorem PW.snoc {w w0 w1 : World} {lo : Nat} {v v' : Value} {L : List Int} {gs : List Nat} {p : Int} {g : Nat} (h : PW w lo v L gs) (hg : w.heap[g]? = some (.cells #[.int .i64 p, .int .i64 p] 45 (0, 0))) (hlo : lo ≤ g)
    (h0 : Below w.heap.size w w0) (hgr : w0.grownBy w1 v.ownBlock) (hown : w1.ownsRow lo 30 5 v' (L.length + 1) (gs.flatMap ptC ++ ptC g)) : PW w1 lo v' (L ++ [p]) (gs ++ [g]) := by
  have key : ∀ (b : Nat) c z, w.heap[b]? = some (.cells c 45 z) → w1.heap[b]? = some (.cells c 45 z) := fun b c z e => (hgr.block b (Nat.lt_of_lt_of_le (lt_of_row e) h0.size) (fun q => by
    obtain ⟨c', e', _⟩ := own_type h.own b q.symm
    rw [e] at e'
    cases e')).trans ((h0.block b (lt_of_row e)).trans e)
  refine ⟨by simp [h.len], ?_, fun k hk => ?_⟩
  · rw [List.length_append, List.length_singleton, List.flatMap_append, List.flatMap_singleton]; exact hown
  · simp only [List.length_append, List.length_singleton] at hk
    rcases Nat.lt_or_ge k L.length with hl | hl
    · have hl2 : k < gs.length := by rw [h.len]; exact hl
      simp only [List.getElem_append_left hl, List.getElem_append_left hl2]
      exact ⟨(h.rng k hl).1, key _ _ _ (h.rng k hl).2⟩
    · have : k = L.length := by omega
      subst this
      have hq : ∀ (hx : L.length < (gs ++ [g]).length), (gs ++ [g])[L.length]'hx = g := fun hx => by
        rw [List.getElem_append_right (by rw [h.len]; exact Nat.le_refl _)]; simp [h.len]
      rw [hq]
      simp only [List.getElem_concat_length]
      exact ⟨hlo, key _ _ _ hg⟩
def EachP (w : World) (L : List Int) (r : Ending) (w' : World) : Prop := ∃ v gs, r = .returned v ∧ PW w' w.heap.size v L gs ∧ Below w.heap.size w w'
set_option maxRecDepth 10000 in
set_option maxHeartbeats 1600000 in
theorem eachOf_any (L : List Int) (a : Option Addr) (cap : Nat) (w : World) (hl : L.length ≤ 1000000000) (ha : IA w a L) :
    Calls Tryd.prog 14 #[.slice a L.length cap, .func (.func 13) #[] #[]] w fun r w' => EachP w L r w' := by
  obtain ⟨i0, hi, hz0, hz1, hz2⟩ := info_parts infoExpr
  have HA := hid0 ha
  clear ha
  go_enter Tryd.func14, Tryd.ntmps14
  go_wp2
  go_loopw [5, 7, 10] (fun v _ i wr => ∃ (k : Nat) (gs : List Nat), k ≤ L.length ∧ i = .int .i64 (k : Int) ∧ Hid (PW wr w.heap.size v (L.take k) gs) ∧ Hid (Below w.heap.size w wr)) (fun _ _ i _ => L.length - (intOf i).toNat)
  case atStart => exact ⟨0, [], Nat.zero_le _, rfl, hid0 (PW.nil _ _), hid0 (Below.refl _ _)⟩
  case round =>
    obtain ⟨k, gs, hk, rfl, HP, HB⟩ := hrel
    by_cases hlt : k < L.length
    · have hkI : (k : Int) < (L.length : Int) := by omega
      have hkI0 : (0 : Int) ≤ (k : Int) := by omega
      obtain ⟨b, off, rfl, hbw, hc⟩ := HA.out.at' k hlt
      have hc' := (HB.out.cell (p := ⟨b, off + k, none⟩) hbw).trans hc
      have HTK : Hid (L.take (k + 1) = L.take k ++ [L[k]]) := hid0 (by rw [List.take_add_one, List.getElem?_eq_getElem hlt]; rfl)
      have HTL : Hid ((L.take k).length = k) := hid0 (by rw [List.length_take]; omega)
      have hvs : ∃ av cv, u5 = .slice av k cv := by
        have ho := HP.out.own
        rw [HTL.out] at ho
        rcases ho.2 with ⟨rfl, e⟩ | ⟨g, cap', cur, rfl, _⟩
        · exact ⟨none, 0, by rw [e]⟩
        · exact ⟨_, _, rfl⟩
      obtain ⟨av, cv, rfl⟩ := hvs
      have HOne := hid0 (onePoint_any L[k] wr)
      unfold ptV EV.v at HOne
      simp only at HOne
      have hbs := HB.out.size
      generalize L[k] = s at *
      clear hc
      go_wp2_with (first
        | (go_at_call 13; refine HOne.out.mono ?_; rintro r w1 ⟨g, rfl, hg1, hg2, hb1⟩; have HP1 := hid0 (HP.out.past hb1); have HOk : Hid (w1.ownsRow w.heap.size 30 5 (.slice av k cv) k (gs.flatMap ptC)) := hid0 (by have ho := HP1.out.own; rw [HTL.out] at ho; exact ho); have HG := hid0 hg2; have HGl := hid0 hg1; have HB1 := hid0 hb1; clear hg1 hg2 hb1)
        | (at_builtin; go_loud ((
             refine wpList_append_own _ (by rfl) _ _ 28 (by rfl) w.heap.size 30 i0 (.agg #[.int .i64 0, .bool false, .slice none 0 0, .slice none 0 0, .slice none 0 0]) 5 88 Tryd.underlying28 hi hz0 hz1 hz2 rfl (by decide) (.slice av k cv) k (gs.flatMap ptC) (by rfl) (World.ownsRow.alloc HOk.out _) ⟨w1.heap.size, 0, none⟩ 1 1 (ptC g) (by rfl) (by rfl) (cell5_new w1 _ _ _ _ _ _) (fun u hu => by unfold ptC at hu; simp only [List.mem_cons, List.not_mem_nil, or_false] at hu; rcases hu with rfl | rfl | rfl | rfl | rfl <;> rfl) (by unfold maxLen; omega) (by omega) (by have := HB1.out.size; simp; omega) ?_
             intro v2 w2 hown2 hgrow2 _
             have HP2 := hid0 (PW.snoc HP1.out HG.out (Nat.le_trans hbs HGl.out) ((Below.refl _ w1).alloc (Nat.le_refl _) _) hgrow2 (by rw [HTL.out]; exact hown2))
             have HB2 := hid0 (((HB.out.trans (HB1.out.mono hbs)).alloc (by have := HB1.out.size; omega) _).grown hgrow2 (by have := HB1.out.size; simp; omega) (fun q hq => (World.ownsRow.lt HP1.out.own q hq).1))
             clear hown2 hgrow2)))
        | fail)
      go_roundw
      case rel => exact ⟨k + 1, gs ++ [g], by omega, by go_num, hid0 (by rw [HTK.out]; exact HP2.out), HB2⟩
      case measure => simp [intOf]; omega
    · have hkI : ¬ (k : Int) < (L.length : Int) := by omega
      have HE : Hid (PW wr w.heap.size u5 L gs) := hid0 (by have h := HP.out; rw [List.take_of_length_le (by omega)] at h; exact h)
      go_wp2
      go_ret
      exact ⟨u5, gs, rfl, HE.out, HB.out⟩
end Go.Proofs.YthfnaalbgjeaeaaDoor
namespace Go.Proofs.YthfnaalbgjeaeaaDoor
open Go.RowKit Go.Shelf
theorem flat5 (gs : List Nat) : ∀ (i j : Nat) (h : i < gs.length), j < 5 → (gs.flatMap ptC)[i * 5 + j]? = (ptC gs[i])[j]? := by
  induction gs with
  | nil => intro i j h; exact absurd h (Nat.not_lt_zero _)
  | cons g gs ih =>
    intro i j h hj
    rw [List.flatMap_cons]
    cases i with
    | zero =>
      rw [Nat.zero_mul, Nat.zero_add, List.getElem?_append_left (by simpa [ptC] using hj)]
      rfl
    | succ i =>
      rw [List.getElem?_append_right (by simp [ptC]; omega)]
      rw [show (i + 1) * 5 + j - (ptC g).length = i * 5 + j by simp [ptC]; omega]
      exact ih i j (by simpa using h) hj
theorem PW.ex {w : World} {lo : Nat} {v : Value} {L : List Int} {gs : List Nat} (h : PW w lo v L gs) (hl : L.length ≤ 1000000000) : ∃ c cc, v = .slice c L.length cc ∧ ExIs w (fun g => lo ≤ g) (.mk 3 false [] [] (L.map ptE)) ⟨.int .i64 3, .bool false, .slice none 0 0, .slice none 0 0, .slice c (L.map ptE).length cc⟩ := by
  have ho := h.own
  have hgl := h.len
  have key : ∀ (c : Option Addr) (cc : Nat), (∀ i, i < L.length → ∃ g off, c = some ⟨g, off, none⟩ ∧ lo ≤ g ∧ Five w g (off + i * 5) (ptV (gs.getD i 0) 1)) → ExIs w (fun g => lo ≤ g) (.mk 3 false [] [] (L.map ptE)) ⟨.int .i64 3, .bool false, .slice none 0 0, .slice none 0 0, .slice c (L.map ptE).length cc⟩ := fun c cc hk => by
    refine .mk 3 false [] [] (L.map ptE) none 0 none 0 c cc (fun i => ptV (gs.getD i 0) 1) (SQ.nil _ _ _) (RQ.nil _ _ _) (by simp) (by simp) (by simpa using hl) (fun i hi => hk i (by simpa using hi)) (fun i hi => ?_)
    have hi' : i < L.length := by simpa using hi
    have hr := h.rng i hi'
    have e : gs.getD i 0 = gs[i]'(by omega) := by rw [List.getD_eq_getElem?_getD, List.getElem?_eq_getElem (by omega)]; rfl
    rw [List.getElem_map, e]
    exact ptE_is hr.1 hr.2
  rcases ho.2 with ⟨rfl, hn⟩ | ⟨g, cap, cur, rfl, hg, hrow, _⟩
  · exact ⟨none, 0, by rw [hn], key none 0 (fun i hi => by omega)⟩
  · refine ⟨some ⟨g, 0, none⟩, cap, rfl, key _ cap (fun i hi => ⟨g, 0, rfl, hg, ?_⟩)⟩
    have hc : ∀ j, j < 5 → w.cell? ⟨g, i * 5 + j, none⟩ = (ptC (gs.getD i 0))[j]? := fun j hj => by
      have h1 := World.ownsRow.cellAt ho (i * 5 + j) (by have : i * 5 + 5 ≤ L.length * 5 := by { have := Nat.mul_le_mul_right 5 (Nat.succ_le_of_lt hi); omega }; omega)
      have e : gs.getD i 0 = gs[i]'(by omega) := by rw [List.getD_eq_getElem?_getD, List.getElem?_eq_getElem (by omega)]; rfl
      rw [h1, flat5 gs i j (by omega) hj, e]
    refine ⟨?_, ?_, ?_, ?_, ?_⟩
    · rw [Nat.zero_add]; exact hc 0 (by omega)
    · rw [Nat.zero_add]; exact hc 1 (by omega)
    · rw [Nat.zero_add]; exact hc 2 (by omega)
    · rw [Nat.zero_add]; exact hc 3 (by omega)
    · rw [Nat.zero_add]; exact hc 4 (by omega)
theorem word_none {w : World} {Q : Nat → Prop} : ExIs w Q (wordE []) ⟨.int .i64 1, .bool false, .slice none 0 0, .slice none 0 0, .slice none 0 0⟩ :=
  .mk 1 false [] [] [] none 0 none 0 none 0 (fun _ => ptV 0 0) (SQ.nil _ _ _) (RQ.nil _ _ _) (by simp) (by simp) (by simp) (fun i hi => absurd hi (Nat.not_lt_zero _)) (fun i hi => absurd hi (Nat.not_lt_zero _))
/-- What Word leaves. -/
def WordR (w : World) (L : List Int) (r : Ending) (w' : World) : Prop := ∃ k t a m c b n d g l z, r = .returned (.agg #[.int .i64 k, .bool t, .slice a m c, .slice b n d, .slice g l z]) ∧ ExIs w' (fun g => w.heap.size ≤ g) (wordE L) ⟨.int .i64 k, .bool t, .slice a m c, .slice b n d, .slice g l z⟩ ∧ Below w.heap.size w w'
end Go.Proofs.YthfnaalbgjeaeaaDoor
namespace Go.Proofs.YthfnaalbgjeaeaaDoor
open Go.RowKit Go.Shelf
def zE : Array Value := #[.int .i64 0, .bool false, .slice none 0 0, .slice none 0 0, .slice none 0 0]
/-- A row of five written over. -/
def set5 (W : World) (X : Nat) (a b c d e : Value) : World := ((((W.setCell ⟨X, 0, none⟩ a).setCell ⟨X, 1, none⟩ b).setCell ⟨X, 2, none⟩ c).setCell ⟨X, 3, none⟩ d).setCell ⟨X, 4, none⟩ e
theorem set5_row {W : World} {X : Nat} {t : TypeId} {a0 b0 c0 d0 e0 : Value} (h : W.heap[X]? = some (.cells #[a0, b0, c0, d0, e0] t (0, 0))) (a b c d e : Value) : (set5 W X a b c d e).heap[X]? = some (.cells #[a, b, c, d, e] t (0, 0)) := by
  unfold set5
  exact heap_setCell_same _ _ 4 _ _ e (heap_setCell_same _ _ 3 _ _ d (heap_setCell_same _ _ 2 _ _ c (heap_setCell_same _ _ 1 _ _ b (heap_setCell_same _ _ 0 _ _ a h))))
theorem set5_below {B : Nat} {w W : World} {X : Nat} (h : Below B w W) (hX : B ≤ X) (a b c d e : Value) : Below B w (set5 W X a b c d e) := by
  unfold set5
  exact ((((h.setCell (p := ⟨X, 0, none⟩) hX a).setCell (p := ⟨X, 1, none⟩) hX b).setCell (p := ⟨X, 2, none⟩) hX c).setCell (p := ⟨X, 3, none⟩) hX d).setCell (p := ⟨X, 4, none⟩) hX e
theorem set5_other {W : World} {X k : Nat} (hk : k ≠ X) (a b c d e : Value) : (set5 W X a b c d e).heap[k]? = W.heap[k]? := by
  unfold set5
  rw [Below.heap_setCell _ _ _ k hk, Below.heap_setCell _ _ _ k hk, Below.heap_setCell _ _ _ k hk, Below.heap_setCell _ _ _ k hk, Below.heap_setCell _ _ _ k hk]
theorem row5 {W : World} {X : Nat} {t : TypeId} {a b c d e : Value} (h : W.heap[X]? = some (.cells #[a, b, c, d, e] t (0, 0))) : (W.cell? ⟨X, 0, none⟩ = some a ∧ W.cell? ⟨X, 1, none⟩ = some b ∧ W.cell? ⟨X, 2, none⟩ = some c ∧ W.cell? ⟨X, 3, none⟩ = some d ∧ W.cell? ⟨X, 4, none⟩ = some e) ∧ (W.frozen? ⟨X, 0, none⟩ = false ∧ W.frozen? ⟨X, 1, none⟩ = false ∧ W.frozen? ⟨X, 2, none⟩ = false ∧ W.frozen? ⟨X, 3, none⟩ = false ∧ W.frozen? ⟨X, 4, none⟩ = false) :=
  ⟨⟨by rw [cell_of_row _ _ _ _ _ _ h]; rfl, by rw [cell_of_row _ _ _ _ _ _ h]; rfl, by rw [cell_of_row _ _ _ _ _ _ h]; rfl, by rw [cell_of_row _ _ _ _ _ _ h]; rfl, by rw [cell_of_row _ _ _ _ _ _ h]; rfl⟩,
   by simp [World.frozen?, h], by simp [World.frozen?, h], by simp [World.frozen?, h], by simp [World.frozen?, h], by simp [World.frozen?, h]⟩
/-- A row that is written over keeps what lies in other blocks. -/
theorem set5_keeps {W : World} {X : Nat} (a b c d e : Value) : Keeps (fun g => g ≠ X) W (set5 W X a b c d e) := by
  have ho : ∀ g, g ≠ X → (set5 W X a b c d e).heap[g]? = W.heap[g]? := fun g hg => set5_other hg a b c d e
  have hs : W.heap.size ≤ (set5 W X a b c d e).heap.size := by unfold set5; simp
  generalize set5 W X a b c d e = V at *
  exact ⟨hs, fun g o hg _ => World.cell?_of_block (w := W) (ho g hg)⟩
set_option maxRecDepth 10000 in
set_option maxHeartbeats 1600000 in
theorem word_any (L : List Int) (a : Option Addr) (cap : Nat) (w : World) (hl : L.length ≤ 1000000000) (ha : IA w a L) :
    Calls Tryd.prog 5 #[.slice a L.length cap] w fun r w' => WordR w L r w' := by
  match L, hl, ha with
  | [], hl, ha =>
    clear hl ha
    go_enter Tryd.func5, Tryd.ntmps5
    go_wp2
    have hn := heap_alloc_new w (.cells #[.int .i64 1, .bool false, .slice none 0 0, .slice none 0 0, .slice none 0 0] 30)
    have hb : Below w.heap.size w (w.alloc (.cells #[.int .i64 1, .bool false, .slice none 0 0, .slice none 0 0, .slice none 0 0] 30)) := (Below.refl _ _).alloc (Nat.le_refl _) _
    generalize w.alloc (.cells #[.int .i64 1, .bool false, .slice none 0 0, .slice none 0 0, .slice none 0 0] 30) = w2 at *
    obtain ⟨⟨k0, k1, k2, k3, k4⟩, _⟩ := row5 hn
    exact bodyPost_ret (v := .agg #[.int .i64 1, .bool false, .slice none 0 0, .slice none 0 0, .slice none 0 0]) (by simp [results, Tryd.results5, go_sem, k0, k1, k2, k3, k4]) rfl ⟨1, false, none, 0, 0, none, 0, 0, none, 0, 0, rfl, word_none, hb⟩
  | [p], hl, ha =>
    obtain ⟨b, off, rfl, hbw, hc⟩ := ha.at' 0 (by simp)
    simp only [List.getElem_cons_zero, Nat.add_zero] at hc
    have HOne := hid0 (fun W => onePoint_any p W)
    unfold ptV EV.v at HOne
    simp only at HOne
    clear hl ha
    have HN := hid0 (heap_alloc_new w (.cells zE 30))
    have HB0 : Hid (Below w.heap.size w (w.alloc (.cells zE 30))) := hid0 ((Below.refl _ _).alloc (Nat.le_refl _) _)
    have HS0 : Hid ((w.alloc (.cells zE 30)).heap.size = w.heap.size + 1) := hid0 (by simp)
    unfold zE at HN HB0 HS0
    go_enter Tryd.func5, Tryd.ntmps5
    go_wp2_with (go_at_call 13; refine (HOne.out _).mono ?_; rintro r w1 ⟨g, rfl, hg1, hg2, hb1⟩; have hr1 := (hb1.block w.heap.size (by have := HS0.out; omega)).trans HN.out; obtain ⟨⟨x0, x1, x2, x3, x4⟩, f0, f1, f2, f3, f4⟩ := row5 hr1; have HX := hid0 hr1; have HG := hid0 hg2; have HGl := hid0 (show w.heap.size + 1 ≤ g by have := HS0.out; omega); have HB1 := hid0 (Below.later HB0.out hb1); clear hg1 hg2 hb1 hr1)
    have hn := set5_row HX.out (.int .i64 2) (.bool false) (.slice none 0 0) (.slice (some ⟨g, 0, none⟩) 1 1) (.slice none 0 0)
    have hb := set5_below HB1.out (Nat.le_refl _) (.int .i64 2) (.bool false) (.slice none 0 0) (.slice (some ⟨g, 0, none⟩) 1 1) (.slice none 0 0)
    have hgg := (set5_other (W := w1) (X := w.heap.size) (k := g) (by have := HGl.out; omega) (.int .i64 2) (.bool false) (.slice none 0 0) (.slice (some ⟨g, 0, none⟩) 1 1) (.slice none 0 0)).trans HG.out
    unfold set5 at hn hb hgg
    generalize ((((w1.setCell ⟨w.heap.size, 0, none⟩ (.int .i64 2)).setCell ⟨w.heap.size, 1, none⟩ (.bool false)).setCell ⟨w.heap.size, 2, none⟩ (.slice none 0 0)).setCell ⟨w.heap.size, 3, none⟩ (.slice (some ⟨g, 0, none⟩) 1 1)).setCell ⟨w.heap.size, 4, none⟩ (.slice none 0 0) = w2 at *
    obtain ⟨⟨k0, k1, k2, k3, k4⟩, _⟩ := row5 hn
    exact bodyPost_ret (v := .agg #[.int .i64 2, .bool false, .slice none 0 0, .slice (some ⟨g, 0, none⟩) 1 1, .slice none 0 0]) (by simp [results, Tryd.results5, go_sem, k0, k1, k2, k3, k4]) rfl ⟨2, false, none, 0, 0, some ⟨g, 0, none⟩, 1, 1, none, 0, 0, rfl, ptE_is (by have := HGl.out; omega) hgg, hb⟩
  | p :: q :: L, hl, ha =>
    obtain ⟨m, hm⟩ : ∃ m, m = (p :: q :: L).length := ⟨_, rfl⟩
    have HE := hid0 (fun (W : World) (hW : Below w.heap.size w W) => eachOf_any (p :: q :: L) a cap W hl (ha.past hW))
    rw [← hm] at HE ⊢
    have hm2 : 2 ≤ m := by rw [hm]; simp
    have hm0 : ¬ ((m : Int) = 0) := by omega
    have hm1 : ¬ ((m : Int) = 1) := by omega
    have HM := hid0 hm
    have HL := hid0 hl
    have HN := hid0 (heap_alloc_new w (.cells zE 30))
    have HB0 : Hid (Below w.heap.size w (w.alloc (.cells zE 30))) := hid0 ((Below.refl _ _).alloc (Nat.le_refl _) _)
    have HS0 : Hid ((w.alloc (.cells zE 30)).heap.size = w.heap.size + 1) := hid0 (by simp)
    unfold zE at HN HB0 HS0
    clear ha hl
    clear hm
    go_enter Tryd.func5, Tryd.ntmps5
    go_wp2_with (go_at_call 14; refine (HE.out _ HB0.out).mono ?_; rintro r w1 ⟨v, gs, rfl, hp1, hb1⟩; have hr1 := (hb1.block w.heap.size (by have := HS0.out; omega)).trans HN.out; obtain ⟨⟨x0, x1, x2, x3, x4⟩, f0, f1, f2, f3, f4⟩ := row5 hr1; have HX := hid0 hr1; have HP := hid0 (hp1.ex HL.out); have HB1 := hid0 (Below.later HB0.out hb1); clear hp1 hb1 hr1; obtain ⟨c, cc, rfl⟩ : ∃ c cc, v = .slice c m cc := by { obtain ⟨c, cc, e, _⟩ := HP.out; exact ⟨c, cc, by rw [HM.out]; exact e⟩ })
    have hx : ExIs w1 (fun g => w.heap.size + 1 ≤ g) (wordE (p :: q :: L)) ⟨.int .i64 3, .bool false, .slice none 0 0, .slice none 0 0, .slice c m cc⟩ := by
      obtain ⟨c', cc', e, h⟩ := HP.out
      cases e
      rw [HS0.out] at h
      rw [HM.out]
      rw [List.length_map] at h
      exact h
    have hx2 := (hx.mono (Q' := fun g => g ≠ w.heap.size ∧ w.heap.size ≤ g) (fun g _ h => ⟨by omega, by omega⟩))
    have hn := set5_row HX.out (.int .i64 3) (.bool false) (.slice none 0 0) (.slice none 0 0) (.slice c m cc)
    have hb := set5_below HB1.out (Nat.le_refl _) (.int .i64 3) (.bool false) (.slice none 0 0) (.slice none 0 0) (.slice c m cc)
    have hkk := set5_keeps (W := w1) (X := w.heap.size) (.int .i64 3) (.bool false) (.slice none 0 0) (.slice none 0 0) (.slice c m cc)
    have hx3 := (hx2.keeps ⟨hkk.size, fun g o hg hl => hkk.cell g o hg.1 hl⟩).mono (Q' := fun g => w.heap.size ≤ g) (fun g _ h => h.2)
    clear hx hx2 hkk
    unfold set5 at hn hb hx3
    generalize ((((w1.setCell ⟨w.heap.size, 0, none⟩ (.int .i64 3)).setCell ⟨w.heap.size, 1, none⟩ (.bool false)).setCell ⟨w.heap.size, 2, none⟩ (.slice none 0 0)).setCell ⟨w.heap.size, 3, none⟩ (.slice none 0 0)).setCell ⟨w.heap.size, 4, none⟩ (.slice c m cc) = w2 at *
    obtain ⟨⟨k0, k1, k2, k3, k4⟩, _⟩ := row5 hn
    exact bodyPost_ret (v := .agg #[.int .i64 3, .bool false, .slice none 0 0, .slice none 0 0, .slice c m cc]) (by simp [results, Tryd.results5, go_sem, k0, k1, k2, k3, k4]) rfl ⟨3, false, none, 0, 0, none, 0, 0, c, m, cc, rfl, hx3, hb⟩
end Go.Proofs.YthfnaalbgjeaeaaDoor
namespace Go.Proofs.YthfnaalbgjeaeaaDoor
open Go.RowKit Go.Shelf
theorem grown_cell2 {wr w3 : World} {o o2 : Obj} {row : Option Nat} {a : Addr} {v : Value} (hg : (((wr.alloc o).alloc o2).drew).grownBy w3 row) (h : wr.cell? a = some v) (hne : some a.block ≠ row) : w3.cell? a = some v := by
  refine hg.cell ?_ hne
  show ((wr.alloc o).alloc o2).cell? a = some v
  exact ((((Below.refl _ wr).alloc (Nat.le_refl _) o).alloc (by simp) o2).cell (World.block_lt_of_cell? wr _ h)).trans h
theorem PW.one {w : World} {lo : Nat} {v : Value} {p : Int} {gs : List Nat} (h : PW w lo v [p] gs) : ∃ g0 b cc, v = .slice (some ⟨b, 0, none⟩) 1 cc ∧ lo ≤ g0 ∧ w.heap[g0]? = some (.cells #[.int .i64 p, .int .i64 p] 45 (0, 0)) ∧ w.cell? ⟨b, 0, none⟩ = some (.int .i64 2) ∧ w.cell? ⟨b, 1, none⟩ = some (.bool false) ∧ w.cell? ⟨b, 2, none⟩ = some (.slice none 0 0) ∧ w.cell? ⟨b, 3, none⟩ = some (.slice (some ⟨g0, 0, none⟩) 1 1) ∧ w.cell? ⟨b, 4, none⟩ = some (.slice none 0 0) := by
  have ho := h.own
  have hl := h.len
  have hr := h.rng 0 (by simp)
  match gs, hl with
  | [g], _ =>
    rcases ho.2 with ⟨_, hn⟩ | ⟨b, cap, cur, rfl, _⟩
    · simp at hn
    · have hc : ∀ j, j < 5 → w.cell? ⟨b, j, none⟩ = (ptC g)[j]? := fun j hj => by
        have h1 := World.ownsRow.cellAt ho j (by simpa using hj)
        rw [h1]
        rfl
      exact ⟨g, b, cap, rfl, hr.1, hr.2, hc 0 (by omega), hc 1 (by omega), hc 2 (by omega), hc 3 (by omega), hc 4 (by omega)⟩
set_option maxRecDepth 10000 in
set_option maxHeartbeats 1600000 in
theorem refWord_any (L : List Int) (a : Option Addr) (cap : Nat) (w : World) (hl : L.length ≤ 1000000000) (ha : IA w a L) :
    Calls Tryd.prog 6 #[.slice a L.length cap] w fun r w' => WordR w L r w' := by
  obtain ⟨i0, hi, hz0, hz1, hz2⟩ := info_parts infoExpr
  have HA := hid0 ha
  have HN := hid0 (heap_alloc_new w (.cells zE 30))
  have HB0 : Hid (Below w.heap.size w (w.alloc (.cells zE 30))) := hid0 ((Below.refl _ _).alloc (Nat.le_refl _) _)
  have HS0 : Hid ((w.alloc (.cells zE 30)).heap.size = w.heap.size + 1) := hid0 (by simp)
  unfold zE at HN HB0 HS0
  clear ha
  go_enter Tryd.func6, Tryd.ntmps6
  go_wp2
  obtain ⟨W0, hW0⟩ : ∃ W0, W0 = w.alloc (.cells #[.int .i64 0, .bool false, .slice none 0 0, .slice none 0 0, .slice none 0 0] 30) := ⟨_, rfl⟩
  rw [← hW0] at HN HB0 HS0 ⊢
  clear hW0
  go_loopw [3, 4] (fun v i wr => ∃ (k : Nat) (gs : List Nat), k ≤ L.length ∧ i = .int .i64 (k : Int) ∧ Hid (PW wr (w.heap.size + 1) v (L.take k) gs) ∧ Hid (Below (w.heap.size + 1) W0 wr)) (fun _ i _ => L.length - (intOf i).toNat)
  case atStart => exact ⟨0, [], Nat.zero_le _, rfl, hid0 (PW.nil _ _), hid0 (Below.refl _ _)⟩
  case round =>
    obtain ⟨k, gs, hk, rfl, HP, HB⟩ := hrel
    have hbs := HB.out.size
    have hs0 := HS0.out
    by_cases hlt : k < L.length
    · have hkI : (k : Int) < (L.length : Int) := by omega
      have hkI0 : (0 : Int) ≤ (k : Int) := by omega
      obtain ⟨b, off, rfl, hbw, hc⟩ := HA.out.at' k hlt
      have hc' := (HB.out.cell (p := ⟨b, off + k, none⟩) (show b < w.heap.size + 1 by omega)).trans ((HB0.out.cell (p := ⟨b, off + k, none⟩) hbw).trans hc)
      have HTK : Hid (L.take (k + 1) = L.take k ++ [L[k]]) := hid0 (by rw [List.take_add_one, List.getElem?_eq_getElem hlt]; rfl)
      have HTL : Hid ((L.take k).length = k) := hid0 (by rw [List.length_take]; omega)
      have hvs : ∃ av cv, u3 = .slice av k cv := by
        have ho := HP.out.own
        rw [HTL.out] at ho
        rcases ho.2 with ⟨rfl, e⟩ | ⟨g, cap', cur, rfl, _⟩
        · exact ⟨none, 0, by rw [e]⟩
        · exact ⟨_, _, rfl⟩
      obtain ⟨av, cv, rfl⟩ := hvs
      have HRW : Hid (some b ≠ (Value.slice av k cv).ownBlock) := hid0 (fun e => by
        have := (World.ownsRow.lt HP.out.own b e.symm).1
        omega)
      generalize L[k] = s at *
      clear hc
      have HCell := hid0 hc'
      have HP1 := hid0 (HP.out.past (w' := wr.drew) (Below.refl _ _).drew)
      have HOk : Hid (wr.drew.ownsRow (w.heap.size + 1) 30 5 (.slice av k cv) k (gs.flatMap ptC)) := hid0 (by have ho := HP1.out.own; rw [HTL.out] at ho; exact ho)
      have HHs : Hid (wr.drew.heap.size = wr.heap.size) := hid0 (by rfl)
      have HC5 : Hid (∀ j u, (ptC wr.heap.size)[j]? = some u → ((wr.alloc (.cells #[.int .i64 s, .int .i64 s] 45)).alloc (.cells #[.int .i64 2, .bool false, .slice none 0 0, .slice (some ⟨wr.heap.size, 0, none⟩) 1 1, .slice none 0 0] 30)).drew.cell? ((⟨wr.heap.size + 1, 0, none⟩ : Addr).add j) = some u) := hid0 (fun j u h => by
        have h5 := cell5_new (wr.alloc (.cells #[.int .i64 s, .int .i64 s] 45)) (.int .i64 2) (.bool false) (.slice none 0 0) (.slice (some ⟨wr.heap.size, 0, none⟩) 1 1) (.slice none 0 0) 30 j u h
        rw [World.size_alloc] at h5
        exact h5)
      go_wp2
      go_region_held_law (fun W => W.cell? ⟨b, off + k, none⟩ = some (.int .i64 s)) (first | go_keep | exact HC3.out)
        ((refine step_append_own_at (by rfl) _ _ 28 (by rfl) (w.heap.size + 1) 30 i0 (.agg #[.int .i64 0, .bool false, .slice none 0 0, .slice none 0 0, .slice none 0 0]) 5 88 Tryd.underlying28 hi hz0 hz1 hz2 rfl (by decide) (.slice av k cv) k (gs.flatMap ptC) (by rfl) (World.ownsRow.alloc (World.ownsRow.alloc HOk.out _) _) ⟨wr.heap.size + 1, 0, none⟩ 1 1 (ptC wr.heap.size) (by rfl) (by rfl) (HC5.out) (fun u hu => by unfold ptC at hu; simp only [List.mem_cons, List.not_mem_nil, or_false] at hu; rcases hu with rfl | rfl | rfl | rfl | rfl <;> rfl) (by unfold maxLen; omega) (by omega) (by simp; omega) ?_
          intro v2 w2 hown2 hgrow2 _
          have HC3 := hid0 (grown_cell2 hgrow2 HCell.out HRW.out)
          have HO3 := hid0 hown2
          have HG3 := hid0 hgrow2
          clear hown2 hgrow2))
      have HPa := hid0 (HP.out.past (w' := wr.alloc (.cells #[.int .i64 s, .int .i64 s] 45)) ((Below.refl _ _).alloc (Nat.le_refl _) _))
      have HP2 : Hid (PW w2 (w.heap.size + 1) v2 (L.take k ++ [s]) (gs ++ [wr.heap.size])) := hid0 (PW.snoc (w0 := ((wr.alloc (.cells #[.int .i64 s, .int .i64 s] 45)).alloc (.cells #[.int .i64 2, .bool false, .slice none 0 0, .slice (some ⟨wr.heap.size, 0, none⟩) 1 1, .slice none 0 0] 30)).drew) HPa.out (heap_alloc_new wr _) (by omega) (((Below.refl _ _).alloc (Nat.le_refl _) _).drew) HG3.out (by rw [HTL.out]; exact HO3.out))
      have HB2 : Hid (Below (w.heap.size + 1) W0 w2) := hid0 ((((HB.out.alloc (by omega) _).alloc (by simp; omega) _).drew).grown HG3.out (by simp; omega) (fun q hq => (World.ownsRow.lt HP.out.own q hq).1))
      clear HO3 HG3 HPa HP HB HC5 HOk HP1
      go_wp2
      go_roundw
      case rel => exact ⟨k + 1, gs ++ [wr.heap.size], by omega, by go_num, hid0 (by rw [HTK.out]; exact HP2.out), HB2⟩
      case measure => simp [intOf]; omega
    · have hkI : ¬ (k : Int) < (L.length : Int) := by omega
      have HE : Hid (PW wr (w.heap.size + 1) u3 L gs) := hid0 (by have h := HP.out; rw [List.take_of_length_le (by omega)] at h; exact h)
      clear HP HA hk
      have hr1 := (HB.out.block w.heap.size (Nat.lt_succ_self _)).trans HN.out
      obtain ⟨⟨x0, x1, x2, x3, x4⟩, f0, f1, f2, f3, f4⟩ := row5 hr1
      have HX := hid0 hr1
      have HBB := hid0 (Below.trans HB0.out (HB.out.mono (Nat.le_succ _)))
      clear hr1
      clear hlt
      obtain rfl | ⟨p, rfl⟩ | ⟨p, q, L', rfl⟩ : L = [] ∨ (∃ p, L = [p]) ∨ ∃ p q L', L = p :: q :: L' := by
        match L with
        | [] => exact .inl rfl
        | [p] => exact .inr (.inl ⟨p, rfl⟩)
        | p :: q :: L' => exact .inr (.inr ⟨p, q, L', rfl⟩)
      · skip
        obtain ⟨c, cc, rfl⟩ : ∃ c cc, u3 = .slice c 0 cc := by
          obtain ⟨c, cc, e, _⟩ := HE.out.ex hl
          exact ⟨c, cc, e⟩
        clear HE HB hl
        go_wp2
        have hn := set5_row HX.out (.int .i64 1) (.bool false) (.slice none 0 0) (.slice none 0 0) (.slice none 0 0)
        have hb := set5_below HBB.out (Nat.le_refl _) (.int .i64 1) (.bool false) (.slice none 0 0) (.slice none 0 0) (.slice none 0 0)
        unfold set5 at hn hb
        generalize ((((wr.setCell ⟨w.heap.size, 0, none⟩ (.int .i64 1)).setCell ⟨w.heap.size, 1, none⟩ (.bool false)).setCell ⟨w.heap.size, 2, none⟩ (.slice none 0 0)).setCell ⟨w.heap.size, 3, none⟩ (.slice none 0 0)).setCell ⟨w.heap.size, 4, none⟩ (.slice none 0 0) = w2 at *
        obtain ⟨⟨k0, k1, k2, k3, k4⟩, _⟩ := row5 hn
        exact bodyPost_ret (v := .agg #[.int .i64 1, .bool false, .slice none 0 0, .slice none 0 0, .slice none 0 0]) (by simp [results, Tryd.results6, go_sem, k0, k1, k2, k3, k4]) rfl ⟨1, false, none, 0, 0, none, 0, 0, none, 0, 0, rfl, word_none, hb⟩
      · skip
        obtain ⟨g0, b0, cc, rfl, hg0, hrow, y0, y1, y2, y3, y4⟩ := HE.out.one
        have HROW := hid0 hrow
        clear HE HB hl hrow
        go_wp2
        have hn := set5_row HX.out (.int .i64 2) (.bool false) (.slice none 0 0) (.slice (some ⟨g0, 0, none⟩) 1 1) (.slice none 0 0)
        have hb := set5_below HBB.out (Nat.le_refl _) (.int .i64 2) (.bool false) (.slice none 0 0) (.slice (some ⟨g0, 0, none⟩) 1 1) (.slice none 0 0)
        have hgg := (set5_other (W := wr) (X := w.heap.size) (k := g0) (by omega) (.int .i64 2) (.bool false) (.slice none 0 0) (.slice (some ⟨g0, 0, none⟩) 1 1) (.slice none 0 0)).trans HROW.out
        unfold set5 at hn hb hgg
        generalize ((((wr.setCell ⟨w.heap.size, 0, none⟩ (.int .i64 2)).setCell ⟨w.heap.size, 1, none⟩ (.bool false)).setCell ⟨w.heap.size, 2, none⟩ (.slice none 0 0)).setCell ⟨w.heap.size, 3, none⟩ (.slice (some ⟨g0, 0, none⟩) 1 1)).setCell ⟨w.heap.size, 4, none⟩ (.slice none 0 0) = w2 at *
        obtain ⟨⟨k0, k1, k2, k3, k4⟩, _⟩ := row5 hn
        exact bodyPost_ret (v := .agg #[.int .i64 2, .bool false, .slice none 0 0, .slice (some ⟨g0, 0, none⟩) 1 1, .slice none 0 0]) (by simp [results, Tryd.results6, go_sem, k0, k1, k2, k3, k4]) rfl ⟨2, false, none, 0, 0, some ⟨g0, 0, none⟩, 1, 1, none, 0, 0, rfl, ptE_is (Q := fun g => w.heap.size ≤ g) (by omega) hgg, hb⟩
      · skip
        obtain ⟨c, cc, rfl, hx⟩ := HE.out.ex hl
        obtain ⟨m, hm⟩ : ∃ m, m = (p :: q :: L').length := ⟨_, rfl⟩
        rw [List.length_map] at hx
        rw [← hm] at hx hkI ⊢
        have hm2 : 2 ≤ m := by rw [hm]; simp
        have hm0 : ¬ ((m : Int) = 0) := by omega
        have hm1 : ¬ ((m : Int) = 1) := by omega
        have HHX := hid0 hx
        clear HE HB hl hm hx
        go_wp2
        have hn := set5_row HX.out (.int .i64 3) (.bool false) (.slice none 0 0) (.slice none 0 0) (.slice c m cc)
        have hb := set5_below HBB.out (Nat.le_refl _) (.int .i64 3) (.bool false) (.slice none 0 0) (.slice none 0 0) (.slice c m cc)
        have hx2 := (HHX.out.mono (Q' := fun g => g ≠ w.heap.size ∧ w.heap.size ≤ g) (fun g _ h => ⟨by omega, by omega⟩))
        have hkk := set5_keeps (W := wr) (X := w.heap.size) (.int .i64 3) (.bool false) (.slice none 0 0) (.slice none 0 0) (.slice c m cc)
        have hx3 := (hx2.keeps ⟨hkk.size, fun g o hg hl => hkk.cell g o hg.1 hl⟩).mono (Q' := fun g => w.heap.size ≤ g) (fun g _ h => h.2)
        clear hx2 hkk
        unfold set5 at hn hb hx3
        generalize ((((wr.setCell ⟨w.heap.size, 0, none⟩ (.int .i64 3)).setCell ⟨w.heap.size, 1, none⟩ (.bool false)).setCell ⟨w.heap.size, 2, none⟩ (.slice none 0 0)).setCell ⟨w.heap.size, 3, none⟩ (.slice none 0 0)).setCell ⟨w.heap.size, 4, none⟩ (.slice c m cc) = w2 at *
        obtain ⟨⟨k0, k1, k2, k3, k4⟩, _⟩ := row5 hn
        exact bodyPost_ret (v := .agg #[.int .i64 3, .bool false, .slice none 0 0, .slice none 0 0, .slice c m cc]) (by simp [results, Tryd.results6, go_sem, k0, k1, k2, k3, k4]) rfl ⟨3, false, none, 0, 0, none, 0, 0, c, m, cc, rfl, hx3, hb⟩
end Go.Proofs.YthfnaalbgjeaeaaDoor
namespace Go.Proofs.YthfnaalbgjeaeaaDoor
open Go.RowKit Go.Shelf
abbrev mayP : List ByteArray → List (Int × Int) → Bool := fun _ P => ptsF P
theorem chk_pt (p : Int) (d n s n' s' : Nat) (h : chkE mayP (ptE p) d n s = .ok n' s') : 0 ≤ p ∧ n' = n + 1 ∧ n + 1 ≤ 4000 := by
  unfold ptE at h
  simp only [chkE] at h
  split at h
  · rename_i hc
    split at h
    · rename_i hw
      split at h
      · simp only [chkL] at h
        cases h
        refine ⟨?_, rfl, hc.1⟩
        have : ptsF [(p, p)] = true := by simpa [wholeF, mayP] using hw
        by_cases hp : p < 0
        · simp [ptsF, ptsGo, hp] at this
        · omega
      · cases h
    · cases h
  · cases h
theorem chk_pts (L : List Int) (d : Nat) : ∀ (n s n' s' : Nat), n ≤ 4000 → chkL mayP (L.map ptE) d n s = .ok n' s' → (∀ p, p ∈ L → 0 ≤ p) ∧ n' = n + L.length ∧ n' ≤ 4000 := by
  induction L with
  | nil =>
    intro n s n' s' hn h
    simp only [List.map_nil, chkL] at h
    cases h
    exact ⟨fun p hp => (by cases hp), rfl, hn⟩
  | cons p L ih =>
    intro n s n' s' hn h
    simp only [List.map_cons, chkL] at h
    cases hp : chkE mayP (ptE p) d n s with
    | bad f => rw [hp] at h; cases h
    | ok n1 s1 =>
      rw [hp] at h
      obtain ⟨h0, h1, h2⟩ := chk_pt p d n s n1 s1 hp
      obtain ⟨h3, h4, h5⟩ := ih n1 s1 n' s' (by omega) h
      refine ⟨fun q hq => ?_, by rw [h4, h1, List.length_cons]; omega, h5⟩
      rcases List.mem_cons.1 hq with rfl | hq
      · exact h0
      · exact h3 q hq
theorem size_pts (L : List Int) : Ex.size.sizes (L.map ptE) = L.length := by
  induction L with
  | nil => rfl
  | cons p L ih =>
    rw [List.map_cons, Ex.size.sizes, ih, List.length_cons]
    unfold ptE
    rw [Ex.size_mk, Ex.size.sizes]
    omega
theorem chk_word (L : List Int) (h : CR.okB (chkE mayP (wordE L) 1 0 0) = true) : (∀ p, p ∈ L → 0 ≤ p) ∧ (wordE L).size ≤ 100000 := by
  match L, h with
  | [], _ => exact ⟨fun p hp => (by cases hp), by unfold wordE; rw [Ex.size_mk, Ex.size.sizes]; decide⟩
  | [p], h =>
    cases hp : chkE mayP (wordE [p]) 1 0 0 with
    | bad f => rw [hp] at h; cases h
    | ok n s =>
      have h1 := chk_pt p 1 0 0 n s hp
      refine ⟨fun q hq => ?_, by unfold wordE ptE; rw [Ex.size_mk, Ex.size.sizes]; decide⟩
      rw [List.mem_singleton.1 hq]
      exact h1.1
  | p :: q :: L, h =>
    cases hp : chkE mayP (wordE (p :: q :: L)) 1 0 0 with
    | bad f => rw [hp] at h; cases h
    | ok n s =>
      unfold wordE at hp ⊢
      simp only at hp ⊢
      rw [chkE] at hp
      split at hp
      · split at hp
        · split at hp
          · have h1 := chk_pts (p :: q :: L) _ _ _ _ _ (by omega) hp
            refine ⟨h1.1, ?_⟩
            rw [Ex.size_mk, size_pts]
            omega
          · cases hp
        · cases hp
      · cases hp
theorem mt_pt (c : ByteArray) (p : Int) (h : 0 ≤ p) : Mt (ptE p) [(c, p)] := by
  refine .set false [] [(p, p)] [] (c, p) ?_
  have : ¬ p = -1 := by omega
  simp [holdsF, nmF, ptF, this]
theorem mt_pts (c : ByteArray) (L : List Int) (h : ∀ p, p ∈ L → 0 ≤ p) : Mt (.mk 3 false [] [] (L.map ptE)) (L.map fun p => (c, p)) := by
  induction L with
  | nil => exact .seq0 _ _ _
  | cons p L ih =>
    exact .seq1 false [] [] (ptE p) (L.map ptE) [(c, p)] _ (mt_pt c p (h p (by simp))) (ih (fun q hq => h q (by simp [hq])))
theorem mt_word (c : ByteArray) (L : List Int) (h : ∀ p, p ∈ L → 0 ≤ p) : Mt (wordE L) (L.map fun p => (c, p)) := by
  match L, h with
  | [], _ => exact .none _ _ _ _
  | [p], h => exact mt_pt c p (h p (by simp))
  | p :: q :: L, h => exact mt_pts c (p :: q :: L) h
theorem mt_pt_len (p : Int) (l : List Kd) (h : Mt (ptE p) l) : l.length = 1 := by
  unfold ptE at h
  cases h
  rfl
theorem mt_pts_len (L : List Int) : ∀ (l : List Kd), Mt (.mk 3 false [] [] (L.map ptE)) l → l.length = L.length := by
  induction L with
  | nil => intro l h; cases h; rfl
  | cons p L ih =>
    intro l h
    rw [List.map_cons] at h
    cases h with
    | seq1 _ _ _ _ _ u v h1 h2 => rw [List.length_append, mt_pt_len p u h1, ih v h2, List.length_cons]; omega
theorem mt_word_len (L : List Int) (l : List Kd) (h : Mt (wordE L) l) : l.length = L.length := by
  match L, h with
  | [], h => unfold wordE at h; cases h; rfl
  | [p], h => exact mt_pt_len p l h
  | p :: q :: L, h => exact mt_pts_len (p :: q :: L) l h
end Go.Proofs.YthfnaalbgjeaeaaDoor
namespace Go.Proofs.YthfnaalbgjeaeaaDoor
open Go.RowKit Go.Shelf
def kdC (u : Kd) : List Value := [.string u.1, .int .i64 u.2]
def cellsK (l : List Kd) : List Value := l.flatMap kdC
theorem flat2 (l : List Kd) : ∀ (i j : Nat) (h : i < l.length), j < 2 → (cellsK l)[i * 2 + j]? = (kdC l[i])[j]? := by
  unfold cellsK
  induction l with
  | nil => intro i j h; exact absurd h (Nat.not_lt_zero _)
  | cons g l ih =>
    intro i j h hj
    rw [List.flatMap_cons]
    cases i with
    | zero =>
      rw [Nat.zero_mul, Nat.zero_add, List.getElem?_append_left (by simpa [kdC] using hj)]
      rfl
    | succ i =>
      rw [List.getElem?_append_right (by simp [kdC]; omega)]
      rw [show (i + 1) * 2 + j - (kdC g).length = i * 2 + j by simp [kdC]; omega]
      exact ih i j (by simpa using h) hj
def OwnK (w : World) (lo : Nat) (v : Value) (l : List Kd) : Prop := w.ownsRow lo 37 2 v l.length (cellsK l)
theorem OwnK.nil (w : World) (lo : Nat) : OwnK w lo (.slice none 0 0) [] := World.ownsRow_nil _ _ _ _
theorem OwnK.ka {w : World} {lo : Nat} {v : Value} {l : List Kd} (h : OwnK w lo v l) : ∃ a cap, v = .slice a l.length cap ∧ KA w w.heap.size a l := by
  have h0 := h
  rcases h.2 with ⟨rfl, hn⟩ | ⟨g, cap, cur, rfl, hg, hr, _⟩
  · exact ⟨none, 0, by rw [hn], ⟨fun k hk => by omega⟩⟩
  · refine ⟨_, cap, rfl, ⟨fun k hk => ⟨g, 0, rfl, (World.ownsRow.lt h0 g rfl).2, ?_, ?_⟩⟩⟩
    · have := World.ownsRow.cellAt h0 (k * 2) (by omega)
      rw [Nat.zero_add, this]
      exact flat2 l k 0 hk (by omega)
    · have := World.ownsRow.cellAt h0 (k * 2 + 1) (by omega)
      rw [Nat.zero_add, this]
      exact flat2 l k 1 hk (by omega)
theorem OwnK.past {w w' : World} {lo : Nat} {v : Value} {l : List Kd} (h : OwnK w lo v l) (k : Below w.heap.size w w') : OwnK w' lo v l :=
  own_blk h (fun g hg => k.block g (World.ownsRow.lt h g hg).2)
theorem infoKind : (Tryd.prog.info? 37).map (fun i => (i.zero, i.size, i.bytes)) = some (some (.agg #[.string ByteArray.empty, .int .i64 0]), 2, 24) := by kernel_rfl
theorem LW.store {w : World} {lo g c : Nat} {L : List Int} (h : LW w lo g c L) (k : Nat) (hk : k < L.length) (z : Int) : LW (w.setCell ⟨g, k, none⟩ (.int .i64 z)) lo g c (L.set k z) := by
  have h1 := (World.ownsRow.stored h k (.int .i64 z)).1
  unfold LW
  rw [List.length_set, List.map_set, ← List.set_append_left _ _ (by simpa using hk)]
  exact h1
/-- What stands while the law goes on. -/
structure SS (w W : World) (g c : Nat) (M L : List Int) (X Y : Nat) (x y : EV) : Prop where
  bel : Below w.heap.size w W
  li : LW W w.heap.size g c M
  ax : ExIs W (fun b => b ≠ g) (wordE L) x
  bx : ExIs W (fun b => b ≠ g) (wordE L) y
  ra : W.heap[X]? = some (.cells #[x.k, x.t, x.n, x.p, x.r] 30 (0, 0))
  rb : W.heap[Y]? = some (.cells #[y.k, y.t, y.n, y.p, y.r] 30 (0, 0))
  xg : X ≠ g
  yg : Y ≠ g
theorem SS.past {w W W' : World} {g c : Nat} {M L : List Int} {X Y : Nat} {x y : EV} (h : SS w W g c M L X Y x y) (k : Below W.heap.size W W') : SS w W' g c M L X Y x y :=
  ⟨Below.later h.bel k, h.li.past k, h.ax.past k, h.bx.past k, (k.block _ (lt_of_row h.ra)).trans h.ra, (k.block _ (lt_of_row h.rb)).trans h.rb, h.xg, h.yg⟩
theorem SS.store {w W : World} {g c : Nat} {M L : List Int} {X Y : Nat} {x y : EV} (h : SS w W g c M L X Y x y) (k : Nat) (hk : k < M.length) (z : Int) : SS w (W.setCell ⟨g, k, none⟩ (.int .i64 z)) g c (M.set k z) L X Y x y := by
  have ho := Only.setCell W g k (.int .i64 z)
  have hg := (World.ownsRow.lt h.li g rfl).1
  have hk' : Keeps (fun b => b ≠ g) W (W.setCell ⟨g, k, none⟩ (.int .i64 z)) := ⟨ho.size, fun b o hb hl => ho.cell (p := ⟨b, o, none⟩) hl hb⟩
  exact ⟨h.bel.setCell (p := ⟨g, k, none⟩) hg _, h.li.store k hk z, h.ax.keeps hk', h.bx.keeps hk', (ho.block X (lt_of_row h.ra) h.xg).trans h.ra, (ho.block Y (lt_of_row h.rb) h.yg).trans h.rb, h.xg, h.yg⟩
theorem WordR.shape {w w' : World} {L : List Int} {r : Ending} (h : WordR w L r w') : ∃ k t a m c b n d g l z, r = .returned (.agg #[.int .i64 k, .bool t, .slice a m c, .slice b n d, .slice g l z]) ∧ ExIs w' (fun g => w.heap.size ≤ g) (wordE L) ⟨.int .i64 k, .bool t, .slice a m c, .slice b n d, .slice g l z⟩ ∧ Below w.heap.size w w' := h
/-- Check of a word's expression; Match of it. -/
theorem check_word (L : List Int) (x : EV) (Q : Nat → Prop) (A : Nat → Addr) (w : World) (hx : ExIs w Q (wordE L) x) (hE : E3 w A) :
    Calls Tryd.prog 10 #[x.v] w fun r w' => r = .returned (errC A (chkE mayP (wordE L) 1 0 0)) ∧ Below w.heap.size w w' := check_any mayP (wordE L) x Q A w hx (allM_word L) hE
theorem match_word (cls : ByteArray) (L : List Int) (x : EV) (Q : Nat → Prop) (a : Option Addr) (ca : Nat) (A : Nat → Addr) (w : World) (hl : L.length ≤ 1000000000) (hx : ExIs w Q (wordE L) x) (hE : E3 w A) (ha : KA w w.heap.size a (L.map fun p => (cls, p))) :
    Calls Tryd.prog 11 #[x.v, .slice a L.length ca] w fun r w' => r = .returned (.bool (CR.okB (chkE mayP (wordE L) 1 0 0))) ∧ Below w.heap.size w w' := by
  have h := match_any mayP (wordE L) _ rfl (fun h => ⟨way_word L (chk_word L h).1, (chk_word L h).2⟩) x Q (L.map fun p => (cls, p)) a ca A w (by simpa using hl) hx (allM_word L) hE ha
  rw [List.length_map] at h
  refine h.mono ?_
  rintro r w' ⟨⟨b, rfl, hb⟩, hw⟩
  refine ⟨?_, hw⟩
  cases hk : CR.okB (chkE mayP (wordE L) 1 0 0) with
  | true => rw [hb.2 ⟨hk, mt_word cls L (chk_word L hk).1⟩]
  | false =>
    cases b with
    | false => rfl
    | true => rw [(hb.1 rfl).1] at hk; cases hk
theorem match_longer (L : List Int) (l : List Kd) (x : EV) (Q : Nat → Prop) (a : Option Addr) (ca : Nat) (A : Nat → Addr) (w : World) (hl : L.length < 1000000000) (hll : l.length = L.length + 1) (hx : ExIs w Q (wordE L) x) (hE : E3 w A) (ha : KA w w.heap.size a l) :
    Calls Tryd.prog 11 #[x.v, .slice a (L.length + 1) ca] w fun r w' => r = .returned (.bool false) ∧ Below w.heap.size w w' := by
  have h := match_any mayP (wordE L) _ rfl (fun h => ⟨way_word L (chk_word L h).1, (chk_word L h).2⟩) x Q l a ca A w (by omega) hx (allM_word L) hE ha
  rw [hll] at h
  refine h.mono ?_
  rintro r w' ⟨⟨b, rfl, hb⟩, hw⟩
  refine ⟨?_, hw⟩
  cases b with
  | false => rfl
  | true =>
    have := mt_word_len L l (hb.1 rfl).2
    omega
end Go.Proofs.YthfnaalbgjeaeaaDoor
namespace Go.Proofs.YthfnaalbgjeaeaaDoor
open Go.RowKit Go.Shelf
theorem ss_first {w w1 w2 v2 w3 v3 : World} {g c : Nat} {L : List Int} {x y : EV} (hb1 : Below w.heap.size w w1) (hL : LW w1 w.heap.size g c L) (hx : ExIs w2 (fun b => w1.heap.size ≤ b) (wordE L) x) (hb2 : Below w1.heap.size w1 w2)
    (hv2 : w2.alloc (.cells #[x.k, x.t, x.n, x.p, x.r] 30) = v2) (hy : ExIs w3 (fun b => v2.heap.size ≤ b) (wordE L) y) (hb3 : Below v2.heap.size v2 w3) (hv3 : w3.alloc (.cells #[y.k, y.t, y.n, y.p, y.r] 30) = v3) :
    SS w v3 g c L L w2.heap.size w3.heap.size x y := by
  have hg := (World.ownsRow.lt hL g rfl).2
  have s1 := hb1.size
  have s2 := hb2.size
  have s3 := hb3.size
  have e2 : v2.heap.size = w2.heap.size + 1 := by rw [← hv2]; simp
  have k2 : Below w2.heap.size w2 v2 := by rw [← hv2]; exact (Below.refl _ _).alloc (Nat.le_refl _) _
  have r2 : v2.heap[w2.heap.size]? = some (.cells #[x.k, x.t, x.n, x.p, x.r] 30 (0, 0)) := by rw [← hv2]; exact heap_alloc_new w2 _
  have k3 : Below w3.heap.size w3 v3 := by rw [← hv3]; exact (Below.refl _ _).alloc (Nat.le_refl _) _
  have r3 : v3.heap[w3.heap.size]? = some (.cells #[y.k, y.t, y.n, y.p, y.r] 30 (0, 0)) := by rw [← hv3]; exact heap_alloc_new w3 _
  have ka : Below w2.heap.size w2 v3 := Below.later (Below.later k2 hb3) k3
  refine ⟨Below.later (Below.later hb1 hb2) ka, hL.past (Below.later hb2 ka), ?_, ?_, ?_, r3, by omega, by omega⟩
  · exact (hx.past ka).mono (fun b _ h => by omega)
  · exact (hy.past k3).mono (fun b _ h => by omega)
  · exact (Below.later hb3 k3).block _ (by omega) |>.trans r2
theorem below_drewN (w : World) (n : Nat) : Below w.heap.size w (w.drewN n) := ⟨rfl, rfl, rfl, Nat.le_refl _, fun _ _ => rfl⟩
theorem ka_of {w : World} {lo : Nat} {a : Option Addr} {n c : Nat} {l : List Kd} (h : OwnK w lo (.slice a n c) l) : KA w w.heap.size a l := by
  obtain ⟨a', c', e, h1⟩ := h.ka
  cases e
  exact h1
set_option maxRecDepth 10000 in
set_option maxHeartbeats 6400000 in
theorem exprWords_any (L : List Int) (a : Option Addr) (cap : Nat) (A : Nat → Addr) (w : World) (hl : L.length < 900000000) (ha : IA w a L) (hE : E3 w A) :
    Calls Tryd.prog 3 #[.slice a L.length cap] w fun r w' => r = .returned (.bool true) ∧ Below w.heap.size w w' := by
  obtain ⟨i0, hi, hz0, hz1, hz2⟩ := info_parts infoKind
  have HA := hid0 ha
  have HE3 := hid0 hE
  have HLt := hid0 hl
  have HLe : Hid (L.length ≤ 1000000000) := hid0 (by omega)
  have HList := hid0 (list_any L a cap w (by omega) ha)
  have HSame2 : Hid (∀ (M : List Int) (W : World) (x y : EV) {Q Q' : Nat → Prop}, ExIs W Q (wordE M) x → ExIs W Q' (wordE M) y → Calls Tryd.prog 7 #[x.v, y.v] W fun r w' => r = .returned (.bool true) ∧ Below W.heap.size W w') := hid0 (fun M W x y Q Q' h1 h2 => sameE h1 W y Q' (Below.refl _ _) h2)
  have HSame := hid0 (fun (W : World) (x y : EV) {Q Q' : Nat → Prop} (h1 : ExIs W Q (wordE L) x) (h2 : ExIs W Q' (wordE L) y) => HSame2.out L W x y h1 h2)
  have HCk := hid0 (fun (W : World) (x : EV) (Q : Nat → Prop) (h : ExIs W Q (wordE L) x) (h3 : E3 W A) => check_word L x Q A W h h3)
  have HMt := hid0 (fun (W : World) (x : EV) (Q : Nat → Prop) (av : Option Addr) (cv : Nat) (h : ExIs W Q (wordE L) x) (h3 : E3 W A) (h4 : KA W W.heap.size av (L.map fun p => ((⟨#[65]⟩ : ByteArray), p))) => match_word ⟨#[65]⟩ L x Q av cv A W HLe.out h h3 h4)
  have HMl := hid0 (fun (W : World) (x : EV) (Q : Nat → Prop) (av : Option Addr) (cv : Nat) (l : List Kd) (hll : l.length = L.length + 1) (h : ExIs W Q (wordE L) x) (h3 : E3 W A) (h4 : KA W W.heap.size av l) => match_longer L l x Q av cv A W (by omega) hll h h3 h4)
  unfold EV.v at HSame2 HSame HCk HMt HMl
  clear ha hE hl
  generalize chkE mayP (wordE L) 1 0 0 = res at *
  cases res with
  | ok rn rs =>
    unfold errC at HCk
    unfold CR.okB at HMt
    simp only at HCk HMt
    go_enter Tryd.func3, Tryd.ntmps3
    go_wp2_with (first
      | (go_at_call 4; refine HList.out.mono ?_; rintro r w1 ⟨g, c, rfl, hL1, hb1⟩; have HL1 := hid0 hL1; have HB1 := hid0 hb1; clear hL1 hb1 HList)
      | (go_at_call 5; refine (word_any L (some ⟨g, 0, none⟩) c w1 HLe.out HL1.out.ia).mono ?_; rintro r w2 hR; obtain ⟨k1, t1, a1, m1, c1, b1, n1, d1, g1, l1, z1, rfl, hx2, hb2⟩ := WordR.shape hR
         obtain ⟨v2, hv2⟩ : ∃ v2, w2.alloc (.cells #[.int .i64 k1, .bool t1, .slice a1 m1 c1, .slice b1 n1 d1, .slice g1 l1 z1] 30) = v2 := ⟨_, rfl⟩
         have HX2 := hid0 hx2; have HB2 := hid0 hb2; have HV2 := hid0 hv2; clear hx2 hb2 hR)
      | (go_at_call 6
         have HBv : Hid (Below w.heap.size w v2) := hid0 (by rw [← HV2.out]; exact (Below.later HB1.out HB2.out).alloc (by have := (Below.later HB1.out HB2.out).size; omega) _)
         refine (refWord_any L a cap v2 HLe.out (HA.out.past HBv.out)).mono ?_; rintro r w3 hR; obtain ⟨k2, t2, a2, m2, c2, b2, n2, d2, g2, l2, z2, rfl, hx3, hb3⟩ := WordR.shape hR
         obtain ⟨v3, hv3⟩ : ∃ v3, w3.alloc (.cells #[.int .i64 k2, .bool t2, .slice a2 m2 c2, .slice b2 n2 d2, .slice g2 l2 z2] 30) = v3 := ⟨_, rfl⟩
         have HS3 : Hid (SS w v3 g c L L w2.heap.size w3.heap.size ⟨.int .i64 k1, .bool t1, .slice a1 m1 c1, .slice b1 n1 d1, .slice g1 l1 z1⟩ ⟨.int .i64 k2, .bool t2, .slice a2 m2 c2, .slice b2 n2 d2, .slice g2 l2 z2⟩) := hid0 (ss_first HB1.out HL1.out HX2.out HB2.out HV2.out hx3 hb3 hv3)
         obtain ⟨⟨x0, x1, x2, x3, x4⟩, _⟩ := row5 HS3.out.ra
         obtain ⟨⟨y0, y1, y2, y3, y4⟩, _⟩ := row5 HS3.out.rb
         clear hx3 hb3 hR hv2 HBv)
      | (go_at_call 7; go_loud (refine (HSame.out v3 _ _ HS3.out.ax HS3.out.bx).mono ?_); rintro r w4 ⟨rfl, hb4⟩; have HS4 := hid0 (HS3.out.past hb4); clear hb4 hv3 x0 x1 x2 x3 x4 y0 y1 y2 y3 y4)
      | (go_at_call 8; go_loud (refine (sameI L (some ⟨g, 0, none⟩) a c cap w4 HLe.out HS4.out.li.ia (HA.out.past HS4.out.bel)).mono ?_; rintro r w5 ⟨rfl, n5, hw5⟩); have HS5 : Hid (SS w w5 g c L L w2.heap.size w3.heap.size ⟨.int .i64 k1, .bool t1, .slice a1 m1 c1, .slice b1 n1 d1, .slice g1 l1 z1⟩ ⟨.int .i64 k2, .bool t2, .slice a2 m2 c2, .slice b2 n2 d2, .slice g2 l2 z2⟩) := hid0 (HS4.out.past (by rw [hw5]; exact below_drewN _ _)); clear hw5)
      | (go_at_call 9; refine (listLeft_any L w.heap.size g c w5 HLe.out HS5.out.li).mono ?_; rintro r w6 ⟨rfl, n6, hw6⟩; have HS6 : Hid (SS w w6 g c L L w2.heap.size w3.heap.size ⟨.int .i64 k1, .bool t1, .slice a1 m1 c1, .slice b1 n1 d1, .slice g1 l1 z1⟩ ⟨.int .i64 k2, .bool t2, .slice a2 m2 c2, .slice b2 n2 d2, .slice g2 l2 z2⟩) := hid0 (HS5.out.past (by rw [hw6]; exact below_drewN _ _)); clear hw6)
      | fail)
    clear HL1 HX2 HB1 HB2 HV2 HS3 HS4 HS5
    go_loopw [7, 8] (fun v i wr => ∃ k : Nat, k ≤ L.length ∧ i = .int .i64 (k : Int) ∧ Hid (OwnK wr w6.heap.size v ((L.take k).map fun p => (⟨#[65]⟩, p))) ∧ Hid (Below w6.heap.size w6 wr)) (fun _ i _ => L.length - (intOf i).toNat)
    case atStart => exact ⟨0, Nat.zero_le _, rfl, hid0 (OwnK.nil _ _), hid0 (Below.refl _ _)⟩
    case round =>
      obtain ⟨k, hk, rfl, HO, HB⟩ := hrel
      have hbs := HB.out.size
      have hlv := HLt.out
      by_cases hlt : k < L.length
      · have hkI : (k : Int) < (L.length : Int) := by omega
        have hkI0 : (0 : Int) ≤ (k : Int) := by omega
        obtain ⟨b, off, rfl, hbw, hc⟩ := (HA.out.past (Below.later HS6.out.bel HB.out)).at' k hlt
        have HTK : Hid ((L.take (k + 1)).map (fun p => ((⟨#[65]⟩ : ByteArray), p)) = (L.take k).map (fun p => ((⟨#[65]⟩ : ByteArray), p)) ++ [((⟨#[65]⟩ : ByteArray), L[k])]) := hid0 (by rw [List.take_add_one, List.getElem?_eq_getElem hlt, List.map_append]; rfl)
        have HTL : Hid (((L.take k).map fun p => ((⟨#[65]⟩ : ByteArray), p)).length = k) := hid0 (by rw [List.length_map, List.length_take]; omega)
        obtain ⟨av, cv, rfl⟩ : ∃ av cv, u7 = .slice av k cv := by
          obtain ⟨av, cv, e, _⟩ := HO.out.ka
          rw [HTL.out] at e
          exact ⟨av, cv, e⟩
        have HOk : Hid (wr.ownsRow w6.heap.size 37 2 (.slice av k cv) k (cellsK ((L.take k).map fun p => (⟨#[65]⟩, p)))) := hid0 (by have h := HO.out; unfold OwnK at h; rw [HTL.out] at h; exact h)
        generalize L[k] = s at *
        go_wp2_with (first
          | (at_builtin; go_loud ((
               refine wpList_append_own _ (by rfl) _ _ 35 (by rfl) w6.heap.size 37 i0 (.agg #[.string ByteArray.empty, .int .i64 0]) 2 24 Tryd.underlying35 hi hz0 hz1 hz2 rfl (by decide) (.slice av k cv) k (cellsK ((L.take k).map fun p => (⟨#[65]⟩, p))) (by rfl) (World.ownsRow.alloc HOk.out _) ⟨wr.heap.size, 0, none⟩ 1 1 (kdC (⟨#[65]⟩, s)) (by rfl) (by rfl) (cell2_new wr _ _ _) (fun u hu => by unfold kdC at hu; simp only [List.mem_cons, List.not_mem_nil, or_false] at hu; rcases hu with rfl | rfl <;> rfl) (by have := HLt.out; unfold maxLen; omega) (by have := HLt.out; omega) (by simp; omega) ?_
               intro v2 w2' hown2 hgrow2 _
               have HO2 : Hid (OwnK w2' w6.heap.size v2 ((L.take (k + 1)).map fun p => (⟨#[65]⟩, p))) := hid0 (by rw [HTK.out]; unfold OwnK cellsK; rw [List.length_append, List.length_singleton, HTL.out, List.flatMap_append, List.flatMap_singleton]; exact hown2)
               have HB2 := hid0 ((HB.out.alloc (by omega) _).grown hgrow2 (by simp; omega) (fun q hq => (World.ownsRow.lt HO.out q hq).1))
               clear hown2 hgrow2)))
          | fail)
        go_roundw
        case rel => exact ⟨k + 1, by omega, by go_num, HO2, HB2⟩
        case measure => simp [intOf]; omega
      · have hkI : ¬ (k : Int) < (L.length : Int) := by omega
        have HE : Hid (OwnK wr w6.heap.size u7 (L.map fun p => (⟨#[65]⟩, p))) := hid0 (by have h := HO.out; rw [List.take_of_length_le (by omega)] at h; exact h)
        have HSr := hid0 (HS6.out.past HB.out)
        obtain ⟨⟨x0, x1, x2, x3, x4⟩, _⟩ := row5 HSr.out.ra
        obtain ⟨av, cv, rfl⟩ : ∃ av cv, u7 = .slice av L.length cv := by
          obtain ⟨av, cv, e, _⟩ := HE.out.ka
          rw [List.length_map] at e
          exact ⟨av, cv, e⟩
        clear HO hlt
        have M0 : Hid True := trivial
        go_wp2_with (first
          | (go_at_call 10; refine (HCk.out wr _ _ HSr.out.ax (E3.below HE3.out HSr.out.bel)).mono ?_; rintro r w7 ⟨rfl, hb7⟩
             have HB7 := hid0 (Below.later HB.out hb7); have HS7 := hid0 (HSr.out.past hb7); have HE7 := hid0 (HE.out.past hb7)
             clear x0 x1 x2 x3 x4
             obtain ⟨⟨x0, x1, x2, x3, x4⟩, _⟩ := row5 HS7.out.ra
             clear hb7)
          | (go_at_call 11; clear M0; refine (HMt.out w7 _ _ av cv HS7.out.ax (E3.below HE3.out HS7.out.bel) (ka_of HE7.out)).mono ?_; rintro r w8 ⟨rfl, hb8⟩
             have HB8 := hid0 (Below.later HB7.out hb8); have HE8 := hid0 (HE7.out.past hb8)
             have hbs8 := HB8.out.size
             have HO8 : Hid (w8.ownsRow w6.heap.size 37 2 (.slice av L.length cv) L.length (cellsK (L.map fun p => (⟨#[65]⟩, p)))) := hid0 (by have h := HE8.out; unfold OwnK at h; rw [List.length_map] at h; exact h)
             clear hb8 x0 x1 x2 x3 x4)
          | (at_builtin; go_loud ((
               refine wpList_append_own _ (by rfl) _ _ 35 (by rfl) w6.heap.size 37 i0 (.agg #[.string ByteArray.empty, .int .i64 0]) 2 24 Tryd.underlying35 hi hz0 hz1 hz2 rfl (by decide) (.slice av L.length cv) L.length (cellsK (L.map fun p => (⟨#[65]⟩, p))) (by rfl) (World.ownsRow.alloc HO8.out _) ⟨w8.heap.size, 0, none⟩ 1 1 (kdC (ByteArray.empty, 65)) (by rfl) (by rfl) (cell2_new w8 _ _ _) (fun u hu => by unfold kdC at hu; simp only [List.mem_cons, List.not_mem_nil, or_false] at hu; rcases hu with rfl | rfl <;> rfl) (by have := HLt.out; unfold maxLen; omega) (by have := HLt.out; omega) (by simp; omega) ?_
               intro v9 w9 hown9 hgrow9 _
               have HE9 : Hid (OwnK w9 w6.heap.size v9 ((L.map fun p => (⟨#[65]⟩, p)) ++ [(ByteArray.empty, 65)])) := hid0 (by unfold OwnK cellsK; rw [List.length_append, List.length_singleton, List.length_map, List.flatMap_append, List.flatMap_singleton]; exact hown9)
               have HB9 := hid0 ((HB8.out.alloc (by omega) _).grown hgrow9 (by simp; omega) (fun q hq => (World.ownsRow.lt HE8.out q hq).1))
               have HS9 := hid0 (HS6.out.past HB9.out)
               obtain ⟨a9, c9, rfl⟩ : ∃ a9 c9, v9 = .slice a9 (L.length + 1) c9 := by { obtain ⟨av, cv, e, _⟩ := HE9.out.ka; rw [List.length_append, List.length_map] at e; exact ⟨av, cv, e⟩ }
               obtain ⟨⟨x0, x1, x2, x3, x4⟩, _⟩ := row5 HS9.out.ra
               clear hown9 hgrow9)))
          | (go_at_call 11; refine (HMl.out w9 _ _ a9 c9 _ (by simp) HS9.out.ax (E3.below HE3.out HS9.out.bel) (ka_of HE9.out)).mono ?_; rintro r w10 ⟨rfl, hb10⟩
             have HS10 := hid0 (HS9.out.past hb10)
             clear hb10 x0 x1 x2 x3 x4)
          | fail)
        clear HS9 HE9 HB9 HE8 HB8 HO8 HE7 HB7 HS7 HSr HE HB
        go_loopw [13] (fun i wr => ∃ (k : Nat) (M : List Int), k ≤ L.length ∧ i = .int .i64 (k : Int) ∧ M.length = L.length ∧ Hid (SS w wr g c M L w2.heap.size w3.heap.size ⟨.int .i64 k1, .bool t1, .slice a1 m1 c1, .slice b1 n1 d1, .slice g1 l1 z1⟩ ⟨.int .i64 k2, .bool t2, .slice a2 m2 c2, .slice b2 n2 d2, .slice g2 l2 z2⟩)) (fun i _ => L.length - (intOf i).toNat)
        case atStart => exact ⟨0, L, Nat.zero_le _, rfl, rfl, HS10⟩
        case round =>
          obtain ⟨k, M, hk, rfl, hM, HSk⟩ := hrel
          have hlv := HLt.out
          by_cases hlt : k < L.length
          · have hkI : (k : Int) < (L.length : Int) := by omega
            have hkI0 : (0 : Int) ≤ (k : Int) := by omega
            obtain ⟨b0, o0, e0, _, c0⟩ := HSk.out.li.ia.at' k (by omega)
            cases e0
            rw [Nat.zero_add] at c0
            have f0 : wr.frozen? ⟨g, k, none⟩ = false := World.ownsRow.frozenAt HSk.out.li k
            generalize M[k]'(by omega) = s0 at c0
            go_wp2
            go_roundw
            case rel => exact ⟨k + 1, _, by omega, by go_num, by rw [List.length_set]; exact hM, hid0 (HSk.out.store k (by omega) _)⟩
            case measure => simp [intOf]; omega
          · have hkI : ¬ (k : Int) < (L.length : Int) := by omega
            obtain ⟨⟨x0, x1, x2, x3, x4⟩, _⟩ := row5 HSk.out.ra
            obtain ⟨⟨y0, y1, y2, y3, y4⟩, _⟩ := row5 HSk.out.rb
            have HRW := hid0 (fun (W : World) (h : SS w W g c M L w2.heap.size w3.heap.size ⟨.int .i64 k1, .bool t1, .slice a1 m1 c1, .slice b1 n1 d1, .slice g1 l1 z1⟩ ⟨.int .i64 k2, .bool t2, .slice a2 m2 c2, .slice b2 n2 d2, .slice g2 l2 z2⟩) => refWord_any M (some ⟨g, 0, none⟩) c W (by have := HLe.out; omega) h.li.ia)
            have HWW := hid0 (fun (W : World) (h : SS w W g c M L w2.heap.size w3.heap.size ⟨.int .i64 k1, .bool t1, .slice a1 m1 c1, .slice b1 n1 d1, .slice g1 l1 z1⟩ ⟨.int .i64 k2, .bool t2, .slice a2 m2 c2, .slice b2 n2 d2, .slice g2 l2 z2⟩) => word_any M (some ⟨g, 0, none⟩) c W (by have := HLe.out; omega) h.li.ia)
            rw [hM] at HRW HWW
            clear HS10 hk hlt
            go_wp2_with (first
              | (go_at_call 7; refine (HSame.out wr _ _ HSk.out.ax HSk.out.bx).mono ?_; rintro r w11 ⟨rfl, hb11⟩; have HS11 := hid0 (HSk.out.past hb11); clear hb11 x0 x1 x2 x3 x4 y0 y1 y2 y3 y4)
              | (go_at_call 6; refine (HRW.out w11 HS11.out).mono ?_; rintro r w12 hR; obtain ⟨k3, t3, a3, m3, c3, b3, n3, d3, g3, l3, z3, rfl, hx12, hb12⟩ := WordR.shape hR
                 obtain ⟨v12, hv12⟩ : ∃ v12, w12.alloc (.cells #[.int .i64 k3, .bool t3, .slice a3 m3 c3, .slice b3 n3 d3, .slice g3 l3 z3] 30) = v12 := ⟨_, rfl⟩
                 have hbv : Below w12.heap.size w12 v12 := by rw [← hv12]; exact (Below.refl _ _).alloc (Nat.le_refl _) _
                 have hrv : v12.heap[w12.heap.size]? = some (.cells #[.int .i64 k3, .bool t3, .slice a3 m3 c3, .slice b3 n3 d3, .slice g3 l3 z3] 30 (0, 0)) := by rw [← hv12]; exact heap_alloc_new w12 _
                 have HS12 := hid0 ((HS11.out.past hb12).past hbv); have HX12 := hid0 (hx12.past hbv); have HR12 := hid0 hrv; clear hx12 hb12 hR hbv hrv)
              | fail)
            obtain ⟨⟨q0, q1, q2, q3, q4⟩, _⟩ := row5 HR12.out
            have HSkp : Hid (∀ W, Below v12.heap.size v12 W → W.cell? ⟨w12.heap.size, 0, none⟩ = some (.int .i64 k3) ∧ W.cell? ⟨w12.heap.size, 1, none⟩ = some (.bool t3) ∧ W.cell? ⟨w12.heap.size, 2, none⟩ = some (.slice a3 m3 c3) ∧ W.cell? ⟨w12.heap.size, 3, none⟩ = some (.slice b3 n3 d3) ∧ W.cell? ⟨w12.heap.size, 4, none⟩ = some (.slice g3 l3 z3)) := hid0 (fun W hW => (row5 ((hW.block _ (lt_of_row HR12.out)).trans HR12.out)).1)
            have hs0 := HSkp.out _ (Below.refl _ v12).drew
            go_region_held3 (fun W => W.cell? ⟨w12.heap.size, 0, none⟩ = some (.int .i64 k3) ∧ W.cell? ⟨w12.heap.size, 1, none⟩ = some (.bool t3) ∧ W.cell? ⟨w12.heap.size, 2, none⟩ = some (.slice a3 m3 c3) ∧ W.cell? ⟨w12.heap.size, 3, none⟩ = some (.slice b3 n3 d3) ∧ W.cell? ⟨w12.heap.size, 4, none⟩ = some (.slice g3 l3 z3))
              (first | assumption)
              (first
                | (go_at_call 5; refine (HWW.out _ (HS12.out.past (Below.refl _ v12).drew)).mono ?_; rintro r w13 hR; obtain ⟨k4, t4, a4, m4, c4, b4, n4, d4, g4, l4, z4, rfl, hx13, hb13⟩ := WordR.shape hR; have hb13' : Below v12.heap.size v12 w13 := Below.later (Below.refl _ v12).drew hb13; have hs13 := HSkp.out _ hb13'; have HX13 := hid0 hx13; have HB13 := hid0 hb13'; clear hb13 hb13' hR hx13)
                | (go_at_call 7; refine (HSame2.out M w13 _ _ HX13.out (HX12.out.past HB13.out)).mono ?_; rintro r w14 ⟨rfl, hb14⟩; have hs14 := HSkp.out _ (Below.later HB13.out hb14); have HB14 := hid0 (Below.later HB13.out hb14); clear hb14))
            go_wp2
            go_ret
            exact ⟨rfl, Below.later HS12.out.bel HB14.out⟩
  | bad rf =>
    unfold errC at HCk
    unfold CR.okB at HMt
    simp only at HCk HMt
    go_enter Tryd.func3, Tryd.ntmps3
    go_wp2_with (first
      | (go_at_call 4; refine HList.out.mono ?_; rintro r w1 ⟨g, c, rfl, hL1, hb1⟩; have HL1 := hid0 hL1; have HB1 := hid0 hb1; clear hL1 hb1 HList)
      | (go_at_call 5; refine (word_any L (some ⟨g, 0, none⟩) c w1 HLe.out HL1.out.ia).mono ?_; rintro r w2 hR; obtain ⟨k1, t1, a1, m1, c1, b1, n1, d1, g1, l1, z1, rfl, hx2, hb2⟩ := WordR.shape hR
         obtain ⟨v2, hv2⟩ : ∃ v2, w2.alloc (.cells #[.int .i64 k1, .bool t1, .slice a1 m1 c1, .slice b1 n1 d1, .slice g1 l1 z1] 30) = v2 := ⟨_, rfl⟩
         have HX2 := hid0 hx2; have HB2 := hid0 hb2; have HV2 := hid0 hv2; clear hx2 hb2 hR)
      | (go_at_call 6
         have HBv : Hid (Below w.heap.size w v2) := hid0 (by rw [← HV2.out]; exact (Below.later HB1.out HB2.out).alloc (by have := (Below.later HB1.out HB2.out).size; omega) _)
         refine (refWord_any L a cap v2 HLe.out (HA.out.past HBv.out)).mono ?_; rintro r w3 hR; obtain ⟨k2, t2, a2, m2, c2, b2, n2, d2, g2, l2, z2, rfl, hx3, hb3⟩ := WordR.shape hR
         obtain ⟨v3, hv3⟩ : ∃ v3, w3.alloc (.cells #[.int .i64 k2, .bool t2, .slice a2 m2 c2, .slice b2 n2 d2, .slice g2 l2 z2] 30) = v3 := ⟨_, rfl⟩
         have HS3 : Hid (SS w v3 g c L L w2.heap.size w3.heap.size ⟨.int .i64 k1, .bool t1, .slice a1 m1 c1, .slice b1 n1 d1, .slice g1 l1 z1⟩ ⟨.int .i64 k2, .bool t2, .slice a2 m2 c2, .slice b2 n2 d2, .slice g2 l2 z2⟩) := hid0 (ss_first HB1.out HL1.out HX2.out HB2.out HV2.out hx3 hb3 hv3)
         obtain ⟨⟨x0, x1, x2, x3, x4⟩, _⟩ := row5 HS3.out.ra
         obtain ⟨⟨y0, y1, y2, y3, y4⟩, _⟩ := row5 HS3.out.rb
         clear hx3 hb3 hR hv2 HBv)
      | (go_at_call 7; go_loud (refine (HSame.out v3 _ _ HS3.out.ax HS3.out.bx).mono ?_); rintro r w4 ⟨rfl, hb4⟩; have HS4 := hid0 (HS3.out.past hb4); clear hb4 hv3 x0 x1 x2 x3 x4 y0 y1 y2 y3 y4)
      | (go_at_call 8; go_loud (refine (sameI L (some ⟨g, 0, none⟩) a c cap w4 HLe.out HS4.out.li.ia (HA.out.past HS4.out.bel)).mono ?_; rintro r w5 ⟨rfl, n5, hw5⟩); have HS5 : Hid (SS w w5 g c L L w2.heap.size w3.heap.size ⟨.int .i64 k1, .bool t1, .slice a1 m1 c1, .slice b1 n1 d1, .slice g1 l1 z1⟩ ⟨.int .i64 k2, .bool t2, .slice a2 m2 c2, .slice b2 n2 d2, .slice g2 l2 z2⟩) := hid0 (HS4.out.past (by rw [hw5]; exact below_drewN _ _)); clear hw5)
      | (go_at_call 9; refine (listLeft_any L w.heap.size g c w5 HLe.out HS5.out.li).mono ?_; rintro r w6 ⟨rfl, n6, hw6⟩; have HS6 : Hid (SS w w6 g c L L w2.heap.size w3.heap.size ⟨.int .i64 k1, .bool t1, .slice a1 m1 c1, .slice b1 n1 d1, .slice g1 l1 z1⟩ ⟨.int .i64 k2, .bool t2, .slice a2 m2 c2, .slice b2 n2 d2, .slice g2 l2 z2⟩) := hid0 (HS5.out.past (by rw [hw6]; exact below_drewN _ _)); clear hw6)
      | fail)
    clear HL1 HX2 HB1 HB2 HV2 HS3 HS4 HS5
    go_loopw [7, 8] (fun v i wr => ∃ k : Nat, k ≤ L.length ∧ i = .int .i64 (k : Int) ∧ Hid (OwnK wr w6.heap.size v ((L.take k).map fun p => (⟨#[65]⟩, p))) ∧ Hid (Below w6.heap.size w6 wr)) (fun _ i _ => L.length - (intOf i).toNat)
    case atStart => exact ⟨0, Nat.zero_le _, rfl, hid0 (OwnK.nil _ _), hid0 (Below.refl _ _)⟩
    case round =>
      obtain ⟨k, hk, rfl, HO, HB⟩ := hrel
      have hbs := HB.out.size
      have hlv := HLt.out
      by_cases hlt : k < L.length
      · have hkI : (k : Int) < (L.length : Int) := by omega
        have hkI0 : (0 : Int) ≤ (k : Int) := by omega
        obtain ⟨b, off, rfl, hbw, hc⟩ := (HA.out.past (Below.later HS6.out.bel HB.out)).at' k hlt
        have HTK : Hid ((L.take (k + 1)).map (fun p => ((⟨#[65]⟩ : ByteArray), p)) = (L.take k).map (fun p => ((⟨#[65]⟩ : ByteArray), p)) ++ [((⟨#[65]⟩ : ByteArray), L[k])]) := hid0 (by rw [List.take_add_one, List.getElem?_eq_getElem hlt, List.map_append]; rfl)
        have HTL : Hid (((L.take k).map fun p => ((⟨#[65]⟩ : ByteArray), p)).length = k) := hid0 (by rw [List.length_map, List.length_take]; omega)
        obtain ⟨av, cv, rfl⟩ : ∃ av cv, u7 = .slice av k cv := by
          obtain ⟨av, cv, e, _⟩ := HO.out.ka
          rw [HTL.out] at e
          exact ⟨av, cv, e⟩
        have HOk : Hid (wr.ownsRow w6.heap.size 37 2 (.slice av k cv) k (cellsK ((L.take k).map fun p => (⟨#[65]⟩, p)))) := hid0 (by have h := HO.out; unfold OwnK at h; rw [HTL.out] at h; exact h)
        generalize L[k] = s at *
        go_wp2_with (first
          | (at_builtin; go_loud ((
               refine wpList_append_own _ (by rfl) _ _ 35 (by rfl) w6.heap.size 37 i0 (.agg #[.string ByteArray.empty, .int .i64 0]) 2 24 Tryd.underlying35 hi hz0 hz1 hz2 rfl (by decide) (.slice av k cv) k (cellsK ((L.take k).map fun p => (⟨#[65]⟩, p))) (by rfl) (World.ownsRow.alloc HOk.out _) ⟨wr.heap.size, 0, none⟩ 1 1 (kdC (⟨#[65]⟩, s)) (by rfl) (by rfl) (cell2_new wr _ _ _) (fun u hu => by unfold kdC at hu; simp only [List.mem_cons, List.not_mem_nil, or_false] at hu; rcases hu with rfl | rfl <;> rfl) (by have := HLt.out; unfold maxLen; omega) (by have := HLt.out; omega) (by simp; omega) ?_
               intro v2 w2' hown2 hgrow2 _
               have HO2 : Hid (OwnK w2' w6.heap.size v2 ((L.take (k + 1)).map fun p => (⟨#[65]⟩, p))) := hid0 (by rw [HTK.out]; unfold OwnK cellsK; rw [List.length_append, List.length_singleton, HTL.out, List.flatMap_append, List.flatMap_singleton]; exact hown2)
               have HB2 := hid0 ((HB.out.alloc (by omega) _).grown hgrow2 (by simp; omega) (fun q hq => (World.ownsRow.lt HO.out q hq).1))
               clear hown2 hgrow2)))
          | fail)
        go_roundw
        case rel => exact ⟨k + 1, by omega, by go_num, HO2, HB2⟩
        case measure => simp [intOf]; omega
      · have hkI : ¬ (k : Int) < (L.length : Int) := by omega
        have HE : Hid (OwnK wr w6.heap.size u7 (L.map fun p => (⟨#[65]⟩, p))) := hid0 (by have h := HO.out; rw [List.take_of_length_le (by omega)] at h; exact h)
        have HSr := hid0 (HS6.out.past HB.out)
        obtain ⟨⟨x0, x1, x2, x3, x4⟩, _⟩ := row5 HSr.out.ra
        obtain ⟨av, cv, rfl⟩ : ∃ av cv, u7 = .slice av L.length cv := by
          obtain ⟨av, cv, e, _⟩ := HE.out.ka
          rw [List.length_map] at e
          exact ⟨av, cv, e⟩
        clear HO hlt
        have M0 : Hid True := trivial
        go_wp2_with (first
          | (go_at_call 10; refine (HCk.out wr _ _ HSr.out.ax (E3.below HE3.out HSr.out.bel)).mono ?_; rintro r w7 ⟨rfl, hb7⟩
             have HB7 := hid0 (Below.later HB.out hb7); have HS7 := hid0 (HSr.out.past hb7); have HE7 := hid0 (HE.out.past hb7)
             clear x0 x1 x2 x3 x4
             obtain ⟨⟨x0, x1, x2, x3, x4⟩, _⟩ := row5 HS7.out.ra
             clear hb7)
          | (go_at_call 11; clear M0; refine (HMt.out w7 _ _ av cv HS7.out.ax (E3.below HE3.out HS7.out.bel) (ka_of HE7.out)).mono ?_; rintro r w8 ⟨rfl, hb8⟩
             have HB8 := hid0 (Below.later HB7.out hb8); have HE8 := hid0 (HE7.out.past hb8)
             have hbs8 := HB8.out.size
             have HO8 : Hid (w8.ownsRow w6.heap.size 37 2 (.slice av L.length cv) L.length (cellsK (L.map fun p => (⟨#[65]⟩, p)))) := hid0 (by have h := HE8.out; unfold OwnK at h; rw [List.length_map] at h; exact h)
             clear hb8 x0 x1 x2 x3 x4)
          | (at_builtin; go_loud ((
               refine wpList_append_own _ (by rfl) _ _ 35 (by rfl) w6.heap.size 37 i0 (.agg #[.string ByteArray.empty, .int .i64 0]) 2 24 Tryd.underlying35 hi hz0 hz1 hz2 rfl (by decide) (.slice av L.length cv) L.length (cellsK (L.map fun p => (⟨#[65]⟩, p))) (by rfl) (World.ownsRow.alloc HO8.out _) ⟨w8.heap.size, 0, none⟩ 1 1 (kdC (ByteArray.empty, 65)) (by rfl) (by rfl) (cell2_new w8 _ _ _) (fun u hu => by unfold kdC at hu; simp only [List.mem_cons, List.not_mem_nil, or_false] at hu; rcases hu with rfl | rfl <;> rfl) (by have := HLt.out; unfold maxLen; omega) (by have := HLt.out; omega) (by simp; omega) ?_
               intro v9 w9 hown9 hgrow9 _
               have HE9 : Hid (OwnK w9 w6.heap.size v9 ((L.map fun p => (⟨#[65]⟩, p)) ++ [(ByteArray.empty, 65)])) := hid0 (by unfold OwnK cellsK; rw [List.length_append, List.length_singleton, List.length_map, List.flatMap_append, List.flatMap_singleton]; exact hown9)
               have HB9 := hid0 ((HB8.out.alloc (by omega) _).grown hgrow9 (by simp; omega) (fun q hq => (World.ownsRow.lt HE8.out q hq).1))
               have HS9 := hid0 (HS6.out.past HB9.out)
               obtain ⟨a9, c9, rfl⟩ : ∃ a9 c9, v9 = .slice a9 (L.length + 1) c9 := by { obtain ⟨av, cv, e, _⟩ := HE9.out.ka; rw [List.length_append, List.length_map] at e; exact ⟨av, cv, e⟩ }
               obtain ⟨⟨x0, x1, x2, x3, x4⟩, _⟩ := row5 HS9.out.ra
               clear hown9 hgrow9)))
          | (go_at_call 11; refine (HMl.out w9 _ _ a9 c9 _ (by simp) HS9.out.ax (E3.below HE3.out HS9.out.bel) (ka_of HE9.out)).mono ?_; rintro r w10 ⟨rfl, hb10⟩
             have HS10 := hid0 (HS9.out.past hb10)
             clear hb10 x0 x1 x2 x3 x4)
          | fail)
        clear HS9 HE9 HB9 HE8 HB8 HO8 HE7 HB7 HS7 HSr HE HB
        go_loopw [13] (fun i wr => ∃ (k : Nat) (M : List Int), k ≤ L.length ∧ i = .int .i64 (k : Int) ∧ M.length = L.length ∧ Hid (SS w wr g c M L w2.heap.size w3.heap.size ⟨.int .i64 k1, .bool t1, .slice a1 m1 c1, .slice b1 n1 d1, .slice g1 l1 z1⟩ ⟨.int .i64 k2, .bool t2, .slice a2 m2 c2, .slice b2 n2 d2, .slice g2 l2 z2⟩)) (fun i _ => L.length - (intOf i).toNat)
        case atStart => exact ⟨0, L, Nat.zero_le _, rfl, rfl, HS10⟩
        case round =>
          obtain ⟨k, M, hk, rfl, hM, HSk⟩ := hrel
          have hlv := HLt.out
          by_cases hlt : k < L.length
          · have hkI : (k : Int) < (L.length : Int) := by omega
            have hkI0 : (0 : Int) ≤ (k : Int) := by omega
            obtain ⟨b0, o0, e0, _, c0⟩ := HSk.out.li.ia.at' k (by omega)
            cases e0
            rw [Nat.zero_add] at c0
            have f0 : wr.frozen? ⟨g, k, none⟩ = false := World.ownsRow.frozenAt HSk.out.li k
            generalize M[k]'(by omega) = s0 at c0
            go_wp2
            go_roundw
            case rel => exact ⟨k + 1, _, by omega, by go_num, by rw [List.length_set]; exact hM, hid0 (HSk.out.store k (by omega) _)⟩
            case measure => simp [intOf]; omega
          · have hkI : ¬ (k : Int) < (L.length : Int) := by omega
            obtain ⟨⟨x0, x1, x2, x3, x4⟩, _⟩ := row5 HSk.out.ra
            obtain ⟨⟨y0, y1, y2, y3, y4⟩, _⟩ := row5 HSk.out.rb
            have HRW := hid0 (fun (W : World) (h : SS w W g c M L w2.heap.size w3.heap.size ⟨.int .i64 k1, .bool t1, .slice a1 m1 c1, .slice b1 n1 d1, .slice g1 l1 z1⟩ ⟨.int .i64 k2, .bool t2, .slice a2 m2 c2, .slice b2 n2 d2, .slice g2 l2 z2⟩) => refWord_any M (some ⟨g, 0, none⟩) c W (by have := HLe.out; omega) h.li.ia)
            have HWW := hid0 (fun (W : World) (h : SS w W g c M L w2.heap.size w3.heap.size ⟨.int .i64 k1, .bool t1, .slice a1 m1 c1, .slice b1 n1 d1, .slice g1 l1 z1⟩ ⟨.int .i64 k2, .bool t2, .slice a2 m2 c2, .slice b2 n2 d2, .slice g2 l2 z2⟩) => word_any M (some ⟨g, 0, none⟩) c W (by have := HLe.out; omega) h.li.ia)
            rw [hM] at HRW HWW
            clear HS10 hk hlt
            go_wp2_with (first
              | (go_at_call 7; refine (HSame.out wr _ _ HSk.out.ax HSk.out.bx).mono ?_; rintro r w11 ⟨rfl, hb11⟩; have HS11 := hid0 (HSk.out.past hb11); clear hb11 x0 x1 x2 x3 x4 y0 y1 y2 y3 y4)
              | (go_at_call 6; refine (HRW.out w11 HS11.out).mono ?_; rintro r w12 hR; obtain ⟨k3, t3, a3, m3, c3, b3, n3, d3, g3, l3, z3, rfl, hx12, hb12⟩ := WordR.shape hR
                 obtain ⟨v12, hv12⟩ : ∃ v12, w12.alloc (.cells #[.int .i64 k3, .bool t3, .slice a3 m3 c3, .slice b3 n3 d3, .slice g3 l3 z3] 30) = v12 := ⟨_, rfl⟩
                 have hbv : Below w12.heap.size w12 v12 := by rw [← hv12]; exact (Below.refl _ _).alloc (Nat.le_refl _) _
                 have hrv : v12.heap[w12.heap.size]? = some (.cells #[.int .i64 k3, .bool t3, .slice a3 m3 c3, .slice b3 n3 d3, .slice g3 l3 z3] 30 (0, 0)) := by rw [← hv12]; exact heap_alloc_new w12 _
                 have HS12 := hid0 ((HS11.out.past hb12).past hbv); have HX12 := hid0 (hx12.past hbv); have HR12 := hid0 hrv; clear hx12 hb12 hR hbv hrv)
              | fail)
            obtain ⟨⟨q0, q1, q2, q3, q4⟩, _⟩ := row5 HR12.out
            have HSkp : Hid (∀ W, Below v12.heap.size v12 W → W.cell? ⟨w12.heap.size, 0, none⟩ = some (.int .i64 k3) ∧ W.cell? ⟨w12.heap.size, 1, none⟩ = some (.bool t3) ∧ W.cell? ⟨w12.heap.size, 2, none⟩ = some (.slice a3 m3 c3) ∧ W.cell? ⟨w12.heap.size, 3, none⟩ = some (.slice b3 n3 d3) ∧ W.cell? ⟨w12.heap.size, 4, none⟩ = some (.slice g3 l3 z3)) := hid0 (fun W hW => (row5 ((hW.block _ (lt_of_row HR12.out)).trans HR12.out)).1)
            have hs0 := HSkp.out _ (Below.refl _ v12).drew
            go_region_held3 (fun W => W.cell? ⟨w12.heap.size, 0, none⟩ = some (.int .i64 k3) ∧ W.cell? ⟨w12.heap.size, 1, none⟩ = some (.bool t3) ∧ W.cell? ⟨w12.heap.size, 2, none⟩ = some (.slice a3 m3 c3) ∧ W.cell? ⟨w12.heap.size, 3, none⟩ = some (.slice b3 n3 d3) ∧ W.cell? ⟨w12.heap.size, 4, none⟩ = some (.slice g3 l3 z3))
              (first | assumption)
              (first
                | (go_at_call 5; refine (HWW.out _ (HS12.out.past (Below.refl _ v12).drew)).mono ?_; rintro r w13 hR; obtain ⟨k4, t4, a4, m4, c4, b4, n4, d4, g4, l4, z4, rfl, hx13, hb13⟩ := WordR.shape hR; have hb13' : Below v12.heap.size v12 w13 := Below.later (Below.refl _ v12).drew hb13; have hs13 := HSkp.out _ hb13'; have HX13 := hid0 hx13; have HB13 := hid0 hb13'; clear hb13 hb13' hR hx13)
                | (go_at_call 7; refine (HSame2.out M w13 _ _ HX13.out (HX12.out.past HB13.out)).mono ?_; rintro r w14 ⟨rfl, hb14⟩; have hs14 := HSkp.out _ (Below.later HB13.out hb14); have HB14 := hid0 (Below.later HB13.out hb14); clear hb14))
            go_wp2
            go_ret
            exact ⟨rfl, Below.later HS12.out.bel HB14.out⟩
end Go.Proofs.YthfnaalbgjeaeaaDoor
namespace Go.Proofs.YthfnaalbgjeaeaaDoor
open Go.ChangeShapes Go.WideShapes Go.ChangeAt Go.RowKit
theorem own : ownKnob Tryd.prog.godebug = none := by kernel_rfl
/-- The settled world, the listed variables holding what their initialisers lay. -/
def laidWorld (hold : World) : World := { hold with heap := ((((((((hold.heap.modify 0 fun | .cells _ t frozen => .cells #[.iface 115 (.pointer (some ⟨hold.heap.size + 0, 0, none⟩))] t frozen | o => o).modify 1 fun | .cells _ t frozen => .cells #[.iface 115 (.pointer (some ⟨hold.heap.size + 1, 0, none⟩))] t frozen | o => o).modify 2 fun | .cells _ t frozen => .cells #[.iface 115 (.pointer (some ⟨hold.heap.size + 2, 0, none⟩))] t frozen | o => o).modify 4 fun | .cells _ t frozen => .cells (Go.Pinned.utf8FirstZ.map fun n => Value.int .u8 (Int.ofNat n)).toArray t frozen | o => o).modify 5 fun | .cells _ t frozen => .cells #[.int .u8 128, .int .u8 191, .int .u8 160, .int .u8 191, .int .u8 128, .int .u8 159, .int .u8 144, .int .u8 191, .int .u8 128, .int .u8 143, .int .u8 0, .int .u8 0, .int .u8 0, .int .u8 0, .int .u8 0, .int .u8 0, .int .u8 0, .int .u8 0, .int .u8 0, .int .u8 0, .int .u8 0, .int .u8 0, .int .u8 0, .int .u8 0, .int .u8 0, .int .u8 0, .int .u8 0, .int .u8 0, .int .u8 0, .int .u8 0, .int .u8 0, .int .u8 0] t frozen | o => o).push (.cells #[.string ⟨#[97, 98, 111, 118, 101, 32, 97, 32, 108, 105, 109, 105, 116]⟩] 133)).push (.cells #[.string ⟨#[97, 32, 110, 117, 109, 98, 101, 114, 32, 111, 114, 32, 97, 110, 32, 97, 114, 103, 117, 109, 101, 110, 116, 32, 105, 115, 32, 111, 117, 116, 32, 111, 102, 32, 105, 116, 115, 32, 112, 108, 97, 99, 101]⟩] 133)).push (.cells #[.string ⟨#[110, 111, 116, 32, 116, 104, 101, 32, 111, 110, 101, 32, 102, 111, 114, 109, 32, 116, 104, 97, 116, 32, 105, 115, 32, 119, 114, 105, 116, 116, 101, 110]⟩] 133)) }
set_option maxRecDepth 100000 in
theorem door_shaped (os : Os) (args : Array Value) : ((laidWorld (World.holding Tryd.prog os ⟨#[], #[], []⟩)).forCall (fun _ _ => 0) ⟨#[], args, []⟩).Shaped Tryd.prog :=
  World.shaped_of_RefB (by kernel_rfl) (by kernel_rfl)
/-- An input that fits, at a world that is written out. -/
theorem witness_row_shaped {H : Type} {enc : TypeId × Value → H} {C : Checked} {os : Os} {f : FuncId} {fn : Func} {s : OpenSpec} {conds : List PathCond} {apart : Bool} {laid : List (String × DataW Unit)} (w0 : World) (args : Array Value) (hos : w0.os = os)
    (hsh : (w0.forCall (fun _ _ => 0) ⟨#[], args, []⟩).Shaped C.prog)
    (hok : Input.okWideB C.prog (w0.forCall (fun _ _ => 0) ⟨#[], args, []⟩) f ⟨#[], args, []⟩ = true)
    (hrow : s.preRow enc C.prog fn conds apart laid (w0.forCall (fun _ _ => 0) ⟨#[], args, []⟩).memory args) :
    ∃ (w : World) (tape : Tape) (i : Input), w.os = os ∧ (w.forCall tape i).Shaped C.prog ∧ i.vars = [] ∧ Input.okWide C.prog (w.forCall tape i) .any w.heap.size f i ∧
      s.preRow enc C.prog fn conds apart laid (w.forCall tape i).memory i.args ∧ ({} : Assume).holds C.prog (lone (Frame.enter C.prog f i.args .normal) [] (w.forCall tape i)) :=
  ⟨w0, fun _ _ => 0, ⟨#[], args, []⟩, hos, hsh, (Input.okWide_of_okWideB (base := 0) hok).1, (Input.okWide_of_okWideB hok).2, hrow, by
    simp only [Assume.holds]
    exact ⟨by simp, by simp, by simp, by simp, by simp⟩⟩
theorem laidOut : laidOutB Tryd.prog = true := by kernel_rfl
set_option maxRecDepth 10000 in
/-- The frame of a law of one parameter that answers true, writes nothing that was there, and lists no variable among its readings. -/
theorem law_contract {H : Type} {enc : TypeId × Value → H} {f : FuncId} {fn : Func} {s : ChangeSpec} {t : TypeId} (hp : fn.params = #[t]) (hrt : fn.resultTypes = #[4]) (hvars : s.vars = [])
    (hfn : ∀ (K : Type) (d : DataW K), s.fn K [d] = { results := [.lit (.bool true)], args := [d] }) (hread : Tryd.prog.readableRec t = true) (hrow : t < Tryd.prog.types.size)
    (W : World) (base : Nat) (args : Array Value) (ds gs : List (DataW H)) (before : List MemPlace)
    (hval : ∀ (j : Nat) t v, fn.params[j]? = some t → args[j]? = some v → Value.okWide Tryd.prog W .any base t v)
    (hW : DataW.Whole enc Tryd.prog fn.params.toList s.vars false W args.toList ds gs before)
    (hsz : (DataW.weightsEach Tryd.prog (fn.params.toList ++ s.plain.varTypes Tryd.prog) (ds ++ gs)).all (· ≤ reachBytes) = true)
    (walk : ∀ (v : Value) (d : DataW H) (p : List MemPlace), Value.okWide Tryd.prog W .any base t v → DataW.Trod enc Tryd.prog W 0 (fun _ => true) true t v d p → (∀ x ∈ p, x.block < W.heap.size) → (∀ x ∈ d.weights Tryd.prog t, x ≤ reachBytes) → ds = [d] → gs = [] →
      Calls Tryd.prog f #[v] W fun e W' => e = .returned (.bool true) ∧ Below W.heap.size W W') :
    Calls Tryd.prog f args W fun e W' => ∃ v, e = .returned v ∧ s.post enc Tryd.prog fn false true false false W args v W' := by
  have hW' := hW
  obtain ⟨p, q, hA0, hV, rfl, hfz, hnd⟩ := hW
  have hA : DataW.TrodAll enc Tryd.prog W 0 (fun _ => true) true fn.params.toList args.toList ds p := hA0
  rw [hp] at hA hval hsz
  obtain ⟨v0, vs0, d0, ds0, p0, q0, hargs, rfl, rfl, h0, r0⟩ := trodAll_cons hA
  obtain ⟨rfl, rfl, rfl⟩ := trodAll_nil r0
  obtain rfl : args = #[v0] := by cases args; simp_all
  rw [hvars] at hV
  obtain ⟨rfl, rfl⟩ := trodVars_none hV
  have hlt : ∀ x ∈ p0, x.block < W.heap.size := fun x hx => by have := hW'.lt x (by simpa using hx); simpa using this
  have hw : ∀ x ∈ d0.weights Tryd.prog t, x ≤ reachBytes := fun x hx => by
    have := List.all_eq_true.1 hsz x (DataW.weights_mem_each (j := 0) (by simp) (by simp) x hx)
    simpa using this
  refine (walk v0 d0 p0 (hval 0 t v0 rfl rfl) h0 hlt hw rfl rfl).mono fun e W' ⟨he, hb⟩ => ?_
  subst he
  refine ⟨_, rfl, [d0], [], _, [], p0 ++ [], [], hW', ?_, ?_, ?_, hb.frame _, fun h => by cases h⟩
  · rw [hrt, show ([d0] ++ ([] : List (DataW H))) = [d0] from rfl, hfn]
    exact trodAll_cons_mk (shut_bool Tryd.underlying4 true) trodAll_mk0
  · rw [hp, show ([d0] ++ ([] : List (DataW H))) = [d0] from rfl, hfn]
    exact trodAll_cons_mk (Below.trod laidOut hread hrow h0 hb hlt) trodAll_mk0
  · rw [hvars, show ([d0] ++ ([] : List (DataW H))) = [d0] from rfl, hfn]
    rfl
set_option maxRecDepth 10000 in
/-- The same frame for a law without parameters. -/
theorem law_contract0 {H : Type} {enc : TypeId × Value → H} {f : FuncId} {fn : Func} {s : ChangeSpec} (hp : fn.params = #[]) (hrt : fn.resultTypes = #[4]) (hvars : s.vars = [])
    (hfn : ∀ (K : Type), s.fn K [] = { results := [.lit (.bool true)], args := [] })
    (W : World) (args : Array Value) (ds gs : List (DataW H)) (before : List MemPlace)
    (hW : DataW.Whole enc Tryd.prog fn.params.toList s.vars false W args.toList ds gs before)
    (walk : Calls Tryd.prog f #[] W fun e W' => e = .returned (.bool true) ∧ Below W.heap.size W W') :
    Calls Tryd.prog f args W fun e W' => ∃ v, e = .returned v ∧ s.post enc Tryd.prog fn false true false false W args v W' := by
  have hW' := hW
  obtain ⟨p, q, hA0, hV, rfl, hfz, hnd⟩ := hW
  have hA : DataW.TrodAll enc Tryd.prog W 0 (fun _ => true) true fn.params.toList args.toList ds p := hA0
  rw [hp] at hA
  obtain ⟨hargs, rfl, rfl⟩ := trodAll_nil hA
  obtain rfl : args = #[] := by cases args; simp_all
  rw [hvars] at hV
  obtain ⟨rfl, rfl⟩ := trodVars_none hV
  refine walk.mono fun e W' ⟨he, hb⟩ => ?_
  subst he
  refine ⟨_, rfl, [], [], _, [], [], [], hW', ?_, ?_, ?_, hb.frame _, fun h => by cases h⟩
  · rw [hrt, show (([] : List (DataW H)) ++ []) = [] from rfl, hfn]
    exact trodAll_cons_mk (shut_bool Tryd.underlying4 true) trodAll_mk0
  · rw [hp, show (([] : List (DataW H)) ++ []) = [] from rfl, hfn]
    exact trodAll_mk0
  · rw [hvars, show (([] : List (DataW H)) ++ []) = [] from rfl, hfn]
    rfl
end Go.Proofs.YthfnaalbgjeaeaaDoor
namespace Go.Proofs.YthfnaalbgjeaeaaDoor
open Go.ChangeShapes Go.WideShapes Go.ChangeAt Go.RowKit Go.Joins
theorem star : ("*" ++ "errors.errorString" : String) = "*errors.errorString" := by decide
theorem errRow (u : TypeId) (h : Tryd.prog.typeName? 3 u = some "*errors.errorString") : u = 115 :=
  typeName_ptr_named (nm := "errors.errorString") (by rw [star]; kernel_rfl) (by kernel_rfl) (by decide) u (by rw [star]; exact h)
theorem cellsErr : Tryd.prog.cellsOf 133 = 1 := by kernel_rfl
theorem cellsStr : Tryd.prog.cellsOf 9 = 1 := by kernel_rfl
theorem err_of {W : World} {n : String} {g : Nat} {text : List UInt8} {r : List (String × DataW Unit)} (h : laidMet Tryd.prog ((n, .iface "*errors.errorString" (.ptr (.agg [.lit (.string text)]))) :: r) W)
    (hg : Tryd.prog.globalNamed n = some g) (ht : (Tryd.prog.globals[g]?).map (·.type) = some 39) : ∃ a : Addr, W.cell? ⟨g, 0, none⟩ = some (.iface 115 (.pointer (some a))) := by
  obtain ⟨a, s, hv, _, _, _⟩ := laid_sentinel h hg ht Tryd.underlying39 errRow Tryd.underlying115 Tryd.underlying133 rfl rfl Tryd.underlying9 cellsErr cellsStr
  exact ⟨a, by simpa using World.var?_cell hg hv 0⟩
theorem cellsInt : Tryd.prog.cellsOf 3 = 1 := by kernel_rfl
theorem bulk_lits {H : Type} (zs : List Int) : zs.length ≤ Rows.uptoBulkAll (H := H) (lits .i64 zs) := by
  induction zs with
  | nil => simp [lits]
  | cons z zs ih =>
    have e : (lits (H := H) .i64 (z :: zs)) = .lit (.int .i64 z) :: lits .i64 zs := rfl
    rw [e, Rows.uptoBulkAll, List.length_cons]
    have h1 : 1 ≤ Rows.uptoBulk (H := H) (.lit (.int .i64 z)) := by simp [Rows.uptoBulk]
    omega
theorem lt_of_cell {W : World} {b o : Nat} {u : Value} (h : W.cell? ⟨b, o, none⟩ = some u) : b < W.heap.size := World.block_lt_of_cell? W _ h
/-- Numbers that are read. -/
theorem open_points {H : Type} {enc : TypeId × Value → H} {W : World} {n : Nat} {c : Value} {x : DataW H × List MemPlace} (hf : DataW.trod enc Tryd.prog W 0 (fun _ => true) true n 22 [c] = some x) :
    ∃ (a : Option Addr) (ps : List Int) (cap : Nat), c = .slice a ps.length cap ∧ IA W a ps ∧ ps.length ≤ Rows.uptoBulk x.1 := by
  rcases open_ints Tryd.underlying22 Tryd.underlying3 cellsInt hf with ⟨h1, h2⟩ | ⟨a, len, cap, zs, h1, h2, h3, h4, h5, h6, h7, h8⟩
  · simp only [List.cons.injEq, and_true] at h1
    exact ⟨none, [], 0, h1, ⟨fun k h => absurd h (Nat.not_lt_zero _)⟩, by simp⟩
  · simp only [List.cons.injEq, and_true] at h1
    simp only [if_true] at h5
    have hl : (zs.take len).length = len := by rw [List.length_take]; omega
    have hb := bulk_lits (H := H) (zs.take len)
    refine ⟨some a, zs.take len, cap, by rw [hl]; exact h1, ⟨fun k hk' => ?_⟩, ?_⟩
    · rw [hl] at hk'
      have h9 := h7 k (by omega)
      obtain ⟨b, off, spot⟩ := a
      cases spot with
      | some sp =>
        exfalso
        have h10 := h7 0 (by omega)
        rw [show (⟨b, off, some sp⟩ : Addr).add 0 = ⟨b, off, some sp⟩ from rfl] at h10
        unfold World.cell? at h10
        split at h10 <;> simp at h10
      | none =>
        rw [Addr.add_lit] at h9
        refine ⟨b, off, rfl, lt_of_cell h9, ?_⟩
        rw [h9]
        congr 2
        rw [List.getElem_take, List.getD_eq_getElem?_getD, List.getElem?_eq_getElem (by omega)]
        rfl
    · rw [h6]
      simp only [Rows.uptoBulk]
      omega
theorem laid_tail {P : Program} {w : World} {x : String × DataW Unit} {l : List (String × DataW Unit)} (h : laidMet P (x :: l) w) : laidMet P l w := by
  obtain ⟨ps, hl, hnd, hrows⟩ := h
  obtain ⟨g0, t0, cs0, f0, p0, q0, hg0, ht0, hv0, hd0, hl', rfl⟩ := hl
  exact ⟨q0, hl', (List.nodup_append.1 hnd).2.1, fun b off hb => hrows b off (List.mem_append_right _ hb)⟩
set_option maxRecDepth 100000 in
theorem exprWords_walk {H : Type} (enc : TypeId × Value → H) (W : World) (base : Nat) (hL : laidMetH Tryd.prog Rows.exprWordsUptoRow.laid W) (v : Value) (d : DataW H) (p : List MemPlace) (hv : Value.okWide Tryd.prog W .any base 22 v)
    (h0 : DataW.Trod enc Tryd.prog W 0 (fun _ => true) true 22 v d p) (_hlt : ∀ x ∈ p, x.block < W.heap.size) (_hw : ∀ x ∈ d.weights Tryd.prog 22, x ≤ reachBytes) (hk : Rows.uptoSmall H ([d] ++ []) = true) :
    Calls Tryd.prog 3 #[v] W fun e W' => e = .returned (.bool true) ∧ Below W.heap.size W W' := by
  obtain ⟨a0, len0, cap0, rfl⟩ := okWide_slice Tryd.underlying22 hv
  obtain ⟨fuel, hf⟩ := h0
  obtain ⟨a, ps, cap, hc, hia, hb⟩ := open_points (c := .slice a0 len0 cap0) hf
  rw [hc]
  have hs := of_decide_eq_true hk
  simp only [List.append_nil, Rows.uptoBulkAll] at hs
  have hL0 : laidMet Tryd.prog Rows.exprWordsUptoRow.laid W := hL
  have hL1 := laid_tail hL0
  have hL2 := laid_tail hL1
  have hL3 := laid_tail hL2
  obtain ⟨A1, h1⟩ := err_of hL1 (g := 1) (by kernel_rfl) (by kernel_rfl)
  obtain ⟨A0, h0⟩ := err_of hL2 (g := 0) (by kernel_rfl) (by kernel_rfl)
  obtain ⟨A2, h2⟩ := err_of hL3 (g := 2) (by kernel_rfl) (by kernel_rfl)
  exact exprWords_any ps a cap (fun i => match i with | 0 => A0 | 1 => A1 | _ => A2) W (by simp only at hb; omega) hia ⟨h0, h1, h2⟩
set_option maxRecDepth 100000 in
theorem exprWords_lifted (os : Os) (started : os.Started) (H : Type) (enc : TypeId × Value → H) (F : Stop.Interp) :
    ReturnsInHanded {} Tryd.checked os 3 .any ((Rows.OpenSpec.upto Rows.exprWordsSpec).preRow enc Tryd.prog Tryd.f3 Rows.exprWordsUptoRow.domain false Rows.exprWordsUptoRow.laid) (((Rows.OpenSpec.upto Rows.exprWordsSpec).at F).post enc Tryd.prog Tryd.f3 false true false false) := by
  refine returnsInHanded_of_row (C := Tryd.checked) (s := Rows.OpenSpec.upto Rows.exprWordsSpec) own started (by kernel_rfl) Tryd.func3
    (witness_row_shaped (enc := enc) (C := Tryd.checked) (World.laidAll Tryd.prog os Rows.exprWordsUptoRow.laid) #[.slice none 0 0] (World.laidAll_os _ _ _) (World.shaped_of_ZipB (by kernel_rfl) (by kernel_rfl)) (by kernel_rfl)
      (OpenSpec.preRow_of_cond 8 (x := ([.nil], [], [])) (by kernel_rfl) (by kernel_rfl) (fun k hk => by cases hk; kernel_rfl) (by kernel_rfl) (laidMet_laidAll _ (by kernel_rfl) (by kernel_rfl)))) ?_
  intro W base args ds gs before hval hW _ hcond hsz hL _ _
  exact law_contract rfl rfl rfl (fun _ _ => rfl) (by kernel_rfl) (of_decide_eq_true (by kernel_rfl)) W base args ds gs before hval hW hsz (fun v d p hv h0 hlt hw e1 e2 => exprWords_walk enc W base hL v d p hv h0 hlt hw (by have := hcond _ rfl; rw [e1, e2] at this; exact this))
theorem exprWords_said : Rows.ExprWordsUptoSaid :=
  OpenClaim.holds_of_cond 3 Tryd.f3 rfl rfl rfl rfl rfl rfl rfl ⟨rfl, rfl, rfl, rfl, rfl⟩ rfl rfl rfl rfl rfl (by kernel_rfl) Tryd.func3 (by kernel_rfl)
    (of_decide_eq_true (by kernel_rfl)) (by unfold Func.isWrapper; first | (rw [if_pos (by decide +kernel)]; kernel_rfl) | (rw [if_neg (by decide +kernel)]; exact ⟨rfl, rfl⟩))
    (fun os started H enc _ F => by rw [OpenClaim.pre_eq_preRow]; exact exprWords_lifted os started H enc F)
theorem exprWords_plain (f : FuncId) (fn : Func) (hf : Tryd.pinned.checked.prog.funcNamed "caesura/caesuralaw8.ExprWords" = some f) (hfn : Tryd.pinned.checked.prog.funcs[f]? = some fn) :
    true = Tryd.pinned.checked.prog.looks [] ∧ ∀ (j : Nat) t, fn.params[j]? = some t → Tryd.pinned.checked.prog.wantsStandIn t = false := by
  obtain rfl : f = 3 := Option.some.inj ((show Tryd.prog.funcNamed "caesura/caesuralaw8.ExprWords" = some 3 by kernel_rfl).symm.trans hf) |>.symm
  obtain rfl : fn = Tryd.f3 := (Option.some.inj (Tryd.func3.symm.trans hfn)).symm
  refine ⟨by kernel_rfl, fun j t ht => ?_⟩
  rw [Tryd.params3] at ht
  obtain rfl : t = 22 := by simpa using Array.mem_of_getElem? ht
  exact (show Tryd.prog.wantsStandIn 22 = false by kernel_rfl)
theorem exprWords_card : Rows.ExprWordsUptoCardSaid :=
  Claim7.holds_tied_plain_at .later [] _ _ _ _ exprWords_said (fun _ h => by cases h) (by kernel_rfl) (fun _ h => by cases h) exprWordsUpto_row_tie rfl ⟨rfl, rfl⟩ (by kernel_rfl) rfl exprWords_plain (by kernel_rfl)
end Go.Proofs.YthfnaalbgjeaeaaDoor
