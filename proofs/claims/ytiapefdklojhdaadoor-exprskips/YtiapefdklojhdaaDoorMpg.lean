/-
  ExUfW, ExYfW, ExUgM, ExUhW, ExUiW, ExUjW, ExYgW, ExYhW, ExTh3W, ExTh4W, ExTiW, ShelfC, Eh2W, ExYiM.
-/
import Derived.Test.YtiapefdklojhdaaDoorMpf
import Derived.Test.YtiapefdklojhdaaDoorMpe
import Derived.Laws.OwnMore
import Derived.Maps.AppendAt
import Derived.Shelf.SlicesQ.IndexFunc
import Derived.Ground.SlgfProg
import Derived.Test.YtiapefdklojhdaaDoorProg
import Derived.Test.YtiapefdklojhdaaDoorMpa
namespace Go.Proofs.YtiapefdklojhdaaDoor
open Go.RowKit Go.Shelf
/-- A copy is stored. -/
theorem copy_done {w W w1 w2 : World} {k : Int} {nt : Bool} {N : List ByteArray} {P : List (Int × Int)} {L : List Ex} {g h : Option Addr} {ce cf : Nat} {v : Value} {xs : List EV} {los his : Nat → Nat} {T : TypeId} {a0 b0 c0 d0 e0 : Value} (bel : Below w.heap.size w W) (hs : W.heap.size = w.heap.size + 2) (hr : W.heap[w.heap.size + 1]? = some (.cells #[a0, b0, c0, d0, e0] T (0, 0)))
    (lN : N.length ≤ 1000000000) (lP : P.length ≤ 1000000000) (lL : L.length ≤ 1000000000) (hN : SQ w1 (fun b => W.heap.size ≤ b) g N) (hP : RQ w1 (fun b => W.heap.size ≤ b) h P) (hb1 : Below W.heap.size W w1) (hp : PR w2 w1.heap.size w2.heap.size v L xs los his) (hb2 : Below w1.heap.size w1 w2) :
    ∃ c cc V, v = .slice c L.length cc ∧ V = setE w2 (w.heap.size + 1) (.int .i64 k) (.bool nt) (.slice g N.length ce) (.slice h P.length cf) (.slice c L.length cc) ∧ V.heap[w.heap.size + 1]? = some (.cells #[.int .i64 k, .bool nt, .slice g N.length ce, .slice h P.length cf, .slice c L.length cc] T (0, 0)) ∧
      (∀ b o, b ≠ w.heap.size + 1 → V.cell? ⟨b, o, none⟩ = w2.cell? ⟨b, o, none⟩) ∧ CopR w (.mk k nt N P L) (.returned (.agg #[.int .i64 k, .bool nt, .slice g N.length ce, .slice h P.length cf, .slice c L.length cc])) V := by
  obtain ⟨c, cc, rfl⟩ := hp.form
  have hbb := Below.later hb1 hb2
  have hr2 := (hbb.block (w.heap.size + 1) (by omega)).trans hr
  have hq : SQ w2 (fun q => W.heap.size ≤ q ∧ q < w1.heap.size) g N := (SQ.keeps (w := w1) (Q := fun q => W.heap.size ≤ q ∧ q < w1.heap.size) ⟨fun k hk => by
    obtain ⟨b, off, e, q1, q2, q3⟩ := hN.at' k hk
    exact ⟨b, off, e, ⟨q1, q2⟩, q2, q3⟩⟩ ⟨hb2.size, fun b o _ hl => hb2.cell (p := ⟨b, o, none⟩) hl⟩)
  have hq2 : RQ w2 (fun q => W.heap.size ≤ q ∧ q < w1.heap.size) h P := (RQ.keeps (w := w1) (Q := fun q => W.heap.size ≤ q ∧ q < w1.heap.size) ⟨fun k hk => by
    obtain ⟨b, off, e, q1, q2, q3⟩ := hP.at' k hk
    exact ⟨b, off, e, ⟨q1, World.block_lt_of_cell? w1 _ q2⟩, q2, q3⟩⟩ ⟨hb2.size, fun b o _ hl => hb2.cell (p := ⟨b, o, none⟩) hl⟩)
  have hrv : RvIs w2 W.heap.size w2.heap.size (.mk k nt N P L) ⟨.int .i64 k, .bool nt, .slice g N.length ce, .slice h P.length cf, .slice c L.length cc⟩ := hp.rv hb1.size hb2.size hq hq2 lN lP lL
  have hsz : (setE w2 (w.heap.size + 1) (.int .i64 k) (.bool nt) (.slice g N.length ce) (.slice h P.length cf) (.slice c L.length cc)).heap.size = w2.heap.size := setE_size _ _ _ _ _ _ _
  refine ⟨c, cc, _, rfl, rfl, setE_row hr2 _ _ _ _ _, fun b o hne => World.cell?_of_block (w := w2) (a := ⟨b, o, none⟩) (setE_other hne _ _ _ _ _), ⟨.int .i64 k, .bool nt, .slice g N.length ce, .slice h P.length cf, .slice c L.length cc⟩, rfl, ?_, setE_below (Below.later bel hbb) (Nat.le_succ _) _ _ _ _ _⟩
  rw [hsz]
  exact (hrv.keeps (by rw [hsz]; exact Nat.le_refl _) (fun b q1 _ _ => setE_other (by omega) _ _ _ _ _)).mono (by omega) (Nat.le_refl _)
set_option maxRecDepth 10000 in
set_option maxHeartbeats 1600000 in
theorem copied_node (k : Int) (nt : Bool) (N : List ByteArray) (P : List (Int × Int)) (L : List Ex) (a b c : Option Addr) (ca cb cc : Nat) (vs : Nat → EV) (w : World) (hsm : ∀ s, s ∈ N → s.size ≤ 1000) (hN : SA w a N) (hP : RA w b P) (lN : N.length ≤ 1000000000) (lP : P.length ≤ 1000000000) (lL : L.length ≤ 1000000000)
    (hL : ∀ i, i < L.length → ∃ g off, c = some ⟨g, off, none⟩ ∧ Five w g (off + i * 5) (vs i)) (hF : ∀ i, i < L.length → ∃ k t a m c b n d g l z, vs i = ⟨.int .i64 k, .bool t, .slice a m c, .slice b n d, .slice g l z⟩)
    (ih : ∀ i (h : i < L.length) (W : World), Below w.heap.size w W → Calls Tryd.prog 26 #[(vs i).v] W fun r w' => CopR W L[i] r w') :
    Calls Tryd.prog 26 #[.agg #[.int .i64 k, .bool nt, .slice a N.length ca, .slice b P.length cb, .slice c L.length cc]] w fun r w' => CopR w (.mk k nt N P L) r w' := by
  have HSet := hid0 (fun (V : World) (hV : Below w.heap.size w V) => copiedSet_any nt N P a b ca cb V lN hsm lP (hN.below hV) (hP.below hV))
  have HEa := hid0 (fun (V : World) (hV : Below w.heap.size w V) => eachE_any L c cc vs V lL (fun i hi => by
    obtain ⟨g, off, e, h5⟩ := hL i hi
    exact ⟨g, off, e, h5.past hV⟩) hF (fun i h W hW => ih i h W (Below.later hV hW)))
  obtain ⟨W, hW⟩ : ∃ W, (w.alloc (.cells #[.int .i64 k, .bool nt, .slice a N.length ca, .slice b P.length cb, .slice c L.length cc] 28)).alloc (.cells #[.int .i64 0, .bool false, .slice none 0 0, .slice none 0 0, .slice none 0 0] 28) = W := ⟨_, rfl⟩
  obtain ⟨hr0, hr1, hb, hs⟩ := two_rows w _ _ _ _ _ _ _ _ _ _ _ W hW.symm
  have HR1 := hid0 hr1
  have HB := hid0 hb
  have HS := hid0 hs
  have HSk : Hid (∀ V, Below W.heap.size W V → V.cell? ⟨w.heap.size, 0, none⟩ = some (.int .i64 k) ∧ V.cell? ⟨w.heap.size, 1, none⟩ = some (.bool nt) ∧ V.cell? ⟨w.heap.size, 2, none⟩ = some (.slice a N.length ca) ∧ V.cell? ⟨w.heap.size, 3, none⟩ = some (.slice b P.length cb) ∧ V.cell? ⟨w.heap.size, 4, none⟩ = some (.slice c L.length cc)) := hid0 (fun V hV => (rowE (kept hV hr0)).1)
  have HBd := hid0 (Below.refl W.heap.size W).drew
  have hs0 := HSk.out _ HBd.out
  clear hr0 hr1 hb hs hN hP hL hF ih hsm
  go_enter Tryd.func26, Tryd.ntmps26
  go_wp2
  refine wp_region_noPanic ?_
  refine wp_region_held_drew (S := (fun V => V.cell? ⟨w.heap.size, 0, none⟩ = some (.int .i64 k) ∧ V.cell? ⟨w.heap.size, 1, none⟩ = some (.bool nt) ∧ V.cell? ⟨w.heap.size, 2, none⟩ = some (.slice a N.length ca) ∧ V.cell? ⟨w.heap.size, 3, none⟩ = some (.slice b P.length cb) ∧ V.cell? ⟨w.heap.size, 4, none⟩ = some (.slice c L.length cc))) (by kernel_rfl) ?_ (fun hHeld => ?_)
  · exact hs0
  refine tkV (i := 0) (d := some 3) (v := ?_) rfl (by kernel_rfl) (by kernel_rfl) (by kernel_rfl) rfl (fun _ _ _ h => h) (by rfl) ?_ (by assumption) ?_
  rotate_left
  · (intro w hSw; (try dsimp only at hSw); (try simp only [List.getElem_toArray, List.getElem_cons_zero]); go_simp; try with_reducible rfl)
  try simp only [Act.put, List.setIfInBounds_toArray, List.set_cons_zero, List.set_cons_succ]
  refine tkV (i := 1) (d := some 4) (v := ?_) rfl (by kernel_rfl) (by kernel_rfl) (by kernel_rfl) rfl (fun _ _ _ h => h) (by rfl) ?_ (by assumption) ?_
  rotate_left
  · (intro w hSw; (try dsimp only at hSw); (try simp only [List.getElem_toArray, List.getElem_cons_zero, List.getElem_cons_succ]); go_simp; try with_reducible rfl)
  try simp only [Act.put, List.setIfInBounds_toArray, List.set_cons_zero, List.set_cons_succ]
  refine tkV (i := 2) (d := some 5) (v := ?_) rfl (by kernel_rfl) (by kernel_rfl) (by kernel_rfl) rfl (fun _ _ _ h => h) (by rfl) ?_ (by assumption) ?_
  rotate_left
  · (intro w hSw; (try dsimp only at hSw); (try simp only [List.getElem_toArray, List.getElem_cons_zero, List.getElem_cons_succ]); go_simp; try with_reducible rfl)
  try simp only [Act.put, List.setIfInBounds_toArray, List.set_cons_zero, List.set_cons_succ]
  refine tkV (i := 3) (d := some 6) (v := ?_) rfl (by kernel_rfl) (by kernel_rfl) (by kernel_rfl) rfl (fun _ _ _ h => h) (by rfl) ?_ (by assumption) ?_
  rotate_left
  · (intro w hSw; (try dsimp only at hSw); (try simp only [List.getElem_toArray, List.getElem_cons_zero, List.getElem_cons_succ]); go_simp; try with_reducible rfl)
  try simp only [Act.put, List.setIfInBounds_toArray, List.set_cons_zero, List.set_cons_succ]
  refine tkV (i := 5) (d := some 8) (v := ?_) rfl (by kernel_rfl) (by kernel_rfl) (by kernel_rfl) rfl (fun _ _ _ h => h) (by rfl) ?_ (by assumption) ?_
  rotate_left
  · (intro w hSw; (try dsimp only at hSw); (try simp only [List.getElem_toArray, List.getElem_cons_zero, List.getElem_cons_succ]); go_simp; try with_reducible rfl)
  try simp only [Act.put, List.setIfInBounds_toArray, List.set_cons_zero, List.set_cons_succ]
  refine tkV (i := 6) (d := some 9) (v := ?_) rfl (by kernel_rfl) (by kernel_rfl) (by kernel_rfl) rfl (fun _ _ _ h => h) (by rfl) ?_ (by assumption) ?_
  rotate_left
  · (intro w hSw; (try dsimp only at hSw); (try simp only [List.getElem_toArray, List.getElem_cons_zero, List.getElem_cons_succ]); go_simp; try with_reducible rfl)
  try simp only [Act.put, List.setIfInBounds_toArray, List.set_cons_zero, List.set_cons_succ]
  refine wpAnyH_ready (rs := [4]) (by kernel_rfl) (by simp) (AllReadyH.cons rfl (fun K hK => ?_) AllReadyH.nil)
  try simp only [List.getElem_toArray, List.getElem_cons_zero, List.getElem_cons_succ]
  go_simp
  refine (HSet.out _ (Below.later HB.out HBd.out)).mono ?_
  rintro r w1 ⟨g, ce, h, cf, rfl, q1, q2, q3⟩
  have HB1 := hid0 (Below.later HBd.out q3)
  have hs1 := HSk.out _ HB1.out
  have HQ1 := hid0 q1
  have HQ2 := hid0 q2
  clear q1 q2 q3
  go_wp2_with fail
  refine hK.out _ _ ?_ (fun hHeld4 => ?_)
  · exact hs1
  clear hK K
  (try simp only [Act.put]); (try simp only [List.setIfInBounds_toArray]); (try simp only [List.set_cons_succ]); (try simp only [List.set_cons_zero])
  refine wpAnyH_ready (rs := [7]) (by kernel_rfl) (by simp) (AllReadyH.cons rfl (fun K hK => ?_) AllReadyH.nil)
  try simp only [List.getElem_toArray, List.getElem_cons_zero, List.getElem_cons_succ]
  go_simp
  refine (HEa.out _ (Below.later HB.out HB1.out)).mono ?_
  rintro r w2 ⟨v2, xs, los, his, rfl, q1, q2⟩
  have hs2 := HSk.out _ (Below.later HB1.out q2)
  obtain ⟨c6, cc6, V, hv, hV, hVr, hVo, hR⟩ := copy_done (k := k) (nt := nt) (ce := ce) (cf := cf) HB.out HS.out HR1.out lN lP lL HQ1.out HQ2.out HB1.out q1 q2
  subst hv
  have HR := hid0 hR
  have HVr := hid0 hVr
  obtain ⟨⟨z0, z1, z2, z3, z4⟩, f0, f1, f2, f3, f4⟩ := rowE (((Below.later HB1.out q2).block _ (by have := HS.out; omega)).trans HR1.out)
  have HSz : Hid (V.cell? ⟨w.heap.size, 0, none⟩ = some (.int .i64 k) ∧ V.cell? ⟨w.heap.size, 1, none⟩ = some (.bool nt) ∧ V.cell? ⟨w.heap.size, 2, none⟩ = some (.slice a N.length ca) ∧ V.cell? ⟨w.heap.size, 3, none⟩ = some (.slice b P.length cb) ∧ V.cell? ⟨w.heap.size, 4, none⟩ = some (.slice c L.length cc)) := hid0 ⟨(hVo _ _ (by omega)).trans hs2.1, (hVo _ _ (by omega)).trans hs2.2.1, (hVo _ _ (by omega)).trans hs2.2.2.1, (hVo _ _ (by omega)).trans hs2.2.2.2.1, (hVo _ _ (by omega)).trans hs2.2.2.2.2⟩
  unfold setE at hV
  have HV := hid0 hV
  rw [HV.out] at HSz
  clear hV hVr hVo hR q1 q2
  go_wp2_with fail
  refine hK.out _ _ ?_ (fun hHeld7 => ?_)
  · exact hs2
  clear hK K
  (try simp only [Act.put]); (try simp only [List.setIfInBounds_toArray]); (try simp only [List.set_cons_succ]); (try simp only [List.set_cons_zero])
  refine tkV (i := 8) (d := some 11) (v := ?_) rfl (by kernel_rfl) (by kernel_rfl) (by kernel_rfl) rfl (fun _ _ _ h => h) (by rfl) ?_ (by assumption) ?_
  rotate_left
  · (intro w hSw; (try dsimp only at hSw); (try simp only [List.getElem_toArray, List.getElem_cons_zero, List.getElem_cons_succ]); go_simp; try with_reducible rfl)
  try simp only [Act.put, List.setIfInBounds_toArray, List.set_cons_zero, List.set_cons_succ]
  refine wpAnyH_ready (rs := [9]) (by kernel_rfl) (by simp) (AllReadyH.cons rfl (fun K hK => ?_) AllReadyH.nil)
  try simp only [List.getElem_toArray, List.getElem_cons_zero, List.getElem_cons_succ]
  go_simp
  refine hK.out _ _ ?_ (fun hHeld9 => ?_)
  · exact HSz.out
  clear hK K
  (try simp only [Act.put]); (try simp only [List.setIfInBounds_toArray]); (try simp only [List.set_cons_succ]); (try simp only [List.set_cons_zero])
  refine wpAnyH_done (by kernel_rfl) ?_ _
  refine NoPanic.normal ?_
  go_wp2
  rw [← HV.out]
  obtain ⟨⟨k0, k1, k2, k3, k4⟩, _⟩ := rowE HVr.out
  exact bodyPost_ret (v := .agg #[.int .i64 k, .bool nt, .slice g N.length ce, .slice h P.length cf, .slice c6 L.length cc6]) (by simp [results, Tryd.results26, go_sem, k0, k1, k2, k3, k4]) rfl HR.out
theorem copied_any {w : World} {Q : Nat → Prop} {e : Ex} {x : EV} (h : ExIs w Q e x) : SmallN e → ∀ W, Below w.heap.size w W → Calls Tryd.prog 26 #[x.v] W fun r w' => CopR W e r w' := by
  induction h with
  | mk k nt N P L a ca b cb c cc vs hN hP lN lP lL hL hR ih =>
    intro hs W hW
    obtain ⟨s1, s2⟩ := hs.inv
    exact copied_node k nt N P L a b c ca cb cc vs W s1 (hN.sa.below hW) (hP.ra.below hW) lN lP lL (fun i hi => by
      obtain ⟨g, off, e, _, h5⟩ := hL i hi
      exact ⟨g, off, e, h5.past hW⟩) (fun i hi => (hR i hi).flat) (fun i hi V hV => ih i hi (s2 _ (List.getElem_mem hi)) V (Below.later hW hV))
end Go.Proofs.YtiapefdklojhdaaDoor
namespace Go.Proofs.YtiapefdklojhdaaDoor
open Go.RowKit Go.Shelf
theorem one_q {w1 w2 : World} {Q : Nat → Prop} {t : Ex} {y : EV} (T : TypeId) (q : Int) (hy : ExIs w1 Q t y) (hB : Q w1.heap.size) (h2 : w1.alloc (.cells #[y.k, y.t, y.n, y.p, y.r] T) = w2) :
    ExIs w2 Q (.mk q false [] [] [t]) ⟨.int .i64 q, .bool false, .slice none 0 0, .slice none 0 0, .slice (some ⟨w1.heap.size, 0, none⟩) 1 1⟩ := by
  obtain ⟨hb, hr, _⟩ := laid h2
  obtain ⟨⟨a0, a1, a2, a3, a4⟩, _⟩ := rowE hr
  refine .mk q false [] [] [t] none 0 none 0 (some ⟨w1.heap.size, 0, none⟩) 1 (fun _ => y) (SQ.nil _ _ _) (RQ.nil _ _ _) (by simp) (by simp) (by simp) (fun i hi => ?_) (fun i hi => ?_)
  · have : i = 0 := by simpa using hi
    subst this
    exact ⟨w1.heap.size, 0, rfl, hB, a0, a1, a2, a3, a4⟩
  · have : i = 0 := by simpa using hi
    subst this
    exact hy.past hb
set_option maxRecDepth 10000 in
set_option maxHeartbeats 800000 in
theorem starOf_any (nt : Bool) (N : List ByteArray) (P : List (Int × Int)) (a b : Option Addr) (ca cb : Nat) (Q : Nat → Prop) (w : World) (hN : SQ w Q a N) (hP : RQ w Q b P) (lN : N.length ≤ 1000000000) (lP : P.length ≤ 1000000000) :
    Calls Tryd.prog 25 #[.agg #[.bool nt, .slice a N.length ca, .slice b P.length cb]] w fun r w' => ExB (fun b => Q b ∧ b < w.heap.size) w (trailE nt N P) r w' := by
  have hN' : SQ w (fun b => (Q b ∧ b < w.heap.size) ∨ w.heap.size + 2 ≤ b) a N := ⟨fun k hk => by
    obtain ⟨b', off, e, q1, q2, q3⟩ := hN.at' k hk
    exact ⟨b', off, e, .inl ⟨q1, q2⟩, q2, q3⟩⟩
  have hP' : RQ w (fun b => (Q b ∧ b < w.heap.size) ∨ w.heap.size + 2 ≤ b) b P := ⟨fun k hk => by
    obtain ⟨b', off, e, q1, q2, q3⟩ := hP.at' k hk
    exact ⟨b', off, e, .inl ⟨q1, World.block_lt_of_cell? w _ q2⟩, q2, q3⟩⟩
  obtain ⟨wa, hwa⟩ : ∃ wa, w.alloc (.cells #[.bool nt, .slice a N.length ca, .slice b P.length cb] 25) = wa := ⟨_, rfl⟩
  obtain ⟨W, hW⟩ : ∃ W, wa.alloc (.cells #[.int .i64 0, .bool false, .slice none 0 0, .slice none 0 0, .slice none 0 0] 28) = W := ⟨_, rfl⟩
  obtain ⟨ba, ra, sa⟩ := laid hwa
  obtain ⟨bb, rb, sb⟩ := laid hW
  have hb := Below.later ba bb
  have hr1 : W.heap[w.heap.size + 1]? = some (.cells #[.int .i64 0, .bool false, .slice none 0 0, .slice none 0 0, .slice none 0 0] 28 (0, 0)) := by rw [← sa]; exact rb
  have hs : W.heap.size = w.heap.size + 2 := by omega
  obtain ⟨⟨x0, x1, x2⟩, _⟩ := row3 (kept bb ra)
  have hset : ExIs W (fun b => (Q b ∧ b < w.heap.size) ∨ w.heap.size + 2 ≤ b) (.mk 2 nt N P []) ⟨.int .i64 2, .bool nt, .slice a N.length ca, .slice b P.length cb, .slice none 0 0⟩ := set_is ca cb (hN'.keeps ⟨hb.size, fun g o' _ hl => hb.cell (p := ⟨g, o', none⟩) hl⟩) (hP'.keeps ⟨hb.size, fun g o' _ hl => hb.cell (p := ⟨g, o', none⟩) hl⟩) lN lP
  obtain ⟨w1, hw1⟩ : ∃ w1, W.alloc (.cells #[.int .i64 2, .bool nt, .slice a N.length ca, .slice b P.length cb, .slice none 0 0] 28) = w1 := ⟨_, rfl⟩
  have hone := one_q 28 5 hset (.inr (by omega)) hw1
  obtain ⟨b1, _, _⟩ := laid hw1
  have hd := ret_doneB (D := fun b => Q b ∧ b < w.heap.size) (C := w.heap.size + 2) (Below.later hb b1) (show w.heap.size ≤ w.heap.size + 1 by omega) (fun b' h' => by have := h'.2; omega) (by omega) (kept b1 hr1) hone
  unfold EV.v at hd
  dsimp only at hd
  obtain ⟨V, hV, hVr, _, hR⟩ := hd
  obtain ⟨⟨v0, v1, v2, v3, v4⟩, f0, f1, f2, f3, f4⟩ := rowE (kept b1 hr1)
  have HR := hid0 hR
  have HVr := hid0 hVr
  unfold setE at hV
  have HV := hid0 hV
  have HSa := hid0 sa
  clear hN hP hN' hP' ba ra bb rb sb hb hr1 hs hset hone b1 hV hVr hR
  subst hwa
  rw [HSa.out] at *
  go_enter Tryd.func25, Tryd.ntmps25
  go_wp2
  rw [← HV.out]
  obtain ⟨⟨kk0, kk1, kk2, kk3, kk4⟩, _⟩ := rowE HVr.out
  exact bodyPost_ret (v := .agg #[.int .i64 5, .bool false, .slice none 0 0, .slice none 0 0, .slice (some ⟨W.heap.size, 0, none⟩) 1 1]) (by simp [results, Tryd.results25, go_sem, kk0, kk1, kk2, kk3, kk4]) rfl HR.out
end Go.Proofs.YtiapefdklojhdaaDoor
namespace Go.Proofs.YtiapefdklojhdaaDoor
open Go.RowKit Go.Shelf
theorem flat_len (xs : List EV) : (xs.flatMap evC).length = xs.length * 5 := by
  induction xs with
  | nil => rfl
  | cons x xs ih => rw [List.flatMap_cons, List.length_append, ih, List.length_cons]; simp [evC]; omega
/-- Five cells of a row are written over. -/
theorem flat_set (xs : List EV) : ∀ (i : Nat) (x : EV), i < xs.length → ((((((xs.flatMap evC).set (i * 5) x.k).set (i * 5 + 1) x.t).set (i * 5 + 2) x.n).set (i * 5 + 3) x.p).set (i * 5 + 4) x.r) = (xs.set i x).flatMap evC := by
  induction xs with
  | nil => intro i x h; exact absurd h (Nat.not_lt_zero _)
  | cons y xs ih =>
    intro i x h
    cases i with
    | zero => rfl
    | succ i =>
      have hl : (evC y).length = 5 := rfl
      rw [List.flatMap_cons, List.set_cons_succ, List.flatMap_cons, ← ih i x (by simpa using h)]
      rw [show (i + 1) * 5 = (evC y).length + i * 5 by rw [hl]; omega]
      simp only [Nat.add_assoc]
      have h2 : ∀ (l : List Value) (k : Nat) (v : Value), (evC y ++ l).set ((evC y).length + k) v = evC y ++ l.set k v := fun l k v => by
        rw [List.set_append_right _ _ (Nat.le_add_right _ _), Nat.add_sub_cancel_left]
      rw [h2, h2, h2, h2, h2]
/-- An element is written over. -/
def setAt (W : World) (g o : Nat) (x : EV) : World := ((((W.setCell ⟨g, o, none⟩ x.k).setCell ⟨g, o + 1, none⟩ x.t).setCell ⟨g, o + 2, none⟩ x.n).setCell ⟨g, o + 3, none⟩ x.p).setCell ⟨g, o + 4, none⟩ x.r
theorem own_setAt {w : World} {m g n c : Nat} {xs : List EV} (h : w.ownsRow m 28 5 (.slice (some ⟨g, 0, none⟩) n c) n (xs.flatMap evC)) (i : Nat) (hi : i < xs.length) (x : EV) : (setAt w g (i * 5) x).ownsRow m 28 5 (.slice (some ⟨g, 0, none⟩) n c) n ((xs.set i x).flatMap evC) ∧ w.grownBy (setAt w g (i * 5) x) (some g) := by
  have h1 := World.ownsRow.stored h (i * 5) x.k
  have h2 := World.ownsRow.stored h1.1 (i * 5 + 1) x.t
  have h3 := World.ownsRow.stored h2.1 (i * 5 + 2) x.n
  have h4 := World.ownsRow.stored h3.1 (i * 5 + 3) x.p
  have h5 := World.ownsRow.stored h4.1 (i * 5 + 4) x.r
  refine ⟨by rw [← flat_set xs i x hi]; exact h5.1, ?_⟩
  exact grown_trans (grown_trans (grown_trans (grown_trans h1.2 h2.2 (fun q e => .inl e)) h3.2 (fun q e => .inl e)) h4.2 (fun q e => .inl e)) h5.2 (fun q e => .inl e)
/-- A list whose first so many places, and last so many, are turned. -/
structure RevTo (xs ys : List EV) (i : Nat) : Prop where
  len : ys.length = xs.length
  at' : ∀ k, k < xs.length → ys[k]? = if k < i ∨ xs.length - i ≤ k then xs[xs.length - 1 - k]? else xs[k]?
theorem RevTo.first (xs : List EV) : RevTo xs xs 0 := ⟨rfl, fun k hk => by rw [if_neg (by omega)]⟩
theorem RevTo.step {xs ys : List EV} {i j : Nat} (h : RevTo xs ys i) (hj : j = xs.length - 1 - i) (hij : i < j) (hi' : i < ys.length) (hj' : j < ys.length) : RevTo xs ((ys.set i ys[j]).set j ys[i]) (i + 1) := by
  have hl := h.len
  have ai := h.at' i (by omega)
  have aj := h.at' j (by omega)
  rw [if_neg (by omega)] at ai aj
  refine ⟨by simp [hl], fun k hk => ?_⟩
  rw [List.getElem?_set]
  by_cases hkj : j = k
  · subst hkj
    rw [if_pos rfl, if_pos (by simp; omega), if_pos (by omega), ← List.getElem?_eq_getElem hi', ai]
    congr 1
    omega
  · rw [if_neg hkj, List.getElem?_set]
    by_cases hki : i = k
    · subst hki
      rw [if_pos rfl, if_pos (by omega), if_pos (by omega), ← List.getElem?_eq_getElem hj', aj]
      congr 1
    · rw [if_neg hki, h.at' k hk]
      by_cases hc : k < i ∨ xs.length - i ≤ k
      · rw [if_pos hc, if_pos (by omega)]
      · rw [if_neg hc, if_neg (by omega)]
theorem RevTo.last {xs ys : List EV} {i : Nat} (h : RevTo xs ys i) (hi : xs.length ≤ 2 * i + 1) : ys = xs.reverse := by
  apply List.ext_getElem?
  intro k
  rcases Nat.lt_or_ge k xs.length with hk | hk
  · rw [h.at' k hk, List.getElem?_reverse hk]
    by_cases hc : k < i ∨ xs.length - i ≤ k
    · rw [if_pos hc]
    · rw [if_neg hc]
      congr 1
      omega
  · rw [List.getElem?_eq_none (by rw [h.len]; exact hk), List.getElem?_eq_none (by simpa using hk)]
/-- Values as a row of expressions has them. -/
def FlatV (x : EV) : Prop := ∃ k t a m c b n d g l z, x = ⟨.int .i64 k, .bool t, .slice a m c, .slice b n d, .slice g l z⟩
theorem RevTo.flat {xs ys : List EV} {i : Nat} (h : RevTo xs ys i) (hf : ∀ x, x ∈ xs → FlatV x) : ∀ k (hk : k < ys.length), FlatV ys[k] := by
  intro k hk
  have hk' : k < xs.length := by rw [← h.len]; exact hk
  have a := h.at' k hk'
  rw [List.getElem?_eq_getElem hk] at a
  split at a
  · exact hf _ (List.mem_of_getElem? a.symm)
  · exact hf _ (List.mem_of_getElem? a.symm)
theorem five_of_own {W : World} {m g n c : Nat} {xs : List EV} (ho : W.ownsRow m 28 5 (.slice (some ⟨g, 0, none⟩) n c) n (xs.flatMap evC)) (hn : xs.length = n) (i : Nat) (hi : i < xs.length) : Five W g (i * 5) xs[i] ∧ (∀ j, W.frozen? ⟨g, j, none⟩ = false) ∧ n ≤ c := by
  have hc : ∀ j, j < 5 → W.cell? ⟨g, i * 5 + j, none⟩ = (evC xs[i])[j]? := fun j hj => by
    have h1 := World.ownsRow.cellAt ho (i * 5 + j) (by have : i * 5 + 5 ≤ n * 5 := by { have := Nat.mul_le_mul_right 5 (Nat.succ_le_of_lt hi); omega }; omega)
    rw [h1, flatE xs i j hi hj]
  refine ⟨⟨hc 0 (by omega), hc 1 (by omega), hc 2 (by omega), hc 3 (by omega), hc 4 (by omega)⟩, fun j => World.ownsRow.frozenAt ho j, ?_⟩
  rcases ho.2 with ⟨e, _⟩ | ⟨g', cap, cur, e, _, _, hnc, _⟩
  · cases e
  · cases e
    exact hnc
end Go.Proofs.YtiapefdklojhdaaDoor
namespace Go.Proofs.YtiapefdklojhdaaDoor
open Go.RowKit Go.Shelf
set_option maxRecDepth 10000 in
set_option maxHeartbeats 1600000 in
theorem reverse_some (xs : List EV) (g c m : Nat) (w : World) (hl : xs.length ≤ 1000000000) (hf : ∀ x, x ∈ xs → FlatV x) (ho : w.ownsRow m 28 5 (.slice (some ⟨g, 0, none⟩) xs.length c) xs.length (xs.flatMap evC)) :
    Calls Tryd.prog 59 #[.slice (some ⟨g, 0, none⟩) xs.length c] w fun r w' => r = .returned (.tuple #[]) ∧ w'.ownsRow m 28 5 (.slice (some ⟨g, 0, none⟩) xs.length c) xs.length (xs.reverse.flatMap evC) ∧ w.grownBy w' (some g) := by
  obtain ⟨n, hn⟩ : ∃ n, xs.length = n := ⟨_, rfl⟩
  have HO := hid0 ho
  have HF := hid0 hf
  have HN := hid0 hn
  rw [hn] at hl HO ⊢
  clear ho hf hn
  have hsub : IntKind.i64.wrap ((n : Int) - 1) = (n : Int) - 1 := by simp [IntKind.wrap, IntKind.bits, IntKind.signed]; omega
  go_enter Tryd.func59, Tryd.ntmps59
  go_wp2
  go_loopw [2, 3] (fun a b wr => ∃ (i : Nat) (ys : List EV), 2 * i ≤ n ∧ a = .int .i64 (i : Int) ∧ b = .int .i64 ((n : Int) - 1 - (i : Int)) ∧ Hid (RevTo xs ys i) ∧ Hid (wr.ownsRow m 28 5 (.slice (some ⟨g, 0, none⟩) n c) n (ys.flatMap evC)) ∧ Hid (w.grownBy wr (some g))) (fun a _ _ => n - (intOf a).toNat)
  case atStart => exact ⟨0, xs, by omega, rfl, by simp, hid0 (RevTo.first xs), HO, hid0 ⟨rfl, rfl, rfl, Nat.le_refl _, fun _ _ _ => rfl⟩⟩
  case round =>
    obtain ⟨i, ys, hi, rfl, rfl, HR, HOy, HG⟩ := hrel
    by_cases hlt : 2 * i + 1 < n
    · obtain ⟨j, hj⟩ : ∃ j, j = n - 1 - i := ⟨_, rfl⟩
      have hji : ((n : Int) - 1 - (i : Int)) = (j : Int) := by omega
      rw [hji]
      have hij : i < j := by omega
      have hjn : j < n := by omega
      have hyl : ys.length = n := by rw [HR.out.len, HN.out]
      have hI : (i : Int) < (j : Int) := by omega
      have hI0 : (0 : Int) ≤ (i : Int) := by omega
      have hJ0 : (0 : Int) ≤ (j : Int) := by omega
      have hIn : (i : Int) < (n : Int) := by omega
      have hJn : (j : Int) < (n : Int) := by omega
      obtain ⟨⟨p0, p1, p2, p3, p4⟩, hfr, _⟩ := five_of_own HOy.out hyl i (by omega)
      obtain ⟨⟨q0, q1, q2, q3, q4⟩, _, _⟩ := five_of_own HOy.out hyl j (by omega)
      obtain ⟨k1, t1, a1, m1, c1, b1, n1, d1, g1, l1, z1, e1⟩ := HR.out.flat HF.out i (by omega)
      obtain ⟨k2, t2, a2, m2, c2, b2, n2, d2, g2, l2, z2, e2⟩ := HR.out.flat HF.out j (by omega)
      have HSt := hid0 (HR.out.step (j := j) (by rw [HN.out]; exact hj) hij (by omega) (by omega))
      rw [e1] at p0 p1 p2 p3 p4
      rw [e2] at q0 q1 q2 q3 q4
      rw [e1, e2] at HSt
      simp only [] at p0 p1 p2 p3 p4 q0 q1 q2 q3 q4
      have HJ := hid0 hj
      have HYl := hid0 hyl
      have F0 := hfr (i * 5)
      have F1 := hfr (i * 5 + 1)
      have F2 := hfr (i * 5 + 2)
      have F3 := hfr (i * 5 + 3)
      have F4 := hfr (i * 5 + 4)
      have G0 := hfr (j * 5)
      have G1 := hfr (j * 5 + 1)
      have G2 := hfr (j * 5 + 2)
      have G3 := hfr (j * 5 + 3)
      have G4 := hfr (j * 5 + 4)
      have hne : ¬ i * 5 = j * 5 := by omega
      clear hj e1 e2 hji hyl hfr
      have HW1 := hid0 (own_setAt HOy.out i (by have := HYl.out; omega) ⟨.int .i64 k2, .bool t2, .slice a2 m2 c2, .slice b2 n2 d2, .slice g2 l2 z2⟩)
      have HW2 := hid0 (own_setAt HW1.out.1 j (by have := HYl.out; rw [List.length_set]; omega) ⟨.int .i64 k1, .bool t1, .slice a1 m1 c1, .slice b1 n1 d1, .slice g1 l1 z1⟩)
      have HG2 := hid0 (grown_trans (grown_trans HG.out HW1.out.2 (fun q e => .inl e)) HW2.out.2 (fun q e => .inl e))
      have HOw := hid0 HW2.out.1
      unfold setAt at HG2 HOw
      simp only [] at HG2 HOw
      clear HW1 HW2
      go_wp2
      go_region
      generalize (((((((((wr.setCell ⟨g, i * 5, none⟩ (.int .i64 k2)).setCell ⟨g, i * 5 + 1, none⟩ (.bool t2)).setCell ⟨g, i * 5 + 2, none⟩ (.slice a2 m2 c2)).setCell ⟨g, i * 5 + 3, none⟩ (.slice b2 n2 d2)).setCell ⟨g, i * 5 + 4, none⟩ (.slice g2 l2 z2)).setCell ⟨g, j * 5, none⟩ (.int .i64 k1)).setCell ⟨g, j * 5 + 1, none⟩ (.bool t1)).setCell ⟨g, j * 5 + 2, none⟩ (.slice a1 m1 c1)).setCell ⟨g, j * 5 + 3, none⟩ (.slice b1 n1 d1)).setCell ⟨g, j * 5 + 4, none⟩ (.slice g1 l1 z1) = wX at *
      clear p0 p1 p2 p3 p4 q0 q1 q2 q3 q4 F0 F1 F2 F3 F4 G0 G1 G2 G3 G4
      go_wp2
      go_roundw
      case rel => exact ⟨i + 1, _, by omega, by go_num, by have := HJ.out; go_num, HSt, HOw, hid0 ⟨HG2.out.os, HG2.out.tape, HG2.out.output, HG2.out.size, HG2.out.block⟩⟩
      case measure => simp [intOf]; omega
    · have hI : ¬ (i : Int) < (n : Int) - 1 - (i : Int) := by omega
      have HL : Hid (ys = xs.reverse) := hid0 (HR.out.last (by rw [HN.out]; omega))
      go_wp2
      go_end0
      exact ⟨rfl, by rw [← HL.out]; exact HOy.out, HG.out⟩
set_option maxRecDepth 10000 in
set_option maxHeartbeats 800000 in
theorem reverse_none (a : Option Addr) (c : Nat) (w : World) :
    Calls Tryd.prog 59 #[.slice a 0 c] w fun r w' => r = .returned (.tuple #[]) ∧ w' = w := by
  go_enter Tryd.func59, Tryd.ntmps59
  go_wp2
  go_loopw [2, 3] (fun x y wr => x = .int .i64 0 ∧ y = .int .i64 (-1) ∧ wr = w) (fun _ _ _ => 0)
  case atStart => exact ⟨rfl, rfl, rfl⟩
  case round =>
    obtain ⟨rfl, rfl, rfl⟩ := hrel
    go_wp2
    go_end0
    exact ⟨rfl, rfl⟩
/-- slices.Reverse of a list of expressions in memory of its own. -/
theorem reverse_row {w : World} {m hi : Nat} {c : Option Addr} {cc : Nat} {L : List Ex} {xs : List EV} {los his : Nat → Nat} (hp : PR w m hi (.slice c L.length cc) L xs los his) (hl : L.length ≤ 1000000000) :
    Calls Tryd.prog 59 #[.slice c L.length cc] w fun r w' => r = .returned (.tuple #[]) ∧ PR w' m hi (.slice c L.length cc) L.reverse xs.reverse (fun i => los (L.length - 1 - i)) (fun i => his (L.length - 1 - i)) ∧ w.grownBy w' (Value.slice c L.length cc).ownBlock := by
  have hxl := hp.len
  have hf : ∀ x, x ∈ xs → FlatV x := fun x hx => by
    obtain ⟨i, hi', rfl⟩ := List.getElem_of_mem hx
    exact (hp.is i (by omega) hi').flat
  have fin : ∀ w', w'.ownsRow m 28 5 (.slice c L.length cc) L.length (xs.reverse.flatMap evC) → w.grownBy w' (Value.slice c L.length cc).ownBlock → PR w' m hi (.slice c L.length cc) L.reverse xs.reverse (fun i => los (L.length - 1 - i)) (fun i => his (L.length - 1 - i)) := fun w' ho hg => by
    refine ⟨by simp [hxl], by rw [List.length_reverse]; exact ho, fun g e => ⟨(hp.gin g e).1, fun i hi' => ?_⟩, fun i hi' => ?_, fun i j p q hne => ?_, fun i p q => ?_⟩
    · rw [List.length_reverse] at hi'
      exact (hp.gin g e).2 _ (by omega)
    · rw [List.length_reverse] at hi'
      exact hp.pin _ (by omega)
    · rw [List.length_reverse] at p q
      exact hp.dis _ _ (by omega) (by omega) (by omega)
    · rw [List.length_reverse] at p q
      have e1 : L.reverse[i]'(by rw [List.length_reverse]; exact p) = L[L.length - 1 - i]'(by omega) := List.getElem_reverse _
      have e2 : xs.reverse[i]'(by rw [List.length_reverse]; exact q) = xs[L.length - 1 - i]'(by omega) := by rw [List.getElem_reverse]; congr 1; omega
      rw [e1, e2]
      exact (hp.is _ (by omega) (by omega)).keeps hg.size (fun b q1 q2 q3 => hg.block b q3 (fun e => by
        have := (hp.gin b e.symm).2 (L.length - 1 - i) (by omega)
        omega))
  rcases Nat.eq_zero_or_pos L.length with h0 | h0
  · have hL : L = [] := List.length_eq_zero_iff.1 h0
    subst hL
    have hxs : xs = [] := List.length_eq_zero_iff.1 hxl
    subst hxs
    refine (reverse_none c cc w).mono ?_
    rintro r w' ⟨rfl, rfl⟩
    have hg : w'.grownBy w' (Value.slice c (List.length ([] : List Ex)) cc).ownBlock := ⟨rfl, rfl, rfl, Nat.le_refl _, fun _ _ _ => rfl⟩
    exact ⟨rfl, fin w' hp.own hg, hg⟩
  · obtain ⟨g, c', e, _, _⟩ := hp.cells 0 h0 (by omega)
    cases e
    have ho := hp.own
    have h := reverse_some xs g cc m w (by omega) hf (by rw [hxl]; exact ho)
    rw [hxl] at h
    refine h.mono ?_
    rintro r w' ⟨rfl, q1, q2⟩
    exact ⟨rfl, fin w' q1 q2, q2⟩
end Go.Proofs.YtiapefdklojhdaaDoor
namespace Go.Proofs.YtiapefdklojhdaaDoor
open Go.RowKit Go.Shelf
/-- What is asked of turnRound at a part. -/
def TurnP (e : Ex) : Prop := ∀ (w : World) (lo hi : Nat) (x : EV), RvIs w lo hi e x → hi ≤ w.heap.size → Calls Tryd.prog 36 #[x.v] w fun r w' => r = .returned (.tuple #[]) ∧ RvIs w' lo hi (revE e) x ∧ Only w w' (fun b => lo ≤ b ∧ b < hi)
/-- Parts, the first so many of them turned. -/
def ltF (L : List Ex) (j : Nat) : List Ex := (L.take j).map revE ++ L.drop j
theorem ltF_len (L : List Ex) (j : Nat) : (ltF L j).length = L.length := by
  unfold ltF
  rw [List.length_append, List.length_map, List.length_take, List.length_drop]
  omega
theorem ltF_get (L : List Ex) (j : Nat) (h : j < L.length) : (ltF L j)[j]'(by rw [ltF_len]; exact h) = L[j] := by
  unfold ltF
  rw [List.getElem_append_right (by rw [List.length_map, List.length_take]; omega)]
  simp only [List.getElem_drop]
  congr 1
  rw [List.length_map, List.length_take]
  omega
theorem ltF_set (L : List Ex) (j : Nat) (h : j < L.length) : (ltF L j).set j (revE L[j]) = ltF L (j + 1) := by
  unfold ltF
  have e : L.drop j = L[j] :: L.drop (j + 1) := List.drop_eq_getElem_cons h
  have hl : ((L.take j).map revE).length = j := by rw [List.length_map, List.length_take]; omega
  rw [List.set_append_right _ _ (by omega), hl, Nat.sub_self, e, List.set_cons_zero, List.take_add_one, List.getElem?_eq_getElem h, List.map_append, List.append_assoc]
  rfl
theorem ltF_last (L : List Ex) : ltF L L.length = L.map revE := by
  unfold ltF
  rw [List.take_of_length_le (Nat.le_refl _), List.drop_of_length_le (Nat.le_refl _), List.append_nil]
theorem Only.wide {w w' : World} {S T : Nat → Prop} (h : Only w w' S) (hs : ∀ b, S b → T b) : Only w w' T := ⟨h.os, h.tape, h.output, h.size, fun b hb hn => h.block b hb (fun c => hn (hs b c))⟩
theorem Only.of_below {w w' : World} (h : Below w.heap.size w w') (S : Nat → Prop) : Only w w' S := ⟨h.os, h.tape, h.output, h.size, fun b hb _ => h.block b hb⟩
/-- What stands between the rounds of turnRound. -/
structure TI (W wr : World) (m hi : Nat) (v : Value) (L : List Ex) (xs : List EV) (los his : Nat → Nat) (j : Nat) : Prop where
  pr : PR wr m hi v (ltF L j) xs los his
  on : Only W wr (fun b => m ≤ b ∧ b < hi)
theorem TI.next {W wr w1 w2 : World} {m hi : Nat} {v : Value} {L : List Ex} {xs : List EV} {los his : Nat → Nat} {j : Nat} (h : TI W wr m hi v L xs los his j) (hj : j < L.length) (hx : j < xs.length) (h1 : Below wr.heap.size wr w1) (h2 : Only w1 w2 (fun b => los j ≤ b ∧ b < his j)) (he : RvIs w2 (los j) (his j) (revE L[j]) xs[j]) : TI W w2 m hi v L xs los his (j + 1) := by
  have hj' : j < (ltF L j).length := by rw [ltF_len]; exact hj
  have hp := h.pr.pin j hj'
  have o1 : Only wr w2 (fun b => los j ≤ b ∧ b < his j) := (Only.of_below h1 _).trans h2 (fun i c => .inl c)
  refine ⟨by rw [← ltF_set L j hj]; exact h.pr.set j hj' hx _ o1 he, h.on.trans (o1.wide (T := fun b => m ≤ b ∧ b < hi) (fun b c => ⟨by omega, by omega⟩)) (fun i c => .inl c)⟩
theorem turn_done {w W wr : World} {lo m hi : Nat} {k : Int} {nt : Bool} {N : List ByteArray} {P : List (Int × Int)} {L L2 : List Ex} {a b c : Option Addr} {ca cb cc : Nat} {xs : List EV} {los his : Nat → Nat} (hL2 : L2 = if k = 3 then L.reverse else L) (h : TI W wr m hi (.slice c L.length cc) L2 xs los his L2.length) (h1 : lo ≤ m) (h2 : m ≤ hi) (hN : SQ w (fun q => lo ≤ q ∧ q < m) a N) (hP : RQ w (fun q => lo ≤ q ∧ q < m) b P) (lN : N.length ≤ 1000000000) (lP : P.length ≤ 1000000000) (lL : L.length ≤ 1000000000) (hb : Below w.heap.size w W) :
    RvIs wr lo hi (revE (.mk k nt N P L)) ⟨.int .i64 k, .bool nt, .slice a N.length ca, .slice b P.length cb, .slice c L.length cc⟩ ∧ Only w wr (fun b => lo ≤ b ∧ b < hi) := by
  have o1 : Only w wr (fun b => m ≤ b ∧ b < hi) := (Only.of_below hb _).trans h.on (fun i c => .inl c)
  have hq : Keeps (fun q => lo ≤ q ∧ q < m) w wr := ⟨o1.size, fun g o hg hl => World.cell?_of_block (w := w) (a := ⟨g, o, none⟩) (o1.block g hl (fun c => by omega))⟩
  have hp := h.pr
  rw [ltF_last] at hp
  have e : L2.map revE = if k = 3 then (revL L).reverse else revL L := by
    rw [hL2]
    by_cases hk : k = 3
    · rw [if_pos hk, if_pos hk, List.map_reverse, revL_map]
    · rw [if_neg hk, if_neg hk, revL_map]
  rw [e] at hp
  have el : (if k = 3 then (revL L).reverse else revL L).length = L.length := by
    by_cases hk : k = 3
    · rw [if_pos hk, List.length_reverse, revL_len]
    · rw [if_neg hk, revL_len]
  refine ⟨?_, o1.wide (fun b c => ⟨by omega, c.2⟩)⟩
  rw [revE]
  rw [← el] at hp lL
  have hf := hp.rv (lo := lo) (k := k) (nt := nt) (ca := ca) (cb := cb) h1 h2 (hN.keeps hq) (hP.keeps hq) lN lP lL
  rw [el] at hf
  exact hf
set_option maxRecDepth 10000 in
set_option maxHeartbeats 1600000 in
theorem turn_node (k : Int) (nt : Bool) (N : List ByteArray) (P : List (Int × Int)) (L : List Ex) (ih : ∀ p, p ∈ L → TurnP p) : TurnP (.mk k nt N P L) := by
  intro w lo hi x hx hhi
  obtain ⟨m, a, ca, b, cb, c, cc, xs, los, his, rfl, h1, h2, hN, hP, lN, lP, lL, hp⟩ := hx.shape
  obtain ⟨W, hW⟩ : ∃ W, w.alloc (.cells #[.int .i64 k, .bool nt, .slice a N.length ca, .slice b P.length cb, .slice c L.length cc] 28) = W := ⟨_, rfl⟩
  obtain ⟨hb, hr, hs⟩ := laid hW
  obtain ⟨⟨x0, x1, x2, x3, x4⟩, _⟩ := rowE hr
  have HR := hid0 hr
  have HB := hid0 hb
  have HS := hid0 hs
  have HN := hid0 hN
  have HP := hid0 hP
  have HPr := hid0 (hp.past hb)
  have HIH := hid0 ih
  have HHi := hid0 hhi
  unfold EV.v
  simp only []
  clear hx hb hr hs hN hP hp ih hhi
  by_cases hk : k = 3
  · subst hk
    obtain ⟨L2, hL2⟩ : ∃ L2, L2 = L.reverse := ⟨_, rfl⟩
    have HL2 : Hid (L2 = L.reverse) := hid0 hL2
    have HLn : Hid (L2.length = L.length) := hid0 (by rw [hL2, List.length_reverse])
    have HMem : Hid (∀ p, p ∈ L2 → p ∈ L) := hid0 (fun p hp => by rw [hL2] at hp; exact List.mem_reverse.1 hp)
    have HRev := hid0 (reverse_row HPr.out lL)
    rw [← hL2] at HRev
    obtain ⟨xs2, hx2⟩ : ∃ xs2, xs2 = xs.reverse := ⟨_, rfl⟩
    obtain ⟨los2, hlo2⟩ : ∃ los2, los2 = fun i => los (L.length - 1 - i) := ⟨_, rfl⟩
    obtain ⟨his2, hhi2⟩ : ∃ his2, his2 = fun i => his (L.length - 1 - i) := ⟨_, rfl⟩
    rw [← hx2, ← hlo2, ← hhi2] at HRev
    clear hL2 hx2 hlo2 hhi2
    go_enter Tryd.func36, Tryd.ntmps36
    go_wp2_with (first
      | (go_at_call 59
         refine HRev.out.mono ?_
         rintro r w2 ⟨rfl, q1, q2⟩
         have hon : Only W w2 (fun b => m ≤ b ∧ b < hi) := ⟨q2.os, q2.tape, q2.output, q2.size, fun b' hb' hn' => q2.block b' hb' (fun e => hn' ⟨(World.ownsRow.lt HPr.out.own b' e.symm).1, (HPr.out.gin b' e.symm).1⟩)⟩
         have HT0 : Hid (TI W w2 m hi (.slice c L.length cc) L2 xs2 los2 his2 0) := hid0 ⟨by unfold ltF; rw [List.take_zero, List.map_nil, List.nil_append, List.drop_zero]; exact q1, hon⟩
         obtain ⟨⟨x0', x1', x2', x3', x4'⟩, _⟩ := rowE ((hon.block w.heap.size (by have := HS.out; omega) (fun e => by have := HHi.out; omega)).trans HR.out)
         clear q1 q2 hon)
      | fail)
    clear x0 x1 x2 x3 x4 x0' x1' x2' x3' x4'
    go_loopw [13, 3] (fun i _ wr => ∃ (j : Nat), j ≤ L2.length ∧ i = .int .i64 (j : Int) ∧ Hid (TI W wr m hi (.slice c L.length cc) L2 xs2 los2 his2 j)) (fun i _ _ => L2.length - (intOf i).toNat)
    case atStart => exact ⟨0, Nat.zero_le _, rfl, HT0⟩
    case round =>
      clear HT0
      obtain ⟨j, hj, rfl, HT⟩ := hrel
      by_cases hlt : j < L2.length
      · have hjI : (j : Int) < (L.length : Int) := by have := HLn.out; omega
        have hjI0 : (0 : Int) ≤ (j : Int) := by omega
        have hjx : j < xs2.length := by rw [HT.out.pr.len, ltF_len]; exact hlt
        have hjl : j < (ltF L2 j).length := by rw [ltF_len]; exact hlt
        obtain ⟨g, c', e', _, h5⟩ := HT.out.pr.cells j hjl hjx
        rw [ltF_len, HLn.out] at e'
        cases e'
        obtain ⟨y0, y1, y2, y3, y4⟩ := h5
        have hrv := HT.out.pr.is j hjl hjx
        rw [ltF_get L2 j hlt] at hrv
        obtain ⟨k9, t9, a9, m9, c9, b9, n9, d9, g9, l9, z9, hfl⟩ := hrv.flat
        have hsz : hi ≤ wr.heap.size := Nat.le_trans (Nat.le_trans HHi.out HB.out.size) HT.out.on.size
        obtain ⟨w1, hw1⟩ : ∃ w1, wr.alloc (.cells #[.int .i64 k9, .bool t9, .slice a9 m9 c9, .slice b9 n9 d9, .slice g9 l9 z9] 28) = w1 := ⟨_, rfl⟩
        obtain ⟨hb1, hr1, hs1⟩ := laid hw1
        obtain ⟨⟨c0, c1, c2, c3, c4⟩, _⟩ := rowE hr1
        have HC := hid0 (HIH.out L2[j] (HMem.out _ (List.getElem_mem hlt)) w1 (los2 j) (his2 j) xs2[j] (hrv.past hb1) (by have := (HT.out.pr.pin j hjl).2.2; have := hb1.size; omega))
        have HNx := hid0 (fun (w2 : World) (ho : Only w1 w2 (fun b => los2 j ≤ b ∧ b < his2 j)) (he : RvIs w2 (los2 j) (his2 j) (revE L2[j]) xs2[j]) => HT.out.next hlt hjx hb1 ho he)
        unfold EV.v at HC
        rw [hfl] at y0 y1 y2 y3 y4 HC HNx
        simp only [] at y0 y1 y2 y3 y4 HC
        clear hb1 hr1 hs1 hfl hrv hjl
        go_wp2_with (first
          | (go_at_call 36
             refine HC.out.mono ?_
             rintro r w2 ⟨rfl, q1, q2⟩
             have HT2 := hid0 (HNx.out w2 q2 q1)
             clear q1 q2)
          | fail)
        go_roundw
        case rel => exact ⟨j + 1, by omega, by go_num, HT2⟩
        case measure => simp [intOf]; omega
      · have hjI : ¬ (j : Int) < (L.length : Int) := by have := HLn.out; omega
        obtain rfl : j = L2.length := by omega
        have HD := hid0 (turn_done (k := 3) (nt := nt) (ca := ca) (cb := cb) (by rw [if_pos rfl]; exact HL2.out) HT.out h1 h2 HN.out HP.out lN lP lL HB.out)
        go_wp2
        go_end0
        exact ⟨rfl, HD.out⟩
  · have hkB : (k == 3) = false := by simpa using hk
    obtain ⟨L2, hL2⟩ : ∃ L2, L2 = L := ⟨_, rfl⟩
    have HL2 : Hid (L2 = L) := hid0 hL2
    have HLn : Hid (L2.length = L.length) := hid0 (by rw [hL2])
    have HMem : Hid (∀ p, p ∈ L2 → p ∈ L) := hid0 (fun p hp => by rw [hL2] at hp; exact hp)
    obtain ⟨xs2, hx2⟩ : ∃ xs2, xs2 = xs := ⟨_, rfl⟩
    obtain ⟨los2, hlo2⟩ : ∃ los2, los2 = los := ⟨_, rfl⟩
    obtain ⟨his2, hhi2⟩ : ∃ his2, his2 = his := ⟨_, rfl⟩
    have HT0 : Hid (TI W W m hi (.slice c L.length cc) L2 xs2 los2 his2 0) := hid0 ⟨by unfold ltF; rw [List.take_zero, List.map_nil, List.nil_append, List.drop_zero, hL2, hx2, hlo2, hhi2]; exact HPr.out, Only.refl _ _⟩
    clear hL2 hx2 hlo2 hhi2
    go_enter Tryd.func36, Tryd.ntmps36
    go_wp2
    clear x0 x1 x2 x3 x4
    go_loopw [13, 3] (fun i _ wr => ∃ (j : Nat), j ≤ L2.length ∧ i = .int .i64 (j : Int) ∧ Hid (TI W wr m hi (.slice c L.length cc) L2 xs2 los2 his2 j)) (fun i _ _ => L2.length - (intOf i).toNat)
    case atStart => exact ⟨0, Nat.zero_le _, rfl, HT0⟩
    case round =>
      clear HT0
      obtain ⟨j, hj, rfl, HT⟩ := hrel
      by_cases hlt : j < L2.length
      · have hjI : (j : Int) < (L.length : Int) := by have := HLn.out; omega
        have hjI0 : (0 : Int) ≤ (j : Int) := by omega
        have hjx : j < xs2.length := by rw [HT.out.pr.len, ltF_len]; exact hlt
        have hjl : j < (ltF L2 j).length := by rw [ltF_len]; exact hlt
        obtain ⟨g, c', e', _, h5⟩ := HT.out.pr.cells j hjl hjx
        rw [ltF_len, HLn.out] at e'
        cases e'
        obtain ⟨y0, y1, y2, y3, y4⟩ := h5
        have hrv := HT.out.pr.is j hjl hjx
        rw [ltF_get L2 j hlt] at hrv
        obtain ⟨k9, t9, a9, m9, c9, b9, n9, d9, g9, l9, z9, hfl⟩ := hrv.flat
        have hsz : hi ≤ wr.heap.size := Nat.le_trans (Nat.le_trans HHi.out HB.out.size) HT.out.on.size
        obtain ⟨w1, hw1⟩ : ∃ w1, wr.alloc (.cells #[.int .i64 k9, .bool t9, .slice a9 m9 c9, .slice b9 n9 d9, .slice g9 l9 z9] 28) = w1 := ⟨_, rfl⟩
        obtain ⟨hb1, hr1, hs1⟩ := laid hw1
        obtain ⟨⟨c0, c1, c2, c3, c4⟩, _⟩ := rowE hr1
        have HC := hid0 (HIH.out L2[j] (HMem.out _ (List.getElem_mem hlt)) w1 (los2 j) (his2 j) xs2[j] (hrv.past hb1) (by have := (HT.out.pr.pin j hjl).2.2; have := hb1.size; omega))
        have HNx := hid0 (fun (w2 : World) (ho : Only w1 w2 (fun b => los2 j ≤ b ∧ b < his2 j)) (he : RvIs w2 (los2 j) (his2 j) (revE L2[j]) xs2[j]) => HT.out.next hlt hjx hb1 ho he)
        unfold EV.v at HC
        rw [hfl] at y0 y1 y2 y3 y4 HC HNx
        simp only [] at y0 y1 y2 y3 y4 HC
        clear hb1 hr1 hs1 hfl hrv hjl
        go_wp2_with (first
          | (go_at_call 36
             refine HC.out.mono ?_
             rintro r w2 ⟨rfl, q1, q2⟩
             have HT2 := hid0 (HNx.out w2 q2 q1)
             clear q1 q2)
          | fail)
        go_roundw
        case rel => exact ⟨j + 1, by omega, by go_num, HT2⟩
        case measure => simp [intOf]; omega
      · have hjI : ¬ (j : Int) < (L.length : Int) := by have := HLn.out; omega
        obtain rfl : j = L2.length := by omega
        have HD := hid0 (turn_done (k := k) (nt := nt) (ca := ca) (cb := cb) (by rw [if_neg hk]; exact HL2.out) HT.out h1 h2 HN.out HP.out lN lP lL HB.out)
        go_wp2
        go_end0
        exact ⟨rfl, HD.out⟩
mutual
theorem turn_any : ∀ (e : Ex), TurnP e
  | .mk k nt N P L => turn_node k nt N P L (turn_anyL L)
theorem turn_anyL : ∀ (L : List Ex), ∀ p, p ∈ L → TurnP p
  | [], _, h => (by cases h)
  | e :: L, p, h => (List.mem_cons.1 h).elim (fun q => q ▸ turn_any e) (fun q => turn_anyL L p q)
end
end Go.Proofs.YtiapefdklojhdaaDoor
namespace Go.Proofs.YtiapefdklojhdaaDoor
open Go.RowKit Go.Shelf
theorem nms_size : ∀ (N : List ByteArray) (p : Option ByteArray), nmsGo p N = true → ∀ s, s ∈ N → s.size ≤ 1000
  | [], _, _, s, h => by cases h
  | x :: N, p, h, s, hs => by
    simp only [nmsGo, Bool.and_eq_true] at h
    rcases List.mem_cons.1 hs with rfl | hs
    · have := (isNm_iff _).1 h.1
      rw [bsizeN] at this
      omega
    · exact nms_size N (some x) h.2.2 s hs
theorem wf_small : ∀ (d : Nat) (e : Ex), WfE d e → SmallN e
  | 0, _, h => h.elim
  | d + 1, .mk k nt N P L, h => .mk k nt N P L (fun s hs => by
      have hw := h.1
      unfold wholeF at hw
      have z : zeroF nt N P = true → s.size ≤ 1000 := fun hz => by
        obtain ⟨_, rfl, _⟩ := zero_of hz
        cases hs
      split at hw
      · simp only [Bool.and_eq_true] at hw
        exact z hw.2
      · split at hw
        · simp only [Bool.and_eq_true] at hw
          have hm := hw.2
          unfold mayF at hm
          simp only [Bool.and_eq_true] at hm
          exact nms_size N none hm.1 s hs
        · split at hw
          · exact z hw
          · split at hw
            · simp only [Bool.and_eq_true] at hw
              exact z hw.2
            · cases hw) (fun e he => wf_small d e (h.2.2.2 e he))
/-- An expression that is answered, turned round. -/
def RevR (w : World) (e : Ex) (r : Ending) (w' : World) : Prop := ∃ y : EV, r = .returned y.v ∧ ExIs w' (fun _ => True) (revE e) y ∧ Below w.heap.size w w'
theorem RevR.shape {w w' : World} {t : Ex} {r : Ending} (h : RevR w t r w') : ∃ k u a m c b n d g l z, r = .returned (.agg #[.int .i64 k, .bool u, .slice a m c, .slice b n d, .slice g l z]) ∧ ExIs w' (fun _ => True) (revE t) ⟨.int .i64 k, .bool u, .slice a m c, .slice b n d, .slice g l z⟩ ∧ Below w.heap.size w w' := by
  obtain ⟨y, e, h1, h2⟩ := h
  obtain ⟨k, u, a, m, c, b, n, d, g, l, z, rfl⟩ := h1.flat
  exact ⟨k, u, a, m, c, b, n, d, g, l, z, e, h1, h2⟩
/-- The answer is stored. -/
theorem rev_done {w W w1 w2 w3 w4 : World} {e : Ex} {y : EV} {T : TypeId} {a0 b0 c0 d0 e0 : Value} (bel : Below w.heap.size w W) (hs : W.heap.size = w.heap.size + 2) (hr : W.heap[w.heap.size + 1]? = some (.cells #[a0, b0, c0, d0, e0] T (0, 0))) (hb1 : Below W.heap.size W w1) (hb2 : Below w1.heap.size w1 w2) (h3 : w2.alloc (.cells #[y.k, y.t, y.n, y.p, y.r] T) = w3) (hrv : RvIs w4 w1.heap.size w2.heap.size (revE e) y) (ho : Only w3 w4 (fun b => w1.heap.size ≤ b ∧ b < w2.heap.size)) :
    w4.heap[w2.heap.size]? = some (.cells #[y.k, y.t, y.n, y.p, y.r] T (0, 0)) ∧ w4.heap[w.heap.size + 1]? = some (.cells #[a0, b0, c0, d0, e0] T (0, 0)) ∧ ∃ V, V = setE w4 (w.heap.size + 1) y.k y.t y.n y.p y.r ∧ V.heap[w.heap.size + 1]? = some (.cells #[y.k, y.t, y.n, y.p, y.r] T (0, 0)) ∧ RevR w e (.returned y.v) V := by
  obtain ⟨b3, r3, s3⟩ := laid h3
  have hbb := Below.later (Below.later hb1 hb2) b3
  have hs1 := hb1.size
  have hs2 := hb2.size
  have hr4 : w4.heap[w.heap.size + 1]? = some (.cells #[a0, b0, c0, d0, e0] T (0, 0)) := (ho.block _ (by omega) (fun c => by omega)).trans ((hbb.block _ (by omega)).trans hr)
  have hB4 : Below w.heap.size w w4 := ⟨ho.os.trans (hbb.os.trans bel.os), ho.tape.trans (hbb.tape.trans bel.tape), ho.output.trans (hbb.output.trans bel.output), Nat.le_trans bel.size (Nat.le_trans hbb.size ho.size), fun b hb => (ho.block b (by omega) (fun c => by omega)).trans ((hbb.block b (by omega)).trans (bel.block b hb))⟩
  refine ⟨(ho.block _ (by omega) (fun c => by omega)).trans r3, hr4, _, rfl, setE_row hr4 _ _ _ _ _, y, rfl, ?_, setE_below hB4 (Nat.le_succ _) _ _ _ _ _⟩
  exact (hrv.keeps (by rw [setE_size]; exact Nat.le_refl _) (fun b q1 _ _ => setE_other (by omega) _ _ _ _ _)).ex
set_option maxRecDepth 10000 in
set_option maxHeartbeats 1600000 in
theorem reverse_any (e : Ex) (x : EV) (Q : Nat → Prop) (A : Nat → Addr) (w : World) (hx : ExIs w Q e x) (hE : E3 w A) (hok : okE e = true) (hsm : SmallN e) :
    Calls Tryd.prog 15 #[x.v] w fun r w' => RevR w e r w' := by
  have HCk := hid0 (fun (V : World) (hV : Below w.heap.size w V) => check_any mayF e x Q A V (hx.past hV) (allM_of (hx.past hV)) (hE.below hV))
  rw [errC_ok hok] at HCk
  have HCp := hid0 (fun (V : World) (hV : Below w.heap.size w V) => copied_any hx hsm V hV)
  obtain ⟨k, t, a, m, c, b, n, d, g, l, z, rfl⟩ := hx.flat
  clear hx hE hok hsm
  unfold EV.v at HCk HCp ⊢
  simp only [] at HCk HCp ⊢
  obtain ⟨W, hW⟩ : ∃ W, (w.alloc (.cells #[.int .i64 k, .bool t, .slice a m c, .slice b n d, .slice g l z] 28)).alloc (.cells #[.int .i64 0, .bool false, .slice none 0 0, .slice none 0 0, .slice none 0 0] 28) = W := ⟨_, rfl⟩
  obtain ⟨hr0, hr1, hb, hs⟩ := two_rows w _ _ _ _ _ _ _ _ _ _ _ W hW.symm
  obtain ⟨⟨x0, x1, x2, x3, x4⟩, _⟩ := rowE hr0
  have HR0 := hid0 hr0
  have HR1 := hid0 hr1
  have HB := hid0 hb
  have HS := hid0 hs
  clear hr0 hr1 hb hs
  go_enter Tryd.func15, Tryd.ntmps15
  go_wp2_with (first
    | (go_at_call 36
       refine HTu.out.mono ?_
       rintro r w4 ⟨rfl, q1, q2⟩
       have HDn := hid0 (rev_done HB.out HS.out HR1.out HB1.out HB2.out HW3.out q1 q2)
       obtain ⟨hrb, hrr, V, hV, hVr, hR⟩ := HDn.out
       simp only [] at hrb hV hVr
       obtain ⟨⟨y0, y1, y2, y3, y4⟩, _⟩ := rowE hrb
       obtain ⟨⟨z0, z1, z2, z3, z4⟩, f0, f1, f2, f3, f4⟩ := rowE hrr
       have HR := hid0 hR
       have HVr := hid0 hVr
       unfold setE at hV
       have HV := hid0 hV
       clear hrb hrr hV hVr hR q1 q2 HDn)
    | (go_at_call 26
       refine (HCp.out w1 (Below.later HB.out HB1.out)).mono ?_
       rintro r w2 hr
       obtain ⟨k5, u5, a5, m5, c5, b5, n5, d5, g5, l5, z5, rfl, q1, q2⟩ := hr.shape
       obtain ⟨w3, hw3⟩ : ∃ w3, w2.alloc (.cells #[.int .i64 k5, .bool u5, .slice a5 m5 c5, .slice b5 n5 d5, .slice g5 l5 z5] 28) = w3 := ⟨_, rfl⟩
       have HW3 := hid0 hw3
       obtain ⟨b3, r3, s3⟩ := laid hw3
       obtain ⟨⟨c0, c1, c2, c3, c4⟩, _⟩ := rowE r3
       have HB2 := hid0 q2
       have HTu := hid0 (turn_any e w3 w1.heap.size w2.heap.size _ (q1.past b3) b3.size)
       unfold EV.v at HTu
       simp only [] at HTu
       clear hr q1 q2 b3 r3 s3)
    | (go_at_call 10
       refine (HCk.out _ HB.out).mono ?_
       rintro r w1 ⟨rfl, hb1⟩
       have HB1 := hid0 hb1
       obtain ⟨⟨v0, v1, v2, v3, v4⟩, _⟩ := rowE (kept hb1 HR0.out)
       clear hb1)
    | fail)
  rw [← HV.out]
  obtain ⟨⟨k0, k1, k2, k3, k4⟩, _⟩ := rowE HVr.out
  exact bodyPost_ret (v := .agg #[.int .i64 k5, .bool u5, .slice a5 m5 c5, .slice b5 n5 d5, .slice g5 l5 z5]) (by simp [results, Tryd.results15, go_sem, k0, k1, k2, k3, k4]) rfl HR.out
end Go.Proofs.YtiapefdklojhdaaDoor
namespace Go.Proofs.YtiapefdklojhdaaDoor
open Go.RowKit Go.Shelf
/-- An expression is stored into a variable that it does not lie in. -/
theorem long_stored {w4 : World} {X : Nat} {T : TypeId} {a0 b0 c0 d0 e0 : Value} {e : Ex} {z : EV} (hr : w4.heap[X]? = some (.cells #[a0, b0, c0, d0, e0] T (0, 0))) (hl : ExIs w4 (fun b => b ≠ X) e z) :
    ∃ V, V = setE w4 X z.k z.t z.n z.p z.r ∧ V.heap[X]? = some (.cells #[z.k, z.t, z.n, z.p, z.r] T (0, 0)) ∧ (∀ b, b ≠ X → V.heap[b]? = w4.heap[b]?) ∧ ExIs V (fun _ => True) e z :=
  ⟨_, rfl, setE_row hr _ _ _ _ _, fun _ hb => setE_other hb _ _ _ _ _, (hl.keeps (setE_keeps (W := w4) (X := X) z.k z.t z.n z.p z.r)).mono (fun _ _ _ => trivial)⟩
theorem RvIs.exw {w : World} {lo hi : Nat} {e : Ex} {x : EV} (h : RvIs w lo hi e x) : ExIs w (fun b => lo ≤ b) e x := by
  induction h with
  | mk lo m hi k nt N P L a ca b cb c cc xs los his h1 h2 hN hP lN lP lL len own gin pin dis is ih =>
    have hp : PR w m hi (.slice c L.length cc) L xs los his := ⟨len, own, gin, pin, dis, is⟩
    refine .mk k nt N P L a ca b cb c cc (fun i => xs.getD i ⟨.nilIface, .nilIface, .nilIface, .nilIface, .nilIface⟩) ⟨fun k hk => by
        obtain ⟨b, off, e, q, r⟩ := hN.at' k hk
        exact ⟨b, off, e, q.1, r⟩⟩ ⟨fun k hk => by
        obtain ⟨b, off, e, q, r⟩ := hP.at' k hk
        exact ⟨b, off, e, q.1, r⟩⟩ lN lP lL (fun i hi => ?_) (fun i hi => ?_)
    · have hi' : i < xs.length := by rw [len]; exact hi
      obtain ⟨g, c', e, hg, h5⟩ := hp.cells i hi hi'
      cases e
      exact ⟨g, 0, rfl, by omega, by rw [List.getD_eq_getElem?_getD, List.getElem?_eq_getElem hi', Nat.zero_add]; exact h5⟩
    · have hi' : i < xs.length := by rw [len]; exact hi
      rw [List.getD_eq_getElem?_getD, List.getElem?_eq_getElem hi']
      exact (ih i hi hi').mono (fun b' _ hb' => by have := (pin i hi).1; omega)
/-- What Skip leaves. -/
def SkipR (w : World) (t : Ex) (r : Ending) (w' : World) : Prop := ∃ y : EV, r = .returned (.tuple #[y.v, .nilIface]) ∧ ExIs w' (fun _ => True) t y ∧ Below w.heap.size w w'
set_option maxRecDepth 10000 in
set_option maxHeartbeats 3200000 in
theorem skip_any (e : Ex) (x : EV) (Q : Nat → Prop) (nt : Bool) (N : List ByteArray) (P : List (Int × Int)) (a b : Option Addr) (ca cb : Nat) (A : Nat → Addr) (w : World) (d : Nat) (hd : d ≤ 100) (hwf : WfE d e) (hsz : e.size ≤ 900) (hm : mayF N P = true) (hl4 : N.length + P.length ≤ 4) (hx : ExIs w Q e x) (hN : SQ w Q a N) (hP : RQ w Q b P) (hE : E3 w A) :
    Calls Tryd.prog 8 #[x.v, .agg #[.bool nt, .slice a N.length ca, .slice b P.length cb]] w fun r w' => SkipR w (wovE (trailE nt N P) e) r w' := by
  have hx0 : ExIs w (fun b => b < w.heap.size) e x := hx.mono (fun _ h _ => h)
  have HEx := hid0 (fun (V : World) (hV : Below w.heap.size w V) => hx0.past hV)
  have HSzE : Hid (e.size ≤ 4000) := hid0 (by omega)
  have HE := hid0 hE
  have HCk := hid0 (fun (V : World) (hV : Below w.heap.size w V) => check_any mayF e x _ A V (hx0.past hV) (allM_of (hx0.past hV)) (hE.below hV))
  rw [errC_ok (wf_ok hwf (by omega) (by omega))] at HCk
  have HMy := hid0 (fun (V : World) (hV : Below w.heap.size w V) => mayC_any N P (by omega) nt a b ca cb V (by omega) (hN.sa.below hV) (hP.ra.below hV))
  rw [hm] at HMy
  have hN0 : SQ w (fun b => b < w.heap.size) a N := ⟨fun k hk => by
    obtain ⟨b', off, e', q1, q2, q3⟩ := hN.at' k hk
    exact ⟨b', off, e', q2, q2, q3⟩⟩
  have hP0 : RQ w (fun b => b < w.heap.size) b P := ⟨fun k hk => by
    obtain ⟨b', off, e', q1, q2, q3⟩ := hP.at' k hk
    exact ⟨b', off, e', World.block_lt_of_cell? w _ q2, q2, q3⟩⟩
  have HSo := hid0 (fun (V : World) (hV : Below w.heap.size w V) => starOf_any nt N P a b ca cb (fun b => b < w.heap.size) V (hN0.keeps ⟨hV.size, fun g o' _ hl' => hV.cell (p := ⟨g, o', none⟩) hl'⟩) (hP0.keeps ⟨hV.size, fun g o' _ hl' => hV.cell (p := ⟨g, o', none⟩) hl'⟩) (by omega) (by omega))
  have hwl := wov_wf (trail_wf (nt := nt) hm hl4) rfl d e hwf
  have hsl := wov_size (trailE nt N P) (trail_size nt N P) e
  have HOkL := hid0 (wf_ok hwl (by omega) (by omega))
  have HSmL := hid0 (wf_small _ _ hwl)
  obtain ⟨k1, t1, a1, m1, c1, b1, n1, d1, g1, l1, z1, rfl⟩ := hx.flatB
  unfold EV.v at HCk ⊢
  simp only [] at HCk ⊢
  obtain ⟨wa, hwa⟩ : ∃ wa, w.alloc (.cells #[.int .i64 k1, .bool t1, .slice a1 m1 c1, .slice b1 n1 d1, .slice g1 l1 z1] 28) = wa := ⟨_, rfl⟩
  obtain ⟨wb, hwb⟩ : ∃ wb, wa.alloc (.cells #[.bool nt, .slice a N.length ca, .slice b P.length cb] 25) = wb := ⟨_, rfl⟩
  obtain ⟨W, hW⟩ : ∃ W, wb.alloc (.cells #[.int .i64 0, .bool false, .slice none 0 0, .slice none 0 0, .slice none 0 0] 28) = W := ⟨_, rfl⟩
  obtain ⟨ba, ra, sa⟩ := laid hwa
  obtain ⟨bb, rb, sb⟩ := laid hwb
  obtain ⟨bc, rc, sc⟩ := laid hW
  have hr0 := kept bc (kept bb ra)
  have hr1 : W.heap[w.heap.size + 1]? = some (.cells #[.bool nt, .slice a N.length ca, .slice b P.length cb] 25 (0, 0)) := by rw [← sa]; exact kept bc rb
  have hr2 : W.heap[w.heap.size + 1 + 1]? = some (.cells #[.int .i64 0, .bool false, .slice none 0 0, .slice none 0 0, .slice none 0 0] 28 (0, 0)) := by rw [← sa, ← sb]; exact rc
  have HBW := hid0 (Below.later (Below.later ba bb) bc)
  have HWs : Hid (W.heap.size = w.heap.size + 3) := hid0 (by omega)
  have HRz := hid0 hr2
  have HSk : Hid (∀ V, Below W.heap.size W V → (V.cell? ⟨w.heap.size, 0, none⟩ = some (.int .i64 k1) ∧ V.cell? ⟨w.heap.size, 1, none⟩ = some (.bool t1) ∧ V.cell? ⟨w.heap.size, 2, none⟩ = some (.slice a1 m1 c1) ∧ V.cell? ⟨w.heap.size, 3, none⟩ = some (.slice b1 n1 d1) ∧ V.cell? ⟨w.heap.size, 4, none⟩ = some (.slice g1 l1 z1)) ∧ V.cell? ⟨w.heap.size + 1, 0, none⟩ = some (.bool nt) ∧ V.cell? ⟨w.heap.size + 1, 1, none⟩ = some (.slice a N.length ca) ∧ V.cell? ⟨w.heap.size + 1, 2, none⟩ = some (.slice b P.length cb)) := hid0 (fun V hV => ⟨(rowE (kept hV hr0)).1, (row3 (kept hV hr1)).1⟩)
  have hs0 := HSk.out W (Below.refl _ _)
  clear hx hx0 hN hP hN0 hP0 hE hwf hsz hm hl4 hwl hsl ba ra sa bb rb sb bc rc sc hr0 hr1 hr2
  subst hwa hwb
  go_enter Tryd.func8, Tryd.ntmps8
  go_wp2_with (first
    | (go_at_call 23
       refine (HMy.out _ (Below.later HBW.out HB1.out)).mono ?_
       rintro r w2 ⟨rfl, hb2⟩
       have HB2 := hid0 (Below.later HB1.out hb2)
       have hs2 := HSk.out _ HB2.out
       clear hb2)
    | (go_at_call 10
       refine (HCk.out _ HBW.out).mono ?_
       rintro r w1 ⟨rfl, hb1⟩
       have HB1 := hid0 hb1
       have hs1 := HSk.out _ hb1
       clear hb1)
    | fail)
  have HXW : Hid (W.heap.size ≤ w2.heap.size) := hid0 HB2.out.size
  have HWw : Hid (w.heap.size + 3 = W.heap.size) := hid0 HWs.out.symm
  have hsd := HSk.out _ (Below.later (HB2.out) ((Below.refl w2.heap.size w2).drew))
  have hsA := HSk.out _ (Below.later (HB2.out) (((Below.refl w2.heap.size w2).drew).alloc (Nat.le_refl _) (.cells #[.int .i64 0, .bool false, .slice none 0 0, .slice none 0 0, .slice none 0 0] 28)))
  refine wp_region_noPanic ?_
  refine wp_region_held_drew (S := (fun V => (V.cell? ⟨w.heap.size, 0, none⟩ = some (.int .i64 k1) ∧ V.cell? ⟨w.heap.size, 1, none⟩ = some (.bool t1) ∧ V.cell? ⟨w.heap.size, 2, none⟩ = some (.slice a1 m1 c1) ∧ V.cell? ⟨w.heap.size, 3, none⟩ = some (.slice b1 n1 d1) ∧ V.cell? ⟨w.heap.size, 4, none⟩ = some (.slice g1 l1 z1)) ∧ V.cell? ⟨w.heap.size + 1, 0, none⟩ = some (.bool nt) ∧ V.cell? ⟨w.heap.size + 1, 1, none⟩ = some (.slice a N.length ca) ∧ V.cell? ⟨w.heap.size + 1, 2, none⟩ = some (.slice b P.length cb))) (by kernel_rfl) ?_ (fun hHeld => ?_)
  · exact hsd
  refine tkV (i := 0) (d := some 20) (v := ?_) rfl (by kernel_rfl) (by kernel_rfl) (by kernel_rfl) rfl (fun _ _ _ h => h) (by rfl) ?_ (by assumption) ?_
  rotate_left
  · (intro w hSw; (try dsimp only at hSw); (try simp only [List.getElem_toArray, List.getElem_cons_zero]); go_simp; try with_reducible rfl)
  try simp only [Act.put, List.setIfInBounds_toArray, List.set_cons_zero, List.set_cons_succ]
  refine tkV (i := 1) (d := some 21) (v := ?_) rfl (by kernel_rfl) (by kernel_rfl) (by kernel_rfl) rfl (fun _ _ _ h => h) (by rfl) ?_ (by assumption) ?_
  rotate_left
  · (intro w hSw; (try dsimp only at hSw); (try simp only [List.getElem_toArray, List.getElem_cons_zero, List.getElem_cons_succ]); go_simp; try with_reducible rfl)
  try simp only [Act.put, List.setIfInBounds_toArray, List.set_cons_zero, List.set_cons_succ]
  refine wpAnyH_ready (rs := [2, 4]) (by kernel_rfl) (by simp) (AllReadyH.cons rfl (fun K hK => ?_) (AllReadyH.cons rfl (fun K hK => ?_) AllReadyH.nil))
  · try simp only [List.getElem_toArray, List.getElem_cons_zero, List.getElem_cons_succ]
    go_simp
    refine (HSo.out w2.drew (Below.later HBW.out (Below.later (HB2.out) ((Below.refl w2.heap.size w2).drew)))).mono ?_
    rintro r w3 hr
    obtain ⟨k3, t3, a3, m3, c3, b3, n3, d3, g3, l3, z3, rfl, q1, q2⟩ := hr.shape
    have HB3 := hid0 (Below.later (Below.later (HB2.out) ((Below.refl w2.heap.size w2).drew)) q2)
    have HQ3 := hid0 (q1.mono (Q' := fun b => b < w3.heap.size ∧ b ≠ w3.heap.size) (fun b' hl' _ => ⟨hl', by omega⟩))
    have hs3 := HSk.out _ HB3.out
    clear hr q1 q2
    go_wp2_with fail
    refine hK.out _ _ ?_ (fun hHeldC => ?_)
    · exact hs3
    clear hK K
    (try simp only [Act.put]); (try simp only [List.setIfInBounds_toArray]); (try simp only [List.set_cons_succ]); (try simp only [List.set_cons_zero])
    refine wpAnyH_ready (rs := [3, 4]) (by kernel_rfl) (by simp) (AllReadyH.cons rfl (fun K hK => ?_) (AllReadyH.cons rfl (fun K hK => ?_) AllReadyH.nil))
    · try simp only [List.getElem_toArray, List.getElem_cons_zero, List.getElem_cons_succ]
      go_simp
      have hWv := woven_any (Q := (fun _ => True)) ((HEx.out w3 (Below.later HBW.out (HB3.out))).mono (fun _ _ _ => trivial)) (trailE nt N P) ⟨.int .i64 k3, .bool t3, .slice a3 m3 c3, .slice b3 n3 d3, .slice g3 l3 z3⟩ ((HQ3.out).mono (fun _ _ _ => trivial)) HSzE.out w3 (Below.refl _ _)
      unfold WovC EV.v at hWv
      dsimp only at hWv
      refine hWv.mono ?_
      rintro r w4 hr
      obtain ⟨k5, t5, a5, m5, c5, b5, n5, d5, g5, l5, z5, rfl, q1, q2⟩ := hr.shape
      have HQ4 := hid0 q1
      have HB4 := hid0 (Below.later (HB3.out) q2)
      have HB34 := hid0 q2
      have hs4 := HSk.out _ HB4.out
      clear hr q1 q2 hWv
      go_wp2_with fail
      refine hK.out _ _ ?_ (fun hHeldC => ?_)
      · exact hs4
      clear hK K
      (try simp only [Act.put]); (try simp only [List.setIfInBounds_toArray]); (try simp only [List.set_cons_succ]); (try simp only [List.set_cons_zero])
      refine wpAnyH_ready (rs := [4]) (by kernel_rfl) (by simp) (AllReadyH.cons rfl (fun K hK => ?_) AllReadyH.nil)
      try simp only [List.getElem_toArray, List.getElem_cons_zero, List.getElem_cons_succ]
      go_simp
      refine hK.out _ _ ?_ (fun hHeldL => ?_)
      · exact HSk.out _ (Below.later HB4.out ((Below.refl w4.heap.size w4).alloc (Nat.le_refl _) (.cells #[.int .i64 0, .bool false, .slice none 0 0, .slice none 0 0, .slice none 0 0] 28)))
      clear hK K
      (try simp only [Act.put]); (try simp only [List.setIfInBounds_toArray]); (try simp only [List.set_cons_succ]); (try simp only [List.set_cons_zero])
      obtain ⟨V5, hV5⟩ : ∃ V5, w4.alloc (.cells #[.int .i64 k5, .bool t5, .slice a5 m5 c5, .slice b5 n5 d5, .slice g5 l5 z5] 28) = V5 := ⟨_, rfl⟩
      obtain ⟨bb5, hR5, _⟩ := laid hV5
      have HL5 := hid0 ((HQ4.out.past bb5).mono (Q' := fun _ => True) (fun _ _ _ => trivial))
      have HR5 := hid0 hR5
      have HBz := hid0 (Below.later HB4.out bb5)
      have HSz : Hid ((V5.cell? ⟨w.heap.size, 0, none⟩ = some (.int .i64 k1) ∧ V5.cell? ⟨w.heap.size, 1, none⟩ = some (.bool t1) ∧ V5.cell? ⟨w.heap.size, 2, none⟩ = some (.slice a1 m1 c1) ∧ V5.cell? ⟨w.heap.size, 3, none⟩ = some (.slice b1 n1 d1) ∧ V5.cell? ⟨w.heap.size, 4, none⟩ = some (.slice g1 l1 z1)) ∧ V5.cell? ⟨w.heap.size + 1, 0, none⟩ = some (.bool nt) ∧ V5.cell? ⟨w.heap.size + 1, 1, none⟩ = some (.slice a N.length ca) ∧ V5.cell? ⟨w.heap.size + 1, 2, none⟩ = some (.slice b P.length cb)) := hid0 (HSk.out _ HBz.out)
      have HV5 : Hid (V5 = w4.alloc (.cells #[.int .i64 k5, .bool t5, .slice a5 m5 c5, .slice b5 n5 d5, .slice g5 l5 z5] 28)) := hid0 hV5.symm
      rw [HV5.out] at HSz
      clear hV5 bb5 hR5
      refine wpAnyH_ready (rs := [5]) (by kernel_rfl) (by simp) (AllReadyH.cons rfl (fun K hK => ?_) AllReadyH.nil)
      try simp only [List.getElem_toArray, List.getElem_cons_zero, List.getElem_cons_succ]
      go_simp
      refine hK.out _ _ ?_ (fun hHeldL => ?_)
      · exact HSz.out
      clear hK K
      (try simp only [Act.put]); (try simp only [List.setIfInBounds_toArray]); (try simp only [List.set_cons_succ]); (try simp only [List.set_cons_zero])
      refine wpAnyH_done (by kernel_rfl) ?_ _
      refine NoPanic.normal ?_
      rw [← HV5.out]
      clear HSz
      obtain ⟨⟨u0, u1, u2, u3, u4⟩, _⟩ := rowE HR5.out
      have HCl := hid0 (fun (V : World) (hV : Below V5.heap.size V5 V) => check_any mayF (wovE (trailE nt N P) e) _ (fun _ => True) A V (HL5.out.past hV) (allM_of (HL5.out.past hV)) (HE.out.below (Below.later HBW.out (Below.later HBz.out hV))))
      rw [errC_ok HOkL.out] at HCl
      have HCp := hid0 (fun (V : World) (hV : Below V5.heap.size V5 V) => copied_any HL5.out HSmL.out V hV)
      unfold EV.v at HCl HCp
      simp only [] at HCl HCp
      go_wp2_with (first
        | (go_at_call 26
           refine (HCp.out _ HB6.out).mono ?_
           rintro r w7 hr
           obtain ⟨k7, t7, a7, m7, c7, b7, n7, d7, g7, l7, z7, rfl, q1, q2⟩ := hr.shape
           have hrz := kept (Below.later (Below.later HBz.out HB6.out) q2) HRz.out
           obtain ⟨V8, hV8, hR8, hO8, hL8⟩ := long_stored (X := w.heap.size + 1 + 1) (T := 28) hrz ((q1.keeps (Nat.le_refl _) (fun _ _ _ _ => rfl)).exw.mono (Q' := fun b => b ≠ w.heap.size + 1 + 1) (fun b' _ hb' => by have := HB6.out.size; have := HBz.out.size; have := HWs.out; omega))
           dsimp only at hV8 hR8 hL8
           obtain ⟨⟨v0, v1, v2, v3, v4⟩, f0, f1, f2, f3, f4⟩ := rowE hrz
           have HB8 : Hid (Below w.heap.size w V8) := hid0 (by rw [hV8]; exact setE_below (Below.later HBW.out (Below.later (Below.later HBz.out HB6.out) q2)) (by omega) _ _ _ _ _)
           have HL8 := hid0 hL8
           have HR8 := hid0 hR8
           unfold setE at hV8
           have HV8 := hid0 hV8
           clear hr q1 q2 hrz hV8 hR8 hO8 hL8)
        | (go_at_call 10
           refine (HCl.out _ (Below.refl _ _)).mono ?_
           rintro r w6 ⟨rfl, hb6⟩
           have HB6 := hid0 hb6
           obtain ⟨⟨s0, s1, s2, s3, s4⟩, _⟩ := rowE (kept hb6 HR5.out)
           clear hb6)
        | fail)
      rw [← HV8.out]
      obtain ⟨⟨kk0, kk1, kk2, kk3, kk4⟩, _⟩ := rowE HR8.out
      exact bodyPost_ret (v := .tuple #[.agg #[.int .i64 k7, .bool t7, .slice a7 m7 c7, .slice b7 n7 d7, .slice g7 l7 z7], .nilIface]) (by simp [results, Tryd.results8, go_sem, kk0, kk1, kk2, kk3, kk4]) rfl ⟨⟨.int .i64 k7, .bool t7, .slice a7 m7 c7, .slice b7 n7 d7, .slice g7 l7 z7⟩, rfl, HL8.out, HB8.out⟩
    · try simp only [List.getElem_toArray, List.getElem_cons_zero, List.getElem_cons_succ]
      go_simp
      refine hK.out _ _ ?_ (fun hHeldL => ?_)
      · exact HSk.out _ (Below.later HB3.out ((Below.refl w3.heap.size w3).alloc (Nat.le_refl _) (.cells #[.int .i64 0, .bool false, .slice none 0 0, .slice none 0 0, .slice none 0 0] 28)))
      clear hK K
      (try simp only [Act.put]); (try simp only [List.setIfInBounds_toArray]); (try simp only [List.set_cons_succ]); (try simp only [List.set_cons_zero])
      refine wpAnyH_ready (rs := [3]) (by kernel_rfl) (by simp) (AllReadyH.cons rfl (fun K hK => ?_) AllReadyH.nil)
      try simp only [List.getElem_toArray, List.getElem_cons_zero, List.getElem_cons_succ]
      go_simp
      have HXV : Hid (w3.heap.size < (w3.alloc (.cells #[.int .i64 0, .bool false, .slice none 0 0, .slice none 0 0, .slice none 0 0] 28)).heap.size) := hid0 (by simp)
      have HXW3 : Hid (W.heap.size ≤ w3.heap.size) := hid0 HB3.out.size
      have HXW := HXW3
      have hWv := woven_any (Q := (fun b => b ≠ w3.heap.size)) ((HEx.out (w3.alloc (.cells #[.int .i64 0, .bool false, .slice none 0 0, .slice none 0 0, .slice none 0 0] 28)) (Below.later HBW.out (Below.later HB3.out ((Below.refl w3.heap.size w3).alloc (Nat.le_refl _) (.cells #[.int .i64 0, .bool false, .slice none 0 0, .slice none 0 0, .slice none 0 0] 28))))).mono (fun b' _ hq' => by have := HXW.out; have := HWw.out; omega)) (trailE nt N P) ⟨.int .i64 k3, .bool t3, .slice a3 m3 c3, .slice b3 n3 d3, .slice g3 l3 z3⟩ ((HQ3.out.past ((Below.refl w3.heap.size w3).alloc (Nat.le_refl _) (.cells #[.int .i64 0, .bool false, .slice none 0 0, .slice none 0 0, .slice none 0 0] 28))).mono (fun b' _ h => h.2)) HSzE.out (w3.alloc (.cells #[.int .i64 0, .bool false, .slice none 0 0, .slice none 0 0, .slice none 0 0] 28)) (Below.refl _ _)
      unfold WovC EV.v at hWv
      dsimp only at hWv
      refine hWv.mono ?_
      rintro r w4 hr
      obtain ⟨k5, t5, a5, m5, c5, b5, n5, d5, g5, l5, z5, rfl, q1, q2⟩ := hr.shape
      have HQ4 := hid0 q1
      have HB4 := hid0 (Below.later (Below.later HB3.out ((Below.refl w3.heap.size w3).alloc (Nat.le_refl _) (.cells #[.int .i64 0, .bool false, .slice none 0 0, .slice none 0 0, .slice none 0 0] 28))) q2)
      have HB34 := hid0 q2
      have hs4 := HSk.out _ HB4.out
      clear hr q1 q2 hWv
      obtain ⟨⟨x50, x51, x52, x53, x54⟩, y50, y51, y52, y53, y54⟩ := rowE (kept HB34.out (heap_alloc_new w3 _))
      obtain ⟨V5, hV5, hR5, hO5, hL5⟩ := long_stored (X := w3.heap.size) (T := 28) (kept HB34.out (heap_alloc_new w3 _)) (HQ4.out.mono (Q' := fun b => b ≠ w3.heap.size) (fun b' hl' hb' => by rcases hb' with hb' | hb'; exact hb'.1; have := HXV.out; omega))
      dsimp only at hV5 hR5 hL5
      have HL5 := hid0 hL5
      have HR5 := hid0 hR5
      have HBz := hid0 (show Below W.heap.size W V5 from ⟨hV5 ▸ HB4.out.os, hV5 ▸ HB4.out.tape, hV5 ▸ HB4.out.output, by rw [hV5, setE_size]; exact HB4.out.size, fun b' hb' => (hO5 b' (by have := HXW.out; omega)).trans (HB4.out.block b' hb')⟩)
      have HSz : Hid ((V5.cell? ⟨w.heap.size, 0, none⟩ = some (.int .i64 k1) ∧ V5.cell? ⟨w.heap.size, 1, none⟩ = some (.bool t1) ∧ V5.cell? ⟨w.heap.size, 2, none⟩ = some (.slice a1 m1 c1) ∧ V5.cell? ⟨w.heap.size, 3, none⟩ = some (.slice b1 n1 d1) ∧ V5.cell? ⟨w.heap.size, 4, none⟩ = some (.slice g1 l1 z1)) ∧ V5.cell? ⟨w.heap.size + 1, 0, none⟩ = some (.bool nt) ∧ V5.cell? ⟨w.heap.size + 1, 1, none⟩ = some (.slice a N.length ca) ∧ V5.cell? ⟨w.heap.size + 1, 2, none⟩ = some (.slice b P.length cb)) := hid0 (HSk.out _ HBz.out)
      unfold setE at hV5
      have HV5 := hid0 hV5
      rw [HV5.out] at HSz
      clear hV5 hR5 hO5 hL5
      go_wp2_with fail
      refine hK.out _ _ ?_ (fun hHeldC => ?_)
      · exact hs4
      clear hK K
      (try simp only [Act.put]); (try simp only [List.setIfInBounds_toArray]); (try simp only [List.set_cons_succ]); (try simp only [List.set_cons_zero])
      refine wpAnyH_ready (rs := [5]) (by kernel_rfl) (by simp) (AllReadyH.cons rfl (fun K hK => ?_) AllReadyH.nil)
      try simp only [List.getElem_toArray, List.getElem_cons_zero, List.getElem_cons_succ]
      go_simp
      refine hK.out _ _ ?_ (fun hHeldL => ?_)
      · exact HSz.out
      clear hK K
      (try simp only [Act.put]); (try simp only [List.setIfInBounds_toArray]); (try simp only [List.set_cons_succ]); (try simp only [List.set_cons_zero])
      refine wpAnyH_done (by kernel_rfl) ?_ _
      refine NoPanic.normal ?_
      rw [← HV5.out]
      clear HSz
      obtain ⟨⟨u0, u1, u2, u3, u4⟩, _⟩ := rowE HR5.out
      have HCl := hid0 (fun (V : World) (hV : Below V5.heap.size V5 V) => check_any mayF (wovE (trailE nt N P) e) _ (fun _ => True) A V (HL5.out.past hV) (allM_of (HL5.out.past hV)) (HE.out.below (Below.later HBW.out (Below.later HBz.out hV))))
      rw [errC_ok HOkL.out] at HCl
      have HCp := hid0 (fun (V : World) (hV : Below V5.heap.size V5 V) => copied_any HL5.out HSmL.out V hV)
      unfold EV.v at HCl HCp
      simp only [] at HCl HCp
      go_wp2_with (first
        | (go_at_call 26
           refine (HCp.out _ HB6.out).mono ?_
           rintro r w7 hr
           obtain ⟨k7, t7, a7, m7, c7, b7, n7, d7, g7, l7, z7, rfl, q1, q2⟩ := hr.shape
           have hrz := kept (Below.later (Below.later HBz.out HB6.out) q2) HRz.out
           obtain ⟨V8, hV8, hR8, hO8, hL8⟩ := long_stored (X := w.heap.size + 1 + 1) (T := 28) hrz ((q1.keeps (Nat.le_refl _) (fun _ _ _ _ => rfl)).exw.mono (Q' := fun b => b ≠ w.heap.size + 1 + 1) (fun b' _ hb' => by have := HB6.out.size; have := HBz.out.size; have := HWs.out; omega))
           dsimp only at hV8 hR8 hL8
           obtain ⟨⟨v0, v1, v2, v3, v4⟩, f0, f1, f2, f3, f4⟩ := rowE hrz
           have HB8 : Hid (Below w.heap.size w V8) := hid0 (by rw [hV8]; exact setE_below (Below.later HBW.out (Below.later (Below.later HBz.out HB6.out) q2)) (by omega) _ _ _ _ _)
           have HL8 := hid0 hL8
           have HR8 := hid0 hR8
           unfold setE at hV8
           have HV8 := hid0 hV8
           clear hr q1 q2 hrz hV8 hR8 hO8 hL8)
        | (go_at_call 10
           refine (HCl.out _ (Below.refl _ _)).mono ?_
           rintro r w6 ⟨rfl, hb6⟩
           have HB6 := hid0 hb6
           obtain ⟨⟨s0, s1, s2, s3, s4⟩, _⟩ := rowE (kept hb6 HR5.out)
           clear hb6)
        | fail)
      rw [← HV8.out]
      obtain ⟨⟨kk0, kk1, kk2, kk3, kk4⟩, _⟩ := rowE HR8.out
      exact bodyPost_ret (v := .tuple #[.agg #[.int .i64 k7, .bool t7, .slice a7 m7 c7, .slice b7 n7 d7, .slice g7 l7 z7], .nilIface]) (by simp [results, Tryd.results8, go_sem, kk0, kk1, kk2, kk3, kk4]) rfl ⟨⟨.int .i64 k7, .bool t7, .slice a7 m7 c7, .slice b7 n7 d7, .slice g7 l7 z7⟩, rfl, HL8.out, HB8.out⟩
  · try simp only [List.getElem_toArray, List.getElem_cons_zero, List.getElem_cons_succ]
    go_simp
    refine hK.out _ _ ?_ (fun hHeldL => ?_)
    · exact hsA
    clear hK K
    (try simp only [Act.put]); (try simp only [List.setIfInBounds_toArray]); (try simp only [List.set_cons_succ]); (try simp only [List.set_cons_zero])
    refine wpAnyH_ready (rs := [2]) (by kernel_rfl) (by simp) (AllReadyH.cons rfl (fun K hK => ?_) AllReadyH.nil)
    try simp only [List.getElem_toArray, List.getElem_cons_zero, List.getElem_cons_succ]
    go_simp
    refine (HSo.out (w2.drew.alloc (.cells #[.int .i64 0, .bool false, .slice none 0 0, .slice none 0 0, .slice none 0 0] 28)) (Below.later HBW.out (Below.later (HB2.out) (((Below.refl w2.heap.size w2).drew).alloc (Nat.le_refl _) (.cells #[.int .i64 0, .bool false, .slice none 0 0, .slice none 0 0, .slice none 0 0] 28))))).mono ?_
    rintro r w3 hr
    obtain ⟨k3, t3, a3, m3, c3, b3, n3, d3, g3, l3, z3, rfl, q1, q2⟩ := hr.shape
    have HXV : Hid (w2.heap.size < w3.heap.size) := hid0 (by have := q2.size; simp at this; omega)
    have HRX := hid0 (kept q2 (show (w2.drew.alloc (.cells #[.int .i64 0, .bool false, .slice none 0 0, .slice none 0 0, .slice none 0 0] 28)).heap[w2.heap.size]? = some (.cells #[.int .i64 0, .bool false, .slice none 0 0, .slice none 0 0, .slice none 0 0] 28 (0, 0)) from heap_alloc_new w2.drew _))
    have HQ3 := hid0 (q1.mono (Q' := fun b => b ≠ w2.heap.size) (fun b' _ hb' => by have := HXW.out; have := HWw.out; rcases hb' with hb' | hb'; have := hb'.1; omega; simp at hb'; omega))
    have HB3 := hid0 (Below.later (Below.later (HB2.out) (((Below.refl w2.heap.size w2).drew).alloc (Nat.le_refl _) (.cells #[.int .i64 0, .bool false, .slice none 0 0, .slice none 0 0, .slice none 0 0] 28))) q2)
    have hs3 := HSk.out _ HB3.out
    clear hr q1 q2
    go_wp2_with fail
    refine hK.out _ _ ?_ (fun hHeldC => ?_)
    · exact hs3
    clear hK K
    (try simp only [Act.put]); (try simp only [List.setIfInBounds_toArray]); (try simp only [List.set_cons_succ]); (try simp only [List.set_cons_zero])
    refine wpAnyH_ready (rs := [3]) (by kernel_rfl) (by simp) (AllReadyH.cons rfl (fun K hK => ?_) AllReadyH.nil)
    try simp only [List.getElem_toArray, List.getElem_cons_zero, List.getElem_cons_succ]
    go_simp
    have hWv := woven_any (Q := (fun b => b ≠ w2.heap.size)) ((HEx.out w3 (Below.later HBW.out (HB3.out))).mono (fun b' _ hq' => by have := HXW.out; have := HWw.out; omega)) (trailE nt N P) ⟨.int .i64 k3, .bool t3, .slice a3 m3 c3, .slice b3 n3 d3, .slice g3 l3 z3⟩ ((HQ3.out).mono (fun _ _ h => h)) HSzE.out w3 (Below.refl _ _)
    unfold WovC EV.v at hWv
    dsimp only at hWv
    refine hWv.mono ?_
    rintro r w4 hr
    obtain ⟨k5, t5, a5, m5, c5, b5, n5, d5, g5, l5, z5, rfl, q1, q2⟩ := hr.shape
    have HQ4 := hid0 q1
    have HB4 := hid0 (Below.later (HB3.out) q2)
    have HB34 := hid0 q2
    have hs4 := HSk.out _ HB4.out
    clear hr q1 q2 hWv
    obtain ⟨⟨x50, x51, x52, x53, x54⟩, y50, y51, y52, y53, y54⟩ := rowE (kept HB34.out HRX.out)
    obtain ⟨V5, hV5, hR5, hO5, hL5⟩ := long_stored (X := w2.heap.size) (T := 28) (kept HB34.out HRX.out) (HQ4.out.mono (Q' := fun b => b ≠ w2.heap.size) (fun b' hl' hb' => by rcases hb' with hb' | hb'; exact hb'.1; have := HXV.out; omega))
    dsimp only at hV5 hR5 hL5
    have HL5 := hid0 hL5
    have HR5 := hid0 hR5
    have HBz := hid0 (show Below W.heap.size W V5 from ⟨hV5 ▸ HB4.out.os, hV5 ▸ HB4.out.tape, hV5 ▸ HB4.out.output, by rw [hV5, setE_size]; exact HB4.out.size, fun b' hb' => (hO5 b' (by have := HXW.out; omega)).trans (HB4.out.block b' hb')⟩)
    have HSz : Hid ((V5.cell? ⟨w.heap.size, 0, none⟩ = some (.int .i64 k1) ∧ V5.cell? ⟨w.heap.size, 1, none⟩ = some (.bool t1) ∧ V5.cell? ⟨w.heap.size, 2, none⟩ = some (.slice a1 m1 c1) ∧ V5.cell? ⟨w.heap.size, 3, none⟩ = some (.slice b1 n1 d1) ∧ V5.cell? ⟨w.heap.size, 4, none⟩ = some (.slice g1 l1 z1)) ∧ V5.cell? ⟨w.heap.size + 1, 0, none⟩ = some (.bool nt) ∧ V5.cell? ⟨w.heap.size + 1, 1, none⟩ = some (.slice a N.length ca) ∧ V5.cell? ⟨w.heap.size + 1, 2, none⟩ = some (.slice b P.length cb)) := hid0 (HSk.out _ HBz.out)
    unfold setE at hV5
    have HV5 := hid0 hV5
    rw [HV5.out] at HSz
    clear hV5 hR5 hO5 hL5
    go_wp2_with fail
    refine hK.out _ _ ?_ (fun hHeldC => ?_)
    · exact hs4
    clear hK K
    (try simp only [Act.put]); (try simp only [List.setIfInBounds_toArray]); (try simp only [List.set_cons_succ]); (try simp only [List.set_cons_zero])
    refine wpAnyH_ready (rs := [5]) (by kernel_rfl) (by simp) (AllReadyH.cons rfl (fun K hK => ?_) AllReadyH.nil)
    try simp only [List.getElem_toArray, List.getElem_cons_zero, List.getElem_cons_succ]
    go_simp
    refine hK.out _ _ ?_ (fun hHeldL => ?_)
    · exact HSz.out
    clear hK K
    (try simp only [Act.put]); (try simp only [List.setIfInBounds_toArray]); (try simp only [List.set_cons_succ]); (try simp only [List.set_cons_zero])
    refine wpAnyH_done (by kernel_rfl) ?_ _
    refine NoPanic.normal ?_
    rw [← HV5.out]
    clear HSz
    obtain ⟨⟨u0, u1, u2, u3, u4⟩, _⟩ := rowE HR5.out
    have HCl := hid0 (fun (V : World) (hV : Below V5.heap.size V5 V) => check_any mayF (wovE (trailE nt N P) e) _ (fun _ => True) A V (HL5.out.past hV) (allM_of (HL5.out.past hV)) (HE.out.below (Below.later HBW.out (Below.later HBz.out hV))))
    rw [errC_ok HOkL.out] at HCl
    have HCp := hid0 (fun (V : World) (hV : Below V5.heap.size V5 V) => copied_any HL5.out HSmL.out V hV)
    unfold EV.v at HCl HCp
    simp only [] at HCl HCp
    go_wp2_with (first
      | (go_at_call 26
         refine (HCp.out _ HB6.out).mono ?_
         rintro r w7 hr
         obtain ⟨k7, t7, a7, m7, c7, b7, n7, d7, g7, l7, z7, rfl, q1, q2⟩ := hr.shape
         have hrz := kept (Below.later (Below.later HBz.out HB6.out) q2) HRz.out
         obtain ⟨V8, hV8, hR8, hO8, hL8⟩ := long_stored (X := w.heap.size + 1 + 1) (T := 28) hrz ((q1.keeps (Nat.le_refl _) (fun _ _ _ _ => rfl)).exw.mono (Q' := fun b => b ≠ w.heap.size + 1 + 1) (fun b' _ hb' => by have := HB6.out.size; have := HBz.out.size; have := HWs.out; omega))
         dsimp only at hV8 hR8 hL8
         obtain ⟨⟨v0, v1, v2, v3, v4⟩, f0, f1, f2, f3, f4⟩ := rowE hrz
         have HB8 : Hid (Below w.heap.size w V8) := hid0 (by rw [hV8]; exact setE_below (Below.later HBW.out (Below.later (Below.later HBz.out HB6.out) q2)) (by omega) _ _ _ _ _)
         have HL8 := hid0 hL8
         have HR8 := hid0 hR8
         unfold setE at hV8
         have HV8 := hid0 hV8
         clear hr q1 q2 hrz hV8 hR8 hO8 hL8)
      | (go_at_call 10
         refine (HCl.out _ (Below.refl _ _)).mono ?_
         rintro r w6 ⟨rfl, hb6⟩
         have HB6 := hid0 hb6
         obtain ⟨⟨s0, s1, s2, s3, s4⟩, _⟩ := rowE (kept hb6 HR5.out)
         clear hb6)
      | fail)
    rw [← HV8.out]
    obtain ⟨⟨kk0, kk1, kk2, kk3, kk4⟩, _⟩ := rowE HR8.out
    exact bodyPost_ret (v := .tuple #[.agg #[.int .i64 k7, .bool t7, .slice a7 m7 c7, .slice b7 n7 d7, .slice g7 l7 z7], .nilIface]) (by simp [results, Tryd.results8, go_sem, kk0, kk1, kk2, kk3, kk4]) rfl ⟨⟨.int .i64 k7, .bool t7, .slice a7 m7 c7, .slice b7 n7 d7, .slice g7 l7 z7⟩, rfl, HL8.out, HB8.out⟩
end Go.Proofs.YtiapefdklojhdaaDoor
namespace Go.Proofs.YtiapefdklojhdaaDoor
open Go.RowKit Go.Shelf
theorem bits_snoc (u : Kd) : ∀ (w : List Kd) (b : Nat), leftL (w ++ [u]) b = leftL w b ++ (if b / 2 ^ w.length % 2 = 1 then [] else [u]) ∧ goneL (w ++ [u]) b = goneL w b ++ (if b / 2 ^ w.length % 2 = 1 then [u] else [])
  | [], b => by
    rw [List.nil_append, List.length_nil, Nat.pow_zero, Nat.div_one, leftL, goneL, leftL, goneL, leftL, goneL]
    by_cases h : b % 2 = 1
    · simp [h]
    · simp [h]
  | x :: w, b => by
    obtain ⟨h1, h2⟩ := bits_snoc u w (b / 2)
    have e : b / 2 / 2 ^ w.length = b / 2 ^ (x :: w).length := by rw [Nat.div_div_eq_div_mul, List.length_cons, Nat.pow_succ, Nat.mul_comm]
    rw [e] at h1 h2
    rw [List.cons_append, leftL, leftL, goneL, goneL, h1, h2]
    by_cases h : b % 2 = 1
    · rw [if_pos h, if_pos h, if_pos h, if_pos h]
      exact ⟨rfl, rfl⟩
    · rw [if_neg h, if_neg h, if_neg h, if_neg h]
      exact ⟨rfl, rfl⟩
theorem left_len (w : List Kd) : ∀ b, (leftL w b).length ≤ w.length := by
  induction w with
  | nil => intro b; exact Nat.le_refl _
  | cons u w ih =>
    intro b
    rw [leftL]
    have := ih (b / 2)
    split
    · rw [List.length_cons]; omega
    · rw [List.length_cons, List.length_cons]; omega
theorem gone_len (w : List Kd) : ∀ b, (goneL w b).length ≤ w.length := by
  induction w with
  | nil => intro b; exact Nat.le_refl _
  | cons u w ih =>
    intro b
    rw [goneL]
    have := ih (b / 2)
    split
    · rw [List.length_cons, List.length_cons]; omega
    · rw [List.length_cons]; omega
/-- Two lists of units that are being made. -/
structure TwoU (w wr : World) (vl vg : Value) (l g : List Kd) : Prop where
  ol : OwnU wr w.heap.size vl l
  og : OwnU wr w.heap.size vg g
  ne : ∀ q, vl.ownBlock = some q → vg.ownBlock ≠ some q
  bel : Below w.heap.size w wr
theorem TwoU.putL {w wr w4 : World} {vl vg v4 : Value} {l g : List Kd} {u : Kd} {o : Obj} (h : TwoU w wr vl vg l g) (hg : (wr.alloc o).grownBy w4 vl.ownBlock) (ho : w4.ownsRow w.heap.size 46 2 v4 (l.length + 1) (cellsU l ++ kuC u)) (hat : v4.ownBlock = vl.ownBlock ∨ v4.ownBlock = some (wr.alloc o).heap.size) : TwoU w w4 v4 vg (l ++ [u]) g := by
  have hb : Below wr.heap.size wr (wr.alloc o) := (Below.refl _ _).alloc (Nat.le_refl _) _
  have hsz := h.bel.size
  refine ⟨OwnU.snoc ho, own_blk h.og (fun q e => (hg.block q (by have := (World.ownsRow.lt h.og q e).2; simp; omega) (fun c => h.ne q c.symm e)).trans (hb.block q (World.ownsRow.lt h.og q e).2)), fun q e c => ?_, (Below.later h.bel hb).grown hg (by simp; omega) (fun q e => (World.ownsRow.lt h.ol q e).1)⟩
  rcases hat with p | p
  · exact h.ne q (p ▸ e) c
  · rw [p] at e
    cases e
    have := (World.ownsRow.lt h.og _ c).2
    have := hb.size
    omega
theorem TwoU.putG {w wr w4 : World} {vl vg v4 : Value} {l g : List Kd} {u : Kd} {o : Obj} (h : TwoU w wr vl vg l g) (hg : (wr.alloc o).grownBy w4 vg.ownBlock) (ho : w4.ownsRow w.heap.size 46 2 v4 (g.length + 1) (cellsU g ++ kuC u)) (hat : v4.ownBlock = vg.ownBlock ∨ v4.ownBlock = some (wr.alloc o).heap.size) : TwoU w w4 vl v4 l (g ++ [u]) := by
  have h' : TwoU w wr vg vl g l := ⟨h.og, h.ol, fun q e c => h.ne q c e, h.bel⟩
  have h2 := h'.putL hg ho hat
  exact ⟨h2.og, h2.ol, fun q e c => h2.ne q c e, h2.bel⟩
/-- What without leaves. -/
def WithR (w : World) (l : List Kd) (b : Nat) (r : Ending) (w' : World) : Prop := ∃ vl vg, r = .returned (.tuple #[vl, vg]) ∧ OwnU w' w.heap.size vl (leftL l b) ∧ OwnU w' w.heap.size vg (goneL l b) ∧ Below w.heap.size w w'
set_option maxRecDepth 10000 in
set_option maxHeartbeats 1600000 in
theorem without_any (l : List Kd) (b : Nat) (a : Option Addr) (ca : Nat) (w : World) (hl : l.length ≤ 8) (ha : KA w w.heap.size a l) :
    Calls Tryd.prog 12 #[.slice a l.length ca, .int .i64 (b : Int)] w fun r w' => WithR w l b r w' := by
  obtain ⟨i0, hi, hz0, hz1, hz2⟩ := info_parts infoU
  have HA := hid0 ha
  clear ha
  go_enter Tryd.func12, Tryd.ntmps12
  go_wp2
  go_loopw [6, 7, 8] (fun vl vg i wr => ∃ (k : Nat), k ≤ l.length ∧ i = .int .i64 (k : Int) ∧ Hid (TwoU w wr vl vg (leftL (l.take k) b) (goneL (l.take k) b))) (fun _ _ i _ => l.length - (intOf i).toNat)
  case atStart => exact ⟨0, Nat.zero_le _, rfl, hid0 ⟨OwnU.nil _ _, OwnU.nil _ _, fun q e => (by simp [Value.ownBlock] at e), Below.refl _ _⟩⟩
  case round =>
    obtain ⟨k, hk, rfl, HT⟩ := hrel
    by_cases hlt : k < l.length
    · have hkI : (k : Int) < (l.length : Int) := by omega
      have hkI0 : (0 : Int) ≤ (k : Int) := by omega
      obtain ⟨b1, off, rfl, hbw, hc0, hc1⟩ := HA.out.at' k hlt
      have hd0 := (HT.out.bel.cell (p := ⟨b1, off + k * 2, none⟩) hbw).trans hc0
      have hd1 := (HT.out.bel.cell (p := ⟨b1, off + k * 2 + 1, none⟩) hbw).trans hc1
      have HTK : Hid (l.take (k + 1) = l.take k ++ [l[k]]) := hid0 (by rw [List.take_add_one, List.getElem?_eq_getElem hlt]; rfl)
      have hsn := bits_snoc l[k] (l.take k) b
      rw [show (l.take k).length = k by rw [List.length_take]; omega] at hsn
      have HSn := hid0 hsn
      have HLl : Hid ((leftL (l.take k) b).length ≤ 8 ∧ (goneL (l.take k) b).length ≤ 8) := hid0 (by
        have h1 := left_len (l.take k) b
        have h2 := gone_len (l.take k) b
        rw [List.length_take] at h1 h2
        omega)
      have hcast : ((b : Int) / 2 ^ k) = ((b / 2 ^ k : Nat) : Int) := by rw [Int.natCast_ediv, Int.natCast_pow]; rfl
      generalize b / 2 ^ k = q at *
      generalize l[k] = u1 at *
      generalize leftL (l.take k) b = ml at *
      generalize goneL (l.take k) b = mg at *
      obtain ⟨s1, p1⟩ := u1
      simp only [] at hd0 hd1
      obtain ⟨al, cl, rfl, _⟩ := HT.out.ol.ka
      obtain ⟨ag, cg, rfl, _⟩ := HT.out.og.ka
      clear hc0 hc1 hsn
      by_cases hbit : q % 2 = 1
      · have hB : (((b : Int) / 2 ^ k).tmod 2 == 1) = true := by rw [hcast, Int.tmod_eq_emod_of_nonneg (Int.natCast_nonneg q)]; simp; omega
        have HOk := hid0 HT.out.og
        unfold OwnU at HOk
        clear hcast
        go_wp2_with (first
          | (at_builtin; go_loud ((
               refine wpList_append_own_at _ (by rfl) _ _ 29 (by rfl) w.heap.size 46 i0 (.agg #[.string ByteArray.empty, .int .i64 0]) 2 24 Tryd.underlying29 hi hz0 hz1 hz2 rfl (by decide) (.slice ag mg.length cg) mg.length (cellsU mg) (by rfl) (World.ownsRow.alloc HOk.out _) ⟨wr.heap.size, 0, none⟩ 1 1 (kuC (s1, p1)) (by rfl) (by rfl) (cellU_new wr _ _ _) (fun u hu => by unfold kuC at hu; simp only [List.mem_cons, List.not_mem_nil, or_false] at hu; rcases hu with rfl | rfl <;> rfl) (by have := HLl.out; unfold maxLen; omega) (by have := HLl.out; omega) (by have := HT.out.bel.size; simp; omega) ?_
               intro v4 w4 hown4 hgrow4 _ hat4
               have HT4 := hid0 (HT.out.putG hgrow4 hown4 hat4)
               clear hown4 hgrow4 hat4)))
          | fail)
        go_roundw
        case rel => exact ⟨k + 1, by omega, by go_num, hid0 (by rw [HTK.out, HSn.out.1, HSn.out.2, if_pos hbit, if_pos hbit]; simpa using HT4.out)⟩
        case measure => simp [intOf]; omega
      · have hB : (((b : Int) / 2 ^ k).tmod 2 == 1) = false := by rw [hcast, Int.tmod_eq_emod_of_nonneg (Int.natCast_nonneg q)]; simp; omega
        have HOk := hid0 HT.out.ol
        unfold OwnU at HOk
        clear hcast
        go_wp2_with (first
          | (at_builtin; go_loud ((
               refine wpList_append_own_at _ (by rfl) _ _ 29 (by rfl) w.heap.size 46 i0 (.agg #[.string ByteArray.empty, .int .i64 0]) 2 24 Tryd.underlying29 hi hz0 hz1 hz2 rfl (by decide) (.slice al ml.length cl) ml.length (cellsU ml) (by rfl) (World.ownsRow.alloc HOk.out _) ⟨wr.heap.size, 0, none⟩ 1 1 (kuC (s1, p1)) (by rfl) (by rfl) (cellU_new wr _ _ _) (fun u hu => by unfold kuC at hu; simp only [List.mem_cons, List.not_mem_nil, or_false] at hu; rcases hu with rfl | rfl <;> rfl) (by have := HLl.out; unfold maxLen; omega) (by have := HLl.out; omega) (by have := HT.out.bel.size; simp; omega) ?_
               intro v4 w4 hown4 hgrow4 _ hat4
               have HT4 := hid0 (HT.out.putL hgrow4 hown4 hat4)
               clear hown4 hgrow4 hat4)))
          | fail)
        go_roundw
        case rel => exact ⟨k + 1, by omega, by go_num, hid0 (by rw [HTK.out, HSn.out.1, HSn.out.2, if_neg hbit, if_neg hbit]; simpa using HT4.out)⟩
        case measure => simp [intOf]; omega
    · have hkI : ¬ (k : Int) < (l.length : Int) := by omega
      have HE : Hid (TwoU w wr u6 u7 (leftL l b) (goneL l b)) := hid0 (by have h := HT.out; rw [List.take_of_length_le (by omega)] at h; exact h)
      go_wp2
      exact bodyPost_ret (v := .tuple #[u6, u7]) (by simp [results, Tryd.results12, go_sem]) rfl ⟨u6, u7, rfl, HE.out.ol, HE.out.og, HE.out.bel⟩
end Go.Proofs.YtiapefdklojhdaaDoor
namespace Go.Proofs.YtiapefdklojhdaaDoor
open Go.RowKit Go.Shelf
set_option maxRecDepth 10000 in
set_option maxHeartbeats 3200000 in
theorem tidy_row3 (n : Nat) (hn : n ≤ 4) (k : Int) (nt : Bool) (sN sP : Value) (L : List Ex) (c : Option Addr) (cc : Nat) (vs : Nat → EV) (w : World) (hne : 0 < L.length) (hkt : kindT k = 3) (hL : ∀ i, i < L.length → ∃ g off, c = some ⟨g, off, none⟩ ∧ Five w g (off + i * 5) (vs i)) (hR : ∀ i (h : i < L.length), ExIn w L[i] (vs i)) (ih : ∀ e, TidyP n e) :
    Calls Tryd.prog 5 #[.agg #[.int .i64 k, .bool nt, sN, sP, .slice c L.length cc], .int .i64 ((n + 1 : Nat) : Int)] w fun r w' => ExR w (nodeE 3 (flatT n 3 L 3)) r w' := by
  obtain ⟨W, hW⟩ : ∃ W, (w.alloc (.cells #[.int .i64 k, .bool nt, sN, sP, .slice c L.length cc] 28)).alloc (.cells #[.int .i64 0, .bool false, .slice none 0 0, .slice none 0 0, .slice none 0 0] 28) = W := ⟨_, rfl⟩
  obtain ⟨hr0, hr1, hb, hs⟩ := two_rows w _ _ _ _ _ _ _ _ _ _ _ W hW.symm
  obtain ⟨⟨x0, x1, x2, x3, x4⟩, _⟩ := rowE hr0
  have HR0 := hid0 hr0
  have HR1 := hid0 hr1
  have HB := hid0 hb
  have HS := hid0 hs
  have HL := hid0 hL
  have HRr := hid0 hR
  have HIH := hid0 ih
  clear hL hR ih
  obtain ⟨pk, hpk⟩ : ∃ pk, pk = pickN (IntKind.i64.wrap (k - 1)) 7 := ⟨_, rfl⟩
  obtain ⟨kq, hkq⟩ : ∃ kq, IntKind.i64.wrap (k - 1) = kq := ⟨_, rfl⟩
  have HPk := hid0 (fun V => pick_at kq 7 (by omega) (by omega) V)
  rw [← hkq, ← hpk] at HPk
  rw [hkq] at HPk
  have hpk2 : pk = 2 := by
    have : kindT k = 1 + pk := by rw [hpk]; rfl
    omega
  subst hpk2
  have hmI : ¬ ((L.length : Int) = 0) := by omega
  have hmB : ((L.length : Int) == 0) = false := by simp; intro e; rw [e] at hne; exact absurd hne (by simp)
  have hl0 : ¬ (((n + 1 : Nat) : Int) = 0) := by omega
  have hsub : IntKind.i64.wrap (((n + 1 : Nat) : Int) - 1) = (n : Int) := by simp [IntKind.wrap, IntKind.bits, IntKind.signed]; omega
  generalize ((n + 1 : Nat) : Int) = lv at *
  have hlB : (lv == 0) = false := by simpa using hl0
  have HI0 := hid0 (RowI.first W n 3 L)
  clear hb hs hr0 hr1 hpk hkt hne
  go_enter Tryd.func5, Tryd.ntmps5
  go_wp2_with (first
    | (go_at_call 20; refine (HPk.out _).mono ?_; rintro r w1 ⟨rfl, rfl⟩)
    | fail)
  clear hW x0 x1 x2 x3 x4
  go_loopw [6, 7, 8] (fun v i _ wr => ∃ (j : Nat), j ≤ 3 ∧ i = .int .i64 (j : Int) ∧ Hid (RowI w1 wr n 3 L j v)) (fun _ i _ _ => 3 - (intOf i).toNat)
  case atStart => exact ⟨0, Nat.zero_le _, rfl, HI0⟩
  case round =>
    clear HI0
    obtain ⟨j, hj, rfl, HI⟩ := hrel
    have HRw := hid0 ((HI.out.bel.block w.heap.size (by have := HS.out; omega)).trans HR0.out)
    obtain ⟨⟨x0, x1, x2, x3, x4⟩, _⟩ := rowE HRw.out
    by_cases hlt : j < L.length ∧ j < 3
    · have hjI : (j : Int) < (L.length : Int) := by omega
      have hj3 : (j : Int) < 3 := by omega
      have hjI0 : (0 : Int) ≤ (j : Int) := by omega
      obtain ⟨g, off, rfl, h5⟩ := HL.out j hlt.1
      obtain ⟨y0, y1, y2, y3, y4⟩ := h5.past (Below.later HB.out HI.out.bel |>.mono (Nat.le_refl _))
      have HT := hid0 (HIH.out L[j] wr (vs j) ((HRr.out j hlt.1).past (Below.later HB.out HI.out.bel)))
      have HFl : Hid (flatT n 3 L (j + 1) = flatT n 3 L j ++ gl 3 (tidyE n L[j])) := hid0 (flatT_succ n 3 L j hlt.1)
      have HPt := hid0 (parts_tidy hn L[j])
      have hvs : ∃ aw mw cw, u6 = .slice aw mw cw := by
        obtain ⟨ys, hp⟩ := HI.out.pe
        obtain ⟨aw, cw, e⟩ := hp.form
        exact ⟨aw, _, cw, e⟩
      obtain ⟨aw, mw, cw, rfl⟩ := hvs
      unfold EV.v at HT
      generalize vs j = y at *
      generalize L[j] = p at *
      obtain ⟨yk, yt, yn, yp, yr⟩ := y
      simp only [] at y0 y1 y2 y3 y4 HT
      have hlt2 := hlt.2
      clear h5 hlt
      go_wp2_with (first
        | (go_at_call 5
           refine HT.out.mono ?_
           rintro r w2 hr
           obtain ⟨k5, u5, a5, m5, c5, b5, n5, d5, g5, l5, z5, rfl, q1, q2⟩ := hr.shape
           obtain ⟨w3, hw3⟩ : ∃ w3, w2.alloc (.cells #[.int .i64 k5, .bool u5, .slice a5 m5 c5, .slice b5 n5 d5, .slice g5 l5 z5] 28) = w3 := ⟨_, rfl⟩
           have hb3 : Below w2.heap.size w2 w3 := by rw [← hw3]; exact (Below.refl _ _).alloc (Nat.le_refl _) _
           have hr3 : w3.heap[w2.heap.size]? = some (.cells #[.int .i64 k5, .bool u5, .slice a5 m5 c5, .slice b5 n5 d5, .slice g5 l5 z5] 28 (0, 0)) := by rw [← hw3]; exact heap_alloc_new w2 _
           have HAsk := hid0 (HI.out.ask hn hlt2 HPt.out q1 q2 hb3)
           unfold EV.v at HAsk
           simp only [] at HAsk
           obtain ⟨⟨c0, c1, c2, c3, c4⟩, _⟩ := rowE hr3
           clear hr q1 q2 hb3 hr3)
        | (go_at_call 21
           refine HAsk.out.mono ?_
           rintro r w4 ⟨v', rfl, hp4, hb4⟩
           have HN : Hid (RowI w1 w4 n 3 L (j + 1) v') := hid0 ⟨by rw [HFl.out]; exact hp4, hb4⟩
           clear hp4 hb4)
        | fail)
      go_roundw
      case rel => exact ⟨j + 1, by omega, by go_num, HN⟩
      case measure => simp [intOf]; omega
    · have HI3 : Hid (RowI w1 wr n 3 L 3 u6) := hid0 ⟨by
        have h := HI.out.pe
        have e : L.take j = L.take 3 := by
          rcases Nat.lt_or_ge j 3 with h3 | h3
          · rw [List.take_of_length_le (by omega), List.take_of_length_le (by omega)]
          · rw [show j = 3 by omega]
        unfold flatT at h ⊢
        rw [e] at h
        exact h, HI.out.bel⟩
      obtain ⟨hrw, a6, c6, rfl, h0, h1, h2⟩ := HI3.out.done hn HB.out HS.out HR1.out
      obtain ⟨⟨z0, z1, z2, z3, z4⟩, f0, f1, f2, f3, f4⟩ := rowE hrw
      have H0 := hid0 h0
      have H1 := hid0 h1
      have H2 := hid0 h2
      clear h0 h1 h2 hrw HI
      generalize hm : (flatT n 3 L 3).length = m at *
      clear hm
      rcases (show m = 0 ∨ m = 1 ∨ 2 ≤ m by omega) with rfl | rfl | hm2
      · obtain ⟨V, hV, hVr, hR⟩ := H0.out rfl
        have HR := hid0 hR
        have HVr := hid0 hVr
        unfold setE at hV
        have HV := hid0 hV
        clear hV hVr hR
        by_cases hA : j < L.length
        · have hjI : (j : Int) < (L.length : Int) := by omega
          have hj3 : ¬ (j : Int) < 3 := by omega
          go_wp2
          rw [← HV.out]
          obtain ⟨⟨k0, k1, k2, k3, k4⟩, _⟩ := rowE HVr.out
          exact bodyPost_ret (v := .agg #[.int .i64 1, .bool false, .slice none 0 0, .slice none 0 0, .slice none 0 0]) (by simp [results, Tryd.results5, go_sem, k0, k1, k2, k3, k4]) rfl HR.out
        · have hjI : ¬ (j : Int) < (L.length : Int) := by omega
          go_wp2
          rw [← HV.out]
          obtain ⟨⟨k0, k1, k2, k3, k4⟩, _⟩ := rowE HVr.out
          exact bodyPost_ret (v := .agg #[.int .i64 1, .bool false, .slice none 0 0, .slice none 0 0, .slice none 0 0]) (by simp [results, Tryd.results5, go_sem, k0, k1, k2, k3, k4]) rfl HR.out
      · obtain ⟨g, k5, u5, a5, m5, c5, b5, n5, d5, g5, l5, z5, rfl, h5, V, hV, hVr, hR⟩ := H1.out rfl
        obtain ⟨q0, q1, q2, q3, q4⟩ := h5
        simp only [Nat.zero_add] at q0 q1 q2 q3 q4
        have HR := hid0 hR
        have HVr := hid0 hVr
        unfold setE at hV
        have HV := hid0 hV
        clear hV hVr hR
        by_cases hA : j < L.length
        · have hjI : (j : Int) < (L.length : Int) := by omega
          have hj3 : ¬ (j : Int) < 3 := by omega
          go_wp2
          rw [← HV.out]
          obtain ⟨⟨k0, k1, k2, k3, k4⟩, _⟩ := rowE HVr.out
          exact bodyPost_ret (v := .agg #[.int .i64 k5, .bool u5, .slice a5 m5 c5, .slice b5 n5 d5, .slice g5 l5 z5]) (by simp [results, Tryd.results5, go_sem, k0, k1, k2, k3, k4]) rfl HR.out
        · have hjI : ¬ (j : Int) < (L.length : Int) := by omega
          go_wp2
          rw [← HV.out]
          obtain ⟨⟨k0, k1, k2, k3, k4⟩, _⟩ := rowE HVr.out
          exact bodyPost_ret (v := .agg #[.int .i64 k5, .bool u5, .slice a5 m5 c5, .slice b5 n5 d5, .slice g5 l5 z5]) (by simp [results, Tryd.results5, go_sem, k0, k1, k2, k3, k4]) rfl HR.out
      · obtain ⟨V, hV, hVr, hR⟩ := H2.out hm2
        have hm0 : ¬ ((m : Int) = 0) := by omega
        have hm1 : ¬ ((m : Int) = 1) := by omega
        have HR := hid0 hR
        have HVr := hid0 hVr
        unfold setE at hV
        have HV := hid0 hV
        clear hV hVr hR
        by_cases hA : j < L.length
        · have hjI : (j : Int) < (L.length : Int) := by omega
          have hj3 : ¬ (j : Int) < 3 := by omega
          go_wp2
          rw [← HV.out]
          obtain ⟨⟨k0, k1, k2, k3, k4⟩, _⟩ := rowE HVr.out
          exact bodyPost_ret (v := .agg #[.int .i64 3, .bool false, .slice none 0 0, .slice none 0 0, .slice a6 m c6]) (by simp [results, Tryd.results5, go_sem, k0, k1, k2, k3, k4]) rfl HR.out
        · have hjI : ¬ (j : Int) < (L.length : Int) := by omega
          go_wp2
          rw [← HV.out]
          obtain ⟨⟨k0, k1, k2, k3, k4⟩, _⟩ := rowE HVr.out
          exact bodyPost_ret (v := .agg #[.int .i64 3, .bool false, .slice none 0 0, .slice none 0 0, .slice a6 m c6]) (by simp [results, Tryd.results5, go_sem, k0, k1, k2, k3, k4]) rfl HR.out
end Go.Proofs.YtiapefdklojhdaaDoor
namespace Go.Proofs.YtiapefdklojhdaaDoor
open Go.RowKit Go.Shelf
set_option maxRecDepth 10000 in
set_option maxHeartbeats 3200000 in
theorem tidy_row4 (n : Nat) (hn : n ≤ 4) (k : Int) (nt : Bool) (sN sP : Value) (L : List Ex) (c : Option Addr) (cc : Nat) (vs : Nat → EV) (w : World) (hne : 0 < L.length) (hkt : kindT k = 4) (hL : ∀ i, i < L.length → ∃ g off, c = some ⟨g, off, none⟩ ∧ Five w g (off + i * 5) (vs i)) (hR : ∀ i (h : i < L.length), ExIn w L[i] (vs i)) (ih : ∀ e, TidyP n e) :
    Calls Tryd.prog 5 #[.agg #[.int .i64 k, .bool nt, sN, sP, .slice c L.length cc], .int .i64 ((n + 1 : Nat) : Int)] w fun r w' => ExR w (nodeE 4 (flatT n 4 L 3)) r w' := by
  obtain ⟨W, hW⟩ : ∃ W, (w.alloc (.cells #[.int .i64 k, .bool nt, sN, sP, .slice c L.length cc] 28)).alloc (.cells #[.int .i64 0, .bool false, .slice none 0 0, .slice none 0 0, .slice none 0 0] 28) = W := ⟨_, rfl⟩
  obtain ⟨hr0, hr1, hb, hs⟩ := two_rows w _ _ _ _ _ _ _ _ _ _ _ W hW.symm
  obtain ⟨⟨x0, x1, x2, x3, x4⟩, _⟩ := rowE hr0
  have HR0 := hid0 hr0
  have HR1 := hid0 hr1
  have HB := hid0 hb
  have HS := hid0 hs
  have HL := hid0 hL
  have HRr := hid0 hR
  have HIH := hid0 ih
  clear hL hR ih
  obtain ⟨pk, hpk⟩ : ∃ pk, pk = pickN (IntKind.i64.wrap (k - 1)) 7 := ⟨_, rfl⟩
  obtain ⟨kq, hkq⟩ : ∃ kq, IntKind.i64.wrap (k - 1) = kq := ⟨_, rfl⟩
  have HPk := hid0 (fun V => pick_at kq 7 (by omega) (by omega) V)
  rw [← hkq, ← hpk] at HPk
  rw [hkq] at HPk
  have hpk2 : pk = 3 := by
    have : kindT k = 1 + pk := by rw [hpk]; rfl
    omega
  subst hpk2
  have hmI : ¬ ((L.length : Int) = 0) := by omega
  have hmB : ((L.length : Int) == 0) = false := by simp; intro e; rw [e] at hne; exact absurd hne (by simp)
  have hl0 : ¬ (((n + 1 : Nat) : Int) = 0) := by omega
  have hsub : IntKind.i64.wrap (((n + 1 : Nat) : Int) - 1) = (n : Int) := by simp [IntKind.wrap, IntKind.bits, IntKind.signed]; omega
  generalize ((n + 1 : Nat) : Int) = lv at *
  have hlB : (lv == 0) = false := by simpa using hl0
  have HI0 := hid0 (RowI.first W n 4 L)
  clear hb hs hr0 hr1 hpk hkt hne
  go_enter Tryd.func5, Tryd.ntmps5
  go_wp2_with (first
    | (go_at_call 20; refine (HPk.out _).mono ?_; rintro r w1 ⟨rfl, rfl⟩)
    | fail)
  clear hW x0 x1 x2 x3 x4
  go_loopw [6, 7, 8] (fun v i _ wr => ∃ (j : Nat), j ≤ 3 ∧ i = .int .i64 (j : Int) ∧ Hid (RowI w1 wr n 4 L j v)) (fun _ i _ _ => 3 - (intOf i).toNat)
  case atStart => exact ⟨0, Nat.zero_le _, rfl, HI0⟩
  case round =>
    clear HI0
    obtain ⟨j, hj, rfl, HI⟩ := hrel
    have HRw := hid0 ((HI.out.bel.block w.heap.size (by have := HS.out; omega)).trans HR0.out)
    obtain ⟨⟨x0, x1, x2, x3, x4⟩, _⟩ := rowE HRw.out
    by_cases hlt : j < L.length ∧ j < 3
    · have hjI : (j : Int) < (L.length : Int) := by omega
      have hj3 : (j : Int) < 3 := by omega
      have hjI0 : (0 : Int) ≤ (j : Int) := by omega
      obtain ⟨g, off, rfl, h5⟩ := HL.out j hlt.1
      obtain ⟨y0, y1, y2, y3, y4⟩ := h5.past (Below.later HB.out HI.out.bel |>.mono (Nat.le_refl _))
      have HT := hid0 (HIH.out L[j] wr (vs j) ((HRr.out j hlt.1).past (Below.later HB.out HI.out.bel)))
      have HFl : Hid (flatT n 4 L (j + 1) = flatT n 4 L j ++ gl 4 (tidyE n L[j])) := hid0 (flatT_succ n 4 L j hlt.1)
      have HPt := hid0 (parts_tidy hn L[j])
      have hvs : ∃ aw mw cw, u6 = .slice aw mw cw := by
        obtain ⟨ys, hp⟩ := HI.out.pe
        obtain ⟨aw, cw, e⟩ := hp.form
        exact ⟨aw, _, cw, e⟩
      obtain ⟨aw, mw, cw, rfl⟩ := hvs
      unfold EV.v at HT
      generalize vs j = y at *
      generalize L[j] = p at *
      obtain ⟨yk, yt, yn, yp, yr⟩ := y
      simp only [] at y0 y1 y2 y3 y4 HT
      have hlt2 := hlt.2
      clear h5 hlt
      go_wp2_with (first
        | (go_at_call 5
           refine HT.out.mono ?_
           rintro r w2 hr
           obtain ⟨k5, u5, a5, m5, c5, b5, n5, d5, g5, l5, z5, rfl, q1, q2⟩ := hr.shape
           obtain ⟨w3, hw3⟩ : ∃ w3, w2.alloc (.cells #[.int .i64 k5, .bool u5, .slice a5 m5 c5, .slice b5 n5 d5, .slice g5 l5 z5] 28) = w3 := ⟨_, rfl⟩
           have hb3 : Below w2.heap.size w2 w3 := by rw [← hw3]; exact (Below.refl _ _).alloc (Nat.le_refl _) _
           have hr3 : w3.heap[w2.heap.size]? = some (.cells #[.int .i64 k5, .bool u5, .slice a5 m5 c5, .slice b5 n5 d5, .slice g5 l5 z5] 28 (0, 0)) := by rw [← hw3]; exact heap_alloc_new w2 _
           have HAsk := hid0 (HI.out.ask hn hlt2 HPt.out q1 q2 hb3)
           unfold EV.v at HAsk
           simp only [] at HAsk
           obtain ⟨⟨c0, c1, c2, c3, c4⟩, _⟩ := rowE hr3
           clear hr q1 q2 hb3 hr3)
        | (go_at_call 21
           refine HAsk.out.mono ?_
           rintro r w4 ⟨v', rfl, hp4, hb4⟩
           have HN : Hid (RowI w1 w4 n 4 L (j + 1) v') := hid0 ⟨by rw [HFl.out]; exact hp4, hb4⟩
           clear hp4 hb4)
        | fail)
      go_roundw
      case rel => exact ⟨j + 1, by omega, by go_num, HN⟩
      case measure => simp [intOf]; omega
    · have HI3 : Hid (RowI w1 wr n 4 L 3 u6) := hid0 ⟨by
        have h := HI.out.pe
        have e : L.take j = L.take 3 := by
          rcases Nat.lt_or_ge j 3 with h3 | h3
          · rw [List.take_of_length_le (by omega), List.take_of_length_le (by omega)]
          · rw [show j = 3 by omega]
        unfold flatT at h ⊢
        rw [e] at h
        exact h, HI.out.bel⟩
      obtain ⟨hrw, a6, c6, rfl, h0, h1, h2⟩ := HI3.out.done hn HB.out HS.out HR1.out
      obtain ⟨⟨z0, z1, z2, z3, z4⟩, f0, f1, f2, f3, f4⟩ := rowE hrw
      have H0 := hid0 h0
      have H1 := hid0 h1
      have H2 := hid0 h2
      clear h0 h1 h2 hrw HI
      generalize hm : (flatT n 4 L 3).length = m at *
      clear hm
      rcases (show m = 0 ∨ m = 1 ∨ 2 ≤ m by omega) with rfl | rfl | hm2
      · obtain ⟨V, hV, hVr, hR⟩ := H0.out rfl
        have HR := hid0 hR
        have HVr := hid0 hVr
        unfold setE at hV
        have HV := hid0 hV
        clear hV hVr hR
        by_cases hA : j < L.length
        · have hjI : (j : Int) < (L.length : Int) := by omega
          have hj3 : ¬ (j : Int) < 3 := by omega
          go_wp2
          rw [← HV.out]
          obtain ⟨⟨k0, k1, k2, k3, k4⟩, _⟩ := rowE HVr.out
          exact bodyPost_ret (v := .agg #[.int .i64 1, .bool false, .slice none 0 0, .slice none 0 0, .slice none 0 0]) (by simp [results, Tryd.results5, go_sem, k0, k1, k2, k3, k4]) rfl HR.out
        · have hjI : ¬ (j : Int) < (L.length : Int) := by omega
          go_wp2
          rw [← HV.out]
          obtain ⟨⟨k0, k1, k2, k3, k4⟩, _⟩ := rowE HVr.out
          exact bodyPost_ret (v := .agg #[.int .i64 1, .bool false, .slice none 0 0, .slice none 0 0, .slice none 0 0]) (by simp [results, Tryd.results5, go_sem, k0, k1, k2, k3, k4]) rfl HR.out
      · obtain ⟨g, k5, u5, a5, m5, c5, b5, n5, d5, g5, l5, z5, rfl, h5, V, hV, hVr, hR⟩ := H1.out rfl
        obtain ⟨q0, q1, q2, q3, q4⟩ := h5
        simp only [Nat.zero_add] at q0 q1 q2 q3 q4
        have HR := hid0 hR
        have HVr := hid0 hVr
        unfold setE at hV
        have HV := hid0 hV
        clear hV hVr hR
        by_cases hA : j < L.length
        · have hjI : (j : Int) < (L.length : Int) := by omega
          have hj3 : ¬ (j : Int) < 3 := by omega
          go_wp2
          rw [← HV.out]
          obtain ⟨⟨k0, k1, k2, k3, k4⟩, _⟩ := rowE HVr.out
          exact bodyPost_ret (v := .agg #[.int .i64 k5, .bool u5, .slice a5 m5 c5, .slice b5 n5 d5, .slice g5 l5 z5]) (by simp [results, Tryd.results5, go_sem, k0, k1, k2, k3, k4]) rfl HR.out
        · have hjI : ¬ (j : Int) < (L.length : Int) := by omega
          go_wp2
          rw [← HV.out]
          obtain ⟨⟨k0, k1, k2, k3, k4⟩, _⟩ := rowE HVr.out
          exact bodyPost_ret (v := .agg #[.int .i64 k5, .bool u5, .slice a5 m5 c5, .slice b5 n5 d5, .slice g5 l5 z5]) (by simp [results, Tryd.results5, go_sem, k0, k1, k2, k3, k4]) rfl HR.out
      · obtain ⟨V, hV, hVr, hR⟩ := H2.out hm2
        have hm0 : ¬ ((m : Int) = 0) := by omega
        have hm1 : ¬ ((m : Int) = 1) := by omega
        have HR := hid0 hR
        have HVr := hid0 hVr
        unfold setE at hV
        have HV := hid0 hV
        clear hV hVr hR
        by_cases hA : j < L.length
        · have hjI : (j : Int) < (L.length : Int) := by omega
          have hj3 : ¬ (j : Int) < 3 := by omega
          go_wp2
          rw [← HV.out]
          obtain ⟨⟨k0, k1, k2, k3, k4⟩, _⟩ := rowE HVr.out
          exact bodyPost_ret (v := .agg #[.int .i64 4, .bool false, .slice none 0 0, .slice none 0 0, .slice a6 m c6]) (by simp [results, Tryd.results5, go_sem, k0, k1, k2, k3, k4]) rfl HR.out
        · have hjI : ¬ (j : Int) < (L.length : Int) := by omega
          go_wp2
          rw [← HV.out]
          obtain ⟨⟨k0, k1, k2, k3, k4⟩, _⟩ := rowE HVr.out
          exact bodyPost_ret (v := .agg #[.int .i64 4, .bool false, .slice none 0 0, .slice none 0 0, .slice a6 m c6]) (by simp [results, Tryd.results5, go_sem, k0, k1, k2, k3, k4]) rfl HR.out
end Go.Proofs.YtiapefdklojhdaaDoor
namespace Go.Proofs.YtiapefdklojhdaaDoor
open Go.RowKit Go.Shelf
theorem tidy_any : ∀ (n : Nat), n ≤ 4 → ∀ e, TidyP n e
  | 0, _ => fun e W y h => by
    obtain ⟨k, nt, N, P, L⟩ := e
    obtain ⟨a, ca, b, cb, c, cc, rfl, hN, hP, _⟩ := h.shape
    exact tidy_leaf 0 k nt N P L.length a b c ca cb cc W hN hP (.inr rfl)
  | n + 1, hn => fun e W y h => by
    obtain ⟨k, nt, N, P, L⟩ := e
    obtain ⟨a, ca, b, cb, c, cc, rfl, hN, hP, vs, hL, hR⟩ := h.shape
    obtain rfl | ⟨p, M, rfl⟩ : L = [] ∨ ∃ p M, L = p :: M := by
      cases L with
      | nil => exact .inl rfl
      | cons p M => exact .inr ⟨p, M, rfl⟩
    · exact tidy_leaf (n + 1) k nt N P 0 a b c ca cb cc W hN hP (.inl rfl)
    · have ih := tidy_any n (by omega)
      by_cases h34 : kindT k = 3 ∨ kindT k = 4
      · have e : tidyE (n + 1) (.mk k nt N P (p :: M)) = nodeE (kindT k) (flatT n (kindT k) (p :: M) 3) := by
          unfold flatT
          rw [tidyE, if_pos h34]
        rw [e]
        rcases h34 with h | h
        · have h2 := tidy_row3 n (by omega) k nt (.slice a N.length ca) (.slice b P.length cb) (p :: M) c cc vs W (by simp) h hL hR ih
          rw [h]
          exact h2
        · have h2 := tidy_row4 n (by omega) k nt (.slice a N.length ca) (.slice b P.length cb) (p :: M) c cc vs W (by simp) h hL hR ih
          rw [h]
          exact h2
      · have e : tidyE (n + 1) (.mk k nt N P (p :: M)) = .mk (oneK (kindT k)) false [] [] [tidyE n p] := by
          rw [tidyE, if_neg h34]
        rw [e]
        obtain ⟨g, off, rfl, h5⟩ := hL 0 (by simp)
        exact tidy_one n (by omega) k nt (.slice a N.length ca) (.slice b P.length cb) g off (p :: M).length cc p (vs 0) W (by simp) h34 (by simpa using h5) (hR 0 (by simp)) (ih p)
end Go.Proofs.YtiapefdklojhdaaDoor
namespace Go.Proofs
open Go.Shelf
def Tryd.containsR_ren : Go.Shelf.Ren := ⟨fun | 8 => 34 | 6 => 57 | n => n, fun | 22 => 23 | 23 => 57 | 25 => 68 | 4 => 4 | 3 => 3 | 0 => 0 | n => n, fun | n => n⟩
theorem Tryd.containsR : Go.Proofs.SlLaysH0.n8 Tryd.prog Tryd.containsR_ren := {
  mixed := by kernel_rfl
  f6 := ⟨Tryd.f57.name, by decide, Tryd.func57.trans (congrArg some (by kernel_rfl))⟩
  f8 := ⟨Tryd.f34.name, by decide, Tryd.func34.trans (congrArg some (by kernel_rfl))⟩
  t0 := Tryd.underlying0
  a0 := Tryd.isAgg0
  z0 := Tryd.sizeOf0
  v0 := Tryd.zeroValue0
  t3 := Tryd.underlying3
  a3 := Tryd.isAgg3
  z3 := Tryd.sizeOf3
  v3 := Tryd.zeroValue3
  t4 := Tryd.underlying4
  a4 := Tryd.isAgg4
  z4 := Tryd.sizeOf4
  v4 := Tryd.zeroValue4
  t22 := Tryd.underlying23
  a22 := Tryd.isAgg23
  z22 := Tryd.sizeOf23
  v22 := Tryd.zeroValue23
  t25 := Tryd.underlying68
  a25 := Tryd.isAgg68
  z25 := Tryd.sizeOf68
  v25 := Tryd.zeroValue68 }
end Go.Proofs
namespace Go.Proofs.YtiapefdklojhdaaDoor
open Go.RowKit Go.Shelf
def encR (x : Int × Int) : List Value := [.int .i64 x.1, .int .i64 x.2]
theorem pred_holds (n : Int) (B : Nat) (w : World) (hB : B < w.heap.size) (hcell : w.cell? ⟨B, 1, none⟩ = some (.int .i64 n)) :
    PredBelow Tryd.prog 32 #[.pointer (some ⟨B, 0, none⟩)] (fun x => .agg (encR x).toArray) (fun x => decide (x.1 ≤ n) && decide (n ≤ x.2)) w := fun W x hb => by
  have hc : W.cell? ⟨B, 1, none⟩ = some (.int .i64 n) := (hb.cell (p := ⟨B, 1, none⟩) hB).trans hcell
  have hBW : B < W.heap.size := Nat.lt_of_lt_of_le hB hb.size
  have hne : B ≠ W.heap.size := by omega
  obtain ⟨lo, hi⟩ := x
  show Calls Tryd.prog 32 #[.agg #[.int .i64 lo, .int .i64 hi], .pointer (some ⟨B, 0, none⟩)] W _
  by_cases h1 : lo ≤ n
  · by_cases h2 : n ≤ hi
    · go_enter Tryd.func32, Tryd.ntmps32
      go_wp2
      go_ret
      exact ⟨by simp [h1, h2], hb.alloc hb.size _⟩
    · go_enter Tryd.func32, Tryd.ntmps32
      go_wp2
      go_ret
      exact ⟨by simp [h2], hb.alloc hb.size _⟩
  · go_enter Tryd.func32, Tryd.ntmps32
    go_wp2
    go_ret
    exact ⟨by simp; omega, hb.alloc hb.size _⟩
set_option maxRecDepth 10000 in
theorem within_nil (b : Option Addr) (cb : Nat) (f : Value) (w : World) : Calls Tryd.prog 34 #[.slice b 0 cb, f] w fun e w' => e = .returned (.bool false) ∧ w' = w := by
  go_enter Tryd.func34, Tryd.ntmps34
  go_wp2
  go_rounds 1
  go_ret
  exact ⟨rfl, rfl⟩
set_option maxRecDepth 10000 in
set_option maxHeartbeats 800000 in
/-- ContainsFunc of the ranges by the set's closure, the kind lying in the block B. -/
theorem within_any (R : List (Int × Int)) (b : Option Addr) (cb : Nat) (p : Int) (B : Nat) (w : World) (hr : R.length ≤ 8796093022208) (hb : RA w b R) (hB : B < w.heap.size) (hcell : w.cell? ⟨B, 1, none⟩ = some (.int .i64 p)) :
    Calls Tryd.prog 34 #[.slice b R.length cb, .func (.func 32) #[] #[.pointer (some ⟨B, 0, none⟩)]] w fun e w' => e = .returned (.bool (ptF R p)) ∧ Below w.heap.size w w' := by
  cases R with
  | nil => exact (within_nil b cb _ w).mono (fun e w' h => ⟨h.1, by rw [h.2]; exact Below.refl _ _⟩)
  | cons r l =>
    obtain ⟨g, off, rfl, _, _⟩ := hb.at' 0 (by simp)
    have hbl : g < w.heap.size := by
      obtain ⟨b', off', he, h1, _⟩ := hb.at' 0 (by simp)
      cases he
      exact World.block_lt_of_cell? w _ h1
    have eg : ∀ args w, (callFunc 32 args).run Tryd.prog w = .ok (.enter 32 args) w := enters_of Tryd.func32 (by kernel_rfl) rfl
    have hcon := AnyQ.slices_ContainsFunc Tryd.containsR 2 Tryd.isAgg57 Tryd.sizeOf57 encR (fun _ => rfl) (fun x => decide (x.1 ≤ p) && decide (p ≤ x.2)) 32 #[.pointer (some ⟨B, 0, none⟩)] eg g off (r :: l).length cb (r :: l) w
      (pred_holds p B _ hB hcell) (Nat.le_refl _) (by omega) hbl (fun j hj i v hi => by
        obtain ⟨b', off', he, h0, h1⟩ := hb.at' j hj
        simp only [Option.some.injEq, Addr.mk.injEq, and_true] at he
        obtain ⟨rfl, rfl⟩ := he
        have e : (r :: l)[j]! = (r :: l)[j] := getElem!_pos _ j hj
        rw [e] at hi
        match i, hi with
        | 0, hi => simp only [encR, List.getElem?_cons_zero, Option.some.injEq] at hi; rw [← hi]; exact h0
        | 1, hi => simp only [encR, List.getElem?_cons_succ, List.getElem?_cons_zero, Option.some.injEq] at hi; rw [← hi]; exact h1
        | i + 2, hi => simp [encR] at hi)
    change Calls Tryd.prog 34 _ _ _ at hcon
    rw [List.take_length] at hcon
    exact hcon
set_option maxRecDepth 10000 in
set_option maxHeartbeats 1600000 in
theorem holds_any (nt : Bool) (L : List ByteArray) (R : List (Int × Int)) (a b : Option Addr) (ca cb : Nat) (c : ByteArray) (p : Int) (w : World) (hl : L.length ≤ 8796093022208) (hr : R.length ≤ 8796093022208) (ha : SA w a L) (hb : RA w b R) :
    Calls Tryd.prog 13 #[.agg #[.bool nt, .slice a L.length ca, .slice b R.length cb], .agg #[.string c, .int .i64 p]] w fun e w' => e = .returned (.bool (holdsF nt L R c p)) ∧ Below w.heap.size w w' := by
  obtain ⟨w0, hw0⟩ : ∃ w0, w0 = (w.alloc (.cells #[.bool nt, .slice a L.length ca, .slice b R.length cb] 25)).alloc (.cells #[.string c, .int .i64 p] 46) := ⟨_, rfl⟩
  have hs0 : w0.heap.size = w.heap.size + 2 := by rw [hw0]; simp
  have hB0 : Below w.heap.size w w0 := by rw [hw0]; exact ((Below.refl _ _).alloc (Nat.le_refl _) _).alloc (by simp) _
  have hX0 : w0.heap[w.heap.size]? = some (.cells #[.bool nt, .slice a L.length ca, .slice b R.length cb] 25 (0, 0)) := by
    rw [hw0]
    exact (Below.heap_alloc _ _ _ (by simp)).trans (heap_alloc_new w _)
  have hX1 : w0.heap[w.heap.size + 1]? = some (.cells #[.string c, .int .i64 p] 46 (0, 0)) := by
    rw [hw0]
    have h := heap_alloc_new (w.alloc (.cells #[.bool nt, .slice a L.length ca, .slice b R.length cb] 25)) (.cells #[.string c, .int .i64 p] 46)
    rw [show (w.alloc (.cells #[.bool nt, .slice a L.length ca, .slice b R.length cb] 25)).heap.size = w.heap.size + 1 by simp] at h
    exact h
  have x0 : w0.cell? ⟨w.heap.size, 0, none⟩ = some (.bool nt) := by rw [cell_of_row _ _ _ _ _ _ hX0]; rfl
  have x1 : w0.cell? ⟨w.heap.size, 1, none⟩ = some (.slice a L.length ca) := by rw [cell_of_row _ _ _ _ _ _ hX0]; rfl
  have x2 : w0.cell? ⟨w.heap.size, 2, none⟩ = some (.slice b R.length cb) := by rw [cell_of_row _ _ _ _ _ _ hX0]; rfl
  have x3 : w0.cell? ⟨w.heap.size + 1, 0, none⟩ = some (.string c) := by rw [cell_of_row _ _ _ _ _ _ hX1]; rfl
  have x4 : w0.cell? ⟨w.heap.size + 1, 1, none⟩ = some (.int .i64 p) := by rw [cell_of_row _ _ _ _ _ _ hX1]; rfl
  have HC := hid0 (contains_any L a ca c w0 hl (ha.below hB0))
  have HW : Hid (∀ W, Below w0.heap.size w0 W → Calls Tryd.prog 34 #[.slice b R.length cb, .func (.func 32) #[] #[.pointer (some ⟨w.heap.size + 1, 0, none⟩)]] W fun e w' => e = .returned (.bool (ptF R p)) ∧ Below w0.heap.size w0 w') := hid0 (fun W hW =>
    (within_any R b cb p (w.heap.size + 1) W hr ((hb.below hB0).below hW) (by have := hW.size; omega) ((hW.cell (p := ⟨w.heap.size + 1, 1, none⟩) (by simp; omega)).trans x4)).mono (fun e w' h => ⟨h.1, Below.later hW h.2⟩))
  have HB0 := hid0 hB0
  have HS0 := hid0 hs0
  have HF : Hid (holdsF nt L R c p = (nt != (nmF L c || (!(p == -1) && ptF R p)))) := hid0 rfl
  have HXs : Hid (∀ W, Below w0.heap.size w0 W → W.cell? ⟨w.heap.size, 0, none⟩ = some (.bool nt) ∧ W.cell? ⟨w.heap.size, 2, none⟩ = some (.slice b R.length cb) ∧ W.cell? ⟨w.heap.size + 1, 1, none⟩ = some (.int .i64 p) ∧ Below w0.heap.size w0 W) := hid0 (fun W hW =>
    ⟨(hW.cell (p := ⟨w.heap.size, 0, none⟩) (by simp; omega)).trans x0, (hW.cell (p := ⟨w.heap.size, 2, none⟩) (by simp; omega)).trans x2, (hW.cell (p := ⟨w.heap.size + 1, 1, none⟩) (by simp; omega)).trans x4, hW⟩)
  have hBr := Below.refl w0.heap.size w0
  have hfold := hw0.symm
  clear ha hb hw0 hX0 hX1 hB0 hs0
  generalize nmF L c = t at *
  generalize ptF R p = u at *
  have HD : Hid (∀ n, Below w.heap.size w (w0.drewN n)) := hid0 (fun n => ⟨HB0.out.os, HB0.out.tape, HB0.out.output, HB0.out.size, HB0.out.block⟩)
  cases t with
  | true =>
    cases nt
    all_goals
      go_enter Tryd.func13, Tryd.ntmps13
      go_wp2_with (go_at_call 33; refine HC.out.mono ?_; rintro e w1 ⟨rfl, hw1⟩; have hw1' := hw1.symm; subst hw1')
      go_quiet ((fail))
      go_wp2
      go_ret
      exact ⟨by rw [HF.out]; rfl, HD.out _⟩
  | false =>
    by_cases hp : p = -1
    · subst hp
      cases nt
      all_goals
        go_enter Tryd.func13, Tryd.ntmps13
        go_wp2_with (go_at_call 33; refine HC.out.mono ?_; rintro e w1 ⟨rfl, hw1⟩; have hw1' := hw1.symm; subst hw1')
        go_quiet ((fail))
        go_wp2
        go_ret
        exact ⟨by rw [HF.out]; rfl, HD.out _⟩
    · have hp' : (p != -1) = true := by simpa using hp
      have HP := hid0 hp
      have HQ : Hid ((nt != (false || (!(p == -1) && u))) = (nt != u)) := hid0 (by rw [show (p == -1) = false by simpa using hp]; simp)
      go_enter Tryd.func13, Tryd.ntmps13
      go_wp2_with (go_at_call 33; refine HC.out.mono ?_; rintro e w1 ⟨rfl, hw1⟩; have hw1' := hw1.symm; subst hw1')
      go_region_held3 (fun W => W.cell? ⟨w.heap.size, 0, none⟩ = some (.bool nt) ∧ W.cell? ⟨w.heap.size, 2, none⟩ = some (.slice b R.length cb) ∧ W.cell? ⟨w.heap.size + 1, 1, none⟩ = some (.int .i64 p) ∧ Below w0.heap.size w0 W) (first | exact HXs.out _ (by go_grown) | (go_split_ands; exact HXs.out _ (by go_grown)))
        (first | (go_at_call 34; go_split_ands; refine (HW.out _ (by go_grown)).mono ?_; rintro e w1 ⟨rfl, hb1⟩))
      all_goals
        go_wp2
        go_ret
        go_split_ands
        refine ⟨?_, Below.later HB0.out (by go_grown)⟩
        rw [HF.out, HQ.out]
        cases nt <;> cases u <;> rfl
end Go.Proofs.YtiapefdklojhdaaDoor
namespace Go.Proofs.YtiapefdklojhdaaDoor
open Go.RowKit Go.Shelf
theorem boolX {p q : Bool} (h : p = true ↔ q = true) : p = q := by
  cases p <;> cases q <;> simp_all
/-- Patterns so far: one that takes away units of the set alone, and leaves what is met. -/
noncomputable def wantB (H : Kd → Bool) (e : Ex) (l : List Kd) (j : Nat) : Bool := (List.range j).any fun i => (goneL l (2 * i)).all H && mtB e (leftL l (2 * i))
theorem zero_bits (l : List Kd) : leftL l 0 = l ∧ goneL l 0 = [] := by
  induction l with
  | nil => exact ⟨rfl, rfl⟩
  | cons u l ih =>
    rw [leftL, goneL, if_neg (by decide), if_neg (by decide), Nat.zero_div, ih.1, ih.2]
    exact ⟨rfl, rfl⟩
theorem wantB_one (H : Kd → Bool) (e : Ex) (l : List Kd) : wantB H e l 1 = mtB e l := by
  unfold wantB
  rw [List.range_succ, List.any_append]
  simp [(zero_bits l).1, (zero_bits l).2]
theorem wantB_succ (H : Kd → Bool) (e : Ex) (l : List Kd) (j : Nat) : wantB H e l (j + 1) = (wantB H e l j || ((goneL l (2 * j)).all H && mtB e (leftL l (2 * j)))) := by
  unfold wantB
  rw [List.range_succ, List.any_append]
  simp
theorem eq_skip {d : Nat} {e : Ex} (nt : Bool) (N : List ByteArray) (P : List (Int × Int)) (hm : mayF N P = true) (hl4 : N.length + P.length ≤ 4) (h : WfE d e) (hd : d ≤ 100) (hs : e.size ≤ 900) (l : List Kd) (j : Nat) (h1 : 1 ≤ j) (h2 : 2 ^ l.length ≤ 2 * j) (h3 : j = 1 ∨ 2 * (j - 1) < 2 ^ l.length) :
    mtB (wovE (trailE nt N P) e) l = wantB (hdF nt N P) e l j := boolX (by
  have hw := wov_wf (trail_wf (nt := nt) hm hl4) rfl d e h
  have hz := wov_size (trailE nt N P) (trail_size nt N P) e
  have hok := wf_ok h (by omega) (by omega)
  rw [mtB_iff (wf_ok hw (by omega) (by omega)), mt_wov nt N P h]
  unfold wantB
  rw [List.any_eq_true]
  constructor
  · rintro ⟨v, hv, hsk⟩
    obtain ⟨b, q1, q2, q3, rfl⟩ := (sk_even l v).1 hsk
    refine ⟨b / 2, List.mem_range.2 (by omega), ?_⟩
    rw [show 2 * (b / 2) = b by omega, Bool.and_eq_true, List.all_eq_true, mtB_iff hok]
    exact ⟨q3, hv⟩
  · rintro ⟨i, hi, q⟩
    rw [Bool.and_eq_true, List.all_eq_true, mtB_iff hok] at q
    have hi' := List.mem_range.1 hi
    have hb : 2 * i < 2 ^ l.length := by
      rcases h3 with h3 | h3
      · have : i = 0 := by omega
        subst this
        exact Nat.pow_pos (by decide)
      · omega
    exact ⟨_, q.2, (sk_even l _).2 ⟨2 * i, hb, by omega, q.1, rfl⟩⟩)
def R5' (W : World) (X : Nat) (x : EV) : Prop := W.heap[X]? = some (.cells #[x.k, x.t, x.n, x.p, x.r] 28 (0, 0))
/-- What the law has at hand. -/
structure SW (w0 W : World) (A : Nat → Addr) (e f : Ex) (N : List ByteArray) (P : List (Int × Int)) (l : List Kd) (av ga ha : Option Addr) (Be Bs Bf : Nat) (xe xf : EV) (s0 s1 s2 : Value) : Prop where
  bel : Below w0.heap.size w0 W
  e3 : E3 W A
  ka : KA W W.heap.size av l
  ie : ExIs W (fun _ => True) e xe
  iff : ExIs W (fun _ => True) f xf
  sn : SQ W (fun _ => True) ga N
  sp : RQ W (fun _ => True) ha P
  re : R5' W Be xe
  rs : W.heap[Bs]? = some (.cells #[s0, s1, s2] 25 (0, 0))
  rf : R5' W Bf xf
theorem SW.past {w0 W W' : World} {A : Nat → Addr} {e f : Ex} {N : List ByteArray} {P : List (Int × Int)} {l : List Kd} {av ga ha : Option Addr} {Be Bs Bf : Nat} {xe xf : EV} {s0 s1 s2 : Value} (h : SW w0 W A e f N P l av ga ha Be Bs Bf xe xf s0 s1 s2) (k : Below W.heap.size W W') : SW w0 W' A e f N P l av ga ha Be Bs Bf xe xf s0 s1 s2 :=
  ⟨Below.later h.bel k, h.e3.below k, (h.ka.below k).up k.size, h.ie.past k, h.iff.past k, h.sn.keeps ⟨k.size, fun g o _ hl => k.cell (p := ⟨g, o, none⟩) hl⟩, h.sp.keeps ⟨k.size, fun g o _ hl => k.cell (p := ⟨g, o, none⟩) hl⟩, kept k h.re, kept k h.rs, kept k h.rf⟩
end Go.Proofs.YtiapefdklojhdaaDoor
