/-
  ExUfW, ExUgM, ExUhW, ExUiW, ExUjW, ExToW, ExTpW, ExTgW, ExThW, ExTqW.
-/
import Derived.Test.YtolnoojbcbdfiaaDoorMoe
import Derived.Laws.OwnMore
namespace Go.Proofs.YtolnoojbcbdfiaaDoor
open Go.RowKit Go.Shelf
/-- A copy is stored. -/
theorem copy_done {w W w1 w2 : World} {k : Int} {nt : Bool} {N : List ByteArray} {P : List (Int × Int)} {L : List Ex} {g h : Option Addr} {ce cf : Nat} {v : Value} {xs : List EV} {los his : Nat → Nat} {T : TypeId} {a0 b0 c0 d0 e0 : Value} (bel : Below w.heap.size w W) (hs : W.heap.size = w.heap.size + 2) (hr : W.heap[w.heap.size + 1]? = some (.cells #[a0, b0, c0, d0, e0] T (0, 0)))
    (lN : N.length ≤ 1000000000) (lP : P.length ≤ 1000000000) (lL : L.length ≤ 1000000000) (hN : SQ w1 (fun b => W.heap.size ≤ b) g N) (hP : RQ w1 (fun b => W.heap.size ≤ b) h P) (hb1 : Below W.heap.size W w1) (hp : PR w2 w1.heap.size w2.heap.size v L xs los his) (hb2 : Below w1.heap.size w1 w2) :
    ∃ c cc V, v = .slice c L.length cc ∧ V = setE w2 (w.heap.size + 1) (.int .i64 k) (.bool nt) (.slice g N.length ce) (.slice h P.length cf) (.slice c L.length cc) ∧ V.heap[w.heap.size + 1]? = some (.cells #[.int .i64 k, .bool nt, .slice g N.length ce, .slice h P.length cf, .slice c L.length cc] T (0, 0)) ∧
      (∀ b o, b ≠ w.heap.size + 1 → V.cell? ⟨b, o, none⟩ = w2.cell? ⟨b, o, none⟩) ∧ CopR w (.mk k nt N P L) (.returned (.agg #[.int .i64 k, .bool nt, .slice g N.length ce, .slice h P.length cf, .slice c L.length cc])) V := by
  obtain ⟨c, cc, rfl⟩ := hp.form
  have hbb := Below.later hb1 hb2
  have hr2 := (hbb.block (w.heap.size + 1) (by omega)).trans hr
  have hq : SQ w2 (fun q => W.heap.size ≤ q ∧ q < w1.heap.size) g N := (SQ.keeps (w := w1) (Q := fun q => W.heap.size ≤ q ∧ q < w1.heap.size) ⟨fun k hk => by
    obtain ⟨b, off, e, q1, q2, q3⟩ := hN.at' k hk
    exact ⟨b, off, e, ⟨q1, q2⟩, q2, q3⟩⟩ ⟨hb2.size, fun b o _ hl => hb2.cell (p := ⟨b, o, none⟩) hl⟩)
  have hq2 : RQ w2 (fun q => W.heap.size ≤ q ∧ q < w1.heap.size) h P := (RQ.keeps (w := w1) (Q := fun q => W.heap.size ≤ q ∧ q < w1.heap.size) ⟨fun k hk => by
    obtain ⟨b, off, e, q1, q2, q3⟩ := hP.at' k hk
    exact ⟨b, off, e, ⟨q1, World.block_lt_of_cell? w1 _ q2⟩, q2, q3⟩⟩ ⟨hb2.size, fun b o _ hl => hb2.cell (p := ⟨b, o, none⟩) hl⟩)
  have hrv : RvIs w2 W.heap.size w2.heap.size (.mk k nt N P L) ⟨.int .i64 k, .bool nt, .slice g N.length ce, .slice h P.length cf, .slice c L.length cc⟩ := hp.rv hb1.size hb2.size hq hq2 lN lP lL
  have hsz : (setE w2 (w.heap.size + 1) (.int .i64 k) (.bool nt) (.slice g N.length ce) (.slice h P.length cf) (.slice c L.length cc)).heap.size = w2.heap.size := setE_size _ _ _ _ _ _ _
  refine ⟨c, cc, _, rfl, rfl, setE_row hr2 _ _ _ _ _, fun b o hne => World.cell?_of_block (w := w2) (a := ⟨b, o, none⟩) (setE_other hne _ _ _ _ _), ⟨.int .i64 k, .bool nt, .slice g N.length ce, .slice h P.length cf, .slice c L.length cc⟩, rfl, ?_, setE_below (Below.later bel hbb) (Nat.le_succ _) _ _ _ _ _⟩
  rw [hsz]
  exact (hrv.keeps (by rw [hsz]; exact Nat.le_refl _) (fun b q1 _ _ => setE_other (by omega) _ _ _ _ _)).mono (by omega) (Nat.le_refl _)
set_option maxRecDepth 10000 in
set_option maxHeartbeats 1600000 in
theorem copied_node (k : Int) (nt : Bool) (N : List ByteArray) (P : List (Int × Int)) (L : List Ex) (a b c : Option Addr) (ca cb cc : Nat) (vs : Nat → EV) (w : World) (hsm : ∀ s, s ∈ N → s.size ≤ 1000) (hN : SA w a N) (hP : RA w b P) (lN : N.length ≤ 1000000000) (lP : P.length ≤ 1000000000) (lL : L.length ≤ 1000000000)
    (hL : ∀ i, i < L.length → ∃ g off, c = some ⟨g, off, none⟩ ∧ Five w g (off + i * 5) (vs i)) (hF : ∀ i, i < L.length → ∃ k t a m c b n d g l z, vs i = ⟨.int .i64 k, .bool t, .slice a m c, .slice b n d, .slice g l z⟩)
    (ih : ∀ i (h : i < L.length) (W : World), Below w.heap.size w W → Calls Tryd.prog 25 #[(vs i).v] W fun r w' => CopR W L[i] r w') :
    Calls Tryd.prog 25 #[.agg #[.int .i64 k, .bool nt, .slice a N.length ca, .slice b P.length cb, .slice c L.length cc]] w fun r w' => CopR w (.mk k nt N P L) r w' := by
  have HSet := hid0 (fun (V : World) (hV : Below w.heap.size w V) => copiedSet_any nt N P a b ca cb V lN hsm lP (hN.below hV) (hP.below hV))
  have HEa := hid0 (fun (V : World) (hV : Below w.heap.size w V) => eachE_any L c cc vs V lL (fun i hi => by
    obtain ⟨g, off, e, h5⟩ := hL i hi
    exact ⟨g, off, e, h5.past hV⟩) hF (fun i h W hW => ih i h W (Below.later hV hW)))
  obtain ⟨W, hW⟩ : ∃ W, (w.alloc (.cells #[.int .i64 k, .bool nt, .slice a N.length ca, .slice b P.length cb, .slice c L.length cc] 28)).alloc (.cells #[.int .i64 0, .bool false, .slice none 0 0, .slice none 0 0, .slice none 0 0] 28) = W := ⟨_, rfl⟩
  obtain ⟨hr0, hr1, hb, hs⟩ := two_rows w _ _ _ _ _ _ _ _ _ _ _ W hW.symm
  have HR1 := hid0 hr1
  have HB := hid0 hb
  have HS := hid0 hs
  have HSk : Hid (∀ V, Below W.heap.size W V → V.cell? ⟨w.heap.size, 0, none⟩ = some (.int .i64 k) ∧ V.cell? ⟨w.heap.size, 1, none⟩ = some (.bool nt) ∧ V.cell? ⟨w.heap.size, 2, none⟩ = some (.slice a N.length ca) ∧ V.cell? ⟨w.heap.size, 3, none⟩ = some (.slice b P.length cb) ∧ V.cell? ⟨w.heap.size, 4, none⟩ = some (.slice c L.length cc)) := hid0 (fun V hV => (rowE (kept hV hr0)).1)
  have HBd := hid0 (Below.refl W.heap.size W).drew
  have hs0 := HSk.out _ HBd.out
  clear hr0 hr1 hb hs hN hP hL hF ih hsm
  go_enter Tryd.func25, Tryd.ntmps25
  go_wp2
  refine wp_region_noPanic ?_
  refine wp_region_held_drew (S := (fun V => V.cell? ⟨w.heap.size, 0, none⟩ = some (.int .i64 k) ∧ V.cell? ⟨w.heap.size, 1, none⟩ = some (.bool nt) ∧ V.cell? ⟨w.heap.size, 2, none⟩ = some (.slice a N.length ca) ∧ V.cell? ⟨w.heap.size, 3, none⟩ = some (.slice b P.length cb) ∧ V.cell? ⟨w.heap.size, 4, none⟩ = some (.slice c L.length cc))) (by kernel_rfl) ?_ (fun hHeld => ?_)
  · exact hs0
  refine tkV (i := 0) (d := some 3) (v := ?_) rfl (by kernel_rfl) (by kernel_rfl) (by kernel_rfl) rfl (fun _ _ _ h => h) (by rfl) ?_ (by assumption) ?_
  rotate_left
  · (intro w hSw; (try dsimp only at hSw); (try simp only [List.getElem_toArray, List.getElem_cons_zero]); go_simp; try with_reducible rfl)
  try simp only [Act.put, List.setIfInBounds_toArray, List.set_cons_zero, List.set_cons_succ]
  refine tkV (i := 1) (d := some 4) (v := ?_) rfl (by kernel_rfl) (by kernel_rfl) (by kernel_rfl) rfl (fun _ _ _ h => h) (by rfl) ?_ (by assumption) ?_
  rotate_left
  · (intro w hSw; (try dsimp only at hSw); (try simp only [List.getElem_toArray, List.getElem_cons_zero, List.getElem_cons_succ]); go_simp; try with_reducible rfl)
  try simp only [Act.put, List.setIfInBounds_toArray, List.set_cons_zero, List.set_cons_succ]
  refine tkV (i := 2) (d := some 5) (v := ?_) rfl (by kernel_rfl) (by kernel_rfl) (by kernel_rfl) rfl (fun _ _ _ h => h) (by rfl) ?_ (by assumption) ?_
  rotate_left
  · (intro w hSw; (try dsimp only at hSw); (try simp only [List.getElem_toArray, List.getElem_cons_zero, List.getElem_cons_succ]); go_simp; try with_reducible rfl)
  try simp only [Act.put, List.setIfInBounds_toArray, List.set_cons_zero, List.set_cons_succ]
  refine tkV (i := 3) (d := some 6) (v := ?_) rfl (by kernel_rfl) (by kernel_rfl) (by kernel_rfl) rfl (fun _ _ _ h => h) (by rfl) ?_ (by assumption) ?_
  rotate_left
  · (intro w hSw; (try dsimp only at hSw); (try simp only [List.getElem_toArray, List.getElem_cons_zero, List.getElem_cons_succ]); go_simp; try with_reducible rfl)
  try simp only [Act.put, List.setIfInBounds_toArray, List.set_cons_zero, List.set_cons_succ]
  refine tkV (i := 5) (d := some 8) (v := ?_) rfl (by kernel_rfl) (by kernel_rfl) (by kernel_rfl) rfl (fun _ _ _ h => h) (by rfl) ?_ (by assumption) ?_
  rotate_left
  · (intro w hSw; (try dsimp only at hSw); (try simp only [List.getElem_toArray, List.getElem_cons_zero, List.getElem_cons_succ]); go_simp; try with_reducible rfl)
  try simp only [Act.put, List.setIfInBounds_toArray, List.set_cons_zero, List.set_cons_succ]
  refine tkV (i := 6) (d := some 9) (v := ?_) rfl (by kernel_rfl) (by kernel_rfl) (by kernel_rfl) rfl (fun _ _ _ h => h) (by rfl) ?_ (by assumption) ?_
  rotate_left
  · (intro w hSw; (try dsimp only at hSw); (try simp only [List.getElem_toArray, List.getElem_cons_zero, List.getElem_cons_succ]); go_simp; try with_reducible rfl)
  try simp only [Act.put, List.setIfInBounds_toArray, List.set_cons_zero, List.set_cons_succ]
  refine wpAnyH_ready (rs := [4]) (by kernel_rfl) (by simp) (AllReadyH.cons rfl (fun K hK => ?_) AllReadyH.nil)
  try simp only [List.getElem_toArray, List.getElem_cons_zero, List.getElem_cons_succ]
  go_simp
  refine (HSet.out _ (Below.later HB.out HBd.out)).mono ?_
  rintro r w1 ⟨g, ce, h, cf, rfl, q1, q2, q3⟩
  have HB1 := hid0 (Below.later HBd.out q3)
  have hs1 := HSk.out _ HB1.out
  have HQ1 := hid0 q1
  have HQ2 := hid0 q2
  clear q1 q2 q3
  go_wp2_with fail
  refine hK.out _ _ ?_ (fun hHeld4 => ?_)
  · exact hs1
  clear hK K
  (try simp only [Act.put]); (try simp only [List.setIfInBounds_toArray]); (try simp only [List.set_cons_succ]); (try simp only [List.set_cons_zero])
  refine wpAnyH_ready (rs := [7]) (by kernel_rfl) (by simp) (AllReadyH.cons rfl (fun K hK => ?_) AllReadyH.nil)
  try simp only [List.getElem_toArray, List.getElem_cons_zero, List.getElem_cons_succ]
  go_simp
  refine (HEa.out _ (Below.later HB.out HB1.out)).mono ?_
  rintro r w2 ⟨v2, xs, los, his, rfl, q1, q2⟩
  have hs2 := HSk.out _ (Below.later HB1.out q2)
  obtain ⟨c6, cc6, V, hv, hV, hVr, hVo, hR⟩ := copy_done (k := k) (nt := nt) (ce := ce) (cf := cf) HB.out HS.out HR1.out lN lP lL HQ1.out HQ2.out HB1.out q1 q2
  subst hv
  have HR := hid0 hR
  have HVr := hid0 hVr
  obtain ⟨⟨z0, z1, z2, z3, z4⟩, f0, f1, f2, f3, f4⟩ := rowE (((Below.later HB1.out q2).block _ (by have := HS.out; omega)).trans HR1.out)
  have HSz : Hid (V.cell? ⟨w.heap.size, 0, none⟩ = some (.int .i64 k) ∧ V.cell? ⟨w.heap.size, 1, none⟩ = some (.bool nt) ∧ V.cell? ⟨w.heap.size, 2, none⟩ = some (.slice a N.length ca) ∧ V.cell? ⟨w.heap.size, 3, none⟩ = some (.slice b P.length cb) ∧ V.cell? ⟨w.heap.size, 4, none⟩ = some (.slice c L.length cc)) := hid0 ⟨(hVo _ _ (by omega)).trans hs2.1, (hVo _ _ (by omega)).trans hs2.2.1, (hVo _ _ (by omega)).trans hs2.2.2.1, (hVo _ _ (by omega)).trans hs2.2.2.2.1, (hVo _ _ (by omega)).trans hs2.2.2.2.2⟩
  unfold setE at hV
  have HV := hid0 hV
  rw [HV.out] at HSz
  clear hV hVr hVo hR q1 q2
  go_wp2_with fail
  refine hK.out _ _ ?_ (fun hHeld7 => ?_)
  · exact hs2
  clear hK K
  (try simp only [Act.put]); (try simp only [List.setIfInBounds_toArray]); (try simp only [List.set_cons_succ]); (try simp only [List.set_cons_zero])
  refine tkV (i := 8) (d := some 11) (v := ?_) rfl (by kernel_rfl) (by kernel_rfl) (by kernel_rfl) rfl (fun _ _ _ h => h) (by rfl) ?_ (by assumption) ?_
  rotate_left
  · (intro w hSw; (try dsimp only at hSw); (try simp only [List.getElem_toArray, List.getElem_cons_zero, List.getElem_cons_succ]); go_simp; try with_reducible rfl)
  try simp only [Act.put, List.setIfInBounds_toArray, List.set_cons_zero, List.set_cons_succ]
  refine wpAnyH_ready (rs := [9]) (by kernel_rfl) (by simp) (AllReadyH.cons rfl (fun K hK => ?_) AllReadyH.nil)
  try simp only [List.getElem_toArray, List.getElem_cons_zero, List.getElem_cons_succ]
  go_simp
  refine hK.out _ _ ?_ (fun hHeld9 => ?_)
  · exact HSz.out
  clear hK K
  (try simp only [Act.put]); (try simp only [List.setIfInBounds_toArray]); (try simp only [List.set_cons_succ]); (try simp only [List.set_cons_zero])
  refine wpAnyH_done (by kernel_rfl) ?_ _
  refine NoPanic.normal ?_
  go_wp2
  rw [← HV.out]
  obtain ⟨⟨k0, k1, k2, k3, k4⟩, _⟩ := rowE HVr.out
  exact bodyPost_ret (v := .agg #[.int .i64 k, .bool nt, .slice g N.length ce, .slice h P.length cf, .slice c6 L.length cc6]) (by simp [results, Tryd.results25, go_sem, k0, k1, k2, k3, k4]) rfl HR.out
theorem copied_any {w : World} {Q : Nat → Prop} {e : Ex} {x : EV} (h : ExIs w Q e x) : SmallN e → ∀ W, Below w.heap.size w W → Calls Tryd.prog 25 #[x.v] W fun r w' => CopR W e r w' := by
  induction h with
  | mk k nt N P L a ca b cb c cc vs hN hP lN lP lL hL hR ih =>
    intro hs W hW
    obtain ⟨s1, s2⟩ := hs.inv
    exact copied_node k nt N P L a b c ca cb cc vs W s1 (hN.sa.below hW) (hP.ra.below hW) lN lP lL (fun i hi => by
      obtain ⟨g, off, e, _, h5⟩ := hL i hi
      exact ⟨g, off, e, h5.past hW⟩) (fun i hi => (hR i hi).flat) (fun i hi V hV => ih i hi (s2 _ (List.getElem_mem hi)) V (Below.later hW hV))
end Go.Proofs.YtolnoojbcbdfiaaDoor
namespace Go.Proofs.YtolnoojbcbdfiaaDoor
open Go.RowKit Go.Shelf
theorem flat_len (xs : List EV) : (xs.flatMap evC).length = xs.length * 5 := by
  induction xs with
  | nil => rfl
  | cons x xs ih => rw [List.flatMap_cons, List.length_append, ih, List.length_cons]; simp [evC]; omega
/-- Five cells of a row are written over. -/
theorem flat_set (xs : List EV) : ∀ (i : Nat) (x : EV), i < xs.length → ((((((xs.flatMap evC).set (i * 5) x.k).set (i * 5 + 1) x.t).set (i * 5 + 2) x.n).set (i * 5 + 3) x.p).set (i * 5 + 4) x.r) = (xs.set i x).flatMap evC := by
  induction xs with
  | nil => intro i x h; exact absurd h (Nat.not_lt_zero _)
  | cons y xs ih =>
    intro i x h
    cases i with
    | zero => rfl
    | succ i =>
      have hl : (evC y).length = 5 := rfl
      rw [List.flatMap_cons, List.set_cons_succ, List.flatMap_cons, ← ih i x (by simpa using h)]
      rw [show (i + 1) * 5 = (evC y).length + i * 5 by rw [hl]; omega]
      simp only [Nat.add_assoc]
      have h2 : ∀ (l : List Value) (k : Nat) (v : Value), (evC y ++ l).set ((evC y).length + k) v = evC y ++ l.set k v := fun l k v => by
        rw [List.set_append_right _ _ (Nat.le_add_right _ _), Nat.add_sub_cancel_left]
      rw [h2, h2, h2, h2, h2]
/-- An element is written over. -/
def setAt (W : World) (g o : Nat) (x : EV) : World := ((((W.setCell ⟨g, o, none⟩ x.k).setCell ⟨g, o + 1, none⟩ x.t).setCell ⟨g, o + 2, none⟩ x.n).setCell ⟨g, o + 3, none⟩ x.p).setCell ⟨g, o + 4, none⟩ x.r
theorem own_setAt {w : World} {m g n c : Nat} {xs : List EV} (h : w.ownsRow m 28 5 (.slice (some ⟨g, 0, none⟩) n c) n (xs.flatMap evC)) (i : Nat) (hi : i < xs.length) (x : EV) : (setAt w g (i * 5) x).ownsRow m 28 5 (.slice (some ⟨g, 0, none⟩) n c) n ((xs.set i x).flatMap evC) ∧ w.grownBy (setAt w g (i * 5) x) (some g) := by
  have h1 := World.ownsRow.stored h (i * 5) x.k
  have h2 := World.ownsRow.stored h1.1 (i * 5 + 1) x.t
  have h3 := World.ownsRow.stored h2.1 (i * 5 + 2) x.n
  have h4 := World.ownsRow.stored h3.1 (i * 5 + 3) x.p
  have h5 := World.ownsRow.stored h4.1 (i * 5 + 4) x.r
  refine ⟨by rw [← flat_set xs i x hi]; exact h5.1, ?_⟩
  exact grown_trans (grown_trans (grown_trans (grown_trans h1.2 h2.2 (fun q e => .inl e)) h3.2 (fun q e => .inl e)) h4.2 (fun q e => .inl e)) h5.2 (fun q e => .inl e)
/-- A list whose first so many places, and last so many, are turned. -/
structure RevTo (xs ys : List EV) (i : Nat) : Prop where
  len : ys.length = xs.length
  at' : ∀ k, k < xs.length → ys[k]? = if k < i ∨ xs.length - i ≤ k then xs[xs.length - 1 - k]? else xs[k]?
theorem RevTo.first (xs : List EV) : RevTo xs xs 0 := ⟨rfl, fun k hk => by rw [if_neg (by omega)]⟩
theorem RevTo.step {xs ys : List EV} {i j : Nat} (h : RevTo xs ys i) (hj : j = xs.length - 1 - i) (hij : i < j) (hi' : i < ys.length) (hj' : j < ys.length) : RevTo xs ((ys.set i ys[j]).set j ys[i]) (i + 1) := by
  have hl := h.len
  have ai := h.at' i (by omega)
  have aj := h.at' j (by omega)
  rw [if_neg (by omega)] at ai aj
  refine ⟨by simp [hl], fun k hk => ?_⟩
  rw [List.getElem?_set]
  by_cases hkj : j = k
  · subst hkj
    rw [if_pos rfl, if_pos (by simp; omega), if_pos (by omega), ← List.getElem?_eq_getElem hi', ai]
    congr 1
    omega
  · rw [if_neg hkj, List.getElem?_set]
    by_cases hki : i = k
    · subst hki
      rw [if_pos rfl, if_pos (by omega), if_pos (by omega), ← List.getElem?_eq_getElem hj', aj]
      congr 1
    · rw [if_neg hki, h.at' k hk]
      by_cases hc : k < i ∨ xs.length - i ≤ k
      · rw [if_pos hc, if_pos (by omega)]
      · rw [if_neg hc, if_neg (by omega)]
theorem RevTo.last {xs ys : List EV} {i : Nat} (h : RevTo xs ys i) (hi : xs.length ≤ 2 * i + 1) : ys = xs.reverse := by
  apply List.ext_getElem?
  intro k
  rcases Nat.lt_or_ge k xs.length with hk | hk
  · rw [h.at' k hk, List.getElem?_reverse hk]
    by_cases hc : k < i ∨ xs.length - i ≤ k
    · rw [if_pos hc]
    · rw [if_neg hc]
      congr 1
      omega
  · rw [List.getElem?_eq_none (by rw [h.len]; exact hk), List.getElem?_eq_none (by simpa using hk)]
/-- Values as a row of expressions has them. -/
def FlatV (x : EV) : Prop := ∃ k t a m c b n d g l z, x = ⟨.int .i64 k, .bool t, .slice a m c, .slice b n d, .slice g l z⟩
theorem RevTo.flat {xs ys : List EV} {i : Nat} (h : RevTo xs ys i) (hf : ∀ x, x ∈ xs → FlatV x) : ∀ k (hk : k < ys.length), FlatV ys[k] := by
  intro k hk
  have hk' : k < xs.length := by rw [← h.len]; exact hk
  have a := h.at' k hk'
  rw [List.getElem?_eq_getElem hk] at a
  split at a
  · exact hf _ (List.mem_of_getElem? a.symm)
  · exact hf _ (List.mem_of_getElem? a.symm)
theorem five_of_own {W : World} {m g n c : Nat} {xs : List EV} (ho : W.ownsRow m 28 5 (.slice (some ⟨g, 0, none⟩) n c) n (xs.flatMap evC)) (hn : xs.length = n) (i : Nat) (hi : i < xs.length) : Five W g (i * 5) xs[i] ∧ (∀ j, W.frozen? ⟨g, j, none⟩ = false) ∧ n ≤ c := by
  have hc : ∀ j, j < 5 → W.cell? ⟨g, i * 5 + j, none⟩ = (evC xs[i])[j]? := fun j hj => by
    have h1 := World.ownsRow.cellAt ho (i * 5 + j) (by have : i * 5 + 5 ≤ n * 5 := by { have := Nat.mul_le_mul_right 5 (Nat.succ_le_of_lt hi); omega }; omega)
    rw [h1, flatE xs i j hi hj]
  refine ⟨⟨hc 0 (by omega), hc 1 (by omega), hc 2 (by omega), hc 3 (by omega), hc 4 (by omega)⟩, fun j => World.ownsRow.frozenAt ho j, ?_⟩
  rcases ho.2 with ⟨e, _⟩ | ⟨g', cap, cur, e, _, _, hnc, _⟩
  · cases e
  · cases e
    exact hnc
end Go.Proofs.YtolnoojbcbdfiaaDoor
namespace Go.Proofs.YtolnoojbcbdfiaaDoor
open Go.RowKit Go.Shelf
set_option maxRecDepth 10000 in
set_option maxHeartbeats 1600000 in
theorem reverse_some (xs : List EV) (g c m : Nat) (w : World) (hl : xs.length ≤ 1000000000) (hf : ∀ x, x ∈ xs → FlatV x) (ho : w.ownsRow m 28 5 (.slice (some ⟨g, 0, none⟩) xs.length c) xs.length (xs.flatMap evC)) :
    Calls Tryd.prog 38 #[.slice (some ⟨g, 0, none⟩) xs.length c] w fun r w' => r = .returned (.tuple #[]) ∧ w'.ownsRow m 28 5 (.slice (some ⟨g, 0, none⟩) xs.length c) xs.length (xs.reverse.flatMap evC) ∧ w.grownBy w' (some g) := by
  obtain ⟨n, hn⟩ : ∃ n, xs.length = n := ⟨_, rfl⟩
  have HO := hid0 ho
  have HF := hid0 hf
  have HN := hid0 hn
  rw [hn] at hl HO ⊢
  clear ho hf hn
  have hsub : IntKind.i64.wrap ((n : Int) - 1) = (n : Int) - 1 := by simp [IntKind.wrap, IntKind.bits, IntKind.signed]; omega
  go_enter Tryd.func38, Tryd.ntmps38
  go_wp2
  go_loopw [2, 3] (fun a b wr => ∃ (i : Nat) (ys : List EV), 2 * i ≤ n ∧ a = .int .i64 (i : Int) ∧ b = .int .i64 ((n : Int) - 1 - (i : Int)) ∧ Hid (RevTo xs ys i) ∧ Hid (wr.ownsRow m 28 5 (.slice (some ⟨g, 0, none⟩) n c) n (ys.flatMap evC)) ∧ Hid (w.grownBy wr (some g))) (fun a _ _ => n - (intOf a).toNat)
  case atStart => exact ⟨0, xs, by omega, rfl, by simp, hid0 (RevTo.first xs), HO, hid0 ⟨rfl, rfl, rfl, Nat.le_refl _, fun _ _ _ => rfl⟩⟩
  case round =>
    obtain ⟨i, ys, hi, rfl, rfl, HR, HOy, HG⟩ := hrel
    by_cases hlt : 2 * i + 1 < n
    · obtain ⟨j, hj⟩ : ∃ j, j = n - 1 - i := ⟨_, rfl⟩
      have hji : ((n : Int) - 1 - (i : Int)) = (j : Int) := by omega
      rw [hji]
      have hij : i < j := by omega
      have hjn : j < n := by omega
      have hyl : ys.length = n := by rw [HR.out.len, HN.out]
      have hI : (i : Int) < (j : Int) := by omega
      have hI0 : (0 : Int) ≤ (i : Int) := by omega
      have hJ0 : (0 : Int) ≤ (j : Int) := by omega
      have hIn : (i : Int) < (n : Int) := by omega
      have hJn : (j : Int) < (n : Int) := by omega
      obtain ⟨⟨p0, p1, p2, p3, p4⟩, hfr, _⟩ := five_of_own HOy.out hyl i (by omega)
      obtain ⟨⟨q0, q1, q2, q3, q4⟩, _, _⟩ := five_of_own HOy.out hyl j (by omega)
      obtain ⟨k1, t1, a1, m1, c1, b1, n1, d1, g1, l1, z1, e1⟩ := HR.out.flat HF.out i (by omega)
      obtain ⟨k2, t2, a2, m2, c2, b2, n2, d2, g2, l2, z2, e2⟩ := HR.out.flat HF.out j (by omega)
      have HSt := hid0 (HR.out.step (j := j) (by rw [HN.out]; exact hj) hij (by omega) (by omega))
      rw [e1] at p0 p1 p2 p3 p4
      rw [e2] at q0 q1 q2 q3 q4
      rw [e1, e2] at HSt
      simp only [] at p0 p1 p2 p3 p4 q0 q1 q2 q3 q4
      have HJ := hid0 hj
      have HYl := hid0 hyl
      have F0 := hfr (i * 5)
      have F1 := hfr (i * 5 + 1)
      have F2 := hfr (i * 5 + 2)
      have F3 := hfr (i * 5 + 3)
      have F4 := hfr (i * 5 + 4)
      have G0 := hfr (j * 5)
      have G1 := hfr (j * 5 + 1)
      have G2 := hfr (j * 5 + 2)
      have G3 := hfr (j * 5 + 3)
      have G4 := hfr (j * 5 + 4)
      have hne : ¬ i * 5 = j * 5 := by omega
      clear hj e1 e2 hji hyl hfr
      have HW1 := hid0 (own_setAt HOy.out i (by have := HYl.out; omega) ⟨.int .i64 k2, .bool t2, .slice a2 m2 c2, .slice b2 n2 d2, .slice g2 l2 z2⟩)
      have HW2 := hid0 (own_setAt HW1.out.1 j (by have := HYl.out; rw [List.length_set]; omega) ⟨.int .i64 k1, .bool t1, .slice a1 m1 c1, .slice b1 n1 d1, .slice g1 l1 z1⟩)
      have HG2 := hid0 (grown_trans (grown_trans HG.out HW1.out.2 (fun q e => .inl e)) HW2.out.2 (fun q e => .inl e))
      have HOw := hid0 HW2.out.1
      unfold setAt at HG2 HOw
      simp only [] at HG2 HOw
      clear HW1 HW2
      go_wp2
      go_region
      generalize (((((((((wr.setCell ⟨g, i * 5, none⟩ (.int .i64 k2)).setCell ⟨g, i * 5 + 1, none⟩ (.bool t2)).setCell ⟨g, i * 5 + 2, none⟩ (.slice a2 m2 c2)).setCell ⟨g, i * 5 + 3, none⟩ (.slice b2 n2 d2)).setCell ⟨g, i * 5 + 4, none⟩ (.slice g2 l2 z2)).setCell ⟨g, j * 5, none⟩ (.int .i64 k1)).setCell ⟨g, j * 5 + 1, none⟩ (.bool t1)).setCell ⟨g, j * 5 + 2, none⟩ (.slice a1 m1 c1)).setCell ⟨g, j * 5 + 3, none⟩ (.slice b1 n1 d1)).setCell ⟨g, j * 5 + 4, none⟩ (.slice g1 l1 z1) = wX at *
      clear p0 p1 p2 p3 p4 q0 q1 q2 q3 q4 F0 F1 F2 F3 F4 G0 G1 G2 G3 G4
      go_wp2
      go_roundw
      case rel => exact ⟨i + 1, _, by omega, by go_num, by have := HJ.out; go_num, HSt, HOw, hid0 ⟨HG2.out.os, HG2.out.tape, HG2.out.output, HG2.out.size, HG2.out.block⟩⟩
      case measure => simp [intOf]; omega
    · have hI : ¬ (i : Int) < (n : Int) - 1 - (i : Int) := by omega
      have HL : Hid (ys = xs.reverse) := hid0 (HR.out.last (by rw [HN.out]; omega))
      go_wp2
      go_end0
      exact ⟨rfl, by rw [← HL.out]; exact HOy.out, HG.out⟩
set_option maxRecDepth 10000 in
set_option maxHeartbeats 800000 in
theorem reverse_none (a : Option Addr) (c : Nat) (w : World) :
    Calls Tryd.prog 38 #[.slice a 0 c] w fun r w' => r = .returned (.tuple #[]) ∧ w' = w := by
  go_enter Tryd.func38, Tryd.ntmps38
  go_wp2
  go_loopw [2, 3] (fun x y wr => x = .int .i64 0 ∧ y = .int .i64 (-1) ∧ wr = w) (fun _ _ _ => 0)
  case atStart => exact ⟨rfl, rfl, rfl⟩
  case round =>
    obtain ⟨rfl, rfl, rfl⟩ := hrel
    go_wp2
    go_end0
    exact ⟨rfl, rfl⟩
/-- slices.Reverse of a list of expressions in memory of its own. -/
theorem reverse_row {w : World} {m hi : Nat} {c : Option Addr} {cc : Nat} {L : List Ex} {xs : List EV} {los his : Nat → Nat} (hp : PR w m hi (.slice c L.length cc) L xs los his) (hl : L.length ≤ 1000000000) :
    Calls Tryd.prog 38 #[.slice c L.length cc] w fun r w' => r = .returned (.tuple #[]) ∧ PR w' m hi (.slice c L.length cc) L.reverse xs.reverse (fun i => los (L.length - 1 - i)) (fun i => his (L.length - 1 - i)) ∧ w.grownBy w' (Value.slice c L.length cc).ownBlock := by
  have hxl := hp.len
  have hf : ∀ x, x ∈ xs → FlatV x := fun x hx => by
    obtain ⟨i, hi', rfl⟩ := List.getElem_of_mem hx
    exact (hp.is i (by omega) hi').flat
  have fin : ∀ w', w'.ownsRow m 28 5 (.slice c L.length cc) L.length (xs.reverse.flatMap evC) → w.grownBy w' (Value.slice c L.length cc).ownBlock → PR w' m hi (.slice c L.length cc) L.reverse xs.reverse (fun i => los (L.length - 1 - i)) (fun i => his (L.length - 1 - i)) := fun w' ho hg => by
    refine ⟨by simp [hxl], by rw [List.length_reverse]; exact ho, fun g e => ⟨(hp.gin g e).1, fun i hi' => ?_⟩, fun i hi' => ?_, fun i j p q hne => ?_, fun i p q => ?_⟩
    · rw [List.length_reverse] at hi'
      exact (hp.gin g e).2 _ (by omega)
    · rw [List.length_reverse] at hi'
      exact hp.pin _ (by omega)
    · rw [List.length_reverse] at p q
      exact hp.dis _ _ (by omega) (by omega) (by omega)
    · rw [List.length_reverse] at p q
      have e1 : L.reverse[i]'(by rw [List.length_reverse]; exact p) = L[L.length - 1 - i]'(by omega) := List.getElem_reverse _
      have e2 : xs.reverse[i]'(by rw [List.length_reverse]; exact q) = xs[L.length - 1 - i]'(by omega) := by rw [List.getElem_reverse]; congr 1; omega
      rw [e1, e2]
      exact (hp.is _ (by omega) (by omega)).keeps hg.size (fun b q1 q2 q3 => hg.block b q3 (fun e => by
        have := (hp.gin b e.symm).2 (L.length - 1 - i) (by omega)
        omega))
  rcases Nat.eq_zero_or_pos L.length with h0 | h0
  · have hL : L = [] := List.length_eq_zero_iff.1 h0
    subst hL
    have hxs : xs = [] := List.length_eq_zero_iff.1 hxl
    subst hxs
    refine (reverse_none c cc w).mono ?_
    rintro r w' ⟨rfl, rfl⟩
    have hg : w'.grownBy w' (Value.slice c (List.length ([] : List Ex)) cc).ownBlock := ⟨rfl, rfl, rfl, Nat.le_refl _, fun _ _ _ => rfl⟩
    exact ⟨rfl, fin w' hp.own hg, hg⟩
  · obtain ⟨g, c', e, _, _⟩ := hp.cells 0 h0 (by omega)
    cases e
    have ho := hp.own
    have h := reverse_some xs g cc m w (by omega) hf (by rw [hxl]; exact ho)
    rw [hxl] at h
    refine h.mono ?_
    rintro r w' ⟨rfl, q1, q2⟩
    exact ⟨rfl, fin w' q1 q2, q2⟩
end Go.Proofs.YtolnoojbcbdfiaaDoor
namespace Go.Proofs.YtolnoojbcbdfiaaDoor
open Go.RowKit Go.Shelf
/-- What is asked of turnRound at a part. -/
def TurnP (e : Ex) : Prop := ∀ (w : World) (lo hi : Nat) (x : EV), RvIs w lo hi e x → hi ≤ w.heap.size → Calls Tryd.prog 26 #[x.v] w fun r w' => r = .returned (.tuple #[]) ∧ RvIs w' lo hi (revE e) x ∧ Only w w' (fun b => lo ≤ b ∧ b < hi)
/-- Parts, the first so many of them turned. -/
def ltF (L : List Ex) (j : Nat) : List Ex := (L.take j).map revE ++ L.drop j
theorem ltF_len (L : List Ex) (j : Nat) : (ltF L j).length = L.length := by
  unfold ltF
  rw [List.length_append, List.length_map, List.length_take, List.length_drop]
  omega
theorem ltF_get (L : List Ex) (j : Nat) (h : j < L.length) : (ltF L j)[j]'(by rw [ltF_len]; exact h) = L[j] := by
  unfold ltF
  rw [List.getElem_append_right (by rw [List.length_map, List.length_take]; omega)]
  simp only [List.getElem_drop]
  congr 1
  rw [List.length_map, List.length_take]
  omega
theorem ltF_set (L : List Ex) (j : Nat) (h : j < L.length) : (ltF L j).set j (revE L[j]) = ltF L (j + 1) := by
  unfold ltF
  have e : L.drop j = L[j] :: L.drop (j + 1) := List.drop_eq_getElem_cons h
  have hl : ((L.take j).map revE).length = j := by rw [List.length_map, List.length_take]; omega
  rw [List.set_append_right _ _ (by omega), hl, Nat.sub_self, e, List.set_cons_zero, List.take_add_one, List.getElem?_eq_getElem h, List.map_append, List.append_assoc]
  rfl
theorem ltF_last (L : List Ex) : ltF L L.length = L.map revE := by
  unfold ltF
  rw [List.take_of_length_le (Nat.le_refl _), List.drop_of_length_le (Nat.le_refl _), List.append_nil]
theorem Only.wide {w w' : World} {S T : Nat → Prop} (h : Only w w' S) (hs : ∀ b, S b → T b) : Only w w' T := ⟨h.os, h.tape, h.output, h.size, fun b hb hn => h.block b hb (fun c => hn (hs b c))⟩
theorem Only.of_below {w w' : World} (h : Below w.heap.size w w') (S : Nat → Prop) : Only w w' S := ⟨h.os, h.tape, h.output, h.size, fun b hb _ => h.block b hb⟩
/-- What stands between the rounds of turnRound. -/
structure TI (W wr : World) (m hi : Nat) (v : Value) (L : List Ex) (xs : List EV) (los his : Nat → Nat) (j : Nat) : Prop where
  pr : PR wr m hi v (ltF L j) xs los his
  on : Only W wr (fun b => m ≤ b ∧ b < hi)
theorem TI.next {W wr w1 w2 : World} {m hi : Nat} {v : Value} {L : List Ex} {xs : List EV} {los his : Nat → Nat} {j : Nat} (h : TI W wr m hi v L xs los his j) (hj : j < L.length) (hx : j < xs.length) (h1 : Below wr.heap.size wr w1) (h2 : Only w1 w2 (fun b => los j ≤ b ∧ b < his j)) (he : RvIs w2 (los j) (his j) (revE L[j]) xs[j]) : TI W w2 m hi v L xs los his (j + 1) := by
  have hj' : j < (ltF L j).length := by rw [ltF_len]; exact hj
  have hp := h.pr.pin j hj'
  have o1 : Only wr w2 (fun b => los j ≤ b ∧ b < his j) := (Only.of_below h1 _).trans h2 (fun i c => .inl c)
  refine ⟨by rw [← ltF_set L j hj]; exact h.pr.set j hj' hx _ o1 he, h.on.trans (o1.wide (T := fun b => m ≤ b ∧ b < hi) (fun b c => ⟨by omega, by omega⟩)) (fun i c => .inl c)⟩
theorem turn_done {w W wr : World} {lo m hi : Nat} {k : Int} {nt : Bool} {N : List ByteArray} {P : List (Int × Int)} {L L2 : List Ex} {a b c : Option Addr} {ca cb cc : Nat} {xs : List EV} {los his : Nat → Nat} (hL2 : L2 = if k = 3 then L.reverse else L) (h : TI W wr m hi (.slice c L.length cc) L2 xs los his L2.length) (h1 : lo ≤ m) (h2 : m ≤ hi) (hN : SQ w (fun q => lo ≤ q ∧ q < m) a N) (hP : RQ w (fun q => lo ≤ q ∧ q < m) b P) (lN : N.length ≤ 1000000000) (lP : P.length ≤ 1000000000) (lL : L.length ≤ 1000000000) (hb : Below w.heap.size w W) :
    RvIs wr lo hi (revE (.mk k nt N P L)) ⟨.int .i64 k, .bool nt, .slice a N.length ca, .slice b P.length cb, .slice c L.length cc⟩ ∧ Only w wr (fun b => lo ≤ b ∧ b < hi) := by
  have o1 : Only w wr (fun b => m ≤ b ∧ b < hi) := (Only.of_below hb _).trans h.on (fun i c => .inl c)
  have hq : Keeps (fun q => lo ≤ q ∧ q < m) w wr := ⟨o1.size, fun g o hg hl => World.cell?_of_block (w := w) (a := ⟨g, o, none⟩) (o1.block g hl (fun c => by omega))⟩
  have hp := h.pr
  rw [ltF_last] at hp
  have e : L2.map revE = if k = 3 then (revL L).reverse else revL L := by
    rw [hL2]
    by_cases hk : k = 3
    · rw [if_pos hk, if_pos hk, List.map_reverse, revL_map]
    · rw [if_neg hk, if_neg hk, revL_map]
  rw [e] at hp
  have el : (if k = 3 then (revL L).reverse else revL L).length = L.length := by
    by_cases hk : k = 3
    · rw [if_pos hk, List.length_reverse, revL_len]
    · rw [if_neg hk, revL_len]
  refine ⟨?_, o1.wide (fun b c => ⟨by omega, c.2⟩)⟩
  rw [revE]
  rw [← el] at hp lL
  have hf := hp.rv (lo := lo) (k := k) (nt := nt) (ca := ca) (cb := cb) h1 h2 (hN.keeps hq) (hP.keeps hq) lN lP lL
  rw [el] at hf
  exact hf
set_option maxRecDepth 10000 in
set_option maxHeartbeats 1600000 in
theorem turn_node (k : Int) (nt : Bool) (N : List ByteArray) (P : List (Int × Int)) (L : List Ex) (ih : ∀ p, p ∈ L → TurnP p) : TurnP (.mk k nt N P L) := by
  intro w lo hi x hx hhi
  obtain ⟨m, a, ca, b, cb, c, cc, xs, los, his, rfl, h1, h2, hN, hP, lN, lP, lL, hp⟩ := hx.shape
  obtain ⟨W, hW⟩ : ∃ W, w.alloc (.cells #[.int .i64 k, .bool nt, .slice a N.length ca, .slice b P.length cb, .slice c L.length cc] 28) = W := ⟨_, rfl⟩
  obtain ⟨hb, hr, hs⟩ := laid hW
  obtain ⟨⟨x0, x1, x2, x3, x4⟩, _⟩ := rowE hr
  have HR := hid0 hr
  have HB := hid0 hb
  have HS := hid0 hs
  have HN := hid0 hN
  have HP := hid0 hP
  have HPr := hid0 (hp.past hb)
  have HIH := hid0 ih
  have HHi := hid0 hhi
  unfold EV.v
  simp only []
  clear hx hb hr hs hN hP hp ih hhi
  by_cases hk : k = 3
  · subst hk
    obtain ⟨L2, hL2⟩ : ∃ L2, L2 = L.reverse := ⟨_, rfl⟩
    have HL2 : Hid (L2 = L.reverse) := hid0 hL2
    have HLn : Hid (L2.length = L.length) := hid0 (by rw [hL2, List.length_reverse])
    have HMem : Hid (∀ p, p ∈ L2 → p ∈ L) := hid0 (fun p hp => by rw [hL2] at hp; exact List.mem_reverse.1 hp)
    have HRev := hid0 (reverse_row HPr.out lL)
    rw [← hL2] at HRev
    obtain ⟨xs2, hx2⟩ : ∃ xs2, xs2 = xs.reverse := ⟨_, rfl⟩
    obtain ⟨los2, hlo2⟩ : ∃ los2, los2 = fun i => los (L.length - 1 - i) := ⟨_, rfl⟩
    obtain ⟨his2, hhi2⟩ : ∃ his2, his2 = fun i => his (L.length - 1 - i) := ⟨_, rfl⟩
    rw [← hx2, ← hlo2, ← hhi2] at HRev
    clear hL2 hx2 hlo2 hhi2
    go_enter Tryd.func26, Tryd.ntmps26
    go_wp2_with (first
      | (go_at_call 38
         refine HRev.out.mono ?_
         rintro r w2 ⟨rfl, q1, q2⟩
         have hon : Only W w2 (fun b => m ≤ b ∧ b < hi) := ⟨q2.os, q2.tape, q2.output, q2.size, fun b' hb' hn' => q2.block b' hb' (fun e => hn' ⟨(World.ownsRow.lt HPr.out.own b' e.symm).1, (HPr.out.gin b' e.symm).1⟩)⟩
         have HT0 : Hid (TI W w2 m hi (.slice c L.length cc) L2 xs2 los2 his2 0) := hid0 ⟨by unfold ltF; rw [List.take_zero, List.map_nil, List.nil_append, List.drop_zero]; exact q1, hon⟩
         obtain ⟨⟨x0', x1', x2', x3', x4'⟩, _⟩ := rowE ((hon.block w.heap.size (by have := HS.out; omega) (fun e => by have := HHi.out; omega)).trans HR.out)
         clear q1 q2 hon)
      | fail)
    clear x0 x1 x2 x3 x4 x0' x1' x2' x3' x4'
    go_loopw [13, 3] (fun i _ wr => ∃ (j : Nat), j ≤ L2.length ∧ i = .int .i64 (j : Int) ∧ Hid (TI W wr m hi (.slice c L.length cc) L2 xs2 los2 his2 j)) (fun i _ _ => L2.length - (intOf i).toNat)
    case atStart => exact ⟨0, Nat.zero_le _, rfl, HT0⟩
    case round =>
      clear HT0
      obtain ⟨j, hj, rfl, HT⟩ := hrel
      by_cases hlt : j < L2.length
      · have hjI : (j : Int) < (L.length : Int) := by have := HLn.out; omega
        have hjI0 : (0 : Int) ≤ (j : Int) := by omega
        have hjx : j < xs2.length := by rw [HT.out.pr.len, ltF_len]; exact hlt
        have hjl : j < (ltF L2 j).length := by rw [ltF_len]; exact hlt
        obtain ⟨g, c', e', _, h5⟩ := HT.out.pr.cells j hjl hjx
        rw [ltF_len, HLn.out] at e'
        cases e'
        obtain ⟨y0, y1, y2, y3, y4⟩ := h5
        have hrv := HT.out.pr.is j hjl hjx
        rw [ltF_get L2 j hlt] at hrv
        obtain ⟨k9, t9, a9, m9, c9, b9, n9, d9, g9, l9, z9, hfl⟩ := hrv.flat
        have hsz : hi ≤ wr.heap.size := Nat.le_trans (Nat.le_trans HHi.out HB.out.size) HT.out.on.size
        obtain ⟨w1, hw1⟩ : ∃ w1, wr.alloc (.cells #[.int .i64 k9, .bool t9, .slice a9 m9 c9, .slice b9 n9 d9, .slice g9 l9 z9] 28) = w1 := ⟨_, rfl⟩
        obtain ⟨hb1, hr1, hs1⟩ := laid hw1
        obtain ⟨⟨c0, c1, c2, c3, c4⟩, _⟩ := rowE hr1
        have HC := hid0 (HIH.out L2[j] (HMem.out _ (List.getElem_mem hlt)) w1 (los2 j) (his2 j) xs2[j] (hrv.past hb1) (by have := (HT.out.pr.pin j hjl).2.2; have := hb1.size; omega))
        have HNx := hid0 (fun (w2 : World) (ho : Only w1 w2 (fun b => los2 j ≤ b ∧ b < his2 j)) (he : RvIs w2 (los2 j) (his2 j) (revE L2[j]) xs2[j]) => HT.out.next hlt hjx hb1 ho he)
        unfold EV.v at HC
        rw [hfl] at y0 y1 y2 y3 y4 HC HNx
        simp only [] at y0 y1 y2 y3 y4 HC
        clear hb1 hr1 hs1 hfl hrv hjl
        go_wp2_with (first
          | (go_at_call 26
             refine HC.out.mono ?_
             rintro r w2 ⟨rfl, q1, q2⟩
             have HT2 := hid0 (HNx.out w2 q2 q1)
             clear q1 q2)
          | fail)
        go_roundw
        case rel => exact ⟨j + 1, by omega, by go_num, HT2⟩
        case measure => simp [intOf]; omega
      · have hjI : ¬ (j : Int) < (L.length : Int) := by have := HLn.out; omega
        obtain rfl : j = L2.length := by omega
        have HD := hid0 (turn_done (k := 3) (nt := nt) (ca := ca) (cb := cb) (by rw [if_pos rfl]; exact HL2.out) HT.out h1 h2 HN.out HP.out lN lP lL HB.out)
        go_wp2
        go_end0
        exact ⟨rfl, HD.out⟩
  · have hkB : (k == 3) = false := by simpa using hk
    obtain ⟨L2, hL2⟩ : ∃ L2, L2 = L := ⟨_, rfl⟩
    have HL2 : Hid (L2 = L) := hid0 hL2
    have HLn : Hid (L2.length = L.length) := hid0 (by rw [hL2])
    have HMem : Hid (∀ p, p ∈ L2 → p ∈ L) := hid0 (fun p hp => by rw [hL2] at hp; exact hp)
    obtain ⟨xs2, hx2⟩ : ∃ xs2, xs2 = xs := ⟨_, rfl⟩
    obtain ⟨los2, hlo2⟩ : ∃ los2, los2 = los := ⟨_, rfl⟩
    obtain ⟨his2, hhi2⟩ : ∃ his2, his2 = his := ⟨_, rfl⟩
    have HT0 : Hid (TI W W m hi (.slice c L.length cc) L2 xs2 los2 his2 0) := hid0 ⟨by unfold ltF; rw [List.take_zero, List.map_nil, List.nil_append, List.drop_zero, hL2, hx2, hlo2, hhi2]; exact HPr.out, Only.refl _ _⟩
    clear hL2 hx2 hlo2 hhi2
    go_enter Tryd.func26, Tryd.ntmps26
    go_wp2
    clear x0 x1 x2 x3 x4
    go_loopw [13, 3] (fun i _ wr => ∃ (j : Nat), j ≤ L2.length ∧ i = .int .i64 (j : Int) ∧ Hid (TI W wr m hi (.slice c L.length cc) L2 xs2 los2 his2 j)) (fun i _ _ => L2.length - (intOf i).toNat)
    case atStart => exact ⟨0, Nat.zero_le _, rfl, HT0⟩
    case round =>
      clear HT0
      obtain ⟨j, hj, rfl, HT⟩ := hrel
      by_cases hlt : j < L2.length
      · have hjI : (j : Int) < (L.length : Int) := by have := HLn.out; omega
        have hjI0 : (0 : Int) ≤ (j : Int) := by omega
        have hjx : j < xs2.length := by rw [HT.out.pr.len, ltF_len]; exact hlt
        have hjl : j < (ltF L2 j).length := by rw [ltF_len]; exact hlt
        obtain ⟨g, c', e', _, h5⟩ := HT.out.pr.cells j hjl hjx
        rw [ltF_len, HLn.out] at e'
        cases e'
        obtain ⟨y0, y1, y2, y3, y4⟩ := h5
        have hrv := HT.out.pr.is j hjl hjx
        rw [ltF_get L2 j hlt] at hrv
        obtain ⟨k9, t9, a9, m9, c9, b9, n9, d9, g9, l9, z9, hfl⟩ := hrv.flat
        have hsz : hi ≤ wr.heap.size := Nat.le_trans (Nat.le_trans HHi.out HB.out.size) HT.out.on.size
        obtain ⟨w1, hw1⟩ : ∃ w1, wr.alloc (.cells #[.int .i64 k9, .bool t9, .slice a9 m9 c9, .slice b9 n9 d9, .slice g9 l9 z9] 28) = w1 := ⟨_, rfl⟩
        obtain ⟨hb1, hr1, hs1⟩ := laid hw1
        obtain ⟨⟨c0, c1, c2, c3, c4⟩, _⟩ := rowE hr1
        have HC := hid0 (HIH.out L2[j] (HMem.out _ (List.getElem_mem hlt)) w1 (los2 j) (his2 j) xs2[j] (hrv.past hb1) (by have := (HT.out.pr.pin j hjl).2.2; have := hb1.size; omega))
        have HNx := hid0 (fun (w2 : World) (ho : Only w1 w2 (fun b => los2 j ≤ b ∧ b < his2 j)) (he : RvIs w2 (los2 j) (his2 j) (revE L2[j]) xs2[j]) => HT.out.next hlt hjx hb1 ho he)
        unfold EV.v at HC
        rw [hfl] at y0 y1 y2 y3 y4 HC HNx
        simp only [] at y0 y1 y2 y3 y4 HC
        clear hb1 hr1 hs1 hfl hrv hjl
        go_wp2_with (first
          | (go_at_call 26
             refine HC.out.mono ?_
             rintro r w2 ⟨rfl, q1, q2⟩
             have HT2 := hid0 (HNx.out w2 q2 q1)
             clear q1 q2)
          | fail)
        go_roundw
        case rel => exact ⟨j + 1, by omega, by go_num, HT2⟩
        case measure => simp [intOf]; omega
      · have hjI : ¬ (j : Int) < (L.length : Int) := by have := HLn.out; omega
        obtain rfl : j = L2.length := by omega
        have HD := hid0 (turn_done (k := k) (nt := nt) (ca := ca) (cb := cb) (by rw [if_neg hk]; exact HL2.out) HT.out h1 h2 HN.out HP.out lN lP lL HB.out)
        go_wp2
        go_end0
        exact ⟨rfl, HD.out⟩
mutual
theorem turn_any : ∀ (e : Ex), TurnP e
  | .mk k nt N P L => turn_node k nt N P L (turn_anyL L)
theorem turn_anyL : ∀ (L : List Ex), ∀ p, p ∈ L → TurnP p
  | [], _, h => (by cases h)
  | e :: L, p, h => (List.mem_cons.1 h).elim (fun q => q ▸ turn_any e) (fun q => turn_anyL L p q)
end
end Go.Proofs.YtolnoojbcbdfiaaDoor
namespace Go.Proofs.YtolnoojbcbdfiaaDoor
open Go.RowKit Go.Shelf
theorem nms_size : ∀ (N : List ByteArray) (p : Option ByteArray), nmsGo p N = true → ∀ s, s ∈ N → s.size ≤ 1000
  | [], _, _, s, h => by cases h
  | x :: N, p, h, s, hs => by
    simp only [nmsGo, Bool.and_eq_true] at h
    rcases List.mem_cons.1 hs with rfl | hs
    · have := (isNm_iff _).1 h.1
      rw [bsizeN] at this
      omega
    · exact nms_size N (some x) h.2.2 s hs
theorem wf_small : ∀ (d : Nat) (e : Ex), WfE d e → SmallN e
  | 0, _, h => h.elim
  | d + 1, .mk k nt N P L, h => .mk k nt N P L (fun s hs => by
      have hw := h.1
      unfold wholeF at hw
      have z : zeroF nt N P = true → s.size ≤ 1000 := fun hz => by
        obtain ⟨_, rfl, _⟩ := zero_of hz
        cases hs
      split at hw
      · simp only [Bool.and_eq_true] at hw
        exact z hw.2
      · split at hw
        · simp only [Bool.and_eq_true] at hw
          have hm := hw.2
          unfold mayF at hm
          simp only [Bool.and_eq_true] at hm
          exact nms_size N none hm.1 s hs
        · split at hw
          · exact z hw
          · split at hw
            · simp only [Bool.and_eq_true] at hw
              exact z hw.2
            · cases hw) (fun e he => wf_small d e (h.2.2.2 e he))
/-- An expression that is answered, turned round. -/
def RevR (w : World) (e : Ex) (r : Ending) (w' : World) : Prop := ∃ y : EV, r = .returned y.v ∧ ExIs w' (fun _ => True) (revE e) y ∧ Below w.heap.size w w'
theorem RevR.shape {w w' : World} {t : Ex} {r : Ending} (h : RevR w t r w') : ∃ k u a m c b n d g l z, r = .returned (.agg #[.int .i64 k, .bool u, .slice a m c, .slice b n d, .slice g l z]) ∧ ExIs w' (fun _ => True) (revE t) ⟨.int .i64 k, .bool u, .slice a m c, .slice b n d, .slice g l z⟩ ∧ Below w.heap.size w w' := by
  obtain ⟨y, e, h1, h2⟩ := h
  obtain ⟨k, u, a, m, c, b, n, d, g, l, z, rfl⟩ := h1.flat
  exact ⟨k, u, a, m, c, b, n, d, g, l, z, e, h1, h2⟩
/-- The answer is stored. -/
theorem rev_done {w W w1 w2 w3 w4 : World} {e : Ex} {y : EV} {T : TypeId} {a0 b0 c0 d0 e0 : Value} (bel : Below w.heap.size w W) (hs : W.heap.size = w.heap.size + 2) (hr : W.heap[w.heap.size + 1]? = some (.cells #[a0, b0, c0, d0, e0] T (0, 0))) (hb1 : Below W.heap.size W w1) (hb2 : Below w1.heap.size w1 w2) (h3 : w2.alloc (.cells #[y.k, y.t, y.n, y.p, y.r] T) = w3) (hrv : RvIs w4 w1.heap.size w2.heap.size (revE e) y) (ho : Only w3 w4 (fun b => w1.heap.size ≤ b ∧ b < w2.heap.size)) :
    w4.heap[w2.heap.size]? = some (.cells #[y.k, y.t, y.n, y.p, y.r] T (0, 0)) ∧ w4.heap[w.heap.size + 1]? = some (.cells #[a0, b0, c0, d0, e0] T (0, 0)) ∧ ∃ V, V = setE w4 (w.heap.size + 1) y.k y.t y.n y.p y.r ∧ V.heap[w.heap.size + 1]? = some (.cells #[y.k, y.t, y.n, y.p, y.r] T (0, 0)) ∧ RevR w e (.returned y.v) V := by
  obtain ⟨b3, r3, s3⟩ := laid h3
  have hbb := Below.later (Below.later hb1 hb2) b3
  have hs1 := hb1.size
  have hs2 := hb2.size
  have hr4 : w4.heap[w.heap.size + 1]? = some (.cells #[a0, b0, c0, d0, e0] T (0, 0)) := (ho.block _ (by omega) (fun c => by omega)).trans ((hbb.block _ (by omega)).trans hr)
  have hB4 : Below w.heap.size w w4 := ⟨ho.os.trans (hbb.os.trans bel.os), ho.tape.trans (hbb.tape.trans bel.tape), ho.output.trans (hbb.output.trans bel.output), Nat.le_trans bel.size (Nat.le_trans hbb.size ho.size), fun b hb => (ho.block b (by omega) (fun c => by omega)).trans ((hbb.block b (by omega)).trans (bel.block b hb))⟩
  refine ⟨(ho.block _ (by omega) (fun c => by omega)).trans r3, hr4, _, rfl, setE_row hr4 _ _ _ _ _, y, rfl, ?_, setE_below hB4 (Nat.le_succ _) _ _ _ _ _⟩
  exact (hrv.keeps (by rw [setE_size]; exact Nat.le_refl _) (fun b q1 _ _ => setE_other (by omega) _ _ _ _ _)).ex
set_option maxRecDepth 10000 in
set_option maxHeartbeats 1600000 in
theorem reverse_any (e : Ex) (x : EV) (Q : Nat → Prop) (A : Nat → Addr) (w : World) (hx : ExIs w Q e x) (hE : E3 w A) (hok : okE e = true) (hsm : SmallN e) :
    Calls Tryd.prog 14 #[x.v] w fun r w' => RevR w e r w' := by
  have HCk := hid0 (fun (V : World) (hV : Below w.heap.size w V) => check_any mayF e x Q A V (hx.past hV) (allM_of (hx.past hV)) (hE.below hV))
  rw [errC_ok hok] at HCk
  have HCp := hid0 (fun (V : World) (hV : Below w.heap.size w V) => copied_any hx hsm V hV)
  obtain ⟨k, t, a, m, c, b, n, d, g, l, z, rfl⟩ := hx.flat
  clear hx hE hok hsm
  unfold EV.v at HCk HCp ⊢
  simp only [] at HCk HCp ⊢
  obtain ⟨W, hW⟩ : ∃ W, (w.alloc (.cells #[.int .i64 k, .bool t, .slice a m c, .slice b n d, .slice g l z] 28)).alloc (.cells #[.int .i64 0, .bool false, .slice none 0 0, .slice none 0 0, .slice none 0 0] 28) = W := ⟨_, rfl⟩
  obtain ⟨hr0, hr1, hb, hs⟩ := two_rows w _ _ _ _ _ _ _ _ _ _ _ W hW.symm
  obtain ⟨⟨x0, x1, x2, x3, x4⟩, _⟩ := rowE hr0
  have HR0 := hid0 hr0
  have HR1 := hid0 hr1
  have HB := hid0 hb
  have HS := hid0 hs
  clear hr0 hr1 hb hs
  go_enter Tryd.func14, Tryd.ntmps14
  go_wp2_with (first
    | (go_at_call 26
       refine HTu.out.mono ?_
       rintro r w4 ⟨rfl, q1, q2⟩
       have HDn := hid0 (rev_done HB.out HS.out HR1.out HB1.out HB2.out HW3.out q1 q2)
       obtain ⟨hrb, hrr, V, hV, hVr, hR⟩ := HDn.out
       simp only [] at hrb hV hVr
       obtain ⟨⟨y0, y1, y2, y3, y4⟩, _⟩ := rowE hrb
       obtain ⟨⟨z0, z1, z2, z3, z4⟩, f0, f1, f2, f3, f4⟩ := rowE hrr
       have HR := hid0 hR
       have HVr := hid0 hVr
       unfold setE at hV
       have HV := hid0 hV
       clear hrb hrr hV hVr hR q1 q2 HDn)
    | (go_at_call 25
       refine (HCp.out w1 (Below.later HB.out HB1.out)).mono ?_
       rintro r w2 hr
       obtain ⟨k5, u5, a5, m5, c5, b5, n5, d5, g5, l5, z5, rfl, q1, q2⟩ := hr.shape
       obtain ⟨w3, hw3⟩ : ∃ w3, w2.alloc (.cells #[.int .i64 k5, .bool u5, .slice a5 m5 c5, .slice b5 n5 d5, .slice g5 l5 z5] 28) = w3 := ⟨_, rfl⟩
       have HW3 := hid0 hw3
       obtain ⟨b3, r3, s3⟩ := laid hw3
       obtain ⟨⟨c0, c1, c2, c3, c4⟩, _⟩ := rowE r3
       have HB2 := hid0 q2
       have HTu := hid0 (turn_any e w3 w1.heap.size w2.heap.size _ (q1.past b3) b3.size)
       unfold EV.v at HTu
       simp only [] at HTu
       clear hr q1 q2 b3 r3 s3)
    | (go_at_call 16
       refine (HCk.out _ HB.out).mono ?_
       rintro r w1 ⟨rfl, hb1⟩
       have HB1 := hid0 hb1
       obtain ⟨⟨v0, v1, v2, v3, v4⟩, _⟩ := rowE (kept hb1 HR0.out)
       clear hb1)
    | fail)
  rw [← HV.out]
  obtain ⟨⟨k0, k1, k2, k3, k4⟩, _⟩ := rowE HVr.out
  exact bodyPost_ret (v := .agg #[.int .i64 k5, .bool u5, .slice a5 m5 c5, .slice b5 n5 d5, .slice g5 l5 z5]) (by simp [results, Tryd.results14, go_sem, k0, k1, k2, k3, k4]) rfl HR.out
end Go.Proofs.YtolnoojbcbdfiaaDoor
namespace Go.Proofs.YtolnoojbcbdfiaaDoor
open Go.RowKit Go.Shelf
set_option maxRecDepth 10000 in
set_option maxHeartbeats 1600000 in
theorem split_some (a b : Ex) (x y : EV) (Q Q' : Nat → Prop) (l : List Kd) (g off c : Nat) (A : Nat → Addr) (w : World) (hl : l.length ≤ 12) (hc : l.length ≤ c) (hx : ExIs w Q a x) (hy : ExIs w Q' b y) (hE : E3 w A) (ha : KA w w.heap.size (some ⟨g, off, none⟩) l) :
    Calls Tryd.prog 11 #[x.v, y.v, .slice (some ⟨g, off, none⟩) l.length c] w fun r w' => r = .returned (.bool (splitB a b l)) ∧ Below w.heap.size w w' := by
  have HM1 := hid0 (fun (V : World) (hV : Below w.heap.size w V) (i : Nat) (hi : i ≤ l.length) => match_head a x Q l g off c i A V hl hi (hx.past hV) (hE.below hV) ((ha.below hV).up hV.size))
  have HM2 := hid0 (fun (V : World) (hV : Below w.heap.size w V) (i : Nat) => match_tail b y Q' l g off c i A V hl hc (hy.past hV) (hE.below hV) ((ha.below hV).up hV.size))
  obtain ⟨k1, t1, a1, n1, ca1, b1, p1, cb1, c1, l1, cc1, rfl⟩ := hx.flat
  obtain ⟨k2, t2, a2, n2, ca2, b2, p2, cb2, c2, l2, cc2, rfl⟩ := hy.flat
  clear hx hy
  unfold EV.v at HM1 HM2 ⊢
  simp only at HM1 HM2 ⊢
  obtain ⟨W, hW⟩ : ∃ W, (w.alloc (.cells #[.int .i64 k1, .bool t1, .slice a1 n1 ca1, .slice b1 p1 cb1, .slice c1 l1 cc1] 28)).alloc (.cells #[.int .i64 k2, .bool t2, .slice a2 n2 ca2, .slice b2 p2 cb2, .slice c2 l2 cc2] 28) = W := ⟨_, rfl⟩
  obtain ⟨hr0, hr1, hb, hs⟩ := two_rows w _ _ _ _ _ _ _ _ _ _ _ W hW.symm
  have HB := hid0 hb
  have HSk : Hid (∀ V, Below W.heap.size W V → (V.cell? ⟨w.heap.size, 0, none⟩ = some (.int .i64 k1) ∧ V.cell? ⟨w.heap.size, 1, none⟩ = some (.bool t1) ∧ V.cell? ⟨w.heap.size, 2, none⟩ = some (.slice a1 n1 ca1) ∧ V.cell? ⟨w.heap.size, 3, none⟩ = some (.slice b1 p1 cb1) ∧ V.cell? ⟨w.heap.size, 4, none⟩ = some (.slice c1 l1 cc1)) ∧ V.cell? ⟨w.heap.size + 1, 0, none⟩ = some (.int .i64 k2) ∧ V.cell? ⟨w.heap.size + 1, 1, none⟩ = some (.bool t2) ∧ V.cell? ⟨w.heap.size + 1, 2, none⟩ = some (.slice a2 n2 ca2) ∧ V.cell? ⟨w.heap.size + 1, 3, none⟩ = some (.slice b2 p2 cb2) ∧ V.cell? ⟨w.heap.size + 1, 4, none⟩ = some (.slice c2 l2 cc2)) := hid0 (fun V hV => ⟨(rowE (kept hV hr0)).1, (rowE (kept hV hr1)).1⟩)
  clear hr0 hr1 hb hs hE ha
  go_enter Tryd.func11, Tryd.ntmps11
  go_wp2
  clear hW
  go_loopw [7] (fun i wr => ∃ (j : Nat), j ≤ l.length + 1 ∧ i = .int .i64 (j : Int) ∧ Hid (∀ i, i < j → hitB a b l i = false) ∧ Hid (Below W.heap.size W wr)) (fun i _ => l.length + 1 - (intOf i).toNat)
  case atStart => exact ⟨0, Nat.zero_le _, rfl, hid0 (fun i hi => absurd hi (Nat.not_lt_zero _)), hid0 (Below.refl _ _)⟩
  case round =>
    obtain ⟨j, hj, rfl, HNo, HBw⟩ := hrel
    by_cases hlt : j ≤ l.length
    · have hjI : (j : Int) ≤ (l.length : Int) := by omega
      have hjI0 : (0 : Int) ≤ (j : Int) := by omega
      have hjc : (j : Int) ≤ (c : Int) := by omega
      have hlc : (l.length : Int) ≤ (c : Int) := by omega
      have HBd := hid0 (Below.later (Below.later HB.out HBw.out) (Below.refl wr.heap.size wr).drew)
      have hs0 := HSk.out _ (Below.later HBw.out (Below.refl wr.heap.size wr).drew)
      have HBV0 := hid0 (Below.later HBw.out (Below.refl wr.heap.size wr).drew)
      have HA := hid0 (fun V (hV : Below w.heap.size w V) => HM1.out V hV j hlt)
      have HC := hid0 (fun V (hV : Below w.heap.size w V) => HM2.out V hV j)
      obtain ⟨ad, had⟩ : ∃ ad : Option Addr, (if c = j then some ⟨g, off, none⟩ else some ⟨g, off + j * 2, none⟩) = ad := ⟨_, rfl⟩
      rw [had] at HC
      have HH : Hid (hitB a b l j = (mtB a (l.take j) && mtB b (l.drop j))) := hid0 rfl
      generalize mtB a (l.take j) = p at *
      generalize mtB b (l.drop j) = q at *
      cases p with
      | false =>
        go_wp2
        refine wp_region_noPanic ?_
        refine wp_region_held_drew (S := (fun V => (V.cell? ⟨w.heap.size, 0, none⟩ = some (.int .i64 k1) ∧ V.cell? ⟨w.heap.size, 1, none⟩ = some (.bool t1) ∧ V.cell? ⟨w.heap.size, 2, none⟩ = some (.slice a1 n1 ca1) ∧ V.cell? ⟨w.heap.size, 3, none⟩ = some (.slice b1 p1 cb1) ∧ V.cell? ⟨w.heap.size, 4, none⟩ = some (.slice c1 l1 cc1)) ∧ V.cell? ⟨w.heap.size + 1, 0, none⟩ = some (.int .i64 k2) ∧ V.cell? ⟨w.heap.size + 1, 1, none⟩ = some (.bool t2) ∧ V.cell? ⟨w.heap.size + 1, 2, none⟩ = some (.slice a2 n2 ca2) ∧ V.cell? ⟨w.heap.size + 1, 3, none⟩ = some (.slice b2 p2 cb2) ∧ V.cell? ⟨w.heap.size + 1, 4, none⟩ = some (.slice c2 l2 cc2))) (by kernel_rfl) ?_ (fun hHeld => ?_)
        · exact hs0
        refine tkV (i := 0) (d := some 14) (v := ?_) rfl (by kernel_rfl) (by kernel_rfl) (by kernel_rfl) rfl (fun _ _ _ h => h) (by rfl) ?_ (by assumption) ?_
        rotate_left
        · (intro w hSw; (try dsimp only at hSw); (try simp only [List.getElem_toArray, List.getElem_cons_zero]); go_simp; try with_reducible rfl)
        try simp only [Act.put, List.setIfInBounds_toArray, List.set_cons_zero, List.set_cons_succ]
        refine tkV (i := 1) (d := some 15) (v := ?_) rfl (by kernel_rfl) (by kernel_rfl) (by kernel_rfl) rfl (fun _ _ _ h => h) (by rfl) ?_ (by assumption) ?_
        rotate_left
        · (intro w hSw; (try dsimp only at hSw); (try simp only [List.getElem_toArray, List.getElem_cons_zero, List.getElem_cons_succ]); go_simp; try with_reducible rfl)
        try simp only [Act.put, List.setIfInBounds_toArray, List.set_cons_zero, List.set_cons_succ]
        refine tkV (i := 2) (d := some 16) (v := ?_) rfl (by kernel_rfl) (by kernel_rfl) (by kernel_rfl) rfl (fun _ _ _ h => h) (by rfl) ?_ (by assumption) ?_
        rotate_left
        · (intro w hSw; (try dsimp only at hSw); (try simp only [List.getElem_toArray, List.getElem_cons_zero, List.getElem_cons_succ]); go_simp; try with_reducible rfl)
        try simp only [Act.put, List.setIfInBounds_toArray, List.set_cons_zero, List.set_cons_succ]
        refine tkV (i := 3) (d := some 17) (v := ?_) rfl (by kernel_rfl) (by kernel_rfl) (by kernel_rfl) rfl (fun _ _ _ h => h) (by rfl) ?_ (by assumption) ?_
        rotate_left
        · (intro w hSw; (try dsimp only at hSw); (try simp only [List.getElem_toArray, List.getElem_cons_zero, List.getElem_cons_succ]); go_simp; try with_reducible rfl)
        try simp only [Act.put, List.setIfInBounds_toArray, List.set_cons_zero, List.set_cons_succ]
        refine wpAnyH_ready (rs := [4]) (by kernel_rfl) (by simp) (AllReadyH.cons rfl (fun K hK => ?_) AllReadyH.nil)
        try simp only [List.getElem_toArray, List.getElem_cons_zero, List.getElem_cons_succ]
        go_simp
        refine (HA.out _ HBd.out).mono ?_
        rintro r v1 ⟨rfl, hb1⟩
        have HB1 := hid0 (Below.later HBV0.out hb1)
        have HD1 := hid0 (Below.later HBd.out hb1)
        have hs1 := HSk.out _ HB1.out
        clear hb1
        go_wp2_with fail
        refine hK.out _ _ ?_ (fun hHeld4 => ?_)
        · exact hs1
        clear hK K
        (try simp only [Act.put]); (try simp only [List.setIfInBounds_toArray]); (try simp only [List.set_cons_succ]); (try simp only [List.set_cons_zero])
        refine tkV (i := 5) (d := some 19) (v := ?_) rfl (by kernel_rfl) (by kernel_rfl) (by kernel_rfl) rfl (fun _ _ _ h => h) (by rfl) ?_ (by assumption) ?_
        rotate_left
        · (intro w hSw; (try dsimp only at hSw); (try simp only [List.getElem_toArray, List.getElem_cons_zero, List.getElem_cons_succ]); go_simp; try with_reducible rfl)
        try simp only [Act.put, List.setIfInBounds_toArray, List.set_cons_zero, List.set_cons_succ]
        refine tkU (i := 6) (d := some 20) rfl (by kernel_rfl) (by kernel_rfl) (by kernel_rfl) rfl (fun _ _ _ h => h) (by rfl) (by assumption) ?_
        try simp only [Act.put, List.setIfInBounds_toArray, List.set_cons_zero, List.set_cons_succ]
        refine tkU (i := 7) (d := some 21) rfl (by kernel_rfl) (by kernel_rfl) (by kernel_rfl) rfl (fun _ _ _ h => h) (by rfl) (by assumption) ?_
        try simp only [Act.put, List.setIfInBounds_toArray, List.set_cons_zero, List.set_cons_succ]
        refine tkU (i := 8) (d := some 22) rfl (by kernel_rfl) (by kernel_rfl) (by kernel_rfl) rfl (fun _ _ _ h => h) (by rfl) (by assumption) ?_
        try simp only [Act.put, List.setIfInBounds_toArray, List.set_cons_zero, List.set_cons_succ]
        refine tkU (i := 9) (d := some 23) rfl (by kernel_rfl) (by kernel_rfl) (by kernel_rfl) rfl (fun _ _ _ h => h) (by rfl) (by assumption) ?_
        try simp only [Act.put, List.setIfInBounds_toArray, List.set_cons_zero, List.set_cons_succ]
        refine wpAnyH_ready (rs := [10]) (by kernel_rfl) (by simp) (AllReadyH.cons rfl (fun K hK => ?_) AllReadyH.nil)
        try simp only [List.getElem_toArray, List.getElem_cons_zero, List.getElem_cons_succ]
        go_simp
        refine hK.out _ _ ?_ (fun hHeld10 => ?_)
        · assumption
        clear hK K
        (try simp only [Act.put]); (try simp only [List.setIfInBounds_toArray]); (try simp only [List.set_cons_succ]); (try simp only [List.set_cons_zero])
        refine tkV (i := 11) (d := some 25) (v := ?_) rfl (by kernel_rfl) (by kernel_rfl) (by kernel_rfl) rfl (fun _ _ _ h => h) (by rfl) ?_ (by assumption) ?_
        rotate_left
        · (intro w hSw; (try dsimp only at hSw); (try simp only [List.getElem_toArray, List.getElem_cons_zero, List.getElem_cons_succ]); go_simp; try with_reducible rfl)
        try simp only [Act.put, List.setIfInBounds_toArray, List.set_cons_zero, List.set_cons_succ]
        refine wpAnyH_done (by kernel_rfl) ?_ _
        refine NoPanic.normal ?_
        go_wp2
        go_roundw
        case rel => exact ⟨j + 1, by omega, by go_num, hid0 (fun i hi => by
          rcases Nat.lt_or_ge i j with h | h
          · exact HNo.out i h
          · rw [show i = j by omega, HH.out]
            rfl), HB1⟩
        case measure => simp [intOf]; omega
      | true =>
        cases q with
        | false =>
          go_wp2
          refine wp_region_noPanic ?_
          refine wp_region_held_drew (S := (fun V => (V.cell? ⟨w.heap.size, 0, none⟩ = some (.int .i64 k1) ∧ V.cell? ⟨w.heap.size, 1, none⟩ = some (.bool t1) ∧ V.cell? ⟨w.heap.size, 2, none⟩ = some (.slice a1 n1 ca1) ∧ V.cell? ⟨w.heap.size, 3, none⟩ = some (.slice b1 p1 cb1) ∧ V.cell? ⟨w.heap.size, 4, none⟩ = some (.slice c1 l1 cc1)) ∧ V.cell? ⟨w.heap.size + 1, 0, none⟩ = some (.int .i64 k2) ∧ V.cell? ⟨w.heap.size + 1, 1, none⟩ = some (.bool t2) ∧ V.cell? ⟨w.heap.size + 1, 2, none⟩ = some (.slice a2 n2 ca2) ∧ V.cell? ⟨w.heap.size + 1, 3, none⟩ = some (.slice b2 p2 cb2) ∧ V.cell? ⟨w.heap.size + 1, 4, none⟩ = some (.slice c2 l2 cc2))) (by kernel_rfl) ?_ (fun hHeld => ?_)
          · exact hs0
          refine tkV (i := 0) (d := some 14) (v := ?_) rfl (by kernel_rfl) (by kernel_rfl) (by kernel_rfl) rfl (fun _ _ _ h => h) (by rfl) ?_ (by assumption) ?_
          rotate_left
          · (intro w hSw; (try dsimp only at hSw); (try simp only [List.getElem_toArray, List.getElem_cons_zero]); go_simp; try with_reducible rfl)
          try simp only [Act.put, List.setIfInBounds_toArray, List.set_cons_zero, List.set_cons_succ]
          refine tkV (i := 1) (d := some 15) (v := ?_) rfl (by kernel_rfl) (by kernel_rfl) (by kernel_rfl) rfl (fun _ _ _ h => h) (by rfl) ?_ (by assumption) ?_
          rotate_left
          · (intro w hSw; (try dsimp only at hSw); (try simp only [List.getElem_toArray, List.getElem_cons_zero, List.getElem_cons_succ]); go_simp; try with_reducible rfl)
          try simp only [Act.put, List.setIfInBounds_toArray, List.set_cons_zero, List.set_cons_succ]
          refine tkV (i := 2) (d := some 16) (v := ?_) rfl (by kernel_rfl) (by kernel_rfl) (by kernel_rfl) rfl (fun _ _ _ h => h) (by rfl) ?_ (by assumption) ?_
          rotate_left
          · (intro w hSw; (try dsimp only at hSw); (try simp only [List.getElem_toArray, List.getElem_cons_zero, List.getElem_cons_succ]); go_simp; try with_reducible rfl)
          try simp only [Act.put, List.setIfInBounds_toArray, List.set_cons_zero, List.set_cons_succ]
          refine tkV (i := 3) (d := some 17) (v := ?_) rfl (by kernel_rfl) (by kernel_rfl) (by kernel_rfl) rfl (fun _ _ _ h => h) (by rfl) ?_ (by assumption) ?_
          rotate_left
          · (intro w hSw; (try dsimp only at hSw); (try simp only [List.getElem_toArray, List.getElem_cons_zero, List.getElem_cons_succ]); go_simp; try with_reducible rfl)
          try simp only [Act.put, List.setIfInBounds_toArray, List.set_cons_zero, List.set_cons_succ]
          refine wpAnyH_ready (rs := [4]) (by kernel_rfl) (by simp) (AllReadyH.cons rfl (fun K hK => ?_) AllReadyH.nil)
          try simp only [List.getElem_toArray, List.getElem_cons_zero, List.getElem_cons_succ]
          go_simp
          refine (HA.out _ HBd.out).mono ?_
          rintro r v1 ⟨rfl, hb1⟩
          have HB1 := hid0 (Below.later HBV0.out hb1)
          have HD1 := hid0 (Below.later HBd.out hb1)
          have hs1 := HSk.out _ HB1.out
          clear hb1
          go_wp2_with fail
          refine hK.out _ _ ?_ (fun hHeld4 => ?_)
          · exact hs1
          clear hK K
          (try simp only [Act.put]); (try simp only [List.setIfInBounds_toArray]); (try simp only [List.set_cons_succ]); (try simp only [List.set_cons_zero])
          refine tkV (i := 5) (d := some 19) (v := ?_) rfl (by kernel_rfl) (by kernel_rfl) (by kernel_rfl) rfl (fun _ _ _ h => h) (by rfl) ?_ (by assumption) ?_
          rotate_left
          · (intro w hSw; (try dsimp only at hSw); (try simp only [List.getElem_toArray, List.getElem_cons_zero, List.getElem_cons_succ]); go_simp; try with_reducible rfl)
          try simp only [Act.put, List.setIfInBounds_toArray, List.set_cons_zero, List.set_cons_succ]
          refine tkV (i := 6) (d := some 20) (v := ?_) rfl (by kernel_rfl) (by kernel_rfl) (by kernel_rfl) rfl (fun _ _ _ h => h) (by rfl) ?_ (by assumption) ?_
          rotate_left
          · (intro w hSw; (try dsimp only at hSw); (try simp only [List.getElem_toArray, List.getElem_cons_zero, List.getElem_cons_succ]); go_simp; try with_reducible rfl)
          try simp only [Act.put, List.setIfInBounds_toArray, List.set_cons_zero, List.set_cons_succ]
          refine tkV (i := 7) (d := some 21) (v := ?_) rfl (by kernel_rfl) (by kernel_rfl) (by kernel_rfl) rfl (fun _ _ _ h => h) (by rfl) ?_ (by assumption) ?_
          rotate_left
          · (intro w hSw; (try dsimp only at hSw); (try simp only [List.getElem_toArray, List.getElem_cons_zero, List.getElem_cons_succ]); go_simp; try with_reducible rfl)
          try simp only [Act.put, List.setIfInBounds_toArray, List.set_cons_zero, List.set_cons_succ]
          refine tkV (i := 8) (d := some 22) (v := ?_) rfl (by kernel_rfl) (by kernel_rfl) (by kernel_rfl) rfl (fun _ _ _ h => h) (by rfl) ?_ (by assumption) ?_
          rotate_left
          · (intro w hSw; (try dsimp only at hSw); (try simp only [List.getElem_toArray, List.getElem_cons_zero, List.getElem_cons_succ]); go_simp; try with_reducible rfl)
          try simp only [Act.put, List.setIfInBounds_toArray, List.set_cons_zero, List.set_cons_succ]
          refine tkV (i := 9) (d := some 23) (v := ?_) rfl (by kernel_rfl) (by kernel_rfl) (by kernel_rfl) rfl (fun _ _ _ h => h) (by rfl) ?_ (by assumption) ?_
          rotate_left
          · (intro w hSw; (try dsimp only at hSw); (try simp only [List.getElem_toArray, List.getElem_cons_zero, List.getElem_cons_succ]); go_simp; try with_reducible rfl)
          try simp only [Act.put, List.setIfInBounds_toArray, List.set_cons_zero, List.set_cons_succ]
          refine wpAnyH_ready (rs := [10]) (by kernel_rfl) (by simp) (AllReadyH.cons rfl (fun K hK => ?_) AllReadyH.nil)
          try simp only [List.getElem_toArray, List.getElem_cons_zero, List.getElem_cons_succ]
          go_simp
          refine (HC.out _ HD1.out).mono ?_
          rintro r v2 ⟨rfl, hb2⟩
          have HB2 := hid0 (Below.later HB1.out hb2)
          have HD2 := hid0 (Below.later HD1.out hb2)
          have hs2 := HSk.out _ HB2.out
          clear hb2
          go_wp2_with fail
          refine hK.out _ _ ?_ (fun hHeld10 => ?_)
          · exact hs2
          clear hK K
          (try simp only [Act.put]); (try simp only [List.setIfInBounds_toArray]); (try simp only [List.set_cons_succ]); (try simp only [List.set_cons_zero])
          refine tkV (i := 11) (d := some 25) (v := ?_) rfl (by kernel_rfl) (by kernel_rfl) (by kernel_rfl) rfl (fun _ _ _ h => h) (by rfl) ?_ (by assumption) ?_
          rotate_left
          · (intro w hSw; (try dsimp only at hSw); (try simp only [List.getElem_toArray, List.getElem_cons_zero, List.getElem_cons_succ]); go_simp; try with_reducible rfl)
          try simp only [Act.put, List.setIfInBounds_toArray, List.set_cons_zero, List.set_cons_succ]
          refine wpAnyH_done (by kernel_rfl) ?_ _
          refine NoPanic.normal ?_
          go_wp2
          go_roundw
          case rel => exact ⟨j + 1, by omega, by go_num, hid0 (fun i hi => by
            rcases Nat.lt_or_ge i j with h | h
            · exact HNo.out i h
            · rw [show i = j by omega, HH.out]
              rfl), HB2⟩
          case measure => simp [intOf]; omega
        | true =>
          go_wp2
          refine wp_region_noPanic ?_
          refine wp_region_held_drew (S := (fun V => (V.cell? ⟨w.heap.size, 0, none⟩ = some (.int .i64 k1) ∧ V.cell? ⟨w.heap.size, 1, none⟩ = some (.bool t1) ∧ V.cell? ⟨w.heap.size, 2, none⟩ = some (.slice a1 n1 ca1) ∧ V.cell? ⟨w.heap.size, 3, none⟩ = some (.slice b1 p1 cb1) ∧ V.cell? ⟨w.heap.size, 4, none⟩ = some (.slice c1 l1 cc1)) ∧ V.cell? ⟨w.heap.size + 1, 0, none⟩ = some (.int .i64 k2) ∧ V.cell? ⟨w.heap.size + 1, 1, none⟩ = some (.bool t2) ∧ V.cell? ⟨w.heap.size + 1, 2, none⟩ = some (.slice a2 n2 ca2) ∧ V.cell? ⟨w.heap.size + 1, 3, none⟩ = some (.slice b2 p2 cb2) ∧ V.cell? ⟨w.heap.size + 1, 4, none⟩ = some (.slice c2 l2 cc2))) (by kernel_rfl) ?_ (fun hHeld => ?_)
          · exact hs0
          refine tkV (i := 0) (d := some 14) (v := ?_) rfl (by kernel_rfl) (by kernel_rfl) (by kernel_rfl) rfl (fun _ _ _ h => h) (by rfl) ?_ (by assumption) ?_
          rotate_left
          · (intro w hSw; (try dsimp only at hSw); (try simp only [List.getElem_toArray, List.getElem_cons_zero]); go_simp; try with_reducible rfl)
          try simp only [Act.put, List.setIfInBounds_toArray, List.set_cons_zero, List.set_cons_succ]
          refine tkV (i := 1) (d := some 15) (v := ?_) rfl (by kernel_rfl) (by kernel_rfl) (by kernel_rfl) rfl (fun _ _ _ h => h) (by rfl) ?_ (by assumption) ?_
          rotate_left
          · (intro w hSw; (try dsimp only at hSw); (try simp only [List.getElem_toArray, List.getElem_cons_zero, List.getElem_cons_succ]); go_simp; try with_reducible rfl)
          try simp only [Act.put, List.setIfInBounds_toArray, List.set_cons_zero, List.set_cons_succ]
          refine tkV (i := 2) (d := some 16) (v := ?_) rfl (by kernel_rfl) (by kernel_rfl) (by kernel_rfl) rfl (fun _ _ _ h => h) (by rfl) ?_ (by assumption) ?_
          rotate_left
          · (intro w hSw; (try dsimp only at hSw); (try simp only [List.getElem_toArray, List.getElem_cons_zero, List.getElem_cons_succ]); go_simp; try with_reducible rfl)
          try simp only [Act.put, List.setIfInBounds_toArray, List.set_cons_zero, List.set_cons_succ]
          refine tkV (i := 3) (d := some 17) (v := ?_) rfl (by kernel_rfl) (by kernel_rfl) (by kernel_rfl) rfl (fun _ _ _ h => h) (by rfl) ?_ (by assumption) ?_
          rotate_left
          · (intro w hSw; (try dsimp only at hSw); (try simp only [List.getElem_toArray, List.getElem_cons_zero, List.getElem_cons_succ]); go_simp; try with_reducible rfl)
          try simp only [Act.put, List.setIfInBounds_toArray, List.set_cons_zero, List.set_cons_succ]
          refine wpAnyH_ready (rs := [4]) (by kernel_rfl) (by simp) (AllReadyH.cons rfl (fun K hK => ?_) AllReadyH.nil)
          try simp only [List.getElem_toArray, List.getElem_cons_zero, List.getElem_cons_succ]
          go_simp
          refine (HA.out _ HBd.out).mono ?_
          rintro r v1 ⟨rfl, hb1⟩
          have HB1 := hid0 (Below.later HBV0.out hb1)
          have HD1 := hid0 (Below.later HBd.out hb1)
          have hs1 := HSk.out _ HB1.out
          clear hb1
          go_wp2_with fail
          refine hK.out _ _ ?_ (fun hHeld4 => ?_)
          · exact hs1
          clear hK K
          (try simp only [Act.put]); (try simp only [List.setIfInBounds_toArray]); (try simp only [List.set_cons_succ]); (try simp only [List.set_cons_zero])
          refine tkV (i := 5) (d := some 19) (v := ?_) rfl (by kernel_rfl) (by kernel_rfl) (by kernel_rfl) rfl (fun _ _ _ h => h) (by rfl) ?_ (by assumption) ?_
          rotate_left
          · (intro w hSw; (try dsimp only at hSw); (try simp only [List.getElem_toArray, List.getElem_cons_zero, List.getElem_cons_succ]); go_simp; try with_reducible rfl)
          try simp only [Act.put, List.setIfInBounds_toArray, List.set_cons_zero, List.set_cons_succ]
          refine tkV (i := 6) (d := some 20) (v := ?_) rfl (by kernel_rfl) (by kernel_rfl) (by kernel_rfl) rfl (fun _ _ _ h => h) (by rfl) ?_ (by assumption) ?_
          rotate_left
          · (intro w hSw; (try dsimp only at hSw); (try simp only [List.getElem_toArray, List.getElem_cons_zero, List.getElem_cons_succ]); go_simp; try with_reducible rfl)
          try simp only [Act.put, List.setIfInBounds_toArray, List.set_cons_zero, List.set_cons_succ]
          refine tkV (i := 7) (d := some 21) (v := ?_) rfl (by kernel_rfl) (by kernel_rfl) (by kernel_rfl) rfl (fun _ _ _ h => h) (by rfl) ?_ (by assumption) ?_
          rotate_left
          · (intro w hSw; (try dsimp only at hSw); (try simp only [List.getElem_toArray, List.getElem_cons_zero, List.getElem_cons_succ]); go_simp; try with_reducible rfl)
          try simp only [Act.put, List.setIfInBounds_toArray, List.set_cons_zero, List.set_cons_succ]
          refine tkV (i := 8) (d := some 22) (v := ?_) rfl (by kernel_rfl) (by kernel_rfl) (by kernel_rfl) rfl (fun _ _ _ h => h) (by rfl) ?_ (by assumption) ?_
          rotate_left
          · (intro w hSw; (try dsimp only at hSw); (try simp only [List.getElem_toArray, List.getElem_cons_zero, List.getElem_cons_succ]); go_simp; try with_reducible rfl)
          try simp only [Act.put, List.setIfInBounds_toArray, List.set_cons_zero, List.set_cons_succ]
          refine tkV (i := 9) (d := some 23) (v := ?_) rfl (by kernel_rfl) (by kernel_rfl) (by kernel_rfl) rfl (fun _ _ _ h => h) (by rfl) ?_ (by assumption) ?_
          rotate_left
          · (intro w hSw; (try dsimp only at hSw); (try simp only [List.getElem_toArray, List.getElem_cons_zero, List.getElem_cons_succ]); go_simp; try with_reducible rfl)
          try simp only [Act.put, List.setIfInBounds_toArray, List.set_cons_zero, List.set_cons_succ]
          refine wpAnyH_ready (rs := [10]) (by kernel_rfl) (by simp) (AllReadyH.cons rfl (fun K hK => ?_) AllReadyH.nil)
          try simp only [List.getElem_toArray, List.getElem_cons_zero, List.getElem_cons_succ]
          go_simp
          refine (HC.out _ HD1.out).mono ?_
          rintro r v2 ⟨rfl, hb2⟩
          have HB2 := hid0 (Below.later HB1.out hb2)
          have HD2 := hid0 (Below.later HD1.out hb2)
          have hs2 := HSk.out _ HB2.out
          clear hb2
          go_wp2_with fail
          refine hK.out _ _ ?_ (fun hHeld10 => ?_)
          · exact hs2
          clear hK K
          (try simp only [Act.put]); (try simp only [List.setIfInBounds_toArray]); (try simp only [List.set_cons_succ]); (try simp only [List.set_cons_zero])
          refine tkV (i := 11) (d := some 25) (v := ?_) rfl (by kernel_rfl) (by kernel_rfl) (by kernel_rfl) rfl (fun _ _ _ h => h) (by rfl) ?_ (by assumption) ?_
          rotate_left
          · (intro w hSw; (try dsimp only at hSw); (try simp only [List.getElem_toArray, List.getElem_cons_zero, List.getElem_cons_succ]); go_simp; try with_reducible rfl)
          try simp only [Act.put, List.setIfInBounds_toArray, List.set_cons_zero, List.set_cons_succ]
          refine wpAnyH_done (by kernel_rfl) ?_ _
          refine NoPanic.normal ?_
          go_wp2
          go_ret
          exact ⟨by rw [splitB_yes hlt HH.out]; rfl, HD2.out⟩
    · have hjI : ¬ (j : Int) ≤ (l.length : Int) := by omega
      have HF : Hid (splitB a b l = false) := hid0 (splitB_no (fun i hi => HNo.out i (by omega)))
      go_wp2
      go_ret
      exact ⟨by rw [HF.out]; rfl, Below.later HB.out HBw.out⟩
end Go.Proofs.YtolnoojbcbdfiaaDoor
namespace Go.Proofs.YtolnoojbcbdfiaaDoor
open Go.RowKit Go.Shelf
set_option maxRecDepth 10000 in
set_option maxHeartbeats 1600000 in
theorem split_none (a b : Ex) (x y : EV) (Q Q' : Nat → Prop) (A : Nat → Addr) (w : World) (hx : ExIs w Q a x) (hy : ExIs w Q' b y) (hE : E3 w A) :
    Calls Tryd.prog 11 #[x.v, y.v, .slice none 0 0] w fun r w' => r = .returned (.bool (splitB a b [])) ∧ Below w.heap.size w w' := by
  have HM1 := hid0 (fun (V : World) (hV : Below w.heap.size w V) => match_at a x Q [] none 0 A V (by simp) (hx.past hV) (hE.below hV) (KA.none _ _ _))
  have HM2 := hid0 (fun (V : World) (hV : Below w.heap.size w V) => match_at b y Q' [] none 0 A V (by simp) (hy.past hV) (hE.below hV) (KA.none _ _ _))
  rw [List.length_nil] at HM1 HM2
  obtain ⟨k1, t1, a1, n1, ca1, b1, p1, cb1, c1, l1, cc1, rfl⟩ := hx.flat
  obtain ⟨k2, t2, a2, n2, ca2, b2, p2, cb2, c2, l2, cc2, rfl⟩ := hy.flat
  clear hx hy
  unfold EV.v at HM1 HM2 ⊢
  simp only at HM1 HM2 ⊢
  obtain ⟨W, hW⟩ : ∃ W, (w.alloc (.cells #[.int .i64 k1, .bool t1, .slice a1 n1 ca1, .slice b1 p1 cb1, .slice c1 l1 cc1] 28)).alloc (.cells #[.int .i64 k2, .bool t2, .slice a2 n2 ca2, .slice b2 p2 cb2, .slice c2 l2 cc2] 28) = W := ⟨_, rfl⟩
  obtain ⟨hr0, hr1, hb, hs⟩ := two_rows w _ _ _ _ _ _ _ _ _ _ _ W hW.symm
  have HB := hid0 hb
  have HSk : Hid (∀ V, Below W.heap.size W V → (V.cell? ⟨w.heap.size, 0, none⟩ = some (.int .i64 k1) ∧ V.cell? ⟨w.heap.size, 1, none⟩ = some (.bool t1) ∧ V.cell? ⟨w.heap.size, 2, none⟩ = some (.slice a1 n1 ca1) ∧ V.cell? ⟨w.heap.size, 3, none⟩ = some (.slice b1 p1 cb1) ∧ V.cell? ⟨w.heap.size, 4, none⟩ = some (.slice c1 l1 cc1)) ∧ V.cell? ⟨w.heap.size + 1, 0, none⟩ = some (.int .i64 k2) ∧ V.cell? ⟨w.heap.size + 1, 1, none⟩ = some (.bool t2) ∧ V.cell? ⟨w.heap.size + 1, 2, none⟩ = some (.slice a2 n2 ca2) ∧ V.cell? ⟨w.heap.size + 1, 3, none⟩ = some (.slice b2 p2 cb2) ∧ V.cell? ⟨w.heap.size + 1, 4, none⟩ = some (.slice c2 l2 cc2)) := hid0 (fun V hV => ⟨(rowE (kept hV hr0)).1, (rowE (kept hV hr1)).1⟩)
  clear hr0 hr1 hb hs hE
  go_enter Tryd.func11, Tryd.ntmps11
  go_wp2
  clear hW
  go_loopw [7] (fun i wr => ∃ (j : Nat), j ≤ 1 ∧ i = .int .i64 (j : Int) ∧ Hid (∀ i, i < j → hitB a b [] i = false) ∧ Hid (Below W.heap.size W wr)) (fun i _ => 1 - (intOf i).toNat)
  case atStart => exact ⟨0, Nat.zero_le _, rfl, hid0 (fun i hi => absurd hi (Nat.not_lt_zero _)), hid0 (Below.refl _ _)⟩
  case round =>
    obtain ⟨j, hj, rfl, HNo, HBw⟩ := hrel
    by_cases hlt : j = 0
    · subst hlt
      clear hj
      have HBd := hid0 (Below.later (Below.later HB.out HBw.out) (Below.refl wr.heap.size wr).drew)
      have hs0 := HSk.out _ (Below.later HBw.out (Below.refl wr.heap.size wr).drew)
      have HBV0 := hid0 (Below.later HBw.out (Below.refl wr.heap.size wr).drew)
      have HA := HM1
      have HC := HM2
      have HH : Hid (hitB a b [] 0 = (mtB a [] && mtB b [])) := hid0 rfl
      generalize mtB a [] = p at *
      generalize mtB b [] = q at *
      cases p with
      | false =>
        go_wp2
        refine wp_region_noPanic ?_
        refine wp_region_held_drew (S := (fun V => (V.cell? ⟨w.heap.size, 0, none⟩ = some (.int .i64 k1) ∧ V.cell? ⟨w.heap.size, 1, none⟩ = some (.bool t1) ∧ V.cell? ⟨w.heap.size, 2, none⟩ = some (.slice a1 n1 ca1) ∧ V.cell? ⟨w.heap.size, 3, none⟩ = some (.slice b1 p1 cb1) ∧ V.cell? ⟨w.heap.size, 4, none⟩ = some (.slice c1 l1 cc1)) ∧ V.cell? ⟨w.heap.size + 1, 0, none⟩ = some (.int .i64 k2) ∧ V.cell? ⟨w.heap.size + 1, 1, none⟩ = some (.bool t2) ∧ V.cell? ⟨w.heap.size + 1, 2, none⟩ = some (.slice a2 n2 ca2) ∧ V.cell? ⟨w.heap.size + 1, 3, none⟩ = some (.slice b2 p2 cb2) ∧ V.cell? ⟨w.heap.size + 1, 4, none⟩ = some (.slice c2 l2 cc2))) (by kernel_rfl) ?_ (fun hHeld => ?_)
        · exact hs0
        refine tkV (i := 0) (d := some 14) (v := ?_) rfl (by kernel_rfl) (by kernel_rfl) (by kernel_rfl) rfl (fun _ _ _ h => h) (by rfl) ?_ (by assumption) ?_
        rotate_left
        · (intro w hSw; (try dsimp only at hSw); (try simp only [List.getElem_toArray, List.getElem_cons_zero]); go_simp; try with_reducible rfl)
        try simp only [Act.put, List.setIfInBounds_toArray, List.set_cons_zero, List.set_cons_succ]
        refine tkV (i := 1) (d := some 15) (v := ?_) rfl (by kernel_rfl) (by kernel_rfl) (by kernel_rfl) rfl (fun _ _ _ h => h) (by rfl) ?_ (by assumption) ?_
        rotate_left
        · (intro w hSw; (try dsimp only at hSw); (try simp only [List.getElem_toArray, List.getElem_cons_zero, List.getElem_cons_succ]); go_simp; try with_reducible rfl)
        try simp only [Act.put, List.setIfInBounds_toArray, List.set_cons_zero, List.set_cons_succ]
        refine tkV (i := 2) (d := some 16) (v := ?_) rfl (by kernel_rfl) (by kernel_rfl) (by kernel_rfl) rfl (fun _ _ _ h => h) (by rfl) ?_ (by assumption) ?_
        rotate_left
        · (intro w hSw; (try dsimp only at hSw); (try simp only [List.getElem_toArray, List.getElem_cons_zero, List.getElem_cons_succ]); go_simp; try with_reducible rfl)
        try simp only [Act.put, List.setIfInBounds_toArray, List.set_cons_zero, List.set_cons_succ]
        refine tkV (i := 3) (d := some 17) (v := ?_) rfl (by kernel_rfl) (by kernel_rfl) (by kernel_rfl) rfl (fun _ _ _ h => h) (by rfl) ?_ (by assumption) ?_
        rotate_left
        · (intro w hSw; (try dsimp only at hSw); (try simp only [List.getElem_toArray, List.getElem_cons_zero, List.getElem_cons_succ]); go_simp; try with_reducible rfl)
        try simp only [Act.put, List.setIfInBounds_toArray, List.set_cons_zero, List.set_cons_succ]
        refine wpAnyH_ready (rs := [4]) (by kernel_rfl) (by simp) (AllReadyH.cons rfl (fun K hK => ?_) AllReadyH.nil)
        try simp only [List.getElem_toArray, List.getElem_cons_zero, List.getElem_cons_succ]
        go_simp
        refine (HA.out _ HBd.out).mono ?_
        rintro r v1 ⟨rfl, hb1⟩
        have HB1 := hid0 (Below.later HBV0.out hb1)
        have HD1 := hid0 (Below.later HBd.out hb1)
        have hs1 := HSk.out _ HB1.out
        clear hb1
        go_wp2_with fail
        refine hK.out _ _ ?_ (fun hHeld4 => ?_)
        · exact hs1
        clear hK K
        (try simp only [Act.put]); (try simp only [List.setIfInBounds_toArray]); (try simp only [List.set_cons_succ]); (try simp only [List.set_cons_zero])
        refine tkV (i := 5) (d := some 19) (v := ?_) rfl (by kernel_rfl) (by kernel_rfl) (by kernel_rfl) rfl (fun _ _ _ h => h) (by rfl) ?_ (by assumption) ?_
        rotate_left
        · (intro w hSw; (try dsimp only at hSw); (try simp only [List.getElem_toArray, List.getElem_cons_zero, List.getElem_cons_succ]); go_simp; try with_reducible rfl)
        try simp only [Act.put, List.setIfInBounds_toArray, List.set_cons_zero, List.set_cons_succ]
        refine tkU (i := 6) (d := some 20) rfl (by kernel_rfl) (by kernel_rfl) (by kernel_rfl) rfl (fun _ _ _ h => h) (by rfl) (by assumption) ?_
        try simp only [Act.put, List.setIfInBounds_toArray, List.set_cons_zero, List.set_cons_succ]
        refine tkU (i := 7) (d := some 21) rfl (by kernel_rfl) (by kernel_rfl) (by kernel_rfl) rfl (fun _ _ _ h => h) (by rfl) (by assumption) ?_
        try simp only [Act.put, List.setIfInBounds_toArray, List.set_cons_zero, List.set_cons_succ]
        refine tkU (i := 8) (d := some 22) rfl (by kernel_rfl) (by kernel_rfl) (by kernel_rfl) rfl (fun _ _ _ h => h) (by rfl) (by assumption) ?_
        try simp only [Act.put, List.setIfInBounds_toArray, List.set_cons_zero, List.set_cons_succ]
        refine tkU (i := 9) (d := some 23) rfl (by kernel_rfl) (by kernel_rfl) (by kernel_rfl) rfl (fun _ _ _ h => h) (by rfl) (by assumption) ?_
        try simp only [Act.put, List.setIfInBounds_toArray, List.set_cons_zero, List.set_cons_succ]
        refine wpAnyH_ready (rs := [10]) (by kernel_rfl) (by simp) (AllReadyH.cons rfl (fun K hK => ?_) AllReadyH.nil)
        try simp only [List.getElem_toArray, List.getElem_cons_zero, List.getElem_cons_succ]
        go_simp
        refine hK.out _ _ ?_ (fun hHeld10 => ?_)
        · assumption
        clear hK K
        (try simp only [Act.put]); (try simp only [List.setIfInBounds_toArray]); (try simp only [List.set_cons_succ]); (try simp only [List.set_cons_zero])
        refine tkV (i := 11) (d := some 25) (v := ?_) rfl (by kernel_rfl) (by kernel_rfl) (by kernel_rfl) rfl (fun _ _ _ h => h) (by rfl) ?_ (by assumption) ?_
        rotate_left
        · (intro w hSw; (try dsimp only at hSw); (try simp only [List.getElem_toArray, List.getElem_cons_zero, List.getElem_cons_succ]); go_simp; try with_reducible rfl)
        try simp only [Act.put, List.setIfInBounds_toArray, List.set_cons_zero, List.set_cons_succ]
        refine wpAnyH_done (by kernel_rfl) ?_ _
        refine NoPanic.normal ?_
        go_wp2
        go_roundw
        case rel => exact ⟨1, by omega, by go_num, hid0 (fun i hi => by
          rw [show i = 0 by omega, HH.out]
          rfl), HB1⟩
        case measure => simp [intOf]
      | true =>
        cases q with
        | false =>
          go_wp2
          refine wp_region_noPanic ?_
          refine wp_region_held_drew (S := (fun V => (V.cell? ⟨w.heap.size, 0, none⟩ = some (.int .i64 k1) ∧ V.cell? ⟨w.heap.size, 1, none⟩ = some (.bool t1) ∧ V.cell? ⟨w.heap.size, 2, none⟩ = some (.slice a1 n1 ca1) ∧ V.cell? ⟨w.heap.size, 3, none⟩ = some (.slice b1 p1 cb1) ∧ V.cell? ⟨w.heap.size, 4, none⟩ = some (.slice c1 l1 cc1)) ∧ V.cell? ⟨w.heap.size + 1, 0, none⟩ = some (.int .i64 k2) ∧ V.cell? ⟨w.heap.size + 1, 1, none⟩ = some (.bool t2) ∧ V.cell? ⟨w.heap.size + 1, 2, none⟩ = some (.slice a2 n2 ca2) ∧ V.cell? ⟨w.heap.size + 1, 3, none⟩ = some (.slice b2 p2 cb2) ∧ V.cell? ⟨w.heap.size + 1, 4, none⟩ = some (.slice c2 l2 cc2))) (by kernel_rfl) ?_ (fun hHeld => ?_)
          · exact hs0
          refine tkV (i := 0) (d := some 14) (v := ?_) rfl (by kernel_rfl) (by kernel_rfl) (by kernel_rfl) rfl (fun _ _ _ h => h) (by rfl) ?_ (by assumption) ?_
          rotate_left
          · (intro w hSw; (try dsimp only at hSw); (try simp only [List.getElem_toArray, List.getElem_cons_zero]); go_simp; try with_reducible rfl)
          try simp only [Act.put, List.setIfInBounds_toArray, List.set_cons_zero, List.set_cons_succ]
          refine tkV (i := 1) (d := some 15) (v := ?_) rfl (by kernel_rfl) (by kernel_rfl) (by kernel_rfl) rfl (fun _ _ _ h => h) (by rfl) ?_ (by assumption) ?_
          rotate_left
          · (intro w hSw; (try dsimp only at hSw); (try simp only [List.getElem_toArray, List.getElem_cons_zero, List.getElem_cons_succ]); go_simp; try with_reducible rfl)
          try simp only [Act.put, List.setIfInBounds_toArray, List.set_cons_zero, List.set_cons_succ]
          refine tkV (i := 2) (d := some 16) (v := ?_) rfl (by kernel_rfl) (by kernel_rfl) (by kernel_rfl) rfl (fun _ _ _ h => h) (by rfl) ?_ (by assumption) ?_
          rotate_left
          · (intro w hSw; (try dsimp only at hSw); (try simp only [List.getElem_toArray, List.getElem_cons_zero, List.getElem_cons_succ]); go_simp; try with_reducible rfl)
          try simp only [Act.put, List.setIfInBounds_toArray, List.set_cons_zero, List.set_cons_succ]
          refine tkV (i := 3) (d := some 17) (v := ?_) rfl (by kernel_rfl) (by kernel_rfl) (by kernel_rfl) rfl (fun _ _ _ h => h) (by rfl) ?_ (by assumption) ?_
          rotate_left
          · (intro w hSw; (try dsimp only at hSw); (try simp only [List.getElem_toArray, List.getElem_cons_zero, List.getElem_cons_succ]); go_simp; try with_reducible rfl)
          try simp only [Act.put, List.setIfInBounds_toArray, List.set_cons_zero, List.set_cons_succ]
          refine wpAnyH_ready (rs := [4]) (by kernel_rfl) (by simp) (AllReadyH.cons rfl (fun K hK => ?_) AllReadyH.nil)
          try simp only [List.getElem_toArray, List.getElem_cons_zero, List.getElem_cons_succ]
          go_simp
          refine (HA.out _ HBd.out).mono ?_
          rintro r v1 ⟨rfl, hb1⟩
          have HB1 := hid0 (Below.later HBV0.out hb1)
          have HD1 := hid0 (Below.later HBd.out hb1)
          have hs1 := HSk.out _ HB1.out
          clear hb1
          go_wp2_with fail
          refine hK.out _ _ ?_ (fun hHeld4 => ?_)
          · exact hs1
          clear hK K
          (try simp only [Act.put]); (try simp only [List.setIfInBounds_toArray]); (try simp only [List.set_cons_succ]); (try simp only [List.set_cons_zero])
          refine tkV (i := 5) (d := some 19) (v := ?_) rfl (by kernel_rfl) (by kernel_rfl) (by kernel_rfl) rfl (fun _ _ _ h => h) (by rfl) ?_ (by assumption) ?_
          rotate_left
          · (intro w hSw; (try dsimp only at hSw); (try simp only [List.getElem_toArray, List.getElem_cons_zero, List.getElem_cons_succ]); go_simp; try with_reducible rfl)
          try simp only [Act.put, List.setIfInBounds_toArray, List.set_cons_zero, List.set_cons_succ]
          refine tkV (i := 6) (d := some 20) (v := ?_) rfl (by kernel_rfl) (by kernel_rfl) (by kernel_rfl) rfl (fun _ _ _ h => h) (by rfl) ?_ (by assumption) ?_
          rotate_left
          · (intro w hSw; (try dsimp only at hSw); (try simp only [List.getElem_toArray, List.getElem_cons_zero, List.getElem_cons_succ]); go_simp; try with_reducible rfl)
          try simp only [Act.put, List.setIfInBounds_toArray, List.set_cons_zero, List.set_cons_succ]
          refine tkV (i := 7) (d := some 21) (v := ?_) rfl (by kernel_rfl) (by kernel_rfl) (by kernel_rfl) rfl (fun _ _ _ h => h) (by rfl) ?_ (by assumption) ?_
          rotate_left
          · (intro w hSw; (try dsimp only at hSw); (try simp only [List.getElem_toArray, List.getElem_cons_zero, List.getElem_cons_succ]); go_simp; try with_reducible rfl)
          try simp only [Act.put, List.setIfInBounds_toArray, List.set_cons_zero, List.set_cons_succ]
          refine tkV (i := 8) (d := some 22) (v := ?_) rfl (by kernel_rfl) (by kernel_rfl) (by kernel_rfl) rfl (fun _ _ _ h => h) (by rfl) ?_ (by assumption) ?_
          rotate_left
          · (intro w hSw; (try dsimp only at hSw); (try simp only [List.getElem_toArray, List.getElem_cons_zero, List.getElem_cons_succ]); go_simp; try with_reducible rfl)
          try simp only [Act.put, List.setIfInBounds_toArray, List.set_cons_zero, List.set_cons_succ]
          refine tkV (i := 9) (d := some 23) (v := ?_) rfl (by kernel_rfl) (by kernel_rfl) (by kernel_rfl) rfl (fun _ _ _ h => h) (by rfl) ?_ (by assumption) ?_
          rotate_left
          · (intro w hSw; (try dsimp only at hSw); (try simp only [List.getElem_toArray, List.getElem_cons_zero, List.getElem_cons_succ]); go_simp; try with_reducible rfl)
          try simp only [Act.put, List.setIfInBounds_toArray, List.set_cons_zero, List.set_cons_succ]
          refine wpAnyH_ready (rs := [10]) (by kernel_rfl) (by simp) (AllReadyH.cons rfl (fun K hK => ?_) AllReadyH.nil)
          try simp only [List.getElem_toArray, List.getElem_cons_zero, List.getElem_cons_succ]
          go_simp
          refine (HC.out _ HD1.out).mono ?_
          rintro r v2 ⟨rfl, hb2⟩
          have HB2 := hid0 (Below.later HB1.out hb2)
          have HD2 := hid0 (Below.later HD1.out hb2)
          have hs2 := HSk.out _ HB2.out
          clear hb2
          go_wp2_with fail
          refine hK.out _ _ ?_ (fun hHeld10 => ?_)
          · exact hs2
          clear hK K
          (try simp only [Act.put]); (try simp only [List.setIfInBounds_toArray]); (try simp only [List.set_cons_succ]); (try simp only [List.set_cons_zero])
          refine tkV (i := 11) (d := some 25) (v := ?_) rfl (by kernel_rfl) (by kernel_rfl) (by kernel_rfl) rfl (fun _ _ _ h => h) (by rfl) ?_ (by assumption) ?_
          rotate_left
          · (intro w hSw; (try dsimp only at hSw); (try simp only [List.getElem_toArray, List.getElem_cons_zero, List.getElem_cons_succ]); go_simp; try with_reducible rfl)
          try simp only [Act.put, List.setIfInBounds_toArray, List.set_cons_zero, List.set_cons_succ]
          refine wpAnyH_done (by kernel_rfl) ?_ _
          refine NoPanic.normal ?_
          go_wp2
          go_roundw
          case rel => exact ⟨1, by omega, by go_num, hid0 (fun i hi => by
            rw [show i = 0 by omega, HH.out]
            rfl), HB2⟩
          case measure => simp [intOf]
        | true =>
          go_wp2
          refine wp_region_noPanic ?_
          refine wp_region_held_drew (S := (fun V => (V.cell? ⟨w.heap.size, 0, none⟩ = some (.int .i64 k1) ∧ V.cell? ⟨w.heap.size, 1, none⟩ = some (.bool t1) ∧ V.cell? ⟨w.heap.size, 2, none⟩ = some (.slice a1 n1 ca1) ∧ V.cell? ⟨w.heap.size, 3, none⟩ = some (.slice b1 p1 cb1) ∧ V.cell? ⟨w.heap.size, 4, none⟩ = some (.slice c1 l1 cc1)) ∧ V.cell? ⟨w.heap.size + 1, 0, none⟩ = some (.int .i64 k2) ∧ V.cell? ⟨w.heap.size + 1, 1, none⟩ = some (.bool t2) ∧ V.cell? ⟨w.heap.size + 1, 2, none⟩ = some (.slice a2 n2 ca2) ∧ V.cell? ⟨w.heap.size + 1, 3, none⟩ = some (.slice b2 p2 cb2) ∧ V.cell? ⟨w.heap.size + 1, 4, none⟩ = some (.slice c2 l2 cc2))) (by kernel_rfl) ?_ (fun hHeld => ?_)
          · exact hs0
          refine tkV (i := 0) (d := some 14) (v := ?_) rfl (by kernel_rfl) (by kernel_rfl) (by kernel_rfl) rfl (fun _ _ _ h => h) (by rfl) ?_ (by assumption) ?_
          rotate_left
          · (intro w hSw; (try dsimp only at hSw); (try simp only [List.getElem_toArray, List.getElem_cons_zero]); go_simp; try with_reducible rfl)
          try simp only [Act.put, List.setIfInBounds_toArray, List.set_cons_zero, List.set_cons_succ]
          refine tkV (i := 1) (d := some 15) (v := ?_) rfl (by kernel_rfl) (by kernel_rfl) (by kernel_rfl) rfl (fun _ _ _ h => h) (by rfl) ?_ (by assumption) ?_
          rotate_left
          · (intro w hSw; (try dsimp only at hSw); (try simp only [List.getElem_toArray, List.getElem_cons_zero, List.getElem_cons_succ]); go_simp; try with_reducible rfl)
          try simp only [Act.put, List.setIfInBounds_toArray, List.set_cons_zero, List.set_cons_succ]
          refine tkV (i := 2) (d := some 16) (v := ?_) rfl (by kernel_rfl) (by kernel_rfl) (by kernel_rfl) rfl (fun _ _ _ h => h) (by rfl) ?_ (by assumption) ?_
          rotate_left
          · (intro w hSw; (try dsimp only at hSw); (try simp only [List.getElem_toArray, List.getElem_cons_zero, List.getElem_cons_succ]); go_simp; try with_reducible rfl)
          try simp only [Act.put, List.setIfInBounds_toArray, List.set_cons_zero, List.set_cons_succ]
          refine tkV (i := 3) (d := some 17) (v := ?_) rfl (by kernel_rfl) (by kernel_rfl) (by kernel_rfl) rfl (fun _ _ _ h => h) (by rfl) ?_ (by assumption) ?_
          rotate_left
          · (intro w hSw; (try dsimp only at hSw); (try simp only [List.getElem_toArray, List.getElem_cons_zero, List.getElem_cons_succ]); go_simp; try with_reducible rfl)
          try simp only [Act.put, List.setIfInBounds_toArray, List.set_cons_zero, List.set_cons_succ]
          refine wpAnyH_ready (rs := [4]) (by kernel_rfl) (by simp) (AllReadyH.cons rfl (fun K hK => ?_) AllReadyH.nil)
          try simp only [List.getElem_toArray, List.getElem_cons_zero, List.getElem_cons_succ]
          go_simp
          refine (HA.out _ HBd.out).mono ?_
          rintro r v1 ⟨rfl, hb1⟩
          have HB1 := hid0 (Below.later HBV0.out hb1)
          have HD1 := hid0 (Below.later HBd.out hb1)
          have hs1 := HSk.out _ HB1.out
          clear hb1
          go_wp2_with fail
          refine hK.out _ _ ?_ (fun hHeld4 => ?_)
          · exact hs1
          clear hK K
          (try simp only [Act.put]); (try simp only [List.setIfInBounds_toArray]); (try simp only [List.set_cons_succ]); (try simp only [List.set_cons_zero])
          refine tkV (i := 5) (d := some 19) (v := ?_) rfl (by kernel_rfl) (by kernel_rfl) (by kernel_rfl) rfl (fun _ _ _ h => h) (by rfl) ?_ (by assumption) ?_
          rotate_left
          · (intro w hSw; (try dsimp only at hSw); (try simp only [List.getElem_toArray, List.getElem_cons_zero, List.getElem_cons_succ]); go_simp; try with_reducible rfl)
          try simp only [Act.put, List.setIfInBounds_toArray, List.set_cons_zero, List.set_cons_succ]
          refine tkV (i := 6) (d := some 20) (v := ?_) rfl (by kernel_rfl) (by kernel_rfl) (by kernel_rfl) rfl (fun _ _ _ h => h) (by rfl) ?_ (by assumption) ?_
          rotate_left
          · (intro w hSw; (try dsimp only at hSw); (try simp only [List.getElem_toArray, List.getElem_cons_zero, List.getElem_cons_succ]); go_simp; try with_reducible rfl)
          try simp only [Act.put, List.setIfInBounds_toArray, List.set_cons_zero, List.set_cons_succ]
          refine tkV (i := 7) (d := some 21) (v := ?_) rfl (by kernel_rfl) (by kernel_rfl) (by kernel_rfl) rfl (fun _ _ _ h => h) (by rfl) ?_ (by assumption) ?_
          rotate_left
          · (intro w hSw; (try dsimp only at hSw); (try simp only [List.getElem_toArray, List.getElem_cons_zero, List.getElem_cons_succ]); go_simp; try with_reducible rfl)
          try simp only [Act.put, List.setIfInBounds_toArray, List.set_cons_zero, List.set_cons_succ]
          refine tkV (i := 8) (d := some 22) (v := ?_) rfl (by kernel_rfl) (by kernel_rfl) (by kernel_rfl) rfl (fun _ _ _ h => h) (by rfl) ?_ (by assumption) ?_
          rotate_left
          · (intro w hSw; (try dsimp only at hSw); (try simp only [List.getElem_toArray, List.getElem_cons_zero, List.getElem_cons_succ]); go_simp; try with_reducible rfl)
          try simp only [Act.put, List.setIfInBounds_toArray, List.set_cons_zero, List.set_cons_succ]
          refine tkV (i := 9) (d := some 23) (v := ?_) rfl (by kernel_rfl) (by kernel_rfl) (by kernel_rfl) rfl (fun _ _ _ h => h) (by rfl) ?_ (by assumption) ?_
          rotate_left
          · (intro w hSw; (try dsimp only at hSw); (try simp only [List.getElem_toArray, List.getElem_cons_zero, List.getElem_cons_succ]); go_simp; try with_reducible rfl)
          try simp only [Act.put, List.setIfInBounds_toArray, List.set_cons_zero, List.set_cons_succ]
          refine wpAnyH_ready (rs := [10]) (by kernel_rfl) (by simp) (AllReadyH.cons rfl (fun K hK => ?_) AllReadyH.nil)
          try simp only [List.getElem_toArray, List.getElem_cons_zero, List.getElem_cons_succ]
          go_simp
          refine (HC.out _ HD1.out).mono ?_
          rintro r v2 ⟨rfl, hb2⟩
          have HB2 := hid0 (Below.later HB1.out hb2)
          have HD2 := hid0 (Below.later HD1.out hb2)
          have hs2 := HSk.out _ HB2.out
          clear hb2
          go_wp2_with fail
          refine hK.out _ _ ?_ (fun hHeld10 => ?_)
          · exact hs2
          clear hK K
          (try simp only [Act.put]); (try simp only [List.setIfInBounds_toArray]); (try simp only [List.set_cons_succ]); (try simp only [List.set_cons_zero])
          refine tkV (i := 11) (d := some 25) (v := ?_) rfl (by kernel_rfl) (by kernel_rfl) (by kernel_rfl) rfl (fun _ _ _ h => h) (by rfl) ?_ (by assumption) ?_
          rotate_left
          · (intro w hSw; (try dsimp only at hSw); (try simp only [List.getElem_toArray, List.getElem_cons_zero, List.getElem_cons_succ]); go_simp; try with_reducible rfl)
          try simp only [Act.put, List.setIfInBounds_toArray, List.set_cons_zero, List.set_cons_succ]
          refine wpAnyH_done (by kernel_rfl) ?_ _
          refine NoPanic.normal ?_
          go_wp2
          go_ret
          exact ⟨by rw [splitB_yes (Nat.le_refl _) HH.out]; rfl, HD2.out⟩
    · have hj1 : j = 1 := by omega
      subst hj1
      have HF : Hid (splitB a b [] = false) := hid0 (splitB_no (fun i hi => HNo.out i (by simpa using hi)))
      go_wp2
      go_ret
      exact ⟨by rw [HF.out]; rfl, Below.later HB.out HBw.out⟩
theorem split_any (a b : Ex) (x y : EV) (Q Q' : Nat → Prop) (l : List Kd) (v : Value) (A : Nat → Addr) (w : World) (hl : l.length ≤ 12) (hx : ExIs w Q a x) (hy : ExIs w Q' b y) (hE : E3 w A) (hv : WV w v l) :
    Calls Tryd.prog 11 #[x.v, y.v, v] w fun r w' => r = .returned (.bool (splitB a b l)) ∧ Below w.heap.size w w' := by
  cases hv with
  | none => exact split_none a b x y Q Q' A w hx hy hE
  | some g off c _ hc h => exact split_some a b x y Q Q' l g off c A w hl hc hx hy hE h
end Go.Proofs.YtolnoojbcbdfiaaDoor
namespace Go.Proofs.YtolnoojbcbdfiaaDoor
open Go.RowKit Go.Shelf
theorem one_is {w1 w2 : World} {t : Ex} {y : EV} {B : Nat} (T : TypeId) (q : Int) (hy : ExIs w1 (fun g => B ≤ g) t y) (hB : B ≤ w1.heap.size) (h2 : w1.alloc (.cells #[y.k, y.t, y.n, y.p, y.r] T) = w2) :
    ExIs w2 (fun g => B ≤ g) (.mk q false [] [] [t]) ⟨.int .i64 q, .bool false, .slice none 0 0, .slice none 0 0, .slice (some ⟨w1.heap.size, 0, none⟩) 1 1⟩ := by
  have hr : w2.heap[w1.heap.size]? = some (.cells #[y.k, y.t, y.n, y.p, y.r] T (0, 0)) := by rw [← h2]; exact heap_alloc_new w1 _
  have hb : Below w1.heap.size w1 w2 := by rw [← h2]; exact (Below.refl _ _).alloc (Nat.le_refl _) _
  obtain ⟨⟨a0, a1, a2, a3, a4⟩, _⟩ := rowE hr
  refine .mk q false [] [] [t] none 0 none 0 (some ⟨w1.heap.size, 0, none⟩) 1 (fun _ => y) (SQ.nil _ _ _) (RQ.nil _ _ _) (by simp) (by simp) (by simp) (fun i hi => ?_) (fun i hi => ?_)
  · have : i = 0 := by simpa using hi
    subst this
    exact ⟨w1.heap.size, 0, rfl, hB, a0, a1, a2, a3, a4⟩
  · have : i = 0 := by simpa using hi
    subst this
    exact hy.past hb
/-- What is asked of tidy at a part. -/
def TidyP (n : Nat) (e : Ex) : Prop := ∀ (W : World) (y : EV), ExIn W e y → Calls Tryd.prog 5 #[y.v, .int .i64 (n : Int)] W fun r w' => ExR W (tidyE n e) r w'
/-- An expression of one part is stored. -/
theorem one_done {w W w1 : World} {t : Ex} {k5 : Int} {u5 : Bool} {a5 b5 g5 : Option Addr} {m5 c5 n5 d5 l5 z5 : Nat} (q : Int) (T : TypeId) {a0 b0 c0 d0 e0 : Value} (bel : Below w.heap.size w W) (hs : W.heap.size = w.heap.size + 2) (hr : W.heap[w.heap.size + 1]? = some (.cells #[a0, b0, c0, d0, e0] T (0, 0)))
    (hy : ExIs w1 (fun g => W.heap.size ≤ g) t ⟨.int .i64 k5, .bool u5, .slice a5 m5 c5, .slice b5 n5 d5, .slice g5 l5 z5⟩) (hb : Below W.heap.size W w1) :
    ∃ w2 V, w1.alloc (.cells #[.int .i64 k5, .bool u5, .slice a5 m5 c5, .slice b5 n5 d5, .slice g5 l5 z5] T) = w2 ∧ w2.heap[w.heap.size + 1]? = some (.cells #[a0, b0, c0, d0, e0] T (0, 0)) ∧ V = setE w2 (w.heap.size + 1) (.int .i64 q) (.bool false) (.slice none 0 0) (.slice none 0 0) (.slice (some ⟨w1.heap.size, 0, none⟩) 1 1) ∧
      V.heap[w.heap.size + 1]? = some (.cells #[.int .i64 q, .bool false, .slice none 0 0, .slice none 0 0, .slice (some ⟨w1.heap.size, 0, none⟩) 1 1] T (0, 0)) ∧ ExR w (.mk q false [] [] [t]) (.returned (.agg #[.int .i64 q, .bool false, .slice none 0 0, .slice none 0 0, .slice (some ⟨w1.heap.size, 0, none⟩) 1 1])) V := by
  have h1 := one_is (w2 := w1.alloc (.cells #[.int .i64 k5, .bool u5, .slice a5 m5 c5, .slice b5 n5 d5, .slice g5 l5 z5] T)) T q hy hb.size rfl
  have hb2 : Below w1.heap.size w1 (w1.alloc (.cells #[.int .i64 k5, .bool u5, .slice a5 m5 c5, .slice b5 n5 d5, .slice g5 l5 z5] T)) := (Below.refl _ _).alloc (Nat.le_refl _) _
  generalize w1.alloc (.cells #[.int .i64 k5, .bool u5, .slice a5 m5 c5, .slice b5 n5 d5, .slice g5 l5 z5] T) = w2 at *
  have hb3 := Below.later hb hb2
  have hr2 := (hb3.block (w.heap.size + 1) (by omega)).trans hr
  have hd := ret_done (Below.later bel hb3) (Nat.le_succ _) hr2 (show w.heap.size + 1 < W.heap.size by omega) h1
  unfold EV.v at hd
  dsimp only at hd
  obtain ⟨V, e1, e2, e3⟩ := hd
  exact ⟨w2, V, rfl, hr2, e1, e2, e3⟩
set_option maxRecDepth 10000 in
set_option maxHeartbeats 1600000 in
theorem tidy_one (n : Nat) (hn : n ≤ 100) (k : Int) (nt : Bool) (sN sP : Value) (g off m cc : Nat) (p : Ex) (y : EV) (w : World) (hm : 0 < m) (h34 : ¬ (kindT k = 3 ∨ kindT k = 4)) (h5 : Five w g off y) (hp : ExIn w p y) (ih : TidyP n p) :
    Calls Tryd.prog 5 #[.agg #[.int .i64 k, .bool nt, sN, sP, .slice (some ⟨g, off, none⟩) m cc], .int .i64 ((n + 1 : Nat) : Int)] w fun r w' => ExR w (.mk (oneK (kindT k)) false [] [] [tidyE n p]) r w' := by
  obtain ⟨W, hW⟩ : ∃ W, (w.alloc (.cells #[.int .i64 k, .bool nt, sN, sP, .slice (some ⟨g, off, none⟩) m cc] 28)).alloc (.cells #[.int .i64 0, .bool false, .slice none 0 0, .slice none 0 0, .slice none 0 0] 28) = W := ⟨_, rfl⟩
  obtain ⟨hr0, hr1, hb, hs⟩ := two_rows w _ _ _ _ _ _ _ _ _ _ _ W hW.symm
  obtain ⟨⟨x0, x1, x2, x3, x4⟩, _⟩ := rowE hr0
  obtain ⟨p0, p1, p2, p3, p4⟩ := h5.past hb
  have HR1 := hid0 hr1
  have HB := hid0 hb
  have HS := hid0 hs
  have HIH := hid0 (fun (V : World) (hV : Below W.heap.size W V) => ih V y ((hp.past hb).past hV))
  cases hp with
  | mk k1 nt1 N1 P1 L1 a1 ca1 b1 cb1 c1 cc1 vs1 hN1 hP1 hL1 hR1' =>
  unfold EV.v at HIH
  dsimp only at HIH p0 p1 p2 p3 p4
  clear hN1 hP1 hL1 hR1' ih h5
  obtain ⟨pk, hpk⟩ : ∃ pk, pk = pickN (IntKind.i64.wrap (k - 1)) 7 := ⟨_, rfl⟩
  obtain ⟨kq, hkq⟩ : ∃ kq, IntKind.i64.wrap (k - 1) = kq := ⟨_, rfl⟩
  have HPk := hid0 (fun V => pick_at kq 7 (by omega) (by omega) V)
  have hp7 : pk < 7 := by rw [hpk]; exact pickN_lt _ _ (by omega)
  rw [← hkq, ← hpk] at HPk
  rw [hkq] at HPk
  have HKT : Hid (kindT k = 1 + pk) := hid0 (by rw [hpk]; rfl)
  obtain ⟨kt, hkt⟩ : ∃ kt : Int, kt = 1 + (pk : Int) := ⟨_, rfl⟩
  have hadd : IntKind.i64.wrap (1 + (pk : Int)) = kt := by rw [hkt]; simp [IntKind.wrap, IntKind.bits, IntKind.signed]; omega
  have h3 : ¬ (kt = 3) := fun e => h34 (.inl (by have := HKT.out; omega))
  have h4 : ¬ (kt = 4) := fun e => h34 (.inr (by have := HKT.out; omega))
  have h3B : (kt != 3) = true := by simpa using h3
  have h4B : (kt != 4) = true := by simpa using h4
  have hmI : ¬ ((m : Int) = 0) := by omega
  have hm1 : (0 : Int) < (m : Int) := by omega
  have hmB : ((m : Int) == 0) = false := by simp; omega
  have hl0 : ¬ (((n + 1 : Nat) : Int) = 0) := by omega
  have hsub : IntKind.i64.wrap (((n + 1 : Nat) : Int) - 1) = (n : Int) := by simp [IntKind.wrap, IntKind.bits, IntKind.signed]; omega
  generalize ((n + 1 : Nat) : Int) = lv at *
  have hlB : (lv == 0) = false := by simpa using hl0
  have HKt := hid0 hkt
  have HH := hid0 h34
  clear hb hs hr0 hr1 hpk hkt h34
  by_cases hlt : kt < 5
  · have HOn : Hid (((oneK (kindT k) : Nat) : Int) = 5) := hid0 (by have := HKT.out; have := HKt.out; unfold oneK; rw [if_pos (by omega)]; rfl)
    go_enter Tryd.func5, Tryd.ntmps5
    go_wp2_with (first
      | (go_at_call 19; refine (HPk.out _).mono ?_; rintro r w1 ⟨rfl, rfl⟩)
      | (go_at_call 5; refine (HIH.out _ (Below.refl _ _)).mono ?_; rintro r w1 hr; obtain ⟨k5, u5, a5, m5, c5, b5, n5, d5, g5, l5, z5, rfl, q1, q2⟩ := hr.shape; obtain ⟨w2, V, e1, e2, e3, e4, e5⟩ := one_done 5 28 HB.out HS.out HR1.out q1 q2; have HR := hid0 e5; have HVr := hid0 e4; unfold setE at e3; have HV := hid0 e3; obtain ⟨⟨z0, z1, z2, z3, z4⟩, g0, g1, g2, g3, g4⟩ := rowE e2; clear q1 q2 e2 e3 e4 e5 hr)
      | fail)
    rw [← HV.out]
    obtain ⟨⟨k0, k1, k2, k3, k4⟩, _⟩ := rowE HVr.out
    exact bodyPost_ret (v := .agg #[.int .i64 5, .bool false, .slice none 0 0, .slice none 0 0, .slice (some ⟨w1.heap.size, 0, none⟩) 1 1]) (by simp [results, Tryd.results5, go_sem, k0, k1, k2, k3, k4]) rfl (by rw [HOn.out]; exact HR.out)
  · have HOn : Hid (((oneK (kindT k) : Nat) : Int) = kt) := hid0 (by have := HKT.out; have := HKt.out; unfold oneK; rw [if_neg (by omega)]; omega)
    go_enter Tryd.func5, Tryd.ntmps5
    go_wp2_with (first
      | (go_at_call 19; refine (HPk.out _).mono ?_; rintro r w1 ⟨rfl, rfl⟩)
      | (go_at_call 5; refine (HIH.out _ (Below.refl _ _)).mono ?_; rintro r w1 hr; obtain ⟨k5, u5, a5, m5, c5, b5, n5, d5, g5, l5, z5, rfl, q1, q2⟩ := hr.shape; obtain ⟨w2, V, e1, e2, e3, e4, e5⟩ := one_done kt 28 HB.out HS.out HR1.out q1 q2; have HR := hid0 e5; have HVr := hid0 e4; unfold setE at e3; have HV := hid0 e3; obtain ⟨⟨z0, z1, z2, z3, z4⟩, g0, g1, g2, g3, g4⟩ := rowE e2; clear q1 q2 e2 e3 e4 e5 hr)
      | fail)
    rw [← HV.out]
    obtain ⟨⟨k0, k1, k2, k3, k4⟩, _⟩ := rowE HVr.out
    exact bodyPost_ret (v := .agg #[.int .i64 kt, .bool false, .slice none 0 0, .slice none 0 0, .slice (some ⟨w1.heap.size, 0, none⟩) 1 1]) (by simp [results, Tryd.results5, go_sem, k0, k1, k2, k3, k4]) rfl (by rw [HOn.out]; exact HR.out)
end Go.Proofs.YtolnoojbcbdfiaaDoor
namespace Go.Proofs.YtolnoojbcbdfiaaDoor
open Go.RowKit Go.Shelf
theorem szT_le {n : Nat} (h : n ≤ 4) : szT n ≤ 121 := by
  rcases (show n = 0 ∨ n = 1 ∨ n = 2 ∨ n = 3 ∨ n = 4 by omega) with rfl | rfl | rfl | rfl | rfl <;> decide
/-- What the rounds of tidy make. -/
def flatT (n : Nat) (k : Int) (L : List Ex) (j : Nat) : List Ex := (L.take j).flatMap fun x => gl k (tidyE n x)
theorem flatT_succ (n : Nat) (k : Int) (L : List Ex) (j : Nat) (h : j < L.length) : flatT n k L (j + 1) = flatT n k L j ++ gl k (tidyE n L[j]) := by
  unfold flatT
  rw [List.take_add_one, List.getElem?_eq_getElem h, List.flatMap_append]
  simp
theorem flatT_len {n : Nat} (hn : n ≤ 4) (k : Int) (L : List Ex) (j : Nat) (h : j ≤ 3) : (flatT n k L j).length ≤ 363 := by
  have h1 := len_le_sizes (flatT n k L j)
  have h2 := flat_size k (tidyE n) (szT n) (L.take j) (fun x _ => (tidy_wf n x).2)
  have h3 : (L.take j).length * szT n ≤ 3 * 121 := Nat.mul_le_mul (by rw [List.length_take]; omega) (szT_le hn)
  unfold flatT at *
  omega
theorem parts_tidy {n : Nat} (hn : n ≤ 4) (e : Ex) : (tidyE n e).parts.length ≤ 121 := by
  have h1 := parts_le (e := tidyE n e)
  have h2 := (tidy_wf n e).2
  have h3 := szT_le hn
  omega
theorem node_many (k : Int) {l : List Ex} (h : 2 ≤ l.length) : nodeE k l = .mk k false [] [] l := by
  match l, h with
  | x :: y :: l, _ => rfl
/-- What stands between the rounds. -/
structure RowI (W wr : World) (n : Nat) (k : Int) (L : List Ex) (j : Nat) (v : Value) : Prop where
  pe : ∃ ys, PE wr W.heap.size (fun b => W.heap.size ≤ b) v (flatT n k L j) ys
  bel : Below W.heap.size W wr
theorem RowI.first (W : World) (n : Nat) (k : Int) (L : List Ex) : RowI W W n k L 0 (.slice none 0 0) := ⟨⟨[], by unfold flatT; exact PE.nil _ _ _⟩, Below.refl _ _⟩
theorem ownB_lt {W : World} {lo : Nat} {Q : Nat → Prop} {v : Value} {L : List Ex} {xs : List EV} (h : PE W lo Q v L xs) : ∀ q, v.ownBlock = some q → lo ≤ q ∧ q < W.heap.size := fun q e => World.ownsRow.lt h.own q e
/-- A part is made, laid into a block of its own, and glued. -/
theorem RowI.ask {W wr w1 w2 : World} {n : Nat} {k : Int} {L : List Ex} {j : Nat} {v : Value} (h : RowI W wr n k L j v) (hn : n ≤ 4) (hj : j < 3) {t : Ex} {y : EV} (ht : t.parts.length ≤ 121) (hy : ExIs w1 (fun g => wr.heap.size ≤ g) t y) (hb : Below wr.heap.size wr w1) (h2 : Below w1.heap.size w1 w2) :
    Calls Tryd.prog 8 #[v, y.v, .int .i64 k] w2 fun r w' => ∃ v', r = .returned v' ∧ (∃ ys, PE w' W.heap.size (fun b => W.heap.size ≤ b) v' (flatT n k L j ++ gl k t) ys) ∧ Below W.heap.size W w' := by
  obtain ⟨ys, hp⟩ := h.pe
  have hb2 := Below.later hb h2
  have hs := h.bel.size
  have hy2 : ExIs w2 (fun b => W.heap.size ≤ b ∧ v.ownBlock ≠ some b) t y := (hy.mono (fun g _ hg => ⟨by omega, fun e => by have := (ownB_lt hp g e).2; omega⟩)).past h2
  refine (glued_any k (flatT n k L j) ys v t y _ W.heap.size w2 (hp.past hb2) hy2 (Nat.le_trans hs hb2.size) (by have := flatT_len hn k L j (by omega); omega)).mono ?_
  rintro r w' ⟨v', xs, rfl, q1, q2⟩
  exact ⟨v', rfl, ⟨xs, q1⟩, q2.below (Below.later h.bel hb2) (Nat.le_trans hs hb2.size) (fun q e => (ownB_lt hp q e).1)⟩
theorem RowI.done {w W wr : World} {n : Nat} {k : Int} {L : List Ex} {v : Value} (h : RowI W wr n k L 3 v) (hn : n ≤ 4) {T : TypeId} {a0 b0 c0 d0 e0 : Value} (bel : Below w.heap.size w W) (hs : W.heap.size = w.heap.size + 2) (hr : W.heap[w.heap.size + 1]? = some (.cells #[a0, b0, c0, d0, e0] T (0, 0))) :
    wr.heap[w.heap.size + 1]? = some (.cells #[a0, b0, c0, d0, e0] T (0, 0)) ∧ ∃ a c, v = .slice a (flatT n k L 3).length c ∧
    ((flatT n k L 3).length = 0 → ∃ V, V = setE wr (w.heap.size + 1) (.int .i64 1) (.bool false) (.slice none 0 0) (.slice none 0 0) (.slice none 0 0) ∧ V.heap[w.heap.size + 1]? = some (.cells #[.int .i64 1, .bool false, .slice none 0 0, .slice none 0 0, .slice none 0 0] T (0, 0)) ∧ ExR w (nodeE k (flatT n k L 3)) (.returned (.agg #[.int .i64 1, .bool false, .slice none 0 0, .slice none 0 0, .slice none 0 0])) V) ∧
    ((flatT n k L 3).length = 1 → ∃ g k5 u5 a5 m5 c5 b5 n5 d5 g5 l5 z5, a = some ⟨g, 0, none⟩ ∧ Five wr g 0 ⟨.int .i64 k5, .bool u5, .slice a5 m5 c5, .slice b5 n5 d5, .slice g5 l5 z5⟩ ∧ ∃ V, V = setE wr (w.heap.size + 1) (.int .i64 k5) (.bool u5) (.slice a5 m5 c5) (.slice b5 n5 d5) (.slice g5 l5 z5) ∧ V.heap[w.heap.size + 1]? = some (.cells #[.int .i64 k5, .bool u5, .slice a5 m5 c5, .slice b5 n5 d5, .slice g5 l5 z5] T (0, 0)) ∧ ExR w (nodeE k (flatT n k L 3)) (.returned (.agg #[.int .i64 k5, .bool u5, .slice a5 m5 c5, .slice b5 n5 d5, .slice g5 l5 z5])) V) ∧
    (2 ≤ (flatT n k L 3).length → ∃ V, V = setE wr (w.heap.size + 1) (.int .i64 k) (.bool false) (.slice none 0 0) (.slice none 0 0) v ∧ V.heap[w.heap.size + 1]? = some (.cells #[.int .i64 k, .bool false, .slice none 0 0, .slice none 0 0, v] T (0, 0)) ∧ ExR w (nodeE k (flatT n k L 3)) (.returned (.agg #[.int .i64 k, .bool false, .slice none 0 0, .slice none 0 0, v])) V) := by
  obtain ⟨ys, hp⟩ := h.pe
  have hl := flatT_len hn k L 3 (Nat.le_refl _)
  obtain ⟨a, c, hv⟩ := hp.form
  have hr2 := (h.bel.block (w.heap.size + 1) (by omega)).trans hr
  have hb2 := Below.later bel h.bel
  have hX : w.heap.size + 1 < W.heap.size := by omega
  refine ⟨hr2, a, c, hv, fun h0 => ?_, fun h1 => ?_, fun h2 => ?_⟩
  · rw [List.length_eq_zero_iff.1 h0]
    have hd := ret_done hb2 (Nat.le_succ _) hr2 hX (empty_is wr _)
    unfold EV.v at hd
    dsimp only at hd
    exact hd
  · obtain ⟨x, hx⟩ := List.length_eq_one_iff.1 h1
    rw [hx] at hp hv h1 ⊢
    obtain ⟨g, c', e, hg, h5⟩ := hp.cells 0 (by simp) (by rw [hp.len]; simp)
    have his := (hp.is 0 (by simp) (by rw [hp.len]; simp)).mono (Q' := fun b => W.heap.size ≤ b) (fun g _ hq => hq.1)
    rw [hv] at e
    cases e
    simp only [List.getElem_cons_zero] at his
    generalize ys[0]'(by rw [hp.len]; simp) = y at *
    cases his with
    | mk k5 u5 N5 P5 L5 a5 ca5 b5 cb5 c5 cc5 vs5 hN5 hP5 lN5 lP5 lL5 hL5 hR5 =>
      have hd := ret_done hb2 (Nat.le_succ _) hr2 hX (ExIs.mk k5 u5 N5 P5 L5 a5 ca5 b5 cb5 c5 cc5 vs5 hN5 hP5 lN5 lP5 lL5 hL5 hR5)
      unfold EV.v at hd
      dsimp only at hd
      exact ⟨g, k5, u5, a5, N5.length, ca5, b5, P5.length, cb5, c5, L5.length, cc5, rfl, by simpa using h5, hd⟩
  · obtain ⟨c1, c2, e, hx⟩ := hp.ex (fun g hg => hg) (by omega) k
    rw [e]
    have hd := ret_done hb2 (Nat.le_succ _) hr2 hX hx
    unfold EV.v at hd
    dsimp only at hd
    rw [node_many k h2]
    exact hd
end Go.Proofs.YtolnoojbcbdfiaaDoor
namespace Go.Proofs.YtolnoojbcbdfiaaDoor
open Go.RowKit Go.Shelf
/-- An expression that is answered; its parts may lie where others do. -/
def ExT (w : World) (t : Ex) (r : Ending) (w' : World) : Prop := ∃ y : EV, r = .returned y.v ∧ ExIs w' (fun _ => True) t y ∧ Below w.heap.size w w'
theorem ExT.shape {w w' : World} {t : Ex} {r : Ending} (h : ExT w t r w') : ∃ k u a m c b n d g l z, r = .returned (.agg #[.int .i64 k, .bool u, .slice a m c, .slice b n d, .slice g l z]) ∧ ExIs w' (fun _ => True) t ⟨.int .i64 k, .bool u, .slice a m c, .slice b n d, .slice g l z⟩ ∧ Below w.heap.size w w' := by
  obtain ⟨y, e, h1, h2⟩ := h
  obtain ⟨k, u, a, m, c, b, n, d, g, l, z, rfl⟩ := h1.flat
  exact ⟨k, u, a, m, c, b, n, d, g, l, z, e, h1, h2⟩
theorem ret_done2 {w W : World} {X : Nat} {t : TypeId} {a0 b0 c0 d0 e0 : Value} {e : Ex} {y : EV} (bel : Below w.heap.size w W) (hX : w.heap.size ≤ X) (hr : W.heap[X]? = some (.cells #[a0, b0, c0, d0, e0] t (0, 0))) (hy : ExIs W (fun g => g ≠ X) e y) :
    ∃ V, V = setE W X y.k y.t y.n y.p y.r ∧ V.heap[X]? = some (.cells #[y.k, y.t, y.n, y.p, y.r] t (0, 0)) ∧ ExT w e (.returned y.v) V :=
  ⟨_, rfl, setE_row hr _ _ _ _ _, y, rfl, (hy.keeps (setE_keeps (W := W) (X := X) y.k y.t y.n y.p y.r)).mono (fun _ _ _ => trivial), setE_below bel hX _ _ _ _ _⟩
/-- The end of seq: no part, one, more. -/
theorem seq_done {w W wr : World} {X lo : Nat} {k : Int} {F : List Ex} {v : Value} {ys : List EV} (hp : PE wr lo (fun b => b ≠ X) v F ys) (hlo : X < lo) (hl : F.length ≤ 1000000) {T : TypeId} {a0 b0 c0 d0 e0 : Value} (bel : Below w.heap.size w W) (hX : w.heap.size ≤ X) (hXW : X < W.heap.size) (hr : W.heap[X]? = some (.cells #[a0, b0, c0, d0, e0] T (0, 0))) (hbw : Below W.heap.size W wr) :
    wr.heap[X]? = some (.cells #[a0, b0, c0, d0, e0] T (0, 0)) ∧ ∃ a c, v = .slice a F.length c ∧
    (F.length = 0 → ∃ V, V = setE wr X (.int .i64 1) (.bool false) (.slice none 0 0) (.slice none 0 0) (.slice none 0 0) ∧ V.heap[X]? = some (.cells #[.int .i64 1, .bool false, .slice none 0 0, .slice none 0 0, .slice none 0 0] T (0, 0)) ∧ ExT w (nodeE k F) (.returned (.agg #[.int .i64 1, .bool false, .slice none 0 0, .slice none 0 0, .slice none 0 0])) V) ∧
    (F.length = 1 → ∃ g k5 u5 a5 m5 c5 b5 n5 d5 g5 l5 z5, a = some ⟨g, 0, none⟩ ∧ Five wr g 0 ⟨.int .i64 k5, .bool u5, .slice a5 m5 c5, .slice b5 n5 d5, .slice g5 l5 z5⟩ ∧ ∃ V, V = setE wr X (.int .i64 k5) (.bool u5) (.slice a5 m5 c5) (.slice b5 n5 d5) (.slice g5 l5 z5) ∧ V.heap[X]? = some (.cells #[.int .i64 k5, .bool u5, .slice a5 m5 c5, .slice b5 n5 d5, .slice g5 l5 z5] T (0, 0)) ∧ ExT w (nodeE k F) (.returned (.agg #[.int .i64 k5, .bool u5, .slice a5 m5 c5, .slice b5 n5 d5, .slice g5 l5 z5])) V) ∧
    (2 ≤ F.length → ∃ V, V = setE wr X (.int .i64 k) (.bool false) (.slice none 0 0) (.slice none 0 0) v ∧ V.heap[X]? = some (.cells #[.int .i64 k, .bool false, .slice none 0 0, .slice none 0 0, v] T (0, 0)) ∧ ExT w (nodeE k F) (.returned (.agg #[.int .i64 k, .bool false, .slice none 0 0, .slice none 0 0, v])) V) := by
  obtain ⟨a, c, hv⟩ := hp.form
  have hr2 := (hbw.block X hXW).trans hr
  have hb2 := Below.later bel hbw
  refine ⟨hr2, a, c, hv, fun h0 => ?_, fun h1 => ?_, fun h2 => ?_⟩
  · rw [List.length_eq_zero_iff.1 h0]
    have hd := ret_done2 hb2 hX hr2 (empty_is wr _)
    unfold EV.v at hd
    dsimp only at hd
    exact hd
  · obtain ⟨x, hx⟩ := List.length_eq_one_iff.1 h1
    subst hx
    obtain ⟨g, c', e, hg, h5⟩ := hp.cells 0 (by simp) (by rw [hp.len]; simp)
    have his := (hp.is 0 (by simp) (by rw [hp.len]; simp)).mono (Q' := fun b => b ≠ X) (fun g _ hq => hq.1)
    rw [hv] at e
    cases e
    simp only [List.getElem_cons_zero] at his
    generalize ys[0]'(by rw [hp.len]; simp) = y at *
    obtain ⟨k5, u5, a5, m5, c5, b5, n5, d5, g5, l5, z5, rfl⟩ := his.flat
    have hd := ret_done2 hb2 hX hr2 his
    unfold EV.v at hd
    dsimp only at hd
    exact ⟨g, k5, u5, a5, m5, c5, b5, n5, d5, g5, l5, z5, rfl, by simpa using h5, hd⟩
  · obtain ⟨c1, c2, e, hx⟩ := hp.ex (fun g hg => by omega) (by omega) k
    rw [e]
    have hd := ret_done2 hb2 hX hr2 hx
    unfold EV.v at hd
    dsimp only at hd
    rw [node_many k h2]
    exact hd
/-- The three blocks that seq begins with. -/
theorem three_rows (w : World) (t : TypeId) (a b c d e a' b' c' d' e' a2 b2 c2 d2 e2 : Value) (W : World) (hW : W = ((w.alloc (.cells #[a, b, c, d, e] t)).alloc (.cells #[a', b', c', d', e'] t)).alloc (.cells #[a2, b2, c2, d2, e2] t)) :
    W.heap[w.heap.size]? = some (.cells #[a, b, c, d, e] t (0, 0)) ∧ W.heap[w.heap.size + 1]? = some (.cells #[a', b', c', d', e'] t (0, 0)) ∧ W.heap[w.heap.size + 1 + 1]? = some (.cells #[a2, b2, c2, d2, e2] t (0, 0)) ∧ Below w.heap.size w W ∧ W.heap.size = w.heap.size + 3 := by
  obtain ⟨wb, hwb⟩ : ∃ wb, wb = (w.alloc (.cells #[a, b, c, d, e] t)).alloc (.cells #[a', b', c', d', e'] t) := ⟨_, rfl⟩
  obtain ⟨r0, r1, hb, hs⟩ := two_rows w _ _ _ _ _ _ _ _ _ _ _ wb hwb
  rw [← hwb] at hW
  obtain ⟨hb2, r2, s2⟩ := laid hW.symm
  rw [hs] at r2 s2
  exact ⟨kept hb2 r0, kept hb2 r1, r2, Below.later hb hb2, s2⟩
set_option maxRecDepth 10000 in
set_option maxHeartbeats 1600000 in
theorem seq_any (a b : Ex) (x y : EV) (Q Q' : Nat → Prop) (w : World) (hx : ExIs w Q a x) (hy : ExIs w Q' b y) (hpa : a.parts.length ≤ 1000) (hpb : b.parts.length ≤ 1000) :
    Calls Tryd.prog 10 #[x.v, y.v] w fun r w' => ExT w (nodeE 3 (gl 3 a ++ gl 3 b)) r w' := by
  have hx0 := hx.mono (Q' := fun g => g < w.heap.size) (fun g hg _ => hg)
  have hy0 := hy.mono (Q' := fun g => g < w.heap.size) (fun g hg _ => hg)
  have HG1 := hid0 (fun (V : World) (hV : Below w.heap.size w V) => glued_any 3 [] [] (.slice none 0 0) a x (fun b => b ≠ w.heap.size + 1 + 1) V.heap.size V (PE.nil _ _ _) ((hx0.past hV).mono (fun g _ h => ⟨by omega, by simp [Value.ownBlock]⟩)) (Nat.le_refl _) (by simp; omega))
  have HG2 := hid0 (fun (W V : World) (v : Value) (xs : List EV) (hW : Below w.heap.size w W) (hV : Below W.heap.size W V) (hp : PE V W.heap.size (fun b => b ≠ w.heap.size + 1 + 1) v (gl 3 a) xs) => glued_any 3 (gl 3 a) xs v b y (fun b => b ≠ w.heap.size + 1 + 1) W.heap.size V hp (((hy0.past hW).mono (Q' := fun g => g < w.heap.size) (fun g _ h => h)).past hV |>.mono (fun g _ h => ⟨by omega, fun e => by have := (ownB_lt hp g e).1; have := hW.size; omega⟩)) hV.size (by
    have : (gl 3 a).length ≤ 1001 := by
      unfold gl
      split
      · omega
      · split <;> simp
    omega))
  have HLen : Hid ((gl 3 a ++ gl 3 b).length ≤ 1000000) := hid0 (by
    have h1 : (gl 3 a).length ≤ 1001 := by
      unfold gl
      split
      · omega
      · split <;> simp
    have h2 : (gl 3 b).length ≤ 1001 := by
      unfold gl
      split
      · omega
      · split <;> simp
    rw [List.length_append]
    omega)
  obtain ⟨k1, t1, a1, n1, ca1, b1, p1, cb1, c1, l1, cc1, rfl⟩ := hx.flat
  obtain ⟨k2, t2, a2, n2, ca2, b2, p2, cb2, c2, l2, cc2, rfl⟩ := hy.flat
  clear hx hy hx0 hy0 hpa hpb
  unfold EV.v at HG1 HG2 ⊢
  simp only [List.nil_append] at HG1 HG2 ⊢
  obtain ⟨W, hW⟩ : ∃ W, ((w.alloc (.cells #[.int .i64 k1, .bool t1, .slice a1 n1 ca1, .slice b1 p1 cb1, .slice c1 l1 cc1] 28)).alloc (.cells #[.int .i64 k2, .bool t2, .slice a2 n2 ca2, .slice b2 p2 cb2, .slice c2 l2 cc2] 28)).alloc (.cells #[.int .i64 0, .bool false, .slice none 0 0, .slice none 0 0, .slice none 0 0] 28) = W := ⟨_, rfl⟩
  obtain ⟨hr0, hr1, hr2, hb, hs⟩ := three_rows w _ _ _ _ _ _ _ _ _ _ _ _ _ _ _ _ W hW.symm
  obtain ⟨⟨x0, x1, x2, x3, x4⟩, _⟩ := rowE hr0
  have HR1 := hid0 hr1
  have HR2 := hid0 hr2
  have HB := hid0 hb
  have HS := hid0 hs
  clear hr0 hr1 hr2 hb hs
  obtain ⟨F, hF⟩ : ∃ F, gl 3 a ++ gl 3 b = F := ⟨_, rfl⟩
  rw [hF] at HLen HG2 ⊢
  clear hF
  rcases (show F.length = 0 ∨ F.length = 1 ∨ 2 ≤ F.length by omega) with hm | hm | hm
  · go_enter Tryd.func10, Tryd.ntmps10
    go_wp2_with (first
      | (go_at_call 8
         refine (HG2.out W w1 _ xs HB.out HB1.out HP1.out).mono ?_
         rintro r w2 ⟨v2, ys, rfl, q1, q2⟩
         have HB2 := hid0 (q2.below HB1.out HB1.out.size (fun q e => (ownB_lt HP1.out q e).1))
         obtain ⟨hrw, a6, c6, rfl, h0, h1, h2⟩ := seq_done (k := 3) q1 (by have := HS.out; omega) HLen.out HB.out (by omega) (by have := HS.out; omega) HR2.out HB2.out
         obtain ⟨⟨z0, z1, z2, z3, z4⟩, f0, f1, f2, f3, f4⟩ := rowE hrw
         obtain ⟨V, hV, hVr, hR⟩ := h0 hm
         have HR := hid0 hR
         have HVr := hid0 hVr
         unfold setE at hV
         have HV := hid0 hV
         clear hV hVr hR h0 h1 h2 hrw q1 q2)
      | (go_at_call 8
         refine (HG1.out _ HB.out).mono ?_
         rintro r w1 ⟨v1, xs, rfl, q1, q2⟩
         have HB1 := hid0 (q2.below (Below.refl W.heap.size W) (Nat.le_refl _) (fun q e => (by simp [Value.ownBlock] at e)))
         have HP1 := hid0 q1
         obtain ⟨⟨y0, y1, y2, y3, y4⟩, _⟩ := rowE (kept HB1.out HR1.out)
         clear q1 q2)
      | fail)
    rw [← HV.out]
    obtain ⟨⟨k0, k1', k2', k3, k4⟩, _⟩ := rowE HVr.out
    exact bodyPost_ret (v := .agg #[.int .i64 1, .bool false, .slice none 0 0, .slice none 0 0, .slice none 0 0]) (by simp [results, Tryd.results10, go_sem, k0, k1', k2', k3, k4]) rfl HR.out
  · go_enter Tryd.func10, Tryd.ntmps10
    go_wp2_with (first
      | (go_at_call 8
         refine (HG2.out W w1 _ xs HB.out HB1.out HP1.out).mono ?_
         rintro r w2 ⟨v2, ys, rfl, q1, q2⟩
         have HB2 := hid0 (q2.below HB1.out HB1.out.size (fun q e => (ownB_lt HP1.out q e).1))
         obtain ⟨hrw, a6, c6, rfl, h0, h1, h2⟩ := seq_done (k := 3) q1 (by have := HS.out; omega) HLen.out HB.out (by omega) (by have := HS.out; omega) HR2.out HB2.out
         obtain ⟨⟨z0, z1, z2, z3, z4⟩, f0, f1, f2, f3, f4⟩ := rowE hrw
         obtain ⟨g, k5, u5, a5, m5, c5, b5, n5, d5, g5, l5, z5, rfl, h5, V, hV, hVr, hR⟩ := h1 hm
         obtain ⟨s0, s1, s2, s3, s4⟩ := h5
         simp only [Nat.zero_add] at s0 s1 s2 s3 s4
         have HR := hid0 hR
         have HVr := hid0 hVr
         unfold setE at hV
         have HV := hid0 hV
         clear hV hVr hR h0 h1 h2 hrw q1 q2)
      | (go_at_call 8
         refine (HG1.out _ HB.out).mono ?_
         rintro r w1 ⟨v1, xs, rfl, q1, q2⟩
         have HB1 := hid0 (q2.below (Below.refl W.heap.size W) (Nat.le_refl _) (fun q e => (by simp [Value.ownBlock] at e)))
         have HP1 := hid0 q1
         obtain ⟨⟨y0, y1, y2, y3, y4⟩, _⟩ := rowE (kept HB1.out HR1.out)
         clear q1 q2)
      | fail)
    rw [← HV.out]
    obtain ⟨⟨k0, k1', k2', k3, k4⟩, _⟩ := rowE HVr.out
    exact bodyPost_ret (v := .agg #[.int .i64 k5, .bool u5, .slice a5 m5 c5, .slice b5 n5 d5, .slice g5 l5 z5]) (by simp [results, Tryd.results10, go_sem, k0, k1', k2', k3, k4]) rfl HR.out
  · have hm0 : ¬ ((F.length : Int) = 0) := by omega
    have hm1 : ¬ ((F.length : Int) = 1) := by omega
    go_enter Tryd.func10, Tryd.ntmps10
    go_wp2_with (first
      | (go_at_call 8
         refine (HG2.out W w1 _ xs HB.out HB1.out HP1.out).mono ?_
         rintro r w2 ⟨v2, ys, rfl, q1, q2⟩
         have HB2 := hid0 (q2.below HB1.out HB1.out.size (fun q e => (ownB_lt HP1.out q e).1))
         obtain ⟨hrw, a6, c6, rfl, h0, h1, h2⟩ := seq_done (k := 3) q1 (by have := HS.out; omega) HLen.out HB.out (by omega) (by have := HS.out; omega) HR2.out HB2.out
         obtain ⟨⟨z0, z1, z2, z3, z4⟩, f0, f1, f2, f3, f4⟩ := rowE hrw
         obtain ⟨V, hV, hVr, hR⟩ := h2 hm
         have HR := hid0 hR
         have HVr := hid0 hVr
         unfold setE at hV
         have HV := hid0 hV
         clear hV hVr hR h0 h1 h2 hrw q1 q2)
      | (go_at_call 8
         refine (HG1.out _ HB.out).mono ?_
         rintro r w1 ⟨v1, xs, rfl, q1, q2⟩
         have HB1 := hid0 (q2.below (Below.refl W.heap.size W) (Nat.le_refl _) (fun q e => (by simp [Value.ownBlock] at e)))
         have HP1 := hid0 q1
         obtain ⟨⟨y0, y1, y2, y3, y4⟩, _⟩ := rowE (kept HB1.out HR1.out)
         clear q1 q2)
      | fail)
    rw [← HV.out]
    obtain ⟨⟨k0, k1', k2', k3, k4⟩, _⟩ := rowE HVr.out
    exact bodyPost_ret (v := .agg #[.int .i64 3, .bool false, .slice none 0 0, .slice none 0 0, .slice a6 F.length c6]) (by simp [results, Tryd.results10, go_sem, k0, k1', k2', k3, k4]) rfl HR.out
end Go.Proofs.YtolnoojbcbdfiaaDoor
