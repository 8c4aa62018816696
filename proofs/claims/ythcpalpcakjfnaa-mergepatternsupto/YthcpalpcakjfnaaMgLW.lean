/-
  caesurakit.lent.
-/
import Derived.Test.YthcpalpcakjfnaaMgLM
import Derived.Deep.Cut
namespace Go.Proofs.Ythcpalpcakjfnaa
open Go.RowKit Go.Shelf
set_option maxRecDepth 10000 in
set_option maxHeartbeats 1600000 in
theorem lent_node (B n d : Nat) (k : Int) (nt : Bool) (N : List ByteArray) (P : List (Int × Int)) (L : List Ex) (a b c : Option Addr) (ca cb cc : Nat) (vs : Nat → EV) (w : World) (hBw : B ≤ w.heap.size) (hd : d ≤ 5000) (hN : SA w a N) (hP : RA w b P) (lN : N.length ≤ 100000000) (lP : P.length ≤ 100000000) (lL : L.length ≤ 100000000) (nN : a = none → ca = 0) (nP : b = none → cb = 0)
    (hL : ∀ i, i < L.length → ∃ g off, c = some ⟨g, off, none⟩ ∧ Five w g (off + i * 5) (vs i)) (hF : ∀ i, i < L.length → ∃ k t a m c b n d g l z, vs i = ⟨.int .i64 k, .bool t, .slice a m c, .slice b n d, .slice g l z⟩)
    (ih : ∀ i (h : i < L.length) (V : World), Below w.heap.size w V → Calls Try.prog 23 #[(vs i).v, .int .i64 ((d : Int) + 1)] V fun r w' => LentR V B n L[i] r w') :
    Calls Try.prog 23 #[.agg #[.int .i64 k, .bool nt, .slice a N.length ca, .slice b P.length cb, .slice c L.length cc], .int .i64 (d : Int)] w fun r w' => LentR w B (n + 1) (.mk k nt N P L) r w' := by
  obtain ⟨i0, hi, hz0, hz1, hz2⟩ := info_parts infoExpr
  have HSet := hid0 (fun (V : World) (hV : Below w.heap.size w V) => set_any nt N P a b ca cb V (by omega) (by omega) nN nP (hN.below hV) (hP.below hV))
  obtain ⟨W, hW⟩ : ∃ W, (w.alloc (.cells #[.int .i64 k, .bool nt, .slice a N.length ca, .slice b P.length cb, .slice c L.length cc] 48)).alloc (.cells #[.int .i64 0, .bool false, .slice none 0 0, .slice none 0 0, .slice none 0 0] 48) = W := ⟨_, rfl⟩
  obtain ⟨hr0, hr1, hb, hs⟩ := two_rows w _ _ _ _ _ _ _ _ _ _ _ W hW.symm
  have HR1 := hid0 hr1
  have HB := hid0 hb
  have HS := hid0 hs
  have HBW : Hid (B ≤ W.heap.size) := hid0 (by omega)
  have HBw := hid0 hBw
  have HSk : Hid (∀ V, Below W.heap.size W V → V.cell? ⟨w.heap.size, 0, none⟩ = some (.int .i64 k) ∧ V.cell? ⟨w.heap.size, 1, none⟩ = some (.bool nt) ∧ V.cell? ⟨w.heap.size, 2, none⟩ = some (.slice a N.length ca) ∧ V.cell? ⟨w.heap.size, 3, none⟩ = some (.slice b P.length cb) ∧ V.cell? ⟨w.heap.size, 4, none⟩ = some (.slice c L.length cc)) := hid0 (fun V hV => (rowE (kept hV hr0)).1)
  have HL := hid0 hL
  have HF := hid0 hF
  have HIH := hid0 ih
  have HlN := hid0 lN
  have HlP := hid0 lP
  have hd5 : ¬ (5000 < (d : Int)) := by omega
  have hdw : IntKind.i64.wrap ((d : Int) + 1) = (d : Int) + 1 := by simp [IntKind.wrap, IntKind.bits, IntKind.signed]; omega
  clear hr0 hr1 hb hs hN hP hL hF ih nN nP hBw lN lP
  go_enter Try.func23, Try.ntmps23
  go_wp2
  go_cut [5] from 11 (fun p wx => ∃ F gN cN gP cP : Nat, p = .pointer (some ⟨F, 0, none⟩) ∧ Hid (LP W wx B F k nt N P gN cN gP cP n (.slice none 0 0) [] []))
  case first =>
    refine wp_region_noPanic ?_
    refine wp_region_held_drew (S := (fun V => V.cell? ⟨w.heap.size, 0, none⟩ = some (.int .i64 k) ∧ V.cell? ⟨w.heap.size, 1, none⟩ = some (.bool nt) ∧ V.cell? ⟨w.heap.size, 2, none⟩ = some (.slice a N.length ca) ∧ V.cell? ⟨w.heap.size, 3, none⟩ = some (.slice b P.length cb) ∧ V.cell? ⟨w.heap.size, 4, none⟩ = some (.slice c L.length cc))) (by kernel_rfl) ?_ (fun hHeld => ?_)
    · exact HSk.out _ (Below.refl W.heap.size W).drew
    refine tkV (i := 0) (d := some 11) (v := ?_) rfl (by kernel_rfl) (by kernel_rfl) (by kernel_rfl) rfl (fun _ _ _ h => h) (by rfl) ?_ (by assumption) ?_
    rotate_left
    · (intro w hSw; (try dsimp only at hSw); (try simp only [List.getElem_toArray, List.getElem_cons_zero]); go_simp; try with_reducible rfl)
    try simp only [Act.put, List.setIfInBounds_toArray, List.set_cons_zero, List.set_cons_succ]
    refine tkV (i := 1) (d := some 12) (v := ?_) rfl (by kernel_rfl) (by kernel_rfl) (by kernel_rfl) rfl (fun _ _ _ h => h) (by rfl) ?_ (by assumption) ?_
    rotate_left
    · (intro w hSw; (try dsimp only at hSw); (try simp only [List.getElem_toArray, List.getElem_cons_zero, List.getElem_cons_succ]); go_simp; try with_reducible rfl)
    try simp only [Act.put, List.setIfInBounds_toArray, List.set_cons_zero, List.set_cons_succ]
    refine tkV (i := 2) (d := some 13) (v := ?_) rfl (by kernel_rfl) (by kernel_rfl) (by kernel_rfl) rfl (fun _ _ _ h => h) (by rfl) ?_ (by assumption) ?_
    rotate_left
    · (intro w hSw; (try dsimp only at hSw); (try simp only [List.getElem_toArray, List.getElem_cons_zero, List.getElem_cons_succ]); go_simp; try with_reducible rfl)
    try simp only [Act.put, List.setIfInBounds_toArray, List.set_cons_zero, List.set_cons_succ]
    refine tkV (i := 3) (d := some 14) (v := ?_) rfl (by kernel_rfl) (by kernel_rfl) (by kernel_rfl) rfl (fun _ _ _ h => h) (by rfl) ?_ (by assumption) ?_
    rotate_left
    · (intro w hSw; (try dsimp only at hSw); (try simp only [List.getElem_toArray, List.getElem_cons_zero, List.getElem_cons_succ]); go_simp; try with_reducible rfl)
    try simp only [Act.put, List.setIfInBounds_toArray, List.set_cons_zero, List.set_cons_succ]
    refine wpAnyH_ready (rs := [4, 6]) (by kernel_rfl) (by simp) (AllReadyH.cons rfl (fun K hK => ?_) (AllReadyH.cons rfl (fun K hK => ?_) AllReadyH.nil))
    · try simp only [List.getElem_toArray, List.getElem_cons_zero, List.getElem_cons_succ]
      go_simp
      refine (HSet.out (W.drew) (Below.later HB.out ((Below.refl W.heap.size W).drew))).mono ?_
      rintro r w1 ⟨gN, cN, gP, cP, rfl, h1, h2, _, hb1⟩
      obtain ⟨hq1, hq2, hkN, hkP⟩ := set_qs h1 h2
      have HQ1 := hid0 hq1
      have HQ2 := hid0 hq2
      have HKN := hid0 hkN
      have HKP := hid0 hkP
      have HB1 := hid0 (Below.later ((Below.refl W.heap.size W).drew) hb1)
      have HB1s := hid0 hb1
      have hs1 := HSk.out _ HB1.out
      clear h1 h2 hb1 hq1 hq2 hkN hkP
      go_wp2_with fail
      refine hK.out _ _ ?_ (fun hHeldC => ?_)
      · exact hs1
      clear hK K
      (try simp only [Act.put]); (try simp only [List.setIfInBounds_toArray]); (try simp only [List.set_cons_succ]); (try simp only [List.set_cons_zero])
      refine tkV (i := 5) (d := some 16) (v := ?_) rfl (by kernel_rfl) (by kernel_rfl) (by kernel_rfl) rfl (fun _ _ _ h => h) (by rfl) ?_ (by assumption) ?_
      rotate_left
      · (intro w hSw; (try dsimp only at hSw); (try simp only [List.getElem_toArray, List.getElem_cons_zero, List.getElem_cons_succ]); go_simp; try with_reducible rfl)
      try simp only [Act.put, List.setIfInBounds_toArray, List.set_cons_zero, List.set_cons_succ]
      refine wpAnyH_ready (rs := [6]) (by kernel_rfl) (by simp) (AllReadyH.cons rfl (fun K hK => ?_) AllReadyH.nil)
      try simp only [List.getElem_toArray, List.getElem_cons_zero, List.getElem_cons_succ]
      go_simp
      refine hK.out _ _ ?_ (fun hHeldL => ?_)
      · exact HSk.out _ (Below.later HB1.out ((Below.refl w1.heap.size w1).alloc (Nat.le_refl _) (.cells #[.int .i64 0, .bool false, .slice none 0 0, .slice none 0 0, .slice none 0 0] 48)))
      clear hK K
      (try simp only [Act.put]); (try simp only [List.setIfInBounds_toArray]); (try simp only [List.set_cons_succ]); (try simp only [List.set_cons_zero])
      obtain ⟨V5, hV5⟩ : ∃ V5, w1.alloc (.cells #[.int .i64 k, .bool nt, .slice (some ⟨gN, 0, none⟩) N.length cN, .slice (some ⟨gP, 0, none⟩) P.length cP, .slice none 0 0] 48) = V5 := ⟨_, rfl⟩
      obtain ⟨bb5, hR5, _⟩ := laid hV5
      have HBz := hid0 (Below.later HB1.out bb5)
      have HLP : Hid (LP W V5 B w1.heap.size k nt N P gN cN gP cP n (.slice none 0 0) [] []) := hid0 (LP.start n HBW.out HB1.out.size hR5 ((HQ1.out.mono (Q' := fun b => W.heap.size ≤ b ∧ b ≠ w1.heap.size) (fun b hl hb => ⟨hb, by omega⟩)).keeps (Keeps.past bb5)) ((HQ2.out.mono (Q' := fun b => W.heap.size ≤ b ∧ b ≠ w1.heap.size) (fun b hl hb => ⟨hb, by omega⟩)).keeps (Keeps.past bb5)) HKN.out HKP.out HBz.out)
      have HSz : Hid (V5.cell? ⟨w.heap.size, 0, none⟩ = some (.int .i64 k) ∧ V5.cell? ⟨w.heap.size, 1, none⟩ = some (.bool nt) ∧ V5.cell? ⟨w.heap.size, 2, none⟩ = some (.slice a N.length ca) ∧ V5.cell? ⟨w.heap.size, 3, none⟩ = some (.slice b P.length cb) ∧ V5.cell? ⟨w.heap.size, 4, none⟩ = some (.slice c L.length cc)) := hid0 (HSk.out _ HBz.out)
      have HV5 : Hid (V5 = w1.alloc (.cells #[.int .i64 k, .bool nt, .slice (some ⟨gN, 0, none⟩) N.length cN, .slice (some ⟨gP, 0, none⟩) P.length cP, .slice none 0 0] 48)) := hid0 hV5.symm
      rw [HV5.out] at HSz
      clear hV5 bb5 hR5
      refine wpAnyH_ready (rs := [7]) (by kernel_rfl) (by simp) (AllReadyH.cons rfl (fun K hK => ?_) AllReadyH.nil)
      try simp only [List.getElem_toArray, List.getElem_cons_zero, List.getElem_cons_succ]
      go_simp
      refine hK.out _ _ ?_ (fun hHeldL => ?_)
      · exact HSz.out
      clear hK K
      (try simp only [Act.put]); (try simp only [List.setIfInBounds_toArray]); (try simp only [List.set_cons_succ]); (try simp only [List.set_cons_zero])
      refine wpAnyH_done (by kernel_rfl) ?_ _
      refine NoPanic.normal ?_
      rw [← HV5.out]
      go_wp2_with fail
      go_meet
      case rel => exact ⟨w1.heap.size, gN, cN, gP, cP, rfl, HLP⟩
    · try simp only [List.getElem_toArray, List.getElem_cons_zero, List.getElem_cons_succ]
      go_simp
      refine hK.out _ _ ?_ (fun hHeldL => ?_)
      · exact HSk.out _ (((Below.refl W.heap.size W).drew).alloc (Nat.le_refl _) (.cells #[.int .i64 0, .bool false, .slice none 0 0, .slice none 0 0, .slice none 0 0] 48))
      clear hK K
      (try simp only [Act.put]); (try simp only [List.setIfInBounds_toArray]); (try simp only [List.set_cons_succ]); (try simp only [List.set_cons_zero])
      refine wpAnyH_ready (rs := [4]) (by kernel_rfl) (by simp) (AllReadyH.cons rfl (fun K hK => ?_) AllReadyH.nil)
      try simp only [List.getElem_toArray, List.getElem_cons_zero, List.getElem_cons_succ]
      go_simp
      refine (HSet.out (W.drew.alloc (.cells #[.int .i64 0, .bool false, .slice none 0 0, .slice none 0 0, .slice none 0 0] 48)) (Below.later HB.out ((((Below.refl W.heap.size W).drew).alloc (Nat.le_refl _) (.cells #[.int .i64 0, .bool false, .slice none 0 0, .slice none 0 0, .slice none 0 0] 48))))).mono ?_
      rintro r w1 ⟨gN, cN, gP, cP, rfl, h1, h2, _, hb1⟩
      obtain ⟨hq1, hq2, hkN, hkP⟩ := set_qs h1 h2
      have HQ1 := hid0 hq1
      have HQ2 := hid0 hq2
      have HKN := hid0 hkN
      have HKP := hid0 hkP
      have HB1 := hid0 (Below.later ((((Below.refl W.heap.size W).drew).alloc (Nat.le_refl _) (.cells #[.int .i64 0, .bool false, .slice none 0 0, .slice none 0 0, .slice none 0 0] 48))) hb1)
      have HB1s := hid0 hb1
      have hs1 := HSk.out _ HB1.out
      clear h1 h2 hb1 hq1 hq2 hkN hkP
      have HRX := hid0 (kept HB1s.out (show (W.drew.alloc (.cells #[.int .i64 0, .bool false, .slice none 0 0, .slice none 0 0, .slice none 0 0] 48)).heap[W.heap.size]? = some (.cells #[.int .i64 0, .bool false, .slice none 0 0, .slice none 0 0, .slice none 0 0] 48 (0, 0)) from heap_alloc_new W.drew _))
      obtain ⟨⟨z0, z1, z2, z3, z4⟩, f0, f1, f2, f3, f4⟩ := rowE HRX.out
      obtain ⟨V5, hV5⟩ : ∃ V5, V5 = setE w1 W.heap.size (.int .i64 k) (.bool nt) (.slice (some ⟨gN, 0, none⟩) N.length cN) (.slice (some ⟨gP, 0, none⟩) P.length cP) (.slice none 0 0) := ⟨_, rfl⟩
      have HBz := hid0 (show Below W.heap.size W V5 by rw [hV5]; exact setE_below HB1.out (Nat.le_refl _) _ _ _ _ _)
      have HLP : Hid (LP W V5 B W.heap.size k nt N P gN cN gP cP n (.slice none 0 0) [] []) := hid0 (by { have hk := setE_keeps (W := w1) (X := W.heap.size) (.int .i64 k) (.bool nt) (.slice (some ⟨gN, 0, none⟩) N.length cN) (.slice (some ⟨gP, 0, none⟩) P.length cP) (.slice none 0 0); rw [← hV5] at hk; exact LP.start n HBW.out (Nat.le_refl _) (by rw [hV5]; exact setE_row HRX.out _ _ _ _ _) ((HQ1.out.mono (Q' := fun b => W.heap.size ≤ b ∧ b ≠ W.heap.size) (fun b _ hb => by simp at hb; omega)).keeps ⟨hk.size, fun b o' hq hl => hk.cell b o' hq.2 hl⟩) ((HQ2.out.mono (Q' := fun b => W.heap.size ≤ b ∧ b ≠ W.heap.size) (fun b _ hb => by simp at hb; omega)).keeps ⟨hk.size, fun b o' hq hl => hk.cell b o' hq.2 hl⟩) HKN.out HKP.out HBz.out })
      have HSz : Hid (V5.cell? ⟨w.heap.size, 0, none⟩ = some (.int .i64 k) ∧ V5.cell? ⟨w.heap.size, 1, none⟩ = some (.bool nt) ∧ V5.cell? ⟨w.heap.size, 2, none⟩ = some (.slice a N.length ca) ∧ V5.cell? ⟨w.heap.size, 3, none⟩ = some (.slice b P.length cb) ∧ V5.cell? ⟨w.heap.size, 4, none⟩ = some (.slice c L.length cc)) := hid0 (HSk.out _ HBz.out)
      unfold setE at hV5
      have HV5 := hid0 hV5
      rw [HV5.out] at HSz
      clear hV5
      go_wp2_with fail
      refine hK.out _ _ ?_ (fun hHeldC => ?_)
      · exact hs1
      clear hK K
      (try simp only [Act.put]); (try simp only [List.setIfInBounds_toArray]); (try simp only [List.set_cons_succ]); (try simp only [List.set_cons_zero])
      refine tkV (i := 5) (d := some 16) (v := ?_) rfl (by kernel_rfl) (by kernel_rfl) (by kernel_rfl) rfl (fun _ _ _ h => h) (by rfl) ?_ (by assumption) ?_
      rotate_left
      · (intro w hSw; (try dsimp only at hSw); (try simp only [List.getElem_toArray, List.getElem_cons_zero, List.getElem_cons_succ]); go_simp; try with_reducible rfl)
      try simp only [Act.put, List.setIfInBounds_toArray, List.set_cons_zero, List.set_cons_succ]
      refine wpAnyH_ready (rs := [7]) (by kernel_rfl) (by simp) (AllReadyH.cons rfl (fun K hK => ?_) AllReadyH.nil)
      try simp only [List.getElem_toArray, List.getElem_cons_zero, List.getElem_cons_succ]
      go_simp
      refine hK.out _ _ ?_ (fun hHeldL => ?_)
      · exact HSz.out
      clear hK K
      (try simp only [Act.put]); (try simp only [List.setIfInBounds_toArray]); (try simp only [List.set_cons_succ]); (try simp only [List.set_cons_zero])
      refine wpAnyH_done (by kernel_rfl) ?_ _
      refine NoPanic.normal ?_
      rw [← HV5.out]
      go_wp2_with fail
      go_meet
      case rel => exact ⟨W.heap.size, gN, cN, gP, cP, rfl, HLP⟩
  case rest =>
    obtain ⟨F, gN, cN, gP, cP, rfl, HLP⟩ := hcut
    clear HSet hW
    go_wp2
    go_loopw [6, 7] (fun i _ wr => ∃ (m : Nat) (xs : List EV) (av : Option Addr) (cv : Nat), m ≤ L.length ∧ i = .int .i64 (m : Int) ∧ Hid (LP W wr B F k nt N P gN cN gP cP n (.slice av m cv) (L.take m) xs)) (fun i _ _ => L.length - (intOf i).toNat)
    case atStart => exact ⟨0, [], none, 0, Nat.zero_le _, rfl, HLP⟩
    case round =>
      clear HLP
      obtain ⟨m, xs, av, cv, hm, rfl, HLP⟩ := hrel
      obtain ⟨e0, e1, e2, e3, e4⟩ := HSk.out wr HLP.out.below
      obtain ⟨⟨g0, g1, g2, g3, g4⟩, q0, q1, q2, q3, q4⟩ := rowE HLP.out.box
      have HFl := hid0 HLP.out.F_lt
      clear e0 e1 e2 e3 g0 g1 g2 g3 q0 q1 q2 q3
      by_cases hlt : m < L.length
      · have hmI : (m : Int) < (L.length : Int) := by omega
        have hm0 : (0 : Int) ≤ (m : Int) := by omega
        obtain ⟨h0, off, rfl, h5⟩ := HL.out m hlt
        obtain ⟨p0, p1, p2, p3, p4⟩ := h5.past (Below.later HB.out HLP.out.below)
        obtain ⟨yk, yt, ya, ym, yc, yb, yn, yd, yg, yl, yz, ey⟩ := HF.out m hlt
        have HCa : Hid (∀ V, Below wr.heap.size wr V → Calls Try.prog 23 #[.agg #[.int .i64 yk, .bool yt, .slice ya ym yc, .slice yb yn yd, .slice yg yl yz], .int .i64 ((d : Int) + 1)] V fun r w' => LentR V B n L[m] r w') := hid0 (fun V hV => by
          have h := HIH.out m hlt V (Below.later HB.out (Below.later HLP.out.below hV))
          unfold EV.v at h
          rw [ey] at h
          exact h)
        rw [ey] at p0 p1 p2 p3 p4
        simp only [] at p0 p1 p2 p3 p4
        have HTK : Hid (L.take (m + 1) = L.take m ++ [L[m]]) := hid0 (by rw [List.take_add_one, List.getElem?_eq_getElem hlt]; rfl)
        have HTL : Hid ((L.take m).length = m) := hid0 (by rw [List.length_take]; omega)
        generalize L[m] = e at *
        clear ey h5
        go_wp2_with (first
          | (go_at_call 23
             refine (HCa.out _ (Below.refl _ _)).mono ?_
             rintro r w1 ⟨y, rfl, hy, hb1⟩
             obtain ⟨k6, t6, a6, m6, c6, b6, n6, d6, g6, l6, z6, rfl⟩ := hy.is.flat
             unfold EV.v
             simp only []
             have HY := hid0 hy
             have HB1 := hid0 hb1
             obtain ⟨w2, hw2⟩ : ∃ w2, w1.alloc (.cells #[.int .i64 k6, .bool t6, .slice a6 m6 c6, .slice b6 n6 d6, .slice g6 l6 z6] 48) = w2 := ⟨_, rfl⟩
             obtain ⟨bb2, hR2, hs2⟩ := laid hw2
             obtain ⟨⟨r0, r1, r2, r3, r4⟩, _⟩ := rowE hR2
             have HB2 := hid0 (Below.later hb1 bb2)
             obtain ⟨⟨_, _, _, _, s4⟩, _, _, _, _, t4⟩ := rowE (kept HB2.out HLP.out.box)
             have HY2 := hid0 (hy.past bb2)
             have HOne := hid0 hy.is.one
             have HSz2 : Hid (wr.heap.size ≤ w2.heap.size) := hid0 HB2.out.size
             have HOk : Hid (w2.ownsRow W.heap.size 48 5 (.slice av m cv) m (xs.flatMap evC)) := hid0 (by have ho := (HLP.out.pl.past HB2.out).own; rw [HTL.out] at ho; exact ho)
             have HWsz : Hid (W.heap.size ≤ w2.heap.size) := hid0 (Nat.le_trans HLP.out.below.size HB2.out.size)
             clear hy hb1 bb2 hR2 hs2)
          | (at_builtin; go_loud ((
               refine wpList_append_own_at _ (by rfl) _ _ 46 (by rfl) W.heap.size 48 i0 (.agg #[.int .i64 0, .bool false, .slice none 0 0, .slice none 0 0, .slice none 0 0]) 5 88 Try.underlying46 hi hz0 hz1 hz2 rfl (by decide) (.slice av m cv) m (xs.flatMap evC) (by rfl) (World.ownsRow.alloc HOk.out _) ⟨w2.heap.size, 0, none⟩ 1 1 (evC ⟨.int .i64 k6, .bool t6, .slice a6 m6 c6, .slice b6 n6 d6, .slice g6 l6 z6⟩) (by rfl) (by rfl) (cellE_new w2 _ _ _ _ _ _) HOne.out (by unfold maxLen; omega) (by omega) (by have := HWsz.out; simp; omega) ?_
               intro v4 w4 hown4 hgrow4 _ hat4
               obtain ⟨g, c4, rfl⟩ := Go.Joins.ownsRow_form hown4 (by omega)
               have hst := LP.step HLP.out HB2.out HY2.out hgrow4 hat4 (by rw [HTL.out]; exact hown4)
               rw [← HTK.out] at hst
               have hx4 : w4.heap[F]? = w2.heap[F]? := (hgrow4.block F (by have := HFl.out; have := HSz2.out; simp; omega) (fun e => HLP.out.off e.symm)).trans (Below.heap_alloc w2 _ F (by have := HFl.out; have := HSz2.out; omega))
               obtain ⟨⟨_, _, _, _, i4⟩, _, _, _, _, j4⟩ := rowE (hx4.trans (kept HB2.out HLP.out.box))
               have HST := hid0 hst
               clear hown4 hgrow4 hat4 hst hx4)))
          | fail)
        go_roundw
        case rel => exact ⟨m + 1, _, _, _, by omega, by go_num, HST⟩
        case measure => simp [intOf]; omega
      · have hmI : ¬ (m : Int) < (L.length : Int) := by omega
        have hml : m = L.length := by omega
        subst hml
        have HLE : Hid (LP W wr B F k nt N P gN cN gP cP n (.slice av L.length cv) L xs) := hid0 (by have h := HLP.out; rw [List.take_of_length_le (Nat.le_refl _)] at h; exact h)
        have HOk : Hid (wr.ownsRow W.heap.size 48 5 (.slice av L.length cv) L.length (xs.flatMap evC)) := hid0 HLE.out.pl.own
        have HWsz : Hid (W.heap.size ≤ wr.heap.size) := hid0 HLE.out.below.size
        clear HLP
        go_wp2_with (first
          | (at_builtin; go_loud ((
               refine wpList_append_own_at _ (by rfl) _ _ 46 (by rfl) W.heap.size 48 i0 (.agg #[.int .i64 0, .bool false, .slice none 0 0, .slice none 0 0, .slice none 0 0]) 5 88 Try.underlying46 hi hz0 hz1 hz2 rfl (by decide) (.slice av L.length cv) L.length (xs.flatMap evC) (by rfl) (World.ownsRow.alloc HOk.out _) ⟨wr.heap.size, 0, none⟩ 1 1 (evC ⟨.int .i64 (-77), .bool false, .slice none 0 0, .slice none 0 0, .slice none 0 0⟩) (by rfl) (by rfl) (cellE_new wr _ _ _ _ _ _) (fun u hu => by simp only [evC, List.mem_cons, List.not_mem_nil, or_false] at hu; rcases hu with rfl | rfl | rfl | rfl | rfl <;> rfl) (by unfold maxLen; omega) (by omega) (by have := HWsz.out; simp; omega) ?_
               intro v4 w4 hown4 hgrow4 _ hat4
               obtain ⟨g, c4, rfl⟩ := Go.Joins.ownsRow_form hown4 (by omega)
               obtain ⟨V5, V6, V7, hV5, hV6, hV7, hcap, hb4, hb5, hb6, hx4, hx5, hx6, hx7, hR⟩ := LP.done HLE.out hgrow4 hat4 hown4 rfl HlN.out HlP.out lL HB.out (Nat.le_succ _) HR1.out HBw.out
               obtain ⟨⟨_, _, _, _, i4⟩, _, _, _, _, j4⟩ := rowE hx4
               obtain ⟨⟨_, _, _, _, i5⟩, _, _, _, _, j5⟩ := rowE hx5
               obtain ⟨⟨c60, c61, c62, c63, c64⟩, _⟩ := rowE hx6
               obtain ⟨_, _, _, _, b4⟩ := HSk.out w4 hb4
               obtain ⟨_, _, _, _, b5⟩ := HSk.out V5 hb5
               obtain ⟨⟨r60, r61, r62, r63, r64⟩, s60, s61, s62, s63, s64⟩ := rowE ((hb6.block _ (by have := HS.out; omega)).trans HR1.out)
               have HR := hid0 hR
               have HX7 := hid0 hx7
               have hf5 := hV5.symm
               have hf6 := hV6.symm
               unfold setE at hV7
               have HV7 := hid0 hV7
               have hcI : (L.length : Int) ≤ (c4 : Int) := by omega
               clear hown4 hgrow4 hat4 hV5 hV6 hV7 hb4 hb5 hb6 hx4 hx5 hx6 hx7 hR)))
          | fail)
        rw [← HV7.out]
        obtain ⟨⟨k0, k1, k2, k3, k4⟩, _⟩ := rowE HX7.out
        exact bodyPost_ret (v := .agg #[.int .i64 k, .bool nt, .slice (some ⟨gN, 0, none⟩) N.length cN, .slice (some ⟨gP, 0, none⟩) P.length cP, .slice (some ⟨g, 0, none⟩) L.length c4]) (by simp [results, Try.results23, go_sem, k0, k1, k2, k3, k4]) rfl HR.out
end Go.Proofs.Ythcpalpcakjfnaa
