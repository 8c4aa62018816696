/-
  MxLW, MxMW, MxYM.
-/
import Derived.Test.YtbbejfkgopcjoaaDoorNebh
import Derived.Deep.CutRange
import Derived.Deep.RegionLaw
import Derived.Test.YtbbejfkgopcjoaaDoorNebk
import Derived.Test.YtbbejfkgopcjoaaDoorNebl
namespace Go.Proofs.YtbbejfkgopcjoaaDoor
open Go.RowKit Go.Shelf
set_option maxRecDepth 10000 in
set_option maxHeartbeats 6400000 in
theorem patterns_any (aP : Option Addr) (cP : Nat) (rs : List Pr) (w : World) (hP : PaI w aP rs) (hrl : rs.length ≤ 10000000) :
    Calls Tryd.prog 16 #[.slice aP rs.length cP] w fun e w' => ∃ G c, e = .returned (.slice (some ⟨G, 0, none⟩) rs.length c) ∧ Hid (PatK w' w.heap.size G c rs ∧ Below w.heap.size w w' ∧ w.heap.size ≤ G) := by
  obtain ⟨i0, hi', hz0, hz1, hz2⟩ := info_parts infoPat
  obtain ⟨n, hn⟩ : ∃ x, x = rs.length := ⟨_, rfl⟩
  have HP := hid0 hP
  have HN := hid0 hn
  rw [← hn] at hrl ⊢
  clear hP hn
  go_enter Tryd.func16, Tryd.ntmps16
  go_wp2
  go_loopw [4, 5] (fun v q wr => ∃ (k : Nat) (VS : List Value), k ≤ n ∧ q = .int .i64 (k : Int) ∧ Hid (PJL wr w.heap.size v VS rs k) ∧ Hid (Below w.heap.size w wr)) (fun _ q _ => n - (intOf q).toNat)
  case atStart => exact ⟨0, [], Nat.zero_le _, rfl, hid0 (PJL.nil _ _ _), hid0 (Below.refl _ _)⟩
  case round =>
    obtain ⟨k, VS, hk, rfl, HJ, HB⟩ := hrel
    have hsz := HB.out.size
    by_cases hlt : k < n
    · have hkI : (k : Int) < (n : Int) := by omega
      have hkI0 : (0 : Int) ≤ (k : Int) := by omega
      have hkr : k < rs.length := by rw [← HN.out]; exact hlt
      obtain ⟨bp, op, rfl, hbp, aL, aF, aA, aO, cL, cF, cA, cO, y0, y1, y2, y3, y4, y5, y6, y7⟩ := (HP.out.past HB.out).at' k hkr
      obtain ⟨r, hr⟩ : ∃ r, r = rs[k] := ⟨_, rfl⟩
      rw [← hr] at y0 y1 y2 y3 y4 y5 y7
      obtain ⟨nL, hnL⟩ : ∃ x, x = r.Le.length := ⟨_, rfl⟩
      obtain ⟨nF, hnF⟩ : ∃ x, x = r.Fi.length := ⟨_, rfl⟩
      obtain ⟨nA, hnA⟩ : ∃ x, x = r.La.length := ⟨_, rfl⟩
      obtain ⟨nO, hnO⟩ : ∃ x, x = r.Fo.length := ⟨_, rfl⟩
      obtain ⟨em, hem⟩ : ∃ x, x = r.em := ⟨_, rfl⟩
      obtain ⟨an, han⟩ : ∃ x, x = r.an := ⟨_, rfl⟩
      rw [← hnL] at y0
      rw [← hnF] at y1
      rw [← hnA] at y2
      rw [← hnO] at y3
      rw [← hem] at y4
      rw [← han] at y5
      have HE := hid0 (And.intro hr (And.intro (And.intro hnL (And.intro hnF (And.intro hnA hnO))) (And.intro hem han)))
      obtain ⟨w1, hw1⟩ : ∃ w1, w1 = wr.alloc (.cells #[.slice aL nL cL, .slice aF nF cF, .slice aA nA cA, .slice aO nO cO, .bool em] 46) := ⟨_, rfl⟩
      have hb1 : Below wr.heap.size wr w1 := by rw [hw1]; exact below_alloc1 _ _
      have hr1 : w1.heap[wr.heap.size]? = some (.cells #[.slice aL nL cL, .slice aF nF cF, .slice aA nA cA, .slice aO nO cO, .bool em] 46 (0, 0)) := by rw [hw1]; exact heap_alloc_new wr _
      have HC1 : Hid (∀ B V, Below w1.heap.size w1 B → Below B.heap.size B V → Calls Tryd.prog 36 #[.slice aL nL cL] V fun e w' => ∃ a c, e = .returned (.slice a nL c) ∧ Hid (((a = none → c = 0) ∧ Lk.RwK w' V.heap.size a r.Le) ∧ w.heap.size ≤ V.heap.size) ∧ Hid (Below V.heap.size V w') ∧ Below B.heap.size B w') := hid0 (fun B V hB hV => by
        have h := Lk.rows_any r.Le aL cL V (by have := y7.l1; omega) (fun l hl => by have := y7.r1 l hl; omega) (y7.past (Below.later hb1 (Below.later hB hV))).le
        rw [← hnL] at h
        exact h.mono (fun e w' ⟨a, c, e1, e2, e3, e4⟩ => ⟨a, c, e1, hid0 ⟨⟨e2, e3⟩, Nat.le_trans hsz (Nat.le_trans hb1.size (Nat.le_trans hB.size hV.size))⟩, hid0 e4, Below.later hV e4⟩))
      have HC4 : Hid (∀ B V, Below w1.heap.size w1 B → Below B.heap.size B V → Calls Tryd.prog 36 #[.slice aO nO cO] V fun e w' => ∃ a c, e = .returned (.slice a nO c) ∧ Hid (((a = none → c = 0) ∧ Lk.RwK w' V.heap.size a r.Fo) ∧ w.heap.size ≤ V.heap.size) ∧ Hid (Below V.heap.size V w') ∧ Below B.heap.size B w') := hid0 (fun B V hB hV => by
        have h := Lk.rows_any r.Fo aO cO V (by have := y7.l4; omega) (fun l hl => by have := y7.r4 l hl; omega) (y7.past (Below.later hb1 (Below.later hB hV))).fo
        rw [← hnO] at h
        exact h.mono (fun e w' ⟨a, c, e1, e2, e3, e4⟩ => ⟨a, c, e1, hid0 ⟨⟨e2, e3⟩, Nat.le_trans hsz (Nat.le_trans hb1.size (Nat.le_trans hB.size hV.size))⟩, hid0 e4, Below.later hV e4⟩))
      have HC2 : Hid (∀ B V, Below w1.heap.size w1 B → Below B.heap.size B V → Calls Tryd.prog 37 #[.slice aF nF cF] V fun e w' => ∃ g c, e = .returned (.slice (some ⟨g, 0, none⟩) nF c) ∧ Hid (Lk.LK w' V.heap.size g c r.Fi ∧ w.heap.size ≤ V.heap.size) ∧ Hid (Below V.heap.size V w') ∧ Below B.heap.size B w') := hid0 (fun B V hB hV => by
        have h := Lk.list_any r.Fi aF cF V (by have := y7.l2; omega) (y7.past (Below.later hb1 (Below.later hB hV))).fi
        rw [← hnF] at h
        exact h.mono (fun e w' ⟨g, c, e1, e3, e4⟩ => ⟨g, c, e1, hid0 ⟨e3, Nat.le_trans hsz (Nat.le_trans hb1.size (Nat.le_trans hB.size hV.size))⟩, hid0 e4, Below.later hV e4⟩))
      have HC3 : Hid (∀ B V, Below w1.heap.size w1 B → Below B.heap.size B V → Calls Tryd.prog 37 #[.slice aA nA cA] V fun e w' => ∃ g c, e = .returned (.slice (some ⟨g, 0, none⟩) nA c) ∧ Hid (Lk.LK w' V.heap.size g c r.La ∧ w.heap.size ≤ V.heap.size) ∧ Hid (Below V.heap.size V w') ∧ Below B.heap.size B w') := hid0 (fun B V hB hV => by
        have h := Lk.list_any r.La aA cA V (by have := y7.l3; omega) (y7.past (Below.later hb1 (Below.later hB hV))).la
        rw [← hnA] at h
        exact h.mono (fun e w' ⟨g, c, e1, e3, e4⟩ => ⟨g, c, e1, hid0 ⟨e3, Nat.le_trans hsz (Nat.le_trans hb1.size (Nat.le_trans hB.size hV.size))⟩, hid0 e4, Below.later hV e4⟩))
      have HSo : Hid (∀ V, Below w1.heap.size w1 V → V.cell? ⟨wr.heap.size, 0, none⟩ = some (.slice aL nL cL) ∧ V.cell? ⟨wr.heap.size, 1, none⟩ = some (.slice aF nF cF) ∧ V.cell? ⟨wr.heap.size, 2, none⟩ = some (.slice aA nA cA) ∧ V.cell? ⟨wr.heap.size, 3, none⟩ = some (.slice aO nO cO) ∧ V.cell? ⟨wr.heap.size, 4, none⟩ = some (.bool em) ∧ Below w1.heap.size w1 V) := hid0 (fun V hV => by
        obtain ⟨c0, c1, c2, c3, c4⟩ := row5 ((hV.block _ (Array.getElem?_eq_some_iff.1 hr1).1).trans hr1)
        exact ⟨c0, c1, c2, c3, c4, hV⟩)
      have HB1 : Hid (Below wr.heap.size wr w1) := hid0 hb1
      obtain ⟨c0, c1, c2, c3, c4, b1⟩ := HSo.out w1 (below_reflX w1)
      have hfold := hw1.symm
      clear hw1 hb1 hr1 y7 hr hnL hnF hnA hnO hem han
      go_upto_region 7 with (fail)
      clear y0 y1 y2 y3 y4 hfold
      go_cut [7] from 20 to 34 (fun v7 wx => ∃ (Q gF gA : Nat) (aL' aO' : Option Addr) (cL' cF' cA' cO' : Nat), v7 = .pointer (some ⟨Q, 0, none⟩) ∧ Hid (KX w1 wx w.heap.size Q (.slice aL' r.Le.length cL') (.slice (some ⟨gF, 0, none⟩) r.Fi.length cF') (.slice (some ⟨gA, 0, none⟩) r.La.length cA') (.slice aO' r.Fo.length cO') r))
      case first =>
        have HM1 : Hid (1 = 1) := hid0 rfl
        have HM2 : Hid (2 = 2) := hid0 rfl
        have HM3 : Hid (3 = 3) := hid0 rfl
        go_region_held3 (fun V => V.cell? ⟨wr.heap.size, 0, none⟩ = some (.slice aL nL cL) ∧ V.cell? ⟨wr.heap.size, 1, none⟩ = some (.slice aF nF cF) ∧ V.cell? ⟨wr.heap.size, 2, none⟩ = some (.slice aA nA cA) ∧ V.cell? ⟨wr.heap.size, 3, none⟩ = some (.slice aO nO cO) ∧ V.cell? ⟨wr.heap.size, 4, none⟩ = some (.bool em) ∧ Below w1.heap.size w1 V) (first | exact HSo.out _ (by first | (go_grown; done) | (go_grown; omega)) | (go_split_ands; exact HSo.out _ (by first | (go_grown; done) | (go_grown; omega))) | (go_split_ands; exact HSo.out _ (by assumption)))
          (first
            | (go_at_call 36; have hm := HM1.out; clear hm; go_split_ands; refine (HC1.out w1 _ (below_reflX w1) (by first | (go_grown; done) | (go_grown; omega))).mono ?_; rintro e u1 ⟨aL', cL', rfl, H1, HB2, hx1⟩; clear HM1; have hz1 := hx1.size)
            | (go_at_call 37; have hm := HM2.out; clear hm; go_split_ands; refine (HC2.out u1 _ hx1 (by first | (go_grown; done) | (go_grown; omega))).mono ?_; rintro e u2 ⟨gF, cF', rfl, H2, HB3, hx2⟩; clear HM2; have hz2 := hx2.size; have hx2w := Below.later hx1 hx2)
            | (go_at_call 37; have hm := HM3.out; clear hm; go_split_ands; refine (HC3.out u2 _ hx2w (by first | (go_grown; done) | (go_grown; omega))).mono ?_; rintro e u3 ⟨gA, cA', rfl, H3, HB4, hx3⟩; clear HM3; have hz3 := hx3.size; have hx3w := Below.later hx2w hx3)
            | (go_at_call 36; go_split_ands; refine (HC4.out u3 _ hx3w (by first | (go_grown; done) | (go_grown; omega))).mono ?_; rintro e u4 ⟨aO', cO', rfl, H4, HB5, hx4⟩; have hz4 := hx4.size; have hx4w := Below.later hx3w hx4; (first | (have hq := laidP (.slice aL' nL cL') (.slice (some ⟨gF, 0, none⟩) nF cF') (.slice (some ⟨gA, 0, none⟩) nA cA') (.slice aO' nO cO') (.bool em) (pos_on (pos_new u3) HB5.out); obtain ⟨v1, v2, v3, v4, v5, hl⟩ := hq; have hqR : w1.heap.size ≤ u3.heap.size := (by first | omega | exact Nat.le_refl _); have HK := hid0 (kx_pre hl hqR hx4w (below_reflX u4))) | (have hq := laidP (.slice aL' nL cL') (.slice (some ⟨gF, 0, none⟩) nF cF') (.slice (some ⟨gA, 0, none⟩) nA cA') (.slice aO' nO cO') (.bool em) (pos_on (pos_on (pos_new u2) HB4.out) hx4); obtain ⟨v1, v2, v3, v4, v5, hl⟩ := hq; have hqR : w1.heap.size ≤ u2.heap.size := (by first | omega | exact Nat.le_refl _); have HK := hid0 (kx_pre hl hqR hx4w (below_reflX u4))) | (have hq := laidP (.slice aL' nL cL') (.slice (some ⟨gF, 0, none⟩) nF cF') (.slice (some ⟨gA, 0, none⟩) nA cA') (.slice aO' nO cO') (.bool em) (pos_on (pos_on (pos_on (pos_new u1) HB3.out) hx3) hx4); obtain ⟨v1, v2, v3, v4, v5, hl⟩ := hq; have hqR : w1.heap.size ≤ u1.heap.size := (by first | omega | exact Nat.le_refl _); have HK := hid0 (kx_pre hl hqR hx4w (below_reflX u4))) | (have hq := laidP (.slice aL' nL cL') (.slice (some ⟨gF, 0, none⟩) nF cF') (.slice (some ⟨gA, 0, none⟩) nA cA') (.slice aO' nO cO') (.bool em) (pos_on (pos_on (pos_on (pos_on (pos_new w1) HB2.out) hx2) hx3) hx4); obtain ⟨v1, v2, v3, v4, v5, hl⟩ := hq; have hqR : w1.heap.size ≤ w1.heap.size := (by first | omega | exact Nat.le_refl _); have HK := hid0 (kx_pre hl hqR hx4w (below_reflX u4))) | (have hq := laidP (W := u4) (R := w1.heap.size) (.slice aL' nL cL') (.slice (some ⟨gF, 0, none⟩) nF cF') (.slice (some ⟨gA, 0, none⟩) nA cA') (.slice aO' nO cO') (.bool em) (pos_on (pos_on (pos_on (pos_on (pos_new w1.drew) HB2.out) hx2) hx3) hx4); obtain ⟨v1, v2, v3, v4, v5, hl⟩ := hq; have hqR : w1.heap.size ≤ w1.heap.size := (by first | omega | exact Nat.le_refl _); have HK := hid0 (kx_pre hl hqR hx4w (below_reflX u4))) | (obtain ⟨u5, hu5⟩ : ∃ u5, u5 = u4.alloc pos0 := ⟨_, rfl⟩; have hq := laidP (W := u5) (R := u4.heap.size) (.slice aL' nL cL') (.slice (some ⟨gF, 0, none⟩) nF cF') (.slice (some ⟨gA, 0, none⟩) nA cA') (.slice aO' nO cO') (.bool em) (by rw [hu5]; exact pos_new u4); obtain ⟨v1, v2, v3, v4, v5, hl⟩ := hq; have hu5b : Below u4.heap.size u4 u5 := (by rw [hu5]; exact below_alloc1 _ _); have hfold5 := hu5.symm; clear hu5; have hqR : w1.heap.size ≤ u4.heap.size := (by omega); have hx6 := Below.later hx4w hu5b; have HK := hid0 (kx_pre hl hqR hx4w hu5b))); have hx7 := HK.out.2.1; have g1 := hl.g1; have g2 := hl.g2; have g3 := hl.g3; have g4 := hl.g4; have g5 := hl.g5; obtain ⟨z0, z1, z2, z3, z4⟩ := hl.z; have e1 := hl.a1; have e2 := hl.a2; have e3 := hl.a3; have e4 := hl.a4; have f0 := fun k => (hl.f k).1; have f1 := fun k => (hl.f k).2.1; have f2 := fun k => (hl.f k).2.2.1; have f3 := fun k => (hl.f k).2.2.2.1; have f4 := fun k => (hl.f k).2.2.2.2; clear hl))
        all_goals go_split_ands
        all_goals go_wp2
        all_goals go_meet
        all_goals exact ⟨_, gF, gA, aL', aO', cL', cF', cA', cO', rfl, hid0 (kx_fin HK.out HE.out.2.1 HE.out.2.2.1 H1.out (H2.out) H3.out H4.out hx2 hx3 hx4)⟩
      case rest =>
        obtain ⟨Q, gF, gA, aL', aO', cL', cF', cA', cO', rfl, HK⟩ := hcut
        generalize wc = w2 at *
        obtain ⟨hq1, hq2, hq3, hq4⟩ := HK.out
        obtain ⟨x0, x1, x2, x3, x4⟩ := row5 hq1
        rw [← HE.out.2.1.1] at x0
        rw [← HE.out.2.1.2.1] at x1
        rw [← HE.out.2.1.2.2.1] at x2
        rw [← HE.out.2.1.2.2.2] at x3
        rw [← HE.out.2.2.1] at x4
        have HB2 : Hid (Below wr.heap.size wr w2) := hid0 (Below.later HB1.out hq3)
        have y6' : w2.cell? ⟨bp, op + k * 6 + 5, none⟩ = some (.bool an) := (HB2.out.cell (p := ⟨bp, op + k * 6 + 5, none⟩) hbp).trans y5
        have HJ2 := hid0 (HJ.out.past HB2.out)
        obtain ⟨au, cu, eu⟩ := own_sl HJ2.out.own
        subst eu
        have HOO : Hid (w2.drew.ownsRow w.heap.size 48 6 (.slice au k cu) k VS) := hid0 (own_blk HJ2.out.own (fun _ _ => rfl))
        have HPv : Hid (PatV w2 w.heap.size (fun j => [.slice aL' nL cL', .slice (some ⟨gF, 0, none⟩) nF cF', .slice (some ⟨gA, 0, none⟩) nA cA', .slice aO' nO cO', .bool em, .bool an][j]?) rs[k]) := hid0 (by
          rw [HE.out.2.1.1, HE.out.2.1.2.1, HE.out.2.1.2.2.1, HE.out.2.1.2.2.2, HE.out.2.2.1, HE.out.2.2.2, ← HE.out.1]
          exact hq4)
        have hs2 : w.heap.size ≤ w2.heap.size := Nat.le_trans hsz HB2.out.size
        clear hq1 hq2 hq3 hq4 y5 c0 c1 c2 c3 c4 b1 HC1 HC2 HC3 HC4 HSo
        go_upto_region 8 with (fail)
        obtain ⟨vB, hvB⟩ : ∃ vB, vB = w2.drew.alloc (.cells #[.slice aL' nL cL', .slice (some ⟨gF, 0, none⟩) nF cF', .slice (some ⟨gA, 0, none⟩) nA cA', .slice aO' nO cO', .bool em, .bool an] 48) := ⟨_, rfl⟩
        have HOw : Hid (vB.ownsRow w.heap.size 48 6 (.slice au k cu) k VS) := hid0 (by rw [hvB]; exact World.ownsRow.alloc HOO.out _)
        have HNw : Hid (∀ j u, ([.slice aL' nL cL', .slice (some ⟨gF, 0, none⟩) nF cF', .slice (some ⟨gA, 0, none⟩) nA cA', .slice aO' nO cO', .bool em, .bool an] : List Value)[j]? = some u → vB.cell? ((⟨w2.heap.size, 0, none⟩ : Addr).add j) = some u) := hid0 (by rw [hvB]; exact cells6_new w2.drew _ _ _ _ _ _ _)
        have HLw : Hid (w.heap.size ≤ vB.heap.size) := hid0 (by rw [hvB]; simp; omega)
        have HNx : Hid (∀ v6 w6, w6.ownsRow w.heap.size 48 6 v6 (k + 1) (VS ++ [.slice aL' nL cL', .slice (some ⟨gF, 0, none⟩) nF cF', .slice (some ⟨gA, 0, none⟩) nA cA', .slice aO' nO cO', .bool em, .bool an]) → vB.grownBy w6 (Value.slice au k cu).ownBlock → PJL w6 w.heap.size v6 (VS ++ [.slice aL' nL cL', .slice (some ⟨gF, 0, none⟩) nF cF', .slice (some ⟨gA, 0, none⟩) nA cA', .slice aO' nO cO', .bool em, .bool an]) rs (k + 1) ∧ Below w.heap.size w w6) := hid0 (fun v6 w6 h1 h2 => by
          rw [hvB] at h2
          have h3 : (w2.alloc (.cells #[.slice aL' nL cL', .slice (some ⟨gF, 0, none⟩) nF cF', .slice (some ⟨gA, 0, none⟩) nA cA', .slice aO' nO cO', .bool em, .bool an] 48)).grownBy w6 (Value.slice au k cu).ownBlock := ⟨h2.os, h2.tape, h2.output, h2.size, h2.block⟩
          exact ⟨PJL.snoc HJ2.out hkr h1 h3 HPv.out, ((HB.out.trans (HB2.out.mono hsz)).alloc (by omega) _).grown h3 (by simp; omega) (fun q hq => (World.ownsRow.lt HJ2.out.own q hq).1)⟩)
        have gB := hvB.symm
        clear hvB HPv HJ2 HOO HK HJ HB2
        go_region_law ((refine step_append_own_at (by rfl) _ _ 22 (by rfl) w.heap.size 48 i0 _ 6 112 Tryd.underlying22 hi' hz0 hz1 hz2 rfl (by decide) (.slice au k cu) k VS (by rfl) HOw.out ⟨w2.heap.size, 0, none⟩ 1 1 [.slice aL' nL cL', .slice (some ⟨gF, 0, none⟩) nF cF', .slice (some ⟨gA, 0, none⟩) nA cA', .slice aO' nO cO', .bool em, .bool an] (by rfl) (by rfl) HNw.out (fun u hu => by simp only [List.mem_cons, List.not_mem_nil, or_false] at hu; rcases hu with rfl | rfl | rfl | rfl | rfl | rfl <;> rfl) (by unfold maxLen; omega) (by omega) HLw.out ?_; intro v6 w6 h1 h2 h3; have R := hid0 (HNx.out _ _ h1 ⟨h2.os, h2.tape, h2.output, h2.size, h2.block⟩); clear h1 h2 h3))
        all_goals
          go_wp2
          go_roundw
          case rel => exact ⟨k + 1, _, by omega, by go_num, hid0 R.out.1, hid0 R.out.2⟩
          case measure => simp [intOf]; omega
    · have hkI : ¬ (k : Int) < (n : Int) := by omega
      obtain rfl : k = n := by omega
      obtain ⟨au, cu, eu⟩ := own_sl HJ.out.own
      subst eu
      have HOO := hid0 HJ.out.own
      go_wp2_with (at_builtin; go_loud ((
        refine wpList_append_own_at _ rfl _ _ 22 rfl w.heap.size 48 i0 (.agg #[.slice none 0 0, .slice none 0 0, .slice none 0 0, .slice none 0 0, .bool false, .bool false]) 6 112 Tryd.underlying22 hi' hz0 hz1 hz2 rfl (by decide) (.slice au k cu) k VS rfl (World.ownsRow.alloc HOO.out _) ⟨wr.heap.size, 0, none⟩ 1 1 [.slice none 0 0, .slice none 0 0, .slice none 0 0, .slice none 0 0, .bool false, .bool true] rfl rfl (cells6_new _ _ _ _ _ _ _ _) (fun u hu => by simp only [List.mem_cons, List.not_mem_nil, or_false] at hu; rcases hu with rfl | rfl | rfl | rfl | rfl | rfl <;> rfl) (by unfold maxLen; omega) (by omega) (by simp; omega) ?_
        intro v6 w6 hown6 hgrow6 _ hat6
        obtain ⟨g, c, rfl⟩ := Go.Joins.ownsRow_form hown6 (by omega)
        have hcap : k + 1 ≤ c := (by {
          rcases hown6.2 with ⟨e, _⟩ | ⟨g', cap, cur, e, _, _, q3, _⟩
          · cases e
          · cases e; exact q3 })
        have hgl : w.heap.size ≤ g := (World.ownsRow.lt hown6 g rfl).1
        have HF : Hid (PatK w6 w.heap.size g c rs ∧ Below w.heap.size w w6 ∧ w.heap.size ≤ g) := hid0 ⟨pat_fin HN.out HJ.out hown6 hgrow6, (HB.out.alloc (by omega) _).grown hgrow6 (by simp; omega) (fun q hq => (World.ownsRow.lt HOO.out q hq).1), hgl⟩
        clear hown6 hgrow6 hat6)))
      go_ret
      exact ⟨g, c, rfl, HF⟩
end Go.Proofs.YtbbejfkgopcjoaaDoor
namespace Go.Proofs.YtbbejfkgopcjoaaDoor
open Go.RowKit Go.Shelf
theorem two_newX (w : World) (A B : Obj) : ((w.alloc A).alloc B).drew.heap[w.heap.size]? = some A ∧ ((w.alloc A).alloc B).drew.heap[w.heap.size + 1]? = some B ∧ Below w.heap.size w ((w.alloc A).alloc B).drew := by
  have hs : (w.alloc A).heap.size = w.heap.size + 1 := by simp
  refine ⟨?_, ?_, (((Below.refl _ _).alloc (Nat.le_refl _) _).alloc (by simp) _).drew⟩
  · show ((w.alloc A).alloc B).heap[w.heap.size]? = some A
    rw [Below.heap_alloc (w.alloc A) B _ (by omega)]
    exact heap_alloc_new w A
  · show ((w.alloc A).alloc B).heap[w.heap.size + 1]? = some B
    rw [← hs]
    exact heap_alloc_new (w.alloc A) B
set_option maxRecDepth 10000 in
set_option maxHeartbeats 3200000 in
theorem stillAll_any (lo G c cP : Nat) (aP : Option Addr) (rs : List Pr) (w : World) (hK : PatK w lo G c rs) (hP : PaI w aP rs) (hrl : rs.length ≤ 10000000) :
    Calls Tryd.prog 20 #[.slice (some ⟨G, 0, none⟩) rs.length c, .slice aP rs.length cP] w fun e w' => e = .returned (.bool true) ∧ Hid (Below w.heap.size w w') := by
  obtain ⟨n, hn⟩ : ∃ x, x = rs.length := ⟨_, rfl⟩
  have hcap := hK.cap
  obtain ⟨m0, m5⟩ := hK.mrk
  have HP := hid0 hP
  have HK := hid0 hK
  have HN := hid0 hn
  rw [← hn] at hrl hcap m0 m5 ⊢
  clear hP hn hK
  have hn0 : (0 : Int) ≤ (n : Int) := by omega
  have hwn : IntKind.i64.wrap ((n : Int) + 1) = (n : Int) + 1 := by rw [IntKind.wrap_i64]; omega
  go_enter Tryd.func20, Tryd.ntmps20
  go_wp2
  clear m0 m5
  go_loopw [7] (fun q wr => ∃ k : Nat, k ≤ n ∧ q = .int .i64 (k : Int) ∧ Hid (Below w.heap.size w wr)) (fun q _ => n - (intOf q).toNat)
  case atStart => exact ⟨0, Nat.zero_le _, rfl, hid0 (Below.refl _ _)⟩
  case round =>
    obtain ⟨k, hk, rfl, HB⟩ := hrel
    by_cases hlt : k < n
    · have hkI : (k : Int) < (n : Int) := by omega
      have hkI0 : (0 : Int) ≤ (k : Int) := by omega
      have hkr : k < rs.length := by rw [← HN.out]; exact hlt
      obtain ⟨bp, op, rfl, hbp, aL, aF, aA, aO, cL, cF, cA, cO, y0, y1, y2, y3, y4, y5, y6, y7⟩ := (HP.out.past HB.out).at' k hkr
      obtain ⟨bL, bO, gF, gA, dL, dF, dA, dO, z0, z1, z2, z3, z4, z5, z6, r1, r2, r3, r4⟩ := (HK.out.past HB.out).at' k hkr
      simp only [Nat.add_zero] at z0
      have hGl := (HK.out.past HB.out).lt
      obtain ⟨r, hr⟩ : ∃ r, r = rs[k] := ⟨_, rfl⟩
      rw [← hr] at y0 y1 y2 y3 y4 y5 y7 z0 z1 z2 z3 z4 z5 r1 r2 r3 r4
      have HC1 : Hid (∀ V, Below wr.heap.size wr V → ∀ q X, X = #[.slice bL r.Le.length dL, .slice aL r.Le.length cL] ∨ X = #[.slice bO r.Fo.length dO, .slice aO r.Fo.length cO] → Calls Tryd.prog 43 X (V.drewN q) fun e w' => e = .returned (.bool true) ∧ ∃ m, w' = (V.drewN q).drewN m) := hid0 (fun V hV q X hX => by
        have hVq : Below wr.heap.size wr (V.drewN q) := ⟨hV.os, hV.tape, hV.output, hV.size, hV.block⟩
        rcases hX with rfl | rfl
        · exact (Lk.stillRows_any r.Le bL aL dL cL lo _ (by have := y7.l1; omega) (fun l hl => by have := y7.r1 l hl; omega) (r1.past hVq) (y7.le.past hVq))
        · exact (Lk.stillRows_any r.Fo bO aO dO cO lo _ (by have := y7.l4; omega) (fun l hl => by have := y7.r4 l hl; omega) (r4.past hVq) (y7.fo.past hVq)))
      have HC2 : Hid (∀ V, Below wr.heap.size wr V → ∀ q X, X = #[.slice (some ⟨gF, 0, none⟩) r.Fi.length dF, .slice aF r.Fi.length cF] ∨ X = #[.slice (some ⟨gA, 0, none⟩) r.La.length dA, .slice aA r.La.length cA] → Calls Tryd.prog 44 X (V.drewN q) fun e w' => e = .returned (.bool true) ∧ ∃ m, w' = (V.drewN q).drewN m) := hid0 (fun V hV q X hX => by
        have hVq : Below wr.heap.size wr (V.drewN q) := ⟨hV.os, hV.tape, hV.output, hV.size, hV.block⟩
        rcases hX with rfl | rfl
        · exact (Lk.still_any r.Fi lo gF dF aF cF _ (by have := y7.l2; omega) (r2.past hVq) (y7.fi.past hVq))
        · exact (Lk.still_any r.La lo gA dA aA cA _ (by have := y7.l3; omega) (r3.past hVq) (y7.la.past hVq)))
      clear y7 r1 r2 r3 r4 z6 y6 hr
      generalize r.Le.length = nL at *
      generalize r.Fi.length = nF at *
      generalize r.La.length = nA at *
      generalize r.Fo.length = nO at *
      generalize r.em = em at *
      generalize r.an = an at *
      go_upto_region 10 with (fail)
      go_cut [8, 9] from 41 to 50 (fun p8 p9 wx => ∃ P Q : Nat, p8 = .pointer (some ⟨P, 0, none⟩) ∧ p9 = .pointer (some ⟨Q, 0, none⟩) ∧ Hid (wx.heap[P]? = some (.cells #[.slice bL nL dL, .slice (some ⟨gF, 0, none⟩) nF dF, .slice (some ⟨gA, 0, none⟩) nA dA, .slice bO nO dO, .bool em] 46 (0, 0)) ∧ wx.heap[Q]? = some (.cells #[.slice aL nL cL, .slice aF nF cF, .slice aA nA cA, .slice aO nO cO, .bool em] 46 (0, 0)) ∧ Below wr.heap.size wr wx))
      case first =>
        go_region
        all_goals go_wp2_with fail
        all_goals go_meet
        all_goals first
          | exact ⟨_, _, rfl, rfl, hid0 (two_newX _ _ _)⟩
          | exact ⟨_, _, rfl, rfl, hid0 ⟨(two_newX _ _ _).2.1, (two_newX _ _ _).1, (two_newX _ _ _).2.2⟩⟩
      case rest =>
        obtain ⟨P, Q, rfl, rfl, HX⟩ := hcut
        generalize wc = w2 at *
        obtain ⟨hp, hq, hb2⟩ := HX.out
        obtain ⟨a0, a1, a2, a3, a4⟩ := row5 hp
        obtain ⟨b0, b1, b2, b3, b4⟩ := row5 hq
        have x5 : w2.cell? ⟨bp, op + k * 6 + 5, none⟩ = some (.bool an) := (hb2.cell (p := ⟨bp, op + k * 6 + 5, none⟩) hbp).trans y5
        have v5 : w2.cell? ⟨G, k * 6 + 5, none⟩ = some (.bool an) := (hb2.cell (p := ⟨G, k * 6 + 5, none⟩) hGl).trans z5
        have HD1 := hid0 (HC1.out w2 hb2)
        have HD2 := hid0 (HC2.out w2 hb2)
        have HB2 : Hid (∀ q, Below w.heap.size w (w2.drewN q)) := hid0 (fun q => Below.later HB.out ⟨hb2.os, hb2.tape, hb2.output, hb2.size, hb2.block⟩)
        have hn1 : (an != an) = false := by simp
        have hn2 : (em != em) = false := by simp
        clear hp hq hb2 y0 y1 y2 y3 y4 y5 z0 z1 z2 z3 z4 z5 HX HC1 HC2 hbp hGl
        go_upto_region 11 with (fail)
        go_quiet ((first
          | (go_at_call 43; exact Calls.quiet_of (HD1.out _ _ (by first | exact Or.inl (by with_reducible rfl) | exact Or.inr (by with_reducible rfl))))
          | (go_at_call 44; exact Calls.quiet_of (HD2.out _ _ (by first | exact Or.inl (by with_reducible rfl) | exact Or.inr (by with_reducible rfl))))))
        go_wp2
        go_roundw
        case rel => exact ⟨k + 1, by omega, by go_num, hid0 (HB2.out _)⟩
        case measure => simp [intOf]; omega
    · have hkI : ¬ (k : Int) < (n : Int) := by omega
      go_wp2
      go_ret
      exact ⟨rfl, HB⟩
end Go.Proofs.YtbbejfkgopcjoaaDoor
namespace Go.Proofs.YtbbejfkgopcjoaaDoor
open Go.RowKit Go.Shelf
/-- A machine in its box. -/
structure BxM (V : World) (B lo hi lN lO : Nat) (aN aO : Option Addr) (cN cO : Nat) (NX OU : List Value) (nx ou : List (List Nat)) : Prop where
  r : V.heap[B]? = some (.cells #[.int .i64 0, .slice aN lN cN, .slice aO lO cO] 28 (0, 0))
  q : MQ V lo hi (.slice aN lN cN) (.slice aO lO cO) NX OU nx ou
  d : MRd V aN aO nx ou
structure BxR (V : World) (B lN lO : Nat) (aN aO : Option Addr) (cN cO : Nat) (nx ou : List (List Nat)) : Prop where
  r : V.heap[B]? = some (.cells #[.int .i64 0, .slice aN lN cN, .slice aO lO cO] 28 (0, 0))
  d : MRd V aN aO nx ou
section
variable {V V' : World} {B lo hi lN lO : Nat} {aN aO : Option Addr} {cN cO : Nat} {NX OU : List Value} {nx ou : List (List Nat)}
theorem BxM.past (h : BxM V B lo hi lN lO aN aO cN cO NX OU nx ou) (hb : Below V.heap.size V V') : BxM V' B lo hi lN lO aN aO cN cO NX OU nx ou := ⟨(hb.block _ (Array.getElem?_eq_some_iff.1 h.r).1).trans h.r, h.q.past hb, h.d.past hb⟩
theorem BxR.past (h : BxR V B lN lO aN aO cN cO nx ou) (hb : Below V.heap.size V V') : BxR V' B lN lO aN aO cN cO nx ou := ⟨(hb.block _ (Array.getElem?_eq_some_iff.1 h.r).1).trans h.r, h.d.past hb⟩
theorem bxM_new {w w' : World} (h : MLs w lo (.slice aN lN cN) (.slice aO lO cO) NX OU nx ou ∧ MRd w aN aO nx ou) (hw : w' = w.alloc (.cells #[.int .i64 0, .slice aN lN cN, .slice aO lO cO] 28)) : BxM w' w.heap.size lo w.heap.size lN lO aN aO cN cO NX OU nx ou := by
  have hb : Below w.heap.size w w' := by rw [hw]; exact below_alloc1 _ _
  exact ⟨by rw [hw]; exact heap_alloc_new w _, h.1.q.past hb, h.2.past hb⟩
theorem bxR_new {w w' : World} (h : MRd w aN aO nx ou) (hw : w' = w.alloc (.cells #[.int .i64 0, .slice aN lN cN, .slice aO lO cO] 28)) : BxR w' w.heap.size lN lO aN aO cN cO nx ou := by
  have hb : Below w.heap.size w w' := by rw [hw]; exact below_alloc1 _ _
  exact ⟨by rw [hw]; exact heap_alloc_new w _, h.past hb⟩
end
theorem bX_mul {rs : List Pr} {sy most : Int} : 0 ≤ ((bX rs sy most).1.length : Int) * sy ∧ ((bX rs sy most).1.length : Int) * sy ≤ 4194304 := by
  unfold bX
  cases hq : bldF rs sy most with
  | error i => simp
  | ok b =>
    have hv := bldF_ok hq
    obtain ⟨v1, v2, v3, v4, v5, v6⟩ := hv.val
    have hs1 := hv.s1
    simp only
    exact ⟨Int.mul_nonneg (by omega) (by omega), v5⟩
theorem bX_Sz {rs : List Pr} {sy most : Int} (hB : PrB rs) {lo hi : Nat} {vN vO : Value} {NX OU : List Value} : Mr.Sz ⟨lo, hi, vN, vO, NX, OU, (bX rs sy most).1, (bX rs sy most).2⟩ := by
  obtain ⟨s1, s2, s3, s4⟩ := bX_sz (sy := sy) (most := most) hB
  exact ⟨s1, s2, s3, s4⟩
theorem build_s {A : Nat → Addr} {rs : List Pr} {sy most : Int} {a : Option Addr} {c : Nat} {w : World} (hp : PaI w a rs) (he : EnvA w A) (hi : BIn rs sy most) :
    Calls Tryd.prog 9 #[.slice a rs.length c, .int .i64 sy, .int .i64 most] w fun e w' => ∃ aN aO cN cO NX OU, e = .returned (.tuple #[.agg #[.int .i64 0, .slice aN (bX rs sy most).1.length cN, .slice aO (bX rs sy most).2.length cO], bE A rs sy most]) ∧ Hid ((MLs w' w.heap.size (.slice aN (bX rs sy most).1.length cN) (.slice aO (bX rs sy most).2.length cO) NX OU (bX rs sy most).1 (bX rs sy most).2 ∧ MRd w' aN aO (bX rs sy most).1 (bX rs sy most).2) ∧ Below w.heap.size w w') := (build_m hp he hi).mono (fun e w' ⟨vN, vO, NX, OU, e1, h⟩ => by
  obtain ⟨aN, aO, cN, cO, rfl, rfl, h3⟩ := h.out.1.rd
  exact ⟨aN, aO, cN, cO, NX, OU, e1, hid0 ⟨⟨h.out.1, h3⟩, h.out.2⟩⟩)
/-- built, of patterns whose contents are whatever they are. -/
theorem built_y {A : Nat → Addr} {rs : List Pr} {sy most : Int} {G c lo : Nat} {w : World} (hy : YP w lo G rs) (hz : ∀ r ∈ rs, PrZ r) (hsh : ∀ rs', ShpL rs rs' → PrB rs') (he : EnvA w A) (hi : BIn rs sy most) :
    Calls Tryd.prog 24 #[.slice (some ⟨G, 0, none⟩) rs.length c, .int .i64 sy, .int .i64 most] w fun e w' => e = .returned (.bool true) ∧ Hid (Below w.heap.size w w') := by
  obtain ⟨rs', hs, hp⟩ := hy.read hz
  have h := built_any A rs' sy most (some ⟨G, 0, none⟩) c w hp he ⟨hsh rs' hs, hi.s63, hi.s64, hi.m63, hi.m64⟩
  rw [hs.len] at h
  exact h
/-- One pattern's truths turned. -/
theorem YP.flip {w : World} {lo G : Nat} {rs : List Pr} (h : YP w lo G rs) {k : Nat} (hk : k < rs.length) : ∃ em an : Bool, w.cell? ⟨G, k * 6 + 5, none⟩ = some (.bool an) ∧ (w.setCell ⟨G, k * 6 + 5, none⟩ (.bool (!an))).cell? ⟨G, k * 6 + 4, none⟩ = some (.bool em) ∧ w.frozen? ⟨G, k * 6 + 5, none⟩ = false ∧ (w.setCell ⟨G, k * 6 + 5, none⟩ (.bool (!an))).frozen? ⟨G, k * 6 + 4, none⟩ = false ∧ YP ((w.setCell ⟨G, k * 6 + 5, none⟩ (.bool (!an))).setCell ⟨G, k * 6 + 4, none⟩ (.bool (!em))) lo G rs := by
  obtain ⟨aL, aF, aA, aO, cL, cF, cA, cO, em, an, y0, y1, y2, y3, y4, y5, y6, r1, r2, r3, r4⟩ := h.at' k hk
  have h1 := h.setB y5 (!an)
  have e4 : (w.setCell ⟨G, k * 6 + 5, none⟩ (.bool (!an))).cell? ⟨G, k * 6 + 4, none⟩ = some (.bool em) := (World.cell?_setCell_other _ _ _ _ (by intro e; simp at e)).trans y4
  exact ⟨em, an, y5, e4, h.fz _, h1.fz _, h1.setB e4 (!em)⟩
end Go.Proofs.YtbbejfkgopcjoaaDoor
