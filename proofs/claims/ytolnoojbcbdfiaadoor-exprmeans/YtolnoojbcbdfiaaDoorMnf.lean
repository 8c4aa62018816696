/-
  ExTpW, ExTgW, ExThW, ExTqW, ExTh3W, ExTh4W, ExTiW, ExTrM, ExTsM, ShelfC, Eh2W.
-/
import Derived.Test.YtolnoojbcbdfiaaDoorMne
import Derived.Shelf.SlicesQ.IndexFunc
import Derived.Ground.SlgfProg
import Derived.Test.YtolnoojbcbdfiaaDoorProg
import Derived.Test.YtolnoojbcbdfiaaDoorMna
namespace Go.Proofs.YtolnoojbcbdfiaaDoor
open Go.RowKit Go.Shelf
set_option maxRecDepth 10000 in
set_option maxHeartbeats 1600000 in
theorem split_none (a b : Ex) (x y : EV) (Q Q' : Nat → Prop) (A : Nat → Addr) (w : World) (hx : ExIs w Q a x) (hy : ExIs w Q' b y) (hE : E3 w A) :
    Calls Tryd.prog 11 #[x.v, y.v, .slice none 0 0] w fun r w' => r = .returned (.bool (splitB a b [])) ∧ Below w.heap.size w w' := by
  have HM1 := hid0 (fun (V : World) (hV : Below w.heap.size w V) => match_at a x Q [] none 0 A V (by simp) (hx.past hV) (hE.below hV) (KA.none _ _ _))
  have HM2 := hid0 (fun (V : World) (hV : Below w.heap.size w V) => match_at b y Q' [] none 0 A V (by simp) (hy.past hV) (hE.below hV) (KA.none _ _ _))
  rw [List.length_nil] at HM1 HM2
  obtain ⟨k1, t1, a1, n1, ca1, b1, p1, cb1, c1, l1, cc1, rfl⟩ := hx.flat
  obtain ⟨k2, t2, a2, n2, ca2, b2, p2, cb2, c2, l2, cc2, rfl⟩ := hy.flat
  clear hx hy
  unfold EV.v at HM1 HM2 ⊢
  simp only at HM1 HM2 ⊢
  obtain ⟨W, hW⟩ : ∃ W, (w.alloc (.cells #[.int .i64 k1, .bool t1, .slice a1 n1 ca1, .slice b1 p1 cb1, .slice c1 l1 cc1] 28)).alloc (.cells #[.int .i64 k2, .bool t2, .slice a2 n2 ca2, .slice b2 p2 cb2, .slice c2 l2 cc2] 28) = W := ⟨_, rfl⟩
  obtain ⟨hr0, hr1, hb, hs⟩ := two_rows w _ _ _ _ _ _ _ _ _ _ _ W hW.symm
  have HB := hid0 hb
  have HSk : Hid (∀ V, Below W.heap.size W V → (V.cell? ⟨w.heap.size, 0, none⟩ = some (.int .i64 k1) ∧ V.cell? ⟨w.heap.size, 1, none⟩ = some (.bool t1) ∧ V.cell? ⟨w.heap.size, 2, none⟩ = some (.slice a1 n1 ca1) ∧ V.cell? ⟨w.heap.size, 3, none⟩ = some (.slice b1 p1 cb1) ∧ V.cell? ⟨w.heap.size, 4, none⟩ = some (.slice c1 l1 cc1)) ∧ V.cell? ⟨w.heap.size + 1, 0, none⟩ = some (.int .i64 k2) ∧ V.cell? ⟨w.heap.size + 1, 1, none⟩ = some (.bool t2) ∧ V.cell? ⟨w.heap.size + 1, 2, none⟩ = some (.slice a2 n2 ca2) ∧ V.cell? ⟨w.heap.size + 1, 3, none⟩ = some (.slice b2 p2 cb2) ∧ V.cell? ⟨w.heap.size + 1, 4, none⟩ = some (.slice c2 l2 cc2)) := hid0 (fun V hV => ⟨(rowE (kept hV hr0)).1, (rowE (kept hV hr1)).1⟩)
  clear hr0 hr1 hb hs hE
  go_enter Tryd.func11, Tryd.ntmps11
  go_wp2
  clear hW
  go_loopw [7] (fun i wr => ∃ (j : Nat), j ≤ 1 ∧ i = .int .i64 (j : Int) ∧ Hid (∀ i, i < j → hitB a b [] i = false) ∧ Hid (Below W.heap.size W wr)) (fun i _ => 1 - (intOf i).toNat)
  case atStart => exact ⟨0, Nat.zero_le _, rfl, hid0 (fun i hi => absurd hi (Nat.not_lt_zero _)), hid0 (Below.refl _ _)⟩
  case round =>
    obtain ⟨j, hj, rfl, HNo, HBw⟩ := hrel
    by_cases hlt : j = 0
    · subst hlt
      clear hj
      have HBd := hid0 (Below.later (Below.later HB.out HBw.out) (Below.refl wr.heap.size wr).drew)
      have hs0 := HSk.out _ (Below.later HBw.out (Below.refl wr.heap.size wr).drew)
      have HBV0 := hid0 (Below.later HBw.out (Below.refl wr.heap.size wr).drew)
      have HA := HM1
      have HC := HM2
      have HH : Hid (hitB a b [] 0 = (mtB a [] && mtB b [])) := hid0 rfl
      generalize mtB a [] = p at *
      generalize mtB b [] = q at *
      cases p with
      | false =>
        go_wp2
        refine wp_region_noPanic ?_
        refine wp_region_held_drew (S := (fun V => (V.cell? ⟨w.heap.size, 0, none⟩ = some (.int .i64 k1) ∧ V.cell? ⟨w.heap.size, 1, none⟩ = some (.bool t1) ∧ V.cell? ⟨w.heap.size, 2, none⟩ = some (.slice a1 n1 ca1) ∧ V.cell? ⟨w.heap.size, 3, none⟩ = some (.slice b1 p1 cb1) ∧ V.cell? ⟨w.heap.size, 4, none⟩ = some (.slice c1 l1 cc1)) ∧ V.cell? ⟨w.heap.size + 1, 0, none⟩ = some (.int .i64 k2) ∧ V.cell? ⟨w.heap.size + 1, 1, none⟩ = some (.bool t2) ∧ V.cell? ⟨w.heap.size + 1, 2, none⟩ = some (.slice a2 n2 ca2) ∧ V.cell? ⟨w.heap.size + 1, 3, none⟩ = some (.slice b2 p2 cb2) ∧ V.cell? ⟨w.heap.size + 1, 4, none⟩ = some (.slice c2 l2 cc2))) (by kernel_rfl) ?_ (fun hHeld => ?_)
        · exact hs0
        refine tkV (i := 0) (d := some 14) (v := ?_) rfl (by kernel_rfl) (by kernel_rfl) (by kernel_rfl) rfl (fun _ _ _ h => h) (by rfl) ?_ (by assumption) ?_
        rotate_left
        · (intro w hSw; (try dsimp only at hSw); (try simp only [List.getElem_toArray, List.getElem_cons_zero]); go_simp; try with_reducible rfl)
        try simp only [Act.put, List.setIfInBounds_toArray, List.set_cons_zero, List.set_cons_succ]
        refine tkV (i := 1) (d := some 15) (v := ?_) rfl (by kernel_rfl) (by kernel_rfl) (by kernel_rfl) rfl (fun _ _ _ h => h) (by rfl) ?_ (by assumption) ?_
        rotate_left
        · (intro w hSw; (try dsimp only at hSw); (try simp only [List.getElem_toArray, List.getElem_cons_zero, List.getElem_cons_succ]); go_simp; try with_reducible rfl)
        try simp only [Act.put, List.setIfInBounds_toArray, List.set_cons_zero, List.set_cons_succ]
        refine tkV (i := 2) (d := some 16) (v := ?_) rfl (by kernel_rfl) (by kernel_rfl) (by kernel_rfl) rfl (fun _ _ _ h => h) (by rfl) ?_ (by assumption) ?_
        rotate_left
        · (intro w hSw; (try dsimp only at hSw); (try simp only [List.getElem_toArray, List.getElem_cons_zero, List.getElem_cons_succ]); go_simp; try with_reducible rfl)
        try simp only [Act.put, List.setIfInBounds_toArray, List.set_cons_zero, List.set_cons_succ]
        refine tkV (i := 3) (d := some 17) (v := ?_) rfl (by kernel_rfl) (by kernel_rfl) (by kernel_rfl) rfl (fun _ _ _ h => h) (by rfl) ?_ (by assumption) ?_
        rotate_left
        · (intro w hSw; (try dsimp only at hSw); (try simp only [List.getElem_toArray, List.getElem_cons_zero, List.getElem_cons_succ]); go_simp; try with_reducible rfl)
        try simp only [Act.put, List.setIfInBounds_toArray, List.set_cons_zero, List.set_cons_succ]
        refine wpAnyH_ready (rs := [4]) (by kernel_rfl) (by simp) (AllReadyH.cons rfl (fun K hK => ?_) AllReadyH.nil)
        try simp only [List.getElem_toArray, List.getElem_cons_zero, List.getElem_cons_succ]
        go_simp
        refine (HA.out _ HBd.out).mono ?_
        rintro r v1 ⟨rfl, hb1⟩
        have HB1 := hid0 (Below.later HBV0.out hb1)
        have HD1 := hid0 (Below.later HBd.out hb1)
        have hs1 := HSk.out _ HB1.out
        clear hb1
        go_wp2_with fail
        refine hK.out _ _ ?_ (fun hHeld4 => ?_)
        · exact hs1
        clear hK K
        (try simp only [Act.put]); (try simp only [List.setIfInBounds_toArray]); (try simp only [List.set_cons_succ]); (try simp only [List.set_cons_zero])
        refine tkV (i := 5) (d := some 19) (v := ?_) rfl (by kernel_rfl) (by kernel_rfl) (by kernel_rfl) rfl (fun _ _ _ h => h) (by rfl) ?_ (by assumption) ?_
        rotate_left
        · (intro w hSw; (try dsimp only at hSw); (try simp only [List.getElem_toArray, List.getElem_cons_zero, List.getElem_cons_succ]); go_simp; try with_reducible rfl)
        try simp only [Act.put, List.setIfInBounds_toArray, List.set_cons_zero, List.set_cons_succ]
        refine tkU (i := 6) (d := some 20) rfl (by kernel_rfl) (by kernel_rfl) (by kernel_rfl) rfl (fun _ _ _ h => h) (by rfl) (by assumption) ?_
        try simp only [Act.put, List.setIfInBounds_toArray, List.set_cons_zero, List.set_cons_succ]
        refine tkU (i := 7) (d := some 21) rfl (by kernel_rfl) (by kernel_rfl) (by kernel_rfl) rfl (fun _ _ _ h => h) (by rfl) (by assumption) ?_
        try simp only [Act.put, List.setIfInBounds_toArray, List.set_cons_zero, List.set_cons_succ]
        refine tkU (i := 8) (d := some 22) rfl (by kernel_rfl) (by kernel_rfl) (by kernel_rfl) rfl (fun _ _ _ h => h) (by rfl) (by assumption) ?_
        try simp only [Act.put, List.setIfInBounds_toArray, List.set_cons_zero, List.set_cons_succ]
        refine tkU (i := 9) (d := some 23) rfl (by kernel_rfl) (by kernel_rfl) (by kernel_rfl) rfl (fun _ _ _ h => h) (by rfl) (by assumption) ?_
        try simp only [Act.put, List.setIfInBounds_toArray, List.set_cons_zero, List.set_cons_succ]
        refine wpAnyH_ready (rs := [10]) (by kernel_rfl) (by simp) (AllReadyH.cons rfl (fun K hK => ?_) AllReadyH.nil)
        try simp only [List.getElem_toArray, List.getElem_cons_zero, List.getElem_cons_succ]
        go_simp
        refine hK.out _ _ ?_ (fun hHeld10 => ?_)
        · assumption
        clear hK K
        (try simp only [Act.put]); (try simp only [List.setIfInBounds_toArray]); (try simp only [List.set_cons_succ]); (try simp only [List.set_cons_zero])
        refine tkV (i := 11) (d := some 25) (v := ?_) rfl (by kernel_rfl) (by kernel_rfl) (by kernel_rfl) rfl (fun _ _ _ h => h) (by rfl) ?_ (by assumption) ?_
        rotate_left
        · (intro w hSw; (try dsimp only at hSw); (try simp only [List.getElem_toArray, List.getElem_cons_zero, List.getElem_cons_succ]); go_simp; try with_reducible rfl)
        try simp only [Act.put, List.setIfInBounds_toArray, List.set_cons_zero, List.set_cons_succ]
        refine wpAnyH_done (by kernel_rfl) ?_ _
        refine NoPanic.normal ?_
        go_wp2
        go_roundw
        case rel => exact ⟨1, by omega, by go_num, hid0 (fun i hi => by
          rw [show i = 0 by omega, HH.out]
          rfl), HB1⟩
        case measure => simp [intOf]
      | true =>
        cases q with
        | false =>
          go_wp2
          refine wp_region_noPanic ?_
          refine wp_region_held_drew (S := (fun V => (V.cell? ⟨w.heap.size, 0, none⟩ = some (.int .i64 k1) ∧ V.cell? ⟨w.heap.size, 1, none⟩ = some (.bool t1) ∧ V.cell? ⟨w.heap.size, 2, none⟩ = some (.slice a1 n1 ca1) ∧ V.cell? ⟨w.heap.size, 3, none⟩ = some (.slice b1 p1 cb1) ∧ V.cell? ⟨w.heap.size, 4, none⟩ = some (.slice c1 l1 cc1)) ∧ V.cell? ⟨w.heap.size + 1, 0, none⟩ = some (.int .i64 k2) ∧ V.cell? ⟨w.heap.size + 1, 1, none⟩ = some (.bool t2) ∧ V.cell? ⟨w.heap.size + 1, 2, none⟩ = some (.slice a2 n2 ca2) ∧ V.cell? ⟨w.heap.size + 1, 3, none⟩ = some (.slice b2 p2 cb2) ∧ V.cell? ⟨w.heap.size + 1, 4, none⟩ = some (.slice c2 l2 cc2))) (by kernel_rfl) ?_ (fun hHeld => ?_)
          · exact hs0
          refine tkV (i := 0) (d := some 14) (v := ?_) rfl (by kernel_rfl) (by kernel_rfl) (by kernel_rfl) rfl (fun _ _ _ h => h) (by rfl) ?_ (by assumption) ?_
          rotate_left
          · (intro w hSw; (try dsimp only at hSw); (try simp only [List.getElem_toArray, List.getElem_cons_zero]); go_simp; try with_reducible rfl)
          try simp only [Act.put, List.setIfInBounds_toArray, List.set_cons_zero, List.set_cons_succ]
          refine tkV (i := 1) (d := some 15) (v := ?_) rfl (by kernel_rfl) (by kernel_rfl) (by kernel_rfl) rfl (fun _ _ _ h => h) (by rfl) ?_ (by assumption) ?_
          rotate_left
          · (intro w hSw; (try dsimp only at hSw); (try simp only [List.getElem_toArray, List.getElem_cons_zero, List.getElem_cons_succ]); go_simp; try with_reducible rfl)
          try simp only [Act.put, List.setIfInBounds_toArray, List.set_cons_zero, List.set_cons_succ]
          refine tkV (i := 2) (d := some 16) (v := ?_) rfl (by kernel_rfl) (by kernel_rfl) (by kernel_rfl) rfl (fun _ _ _ h => h) (by rfl) ?_ (by assumption) ?_
          rotate_left
          · (intro w hSw; (try dsimp only at hSw); (try simp only [List.getElem_toArray, List.getElem_cons_zero, List.getElem_cons_succ]); go_simp; try with_reducible rfl)
          try simp only [Act.put, List.setIfInBounds_toArray, List.set_cons_zero, List.set_cons_succ]
          refine tkV (i := 3) (d := some 17) (v := ?_) rfl (by kernel_rfl) (by kernel_rfl) (by kernel_rfl) rfl (fun _ _ _ h => h) (by rfl) ?_ (by assumption) ?_
          rotate_left
          · (intro w hSw; (try dsimp only at hSw); (try simp only [List.getElem_toArray, List.getElem_cons_zero, List.getElem_cons_succ]); go_simp; try with_reducible rfl)
          try simp only [Act.put, List.setIfInBounds_toArray, List.set_cons_zero, List.set_cons_succ]
          refine wpAnyH_ready (rs := [4]) (by kernel_rfl) (by simp) (AllReadyH.cons rfl (fun K hK => ?_) AllReadyH.nil)
          try simp only [List.getElem_toArray, List.getElem_cons_zero, List.getElem_cons_succ]
          go_simp
          refine (HA.out _ HBd.out).mono ?_
          rintro r v1 ⟨rfl, hb1⟩
          have HB1 := hid0 (Below.later HBV0.out hb1)
          have HD1 := hid0 (Below.later HBd.out hb1)
          have hs1 := HSk.out _ HB1.out
          clear hb1
          go_wp2_with fail
          refine hK.out _ _ ?_ (fun hHeld4 => ?_)
          · exact hs1
          clear hK K
          (try simp only [Act.put]); (try simp only [List.setIfInBounds_toArray]); (try simp only [List.set_cons_succ]); (try simp only [List.set_cons_zero])
          refine tkV (i := 5) (d := some 19) (v := ?_) rfl (by kernel_rfl) (by kernel_rfl) (by kernel_rfl) rfl (fun _ _ _ h => h) (by rfl) ?_ (by assumption) ?_
          rotate_left
          · (intro w hSw; (try dsimp only at hSw); (try simp only [List.getElem_toArray, List.getElem_cons_zero, List.getElem_cons_succ]); go_simp; try with_reducible rfl)
          try simp only [Act.put, List.setIfInBounds_toArray, List.set_cons_zero, List.set_cons_succ]
          refine tkV (i := 6) (d := some 20) (v := ?_) rfl (by kernel_rfl) (by kernel_rfl) (by kernel_rfl) rfl (fun _ _ _ h => h) (by rfl) ?_ (by assumption) ?_
          rotate_left
          · (intro w hSw; (try dsimp only at hSw); (try simp only [List.getElem_toArray, List.getElem_cons_zero, List.getElem_cons_succ]); go_simp; try with_reducible rfl)
          try simp only [Act.put, List.setIfInBounds_toArray, List.set_cons_zero, List.set_cons_succ]
          refine tkV (i := 7) (d := some 21) (v := ?_) rfl (by kernel_rfl) (by kernel_rfl) (by kernel_rfl) rfl (fun _ _ _ h => h) (by rfl) ?_ (by assumption) ?_
          rotate_left
          · (intro w hSw; (try dsimp only at hSw); (try simp only [List.getElem_toArray, List.getElem_cons_zero, List.getElem_cons_succ]); go_simp; try with_reducible rfl)
          try simp only [Act.put, List.setIfInBounds_toArray, List.set_cons_zero, List.set_cons_succ]
          refine tkV (i := 8) (d := some 22) (v := ?_) rfl (by kernel_rfl) (by kernel_rfl) (by kernel_rfl) rfl (fun _ _ _ h => h) (by rfl) ?_ (by assumption) ?_
          rotate_left
          · (intro w hSw; (try dsimp only at hSw); (try simp only [List.getElem_toArray, List.getElem_cons_zero, List.getElem_cons_succ]); go_simp; try with_reducible rfl)
          try simp only [Act.put, List.setIfInBounds_toArray, List.set_cons_zero, List.set_cons_succ]
          refine tkV (i := 9) (d := some 23) (v := ?_) rfl (by kernel_rfl) (by kernel_rfl) (by kernel_rfl) rfl (fun _ _ _ h => h) (by rfl) ?_ (by assumption) ?_
          rotate_left
          · (intro w hSw; (try dsimp only at hSw); (try simp only [List.getElem_toArray, List.getElem_cons_zero, List.getElem_cons_succ]); go_simp; try with_reducible rfl)
          try simp only [Act.put, List.setIfInBounds_toArray, List.set_cons_zero, List.set_cons_succ]
          refine wpAnyH_ready (rs := [10]) (by kernel_rfl) (by simp) (AllReadyH.cons rfl (fun K hK => ?_) AllReadyH.nil)
          try simp only [List.getElem_toArray, List.getElem_cons_zero, List.getElem_cons_succ]
          go_simp
          refine (HC.out _ HD1.out).mono ?_
          rintro r v2 ⟨rfl, hb2⟩
          have HB2 := hid0 (Below.later HB1.out hb2)
          have HD2 := hid0 (Below.later HD1.out hb2)
          have hs2 := HSk.out _ HB2.out
          clear hb2
          go_wp2_with fail
          refine hK.out _ _ ?_ (fun hHeld10 => ?_)
          · exact hs2
          clear hK K
          (try simp only [Act.put]); (try simp only [List.setIfInBounds_toArray]); (try simp only [List.set_cons_succ]); (try simp only [List.set_cons_zero])
          refine tkV (i := 11) (d := some 25) (v := ?_) rfl (by kernel_rfl) (by kernel_rfl) (by kernel_rfl) rfl (fun _ _ _ h => h) (by rfl) ?_ (by assumption) ?_
          rotate_left
          · (intro w hSw; (try dsimp only at hSw); (try simp only [List.getElem_toArray, List.getElem_cons_zero, List.getElem_cons_succ]); go_simp; try with_reducible rfl)
          try simp only [Act.put, List.setIfInBounds_toArray, List.set_cons_zero, List.set_cons_succ]
          refine wpAnyH_done (by kernel_rfl) ?_ _
          refine NoPanic.normal ?_
          go_wp2
          go_roundw
          case rel => exact ⟨1, by omega, by go_num, hid0 (fun i hi => by
            rw [show i = 0 by omega, HH.out]
            rfl), HB2⟩
          case measure => simp [intOf]
        | true =>
          go_wp2
          refine wp_region_noPanic ?_
          refine wp_region_held_drew (S := (fun V => (V.cell? ⟨w.heap.size, 0, none⟩ = some (.int .i64 k1) ∧ V.cell? ⟨w.heap.size, 1, none⟩ = some (.bool t1) ∧ V.cell? ⟨w.heap.size, 2, none⟩ = some (.slice a1 n1 ca1) ∧ V.cell? ⟨w.heap.size, 3, none⟩ = some (.slice b1 p1 cb1) ∧ V.cell? ⟨w.heap.size, 4, none⟩ = some (.slice c1 l1 cc1)) ∧ V.cell? ⟨w.heap.size + 1, 0, none⟩ = some (.int .i64 k2) ∧ V.cell? ⟨w.heap.size + 1, 1, none⟩ = some (.bool t2) ∧ V.cell? ⟨w.heap.size + 1, 2, none⟩ = some (.slice a2 n2 ca2) ∧ V.cell? ⟨w.heap.size + 1, 3, none⟩ = some (.slice b2 p2 cb2) ∧ V.cell? ⟨w.heap.size + 1, 4, none⟩ = some (.slice c2 l2 cc2))) (by kernel_rfl) ?_ (fun hHeld => ?_)
          · exact hs0
          refine tkV (i := 0) (d := some 14) (v := ?_) rfl (by kernel_rfl) (by kernel_rfl) (by kernel_rfl) rfl (fun _ _ _ h => h) (by rfl) ?_ (by assumption) ?_
          rotate_left
          · (intro w hSw; (try dsimp only at hSw); (try simp only [List.getElem_toArray, List.getElem_cons_zero]); go_simp; try with_reducible rfl)
          try simp only [Act.put, List.setIfInBounds_toArray, List.set_cons_zero, List.set_cons_succ]
          refine tkV (i := 1) (d := some 15) (v := ?_) rfl (by kernel_rfl) (by kernel_rfl) (by kernel_rfl) rfl (fun _ _ _ h => h) (by rfl) ?_ (by assumption) ?_
          rotate_left
          · (intro w hSw; (try dsimp only at hSw); (try simp only [List.getElem_toArray, List.getElem_cons_zero, List.getElem_cons_succ]); go_simp; try with_reducible rfl)
          try simp only [Act.put, List.setIfInBounds_toArray, List.set_cons_zero, List.set_cons_succ]
          refine tkV (i := 2) (d := some 16) (v := ?_) rfl (by kernel_rfl) (by kernel_rfl) (by kernel_rfl) rfl (fun _ _ _ h => h) (by rfl) ?_ (by assumption) ?_
          rotate_left
          · (intro w hSw; (try dsimp only at hSw); (try simp only [List.getElem_toArray, List.getElem_cons_zero, List.getElem_cons_succ]); go_simp; try with_reducible rfl)
          try simp only [Act.put, List.setIfInBounds_toArray, List.set_cons_zero, List.set_cons_succ]
          refine tkV (i := 3) (d := some 17) (v := ?_) rfl (by kernel_rfl) (by kernel_rfl) (by kernel_rfl) rfl (fun _ _ _ h => h) (by rfl) ?_ (by assumption) ?_
          rotate_left
          · (intro w hSw; (try dsimp only at hSw); (try simp only [List.getElem_toArray, List.getElem_cons_zero, List.getElem_cons_succ]); go_simp; try with_reducible rfl)
          try simp only [Act.put, List.setIfInBounds_toArray, List.set_cons_zero, List.set_cons_succ]
          refine wpAnyH_ready (rs := [4]) (by kernel_rfl) (by simp) (AllReadyH.cons rfl (fun K hK => ?_) AllReadyH.nil)
          try simp only [List.getElem_toArray, List.getElem_cons_zero, List.getElem_cons_succ]
          go_simp
          refine (HA.out _ HBd.out).mono ?_
          rintro r v1 ⟨rfl, hb1⟩
          have HB1 := hid0 (Below.later HBV0.out hb1)
          have HD1 := hid0 (Below.later HBd.out hb1)
          have hs1 := HSk.out _ HB1.out
          clear hb1
          go_wp2_with fail
          refine hK.out _ _ ?_ (fun hHeld4 => ?_)
          · exact hs1
          clear hK K
          (try simp only [Act.put]); (try simp only [List.setIfInBounds_toArray]); (try simp only [List.set_cons_succ]); (try simp only [List.set_cons_zero])
          refine tkV (i := 5) (d := some 19) (v := ?_) rfl (by kernel_rfl) (by kernel_rfl) (by kernel_rfl) rfl (fun _ _ _ h => h) (by rfl) ?_ (by assumption) ?_
          rotate_left
          · (intro w hSw; (try dsimp only at hSw); (try simp only [List.getElem_toArray, List.getElem_cons_zero, List.getElem_cons_succ]); go_simp; try with_reducible rfl)
          try simp only [Act.put, List.setIfInBounds_toArray, List.set_cons_zero, List.set_cons_succ]
          refine tkV (i := 6) (d := some 20) (v := ?_) rfl (by kernel_rfl) (by kernel_rfl) (by kernel_rfl) rfl (fun _ _ _ h => h) (by rfl) ?_ (by assumption) ?_
          rotate_left
          · (intro w hSw; (try dsimp only at hSw); (try simp only [List.getElem_toArray, List.getElem_cons_zero, List.getElem_cons_succ]); go_simp; try with_reducible rfl)
          try simp only [Act.put, List.setIfInBounds_toArray, List.set_cons_zero, List.set_cons_succ]
          refine tkV (i := 7) (d := some 21) (v := ?_) rfl (by kernel_rfl) (by kernel_rfl) (by kernel_rfl) rfl (fun _ _ _ h => h) (by rfl) ?_ (by assumption) ?_
          rotate_left
          · (intro w hSw; (try dsimp only at hSw); (try simp only [List.getElem_toArray, List.getElem_cons_zero, List.getElem_cons_succ]); go_simp; try with_reducible rfl)
          try simp only [Act.put, List.setIfInBounds_toArray, List.set_cons_zero, List.set_cons_succ]
          refine tkV (i := 8) (d := some 22) (v := ?_) rfl (by kernel_rfl) (by kernel_rfl) (by kernel_rfl) rfl (fun _ _ _ h => h) (by rfl) ?_ (by assumption) ?_
          rotate_left
          · (intro w hSw; (try dsimp only at hSw); (try simp only [List.getElem_toArray, List.getElem_cons_zero, List.getElem_cons_succ]); go_simp; try with_reducible rfl)
          try simp only [Act.put, List.setIfInBounds_toArray, List.set_cons_zero, List.set_cons_succ]
          refine tkV (i := 9) (d := some 23) (v := ?_) rfl (by kernel_rfl) (by kernel_rfl) (by kernel_rfl) rfl (fun _ _ _ h => h) (by rfl) ?_ (by assumption) ?_
          rotate_left
          · (intro w hSw; (try dsimp only at hSw); (try simp only [List.getElem_toArray, List.getElem_cons_zero, List.getElem_cons_succ]); go_simp; try with_reducible rfl)
          try simp only [Act.put, List.setIfInBounds_toArray, List.set_cons_zero, List.set_cons_succ]
          refine wpAnyH_ready (rs := [10]) (by kernel_rfl) (by simp) (AllReadyH.cons rfl (fun K hK => ?_) AllReadyH.nil)
          try simp only [List.getElem_toArray, List.getElem_cons_zero, List.getElem_cons_succ]
          go_simp
          refine (HC.out _ HD1.out).mono ?_
          rintro r v2 ⟨rfl, hb2⟩
          have HB2 := hid0 (Below.later HB1.out hb2)
          have HD2 := hid0 (Below.later HD1.out hb2)
          have hs2 := HSk.out _ HB2.out
          clear hb2
          go_wp2_with fail
          refine hK.out _ _ ?_ (fun hHeld10 => ?_)
          · exact hs2
          clear hK K
          (try simp only [Act.put]); (try simp only [List.setIfInBounds_toArray]); (try simp only [List.set_cons_succ]); (try simp only [List.set_cons_zero])
          refine tkV (i := 11) (d := some 25) (v := ?_) rfl (by kernel_rfl) (by kernel_rfl) (by kernel_rfl) rfl (fun _ _ _ h => h) (by rfl) ?_ (by assumption) ?_
          rotate_left
          · (intro w hSw; (try dsimp only at hSw); (try simp only [List.getElem_toArray, List.getElem_cons_zero, List.getElem_cons_succ]); go_simp; try with_reducible rfl)
          try simp only [Act.put, List.setIfInBounds_toArray, List.set_cons_zero, List.set_cons_succ]
          refine wpAnyH_done (by kernel_rfl) ?_ _
          refine NoPanic.normal ?_
          go_wp2
          go_ret
          exact ⟨by rw [splitB_yes (Nat.le_refl _) HH.out]; rfl, HD2.out⟩
    · have hj1 : j = 1 := by omega
      subst hj1
      have HF : Hid (splitB a b [] = false) := hid0 (splitB_no (fun i hi => HNo.out i (by simpa using hi)))
      go_wp2
      go_ret
      exact ⟨by rw [HF.out]; rfl, Below.later HB.out HBw.out⟩
theorem split_any (a b : Ex) (x y : EV) (Q Q' : Nat → Prop) (l : List Kd) (v : Value) (A : Nat → Addr) (w : World) (hl : l.length ≤ 12) (hx : ExIs w Q a x) (hy : ExIs w Q' b y) (hE : E3 w A) (hv : WV w v l) :
    Calls Tryd.prog 11 #[x.v, y.v, v] w fun r w' => r = .returned (.bool (splitB a b l)) ∧ Below w.heap.size w w' := by
  cases hv with
  | none => exact split_none a b x y Q Q' A w hx hy hE
  | some g off c _ hc h => exact split_some a b x y Q Q' l g off c A w hl hc hx hy hE h
end Go.Proofs.YtolnoojbcbdfiaaDoor
namespace Go.Proofs.YtolnoojbcbdfiaaDoor
open Go.RowKit Go.Shelf
theorem one_is {w1 w2 : World} {t : Ex} {y : EV} {B : Nat} (T : TypeId) (q : Int) (hy : ExIs w1 (fun g => B ≤ g) t y) (hB : B ≤ w1.heap.size) (h2 : w1.alloc (.cells #[y.k, y.t, y.n, y.p, y.r] T) = w2) :
    ExIs w2 (fun g => B ≤ g) (.mk q false [] [] [t]) ⟨.int .i64 q, .bool false, .slice none 0 0, .slice none 0 0, .slice (some ⟨w1.heap.size, 0, none⟩) 1 1⟩ := by
  have hr : w2.heap[w1.heap.size]? = some (.cells #[y.k, y.t, y.n, y.p, y.r] T (0, 0)) := by rw [← h2]; exact heap_alloc_new w1 _
  have hb : Below w1.heap.size w1 w2 := by rw [← h2]; exact (Below.refl _ _).alloc (Nat.le_refl _) _
  obtain ⟨⟨a0, a1, a2, a3, a4⟩, _⟩ := rowE hr
  refine .mk q false [] [] [t] none 0 none 0 (some ⟨w1.heap.size, 0, none⟩) 1 (fun _ => y) (SQ.nil _ _ _) (RQ.nil _ _ _) (by simp) (by simp) (by simp) (fun i hi => ?_) (fun i hi => ?_)
  · have : i = 0 := by simpa using hi
    subst this
    exact ⟨w1.heap.size, 0, rfl, hB, a0, a1, a2, a3, a4⟩
  · have : i = 0 := by simpa using hi
    subst this
    exact hy.past hb
/-- What is asked of tidy at a part. -/
def TidyP (n : Nat) (e : Ex) : Prop := ∀ (W : World) (y : EV), ExIn W e y → Calls Tryd.prog 5 #[y.v, .int .i64 (n : Int)] W fun r w' => ExR W (tidyE n e) r w'
/-- An expression of one part is stored. -/
theorem one_done {w W w1 : World} {t : Ex} {k5 : Int} {u5 : Bool} {a5 b5 g5 : Option Addr} {m5 c5 n5 d5 l5 z5 : Nat} (q : Int) (T : TypeId) {a0 b0 c0 d0 e0 : Value} (bel : Below w.heap.size w W) (hs : W.heap.size = w.heap.size + 2) (hr : W.heap[w.heap.size + 1]? = some (.cells #[a0, b0, c0, d0, e0] T (0, 0)))
    (hy : ExIs w1 (fun g => W.heap.size ≤ g) t ⟨.int .i64 k5, .bool u5, .slice a5 m5 c5, .slice b5 n5 d5, .slice g5 l5 z5⟩) (hb : Below W.heap.size W w1) :
    ∃ w2 V, w1.alloc (.cells #[.int .i64 k5, .bool u5, .slice a5 m5 c5, .slice b5 n5 d5, .slice g5 l5 z5] T) = w2 ∧ w2.heap[w.heap.size + 1]? = some (.cells #[a0, b0, c0, d0, e0] T (0, 0)) ∧ V = setE w2 (w.heap.size + 1) (.int .i64 q) (.bool false) (.slice none 0 0) (.slice none 0 0) (.slice (some ⟨w1.heap.size, 0, none⟩) 1 1) ∧
      V.heap[w.heap.size + 1]? = some (.cells #[.int .i64 q, .bool false, .slice none 0 0, .slice none 0 0, .slice (some ⟨w1.heap.size, 0, none⟩) 1 1] T (0, 0)) ∧ ExR w (.mk q false [] [] [t]) (.returned (.agg #[.int .i64 q, .bool false, .slice none 0 0, .slice none 0 0, .slice (some ⟨w1.heap.size, 0, none⟩) 1 1])) V := by
  have h1 := one_is (w2 := w1.alloc (.cells #[.int .i64 k5, .bool u5, .slice a5 m5 c5, .slice b5 n5 d5, .slice g5 l5 z5] T)) T q hy hb.size rfl
  have hb2 : Below w1.heap.size w1 (w1.alloc (.cells #[.int .i64 k5, .bool u5, .slice a5 m5 c5, .slice b5 n5 d5, .slice g5 l5 z5] T)) := (Below.refl _ _).alloc (Nat.le_refl _) _
  generalize w1.alloc (.cells #[.int .i64 k5, .bool u5, .slice a5 m5 c5, .slice b5 n5 d5, .slice g5 l5 z5] T) = w2 at *
  have hb3 := Below.later hb hb2
  have hr2 := (hb3.block (w.heap.size + 1) (by omega)).trans hr
  have hd := ret_done (Below.later bel hb3) (Nat.le_succ _) hr2 (show w.heap.size + 1 < W.heap.size by omega) h1
  unfold EV.v at hd
  dsimp only at hd
  obtain ⟨V, e1, e2, e3⟩ := hd
  exact ⟨w2, V, rfl, hr2, e1, e2, e3⟩
set_option maxRecDepth 10000 in
set_option maxHeartbeats 1600000 in
theorem tidy_one (n : Nat) (hn : n ≤ 100) (k : Int) (nt : Bool) (sN sP : Value) (g off m cc : Nat) (p : Ex) (y : EV) (w : World) (hm : 0 < m) (h34 : ¬ (kindT k = 3 ∨ kindT k = 4)) (h5 : Five w g off y) (hp : ExIn w p y) (ih : TidyP n p) :
    Calls Tryd.prog 5 #[.agg #[.int .i64 k, .bool nt, sN, sP, .slice (some ⟨g, off, none⟩) m cc], .int .i64 ((n + 1 : Nat) : Int)] w fun r w' => ExR w (.mk (oneK (kindT k)) false [] [] [tidyE n p]) r w' := by
  obtain ⟨W, hW⟩ : ∃ W, (w.alloc (.cells #[.int .i64 k, .bool nt, sN, sP, .slice (some ⟨g, off, none⟩) m cc] 28)).alloc (.cells #[.int .i64 0, .bool false, .slice none 0 0, .slice none 0 0, .slice none 0 0] 28) = W := ⟨_, rfl⟩
  obtain ⟨hr0, hr1, hb, hs⟩ := two_rows w _ _ _ _ _ _ _ _ _ _ _ W hW.symm
  obtain ⟨⟨x0, x1, x2, x3, x4⟩, _⟩ := rowE hr0
  obtain ⟨p0, p1, p2, p3, p4⟩ := h5.past hb
  have HR1 := hid0 hr1
  have HB := hid0 hb
  have HS := hid0 hs
  have HIH := hid0 (fun (V : World) (hV : Below W.heap.size W V) => ih V y ((hp.past hb).past hV))
  cases hp with
  | mk k1 nt1 N1 P1 L1 a1 ca1 b1 cb1 c1 cc1 vs1 hN1 hP1 hL1 hR1' =>
  unfold EV.v at HIH
  dsimp only at HIH p0 p1 p2 p3 p4
  clear hN1 hP1 hL1 hR1' ih h5
  obtain ⟨pk, hpk⟩ : ∃ pk, pk = pickN (IntKind.i64.wrap (k - 1)) 7 := ⟨_, rfl⟩
  obtain ⟨kq, hkq⟩ : ∃ kq, IntKind.i64.wrap (k - 1) = kq := ⟨_, rfl⟩
  have HPk := hid0 (fun V => pick_at kq 7 (by omega) (by omega) V)
  have hp7 : pk < 7 := by rw [hpk]; exact pickN_lt _ _ (by omega)
  rw [← hkq, ← hpk] at HPk
  rw [hkq] at HPk
  have HKT : Hid (kindT k = 1 + pk) := hid0 (by rw [hpk]; rfl)
  obtain ⟨kt, hkt⟩ : ∃ kt : Int, kt = 1 + (pk : Int) := ⟨_, rfl⟩
  have hadd : IntKind.i64.wrap (1 + (pk : Int)) = kt := by rw [hkt]; simp [IntKind.wrap, IntKind.bits, IntKind.signed]; omega
  have h3 : ¬ (kt = 3) := fun e => h34 (.inl (by have := HKT.out; omega))
  have h4 : ¬ (kt = 4) := fun e => h34 (.inr (by have := HKT.out; omega))
  have h3B : (kt != 3) = true := by simpa using h3
  have h4B : (kt != 4) = true := by simpa using h4
  have hmI : ¬ ((m : Int) = 0) := by omega
  have hm1 : (0 : Int) < (m : Int) := by omega
  have hmB : ((m : Int) == 0) = false := by simp; omega
  have hl0 : ¬ (((n + 1 : Nat) : Int) = 0) := by omega
  have hsub : IntKind.i64.wrap (((n + 1 : Nat) : Int) - 1) = (n : Int) := by simp [IntKind.wrap, IntKind.bits, IntKind.signed]; omega
  generalize ((n + 1 : Nat) : Int) = lv at *
  have hlB : (lv == 0) = false := by simpa using hl0
  have HKt := hid0 hkt
  have HH := hid0 h34
  clear hb hs hr0 hr1 hpk hkt h34
  by_cases hlt : kt < 5
  · have HOn : Hid (((oneK (kindT k) : Nat) : Int) = 5) := hid0 (by have := HKT.out; have := HKt.out; unfold oneK; rw [if_pos (by omega)]; rfl)
    go_enter Tryd.func5, Tryd.ntmps5
    go_wp2_with (first
      | (go_at_call 19; refine (HPk.out _).mono ?_; rintro r w1 ⟨rfl, rfl⟩)
      | (go_at_call 5; refine (HIH.out _ (Below.refl _ _)).mono ?_; rintro r w1 hr; obtain ⟨k5, u5, a5, m5, c5, b5, n5, d5, g5, l5, z5, rfl, q1, q2⟩ := hr.shape; obtain ⟨w2, V, e1, e2, e3, e4, e5⟩ := one_done 5 28 HB.out HS.out HR1.out q1 q2; have HR := hid0 e5; have HVr := hid0 e4; unfold setE at e3; have HV := hid0 e3; obtain ⟨⟨z0, z1, z2, z3, z4⟩, g0, g1, g2, g3, g4⟩ := rowE e2; clear q1 q2 e2 e3 e4 e5 hr)
      | fail)
    rw [← HV.out]
    obtain ⟨⟨k0, k1, k2, k3, k4⟩, _⟩ := rowE HVr.out
    exact bodyPost_ret (v := .agg #[.int .i64 5, .bool false, .slice none 0 0, .slice none 0 0, .slice (some ⟨w1.heap.size, 0, none⟩) 1 1]) (by simp [results, Tryd.results5, go_sem, k0, k1, k2, k3, k4]) rfl (by rw [HOn.out]; exact HR.out)
  · have HOn : Hid (((oneK (kindT k) : Nat) : Int) = kt) := hid0 (by have := HKT.out; have := HKt.out; unfold oneK; rw [if_neg (by omega)]; omega)
    go_enter Tryd.func5, Tryd.ntmps5
    go_wp2_with (first
      | (go_at_call 19; refine (HPk.out _).mono ?_; rintro r w1 ⟨rfl, rfl⟩)
      | (go_at_call 5; refine (HIH.out _ (Below.refl _ _)).mono ?_; rintro r w1 hr; obtain ⟨k5, u5, a5, m5, c5, b5, n5, d5, g5, l5, z5, rfl, q1, q2⟩ := hr.shape; obtain ⟨w2, V, e1, e2, e3, e4, e5⟩ := one_done kt 28 HB.out HS.out HR1.out q1 q2; have HR := hid0 e5; have HVr := hid0 e4; unfold setE at e3; have HV := hid0 e3; obtain ⟨⟨z0, z1, z2, z3, z4⟩, g0, g1, g2, g3, g4⟩ := rowE e2; clear q1 q2 e2 e3 e4 e5 hr)
      | fail)
    rw [← HV.out]
    obtain ⟨⟨k0, k1, k2, k3, k4⟩, _⟩ := rowE HVr.out
    exact bodyPost_ret (v := .agg #[.int .i64 kt, .bool false, .slice none 0 0, .slice none 0 0, .slice (some ⟨w1.heap.size, 0, none⟩) 1 1]) (by simp [results, Tryd.results5, go_sem, k0, k1, k2, k3, k4]) rfl (by rw [HOn.out]; exact HR.out)
end Go.Proofs.YtolnoojbcbdfiaaDoor
namespace Go.Proofs.YtolnoojbcbdfiaaDoor
open Go.RowKit Go.Shelf
theorem szT_le {n : Nat} (h : n ≤ 4) : szT n ≤ 121 := by
  rcases (show n = 0 ∨ n = 1 ∨ n = 2 ∨ n = 3 ∨ n = 4 by omega) with rfl | rfl | rfl | rfl | rfl <;> decide
/-- What the rounds of tidy make. -/
def flatT (n : Nat) (k : Int) (L : List Ex) (j : Nat) : List Ex := (L.take j).flatMap fun x => gl k (tidyE n x)
theorem flatT_succ (n : Nat) (k : Int) (L : List Ex) (j : Nat) (h : j < L.length) : flatT n k L (j + 1) = flatT n k L j ++ gl k (tidyE n L[j]) := by
  unfold flatT
  rw [List.take_add_one, List.getElem?_eq_getElem h, List.flatMap_append]
  simp
theorem flatT_len {n : Nat} (hn : n ≤ 4) (k : Int) (L : List Ex) (j : Nat) (h : j ≤ 3) : (flatT n k L j).length ≤ 363 := by
  have h1 := len_le_sizes (flatT n k L j)
  have h2 := flat_size k (tidyE n) (szT n) (L.take j) (fun x _ => (tidy_wf n x).2)
  have h3 : (L.take j).length * szT n ≤ 3 * 121 := Nat.mul_le_mul (by rw [List.length_take]; omega) (szT_le hn)
  unfold flatT at *
  omega
theorem parts_tidy {n : Nat} (hn : n ≤ 4) (e : Ex) : (tidyE n e).parts.length ≤ 121 := by
  have h1 := parts_le (e := tidyE n e)
  have h2 := (tidy_wf n e).2
  have h3 := szT_le hn
  omega
theorem node_many (k : Int) {l : List Ex} (h : 2 ≤ l.length) : nodeE k l = .mk k false [] [] l := by
  match l, h with
  | x :: y :: l, _ => rfl
/-- What stands between the rounds. -/
structure RowI (W wr : World) (n : Nat) (k : Int) (L : List Ex) (j : Nat) (v : Value) : Prop where
  pe : ∃ ys, PE wr W.heap.size (fun b => W.heap.size ≤ b) v (flatT n k L j) ys
  bel : Below W.heap.size W wr
theorem RowI.first (W : World) (n : Nat) (k : Int) (L : List Ex) : RowI W W n k L 0 (.slice none 0 0) := ⟨⟨[], by unfold flatT; exact PE.nil _ _ _⟩, Below.refl _ _⟩
theorem ownB_lt {W : World} {lo : Nat} {Q : Nat → Prop} {v : Value} {L : List Ex} {xs : List EV} (h : PE W lo Q v L xs) : ∀ q, v.ownBlock = some q → lo ≤ q ∧ q < W.heap.size := fun q e => World.ownsRow.lt h.own q e
/-- A part is made, laid into a block of its own, and glued. -/
theorem RowI.ask {W wr w1 w2 : World} {n : Nat} {k : Int} {L : List Ex} {j : Nat} {v : Value} (h : RowI W wr n k L j v) (hn : n ≤ 4) (hj : j < 3) {t : Ex} {y : EV} (ht : t.parts.length ≤ 121) (hy : ExIs w1 (fun g => wr.heap.size ≤ g) t y) (hb : Below wr.heap.size wr w1) (h2 : Below w1.heap.size w1 w2) :
    Calls Tryd.prog 8 #[v, y.v, .int .i64 k] w2 fun r w' => ∃ v', r = .returned v' ∧ (∃ ys, PE w' W.heap.size (fun b => W.heap.size ≤ b) v' (flatT n k L j ++ gl k t) ys) ∧ Below W.heap.size W w' := by
  obtain ⟨ys, hp⟩ := h.pe
  have hb2 := Below.later hb h2
  have hs := h.bel.size
  have hy2 : ExIs w2 (fun b => W.heap.size ≤ b ∧ v.ownBlock ≠ some b) t y := (hy.mono (fun g _ hg => ⟨by omega, fun e => by have := (ownB_lt hp g e).2; omega⟩)).past h2
  refine (glued_any k (flatT n k L j) ys v t y _ W.heap.size w2 (hp.past hb2) hy2 (Nat.le_trans hs hb2.size) (by have := flatT_len hn k L j (by omega); omega)).mono ?_
  rintro r w' ⟨v', xs, rfl, q1, q2⟩
  exact ⟨v', rfl, ⟨xs, q1⟩, q2.below (Below.later h.bel hb2) (Nat.le_trans hs hb2.size) (fun q e => (ownB_lt hp q e).1)⟩
theorem RowI.done {w W wr : World} {n : Nat} {k : Int} {L : List Ex} {v : Value} (h : RowI W wr n k L 3 v) (hn : n ≤ 4) {T : TypeId} {a0 b0 c0 d0 e0 : Value} (bel : Below w.heap.size w W) (hs : W.heap.size = w.heap.size + 2) (hr : W.heap[w.heap.size + 1]? = some (.cells #[a0, b0, c0, d0, e0] T (0, 0))) :
    wr.heap[w.heap.size + 1]? = some (.cells #[a0, b0, c0, d0, e0] T (0, 0)) ∧ ∃ a c, v = .slice a (flatT n k L 3).length c ∧
    ((flatT n k L 3).length = 0 → ∃ V, V = setE wr (w.heap.size + 1) (.int .i64 1) (.bool false) (.slice none 0 0) (.slice none 0 0) (.slice none 0 0) ∧ V.heap[w.heap.size + 1]? = some (.cells #[.int .i64 1, .bool false, .slice none 0 0, .slice none 0 0, .slice none 0 0] T (0, 0)) ∧ ExR w (nodeE k (flatT n k L 3)) (.returned (.agg #[.int .i64 1, .bool false, .slice none 0 0, .slice none 0 0, .slice none 0 0])) V) ∧
    ((flatT n k L 3).length = 1 → ∃ g k5 u5 a5 m5 c5 b5 n5 d5 g5 l5 z5, a = some ⟨g, 0, none⟩ ∧ Five wr g 0 ⟨.int .i64 k5, .bool u5, .slice a5 m5 c5, .slice b5 n5 d5, .slice g5 l5 z5⟩ ∧ ∃ V, V = setE wr (w.heap.size + 1) (.int .i64 k5) (.bool u5) (.slice a5 m5 c5) (.slice b5 n5 d5) (.slice g5 l5 z5) ∧ V.heap[w.heap.size + 1]? = some (.cells #[.int .i64 k5, .bool u5, .slice a5 m5 c5, .slice b5 n5 d5, .slice g5 l5 z5] T (0, 0)) ∧ ExR w (nodeE k (flatT n k L 3)) (.returned (.agg #[.int .i64 k5, .bool u5, .slice a5 m5 c5, .slice b5 n5 d5, .slice g5 l5 z5])) V) ∧
    (2 ≤ (flatT n k L 3).length → ∃ V, V = setE wr (w.heap.size + 1) (.int .i64 k) (.bool false) (.slice none 0 0) (.slice none 0 0) v ∧ V.heap[w.heap.size + 1]? = some (.cells #[.int .i64 k, .bool false, .slice none 0 0, .slice none 0 0, v] T (0, 0)) ∧ ExR w (nodeE k (flatT n k L 3)) (.returned (.agg #[.int .i64 k, .bool false, .slice none 0 0, .slice none 0 0, v])) V) := by
  obtain ⟨ys, hp⟩ := h.pe
  have hl := flatT_len hn k L 3 (Nat.le_refl _)
  obtain ⟨a, c, hv⟩ := hp.form
  have hr2 := (h.bel.block (w.heap.size + 1) (by omega)).trans hr
  have hb2 := Below.later bel h.bel
  have hX : w.heap.size + 1 < W.heap.size := by omega
  refine ⟨hr2, a, c, hv, fun h0 => ?_, fun h1 => ?_, fun h2 => ?_⟩
  · rw [List.length_eq_zero_iff.1 h0]
    have hd := ret_done hb2 (Nat.le_succ _) hr2 hX (empty_is wr _)
    unfold EV.v at hd
    dsimp only at hd
    exact hd
  · obtain ⟨x, hx⟩ := List.length_eq_one_iff.1 h1
    rw [hx] at hp hv h1 ⊢
    obtain ⟨g, c', e, hg, h5⟩ := hp.cells 0 (by simp) (by rw [hp.len]; simp)
    have his := (hp.is 0 (by simp) (by rw [hp.len]; simp)).mono (Q' := fun b => W.heap.size ≤ b) (fun g _ hq => hq.1)
    rw [hv] at e
    cases e
    simp only [List.getElem_cons_zero] at his
    generalize ys[0]'(by rw [hp.len]; simp) = y at *
    cases his with
    | mk k5 u5 N5 P5 L5 a5 ca5 b5 cb5 c5 cc5 vs5 hN5 hP5 lN5 lP5 lL5 hL5 hR5 =>
      have hd := ret_done hb2 (Nat.le_succ _) hr2 hX (ExIs.mk k5 u5 N5 P5 L5 a5 ca5 b5 cb5 c5 cc5 vs5 hN5 hP5 lN5 lP5 lL5 hL5 hR5)
      unfold EV.v at hd
      dsimp only at hd
      exact ⟨g, k5, u5, a5, N5.length, ca5, b5, P5.length, cb5, c5, L5.length, cc5, rfl, by simpa using h5, hd⟩
  · obtain ⟨c1, c2, e, hx⟩ := hp.ex (fun g hg => hg) (by omega) k
    rw [e]
    have hd := ret_done hb2 (Nat.le_succ _) hr2 hX hx
    unfold EV.v at hd
    dsimp only at hd
    rw [node_many k h2]
    exact hd
end Go.Proofs.YtolnoojbcbdfiaaDoor
namespace Go.Proofs.YtolnoojbcbdfiaaDoor
open Go.RowKit Go.Shelf
/-- An expression that is answered; its parts may lie where others do. -/
def ExT (w : World) (t : Ex) (r : Ending) (w' : World) : Prop := ∃ y : EV, r = .returned y.v ∧ ExIs w' (fun _ => True) t y ∧ Below w.heap.size w w'
theorem ExT.shape {w w' : World} {t : Ex} {r : Ending} (h : ExT w t r w') : ∃ k u a m c b n d g l z, r = .returned (.agg #[.int .i64 k, .bool u, .slice a m c, .slice b n d, .slice g l z]) ∧ ExIs w' (fun _ => True) t ⟨.int .i64 k, .bool u, .slice a m c, .slice b n d, .slice g l z⟩ ∧ Below w.heap.size w w' := by
  obtain ⟨y, e, h1, h2⟩ := h
  obtain ⟨k, u, a, m, c, b, n, d, g, l, z, rfl⟩ := h1.flat
  exact ⟨k, u, a, m, c, b, n, d, g, l, z, e, h1, h2⟩
theorem ret_done2 {w W : World} {X : Nat} {t : TypeId} {a0 b0 c0 d0 e0 : Value} {e : Ex} {y : EV} (bel : Below w.heap.size w W) (hX : w.heap.size ≤ X) (hr : W.heap[X]? = some (.cells #[a0, b0, c0, d0, e0] t (0, 0))) (hy : ExIs W (fun g => g ≠ X) e y) :
    ∃ V, V = setE W X y.k y.t y.n y.p y.r ∧ V.heap[X]? = some (.cells #[y.k, y.t, y.n, y.p, y.r] t (0, 0)) ∧ ExT w e (.returned y.v) V :=
  ⟨_, rfl, setE_row hr _ _ _ _ _, y, rfl, (hy.keeps (setE_keeps (W := W) (X := X) y.k y.t y.n y.p y.r)).mono (fun _ _ _ => trivial), setE_below bel hX _ _ _ _ _⟩
/-- The end of seq: no part, one, more. -/
theorem seq_done {w W wr : World} {X lo : Nat} {k : Int} {F : List Ex} {v : Value} {ys : List EV} (hp : PE wr lo (fun b => b ≠ X) v F ys) (hlo : X < lo) (hl : F.length ≤ 1000000) {T : TypeId} {a0 b0 c0 d0 e0 : Value} (bel : Below w.heap.size w W) (hX : w.heap.size ≤ X) (hXW : X < W.heap.size) (hr : W.heap[X]? = some (.cells #[a0, b0, c0, d0, e0] T (0, 0))) (hbw : Below W.heap.size W wr) :
    wr.heap[X]? = some (.cells #[a0, b0, c0, d0, e0] T (0, 0)) ∧ ∃ a c, v = .slice a F.length c ∧
    (F.length = 0 → ∃ V, V = setE wr X (.int .i64 1) (.bool false) (.slice none 0 0) (.slice none 0 0) (.slice none 0 0) ∧ V.heap[X]? = some (.cells #[.int .i64 1, .bool false, .slice none 0 0, .slice none 0 0, .slice none 0 0] T (0, 0)) ∧ ExT w (nodeE k F) (.returned (.agg #[.int .i64 1, .bool false, .slice none 0 0, .slice none 0 0, .slice none 0 0])) V) ∧
    (F.length = 1 → ∃ g k5 u5 a5 m5 c5 b5 n5 d5 g5 l5 z5, a = some ⟨g, 0, none⟩ ∧ Five wr g 0 ⟨.int .i64 k5, .bool u5, .slice a5 m5 c5, .slice b5 n5 d5, .slice g5 l5 z5⟩ ∧ ∃ V, V = setE wr X (.int .i64 k5) (.bool u5) (.slice a5 m5 c5) (.slice b5 n5 d5) (.slice g5 l5 z5) ∧ V.heap[X]? = some (.cells #[.int .i64 k5, .bool u5, .slice a5 m5 c5, .slice b5 n5 d5, .slice g5 l5 z5] T (0, 0)) ∧ ExT w (nodeE k F) (.returned (.agg #[.int .i64 k5, .bool u5, .slice a5 m5 c5, .slice b5 n5 d5, .slice g5 l5 z5])) V) ∧
    (2 ≤ F.length → ∃ V, V = setE wr X (.int .i64 k) (.bool false) (.slice none 0 0) (.slice none 0 0) v ∧ V.heap[X]? = some (.cells #[.int .i64 k, .bool false, .slice none 0 0, .slice none 0 0, v] T (0, 0)) ∧ ExT w (nodeE k F) (.returned (.agg #[.int .i64 k, .bool false, .slice none 0 0, .slice none 0 0, v])) V) := by
  obtain ⟨a, c, hv⟩ := hp.form
  have hr2 := (hbw.block X hXW).trans hr
  have hb2 := Below.later bel hbw
  refine ⟨hr2, a, c, hv, fun h0 => ?_, fun h1 => ?_, fun h2 => ?_⟩
  · rw [List.length_eq_zero_iff.1 h0]
    have hd := ret_done2 hb2 hX hr2 (empty_is wr _)
    unfold EV.v at hd
    dsimp only at hd
    exact hd
  · obtain ⟨x, hx⟩ := List.length_eq_one_iff.1 h1
    subst hx
    obtain ⟨g, c', e, hg, h5⟩ := hp.cells 0 (by simp) (by rw [hp.len]; simp)
    have his := (hp.is 0 (by simp) (by rw [hp.len]; simp)).mono (Q' := fun b => b ≠ X) (fun g _ hq => hq.1)
    rw [hv] at e
    cases e
    simp only [List.getElem_cons_zero] at his
    generalize ys[0]'(by rw [hp.len]; simp) = y at *
    obtain ⟨k5, u5, a5, m5, c5, b5, n5, d5, g5, l5, z5, rfl⟩ := his.flat
    have hd := ret_done2 hb2 hX hr2 his
    unfold EV.v at hd
    dsimp only at hd
    exact ⟨g, k5, u5, a5, m5, c5, b5, n5, d5, g5, l5, z5, rfl, by simpa using h5, hd⟩
  · obtain ⟨c1, c2, e, hx⟩ := hp.ex (fun g hg => by omega) (by omega) k
    rw [e]
    have hd := ret_done2 hb2 hX hr2 hx
    unfold EV.v at hd
    dsimp only at hd
    rw [node_many k h2]
    exact hd
/-- The three blocks that seq begins with. -/
theorem three_rows (w : World) (t : TypeId) (a b c d e a' b' c' d' e' a2 b2 c2 d2 e2 : Value) (W : World) (hW : W = ((w.alloc (.cells #[a, b, c, d, e] t)).alloc (.cells #[a', b', c', d', e'] t)).alloc (.cells #[a2, b2, c2, d2, e2] t)) :
    W.heap[w.heap.size]? = some (.cells #[a, b, c, d, e] t (0, 0)) ∧ W.heap[w.heap.size + 1]? = some (.cells #[a', b', c', d', e'] t (0, 0)) ∧ W.heap[w.heap.size + 1 + 1]? = some (.cells #[a2, b2, c2, d2, e2] t (0, 0)) ∧ Below w.heap.size w W ∧ W.heap.size = w.heap.size + 3 := by
  obtain ⟨wb, hwb⟩ : ∃ wb, wb = (w.alloc (.cells #[a, b, c, d, e] t)).alloc (.cells #[a', b', c', d', e'] t) := ⟨_, rfl⟩
  obtain ⟨r0, r1, hb, hs⟩ := two_rows w _ _ _ _ _ _ _ _ _ _ _ wb hwb
  rw [← hwb] at hW
  obtain ⟨hb2, r2, s2⟩ := laid hW.symm
  rw [hs] at r2 s2
  exact ⟨kept hb2 r0, kept hb2 r1, r2, Below.later hb hb2, s2⟩
set_option maxRecDepth 10000 in
set_option maxHeartbeats 1600000 in
theorem seq_any (a b : Ex) (x y : EV) (Q Q' : Nat → Prop) (w : World) (hx : ExIs w Q a x) (hy : ExIs w Q' b y) (hpa : a.parts.length ≤ 1000) (hpb : b.parts.length ≤ 1000) :
    Calls Tryd.prog 10 #[x.v, y.v] w fun r w' => ExT w (nodeE 3 (gl 3 a ++ gl 3 b)) r w' := by
  have hx0 := hx.mono (Q' := fun g => g < w.heap.size) (fun g hg _ => hg)
  have hy0 := hy.mono (Q' := fun g => g < w.heap.size) (fun g hg _ => hg)
  have HG1 := hid0 (fun (V : World) (hV : Below w.heap.size w V) => glued_any 3 [] [] (.slice none 0 0) a x (fun b => b ≠ w.heap.size + 1 + 1) V.heap.size V (PE.nil _ _ _) ((hx0.past hV).mono (fun g _ h => ⟨by omega, by simp [Value.ownBlock]⟩)) (Nat.le_refl _) (by simp; omega))
  have HG2 := hid0 (fun (W V : World) (v : Value) (xs : List EV) (hW : Below w.heap.size w W) (hV : Below W.heap.size W V) (hp : PE V W.heap.size (fun b => b ≠ w.heap.size + 1 + 1) v (gl 3 a) xs) => glued_any 3 (gl 3 a) xs v b y (fun b => b ≠ w.heap.size + 1 + 1) W.heap.size V hp (((hy0.past hW).mono (Q' := fun g => g < w.heap.size) (fun g _ h => h)).past hV |>.mono (fun g _ h => ⟨by omega, fun e => by have := (ownB_lt hp g e).1; have := hW.size; omega⟩)) hV.size (by
    have : (gl 3 a).length ≤ 1001 := by
      unfold gl
      split
      · omega
      · split <;> simp
    omega))
  have HLen : Hid ((gl 3 a ++ gl 3 b).length ≤ 1000000) := hid0 (by
    have h1 : (gl 3 a).length ≤ 1001 := by
      unfold gl
      split
      · omega
      · split <;> simp
    have h2 : (gl 3 b).length ≤ 1001 := by
      unfold gl
      split
      · omega
      · split <;> simp
    rw [List.length_append]
    omega)
  obtain ⟨k1, t1, a1, n1, ca1, b1, p1, cb1, c1, l1, cc1, rfl⟩ := hx.flat
  obtain ⟨k2, t2, a2, n2, ca2, b2, p2, cb2, c2, l2, cc2, rfl⟩ := hy.flat
  clear hx hy hx0 hy0 hpa hpb
  unfold EV.v at HG1 HG2 ⊢
  simp only [List.nil_append] at HG1 HG2 ⊢
  obtain ⟨W, hW⟩ : ∃ W, ((w.alloc (.cells #[.int .i64 k1, .bool t1, .slice a1 n1 ca1, .slice b1 p1 cb1, .slice c1 l1 cc1] 28)).alloc (.cells #[.int .i64 k2, .bool t2, .slice a2 n2 ca2, .slice b2 p2 cb2, .slice c2 l2 cc2] 28)).alloc (.cells #[.int .i64 0, .bool false, .slice none 0 0, .slice none 0 0, .slice none 0 0] 28) = W := ⟨_, rfl⟩
  obtain ⟨hr0, hr1, hr2, hb, hs⟩ := three_rows w _ _ _ _ _ _ _ _ _ _ _ _ _ _ _ _ W hW.symm
  obtain ⟨⟨x0, x1, x2, x3, x4⟩, _⟩ := rowE hr0
  have HR1 := hid0 hr1
  have HR2 := hid0 hr2
  have HB := hid0 hb
  have HS := hid0 hs
  clear hr0 hr1 hr2 hb hs
  obtain ⟨F, hF⟩ : ∃ F, gl 3 a ++ gl 3 b = F := ⟨_, rfl⟩
  rw [hF] at HLen HG2 ⊢
  clear hF
  rcases (show F.length = 0 ∨ F.length = 1 ∨ 2 ≤ F.length by omega) with hm | hm | hm
  · go_enter Tryd.func10, Tryd.ntmps10
    go_wp2_with (first
      | (go_at_call 8
         refine (HG2.out W w1 _ xs HB.out HB1.out HP1.out).mono ?_
         rintro r w2 ⟨v2, ys, rfl, q1, q2⟩
         have HB2 := hid0 (q2.below HB1.out HB1.out.size (fun q e => (ownB_lt HP1.out q e).1))
         obtain ⟨hrw, a6, c6, rfl, h0, h1, h2⟩ := seq_done (k := 3) q1 (by have := HS.out; omega) HLen.out HB.out (by omega) (by have := HS.out; omega) HR2.out HB2.out
         obtain ⟨⟨z0, z1, z2, z3, z4⟩, f0, f1, f2, f3, f4⟩ := rowE hrw
         obtain ⟨V, hV, hVr, hR⟩ := h0 hm
         have HR := hid0 hR
         have HVr := hid0 hVr
         unfold setE at hV
         have HV := hid0 hV
         clear hV hVr hR h0 h1 h2 hrw q1 q2)
      | (go_at_call 8
         refine (HG1.out _ HB.out).mono ?_
         rintro r w1 ⟨v1, xs, rfl, q1, q2⟩
         have HB1 := hid0 (q2.below (Below.refl W.heap.size W) (Nat.le_refl _) (fun q e => (by simp [Value.ownBlock] at e)))
         have HP1 := hid0 q1
         obtain ⟨⟨y0, y1, y2, y3, y4⟩, _⟩ := rowE (kept HB1.out HR1.out)
         clear q1 q2)
      | fail)
    rw [← HV.out]
    obtain ⟨⟨k0, k1', k2', k3, k4⟩, _⟩ := rowE HVr.out
    exact bodyPost_ret (v := .agg #[.int .i64 1, .bool false, .slice none 0 0, .slice none 0 0, .slice none 0 0]) (by simp [results, Tryd.results10, go_sem, k0, k1', k2', k3, k4]) rfl HR.out
  · go_enter Tryd.func10, Tryd.ntmps10
    go_wp2_with (first
      | (go_at_call 8
         refine (HG2.out W w1 _ xs HB.out HB1.out HP1.out).mono ?_
         rintro r w2 ⟨v2, ys, rfl, q1, q2⟩
         have HB2 := hid0 (q2.below HB1.out HB1.out.size (fun q e => (ownB_lt HP1.out q e).1))
         obtain ⟨hrw, a6, c6, rfl, h0, h1, h2⟩ := seq_done (k := 3) q1 (by have := HS.out; omega) HLen.out HB.out (by omega) (by have := HS.out; omega) HR2.out HB2.out
         obtain ⟨⟨z0, z1, z2, z3, z4⟩, f0, f1, f2, f3, f4⟩ := rowE hrw
         obtain ⟨g, k5, u5, a5, m5, c5, b5, n5, d5, g5, l5, z5, rfl, h5, V, hV, hVr, hR⟩ := h1 hm
         obtain ⟨s0, s1, s2, s3, s4⟩ := h5
         simp only [Nat.zero_add] at s0 s1 s2 s3 s4
         have HR := hid0 hR
         have HVr := hid0 hVr
         unfold setE at hV
         have HV := hid0 hV
         clear hV hVr hR h0 h1 h2 hrw q1 q2)
      | (go_at_call 8
         refine (HG1.out _ HB.out).mono ?_
         rintro r w1 ⟨v1, xs, rfl, q1, q2⟩
         have HB1 := hid0 (q2.below (Below.refl W.heap.size W) (Nat.le_refl _) (fun q e => (by simp [Value.ownBlock] at e)))
         have HP1 := hid0 q1
         obtain ⟨⟨y0, y1, y2, y3, y4⟩, _⟩ := rowE (kept HB1.out HR1.out)
         clear q1 q2)
      | fail)
    rw [← HV.out]
    obtain ⟨⟨k0, k1', k2', k3, k4⟩, _⟩ := rowE HVr.out
    exact bodyPost_ret (v := .agg #[.int .i64 k5, .bool u5, .slice a5 m5 c5, .slice b5 n5 d5, .slice g5 l5 z5]) (by simp [results, Tryd.results10, go_sem, k0, k1', k2', k3, k4]) rfl HR.out
  · have hm0 : ¬ ((F.length : Int) = 0) := by omega
    have hm1 : ¬ ((F.length : Int) = 1) := by omega
    go_enter Tryd.func10, Tryd.ntmps10
    go_wp2_with (first
      | (go_at_call 8
         refine (HG2.out W w1 _ xs HB.out HB1.out HP1.out).mono ?_
         rintro r w2 ⟨v2, ys, rfl, q1, q2⟩
         have HB2 := hid0 (q2.below HB1.out HB1.out.size (fun q e => (ownB_lt HP1.out q e).1))
         obtain ⟨hrw, a6, c6, rfl, h0, h1, h2⟩ := seq_done (k := 3) q1 (by have := HS.out; omega) HLen.out HB.out (by omega) (by have := HS.out; omega) HR2.out HB2.out
         obtain ⟨⟨z0, z1, z2, z3, z4⟩, f0, f1, f2, f3, f4⟩ := rowE hrw
         obtain ⟨V, hV, hVr, hR⟩ := h2 hm
         have HR := hid0 hR
         have HVr := hid0 hVr
         unfold setE at hV
         have HV := hid0 hV
         clear hV hVr hR h0 h1 h2 hrw q1 q2)
      | (go_at_call 8
         refine (HG1.out _ HB.out).mono ?_
         rintro r w1 ⟨v1, xs, rfl, q1, q2⟩
         have HB1 := hid0 (q2.below (Below.refl W.heap.size W) (Nat.le_refl _) (fun q e => (by simp [Value.ownBlock] at e)))
         have HP1 := hid0 q1
         obtain ⟨⟨y0, y1, y2, y3, y4⟩, _⟩ := rowE (kept HB1.out HR1.out)
         clear q1 q2)
      | fail)
    rw [← HV.out]
    obtain ⟨⟨k0, k1', k2', k3, k4⟩, _⟩ := rowE HVr.out
    exact bodyPost_ret (v := .agg #[.int .i64 3, .bool false, .slice none 0 0, .slice none 0 0, .slice a6 F.length c6]) (by simp [results, Tryd.results10, go_sem, k0, k1', k2', k3, k4]) rfl HR.out
end Go.Proofs.YtolnoojbcbdfiaaDoor
namespace Go.Proofs.YtolnoojbcbdfiaaDoor
open Go.RowKit Go.Shelf
set_option maxRecDepth 10000 in
set_option maxHeartbeats 3200000 in
theorem tidy_row3 (n : Nat) (hn : n ≤ 4) (k : Int) (nt : Bool) (sN sP : Value) (L : List Ex) (c : Option Addr) (cc : Nat) (vs : Nat → EV) (w : World) (hne : 0 < L.length) (hkt : kindT k = 3) (hL : ∀ i, i < L.length → ∃ g off, c = some ⟨g, off, none⟩ ∧ Five w g (off + i * 5) (vs i)) (hR : ∀ i (h : i < L.length), ExIn w L[i] (vs i)) (ih : ∀ e, TidyP n e) :
    Calls Tryd.prog 5 #[.agg #[.int .i64 k, .bool nt, sN, sP, .slice c L.length cc], .int .i64 ((n + 1 : Nat) : Int)] w fun r w' => ExR w (nodeE 3 (flatT n 3 L 3)) r w' := by
  obtain ⟨W, hW⟩ : ∃ W, (w.alloc (.cells #[.int .i64 k, .bool nt, sN, sP, .slice c L.length cc] 28)).alloc (.cells #[.int .i64 0, .bool false, .slice none 0 0, .slice none 0 0, .slice none 0 0] 28) = W := ⟨_, rfl⟩
  obtain ⟨hr0, hr1, hb, hs⟩ := two_rows w _ _ _ _ _ _ _ _ _ _ _ W hW.symm
  obtain ⟨⟨x0, x1, x2, x3, x4⟩, _⟩ := rowE hr0
  have HR0 := hid0 hr0
  have HR1 := hid0 hr1
  have HB := hid0 hb
  have HS := hid0 hs
  have HL := hid0 hL
  have HRr := hid0 hR
  have HIH := hid0 ih
  clear hL hR ih
  obtain ⟨pk, hpk⟩ : ∃ pk, pk = pickN (IntKind.i64.wrap (k - 1)) 7 := ⟨_, rfl⟩
  obtain ⟨kq, hkq⟩ : ∃ kq, IntKind.i64.wrap (k - 1) = kq := ⟨_, rfl⟩
  have HPk := hid0 (fun V => pick_at kq 7 (by omega) (by omega) V)
  rw [← hkq, ← hpk] at HPk
  rw [hkq] at HPk
  have hpk2 : pk = 2 := by
    have : kindT k = 1 + pk := by rw [hpk]; rfl
    omega
  subst hpk2
  have hmI : ¬ ((L.length : Int) = 0) := by omega
  have hmB : ((L.length : Int) == 0) = false := by simp; intro e; rw [e] at hne; exact absurd hne (by simp)
  have hl0 : ¬ (((n + 1 : Nat) : Int) = 0) := by omega
  have hsub : IntKind.i64.wrap (((n + 1 : Nat) : Int) - 1) = (n : Int) := by simp [IntKind.wrap, IntKind.bits, IntKind.signed]; omega
  generalize ((n + 1 : Nat) : Int) = lv at *
  have hlB : (lv == 0) = false := by simpa using hl0
  have HI0 := hid0 (RowI.first W n 3 L)
  clear hb hs hr0 hr1 hpk hkt hne
  go_enter Tryd.func5, Tryd.ntmps5
  go_wp2_with (first
    | (go_at_call 19; refine (HPk.out _).mono ?_; rintro r w1 ⟨rfl, rfl⟩)
    | fail)
  clear hW x0 x1 x2 x3 x4
  go_loopw [6, 7, 8] (fun v i _ wr => ∃ (j : Nat), j ≤ 3 ∧ i = .int .i64 (j : Int) ∧ Hid (RowI w1 wr n 3 L j v)) (fun _ i _ _ => 3 - (intOf i).toNat)
  case atStart => exact ⟨0, Nat.zero_le _, rfl, HI0⟩
  case round =>
    clear HI0
    obtain ⟨j, hj, rfl, HI⟩ := hrel
    have HRw := hid0 ((HI.out.bel.block w.heap.size (by have := HS.out; omega)).trans HR0.out)
    obtain ⟨⟨x0, x1, x2, x3, x4⟩, _⟩ := rowE HRw.out
    by_cases hlt : j < L.length ∧ j < 3
    · have hjI : (j : Int) < (L.length : Int) := by omega
      have hj3 : (j : Int) < 3 := by omega
      have hjI0 : (0 : Int) ≤ (j : Int) := by omega
      obtain ⟨g, off, rfl, h5⟩ := HL.out j hlt.1
      obtain ⟨y0, y1, y2, y3, y4⟩ := h5.past (Below.later HB.out HI.out.bel |>.mono (Nat.le_refl _))
      have HT := hid0 (HIH.out L[j] wr (vs j) ((HRr.out j hlt.1).past (Below.later HB.out HI.out.bel)))
      have HFl : Hid (flatT n 3 L (j + 1) = flatT n 3 L j ++ gl 3 (tidyE n L[j])) := hid0 (flatT_succ n 3 L j hlt.1)
      have HPt := hid0 (parts_tidy hn L[j])
      have hvs : ∃ aw mw cw, u6 = .slice aw mw cw := by
        obtain ⟨ys, hp⟩ := HI.out.pe
        obtain ⟨aw, cw, e⟩ := hp.form
        exact ⟨aw, _, cw, e⟩
      obtain ⟨aw, mw, cw, rfl⟩ := hvs
      unfold EV.v at HT
      generalize vs j = y at *
      generalize L[j] = p at *
      obtain ⟨yk, yt, yn, yp, yr⟩ := y
      simp only [] at y0 y1 y2 y3 y4 HT
      have hlt2 := hlt.2
      clear h5 hlt
      go_wp2_with (first
        | (go_at_call 5
           refine HT.out.mono ?_
           rintro r w2 hr
           obtain ⟨k5, u5, a5, m5, c5, b5, n5, d5, g5, l5, z5, rfl, q1, q2⟩ := hr.shape
           obtain ⟨w3, hw3⟩ : ∃ w3, w2.alloc (.cells #[.int .i64 k5, .bool u5, .slice a5 m5 c5, .slice b5 n5 d5, .slice g5 l5 z5] 28) = w3 := ⟨_, rfl⟩
           have hb3 : Below w2.heap.size w2 w3 := by rw [← hw3]; exact (Below.refl _ _).alloc (Nat.le_refl _) _
           have hr3 : w3.heap[w2.heap.size]? = some (.cells #[.int .i64 k5, .bool u5, .slice a5 m5 c5, .slice b5 n5 d5, .slice g5 l5 z5] 28 (0, 0)) := by rw [← hw3]; exact heap_alloc_new w2 _
           have HAsk := hid0 (HI.out.ask hn hlt2 HPt.out q1 q2 hb3)
           unfold EV.v at HAsk
           simp only [] at HAsk
           obtain ⟨⟨c0, c1, c2, c3, c4⟩, _⟩ := rowE hr3
           clear hr q1 q2 hb3 hr3)
        | (go_at_call 8
           refine HAsk.out.mono ?_
           rintro r w4 ⟨v', rfl, hp4, hb4⟩
           have HN : Hid (RowI w1 w4 n 3 L (j + 1) v') := hid0 ⟨by rw [HFl.out]; exact hp4, hb4⟩
           clear hp4 hb4)
        | fail)
      go_roundw
      case rel => exact ⟨j + 1, by omega, by go_num, HN⟩
      case measure => simp [intOf]; omega
    · have HI3 : Hid (RowI w1 wr n 3 L 3 u6) := hid0 ⟨by
        have h := HI.out.pe
        have e : L.take j = L.take 3 := by
          rcases Nat.lt_or_ge j 3 with h3 | h3
          · rw [List.take_of_length_le (by omega), List.take_of_length_le (by omega)]
          · rw [show j = 3 by omega]
        unfold flatT at h ⊢
        rw [e] at h
        exact h, HI.out.bel⟩
      obtain ⟨hrw, a6, c6, rfl, h0, h1, h2⟩ := HI3.out.done hn HB.out HS.out HR1.out
      obtain ⟨⟨z0, z1, z2, z3, z4⟩, f0, f1, f2, f3, f4⟩ := rowE hrw
      have H0 := hid0 h0
      have H1 := hid0 h1
      have H2 := hid0 h2
      clear h0 h1 h2 hrw HI
      generalize hm : (flatT n 3 L 3).length = m at *
      clear hm
      rcases (show m = 0 ∨ m = 1 ∨ 2 ≤ m by omega) with rfl | rfl | hm2
      · obtain ⟨V, hV, hVr, hR⟩ := H0.out rfl
        have HR := hid0 hR
        have HVr := hid0 hVr
        unfold setE at hV
        have HV := hid0 hV
        clear hV hVr hR
        by_cases hA : j < L.length
        · have hjI : (j : Int) < (L.length : Int) := by omega
          have hj3 : ¬ (j : Int) < 3 := by omega
          go_wp2
          rw [← HV.out]
          obtain ⟨⟨k0, k1, k2, k3, k4⟩, _⟩ := rowE HVr.out
          exact bodyPost_ret (v := .agg #[.int .i64 1, .bool false, .slice none 0 0, .slice none 0 0, .slice none 0 0]) (by simp [results, Tryd.results5, go_sem, k0, k1, k2, k3, k4]) rfl HR.out
        · have hjI : ¬ (j : Int) < (L.length : Int) := by omega
          go_wp2
          rw [← HV.out]
          obtain ⟨⟨k0, k1, k2, k3, k4⟩, _⟩ := rowE HVr.out
          exact bodyPost_ret (v := .agg #[.int .i64 1, .bool false, .slice none 0 0, .slice none 0 0, .slice none 0 0]) (by simp [results, Tryd.results5, go_sem, k0, k1, k2, k3, k4]) rfl HR.out
      · obtain ⟨g, k5, u5, a5, m5, c5, b5, n5, d5, g5, l5, z5, rfl, h5, V, hV, hVr, hR⟩ := H1.out rfl
        obtain ⟨q0, q1, q2, q3, q4⟩ := h5
        simp only [Nat.zero_add] at q0 q1 q2 q3 q4
        have HR := hid0 hR
        have HVr := hid0 hVr
        unfold setE at hV
        have HV := hid0 hV
        clear hV hVr hR
        by_cases hA : j < L.length
        · have hjI : (j : Int) < (L.length : Int) := by omega
          have hj3 : ¬ (j : Int) < 3 := by omega
          go_wp2
          rw [← HV.out]
          obtain ⟨⟨k0, k1, k2, k3, k4⟩, _⟩ := rowE HVr.out
          exact bodyPost_ret (v := .agg #[.int .i64 k5, .bool u5, .slice a5 m5 c5, .slice b5 n5 d5, .slice g5 l5 z5]) (by simp [results, Tryd.results5, go_sem, k0, k1, k2, k3, k4]) rfl HR.out
        · have hjI : ¬ (j : Int) < (L.length : Int) := by omega
          go_wp2
          rw [← HV.out]
          obtain ⟨⟨k0, k1, k2, k3, k4⟩, _⟩ := rowE HVr.out
          exact bodyPost_ret (v := .agg #[.int .i64 k5, .bool u5, .slice a5 m5 c5, .slice b5 n5 d5, .slice g5 l5 z5]) (by simp [results, Tryd.results5, go_sem, k0, k1, k2, k3, k4]) rfl HR.out
      · obtain ⟨V, hV, hVr, hR⟩ := H2.out hm2
        have hm0 : ¬ ((m : Int) = 0) := by omega
        have hm1 : ¬ ((m : Int) = 1) := by omega
        have HR := hid0 hR
        have HVr := hid0 hVr
        unfold setE at hV
        have HV := hid0 hV
        clear hV hVr hR
        by_cases hA : j < L.length
        · have hjI : (j : Int) < (L.length : Int) := by omega
          have hj3 : ¬ (j : Int) < 3 := by omega
          go_wp2
          rw [← HV.out]
          obtain ⟨⟨k0, k1, k2, k3, k4⟩, _⟩ := rowE HVr.out
          exact bodyPost_ret (v := .agg #[.int .i64 3, .bool false, .slice none 0 0, .slice none 0 0, .slice a6 m c6]) (by simp [results, Tryd.results5, go_sem, k0, k1, k2, k3, k4]) rfl HR.out
        · have hjI : ¬ (j : Int) < (L.length : Int) := by omega
          go_wp2
          rw [← HV.out]
          obtain ⟨⟨k0, k1, k2, k3, k4⟩, _⟩ := rowE HVr.out
          exact bodyPost_ret (v := .agg #[.int .i64 3, .bool false, .slice none 0 0, .slice none 0 0, .slice a6 m c6]) (by simp [results, Tryd.results5, go_sem, k0, k1, k2, k3, k4]) rfl HR.out
end Go.Proofs.YtolnoojbcbdfiaaDoor
namespace Go.Proofs.YtolnoojbcbdfiaaDoor
open Go.RowKit Go.Shelf
set_option maxRecDepth 10000 in
set_option maxHeartbeats 3200000 in
theorem tidy_row4 (n : Nat) (hn : n ≤ 4) (k : Int) (nt : Bool) (sN sP : Value) (L : List Ex) (c : Option Addr) (cc : Nat) (vs : Nat → EV) (w : World) (hne : 0 < L.length) (hkt : kindT k = 4) (hL : ∀ i, i < L.length → ∃ g off, c = some ⟨g, off, none⟩ ∧ Five w g (off + i * 5) (vs i)) (hR : ∀ i (h : i < L.length), ExIn w L[i] (vs i)) (ih : ∀ e, TidyP n e) :
    Calls Tryd.prog 5 #[.agg #[.int .i64 k, .bool nt, sN, sP, .slice c L.length cc], .int .i64 ((n + 1 : Nat) : Int)] w fun r w' => ExR w (nodeE 4 (flatT n 4 L 3)) r w' := by
  obtain ⟨W, hW⟩ : ∃ W, (w.alloc (.cells #[.int .i64 k, .bool nt, sN, sP, .slice c L.length cc] 28)).alloc (.cells #[.int .i64 0, .bool false, .slice none 0 0, .slice none 0 0, .slice none 0 0] 28) = W := ⟨_, rfl⟩
  obtain ⟨hr0, hr1, hb, hs⟩ := two_rows w _ _ _ _ _ _ _ _ _ _ _ W hW.symm
  obtain ⟨⟨x0, x1, x2, x3, x4⟩, _⟩ := rowE hr0
  have HR0 := hid0 hr0
  have HR1 := hid0 hr1
  have HB := hid0 hb
  have HS := hid0 hs
  have HL := hid0 hL
  have HRr := hid0 hR
  have HIH := hid0 ih
  clear hL hR ih
  obtain ⟨pk, hpk⟩ : ∃ pk, pk = pickN (IntKind.i64.wrap (k - 1)) 7 := ⟨_, rfl⟩
  obtain ⟨kq, hkq⟩ : ∃ kq, IntKind.i64.wrap (k - 1) = kq := ⟨_, rfl⟩
  have HPk := hid0 (fun V => pick_at kq 7 (by omega) (by omega) V)
  rw [← hkq, ← hpk] at HPk
  rw [hkq] at HPk
  have hpk2 : pk = 3 := by
    have : kindT k = 1 + pk := by rw [hpk]; rfl
    omega
  subst hpk2
  have hmI : ¬ ((L.length : Int) = 0) := by omega
  have hmB : ((L.length : Int) == 0) = false := by simp; intro e; rw [e] at hne; exact absurd hne (by simp)
  have hl0 : ¬ (((n + 1 : Nat) : Int) = 0) := by omega
  have hsub : IntKind.i64.wrap (((n + 1 : Nat) : Int) - 1) = (n : Int) := by simp [IntKind.wrap, IntKind.bits, IntKind.signed]; omega
  generalize ((n + 1 : Nat) : Int) = lv at *
  have hlB : (lv == 0) = false := by simpa using hl0
  have HI0 := hid0 (RowI.first W n 4 L)
  clear hb hs hr0 hr1 hpk hkt hne
  go_enter Tryd.func5, Tryd.ntmps5
  go_wp2_with (first
    | (go_at_call 19; refine (HPk.out _).mono ?_; rintro r w1 ⟨rfl, rfl⟩)
    | fail)
  clear hW x0 x1 x2 x3 x4
  go_loopw [6, 7, 8] (fun v i _ wr => ∃ (j : Nat), j ≤ 3 ∧ i = .int .i64 (j : Int) ∧ Hid (RowI w1 wr n 4 L j v)) (fun _ i _ _ => 3 - (intOf i).toNat)
  case atStart => exact ⟨0, Nat.zero_le _, rfl, HI0⟩
  case round =>
    clear HI0
    obtain ⟨j, hj, rfl, HI⟩ := hrel
    have HRw := hid0 ((HI.out.bel.block w.heap.size (by have := HS.out; omega)).trans HR0.out)
    obtain ⟨⟨x0, x1, x2, x3, x4⟩, _⟩ := rowE HRw.out
    by_cases hlt : j < L.length ∧ j < 3
    · have hjI : (j : Int) < (L.length : Int) := by omega
      have hj3 : (j : Int) < 3 := by omega
      have hjI0 : (0 : Int) ≤ (j : Int) := by omega
      obtain ⟨g, off, rfl, h5⟩ := HL.out j hlt.1
      obtain ⟨y0, y1, y2, y3, y4⟩ := h5.past (Below.later HB.out HI.out.bel |>.mono (Nat.le_refl _))
      have HT := hid0 (HIH.out L[j] wr (vs j) ((HRr.out j hlt.1).past (Below.later HB.out HI.out.bel)))
      have HFl : Hid (flatT n 4 L (j + 1) = flatT n 4 L j ++ gl 4 (tidyE n L[j])) := hid0 (flatT_succ n 4 L j hlt.1)
      have HPt := hid0 (parts_tidy hn L[j])
      have hvs : ∃ aw mw cw, u6 = .slice aw mw cw := by
        obtain ⟨ys, hp⟩ := HI.out.pe
        obtain ⟨aw, cw, e⟩ := hp.form
        exact ⟨aw, _, cw, e⟩
      obtain ⟨aw, mw, cw, rfl⟩ := hvs
      unfold EV.v at HT
      generalize vs j = y at *
      generalize L[j] = p at *
      obtain ⟨yk, yt, yn, yp, yr⟩ := y
      simp only [] at y0 y1 y2 y3 y4 HT
      have hlt2 := hlt.2
      clear h5 hlt
      go_wp2_with (first
        | (go_at_call 5
           refine HT.out.mono ?_
           rintro r w2 hr
           obtain ⟨k5, u5, a5, m5, c5, b5, n5, d5, g5, l5, z5, rfl, q1, q2⟩ := hr.shape
           obtain ⟨w3, hw3⟩ : ∃ w3, w2.alloc (.cells #[.int .i64 k5, .bool u5, .slice a5 m5 c5, .slice b5 n5 d5, .slice g5 l5 z5] 28) = w3 := ⟨_, rfl⟩
           have hb3 : Below w2.heap.size w2 w3 := by rw [← hw3]; exact (Below.refl _ _).alloc (Nat.le_refl _) _
           have hr3 : w3.heap[w2.heap.size]? = some (.cells #[.int .i64 k5, .bool u5, .slice a5 m5 c5, .slice b5 n5 d5, .slice g5 l5 z5] 28 (0, 0)) := by rw [← hw3]; exact heap_alloc_new w2 _
           have HAsk := hid0 (HI.out.ask hn hlt2 HPt.out q1 q2 hb3)
           unfold EV.v at HAsk
           simp only [] at HAsk
           obtain ⟨⟨c0, c1, c2, c3, c4⟩, _⟩ := rowE hr3
           clear hr q1 q2 hb3 hr3)
        | (go_at_call 8
           refine HAsk.out.mono ?_
           rintro r w4 ⟨v', rfl, hp4, hb4⟩
           have HN : Hid (RowI w1 w4 n 4 L (j + 1) v') := hid0 ⟨by rw [HFl.out]; exact hp4, hb4⟩
           clear hp4 hb4)
        | fail)
      go_roundw
      case rel => exact ⟨j + 1, by omega, by go_num, HN⟩
      case measure => simp [intOf]; omega
    · have HI3 : Hid (RowI w1 wr n 4 L 3 u6) := hid0 ⟨by
        have h := HI.out.pe
        have e : L.take j = L.take 3 := by
          rcases Nat.lt_or_ge j 3 with h3 | h3
          · rw [List.take_of_length_le (by omega), List.take_of_length_le (by omega)]
          · rw [show j = 3 by omega]
        unfold flatT at h ⊢
        rw [e] at h
        exact h, HI.out.bel⟩
      obtain ⟨hrw, a6, c6, rfl, h0, h1, h2⟩ := HI3.out.done hn HB.out HS.out HR1.out
      obtain ⟨⟨z0, z1, z2, z3, z4⟩, f0, f1, f2, f3, f4⟩ := rowE hrw
      have H0 := hid0 h0
      have H1 := hid0 h1
      have H2 := hid0 h2
      clear h0 h1 h2 hrw HI
      generalize hm : (flatT n 4 L 3).length = m at *
      clear hm
      rcases (show m = 0 ∨ m = 1 ∨ 2 ≤ m by omega) with rfl | rfl | hm2
      · obtain ⟨V, hV, hVr, hR⟩ := H0.out rfl
        have HR := hid0 hR
        have HVr := hid0 hVr
        unfold setE at hV
        have HV := hid0 hV
        clear hV hVr hR
        by_cases hA : j < L.length
        · have hjI : (j : Int) < (L.length : Int) := by omega
          have hj3 : ¬ (j : Int) < 3 := by omega
          go_wp2
          rw [← HV.out]
          obtain ⟨⟨k0, k1, k2, k3, k4⟩, _⟩ := rowE HVr.out
          exact bodyPost_ret (v := .agg #[.int .i64 1, .bool false, .slice none 0 0, .slice none 0 0, .slice none 0 0]) (by simp [results, Tryd.results5, go_sem, k0, k1, k2, k3, k4]) rfl HR.out
        · have hjI : ¬ (j : Int) < (L.length : Int) := by omega
          go_wp2
          rw [← HV.out]
          obtain ⟨⟨k0, k1, k2, k3, k4⟩, _⟩ := rowE HVr.out
          exact bodyPost_ret (v := .agg #[.int .i64 1, .bool false, .slice none 0 0, .slice none 0 0, .slice none 0 0]) (by simp [results, Tryd.results5, go_sem, k0, k1, k2, k3, k4]) rfl HR.out
      · obtain ⟨g, k5, u5, a5, m5, c5, b5, n5, d5, g5, l5, z5, rfl, h5, V, hV, hVr, hR⟩ := H1.out rfl
        obtain ⟨q0, q1, q2, q3, q4⟩ := h5
        simp only [Nat.zero_add] at q0 q1 q2 q3 q4
        have HR := hid0 hR
        have HVr := hid0 hVr
        unfold setE at hV
        have HV := hid0 hV
        clear hV hVr hR
        by_cases hA : j < L.length
        · have hjI : (j : Int) < (L.length : Int) := by omega
          have hj3 : ¬ (j : Int) < 3 := by omega
          go_wp2
          rw [← HV.out]
          obtain ⟨⟨k0, k1, k2, k3, k4⟩, _⟩ := rowE HVr.out
          exact bodyPost_ret (v := .agg #[.int .i64 k5, .bool u5, .slice a5 m5 c5, .slice b5 n5 d5, .slice g5 l5 z5]) (by simp [results, Tryd.results5, go_sem, k0, k1, k2, k3, k4]) rfl HR.out
        · have hjI : ¬ (j : Int) < (L.length : Int) := by omega
          go_wp2
          rw [← HV.out]
          obtain ⟨⟨k0, k1, k2, k3, k4⟩, _⟩ := rowE HVr.out
          exact bodyPost_ret (v := .agg #[.int .i64 k5, .bool u5, .slice a5 m5 c5, .slice b5 n5 d5, .slice g5 l5 z5]) (by simp [results, Tryd.results5, go_sem, k0, k1, k2, k3, k4]) rfl HR.out
      · obtain ⟨V, hV, hVr, hR⟩ := H2.out hm2
        have hm0 : ¬ ((m : Int) = 0) := by omega
        have hm1 : ¬ ((m : Int) = 1) := by omega
        have HR := hid0 hR
        have HVr := hid0 hVr
        unfold setE at hV
        have HV := hid0 hV
        clear hV hVr hR
        by_cases hA : j < L.length
        · have hjI : (j : Int) < (L.length : Int) := by omega
          have hj3 : ¬ (j : Int) < 3 := by omega
          go_wp2
          rw [← HV.out]
          obtain ⟨⟨k0, k1, k2, k3, k4⟩, _⟩ := rowE HVr.out
          exact bodyPost_ret (v := .agg #[.int .i64 4, .bool false, .slice none 0 0, .slice none 0 0, .slice a6 m c6]) (by simp [results, Tryd.results5, go_sem, k0, k1, k2, k3, k4]) rfl HR.out
        · have hjI : ¬ (j : Int) < (L.length : Int) := by omega
          go_wp2
          rw [← HV.out]
          obtain ⟨⟨k0, k1, k2, k3, k4⟩, _⟩ := rowE HVr.out
          exact bodyPost_ret (v := .agg #[.int .i64 4, .bool false, .slice none 0 0, .slice none 0 0, .slice a6 m c6]) (by simp [results, Tryd.results5, go_sem, k0, k1, k2, k3, k4]) rfl HR.out
end Go.Proofs.YtolnoojbcbdfiaaDoor
namespace Go.Proofs.YtolnoojbcbdfiaaDoor
open Go.RowKit Go.Shelf
theorem tidy_any : ∀ (n : Nat), n ≤ 4 → ∀ e, TidyP n e
  | 0, _ => fun e W y h => by
    obtain ⟨k, nt, N, P, L⟩ := e
    obtain ⟨a, ca, b, cb, c, cc, rfl, hN, hP, _⟩ := h.shape
    exact tidy_leaf 0 k nt N P L.length a b c ca cb cc W hN hP (.inr rfl)
  | n + 1, hn => fun e W y h => by
    obtain ⟨k, nt, N, P, L⟩ := e
    obtain ⟨a, ca, b, cb, c, cc, rfl, hN, hP, vs, hL, hR⟩ := h.shape
    obtain rfl | ⟨p, M, rfl⟩ : L = [] ∨ ∃ p M, L = p :: M := by
      cases L with
      | nil => exact .inl rfl
      | cons p M => exact .inr ⟨p, M, rfl⟩
    · exact tidy_leaf (n + 1) k nt N P 0 a b c ca cb cc W hN hP (.inl rfl)
    · have ih := tidy_any n (by omega)
      by_cases h34 : kindT k = 3 ∨ kindT k = 4
      · have e : tidyE (n + 1) (.mk k nt N P (p :: M)) = nodeE (kindT k) (flatT n (kindT k) (p :: M) 3) := by
          unfold flatT
          rw [tidyE, if_pos h34]
        rw [e]
        rcases h34 with h | h
        · have h2 := tidy_row3 n (by omega) k nt (.slice a N.length ca) (.slice b P.length cb) (p :: M) c cc vs W (by simp) h hL hR ih
          rw [h]
          exact h2
        · have h2 := tidy_row4 n (by omega) k nt (.slice a N.length ca) (.slice b P.length cb) (p :: M) c cc vs W (by simp) h hL hR ih
          rw [h]
          exact h2
      · have e : tidyE (n + 1) (.mk k nt N P (p :: M)) = .mk (oneK (kindT k)) false [] [] [tidyE n p] := by
          rw [tidyE, if_neg h34]
        rw [e]
        obtain ⟨g, off, rfl, h5⟩ := hL 0 (by simp)
        exact tidy_one n (by omega) k nt (.slice a N.length ca) (.slice b P.length cb) g off (p :: M).length cc p (vs 0) W (by simp) h34 (by simpa using h5) (hR 0 (by simp)) (ih p)
end Go.Proofs.YtolnoojbcbdfiaaDoor
namespace Go.Proofs.YtolnoojbcbdfiaaDoor
open Go.RowKit Go.Shelf
theorem bool_ext {p q : Bool} (h : p = true ↔ q = true) : p = q := by
  cases p <;> cases q <;> simp_all
/-- Is a word cut, not ahead of its first unit, into two, up to a place? -/
noncomputable def moreB (a s : Ex) (l : List Kd) (j : Nat) : Bool := (List.range j).any fun i => decide (1 ≤ i) && hitB a s l i
theorem moreB_one (a s : Ex) (l : List Kd) : moreB a s l 1 = false := by
  unfold moreB
  simp
theorem moreB_succ (a s : Ex) (l : List Kd) (j : Nat) (hj : 1 ≤ j) : moreB a s l (j + 1) = (moreB a s l j || hitB a s l j) := by
  unfold moreB
  rw [List.range_succ, List.any_append]
  simp [hj]
section
variable {a b : Ex} (ha : WfE 4 a) (hb : WfE 4 b) (sa : a.size ≤ 40) (sb : b.size ≤ 40) (l : List Kd)
include ha sa
theorem ok_a : okE a = true := wf_ok ha (by omega) (by omega)
theorem ok_one (q : Int) (hq : q = 5 ∨ q = 6 ∨ q = 7) : okE (.mk q false [] [] [a]) = true := wf_ok (one_wf hq ha) (by omega) (by rw [one_size]; omega)
theorem eq_opt : mtB (.mk 7 false [] [] [a]) l = (mtB a l || ((l.length : Int) == 0)) := bool_ext (by
  rw [mtB_iff (ok_one ha sa 7 (by decide)), mt_opt, Bool.or_eq_true, mtB_iff (ok_a ha sa), beq_iff_eq]
  constructor
  · rintro (h | rfl)
    · exact .inl h
    · exact .inr rfl
  · rintro (h | h)
    · exact .inl h
    · exact .inr (List.length_eq_zero_iff.1 (by omega)))
theorem eq_star : mtB (.mk 5 false [] [] [a]) l = (((l.length : Int) == 0) || moreB a (.mk 5 false [] [] [a]) l (l.length + 1)) := bool_ext (by
  rw [mtB_iff (ok_one ha sa 5 (by decide)), mt_star, Bool.or_eq_true, beq_iff_eq]
  unfold moreB hitB
  rw [List.any_eq_true]
  constructor
  · rintro (rfl | ⟨i, h1, h2, h3, h4⟩)
    · exact .inl rfl
    · exact .inr ⟨i, List.mem_range.2 (by omega), by rw [Bool.and_eq_true, Bool.and_eq_true, mtB_iff (ok_a ha sa), mtB_iff (ok_one ha sa 5 (by decide))]; exact ⟨decide_eq_true h1, h3, h4⟩⟩
  · rintro (h | ⟨i, h1, h2⟩)
    · exact .inl (List.length_eq_zero_iff.1 (by omega))
    · rw [Bool.and_eq_true, Bool.and_eq_true, mtB_iff (ok_a ha sa), mtB_iff (ok_one ha sa 5 (by decide))] at h2
      exact .inr ⟨i, of_decide_eq_true h2.1, by have := List.mem_range.1 h1; omega, h2.2⟩)
theorem eq_plus : mtB (.mk 6 false [] [] [a]) l = splitB a (.mk 5 false [] [] [a]) l := bool_ext (by
  rw [mtB_iff (ok_one ha sa 6 (by decide)), mt_plus, splitB_iff (ok_a ha sa) (ok_one ha sa 5 (by decide))])
include hb sb
theorem eq_seq : mtB (nodeE 3 (gl 3 a ++ gl 3 b)) l = splitB a b l := bool_ext (by
  have hw : WfE 5 (nodeE 3 (gl 3 a ++ gl 3 b)) := node_wf (.inl rfl) (fun p hp => by
    rcases List.mem_append.1 hp with h | h
    · exact gl_fit (.inl rfl) ha p h
    · exact gl_fit (.inl rfl) hb p h)
  have hs : (nodeE 3 (gl 3 a ++ gl 3 b)).size ≤ 4000 := by
    have h1 := node_size 3 (gl 3 a ++ gl 3 b)
    rw [sizes_app] at h1
    have h2 := gl_size 3 a
    have h3 := gl_size 3 b
    omega
  rw [mtB_iff (wf_ok hw (by omega) hs), mt_two ha hb, splitB_iff (ok_a ha sa) (ok_a hb sb)])
omit sa sb hb in
theorem gl4_len : 1 ≤ (gl 4 a).length := by
  match a, ha with
  | .mk q nt N P L, h =>
    unfold gl
    split
    · rename_i hq
      have hq' : q = 4 := hq
      subst hq'
      have hf := h.2.1
      unfold formF at hf
      rw [if_neg (by decide), if_pos rfl] at hf
      simp only [Bool.and_eq_true, decide_eq_true_eq] at hf
      show 1 ≤ L.length
      omega
    · rw [if_neg (fun h => absurd h.1 (by decide))]
      simp
theorem eq_alt : mtB (.mk 4 false [] [] (gl 4 a ++ gl 4 b)) l = (mtB a l || mtB b l) := bool_ext (by
  have h2 : 2 ≤ (gl 4 a ++ gl 4 b).length := by
    rw [List.length_append]
    have h1 := gl4_len ha
    have h2 := gl4_len hb
    omega
  have hw : WfE 5 (nodeE 4 (gl 4 a ++ gl 4 b)) := node_wf (.inr rfl) (fun p hp => by
    rcases List.mem_append.1 hp with h | h
    · exact gl_fit (.inr rfl) ha p h
    · exact gl_fit (.inr rfl) hb p h)
  have hs : (nodeE 4 (gl 4 a ++ gl 4 b)).size ≤ 4000 := by
    have h1 := node_size 4 (gl 4 a ++ gl 4 b)
    rw [sizes_app] at h1
    have h2 := gl_size 4 a
    have h3 := gl_size 4 b
    omega
  rw [node_many 4 h2] at hw hs
  rw [mtB_iff (wf_ok hw (by omega) hs), mt_either, Bool.or_eq_true, mtB_iff (ok_a ha sa), mtB_iff (ok_a hb sb)])
end
theorem eq_set1 (nt : Bool) (N : List ByteArray) (P : List (Int × Int)) (u : Kd) : mtB (.mk 2 nt (nmK N 3) (ptK P) []) [u] = holdsF nt (nmK N 3) (ptK P) u.1 u.2 := bool_ext (by
  have hw := set_wf nt N P
  rw [mtB_iff (wf_ok hw.1 (by omega) (by omega)), mt_set]
  constructor
  · rintro ⟨v, e, h⟩
    cases e
    exact h
  · exact fun h => ⟨u, rfl, h⟩)
theorem eq_set0 (nt : Bool) (N : List ByteArray) (P : List (Int × Int)) (l : List Kd) (h : l.length ≠ 1) : mtB (.mk 2 nt (nmK N 3) (ptK P) []) l = false := mtB_no (fun hm => by
  obtain ⟨u, rfl, _⟩ := (mt_set _ _ _ _ _).1 hm
  exact h rfl)
/-- What tidy makes, as the law wants it. -/
theorem tidy3 (e : Ex) : WfE 4 (tidyE 3 e) ∧ (tidyE 3 e).size ≤ 40 := tidy_wf 3 e
end Go.Proofs.YtolnoojbcbdfiaaDoor
namespace Go.Proofs.YtolnoojbcbdfiaaDoor
open Go.RowKit Go.Shelf
theorem OwnU.wv {w : World} {lo : Nat} {v : Value} {l : List Kd} (h : OwnU w lo v l) : WV w v l := by
  obtain ⟨a, cap, e, hk⟩ := h.ka
  rcases h.2 with ⟨rfl, hn⟩ | ⟨g, c, cur, rfl, hg, hr, hc, _⟩
  · have : l = [] := List.length_eq_zero_iff.1 hn
    subst this
    exact .none
  · cases e
    exact .some g 0 _ l hc hk
theorem WV.ka {w : World} {a : Option Addr} {m c : Nat} {l : List Kd} (h : WV w (.slice a m c) l) : KA w w.heap.size a l := by
  obtain ⟨a', c', e, hk⟩ := h.form
  cases e
  exact hk
def tt (_ : Nat) : Prop := True
def R5 (W : World) (X : Nat) (x : EV) : Prop := W.heap[X]? = some (.cells #[x.k, x.t, x.n, x.p, x.r] 28 (0, 0))
theorem R5.past {W W' : World} {X : Nat} {x : EV} (h : R5 W X x) (hb : Below W.heap.size W W') : R5 W' X x := kept hb h
theorem ExIs.tt {w : World} {Q : Nat → Prop} {e : Ex} {x : EV} (h : ExIs w Q e x) : ExIs w tt e x := h.mono (fun _ _ _ => trivial)
theorem one_tt {w1 w2 : World} {t : Ex} {y : EV} (q : Int) (hy : ExIs w1 tt t y) (h2 : w1.alloc (.cells #[y.k, y.t, y.n, y.p, y.r] 28) = w2) :
    ExIs w2 tt (.mk q false [] [] [t]) ⟨.int .i64 q, .bool false, .slice none 0 0, .slice none 0 0, .slice (some ⟨w1.heap.size, 0, none⟩) 1 1⟩ :=
  (one_is (B := 0) 28 q (hy.mono (fun g _ _ => Nat.zero_le g)) (Nat.zero_le _) h2).tt
/-- What the law has at hand. -/
structure MW (w0 W : World) (A : Nat → Addr) (a b : Ex) (l : List Kd) (v : Value) (Ba Bb Bt Bs Bp Bo : Nat) (xa xb xt xs xp xo : EV) : Prop where
  bel : Below w0.heap.size w0 W
  e3 : E3 W A
  wv : WV W v l
  ia : ExIs W tt a xa
  ib : ExIs W tt b xb
  it : ExIs W tt (.mk 4 false [] [] (gl 4 a ++ gl 4 b)) xt
  is : ExIs W tt (.mk 5 false [] [] [a]) xs
  ip : ExIs W tt (.mk 6 false [] [] [a]) xp
  io : ExIs W tt (.mk 7 false [] [] [a]) xo
  ra : R5 W Ba xa
  rb : R5 W Bb xb
  rt : R5 W Bt xt
  rs : R5 W Bs xs
  rp : R5 W Bp xp
  ro : R5 W Bo xo
theorem MW.past {w0 W W' : World} {A : Nat → Addr} {a b : Ex} {l : List Kd} {v : Value} {Ba Bb Bt Bs Bp Bo : Nat} {xa xb xt xs xp xo : EV} (h : MW w0 W A a b l v Ba Bb Bt Bs Bp Bo xa xb xt xs xp xo) (k : Below W.heap.size W W') : MW w0 W' A a b l v Ba Bb Bt Bs Bp Bo xa xb xt xs xp xo :=
  ⟨Below.later h.bel k, h.e3.below k, h.wv.past k, h.ia.past k, h.ib.past k, h.it.past k, h.is.past k, h.ip.past k, h.io.past k, h.ra.past k, h.rb.past k, h.rt.past k, h.rs.past k, h.rp.past k, h.ro.past k⟩
def onV (q : Int) (b : Nat) : EV := ⟨.int .i64 q, .bool false, .slice none 0 0, .slice none 0 0, .slice (some ⟨b, 0, none⟩) 1 1⟩
theorem means_world {A : Nat → Addr} {a b : Ex} {l : List Kd} {v : Value} {Ba Bb : Nat} {xa xb xt : EV} (w0 w6 w7 w8 w9 w10 w11 w12 w13 : World)
    (bel : Below w0.heap.size w0 w6) (e3 : E3 w6 A) (wv : WV w6 v l) (ia : ExIs w6 tt a xa) (ib : ExIs w6 tt b xb) (it : ExIs w6 tt (.mk 4 false [] [] (gl 4 a ++ gl 4 b)) xt) (ra : R5 w6 Ba xa) (rb : R5 w6 Bb xb)
    (h7 : w6.alloc (.cells #[xt.k, xt.t, xt.n, xt.p, xt.r] 28) = w7)
    (h8 : w7.alloc (.cells #[xa.k, xa.t, xa.n, xa.p, xa.r] 28) = w8)
    (h9 : w8.alloc (.cells #[.int .i64 5, .bool false, .slice none 0 0, .slice none 0 0, .slice (some ⟨w7.heap.size, 0, none⟩) 1 1] 28) = w9)
    (h10 : w9.alloc (.cells #[xa.k, xa.t, xa.n, xa.p, xa.r] 28) = w10)
    (h11 : w10.alloc (.cells #[.int .i64 6, .bool false, .slice none 0 0, .slice none 0 0, .slice (some ⟨w9.heap.size, 0, none⟩) 1 1] 28) = w11)
    (h12 : w11.alloc (.cells #[xa.k, xa.t, xa.n, xa.p, xa.r] 28) = w12)
    (h13 : w12.alloc (.cells #[.int .i64 7, .bool false, .slice none 0 0, .slice none 0 0, .slice (some ⟨w11.heap.size, 0, none⟩) 1 1] 28) = w13) :
    R5 w7 Ba xa ∧ R5 w9 Ba xa ∧ R5 w11 Ba xa ∧ Below w6.heap.size w6 w13 ∧ MW w0 w13 A a b l v Ba Bb w6.heap.size w8.heap.size w10.heap.size w12.heap.size xa xb xt (onV 5 w7.heap.size) (onV 6 w9.heap.size) (onV 7 w11.heap.size) := by
  have is8 := fun (i : ExIs w7 tt a xa) => one_tt 5 i h8
  have is10 := fun (i : ExIs w9 tt a xa) => one_tt 6 i h10
  have is12 := fun (i : ExIs w11 tt a xa) => one_tt 7 i h12
  obtain ⟨b7, r7, s7⟩ := laid h7
  obtain ⟨b8, r8, s8⟩ := laid h8
  obtain ⟨b9, r9, s9⟩ := laid h9
  obtain ⟨b10, r10, s10⟩ := laid h10
  obtain ⟨b11, r11, s11⟩ := laid h11
  obtain ⟨b12, r12, s12⟩ := laid h12
  obtain ⟨b13, r13, s13⟩ := laid h13
  clear h7 h8 h9 h10 h11 h12 h13
  have c9 := Below.later b8 b9
  have c11 := Below.later b10 b11
  have c13 := Below.later b12 b13
  have d7 := Below.later (Below.later c9 c11) c13
  have d9 := Below.later c11 c13
  have d6 := Below.later b7 d7
  have i7 := ia.past b7
  have i9 := i7.past c9
  have i11 := i9.past c11
  exact ⟨ra.past b7, (ra.past b7).past c9, ((ra.past b7).past c9).past c11, d6, Below.later bel d6, e3.below d6, wv.past d6, ia.past d6, ib.past d6, it.past d6, ((is8 i7).past b9).past d9, ((is10 i9).past b11).past c13, (is12 i11).past b13, ra.past d6, rb.past d6, kept d7 r7, kept d9 r9, kept c13 r11, r13⟩
end Go.Proofs.YtolnoojbcbdfiaaDoor
namespace Go.Proofs
open Go.Shelf
def Tryd.containsR_ren : Go.Shelf.Ren := ⟨fun | 8 => 24 | 6 => 35 | n => n, fun | 22 => 23 | 23 => 56 | 25 => 57 | 4 => 4 | 3 => 3 | 0 => 0 | n => n, fun | n => n⟩
theorem Tryd.containsR : Go.Proofs.SlLaysH0.n8 Tryd.prog Tryd.containsR_ren := {
  mixed := by kernel_rfl
  f6 := ⟨Tryd.f35.name, by decide, Tryd.func35.trans (congrArg some (by kernel_rfl))⟩
  f8 := ⟨Tryd.f24.name, by decide, Tryd.func24.trans (congrArg some (by kernel_rfl))⟩
  t0 := Tryd.underlying0
  a0 := Tryd.isAgg0
  z0 := Tryd.sizeOf0
  v0 := Tryd.zeroValue0
  t3 := Tryd.underlying3
  a3 := Tryd.isAgg3
  z3 := Tryd.sizeOf3
  v3 := Tryd.zeroValue3
  t4 := Tryd.underlying4
  a4 := Tryd.isAgg4
  z4 := Tryd.sizeOf4
  v4 := Tryd.zeroValue4
  t22 := Tryd.underlying23
  a22 := Tryd.isAgg23
  z22 := Tryd.sizeOf23
  v22 := Tryd.zeroValue23
  t25 := Tryd.underlying57
  a25 := Tryd.isAgg57
  z25 := Tryd.sizeOf57
  v25 := Tryd.zeroValue57 }
end Go.Proofs
namespace Go.Proofs.YtolnoojbcbdfiaaDoor
open Go.RowKit Go.Shelf
def encR (x : Int × Int) : List Value := [.int .i64 x.1, .int .i64 x.2]
theorem pred_holds (n : Int) (B : Nat) (w : World) (hB : B < w.heap.size) (hcell : w.cell? ⟨B, 1, none⟩ = some (.int .i64 n)) :
    PredBelow Tryd.prog 22 #[.pointer (some ⟨B, 0, none⟩)] (fun x => .agg (encR x).toArray) (fun x => decide (x.1 ≤ n) && decide (n ≤ x.2)) w := fun W x hb => by
  have hc : W.cell? ⟨B, 1, none⟩ = some (.int .i64 n) := (hb.cell (p := ⟨B, 1, none⟩) hB).trans hcell
  have hBW : B < W.heap.size := Nat.lt_of_lt_of_le hB hb.size
  have hne : B ≠ W.heap.size := by omega
  obtain ⟨lo, hi⟩ := x
  show Calls Tryd.prog 22 #[.agg #[.int .i64 lo, .int .i64 hi], .pointer (some ⟨B, 0, none⟩)] W _
  by_cases h1 : lo ≤ n
  · by_cases h2 : n ≤ hi
    · go_enter Tryd.func22, Tryd.ntmps22
      go_wp2
      go_ret
      exact ⟨by simp [h1, h2], hb.alloc hb.size _⟩
    · go_enter Tryd.func22, Tryd.ntmps22
      go_wp2
      go_ret
      exact ⟨by simp [h2], hb.alloc hb.size _⟩
  · go_enter Tryd.func22, Tryd.ntmps22
    go_wp2
    go_ret
    exact ⟨by simp; omega, hb.alloc hb.size _⟩
set_option maxRecDepth 10000 in
theorem within_nil (b : Option Addr) (cb : Nat) (f : Value) (w : World) : Calls Tryd.prog 24 #[.slice b 0 cb, f] w fun e w' => e = .returned (.bool false) ∧ w' = w := by
  go_enter Tryd.func24, Tryd.ntmps24
  go_wp2
  go_rounds 1
  go_ret
  exact ⟨rfl, rfl⟩
set_option maxRecDepth 10000 in
set_option maxHeartbeats 800000 in
/-- ContainsFunc of the ranges by the set's closure, the kind lying in the block B. -/
theorem within_any (R : List (Int × Int)) (b : Option Addr) (cb : Nat) (p : Int) (B : Nat) (w : World) (hr : R.length ≤ 8796093022208) (hb : RA w b R) (hB : B < w.heap.size) (hcell : w.cell? ⟨B, 1, none⟩ = some (.int .i64 p)) :
    Calls Tryd.prog 24 #[.slice b R.length cb, .func (.func 22) #[] #[.pointer (some ⟨B, 0, none⟩)]] w fun e w' => e = .returned (.bool (ptF R p)) ∧ Below w.heap.size w w' := by
  cases R with
  | nil => exact (within_nil b cb _ w).mono (fun e w' h => ⟨h.1, by rw [h.2]; exact Below.refl _ _⟩)
  | cons r l =>
    obtain ⟨g, off, rfl, _, _⟩ := hb.at' 0 (by simp)
    have hbl : g < w.heap.size := by
      obtain ⟨b', off', he, h1, _⟩ := hb.at' 0 (by simp)
      cases he
      exact World.block_lt_of_cell? w _ h1
    have eg : ∀ args w, (callFunc 22 args).run Tryd.prog w = .ok (.enter 22 args) w := enters_of Tryd.func22 (by kernel_rfl) rfl
    have hcon := AnyQ.slices_ContainsFunc Tryd.containsR 2 Tryd.isAgg56 Tryd.sizeOf56 encR (fun _ => rfl) (fun x => decide (x.1 ≤ p) && decide (p ≤ x.2)) 22 #[.pointer (some ⟨B, 0, none⟩)] eg g off (r :: l).length cb (r :: l) w
      (pred_holds p B _ hB hcell) (Nat.le_refl _) (by omega) hbl (fun j hj i v hi => by
        obtain ⟨b', off', he, h0, h1⟩ := hb.at' j hj
        simp only [Option.some.injEq, Addr.mk.injEq, and_true] at he
        obtain ⟨rfl, rfl⟩ := he
        have e : (r :: l)[j]! = (r :: l)[j] := getElem!_pos _ j hj
        rw [e] at hi
        match i, hi with
        | 0, hi => simp only [encR, List.getElem?_cons_zero, Option.some.injEq] at hi; rw [← hi]; exact h0
        | 1, hi => simp only [encR, List.getElem?_cons_succ, List.getElem?_cons_zero, Option.some.injEq] at hi; rw [← hi]; exact h1
        | i + 2, hi => simp [encR] at hi)
    change Calls Tryd.prog 24 _ _ _ at hcon
    rw [List.take_length] at hcon
    exact hcon
set_option maxRecDepth 10000 in
set_option maxHeartbeats 1600000 in
theorem holds_any (nt : Bool) (L : List ByteArray) (R : List (Int × Int)) (a b : Option Addr) (ca cb : Nat) (c : ByteArray) (p : Int) (w : World) (hl : L.length ≤ 8796093022208) (hr : R.length ≤ 8796093022208) (ha : SA w a L) (hb : RA w b R) :
    Calls Tryd.prog 13 #[.agg #[.bool nt, .slice a L.length ca, .slice b R.length cb], .agg #[.string c, .int .i64 p]] w fun e w' => e = .returned (.bool (holdsF nt L R c p)) ∧ Below w.heap.size w w' := by
  obtain ⟨w0, hw0⟩ : ∃ w0, w0 = (w.alloc (.cells #[.bool nt, .slice a L.length ca, .slice b R.length cb] 25)).alloc (.cells #[.string c, .int .i64 p] 42) := ⟨_, rfl⟩
  have hs0 : w0.heap.size = w.heap.size + 2 := by rw [hw0]; simp
  have hB0 : Below w.heap.size w w0 := by rw [hw0]; exact ((Below.refl _ _).alloc (Nat.le_refl _) _).alloc (by simp) _
  have hX0 : w0.heap[w.heap.size]? = some (.cells #[.bool nt, .slice a L.length ca, .slice b R.length cb] 25 (0, 0)) := by
    rw [hw0]
    exact (Below.heap_alloc _ _ _ (by simp)).trans (heap_alloc_new w _)
  have hX1 : w0.heap[w.heap.size + 1]? = some (.cells #[.string c, .int .i64 p] 42 (0, 0)) := by
    rw [hw0]
    have h := heap_alloc_new (w.alloc (.cells #[.bool nt, .slice a L.length ca, .slice b R.length cb] 25)) (.cells #[.string c, .int .i64 p] 42)
    rw [show (w.alloc (.cells #[.bool nt, .slice a L.length ca, .slice b R.length cb] 25)).heap.size = w.heap.size + 1 by simp] at h
    exact h
  have x0 : w0.cell? ⟨w.heap.size, 0, none⟩ = some (.bool nt) := by rw [cell_of_row _ _ _ _ _ _ hX0]; rfl
  have x1 : w0.cell? ⟨w.heap.size, 1, none⟩ = some (.slice a L.length ca) := by rw [cell_of_row _ _ _ _ _ _ hX0]; rfl
  have x2 : w0.cell? ⟨w.heap.size, 2, none⟩ = some (.slice b R.length cb) := by rw [cell_of_row _ _ _ _ _ _ hX0]; rfl
  have x3 : w0.cell? ⟨w.heap.size + 1, 0, none⟩ = some (.string c) := by rw [cell_of_row _ _ _ _ _ _ hX1]; rfl
  have x4 : w0.cell? ⟨w.heap.size + 1, 1, none⟩ = some (.int .i64 p) := by rw [cell_of_row _ _ _ _ _ _ hX1]; rfl
  have HC := hid0 (contains_any L a ca c w0 hl (ha.below hB0))
  have HW : Hid (∀ W, Below w0.heap.size w0 W → Calls Tryd.prog 24 #[.slice b R.length cb, .func (.func 22) #[] #[.pointer (some ⟨w.heap.size + 1, 0, none⟩)]] W fun e w' => e = .returned (.bool (ptF R p)) ∧ Below w0.heap.size w0 w') := hid0 (fun W hW =>
    (within_any R b cb p (w.heap.size + 1) W hr ((hb.below hB0).below hW) (by have := hW.size; omega) ((hW.cell (p := ⟨w.heap.size + 1, 1, none⟩) (by simp; omega)).trans x4)).mono (fun e w' h => ⟨h.1, Below.later hW h.2⟩))
  have HB0 := hid0 hB0
  have HS0 := hid0 hs0
  have HF : Hid (holdsF nt L R c p = (nt != (nmF L c || (!(p == -1) && ptF R p)))) := hid0 rfl
  have HXs : Hid (∀ W, Below w0.heap.size w0 W → W.cell? ⟨w.heap.size, 0, none⟩ = some (.bool nt) ∧ W.cell? ⟨w.heap.size, 2, none⟩ = some (.slice b R.length cb) ∧ W.cell? ⟨w.heap.size + 1, 1, none⟩ = some (.int .i64 p) ∧ Below w0.heap.size w0 W) := hid0 (fun W hW =>
    ⟨(hW.cell (p := ⟨w.heap.size, 0, none⟩) (by simp; omega)).trans x0, (hW.cell (p := ⟨w.heap.size, 2, none⟩) (by simp; omega)).trans x2, (hW.cell (p := ⟨w.heap.size + 1, 1, none⟩) (by simp; omega)).trans x4, hW⟩)
  have hBr := Below.refl w0.heap.size w0
  have hfold := hw0.symm
  clear ha hb hw0 hX0 hX1 hB0 hs0
  generalize nmF L c = t at *
  generalize ptF R p = u at *
  have HD : Hid (∀ n, Below w.heap.size w (w0.drewN n)) := hid0 (fun n => ⟨HB0.out.os, HB0.out.tape, HB0.out.output, HB0.out.size, HB0.out.block⟩)
  cases t with
  | true =>
    cases nt
    all_goals
      go_enter Tryd.func13, Tryd.ntmps13
      go_wp2_with (go_at_call 23; refine HC.out.mono ?_; rintro e w1 ⟨rfl, hw1⟩; have hw1' := hw1.symm; subst hw1')
      go_quiet ((fail))
      go_wp2
      go_ret
      exact ⟨by rw [HF.out]; rfl, HD.out _⟩
  | false =>
    by_cases hp : p = -1
    · subst hp
      cases nt
      all_goals
        go_enter Tryd.func13, Tryd.ntmps13
        go_wp2_with (go_at_call 23; refine HC.out.mono ?_; rintro e w1 ⟨rfl, hw1⟩; have hw1' := hw1.symm; subst hw1')
        go_quiet ((fail))
        go_wp2
        go_ret
        exact ⟨by rw [HF.out]; rfl, HD.out _⟩
    · have hp' : (p != -1) = true := by simpa using hp
      have HP := hid0 hp
      have HQ : Hid ((nt != (false || (!(p == -1) && u))) = (nt != u)) := hid0 (by rw [show (p == -1) = false by simpa using hp]; simp)
      go_enter Tryd.func13, Tryd.ntmps13
      go_wp2_with (go_at_call 23; refine HC.out.mono ?_; rintro e w1 ⟨rfl, hw1⟩; have hw1' := hw1.symm; subst hw1')
      go_region_held3 (fun W => W.cell? ⟨w.heap.size, 0, none⟩ = some (.bool nt) ∧ W.cell? ⟨w.heap.size, 2, none⟩ = some (.slice b R.length cb) ∧ W.cell? ⟨w.heap.size + 1, 1, none⟩ = some (.int .i64 p) ∧ Below w0.heap.size w0 W) (first | exact HXs.out _ (by go_grown) | (go_split_ands; exact HXs.out _ (by go_grown)))
        (first | (go_at_call 24; go_split_ands; refine (HW.out _ (by go_grown)).mono ?_; rintro e w1 ⟨rfl, hb1⟩))
      all_goals
        go_wp2
        go_ret
        go_split_ands
        refine ⟨?_, Below.later HB0.out (by go_grown)⟩
        rw [HF.out, HQ.out]
        cases nt <;> cases u <;> rfl
end Go.Proofs.YtolnoojbcbdfiaaDoor
