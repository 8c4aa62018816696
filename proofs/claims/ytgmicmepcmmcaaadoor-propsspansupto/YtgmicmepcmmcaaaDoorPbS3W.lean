/-
  caesuralaw5.PropsSpans walked.
-/
import Derived.Test.YtgmicmepcmmcaaaDoorPbS5W
namespace Go.Proofs.YtgmicmepcmmcaaaDoor
open Go.RowKit Go.Shelf
theorem propF_parts {L : List ByteArray} {ss : List Sp} (h : propF L ss = none) : L.length ≤ 62 ∧ nmF [] L = none ∧ ss.length ≤ 65536 ∧ Rise L.length ss := by
  unfold propF at h
  split at h
  · cases h
  · rename_i h1
    cases hn : nmF [] L with
    | some e => rw [hn] at h; cases h
    | none =>
      rw [hn] at h
      simp only at h
      split at h
      · cases h
      · rename_i h2
        exact ⟨by omega, rfl, by omega, (rise_of ss none h).1⟩
theorem propF_cut {L : List ByteArray} {ss : List Sp} (h : propF L ss = none) (hl : (cutL ss).length ≤ 65536) : propF L (cutL ss) = none := by
  obtain ⟨h1, h2, _, h4⟩ := propF_parts h
  unfold propF
  rw [if_neg (by omega), h2]
  simp only
  rw [if_neg (by omega)]
  exact rise_fits _ _ (cut_rise h4).1 (fun q hq => by cases hq)
theorem IA.later {w w' : World} {a : Option Addr} {L : List Int} (h : IA w a L) (hb : Below w.heap.size w w') : IA w' a L := ⟨fun k hk => by
  obtain ⟨b, off, rfl, h1, h2⟩ := h.at' k hk
  exact ⟨b, off, rfl, Nat.lt_of_lt_of_le h1 hb.size, (hb.cell (p := ⟨b, off + k, none⟩) h1).trans h2⟩⟩
theorem below_c {w4 w6 wr : World} (h : Below w4.heap.size w4 w6) (ho : Only w6 wr (fun k => k = w4.heap.size)) : Below w4.heap.size w4 wr :=
  ⟨ho.os.trans h.os, ho.tape.trans h.tape, ho.output.trans h.output, Nat.le_trans h.size ho.size, fun k hk => (ho.block k (Nat.lt_of_lt_of_le hk h.size) (by omega)).trans (h.block k hk)⟩
theorem own_len {w6 : World} {C : Nat} {vC vS : Value} {X : List Sp} {u : Sp} {wx : World} (h : CutSt w6 C vC vS (X ++ [u]) wx) : wx.ownsRow w6.heap.size 38 3 vS (X.length + 1) (cellsP (X ++ [u])) := by have g := h.own; unfold OwnP at g; rw [List.length_append] at g; exact g
set_option maxRecDepth 10000 in
set_option maxHeartbeats 6400000 in
theorem propsSpans_any (A : Nat → Addr) (L : List ByteArray) (ss : List Sp) (pts : List Int) (aN aS aP : Option Addr) (cN cS cP : Nat) (vM : Value) (w : World) (hN : L.length ≤ cN) (hcN : L.length ≤ 1000000000) (hS : ss.length ≤ cS) (hcS : ss.length ≤ 1000000000) (hP : pts.length ≤ 1000000000) (hnil : aN = none → cN = 0)
    (hz : ∀ s ∈ L, s.size ≤ 1000000000000) (ha : SA w aN L) (hb : PA w aS ss) (hbs : ∀ p, aS = some p → p.block < w.heap.size) (hp : IA w aP pts) (he : Sent5 w A) :
    Calls Tryd.prog 3 #[.agg #[.slice aN L.length cN, .slice aS ss.length cS, .slice aP pts.length cP, vM]] w fun e w' => e = .returned (.bool true) ∧ Below w.heap.size w w' := by
  obtain ⟨i0, hi, hz0, hz1, hz2⟩ := info_parts infoSpan
  obtain ⟨w0, hw0⟩ : ∃ w0, w0 = w.alloc (.cells #[.slice aN L.length cN, .slice aS ss.length cS, .slice aP pts.length cP, vM] 28) := ⟨_, rfl⟩
  have hB0 : Below w.heap.size w w0 := by rw [hw0]; exact (Below.refl _ _).alloc (Nat.le_refl _) _
  have hX0 : w0.heap[w.heap.size]? = some (.cells #[.slice aN L.length cN, .slice aS ss.length cS, .slice aP pts.length cP, vM] 28 (0, 0)) := by rw [hw0]; exact heap_alloc_new w _
  have hs0 : w0.heap.size = w.heap.size + 1 := by rw [hw0]; simp
  have HFS := hid0 (first_any A w0 (he.later hB0))
  have HX0 := hid0 hX0
  have HS0 := hid0 hs0
  have HA := hid0 (ha.below hB0)
  have HPA := hid0 (hb.below hB0)
  have HBS : Hid (∀ p, aS = some p → p.block < w0.heap.size) := hid0 (fun p hp => by have := hbs p hp; omega)
  have HIA : Hid (IA w0 aP pts) := hid0 (hp.later hB0)
  have HXW : Hid (∀ W, Below w0.heap.size w0 W → W.cell? ⟨w.heap.size, 0, none⟩ = some (.slice aN L.length cN) ∧ W.cell? ⟨w.heap.size, 1, none⟩ = some (.slice aS ss.length cS) ∧ W.cell? ⟨w.heap.size, 2, none⟩ = some (.slice aP pts.length cP)) := hid0 (fun W hW => by
    have hr := (hW.block w.heap.size (by omega)).trans hX0
    exact ⟨by rw [cell_of_row _ _ _ _ _ _ hr]; rfl, by rw [cell_of_row _ _ _ _ _ _ hr]; rfl, by rw [cell_of_row _ _ _ _ _ _ hr]; rfl⟩)
  have HZ := hid0 hz
  have HE := hid0 (he.later hB0)
  have HB0 := hid0 hB0
  have HNIL := hid0 hnil
  have hfold := hw0.symm
  clear ha hb hbs hp he hB0 hw0 hX0 hs0 hz hnil
  have HNW : Hid (∀ W, Below w0.heap.size w0 W → Calls Tryd.prog 7 #[.agg #[.slice aN L.length cN, .slice aS ss.length cS]] W fun e w' => Newed A L ss W e w') := hid0 (fun W hW => new_any A L ss aN aS cN cS W hN hcN hS hcS HZ.out (HA.out.below hW) (HPA.out.below hW) (fun p hp => Nat.lt_of_lt_of_le (HBS.out p hp) hW.size) (HE.out.later hW))
  have mk : Hid True := trivial
  cases hpf : propF L ss with
  | some i =>
    have HN2 : Hid (∀ W, Below w0.heap.size w0 W → Calls Tryd.prog 7 #[.agg #[.slice aN L.length cN, .slice aS ss.length cS]] W fun e w' => e = .returned (.tuple #[.pointer none, .iface 96 (.pointer (some (A i)))]) ∧ Below w0.heap.size w0 w') := hid0 (fun W hW => (HNW.out W hW).mono (fun e w' h => by
      rcases h with ⟨j, h1, h2, h3⟩ | ⟨h1, _⟩
      · rw [hpf] at h1; cases h1; exact ⟨h2, Below.later hW h3⟩
      · rw [hpf] at h1; cases h1))
    clear hpf HNW
    go_enter Tryd.func3, Tryd.ntmps3
    go_wp2_with (first
      | (clear mk; go_at_call 6; refine HFS.out.mono ?_; rintro e w1 ⟨rfl, hb1⟩; obtain ⟨y0, y1, y2⟩ := HXW.out _ hb1; have HB1 := hid0 hb1; clear hb1 HFS)
      | (go_at_call 7; refine (HN2.out _ HB1.out).mono ?_; rintro e w2 ⟨rfl, hb2⟩; have HB2 := hid0 hb2; clear hb2))
    go_ret
    exact ⟨rfl, Below.later HB0.out HB2.out⟩
  | none =>
    obtain ⟨hL62, hnm, hs65, hRise⟩ := propF_parts hpf
    have HR := hid0 hRise
    have HPF := hid0 hpf
    have HN2 : Hid (∀ W, Below w0.heap.size w0 W → Calls Tryd.prog 7 #[.agg #[.slice aN L.length cN, .slice aS ss.length cS]] W fun e w' => ∃ T c vN vB, e = .returned (.tuple #[.pointer (some ⟨T, 0, none⟩), .nilIface]) ∧ TabAt w' W.heap.size T (otherB :: L) ss c vN vB ∧ Below W.heap.size W w') := hid0 (fun W hW => (HNW.out W hW).mono (fun e w' h => by
      rcases h with ⟨j, h1, _⟩ | ⟨_, T, c, vN, vB, h2, h3, h4⟩
      · rw [hpf] at h1; cases h1
      · exact ⟨T, c, vN, vB, h2, h3, h4⟩))
    clear hpf HNW hRise hnm
    go_enter Tryd.func3, Tryd.ntmps3
    go_wp2_with (first
      | (clear mk; go_at_call 6; refine HFS.out.mono ?_; rintro e w1 ⟨rfl, hb1⟩; obtain ⟨y0, y1, y2⟩ := HXW.out _ hb1; have HB1 := hid0 hb1; clear hb1 HFS)
      | (go_at_call 7; refine (HN2.out _ HB1.out).mono ?_; rintro e w2 ⟨T, c, vN, vB, rfl, ht, hb2⟩; have HT := hid0 ht; have HB2 := hid0 (Below.later HB1.out hb2); clear hb2 ht y0 y1 y2)
      | (go_at_call 8; refine (names_any w2 w1.heap.size T (otherB :: L) ss c vN vB (by simp) (by simp; omega) HT.out).mono ?_; rintro e w3 ⟨vn, rfl, h1, h2⟩; obtain ⟨an, cn, rfl, hjunk⟩ := h1.sa; clear hjunk; have HOn := hid0 h1; have HB23 := hid0 h2; have HB3 := hid0 (Below.later HB2.out h2); obtain ⟨y0, y1, y2⟩ := HXW.out _ (Below.later HB2.out h2); have HT3 := hid0 (HT.out.below h2); clear h1 h2))
    obtain ⟨nz, hnz⟩ : ∃ nz, nz = (ord (blkOf (cls ss)) 8704).length := ⟨_, rfl⟩
    have hnz1 : (1 : Int) ≤ (nz : Int) := by have := size_pos ss; omega
    have hnz2 : (nz : Int) ≤ 3 * (ss.length : Int) + 1 := by have := size_le HR.out 8704; omega
    have HSZ : Hid (∀ W, Below w3.heap.size w3 W → Calls Tryd.prog 9 #[.pointer (some ⟨T, 0, none⟩)] W fun e w' => e = .returned (.int .i64 (nz : Int)) ∧ w' = W) := hid0 (fun W hW => (size_any W w1.heap.size T _ ss c vN vB (HT3.out.below hW)).mono (fun e w' h => ⟨by rw [h.1, hnz], h.2⟩))
    have HNZ := hid0 hnz
    have HSo : Hid (∀ W, Below w3.heap.size w3 W → W.cell? ⟨w.heap.size, 0, none⟩ = some (.slice aN L.length cN) ∧ W.cell? ⟨w.heap.size, 1, none⟩ = some (.slice aS ss.length cS) ∧ Below w3.heap.size w3 W) := hid0 (fun W hW => ⟨(HXW.out _ (Below.later HB3.out hW)).1, (HXW.out _ (Below.later HB3.out hW)).2.1, hW⟩)
    have hB33 := Below.refl w3.heap.size w3
    have hw1 : IntKind.i64.wrap ((L.length : Int) + 1) = (L.length : Int) + 1 := by simp [IntKind.wrap, IntKind.bits, IntKind.signed]; omega
    have hw2 : IntKind.i64.wrap (3 * (ss.length : Int)) = 3 * (ss.length : Int) := by simp [IntKind.wrap, IntKind.bits, IntKind.signed]; omega
    have hw3 : IntKind.i64.wrap (3 * (ss.length : Int) + 1) = 3 * (ss.length : Int) + 1 := by simp [IntKind.wrap, IntKind.bits, IntKind.signed]; omega
    have hq1 : decide ((nz : Int) < 1) = false := by simpa using hnz1
    have hq2 : decide (3 * (ss.length : Int) + 1 < (nz : Int)) = false := by simpa using hnz2
    clear hnz
    go_region_held3 (fun W => W.cell? ⟨w.heap.size, 0, none⟩ = some (.slice aN L.length cN) ∧ W.cell? ⟨w.heap.size, 1, none⟩ = some (.slice aS ss.length cS) ∧ Below w3.heap.size w3 W) (first | exact HSo.out _ (by go_grown) | (go_split_ands; exact HSo.out _ (by go_grown)))
      (first | (go_at_call 9; go_split_ands; refine (HSZ.out _ (by go_grown)).mono ?_; rintro e w4 ⟨rfl, rfl⟩))
    obtain ⟨w4, hw4⟩ : ∃ w4, w4 = w3.drew := ⟨_, rfl⟩
    have b34 : Below w3.heap.size w3 w4 := by rw [hw4]; exact (Below.refl _ _).drew
    have HT4 := hid0 (HT3.out.below b34)
    have HB4 := hid0 (Below.later HB3.out b34)
    have HOn4 := hid0 (HOn.out.later b34)
    have HB14 : Hid (Below w3.heap.size w3 w4) := hid0 b34
    rw [← hw4]
    obtain ⟨z0, z1, z2⟩ := HXW.out w4 HB4.out
    have HWP : Hid (Below w4.heap.size w4 (w4.alloc (.cells #[.slice none 0 0, .slice none 0 0] 25))) := hid0 ((Below.refl _ _).alloc (Nat.le_refl _) _)
    have HSA5 : Hid (SA (w4.alloc (.cells #[.slice none 0 0, .slice none 0 0] 25)) aN L) := hid0 ((HA.out.below HB4.out).below HWP.out)
    have HCR : Hid (∀ w5, (w4.alloc (.cells #[.slice none 0 0, .slice none 0 0] 25)).grownBy w5 none → w5.heap[w4.heap.size]? = some (.cells #[.slice none 0 0, .slice none 0 0] 25 (0, 0)) ∧ w5.cell? ⟨w4.heap.size, 0, none⟩ = some (.slice none 0 0) ∧ w5.frozen? ⟨w4.heap.size, 0, none⟩ = false) := hid0 (fun w5 hg => by
      have hr := (hg.block w4.heap.size (by simp) (by simp)).trans (heap_alloc_new w4 _)
      exact ⟨hr, by rw [cell_of_row _ _ _ _ _ _ hr]; rfl, by simp [World.frozen?, hr]⟩)
    have HSP : Hid (w4.heap.size + 1 ≤ (w4.alloc (.cells #[.slice none 0 0, .slice none 0 0] 25)).heap.size) := hid0 (by simp)
    have xz0 : (w4.alloc (.cells #[.slice none 0 0, .slice none 0 0] 25)).cell? ⟨w.heap.size, 0, none⟩ = some (.slice aN L.length cN) := cell_alloc z0 _
    clear hw4 b34 y0 y1 y2 HT HT3 HOn HB23 HSo hB33 hw1 hw2 hw3 hq1 hq2
    go_wp2_with (at_builtin; refine wpList_spread (by rfl) _ _ (by rfl) aN L cN (w4.heap.size + 1) (by rfl) (by rfl) HNIL.out HSA5.out (by omega) HSP.out ?_; intro vC w5 hoC hgC; obtain ⟨aV, cV, rfl, hjunk⟩ := hoC.sa; clear hjunk; obtain ⟨hr5, c5, f5⟩ := HCR.out w5 hgC; have HR5 := hid0 hr5; have HOC := hid0 hoC; have HGC := hid0 hgC; clear hr5 hoC hgC)
    obtain ⟨w6, hw6⟩ : ∃ w6, w6 = w5.setCell ⟨w4.heap.size, 0, none⟩ (.slice aV L.length cV) := ⟨_, rfl⟩
    have g6 : w6.heap[w4.heap.size]? = some (.cells #[(.slice aV L.length cV), .slice none 0 0] 25 (0, 0)) := by rw [hw6, heap_setCell_same w5 _ 0 _ _ (.slice aV L.length cV) HR5.out]; rfl
    have o46 : Only w4 w6 (fun _ => False) := by
      rw [hw6]
      exact ((Only.alloc w4 _ (fun _ => False)).trans (Only.ofGrown HGC.out) (fun k hk => by cases hk)).trans (Only.setCell w5 w4.heap.size 0 (.slice aV L.length cV)) (fun k hk => .inr (by omega))
    have b46 : Below w4.heap.size w4 w6 := ⟨o46.os, o46.tape, o46.output, o46.size, fun k hk => o46.block k hk id⟩
    have HO6 : Hid (OwnS w6 (w4.heap.size + 1) (.slice aV L.length cV) L) := hid0 (by
      rw [hw6]
      have h := HOC.out
      exact ownsRow_setCell_other h (a := ⟨w4.heap.size, 0, none⟩) (fun e => by have := (World.ownsRow.lt h _ e).1; simp at this; omega) (.slice aV L.length cV))
    have HG6 := hid0 g6
    have HB46 := hid0 b46
    have hlt6 : w4.heap.size < w6.heap.size := (Array.getElem?_eq_some_iff.1 g6).1
    have HLT6 := hid0 hlt6
    have HCLS : Hid (∀ W p, Below w4.heap.size w4 W → Calls Tryd.prog 10 #[.pointer (some ⟨T, 0, none⟩), .int .i64 p] W fun e w' => e = .returned (.int .i64 (cls ss p)) ∧ Below W.heap.size W w') := hid0 (fun W p hW => class_any L.length W w1.heap.size T _ ss c vN vB p HR.out (by omega) (by omega) (HT4.out.below hW))
    rw [← hw6]
    clear hw6 g6 o46 b46 HR5 HOC HGC c5 f5 z0 z1 z2 xz0 hlt6 HCR HSA5 HWP HSP
    go_loopw [8, 9] (fun v8 v9 wr => ∃ (k : Nat) (vS : Value), k ≤ ss.length ∧ v8 = .int .i64 (lastH ss k) ∧ v9 = .int .i64 (k : Int) ∧ Hid (wr.heap[w4.heap.size]? = some (.cells #[(.slice aV L.length cV), vS] 25 (0, 0))) ∧ Hid (OwnP wr w6.heap.size vS (cutL (ss.take k))) ∧ Hid (Only w6 wr (fun k => k = w4.heap.size))) (fun _ v _ => ss.length - (intOf v).toNat)
    case atStart => exact ⟨0, _, Nat.zero_le _, by simp [lastH], rfl, HG6, hid0 (World.ownsRow_nil _ _ _ _), hid0 (Only.refl _ _)⟩
    case round =>
      clear HG6
      obtain ⟨k, vS, hk, rfl, rfl, HX, HO, HY⟩ := hrel
      have hb4 : Below w4.heap.size w4 wr := below_c HB46.out HY.out
      have HB4r := hid0 hb4
      obtain ⟨z0, z1, z2⟩ := HXW.out wr (Below.later HB4.out hb4)
      obtain ⟨lb1, lb2, lb3, lb4⟩ := lastH_b HR.out k hk
      have xc : wr.cell? ⟨w4.heap.size, 1, none⟩ = some vS := by rw [cell_of_row _ _ _ _ _ _ HX.out]; rfl
      have xf : wr.frozen? ⟨w4.heap.size, 1, none⟩ = false := by simp [World.frozen?, HX.out]
      obtain ⟨aC, cC, rfl, hjunk⟩ := HO.out.pa
      clear hjunk
      by_cases hlt : k < ss.length
      · obtain ⟨b, off, rfl, hbw, d0, d1, d2⟩ := ((HPA.out.below HB4.out).below hb4).at' k hlt
        have h1 := HR.out.one _ (List.getElem_mem hlt)
        have HK1 : Hid (∀ p, ss[k].1 ≤ p → p ≤ ss[k].2.1 → cls ss p = ss[k].2.2 + 1) := hid0 (fun p g1 g2 => cls_in HR.out hlt g1 g2)
        have HK2 := hid0 (lastH_next ss k hlt)
        have HK3 := hid0 (cutL_take ss k hlt)
        have lb4' := lb4 hlt
        have HK4 : Hid (lastH ss k + 1 < ss[k].1 → cls ss (ss[k].1 - 1) = 0 ∧ cls ss (lastH ss k + 1) = 0) := hid0 (fun hg => ⟨cls_gap HR.out (k := k) (fun s hs => by have := lb3 s hs; omega) (fun _ => by omega), cls_gap HR.out (k := k) (fun s hs => by have := lb3 s hs; omega) (fun _ => hg)⟩)
        obtain ⟨s, hs⟩ : ∃ s, ss[k] = s := ⟨_, rfl⟩
        rw [hs] at d0 d1 d2 h1 HK1 HK2 HK3 HK4 lb4'
        obtain ⟨lo, hi', nm⟩ := s
        simp only at d0 d1 d2 h1 lb4'
        obtain ⟨q, rfl⟩ : ∃ q : Nat, nm = (q : Int) := ⟨nm.toNat, by omega⟩
        obtain ⟨j1, j2, j3, _, j5⟩ := h1
        have hqL : q < L.length := by omega
        obtain ⟨mid, hmid⟩ : ∃ mid, mid = midOf (lo, hi', (q : Int)) := ⟨_, rfl⟩
        have hm := mid_in (lo, hi', (q : Int)) j2
        rw [← hmid] at hm
        simp only at hm
        obtain ⟨hm1, hm2⟩ := hm
        obtain ⟨dd, hdd⟩ : ∃ dd : Int, (hi' - lo).tdiv 2 = dd := ⟨_, rfl⟩
        have hms : lo + dd = mid := by rw [hmid, midOf, ← hdd]
        have hdd0 : 0 ≤ dd ∧ dd ≤ 1114111 := by omega
        have HK1' : cls ss lo = (q : Int) + 1 ∧ cls ss hi' = (q : Int) + 1 ∧ cls ss mid = (q : Int) + 1 := ⟨HK1.out lo (Int.le_refl _) j2, HK1.out hi' j2 (Int.le_refl _), HK1.out mid hm1 hm2⟩
        obtain ⟨k1, k2, k3⟩ := HK1'
        have HMID := hid0 hmid
        obtain ⟨wa, hwa⟩ : ∃ wa, wa = wr.alloc (.cells #[.int .i64 lo, .int .i64 hi', .int .i64 (q : Int)] 38) := ⟨_, rfl⟩
        have bra : Below wr.heap.size wr wa := by rw [hwa]; exact (Below.refl _ _).alloc (Nat.le_refl _) _
        have hwaf := hwa.symm
        have ga : wa.heap[wr.heap.size]? = some (.cells #[.int .i64 lo, .int .i64 hi', .int .i64 (q : Int)] 38 (0, 0)) := by rw [hwa]; exact heap_alloc_new wr _
        have b4a : Below w4.heap.size w4 wa := ⟨bra.os.trans hb4.os, bra.tape.trans hb4.tape, bra.output.trans hb4.output, Nat.le_trans hb4.size bra.size, fun k hk => (bra.block k (Nat.lt_of_lt_of_le hk hb4.size)).trans (hb4.block k hk)⟩
        have x0 : wa.cell? ⟨wr.heap.size, 0, none⟩ = some (.int .i64 lo) := by rw [cell_of_row _ _ _ _ _ _ ga]; rfl
        have x1 : wa.cell? ⟨wr.heap.size, 1, none⟩ = some (.int .i64 hi') := by rw [cell_of_row _ _ _ _ _ _ ga]; rfl
        have x2 : wa.cell? ⟨wr.heap.size, 2, none⟩ = some (.int .i64 (q : Int)) := by rw [cell_of_row _ _ _ _ _ _ ga]; rfl
        obtain ⟨an', cn', en, hsn, _⟩ := (OwnS.later HOn4.out b4a).sa
        cases en
        obtain ⟨bn, on, rfl, _, e1⟩ := hsn.at' (q + 1) (by simp; omega)
        obtain ⟨bN, oN, rfl, _, e2⟩ := ((HA.out.below HB4.out).below b4a).at' q hqL
        simp only [List.getElem_cons_succ] at e1
        generalize L[q] = sq at e1 e2
        have HB4a := hid0 b4a
        have HBra := hid0 bra
        have HSo : Hid (∀ W, Below wa.heap.size wa W → W.cell? ⟨wr.heap.size, 0, none⟩ = some (.int .i64 lo) ∧ W.cell? ⟨wr.heap.size, 1, none⟩ = some (.int .i64 hi') ∧ W.cell? ⟨wr.heap.size, 2, none⟩ = some (.int .i64 (q : Int)) ∧ W.cell? ⟨bn, on + (q + 1), none⟩ = some (.string sq) ∧ W.cell? ⟨w.heap.size, 0, none⟩ = some (.slice (some ⟨bN, oN, none⟩) L.length cN) ∧ W.cell? ⟨bN, oN + q, none⟩ = some (.string sq) ∧ Below wa.heap.size wa W) := hid0 (fun W hW =>
          ⟨(hW.cell (World.block_lt_of_cell? _ _ x0)).trans x0, (hW.cell (World.block_lt_of_cell? _ _ x1)).trans x1, (hW.cell (World.block_lt_of_cell? _ _ x2)).trans x2, (hW.cell (World.block_lt_of_cell? _ _ e1)).trans e1, (hW.cell (World.block_lt_of_cell? _ _ ((bra.cell (World.block_lt_of_cell? _ _ z0)).trans z0))).trans ((bra.cell (World.block_lt_of_cell? _ _ z0)).trans z0), (hW.cell (World.block_lt_of_cell? _ _ e2)).trans e2, hW⟩)
        have HCL2 : Hid (∀ W p, Below wa.heap.size wa W → Calls Tryd.prog 10 #[.pointer (some ⟨T, 0, none⟩), .int .i64 p] W fun e w' => e = .returned (.int .i64 (cls ss p)) ∧ Below wa.heap.size wa w') := hid0 (fun W p hW => (HCLS.out W p ⟨hW.os.trans b4a.os, hW.tape.trans b4a.tape, hW.output.trans b4a.output, Nat.le_trans b4a.size hW.size, fun k hk => (hW.block k (Nat.lt_of_lt_of_le hk b4a.size)).trans (b4a.block k hk)⟩).mono (fun e w' h => ⟨h.1, Below.later hW h.2⟩))
        have hBaa := Below.refl wa.heap.size wa
        have hkI : (k : Int) < (ss.length : Int) := by omega
        have hkI0 : (0 : Int) ≤ (k : Int) := by omega
        have hv1 : IntKind.i64.wrap (hi' - lo) = hi' - lo := by simp [IntKind.wrap, IntKind.bits, IntKind.signed]; omega
        have hv2 : IntKind.i64.wrap dd = dd := by simp [IntKind.wrap, IntKind.bits, IntKind.signed]; omega
        have hv3 : IntKind.i64.wrap mid = mid := by simp [IntKind.wrap, IntKind.bits, IntKind.signed]; omega
        have hv4 : IntKind.i64.wrap ((q : Int) + 1) = (q : Int) + 1 := by simp [IntKind.wrap, IntKind.bits, IntKind.signed]; omega
        have hqI0 : (0 : Int) ≤ (q : Int) := by omega
        have hqI : (q : Int) < (L.length : Int) := by omega
        have hqI1 : (q : Int) + 1 < (L.length : Int) + 1 := by omega
        have hqI2 : (0 : Int) ≤ (q : Int) + 1 := by omega
        have hself : (sq.toList == sq.toList) = true := by simp
        have HKS := hid0 hs
        have xca : wa.cell? ⟨w4.heap.size, 1, none⟩ = some (.slice aC (cutL (ss.take k)).length cC) := (bra.cell (World.block_lt_of_cell? _ _ xc)).trans xc
        have Hq := hid0 hqL
        clear hwa hb4 b4a bra ga hmid hs lb3 lb4 hsn
        go_wp2
        go_region_held3 (fun W => W.cell? ⟨wr.heap.size, 0, none⟩ = some (.int .i64 lo) ∧ W.cell? ⟨wr.heap.size, 1, none⟩ = some (.int .i64 hi') ∧ W.cell? ⟨wr.heap.size, 2, none⟩ = some (.int .i64 (q : Int)) ∧ W.cell? ⟨bn, on + (q + 1), none⟩ = some (.string sq) ∧ W.cell? ⟨w.heap.size, 0, none⟩ = some (.slice (some ⟨bN, oN, none⟩) L.length cN) ∧ W.cell? ⟨bN, oN + q, none⟩ = some (.string sq) ∧ Below wa.heap.size wa W) (first | exact HSo.out _ (by go_grown) | (go_split_ands; exact HSo.out _ (by go_grown)))
          (first | (go_at_call 10; go_split_ands; refine (HCL2.out _ _ (by go_grown)).mono ?_; rintro e w9 ⟨rfl, hb9⟩))
        obtain ⟨t0, t1, t2, tj⟩ := HSo.out w9 hb9
        clear tj
        have HB9 := hid0 hb9
        have HBr9 : Hid (Below wr.heap.size wr w9) := hid0 (Below.later HBra.out hb9)
        have HCT : Hid (CutSt w6 w4.heap.size (.slice aV L.length cV) (.slice aC (cutL (ss.take k)).length cC) (cutL (ss.take k)) wr) := hid0 ⟨HX.out, HO.out, HY.out, HLT6.out⟩
        have HXN : Hid ((Value.slice aC (cutL (ss.take k)).length cC).ownBlock ≠ some wr.heap.size) := hid0 (fun e => by have := (World.ownsRow.lt HO.out _ e).2; omega)
        have HBC : Hid (¬ wr.heap.size = w4.heap.size) := hid0 (by have := HLT6.out; have := HY.out.size; omega)
        have hXl : (cutL (ss.take k)).length ≤ 131072 := by have := cutL_len (ss.take k); rw [List.length_take] at this; omega
        have hvl : IntKind.i64.wrap (lastH ss k + 1) = lastH ss k + 1 := by simp [IntKind.wrap, IntKind.bits, IntKind.signed]; omega
        have hvm : IntKind.i64.wrap (lo - 1) = lo - 1 := by simp [IntKind.wrap, IntKind.bits, IntKind.signed]; omega
        have hvp : IntKind.i64.wrap (mid + 1) = mid + 1 := by simp [IntKind.wrap, IntKind.bits, IntKind.signed]; omega
        have HK4' : Hid (lastH ss k + 1 < lo → cls ss (lo - 1) = 0 ∧ cls ss (lastH ss k + 1) = 0) := HK4
        have HK2' : Hid (lastH ss (k + 1) = hi') := HK2
        have HK3' : Hid (cutL (ss.take (k + 1)) = cutL (ss.take k) ++ cut1 (lo, hi', (q : Int))) := HK3
        have HK5 : Hid (∀ b : Bool, decide (mid < hi') = b → cut1 (lo, hi', (q : Int)) = if b = true then [(lo, mid, (q : Int)), (mid + 1, hi', (q : Int))] else [(lo, mid, (q : Int))]) := hid0 (fun b hb => by
          have e := HMID.out
          unfold cut1
          rw [← e]
          cases b with
          | true => rw [if_pos (by simpa using hb)]; rfl
          | false => rw [if_neg (by simpa using hb)]; rfl)
        have HTT0 : Hid (∀ W, Below wa.heap.size wa W → W.cell? ⟨wr.heap.size, 0, none⟩ = some (.int .i64 lo) ∧ W.cell? ⟨wr.heap.size, 1, none⟩ = some (.int .i64 hi') ∧ W.cell? ⟨wr.heap.size, 2, none⟩ = some (.int .i64 (q : Int)) ∧ W.cell? ⟨w4.heap.size, 1, none⟩ = some (.slice aC (cutL (ss.take k)).length cC)) := hid0 (fun W hW => ⟨(HSo.out W hW).1, (HSo.out W hW).2.1, (HSo.out W hW).2.2.1, (hW.cell (World.block_lt_of_cell? _ _ xca)).trans xca⟩)
        generalize lastH ss k = lst at *
        generalize hX : cutL (ss.take k) = X at *
        clear HK1 HK2 HK3 HK4 HX HO HSo hX x0 x1 x2 e1 e2 xc xf xca z0 z1 z2 hwaf d0 d1 d2 hBaa hb9
        have HML : Hid (X.length + 1 ≤ maxLen) := hid0 (by unfold maxLen; omega)
        have HMB : Hid ((X.length + 1) * 24 ≤ 140737488355328) := hid0 (by omega)
        have HML2 : Hid (X.length + 1 + 1 ≤ maxLen) := hid0 (by unfold maxLen; omega)
        have HMB2 : Hid ((X.length + 1 + 1) * 24 ≤ 140737488355328) := hid0 (by omega)
        have HS6 : Hid (∀ W, Below wr.heap.size wr W → w6.heap.size ≤ W.heap.size) := hid0 (fun W hW => Nat.le_trans HY.out.size hW.size)
        have HRB : Hid (∀ W, Below wa.heap.size wa W → Below wr.heap.size wr W) := hid0 (fun W hW => Below.later HBra.out hW)
        have HTT : Hid (∀ W, Below wa.heap.size wa W → W.cell? ⟨wr.heap.size, 0, none⟩ = some (.int .i64 lo) ∧ W.cell? ⟨wr.heap.size, 1, none⟩ = some (.int .i64 hi') ∧ W.cell? ⟨wr.heap.size, 2, none⟩ = some (.int .i64 (q : Int)) ∧ W.cell? ⟨w4.heap.size, 1, none⟩ = some (.slice aC X.length cC)) := HTT0
        by_cases hmh : mid < hi'
        · by_cases hgap : lst + 1 < lo
          · skip
            have M5 : Hid True := trivial
            obtain ⟨r1, r2⟩ := HK4'.out hgap
            have M1 : Hid True := trivial
            have HS6c : Hid (∀ W : World, w6.heap.size ≤ W.heap.size → w6.heap.size ≤ (W.alloc (.cells #[.int .i64 (mid + 1), .int .i64 hi', .int .i64 (q : Int)] 38)).heap.size) := hid0 (fun W hW => Nat.le_trans hW (Only.alloc W _ (fun _ => False)).size)
            go_wp2_with (first
              | (clear M1; go_at_call 10; refine (HCL2.out _ _ HB9.out).mono ?_; rintro e w10 ⟨rfl, h10⟩; have HB10 := hid0 h10; clear h10; have M2 : Hid True := trivial)
              | (clear M2; go_at_call 10; refine (HCL2.out _ _ HB10.out).mono ?_; rintro e w11 ⟨rfl, h11⟩; obtain ⟨t0, t1, t2, t3⟩ := HTT.out w11 h11; have HB11 := hid0 h11; have HT1 := hid0 t1; have HT2 := hid0 t2; have HCX := hid0 (HCT.out.below (HRB.out _ h11)); have HS11b : Hid (w6.heap.size ≤ (w11.alloc (.cells #[.int .i64 lo, .int .i64 mid, .int .i64 (q : Int)] 38)).heap.size) := hid0 (Nat.le_trans (HS6.out _ (HRB.out _ h11)) (Only.alloc w11 _ (fun _ => False)).size); clear h11)
              | (at_builtin; clear M5; refine wpList_append_own_at _ (by rfl) _ _ 23 (by rfl) w6.heap.size 38 i0 (.agg #[.int .i64 0, .int .i64 0, .int .i64 0]) 3 24 Tryd.underlying23 hi hz0 hz1 hz2 rfl (by decide) (.slice aC X.length cC) X.length (cellsP X) (by rfl) (World.ownsRow.alloc HCX.out.own _) ⟨w11.heap.size, 0, none⟩ 1 1 [.int .i64 lo, .int .i64 mid, .int .i64 (q : Int)] (by rfl) (by rfl) (cell3_new _ _ _ _ _) (cellsP_one _ _ _) HML.out HMB.out HS11b.out ?_; intro va ya hoa hga _ hata; obtain ⟨ga, capa, rfl, hju1, hju2⟩ := World.ownsRow.form hoa (Nat.succ_pos _); clear hju1 hju2; obtain ⟨p0, p1, p2⟩ := HCX.out.cells _ hga; obtain ⟨yb, hyb, HCb, u1, u2, u3, u4, u5, u6⟩ := HCX.out.all _ (lo, mid, (q : Int)) rfl hoa hga HT1.out HT2.out HBC.out HXN.out (by simpa using hata); have HCB := hid0 HCb; have HU1 := hid0 u1; have HU2 := hid0 u2; have HU5 := hid0 u5; have HU6 := hid0 u6; clear hoa hga hata p0 HCb u5 u6; have M6 : Hid True := trivial)
              | (at_builtin; clear M6; refine wpList_append_own_at _ (by rfl) _ _ 23 (by rfl) w6.heap.size 38 i0 (.agg #[.int .i64 0, .int .i64 0, .int .i64 0]) 3 24 Tryd.underlying23 hi hz0 hz1 hz2 rfl (by decide) (.slice (some ⟨ga, 0, none⟩) (X.length + 1) capa) (X.length + 1) (cellsP (X ++ [(lo, mid, (q : Int))])) (by rfl) (World.ownsRow.alloc (own_len HCB.out) _) ⟨yb.heap.size, 0, none⟩ 1 1 [.int .i64 (mid + 1), .int .i64 hi', .int .i64 (q : Int)] (by rfl) (by rfl) (cell3_new _ _ _ _ _) (cellsP_one _ _ _) HML2.out HMB2.out (HS6c.out _ (Nat.le_trans (Nat.le_trans (HS6.out _ (HRB.out _ HB11.out)) (Nat.le_refl _)) HU6.out)) ?_; intro vc yc hoc hgc _ hatc; obtain ⟨gc, capc, rfl, hju1, hju2⟩ := World.ownsRow.form hoc (Nat.succ_pos _); clear hju1 hju2; obtain ⟨p0, p3, p4⟩ := HCB.out.cells _ hgc; obtain ⟨yd, hyd, HCd, u7, u8, u9, uA, uB, uC⟩ := HCB.out.all _ (mid + 1, hi', (q : Int)) (by simp) hoc hgc HU1.out HU2.out HBC.out HU5.out (by simpa using hatc); have HCD := hid0 HCd; clear hoc hgc hatc p0 HCd))
            have HF : Hid (CutSt w6 w4.heap.size (.slice aV L.length cV) _ (cutL (ss.take (k + 1))) _) := hid0 (by rw [HK3'.out, HK5.out true (by simpa using hmh)]; simpa using HCD.out)
            clear HCX HCB HT1 HT2 HB9 HBr9 HCT HXN HBC HK4' HK3' HK5 HML HMB HML2 HMB2 HRB HTT HTT0
            go_roundw
            case rel => exact ⟨k + 1, _, by omega, by rw [HK2'.out], by go_num, hid0 HF.out.row, hid0 HF.out.own, hid0 HF.out.only⟩
            case measure => simp [intOf]; omega
          · skip
            have M5 : Hid True := trivial
            obtain ⟨t0, t1, t2, t3⟩ := HTT.out w9 HB9.out
            have HT1 := hid0 t1
            have HT2 := hid0 t2
            have HCX := hid0 (HCT.out.below (HRB.out _ HB9.out))
            have HS9b : Hid (w6.heap.size ≤ (w9.alloc (.cells #[.int .i64 lo, .int .i64 mid, .int .i64 (q : Int)] 38)).heap.size) := hid0 (Nat.le_trans (HS6.out _ (HRB.out _ HB9.out)) (Only.alloc w9 _ (fun _ => False)).size)
            have HS6c : Hid (∀ W : World, w6.heap.size ≤ W.heap.size → w6.heap.size ≤ (W.alloc (.cells #[.int .i64 (mid + 1), .int .i64 hi', .int .i64 (q : Int)] 38)).heap.size) := hid0 (fun W hW => Nat.le_trans hW (Only.alloc W _ (fun _ => False)).size)
            go_wp2_with (first
              | (at_builtin; clear M5; refine wpList_append_own_at _ (by rfl) _ _ 23 (by rfl) w6.heap.size 38 i0 (.agg #[.int .i64 0, .int .i64 0, .int .i64 0]) 3 24 Tryd.underlying23 hi hz0 hz1 hz2 rfl (by decide) (.slice aC X.length cC) X.length (cellsP X) (by rfl) (World.ownsRow.alloc HCX.out.own _) ⟨w9.heap.size, 0, none⟩ 1 1 [.int .i64 lo, .int .i64 mid, .int .i64 (q : Int)] (by rfl) (by rfl) (cell3_new _ _ _ _ _) (cellsP_one _ _ _) HML.out HMB.out HS9b.out ?_; intro va ya hoa hga _ hata; obtain ⟨ga, capa, rfl, hju1, hju2⟩ := World.ownsRow.form hoa (Nat.succ_pos _); clear hju1 hju2; obtain ⟨p0, p1, p2⟩ := HCX.out.cells _ hga; obtain ⟨yb, hyb, HCb, u1, u2, u3, u4, u5, u6⟩ := HCX.out.all _ (lo, mid, (q : Int)) rfl hoa hga HT1.out HT2.out HBC.out HXN.out (by simpa using hata); have HCB := hid0 HCb; have HU1 := hid0 u1; have HU2 := hid0 u2; have HU5 := hid0 u5; have HU6 := hid0 u6; clear hoa hga hata p0 HCb u5 u6; have M6 : Hid True := trivial)
              | (at_builtin; clear M6; refine wpList_append_own_at _ (by rfl) _ _ 23 (by rfl) w6.heap.size 38 i0 (.agg #[.int .i64 0, .int .i64 0, .int .i64 0]) 3 24 Tryd.underlying23 hi hz0 hz1 hz2 rfl (by decide) (.slice (some ⟨ga, 0, none⟩) (X.length + 1) capa) (X.length + 1) (cellsP (X ++ [(lo, mid, (q : Int))])) (by rfl) (World.ownsRow.alloc (own_len HCB.out) _) ⟨yb.heap.size, 0, none⟩ 1 1 [.int .i64 (mid + 1), .int .i64 hi', .int .i64 (q : Int)] (by rfl) (by rfl) (cell3_new _ _ _ _ _) (cellsP_one _ _ _) HML2.out HMB2.out (HS6c.out _ (Nat.le_trans (Nat.le_trans (HS6.out _ (HRB.out _ HB9.out)) (Nat.le_refl _)) HU6.out)) ?_; intro vc yc hoc hgc _ hatc; obtain ⟨gc, capc, rfl, hju1, hju2⟩ := World.ownsRow.form hoc (Nat.succ_pos _); clear hju1 hju2; obtain ⟨p0, p3, p4⟩ := HCB.out.cells _ hgc; obtain ⟨yd, hyd, HCd, u7, u8, u9, uA, uB, uC⟩ := HCB.out.all _ (mid + 1, hi', (q : Int)) (by simp) hoc hgc HU1.out HU2.out HBC.out HU5.out (by simpa using hatc); have HCD := hid0 HCd; clear hoc hgc hatc p0 HCd))
            have HF : Hid (CutSt w6 w4.heap.size (.slice aV L.length cV) _ (cutL (ss.take (k + 1))) _) := hid0 (by rw [HK3'.out, HK5.out true (by simpa using hmh)]; simpa using HCD.out)
            clear HCX HCB HT1 HT2 HB9 HBr9 HCT HXN HBC HK4' HK3' HK5 HML HMB HML2 HMB2 HRB HTT HTT0
            go_roundw
            case rel => exact ⟨k + 1, _, by omega, by rw [HK2'.out], by go_num, hid0 HF.out.row, hid0 HF.out.own, hid0 HF.out.only⟩
            case measure => simp [intOf]; omega
        · by_cases hgap : lst + 1 < lo
          · skip
            have M5 : Hid True := trivial
            obtain ⟨r1, r2⟩ := HK4'.out hgap
            have M1 : Hid True := trivial
            go_wp2_with (first
              | (clear M1; go_at_call 10; refine (HCL2.out _ _ HB9.out).mono ?_; rintro e w10 ⟨rfl, h10⟩; have HB10 := hid0 h10; clear h10; have M2 : Hid True := trivial)
              | (clear M2; go_at_call 10; refine (HCL2.out _ _ HB10.out).mono ?_; rintro e w11 ⟨rfl, h11⟩; obtain ⟨t0, t1, t2, t3⟩ := HTT.out w11 h11; have HB11 := hid0 h11; have HT1 := hid0 t1; have HT2 := hid0 t2; have HCX := hid0 (HCT.out.below (HRB.out _ h11)); have HS11b : Hid (w6.heap.size ≤ (w11.alloc (.cells #[.int .i64 lo, .int .i64 mid, .int .i64 (q : Int)] 38)).heap.size) := hid0 (Nat.le_trans (HS6.out _ (HRB.out _ h11)) (Only.alloc w11 _ (fun _ => False)).size); clear h11)
              | (at_builtin; clear M5; refine wpList_append_own_at _ (by rfl) _ _ 23 (by rfl) w6.heap.size 38 i0 (.agg #[.int .i64 0, .int .i64 0, .int .i64 0]) 3 24 Tryd.underlying23 hi hz0 hz1 hz2 rfl (by decide) (.slice aC X.length cC) X.length (cellsP X) (by rfl) (World.ownsRow.alloc HCX.out.own _) ⟨w11.heap.size, 0, none⟩ 1 1 [.int .i64 lo, .int .i64 mid, .int .i64 (q : Int)] (by rfl) (by rfl) (cell3_new _ _ _ _ _) (cellsP_one _ _ _) HML.out HMB.out HS11b.out ?_; intro va ya hoa hga _ hata; obtain ⟨ga, capa, rfl, hju1, hju2⟩ := World.ownsRow.form hoa (Nat.succ_pos _); clear hju1 hju2; obtain ⟨p0, p1, p2⟩ := HCX.out.cells _ hga; obtain ⟨yb, hyb, HCb, u1, u2, u3, u4, u5, u6⟩ := HCX.out.all _ (lo, mid, (q : Int)) rfl hoa hga HT1.out HT2.out HBC.out HXN.out (by simpa using hata); have HCB := hid0 HCb; have HU1 := hid0 u1; have HU2 := hid0 u2; have HU5 := hid0 u5; have HU6 := hid0 u6; clear hoa hga hata p0 HCb u5 u6; have M6 : Hid True := trivial))
            have HF : Hid (CutSt w6 w4.heap.size (.slice aV L.length cV) _ (cutL (ss.take (k + 1))) _) := hid0 (by rw [HK3'.out, HK5.out false (by simpa using hmh)]; exact HCB.out)
            clear HCX HCB HT1 HT2 HB9 HBr9 HCT HXN HBC HK4' HK3' HK5 HML HMB HML2 HMB2 HRB HTT HTT0
            go_roundw
            case rel => exact ⟨k + 1, _, by omega, by rw [HK2'.out], by go_num, hid0 HF.out.row, hid0 HF.out.own, hid0 HF.out.only⟩
            case measure => simp [intOf]; omega
          · skip
            have M5 : Hid True := trivial
            obtain ⟨t0, t1, t2, t3⟩ := HTT.out w9 HB9.out
            have HT1 := hid0 t1
            have HT2 := hid0 t2
            have HCX := hid0 (HCT.out.below (HRB.out _ HB9.out))
            have HS9b : Hid (w6.heap.size ≤ (w9.alloc (.cells #[.int .i64 lo, .int .i64 mid, .int .i64 (q : Int)] 38)).heap.size) := hid0 (Nat.le_trans (HS6.out _ (HRB.out _ HB9.out)) (Only.alloc w9 _ (fun _ => False)).size)
            go_wp2_with (first
              | (at_builtin; clear M5; refine wpList_append_own_at _ (by rfl) _ _ 23 (by rfl) w6.heap.size 38 i0 (.agg #[.int .i64 0, .int .i64 0, .int .i64 0]) 3 24 Tryd.underlying23 hi hz0 hz1 hz2 rfl (by decide) (.slice aC X.length cC) X.length (cellsP X) (by rfl) (World.ownsRow.alloc HCX.out.own _) ⟨w9.heap.size, 0, none⟩ 1 1 [.int .i64 lo, .int .i64 mid, .int .i64 (q : Int)] (by rfl) (by rfl) (cell3_new _ _ _ _ _) (cellsP_one _ _ _) HML.out HMB.out HS9b.out ?_; intro va ya hoa hga _ hata; obtain ⟨ga, capa, rfl, hju1, hju2⟩ := World.ownsRow.form hoa (Nat.succ_pos _); clear hju1 hju2; obtain ⟨p0, p1, p2⟩ := HCX.out.cells _ hga; obtain ⟨yb, hyb, HCb, u1, u2, u3, u4, u5, u6⟩ := HCX.out.all _ (lo, mid, (q : Int)) rfl hoa hga HT1.out HT2.out HBC.out HXN.out (by simpa using hata); have HCB := hid0 HCb; have HU1 := hid0 u1; have HU2 := hid0 u2; have HU5 := hid0 u5; have HU6 := hid0 u6; clear hoa hga hata p0 HCb u5 u6; have M6 : Hid True := trivial))
            have HF : Hid (CutSt w6 w4.heap.size (.slice aV L.length cV) _ (cutL (ss.take (k + 1))) _) := hid0 (by rw [HK3'.out, HK5.out false (by simpa using hmh)]; exact HCB.out)
            clear HCX HCB HT1 HT2 HB9 HBr9 HCT HXN HBC HK4' HK3' HK5 HML HMB HML2 HMB2 HRB HTT HTT0
            go_roundw
            case rel => exact ⟨k + 1, _, by omega, by rw [HK2'.out], by go_num, hid0 HF.out.row, hid0 HF.out.own, hid0 HF.out.only⟩
            case measure => simp [intOf]; omega
      · obtain rfl : k = ss.length := by omega
        have htk : ss.take ss.length = ss := List.take_length
        have HO' : Hid (OwnP wr w6.heap.size (.slice aC (cutL (ss.take ss.length)).length cC) (cutL ss)) := hid0 (by have h := HO.out; rw [htk] at h ⊢; exact h)
        have hXl : (cutL ss).length ≤ 131072 := by have := cutL_len ss; omega
        have HXL := hid0 hXl
        rw [htk] at xc HX HO
        have lb3' : ∀ s ∈ ss, s.2.1 ≤ lastH ss ss.length := fun s hs => lb3 s (by rw [htk]; exact hs)
        have HLZ : Hid (cls ss (lastH ss ss.length + 1) = 0) := hid0 (cls_gap HR.out (k := ss.length) (fun s hs => by have := lb3 s hs; omega) (fun q => by omega))
        have HMZ : Hid (cls ss 1114112 = 0) := hid0 (cls_out HR.out 1114112 (.inr (by omega)))
        have hvl : IntKind.i64.wrap (lastH ss ss.length + 1) = lastH ss ss.length + 1 := by simp [IntKind.wrap, IntKind.bits, IntKind.signed]; omega
        have xn : wr.cell? ⟨w4.heap.size, 0, none⟩ = some (.slice aV L.length cV) := by rw [cell_of_row _ _ _ _ _ _ HX.out]; rfl
        clear htk lb3 lb4 lb3' HO'
        by_cases hlong : (65536 : Int) < ((cutL ss).length : Int)
        · have HBE : Hid (Below w.heap.size w wr) := hid0 (Below.later HB0.out (Below.later HB4.out hb4))
          go_wp2
          go_ret
          exact ⟨rfl, HBE.out⟩
        · have hNV : OwnS wr (w4.heap.size + 1) (.slice aV L.length cV) L := World.ownsRow.kept HO6.out (row := some w4.heap.size) ⟨HY.out.os, HY.out.tape, HY.out.output, HY.out.size, fun k hk hne => HY.out.block k hk (fun e => hne (by rw [e]))⟩ (.inr (fun e => by have := (World.ownsRow.lt HO6.out _ e).1; omega))
          obtain ⟨aV', cV', eV, sV, _, lV⟩ := hNV.sa
          cases eV
          obtain ⟨aC', cC', eC, pC, bC, lC⟩ := HO.out.pa
          cases eC
          have HNW2 : Hid (Calls Tryd.prog 7 #[.agg #[.slice aV L.length cV, .slice aC (cutL ss).length cC]] wr fun e w' => ∃ T2 c2 vN2 vB2, e = .returned (.tuple #[.pointer (some ⟨T2, 0, none⟩), .nilIface]) ∧ TabAt w' wr.heap.size T2 (otherB :: L) (cutL ss) c2 vN2 vB2 ∧ Below wr.heap.size wr w') := hid0 ((new_any A L (cutL ss) aV aC cV cC wr lV hcN lC (by omega) HZ.out sV pC bC (HE.out.later (Below.later HB4.out hb4))).mono (fun e w' h => by
            rcases h with ⟨j, h1, _⟩ | ⟨_, T2, c2, vN2, vB2, h2, h3, h4⟩
            · rw [propF_cut HPF.out (by omega)] at h1; cases h1
            · exact ⟨T2, c2, vN2, vB2, h2, h3, h4⟩))
          have HBwr : Hid (Below w0.heap.size w0 wr) := hid0 (Below.later HB4.out hb4)
          clear hNV sV pC bC lV lC HO HX
          have M1 : Hid True := trivial
          go_wp2_with (first | (clear M1; go_at_call 7; refine HNW2.out.mono ?_; rintro e w10 ⟨T2, c2, vN2, vB2, rfl, ht2, hb10⟩; have HT2 := hid0 ht2; have HB10 := hid0 hb10; clear ht2 hb10 HNW2) | fail)
          have HT10 : Hid (TabAt w10 w1.heap.size T (otherB :: L) ss c vN vB) := hid0 ((HT4.out.below HB4r.out).below HB10.out)
          have HBw10 : Hid (Below w0.heap.size w0 w10) := hid0 (Below.later HBwr.out HB10.out)
          have HSZ2 : Hid (∀ W Tx, (Tx = T ∨ Tx = T2) → Below w10.heap.size w10 W → Calls Tryd.prog 9 #[.pointer (some ⟨Tx, 0, none⟩)] W fun e w' => e = .returned (.int .i64 (nz : Int)) ∧ w' = W) := hid0 (fun W Tx hx hW => by
            rcases hx with rfl | rfl
            · exact (size_any W w1.heap.size _ _ ss c vN vB (HT10.out.below hW)).mono (fun e w' h => ⟨by rw [h.1, HNZ.out], h.2⟩)
            · exact (size_any W wr.heap.size _ _ (cutL ss) c2 vN2 vB2 (HT2.out.below hW)).mono (fun e w' h => ⟨by rw [h.1, HNZ.out, size_cut HR.out], h.2⟩))
          have HCC : Hid (∀ W Tx p, (Tx = T ∨ Tx = T2) → Below w10.heap.size w10 W → Calls Tryd.prog 10 #[.pointer (some ⟨Tx, 0, none⟩), .int .i64 p] W fun e w' => e = .returned (.int .i64 (cls ss p)) ∧ Below w10.heap.size w10 w') := hid0 (fun W Tx p hx hW => by
            rcases hx with rfl | rfl
            · exact (class_any L.length W w1.heap.size _ _ ss c vN vB p HR.out (by omega) (by omega) (HT10.out.below hW)).mono (fun e w' h => ⟨h.1, Below.later hW h.2⟩)
            · exact (class_any L.length W wr.heap.size _ _ (cutL ss) c2 vN2 vB2 p (cut_rise HR.out).1 (by omega) (by omega) (HT2.out.below hW)).mono (fun e w' h => ⟨by rw [h.1, cut_cls HR.out], Below.later hW h.2⟩))
          have HBs : Hid (Below w10.heap.size w10 w10) := hid0 (Below.refl _ _)
          have hnn : ((nz : Int) == (nz : Int)) = true := by simp
          go_wp2_with (first | (go_at_call 9; refine (HSZ2.out _ _ (by first | exact .inl rfl | exact .inr rfl) HBs.out).mono ?_; rintro e w11 ⟨rfl, hw11⟩; have hw12 := hw11.symm; subst hw12) | fail)
          go_loopw [15] (fun v wq => ∃ i : Nat, i ≤ pts.length ∧ v = .int .i64 (i : Int) ∧ Hid (Below w10.heap.size w10 wq)) (fun v _ => pts.length - (intOf v).toNat)
          case atStart => exact ⟨0, Nat.zero_le _, rfl, HBs⟩
          case round =>
            obtain ⟨i, hi2, rfl, HBq⟩ := hrel
            obtain ⟨z0, z1, z2⟩ := HXW.out wr (Below.later HBw10.out HBq.out)
            have HBE : Hid (∀ W, Below w10.heap.size w10 W → Below w.heap.size w W) := hid0 (fun W hW => Below.later HB0.out (Below.later HBw10.out hW))
            by_cases hlt2 : i < pts.length
            · obtain ⟨bp, op, rfl, hbp, dp⟩ := (HIA.out.later (Below.later HBw10.out HBq.out)).at' i hlt2
              have hiI : (i : Int) < (pts.length : Int) := by omega
              have hiI0 : (0 : Int) ≤ (i : Int) := by omega
              generalize pts[i] = pp at dp
              have HSo2 : Hid (∀ W, Below wr.heap.size wr W → W.cell? ⟨w.heap.size, 2, none⟩ = some (.slice (some ⟨bp, op, none⟩) pts.length cP) ∧ W.cell? ⟨bp, op + i, none⟩ = some (.int .i64 pp) ∧ Below wr.heap.size wr W) := hid0 (fun W hW => ⟨(hW.cell (World.block_lt_of_cell? _ _ z2)).trans z2, (hW.cell (World.block_lt_of_cell? _ _ dp)).trans dp, hW⟩)
              have HCC2 : Hid (∀ W Tx p, (Tx = T ∨ Tx = T2) → Below wr.heap.size wr W → Calls Tryd.prog 10 #[.pointer (some ⟨Tx, 0, none⟩), .int .i64 p] W fun e w' => e = .returned (.int .i64 (cls ss p)) ∧ Below wr.heap.size wr w') := hid0 (fun W Tx p hx hW => by
                rcases hx with rfl | rfl
                · exact (class_any L.length W w1.heap.size _ _ ss c vN vB p HR.out (by omega) (by omega) ((HT10.out.below HBq.out).below hW)).mono (fun e w' h => ⟨h.1, Below.later hW h.2⟩)
                · exact (class_any L.length W _ _ _ (cutL ss) c2 vN2 vB2 p (cut_rise HR.out).1 (by omega) (by omega) ((HT2.out.below HBq.out).below hW)).mono (fun e w' h => ⟨by rw [h.1, cut_cls HR.out], Below.later hW h.2⟩))
              have hBrr := Below.refl wr.heap.size wr
              have HNXT : Hid (∀ W, Below wr.heap.size wr W → Below w10.heap.size w10 W) := hid0 (fun W hW => Below.later HBq.out hW)
              generalize hcp : cls ss pp = cp
              have HCP := hid0 hcp
              clear hcp
              go_wp2
              go_region_held3 (fun W => W.cell? ⟨w.heap.size, 2, none⟩ = some (.slice (some ⟨bp, op, none⟩) pts.length cP) ∧ W.cell? ⟨bp, op + i, none⟩ = some (.int .i64 pp) ∧ Below wr.heap.size wr W) (first | exact HSo2.out _ (by go_grown) | (go_split_ands; exact HSo2.out _ (by go_grown)))
                (first | (go_at_call 10; go_split_ands; refine (HCC2.out _ _ _ (by first | exact .inl rfl | exact .inr rfl) (by go_grown)).mono ?_; rintro e w12 ⟨rfl, hb12⟩))
              all_goals
                go_wp2
                go_roundw
                case rel => exact ⟨i + 1, by omega, by go_num, hid0 (HNXT.out _ (by assumption))⟩
                case measure => simp [intOf]; omega
            · have hiI : ¬ (i : Int) < (pts.length : Int) := by omega
              have qz := HMZ.out
              have M1 : Hid True := trivial
              by_cases hl : lastH ss ss.length = 1114111
              · go_wp2_with (first | (clear M1; go_at_call 10; refine (HCC.out _ _ _ (.inl rfl) HBq.out).mono ?_; rintro e w12 ⟨rfl, h12⟩; have HB12 := hid0 h12; clear h12) | fail)
                go_ret
                exact ⟨rfl, HBE.out _ HB12.out⟩
              · have hl' : (lastH ss ss.length == 1114111) = false := by simpa using hl
                have qz2 := HLZ.out
                clear hl
                go_wp2_with (first
                  | (clear M1; go_at_call 10; refine (HCC.out _ _ _ (.inl rfl) HBq.out).mono ?_; rintro e w12 ⟨rfl, h12⟩; have HB12 := hid0 h12; clear h12; have M2 : Hid True := trivial)
                  | (clear M2; go_at_call 10; refine (HCC.out _ _ _ (.inl rfl) HB12.out).mono ?_; rintro e w13 ⟨rfl, h13⟩; have HB13 := hid0 h13; clear h13))
                go_ret
                exact ⟨rfl, HBE.out _ HB13.out⟩
end Go.Proofs.YtgmicmepcmmcaaaDoor
