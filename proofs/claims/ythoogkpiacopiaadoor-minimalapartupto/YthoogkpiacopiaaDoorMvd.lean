/-
  MiOW, MiOXW, MiTM.
-/
import Derived.Test.YthoogkpiacopiaaDoorMvc
namespace Go.Proofs.YthoogkpiacopiaaDoor
open Go.RowKit Go.Shelf
/-- What the document's Apart leaves. -/
def RfR (w : World) (res : Option (Option (List Nat))) (e : Ending) (w' : World) : Prop := ∃ v, e = .returned (.tuple #[v, .bool (apB res), .int .i64 (apE res)]) ∧ OwnI w' w.heap.size v (apW res) ∧ Below w.heap.size w w'
/-- The pairs, the queue. -/
structure Rfq (T : Two) (na nb B : Nat) (w0 W : World) (v : Value) (l : List Mt) (Wd : Nat → List Nat) (i c : Nat) : Prop where
  own : RfA W B v l
  que : Que T l Wd i c
  dif : Dif na nb l
  bel : Below B w0 W
theorem Rfq.past {T : Two} {na nb B : Nat} {w0 W W' : World} {v : Value} {l : List Mt} {Wd : Nat → List Nat} {i c : Nat} (h : Rfq T na nb B w0 W v l Wd i c) (hB : B = w0.heap.size) (hb : Below W.heap.size W W') : Rfq T na nb B w0 W' v l Wd i c :=
  ⟨h.own.past hb, h.que, h.dif, h.bel.trans (hb.mono (by rw [hB]; exact h.bel.size))⟩
set_option maxRecDepth 10000 in
set_option maxHeartbeats 4000000 in
theorem refApart_good (m sa sb : Nat) (N O N' O' : List (List Int)) (aN aO aM aP : Option Addr) (cN cO cM cP : Nat) (w : World) (hs : Sml N O) (hs' : Sml N' O') (hpr : N.length * N'.length ≤ 1000000000000) (ha : MaA w aN aO N O) (hb : MaA w aM aP N' O') (r : Option (List Nat)) (h1 : mayF (sa : Int) N O (m : Int) = true) (h2 : mayF (sb : Int) N' O' (m : Int) = true) (h3 : May (sa : Int) N O m) (h4 : May (sb : Int) N' O' m) (hr : ApA (twoF m (sa : Int) (sb : Int) N O N' O') r) :
    Calls Tryd.prog 8 #[.agg #[.int .i64 (sa : Int), .slice aN N.length cN, .slice aO O.length cO], .agg #[.int .i64 (sb : Int), .slice aM N'.length cM, .slice aP O'.length cP], .int .i64 (m : Int)] w fun e w' => RfR w (some r) e w' := by
  obtain ⟨i0, hi, hz0, hz1, hz2⟩ := info_parts infoTwo
  obtain ⟨w0, hw0, hB0, hsz0, hA0, hM0⟩ := two_boxes w #[.int .i64 (sa : Int), .slice aN N.length cN, .slice aO O.length cO] #[.int .i64 (sb : Int), .slice aM N'.length cM, .slice aP O'.length cP] 24
  have HCl : Hid (∀ V : World, Below w0.heap.size w0 V → (V.cell? ⟨w.heap.size, 0, none⟩ = some (.int .i64 (sa : Int)) ∧ V.cell? ⟨w.heap.size, 1, none⟩ = some (.slice aN N.length cN) ∧ V.cell? ⟨w.heap.size, 2, none⟩ = some (.slice aO O.length cO)) ∧ (V.cell? ⟨w.heap.size + 1, 0, none⟩ = some (.int .i64 (sb : Int)) ∧ V.cell? ⟨w.heap.size + 1, 1, none⟩ = some (.slice aM N'.length cM) ∧ V.cell? ⟨w.heap.size + 1, 2, none⟩ = some (.slice aP O'.length cP))) := hid0 (fun V hV => ⟨row3c ((hV.block _ (by omega)).trans hA0), row3c ((hV.block _ (by omega)).trans hM0)⟩)
  have HAl : Hid (∀ V : World, Below w0.heap.size w0 V → MaA V aN aO N O ∧ MaA V aM aP N' O' ∧ Below w.heap.size w V) := hid0 (fun V hV => by
    have h := hB0.trans (hV.mono (by omega))
    exact ⟨ha.past h, hb.past h, h⟩)
  obtain ⟨⟨x0, x1, x2⟩, ⟨x3, x4, x5⟩⟩ := HCl.out w0 (Below.refl _ _)
  have HM1 := hid0 (refMayBe_any (sa : Int) (m : Int) N O aN aO cN cO w0 (by have := hs.n; omega) (fun r hr => by have := hs.nr r hr; omega) (fun r hr => by have := hs.or r hr; omega) (HAl.out w0 (Below.refl _ _)).1.n (HAl.out w0 (Below.refl _ _)).1.o)
  have HM2 : Hid (∀ V : World, Below w0.heap.size w0 V → Calls Tryd.prog 35 #[.agg #[.int .i64 (sb : Int), .slice aM N'.length cM, .slice aP O'.length cP], .int .i64 (m : Int)] V fun e w' => e = .returned (.bool (mayF (sb : Int) N' O' (m : Int))) ∧ Below V.heap.size V w') := hid0 (fun V hV => refMayBe_any (sb : Int) (m : Int) N' O' aM aP cM cP V (by have := hs'.n; omega) (fun r hr => by have := hs'.nr r hr; omega) (fun r hr => by have := hs'.or r hr; omega) (HAl.out V hV).2.1.n (HAl.out V hV).2.1.o)
  rw [h1] at HM1
  rw [h2] at HM2
  clear h1 h2 hB0 hA0 hM0 ha hb
  have HZ0 := hid0 hsz0
  have hsa : sa < N.length := by have := h3.start; omega
  have hsb : sb < N'.length := by have := h4.start; omega
  have HOa := hid0 h3.out
  have HOb := hid0 h4.out
  have HMa := hid0 h3
  have HMb := hid0 h4
  have HOr := hid0 hs.or
  have hm64 : m ≤ 100000000000 := by
    have h7 := h3.row _ (List.getElem_mem hsa)
    have h8 := hs.nr _ (List.getElem_mem hsa)
    omega
  obtain ⟨T, hT⟩ : ∃ T, T = twoF m (sa : Int) (sb : Int) N O N' O' := ⟨_, rfl⟩
  have HT := hid0 hT
  have HTm : Hid (T.m = m) := hid0 (by rw [hT]; rfl)
  have HTf : Hid (T.fa = nxF N ∧ T.fb = nxF N') := hid0 (by rw [hT]; exact ⟨rfl, rfl⟩)
  have HTs : Hid (T.sa = sa ∧ T.sb = sb) := hid0 (by rw [hT]; exact ⟨Int.toNat_natCast sa, Int.toNat_natCast sb⟩)
  rw [← hT] at hr
  have HR := hid0 hr
  clear hT hr h3 h4 hs hs' hsz0
  go_enter Tryd.func8, Tryd.ntmps8
  go_wp2_with (first
    | (go_at_call 35; have hq := HB1.out; refine (HM2.out _ hq).mono ?_; rintro e w2 ⟨rfl, hb2⟩; have HB2 : Hid (Below w0.heap.size w0 w2) := hid0 (hq.trans (hb2.mono hq.size)); obtain ⟨⟨z0, z1, z2⟩, ⟨z3, z4, z5⟩⟩ := HCl.out w2 HB2.out; clear hb2 hq)
    | (go_at_call 35; refine HM1.out.mono ?_; rintro e w1 ⟨rfl, hb1⟩; have HB1 := hid0 hb1; obtain ⟨_, ⟨y3, y4, y5⟩⟩ := HCl.out w1 hb1; clear hb1 HM1))
  have HQ0 : Hid (Rfq T N.length N'.length w2.heap.size w2 (w2.alloc (.cells #[.int .i64 (sa : Int), .int .i64 (sb : Int), .int .i64 (-1), .int .i64 0] 71)) (.slice (some ⟨w2.heap.size, 0, none⟩) 1 1) [⟨T.sa, T.sb, 0, 0⟩] (fun _ => []) 0 0) := hid0 (by
    refine ⟨?_, Que.start T 0 0, ⟨fun k hk => ?_, by simp⟩, (Below.refl _ _).alloc (Nat.le_refl _) _⟩
    · rw [HTs.out.1, HTs.out.2]
      exact ⟨rfl, .inr ⟨w2.heap.size, 1, _, rfl, Nat.le_refl _, heap_alloc_new w2 _, Nat.le_refl _, by decide, rfl, rfl⟩⟩
    · have : k = 0 := by simp at hk; omega
      subst this
      rw [HTs.out.1, HTs.out.2]
      exact ⟨hsa, hsb⟩)
  clear z0 z1 z2 z3 z4 z5 y3 y4 y5 x0 x1 x2 x3 x4 x5 HM2 hw0
  go_loopw [11, 12] (fun v i wr => ∃ (k : Nat) (l : List Mt) (Wd : Nat → List Nat), k ≤ l.length ∧ i = .int .i64 (k : Int) ∧ Hid (Rfq T N.length N'.length w2.heap.size w2 wr v l Wd k 0)) (fun _ i _ => N.length * N'.length + 1 - (intOf i).toNat)
  case atStart => exact ⟨0, _, _, Nat.zero_le _, rfl, HQ0⟩
  case round =>
    clear HQ0
    obtain ⟨wo, hwo⟩ : ∃ wo, wo = wr := ⟨_, rfl⟩
    subst hwo
    obtain ⟨i, l, Wd, hil0, rfl, HQ⟩ := hrel
    have hiI0 : (0 : Int) ≤ (i : Int) := by omega
    obtain ⟨av, cv, rfl, htw, hform⟩ := HQ.out.own.form
    have HTw := hid0 htw
    have hlen := HQ.out.dif.len
    have hb2w : Below w0.heap.size w0 wo := HB2.out.trans (HQ.out.bel.mono HB2.out.size)
    have HBw := hid0 hb2w
    obtain ⟨⟨x0, x1, x2⟩, ⟨x3, x4, x5⟩⟩ := HCl.out wo hb2w
    by_cases hil : i < l.length
    · have hilI : (i : Int) < (l.length : Int) := by omega
      obtain ⟨g, rfl, d0, d1⟩ := hform i hil
      obtain ⟨hxa, hxb⟩ := HQ.out.dif.inm i hil
      obtain ⟨xa, exa⟩ : ∃ xa, xa = (l.getD i default).a := ⟨_, rfl⟩
      obtain ⟨xb, exb⟩ : ∃ xb, xb = (l.getD i default).b := ⟨_, rfl⟩
      have HXa := hid0 exa
      have HXb := hid0 exb
      rw [← exa] at d0 hxa
      rw [← exb] at d1 hxb
      have hxO : xa < O.length := by have := HOa.out; omega
      have hxP : xb < O'.length := by have := HOb.out; omega
      obtain ⟨bO, oO, rfl, _, a1, c1, e1, ia1⟩ := (HAl.out wo hb2w).1.o.at' xa hxO
      obtain ⟨bP, oP, rfl, _, a2, c2, e2, ia2⟩ := (HAl.out wo hb2w).2.1.o.at' xb hxP
      obtain ⟨ra, hra⟩ : ∃ ra, ra = O[xa] := ⟨_, rfl⟩
      obtain ⟨rb, hrb⟩ : ∃ rb, rb = O'[xb] := ⟨_, rfl⟩
      rw [← hra] at e1 ia1
      rw [← hrb] at e2 ia2
      have hral : ra.length ≤ 17592186044000 := by have := HOr.out ra (by rw [hra]; exact List.getElem_mem _); omega
      have HS9 : Hid (∀ V : World, Below wo.heap.size wo V → V.cell? ⟨w.heap.size, 2, none⟩ = some (.slice (some ⟨bO, oO, none⟩) O.length cO) ∧ V.cell? ⟨w.heap.size + 1, 2, none⟩ = some (.slice (some ⟨bP, oP, none⟩) O'.length cP) ∧ V.cell? ⟨g, i * 4, none⟩ = some (.int .i64 (xa : Int)) ∧ V.cell? ⟨g, i * 4 + 1, none⟩ = some (.int .i64 (xb : Int)) ∧ V.cell? ⟨bO, oO + xa, none⟩ = some (.slice a1 ra.length c1) ∧ V.cell? ⟨bP, oP + xb, none⟩ = some (.slice a2 rb.length c2)) := hid0 (fun V hV => by
        have k : ∀ {b o : Nat} {u : Value}, wo.cell? ⟨b, o, none⟩ = some u → V.cell? ⟨b, o, none⟩ = some u := fun {b o u} q => (hV.cell (p := ⟨b, o, none⟩) (World.block_lt_of_cell? _ _ q)).trans q
        exact ⟨k x2, k x5, k d0, k d1, k e1, k e2⟩)
      have HEq0 : Hid (∀ V : World, Below wo.heap.size wo V → Calls Tryd.prog 9 #[.slice a1 ra.length c1, .slice a2 rb.length c2] V fun e w' => e = .returned (.bool (decide (ra = rb))) ∧ ∃ n, w' = V.drewN n) := hid0 (fun V hV => sameInts_any ra rb a1 a2 c1 c2 V hral (ia1.past hV) (ia2.past hV))
      have hxOI : (xa : Int) < (O.length : Int) := by omega
      have hxPI : (xb : Int) < (O'.length : Int) := by omega
      have hxNI : (xa : Int) < (N.length : Int) := by omega
      have hxMI : (xb : Int) < (N'.length : Int) := by omega
      have hxa0 : (0 : Int) ≤ (xa : Int) := by omega
      have hxb0 : (0 : Int) ≤ (xb : Int) := by omega
      have HTa : Hid (T.ta (l.getD i default).a = ra) := hid0 (by rw [← HXa.out, HT.out, hra]; exact getD_at hxO)
      have HTb : Hid (T.tb (l.getD i default).b = rb) := hid0 (by rw [← HXb.out, HT.out, hrb]; exact getD_at hxP)
      clear hform exa exb hra hrb ia1 ia2 hb2w htw
      by_cases hab : ra = rb
      · have HEq : Hid (∀ V : World, Below wo.heap.size wo V → Calls Tryd.prog 9 #[.slice a1 ra.length c1, .slice a2 rb.length c2] V fun e w' => e = .returned (.bool true) ∧ ∃ n, w' = V.drewN n) := hid0 (fun V hV => by have h := HEq0.out V hV; rw [decide_eq_true hab] at h; exact h)
        have HAb := hid0 hab
        clear HEq0 hab
        go_wp2
        refine wp_region_noPanic ?_
        refine wp_region_held_drew (S := (fun V => V.cell? ⟨w.heap.size, 2, none⟩ = some (.slice (some ⟨bO, oO, none⟩) O.length cO) ∧ V.cell? ⟨w.heap.size + 1, 2, none⟩ = some (.slice (some ⟨bP, oP, none⟩) O'.length cP) ∧ V.cell? ⟨g, i * 4, none⟩ = some (.int .i64 (xa : Int)) ∧ V.cell? ⟨g, i * 4 + 1, none⟩ = some (.int .i64 (xb : Int)) ∧ V.cell? ⟨bO, oO + xa, none⟩ = some (.slice a1 ra.length c1) ∧ V.cell? ⟨bP, oP + xb, none⟩ = some (.slice a2 rb.length c2))) (by kernel_rfl) ?_ (fun hHeld => ?_)
        · exact HS9.out _ ⟨rfl, rfl, rfl, Nat.le_refl _, fun _ _ => rfl⟩
        refine tkV (i := 0) (d := some 42) (v := ?_) rfl (by kernel_rfl) (by kernel_rfl) (by kernel_rfl) rfl (fun _ _ _ h => h) (by rfl) ?_ (by assumption) ?_
        rotate_left
        · (intro w hSw; (try dsimp only at hSw); (try simp only [List.getElem_toArray, List.getElem_cons_zero]); go_simp; try with_reducible rfl)
        try simp only [Act.put, List.setIfInBounds_toArray, List.set_cons_zero, List.set_cons_succ]
        refine tkV (i := 1) (d := some 43) (v := ?_) rfl (by kernel_rfl) (by kernel_rfl) (by kernel_rfl) rfl (fun _ _ _ h => h) (by rfl) ?_ (by assumption) ?_
        rotate_left
        · (intro w hSw; (try dsimp only at hSw); (try simp only [List.getElem_toArray, List.getElem_cons_zero, List.getElem_cons_succ]); go_simp; try with_reducible rfl)
        try simp only [Act.put, List.setIfInBounds_toArray, List.set_cons_zero, List.set_cons_succ]
        refine tkV (i := 2) (d := some 44) (v := ?_) rfl (by kernel_rfl) (by kernel_rfl) (by kernel_rfl) rfl (fun _ _ _ h => h) (by rfl) ?_ (by assumption) ?_
        rotate_left
        · (intro w hSw; (try dsimp only at hSw); (try simp only [List.getElem_toArray, List.getElem_cons_zero, List.getElem_cons_succ]); go_simp; try with_reducible rfl)
        try simp only [Act.put, List.setIfInBounds_toArray, List.set_cons_zero, List.set_cons_succ]
        refine tkV (i := 3) (d := some 45) (v := ?_) rfl (by kernel_rfl) (by kernel_rfl) (by kernel_rfl) rfl (fun _ _ _ h => h) (by rfl) ?_ (by assumption) ?_
        rotate_left
        · (intro w hSw; (try dsimp only at hSw); (try simp only [List.getElem_toArray, List.getElem_cons_zero, List.getElem_cons_succ]); go_simp; try with_reducible rfl)
        try simp only [Act.put, List.setIfInBounds_toArray, List.set_cons_zero, List.set_cons_succ]
        refine tkV (i := 4) (d := some 46) (v := ?_) rfl (by kernel_rfl) (by kernel_rfl) (by kernel_rfl) rfl (fun _ _ _ h => h) (by rfl) ?_ (by assumption) ?_
        rotate_left
        · (intro w hSw; (try dsimp only at hSw); (try simp only [List.getElem_toArray, List.getElem_cons_zero, List.getElem_cons_succ]); go_simp; try with_reducible rfl)
        try simp only [Act.put, List.setIfInBounds_toArray, List.set_cons_zero, List.set_cons_succ]
        refine tkV (i := 5) (d := some 47) (v := ?_) rfl (by kernel_rfl) (by kernel_rfl) (by kernel_rfl) rfl (fun _ _ _ h => h) (by rfl) ?_ (by assumption) ?_
        rotate_left
        · (intro w hSw; (try dsimp only at hSw); (try simp only [List.getElem_toArray, List.getElem_cons_zero, List.getElem_cons_succ]); go_simp; try with_reducible rfl)
        try simp only [Act.put, List.setIfInBounds_toArray, List.set_cons_zero, List.set_cons_succ]
        refine tkV (i := 6) (d := some 48) (v := ?_) rfl (by kernel_rfl) (by kernel_rfl) (by kernel_rfl) rfl (fun _ _ _ h => h) (by rfl) ?_ (by assumption) ?_
        rotate_left
        · (intro w hSw; (try dsimp only at hSw); (try simp only [List.getElem_toArray, List.getElem_cons_zero, List.getElem_cons_succ]); go_simp; try with_reducible rfl)
        try simp only [Act.put, List.setIfInBounds_toArray, List.set_cons_zero, List.set_cons_succ]
        refine tkV (i := 7) (d := some 49) (v := ?_) rfl (by kernel_rfl) (by kernel_rfl) (by kernel_rfl) rfl (fun _ _ _ h => h) (by rfl) ?_ (by assumption) ?_
        rotate_left
        · (intro w hSw; (try dsimp only at hSw); (try simp only [List.getElem_toArray, List.getElem_cons_zero, List.getElem_cons_succ]); go_simp; try with_reducible rfl)
        try simp only [Act.put, List.setIfInBounds_toArray, List.set_cons_zero, List.set_cons_succ]
        refine tkV (i := 8) (d := some 50) (v := ?_) rfl (by kernel_rfl) (by kernel_rfl) (by kernel_rfl) rfl (fun _ _ _ h => h) (by rfl) ?_ (by assumption) ?_
        rotate_left
        · (intro w hSw; (try dsimp only at hSw); (try simp only [List.getElem_toArray, List.getElem_cons_zero, List.getElem_cons_succ]); go_simp; try with_reducible rfl)
        try simp only [Act.put, List.setIfInBounds_toArray, List.set_cons_zero, List.set_cons_succ]
        refine tkV (i := 9) (d := some 51) (v := ?_) rfl (by kernel_rfl) (by kernel_rfl) (by kernel_rfl) rfl (fun _ _ _ h => h) (by rfl) ?_ (by assumption) ?_
        rotate_left
        · (intro w hSw; (try dsimp only at hSw); (try simp only [List.getElem_toArray, List.getElem_cons_zero, List.getElem_cons_succ]); go_simp; try with_reducible rfl)
        try simp only [Act.put, List.setIfInBounds_toArray, List.set_cons_zero, List.set_cons_succ]
        refine tkV (i := 10) (d := some 52) (v := ?_) rfl (by kernel_rfl) (by kernel_rfl) (by kernel_rfl) rfl (fun _ _ _ h => h) (by rfl) ?_ (by assumption) ?_
        rotate_left
        · (intro w hSw; (try dsimp only at hSw); (try simp only [List.getElem_toArray, List.getElem_cons_zero, List.getElem_cons_succ]); go_simp; try with_reducible rfl)
        try simp only [Act.put, List.setIfInBounds_toArray, List.set_cons_zero, List.set_cons_succ]
        refine tkV (i := 11) (d := some 53) (v := ?_) rfl (by kernel_rfl) (by kernel_rfl) (by kernel_rfl) rfl (fun _ _ _ h => h) (by rfl) ?_ (by assumption) ?_
        rotate_left
        · (intro w hSw; (try dsimp only at hSw); (try simp only [List.getElem_toArray, List.getElem_cons_zero, List.getElem_cons_succ]); go_simp; try with_reducible rfl)
        try simp only [Act.put, List.setIfInBounds_toArray, List.set_cons_zero, List.set_cons_succ]
        refine tkV (i := 12) (d := some 54) (v := ?_) rfl (by kernel_rfl) (by kernel_rfl) (by kernel_rfl) rfl (fun _ _ _ h => h) (by rfl) ?_ (by assumption) ?_
        rotate_left
        · (intro w hSw; (try dsimp only at hSw); (try simp only [List.getElem_toArray, List.getElem_cons_zero, List.getElem_cons_succ]); go_simp; try with_reducible rfl)
        try simp only [Act.put, List.setIfInBounds_toArray, List.set_cons_zero, List.set_cons_succ]
        refine tkV (i := 13) (d := some 55) (v := ?_) rfl (by kernel_rfl) (by kernel_rfl) (by kernel_rfl) rfl (fun _ _ _ h => h) (by rfl) ?_ (by assumption) ?_
        rotate_left
        · (intro w hSw; (try dsimp only at hSw); (try simp only [List.getElem_toArray, List.getElem_cons_zero, List.getElem_cons_succ]); go_simp; try with_reducible rfl)
        try simp only [Act.put, List.setIfInBounds_toArray, List.set_cons_zero, List.set_cons_succ]
        refine tkV (i := 14) (d := some 56) (v := ?_) rfl (by kernel_rfl) (by kernel_rfl) (by kernel_rfl) rfl (fun _ _ _ h => h) (by rfl) ?_ (by assumption) ?_
        rotate_left
        · (intro w hSw; (try dsimp only at hSw); (try simp only [List.getElem_toArray, List.getElem_cons_zero, List.getElem_cons_succ]); go_simp; try with_reducible rfl)
        try simp only [Act.put, List.setIfInBounds_toArray, List.set_cons_zero, List.set_cons_succ]
        refine tkV (i := 15) (d := some 57) (v := ?_) rfl (by kernel_rfl) (by kernel_rfl) (by kernel_rfl) rfl (fun _ _ _ h => h) (by rfl) ?_ (by assumption) ?_
        rotate_left
        · (intro w hSw; (try dsimp only at hSw); (try simp only [List.getElem_toArray, List.getElem_cons_zero, List.getElem_cons_succ]); go_simp; try with_reducible rfl)
        try simp only [Act.put, List.setIfInBounds_toArray, List.set_cons_zero, List.set_cons_succ]
        refine tkV (i := 16) (d := some 58) (v := ?_) rfl (by kernel_rfl) (by kernel_rfl) (by kernel_rfl) rfl (fun _ _ _ h => h) (by rfl) ?_ (by assumption) ?_
        rotate_left
        · (intro w hSw; (try dsimp only at hSw); (try simp only [List.getElem_toArray, List.getElem_cons_zero, List.getElem_cons_succ]); go_simp; try with_reducible rfl)
        try simp only [Act.put, List.setIfInBounds_toArray, List.set_cons_zero, List.set_cons_succ]
        refine tkV (i := 17) (d := some 59) (v := ?_) rfl (by kernel_rfl) (by kernel_rfl) (by kernel_rfl) rfl (fun _ _ _ h => h) (by rfl) ?_ (by assumption) ?_
        rotate_left
        · (intro w hSw; (try dsimp only at hSw); (try simp only [List.getElem_toArray, List.getElem_cons_zero, List.getElem_cons_succ]); go_simp; try with_reducible rfl)
        try simp only [Act.put, List.setIfInBounds_toArray, List.set_cons_zero, List.set_cons_succ]
        refine wpAnyH_ready (rs := [18]) (by kernel_rfl) (by simp) (AllReadyH.cons rfl (fun K hK => ?_) AllReadyH.nil)
        try simp only [List.getElem_toArray, List.getElem_cons_zero, List.getElem_cons_succ]
        go_simp
        refine (HEq.out wo.drew ⟨rfl, rfl, rfl, Nat.le_refl _, fun _ _ => rfl⟩).mono ?_
        rintro e w5 ⟨rfl, nq, hw5⟩
        have HS5 := hid0 (HS9.out w5 (by rw [hw5]; exact ⟨rfl, rfl, rfl, Nat.le_refl _, fun _ _ => rfl⟩))
        have HB5 : Hid (Below wo.heap.size wo w5) := hid0 (by rw [hw5]; exact ⟨rfl, rfl, rfl, Nat.le_refl _, fun _ _ => rfl⟩)
        clear hw5
        go_wp2_with fail
        refine hK.out _ _ ?_ (fun hHeld18 => ?_)
        · exact HS5.out
        clear hK K
        (try simp only [Act.put]); (try simp only [List.setIfInBounds_toArray]); (try simp only [List.set_cons_succ]); (try simp only [List.set_cons_zero])
        refine tkV (i := 19) (d := some 13) (v := ?_) rfl (by kernel_rfl) (by kernel_rfl) (by kernel_rfl) rfl (fun _ _ _ h => h) (by rfl) ?_ (by assumption) ?_
        rotate_left
        · (intro w hSw; (try dsimp only at hSw); (try simp only [List.getElem_toArray, List.getElem_cons_zero, List.getElem_cons_succ]); go_simp; try with_reducible rfl)
        try simp only [Act.put, List.setIfInBounds_toArray, List.set_cons_zero, List.set_cons_succ]
        refine wpAnyH_done (by kernel_rfl) ?_ _
        refine NoPanic.normal ?_
        have HQ5 := hid0 (HQ.out.past rfl HB5.out)
        clear hHeld hHeld18 HS5 HS9 HEq HTw HQ d0 d1 x0 x1 x2 x3 x4 x5
        go_wp2
        go_loopw [11, 14] (fun v k wr => ∃ (c : Nat) (l2 : List Mt) (Wd2 : Nat → List Nat), c ≤ m ∧ k = .int .i64 (c : Int) ∧ Hid (Rfq T N.length N'.length w2.heap.size w2 wr v l2 Wd2 i c) ∧ Hid (i < l2.length) ∧ Hid (l2.getD i default = l.getD i default)) (fun _ k _ => m - (intOf k).toNat)
        case atStart => exact ⟨0, l, Wd, Nat.zero_le _, rfl, HQ5, hid0 hil, hid0 rfl⟩
        case round =>
          clear HQ5
          obtain ⟨wi, hwi⟩ : ∃ wi, wi = wr := ⟨_, rfl⟩
          subst hwi
          obtain ⟨c, l2, Wd2, hc, rfl, HQ2, HL2, HE2⟩ := hrel
          obtain ⟨av2, cv2, rfl, _, hform2⟩ := HQ2.out.own.form
          have hlen2 := HQ2.out.dif.len
          have hil2 := HL2.out
          by_cases hcm : c < m
          · have hcI : (c : Int) < (m : Int) := by omega
            have hcI0 : (0 : Int) ≤ (c : Int) := by omega
            have hilI2 : (i : Int) < (l2.length : Int) := by omega
            have hbwi : Below w0.heap.size w0 wi := HB2.out.trans (HQ2.out.bel.mono HB2.out.size)
            obtain ⟨⟨y0, y1, y2⟩, ⟨y3, y4, y5⟩⟩ := HCl.out wi hbwi
            obtain ⟨g2, rfl, f0, f1⟩ := hform2 i hil2
            rw [HE2.out, ← HXa.out] at f0
            rw [HE2.out, ← HXb.out] at f1
            obtain ⟨bN, oN, rfl, _, a3, c3, e3, ia3⟩ := (HAl.out wi hbwi).1.n.at' xa hxa
            obtain ⟨bM, oM, rfl, _, a4, c4, e4, ia4⟩ := (HAl.out wi hbwi).2.1.n.at' xb hxb
            have hl3 : N[xa].length = m := HMa.out.row _ (List.getElem_mem _)
            have hl4 : N'[xb].length = m := HMb.out.row _ (List.getElem_mem _)
            obtain ⟨b5, o5, rfl, _, d5⟩ := ia3.at' c (by omega)
            obtain ⟨b6, o6, rfl, _, d6⟩ := ia4.at' c (by omega)
            obtain ⟨n1, n2, _⟩ := HMa.out.next hxa hcm
            obtain ⟨n3, n4, _⟩ := HMb.out.next hxb hcm
            obtain ⟨ya, hya⟩ : ∃ ya, ya = nxF N xa c := ⟨_, rfl⟩
            obtain ⟨yb, hyb⟩ : ∃ yb, yb = nxF N' xb c := ⟨_, rfl⟩
            rw [← hya] at n1 n2
            rw [← hyb] at n3 n4
            have v5 : N[xa][c]'(by omega) = (ya : Int) := by
              rw [← n2, getD_at hxa, List.getD_eq_getElem?_getD, List.getElem?_eq_getElem (by omega)]; rfl
            have v6 : N'[xb][c]'(by omega) = (yb : Int) := by
              rw [← n4, getD_at hxb, List.getD_eq_getElem?_getD, List.getElem?_eq_getElem (by omega)]; rfl
            rw [v5] at d5
            rw [v6] at d6
            rw [hl3] at e3
            rw [hl4] at e4
            have HXe : Hid ((⟨ya, yb, i, c⟩ : Mt) = ⟨T.fa (l2.getD i default).a c, T.fb (l2.getD i default).b c, i, c⟩) := hid0 (by rw [HE2.out, ← HXa.out, ← HXb.out, HTf.out.1, HTf.out.2, hya, hyb])
            have HCm : Hid (c < T.m) := hid0 (by rw [HTm.out]; exact hcm)
            have HS15 : Hid (∀ V : World, Below wi.heap.size wi V → V.cell? ⟨w.heap.size, 1, none⟩ = some (.slice (some ⟨bN, oN, none⟩) N.length cN) ∧ V.cell? ⟨w.heap.size + 1, 1, none⟩ = some (.slice (some ⟨bM, oM, none⟩) N'.length cM) ∧ V.cell? ⟨g2, i * 4, none⟩ = some (.int .i64 (xa : Int)) ∧ V.cell? ⟨g2, i * 4 + 1, none⟩ = some (.int .i64 (xb : Int)) ∧ V.cell? ⟨bN, oN + xa, none⟩ = some (.slice (some ⟨b5, o5, none⟩) m c3) ∧ V.cell? ⟨bM, oM + xb, none⟩ = some (.slice (some ⟨b6, o6, none⟩) m c4) ∧ V.cell? ⟨b5, o5 + c, none⟩ = some (.int .i64 (ya : Int)) ∧ V.cell? ⟨b6, o6 + c, none⟩ = some (.int .i64 (yb : Int))) := hid0 (fun V hV => by
              have k : ∀ {b o : Nat} {u : Value}, wi.cell? ⟨b, o, none⟩ = some u → V.cell? ⟨b, o, none⟩ = some u := fun {b o u} q => (hV.cell (p := ⟨b, o, none⟩) (World.block_lt_of_cell? _ _ q)).trans q
              exact ⟨k y1, k y4, k f0, k f1, k e3, k e4, k d5, k d6⟩)
            have HBa : Hid (Below wi.heap.size wi (wi.drew.alloc (.cells #[.int .i64 0, .int .i64 0, .int .i64 0, .int .i64 0] 71))) := hid0 (by
              have h : Below wi.heap.size wi wi.drew := ⟨rfl, rfl, rfl, Nat.le_refl _, fun _ _ => rfl⟩
              exact h.alloc (Nat.le_refl _) _)
            have HBb : Hid (Below wi.heap.size wi (wi.drew.alloc (.cells #[.int .i64 (ya : Int), .int .i64 (yb : Int), .int .i64 (i : Int), .int .i64 (c : Int)] 71))) := hid0 (by
              have h : Below wi.heap.size wi wi.drew := ⟨rfl, rfl, rfl, Nat.le_refl _, fun _ _ => rfl⟩
              exact h.alloc (Nat.le_refl _) _)
            have HF2 := hid0 hform2
            clear hya hyb n2 n4 v5 v6 hl3 hl4 ia3 ia4 hform2 y0 y1 y2 y3 y4 y5 f0 f1 e3 e4 d5 d6 hbwi
            go_wp2
            refine wp_region_noPanic ?_
            refine wp_region_held_drew (S := (fun V => V.cell? ⟨w.heap.size, 1, none⟩ = some (.slice (some ⟨bN, oN, none⟩) N.length cN) ∧ V.cell? ⟨w.heap.size + 1, 1, none⟩ = some (.slice (some ⟨bM, oM, none⟩) N'.length cM) ∧ V.cell? ⟨g2, i * 4, none⟩ = some (.int .i64 (xa : Int)) ∧ V.cell? ⟨g2, i * 4 + 1, none⟩ = some (.int .i64 (xb : Int)) ∧ V.cell? ⟨bN, oN + xa, none⟩ = some (.slice (some ⟨b5, o5, none⟩) m c3) ∧ V.cell? ⟨bM, oM + xb, none⟩ = some (.slice (some ⟨b6, o6, none⟩) m c4) ∧ V.cell? ⟨b5, o5 + c, none⟩ = some (.int .i64 (ya : Int)) ∧ V.cell? ⟨b6, o6 + c, none⟩ = some (.int .i64 (yb : Int)))) (by kernel_rfl) ?_ (fun hHeld => ?_)
            · exact HS15.out _ ⟨rfl, rfl, rfl, Nat.le_refl _, fun _ _ => rfl⟩
            refine tkV (i := 0) (d := some 71) (v := ?_) rfl (by kernel_rfl) (by kernel_rfl) (by kernel_rfl) rfl (fun _ _ _ h => h) (by rfl) ?_ (by assumption) ?_
            rotate_left
            · (intro w hSw; (try dsimp only at hSw); (try simp only [List.getElem_toArray, List.getElem_cons_zero]); go_simp; try with_reducible rfl)
            try simp only [Act.put, List.setIfInBounds_toArray, List.set_cons_zero, List.set_cons_succ]
            refine tkV (i := 1) (d := some 72) (v := ?_) rfl (by kernel_rfl) (by kernel_rfl) (by kernel_rfl) rfl (fun _ _ _ h => h) (by rfl) ?_ (by assumption) ?_
            rotate_left
            · (intro w hSw; (try dsimp only at hSw); (try simp only [List.getElem_toArray, List.getElem_cons_zero, List.getElem_cons_succ]); go_simp; try with_reducible rfl)
            try simp only [Act.put, List.setIfInBounds_toArray, List.set_cons_zero, List.set_cons_succ]
            refine tkV (i := 2) (d := some 73) (v := ?_) rfl (by kernel_rfl) (by kernel_rfl) (by kernel_rfl) rfl (fun _ _ _ h => h) (by rfl) ?_ (by assumption) ?_
            rotate_left
            · (intro w hSw; (try dsimp only at hSw); (try simp only [List.getElem_toArray, List.getElem_cons_zero, List.getElem_cons_succ]); go_simp; try with_reducible rfl)
            try simp only [Act.put, List.setIfInBounds_toArray, List.set_cons_zero, List.set_cons_succ]
            refine tkV (i := 3) (d := some 74) (v := ?_) rfl (by kernel_rfl) (by kernel_rfl) (by kernel_rfl) rfl (fun _ _ _ h => h) (by rfl) ?_ (by assumption) ?_
            rotate_left
            · (intro w hSw; (try dsimp only at hSw); (try simp only [List.getElem_toArray, List.getElem_cons_zero, List.getElem_cons_succ]); go_simp; try with_reducible rfl)
            try simp only [Act.put, List.setIfInBounds_toArray, List.set_cons_zero, List.set_cons_succ]
            refine tkV (i := 4) (d := some 75) (v := ?_) rfl (by kernel_rfl) (by kernel_rfl) (by kernel_rfl) rfl (fun _ _ _ h => h) (by rfl) ?_ (by assumption) ?_
            rotate_left
            · (intro w hSw; (try dsimp only at hSw); (try simp only [List.getElem_toArray, List.getElem_cons_zero, List.getElem_cons_succ]); go_simp; try with_reducible rfl)
            try simp only [Act.put, List.setIfInBounds_toArray, List.set_cons_zero, List.set_cons_succ]
            refine tkV (i := 5) (d := some 76) (v := ?_) rfl (by kernel_rfl) (by kernel_rfl) (by kernel_rfl) rfl (fun _ _ _ h => h) (by rfl) ?_ (by assumption) ?_
            rotate_left
            · (intro w hSw; (try dsimp only at hSw); (try simp only [List.getElem_toArray, List.getElem_cons_zero, List.getElem_cons_succ]); go_simp; try with_reducible rfl)
            try simp only [Act.put, List.setIfInBounds_toArray, List.set_cons_zero, List.set_cons_succ]
            refine tkV (i := 6) (d := some 77) (v := ?_) rfl (by kernel_rfl) (by kernel_rfl) (by kernel_rfl) rfl (fun _ _ _ h => h) (by rfl) ?_ (by assumption) ?_
            rotate_left
            · (intro w hSw; (try dsimp only at hSw); (try simp only [List.getElem_toArray, List.getElem_cons_zero, List.getElem_cons_succ]); go_simp; try with_reducible rfl)
            try simp only [Act.put, List.setIfInBounds_toArray, List.set_cons_zero, List.set_cons_succ]
            refine tkV (i := 7) (d := some 78) (v := ?_) rfl (by kernel_rfl) (by kernel_rfl) (by kernel_rfl) rfl (fun _ _ _ h => h) (by rfl) ?_ (by assumption) ?_
            rotate_left
            · (intro w hSw; (try dsimp only at hSw); (try simp only [List.getElem_toArray, List.getElem_cons_zero, List.getElem_cons_succ]); go_simp; try with_reducible rfl)
            try simp only [Act.put, List.setIfInBounds_toArray, List.set_cons_zero, List.set_cons_succ]
            refine tkV (i := 8) (d := some 79) (v := ?_) rfl (by kernel_rfl) (by kernel_rfl) (by kernel_rfl) rfl (fun _ _ _ h => h) (by rfl) ?_ (by assumption) ?_
            rotate_left
            · (intro w hSw; (try dsimp only at hSw); (try simp only [List.getElem_toArray, List.getElem_cons_zero, List.getElem_cons_succ]); go_simp; try with_reducible rfl)
            try simp only [Act.put, List.setIfInBounds_toArray, List.set_cons_zero, List.set_cons_succ]
            refine tkV (i := 9) (d := some 80) (v := ?_) rfl (by kernel_rfl) (by kernel_rfl) (by kernel_rfl) rfl (fun _ _ _ h => h) (by rfl) ?_ (by assumption) ?_
            rotate_left
            · (intro w hSw; (try dsimp only at hSw); (try simp only [List.getElem_toArray, List.getElem_cons_zero, List.getElem_cons_succ]); go_simp; try with_reducible rfl)
            try simp only [Act.put, List.setIfInBounds_toArray, List.set_cons_zero, List.set_cons_succ]
            refine tkV (i := 10) (d := some 81) (v := ?_) rfl (by kernel_rfl) (by kernel_rfl) (by kernel_rfl) rfl (fun _ _ _ h => h) (by rfl) ?_ (by assumption) ?_
            rotate_left
            · (intro w hSw; (try dsimp only at hSw); (try simp only [List.getElem_toArray, List.getElem_cons_zero, List.getElem_cons_succ]); go_simp; try with_reducible rfl)
            try simp only [Act.put, List.setIfInBounds_toArray, List.set_cons_zero, List.set_cons_succ]
            refine tkV (i := 11) (d := some 82) (v := ?_) rfl (by kernel_rfl) (by kernel_rfl) (by kernel_rfl) rfl (fun _ _ _ h => h) (by rfl) ?_ (by assumption) ?_
            rotate_left
            · (intro w hSw; (try dsimp only at hSw); (try simp only [List.getElem_toArray, List.getElem_cons_zero, List.getElem_cons_succ]); go_simp; try with_reducible rfl)
            try simp only [Act.put, List.setIfInBounds_toArray, List.set_cons_zero, List.set_cons_succ]
            refine tkV (i := 12) (d := some 83) (v := ?_) rfl (by kernel_rfl) (by kernel_rfl) (by kernel_rfl) rfl (fun _ _ _ h => h) (by rfl) ?_ (by assumption) ?_
            rotate_left
            · (intro w hSw; (try dsimp only at hSw); (try simp only [List.getElem_toArray, List.getElem_cons_zero, List.getElem_cons_succ]); go_simp; try with_reducible rfl)
            try simp only [Act.put, List.setIfInBounds_toArray, List.set_cons_zero, List.set_cons_succ]
            refine tkV (i := 13) (d := some 84) (v := ?_) rfl (by kernel_rfl) (by kernel_rfl) (by kernel_rfl) rfl (fun _ _ _ h => h) (by rfl) ?_ (by assumption) ?_
            rotate_left
            · (intro w hSw; (try dsimp only at hSw); (try simp only [List.getElem_toArray, List.getElem_cons_zero, List.getElem_cons_succ]); go_simp; try with_reducible rfl)
            try simp only [Act.put, List.setIfInBounds_toArray, List.set_cons_zero, List.set_cons_succ]
            refine tkV (i := 14) (d := some 85) (v := ?_) rfl (by kernel_rfl) (by kernel_rfl) (by kernel_rfl) rfl (fun _ _ _ h => h) (by rfl) ?_ (by assumption) ?_
            rotate_left
            · (intro w hSw; (try dsimp only at hSw); (try simp only [List.getElem_toArray, List.getElem_cons_zero, List.getElem_cons_succ]); go_simp; try with_reducible rfl)
            try simp only [Act.put, List.setIfInBounds_toArray, List.set_cons_zero, List.set_cons_succ]
            refine tkV (i := 15) (d := some 86) (v := ?_) rfl (by kernel_rfl) (by kernel_rfl) (by kernel_rfl) rfl (fun _ _ _ h => h) (by rfl) ?_ (by assumption) ?_
            rotate_left
            · (intro w hSw; (try dsimp only at hSw); (try simp only [List.getElem_toArray, List.getElem_cons_zero, List.getElem_cons_succ]); go_simp; try with_reducible rfl)
            try simp only [Act.put, List.setIfInBounds_toArray, List.set_cons_zero, List.set_cons_succ]
            refine tkV (i := 16) (d := some 87) (v := ?_) rfl (by kernel_rfl) (by kernel_rfl) (by kernel_rfl) rfl (fun _ _ _ h => h) (by rfl) ?_ (by assumption) ?_
            rotate_left
            · (intro w hSw; (try dsimp only at hSw); (try simp only [List.getElem_toArray, List.getElem_cons_zero, List.getElem_cons_succ]); go_simp; try with_reducible rfl)
            try simp only [Act.put, List.setIfInBounds_toArray, List.set_cons_zero, List.set_cons_succ]
            refine tkV (i := 17) (d := some 88) (v := ?_) rfl (by kernel_rfl) (by kernel_rfl) (by kernel_rfl) rfl (fun _ _ _ h => h) (by rfl) ?_ (by assumption) ?_
            rotate_left
            · (intro w hSw; (try dsimp only at hSw); (try simp only [List.getElem_toArray, List.getElem_cons_zero, List.getElem_cons_succ]); go_simp; try with_reducible rfl)
            try simp only [Act.put, List.setIfInBounds_toArray, List.set_cons_zero, List.set_cons_succ]
            refine tkV (i := 18) (d := some 89) (v := ?_) rfl (by kernel_rfl) (by kernel_rfl) (by kernel_rfl) rfl (fun _ _ _ h => h) (by rfl) ?_ (by assumption) ?_
            rotate_left
            · (intro w hSw; (try dsimp only at hSw); (try simp only [List.getElem_toArray, List.getElem_cons_zero, List.getElem_cons_succ]); go_simp; try with_reducible rfl)
            try simp only [Act.put, List.setIfInBounds_toArray, List.set_cons_zero, List.set_cons_succ]
            refine tkV (i := 19) (d := some 90) (v := ?_) rfl (by kernel_rfl) (by kernel_rfl) (by kernel_rfl) rfl (fun _ _ _ h => h) (by rfl) ?_ (by assumption) ?_
            rotate_left
            · (intro w hSw; (try dsimp only at hSw); (try simp only [List.getElem_toArray, List.getElem_cons_zero, List.getElem_cons_succ]); go_simp; try with_reducible rfl)
            try simp only [Act.put, List.setIfInBounds_toArray, List.set_cons_zero, List.set_cons_succ]
            refine tkV (i := 20) (d := some 91) (v := ?_) rfl (by kernel_rfl) (by kernel_rfl) (by kernel_rfl) rfl (fun _ _ _ h => h) (by rfl) ?_ (by assumption) ?_
            rotate_left
            · (intro w hSw; (try dsimp only at hSw); (try simp only [List.getElem_toArray, List.getElem_cons_zero, List.getElem_cons_succ]); go_simp; try with_reducible rfl)
            try simp only [Act.put, List.setIfInBounds_toArray, List.set_cons_zero, List.set_cons_succ]
            refine tkV (i := 21) (d := some 92) (v := ?_) rfl (by kernel_rfl) (by kernel_rfl) (by kernel_rfl) rfl (fun _ _ _ h => h) (by rfl) ?_ (by assumption) ?_
            rotate_left
            · (intro w hSw; (try dsimp only at hSw); (try simp only [List.getElem_toArray, List.getElem_cons_zero, List.getElem_cons_succ]); go_simp; try with_reducible rfl)
            try simp only [Act.put, List.setIfInBounds_toArray, List.set_cons_zero, List.set_cons_succ]
            refine tkV (i := 22) (d := some 93) (v := ?_) rfl (by kernel_rfl) (by kernel_rfl) (by kernel_rfl) rfl (fun _ _ _ h => h) (by rfl) ?_ (by assumption) ?_
            rotate_left
            · (intro w hSw; (try dsimp only at hSw); (try simp only [List.getElem_toArray, List.getElem_cons_zero, List.getElem_cons_succ]); go_simp; try with_reducible rfl)
            try simp only [Act.put, List.setIfInBounds_toArray, List.set_cons_zero, List.set_cons_succ]
            refine tkV (i := 23) (d := some 94) (v := ?_) rfl (by kernel_rfl) (by kernel_rfl) (by kernel_rfl) rfl (fun _ _ _ h => h) (by rfl) ?_ (by assumption) ?_
            rotate_left
            · (intro w hSw; (try dsimp only at hSw); (try simp only [List.getElem_toArray, List.getElem_cons_zero, List.getElem_cons_succ]); go_simp; try with_reducible rfl)
            try simp only [Act.put, List.setIfInBounds_toArray, List.set_cons_zero, List.set_cons_succ]
            refine tkV (i := 24) (d := some 95) (v := ?_) rfl (by kernel_rfl) (by kernel_rfl) (by kernel_rfl) rfl (fun _ _ _ h => h) (by rfl) ?_ (by assumption) ?_
            rotate_left
            · (intro w hSw; (try dsimp only at hSw); (try simp only [List.getElem_toArray, List.getElem_cons_zero, List.getElem_cons_succ]); go_simp; try with_reducible rfl)
            try simp only [Act.put, List.setIfInBounds_toArray, List.set_cons_zero, List.set_cons_succ]
            refine tkV (i := 25) (d := some 96) (v := ?_) rfl (by kernel_rfl) (by kernel_rfl) (by kernel_rfl) rfl (fun _ _ _ h => h) (by rfl) ?_ (by assumption) ?_
            rotate_left
            · (intro w hSw; (try dsimp only at hSw); (try simp only [List.getElem_toArray, List.getElem_cons_zero, List.getElem_cons_succ]); go_simp; try with_reducible rfl)
            try simp only [Act.put, List.setIfInBounds_toArray, List.set_cons_zero, List.set_cons_succ]
            refine tkV (i := 26) (d := some 97) (v := ?_) rfl (by kernel_rfl) (by kernel_rfl) (by kernel_rfl) rfl (fun _ _ _ h => h) (by rfl) ?_ (by assumption) ?_
            rotate_left
            · (intro w hSw; (try dsimp only at hSw); (try simp only [List.getElem_toArray, List.getElem_cons_zero, List.getElem_cons_succ]); go_simp; try with_reducible rfl)
            try simp only [Act.put, List.setIfInBounds_toArray, List.set_cons_zero, List.set_cons_succ]
            refine wpAnyH_ready (rs := [27]) (by kernel_rfl) (by simp) (AllReadyH.cons rfl (fun K hK => ?_) AllReadyH.nil)
            try simp only [List.getElem_toArray, List.getElem_cons_zero, List.getElem_cons_succ]
            go_simp
            refine hK.out _ _ ?_ (fun hHeld27 => ?_)
            · exact HS15.out _ HBa.out
            clear hK K
            (try simp only [Act.put]); (try simp only [List.setIfInBounds_toArray]); (try simp only [List.set_cons_succ]); (try simp only [List.set_cons_zero])
            refine wpAnyH_ready (rs := [28]) (by kernel_rfl) (by simp) (AllReadyH.cons rfl (fun K hK => ?_) AllReadyH.nil)
            try simp only [List.getElem_toArray, List.getElem_cons_zero, List.getElem_cons_succ]
            go_simp
            refine hK.out _ _ ?_ (fun hHeld28 => ?_)
            · exact HS15.out _ HBb.out
            clear hK K
            (try simp only [Act.put]); (try simp only [List.setIfInBounds_toArray]); (try simp only [List.set_cons_succ]); (try simp only [List.set_cons_zero])
            refine wpAnyH_done (by kernel_rfl) ?_ _
            refine NoPanic.normal ?_
            go_wp2
            obtain ⟨w7, hw7⟩ : ∃ w7, w7 = (wi.alloc (.cells #[.int .i64 (ya : Int), .int .i64 (yb : Int), .int .i64 (i : Int), .int .i64 (c : Int)] 71)).drew := ⟨_, rfl⟩
            rw [← hw7]
            have hb7 : Below wi.heap.size wi w7 := by rw [hw7]; exact HBb.out
            have hY7 : w7.heap[wi.heap.size]? = some (.cells #[.int .i64 (ya : Int), .int .i64 (yb : Int), .int .i64 (i : Int), .int .i64 (c : Int)] 71 (0, 0)) := by rw [hw7]; exact heap_alloc_new wi _
            have HB7 := hid0 hb7
            have HY7 := hid0 hY7
            have HCk : Hid (∀ (k n : Nat), k < l2.length → (w7.drewN n).cell? ⟨g2, k * 4, none⟩ = some (.int .i64 ((l2.getD k default).a : Int)) ∧ (w7.drewN n).cell? ⟨g2, k * 4 + 1, none⟩ = some (.int .i64 ((l2.getD k default).b : Int)) ∧ (w7.drewN n).cell? ⟨wi.heap.size, 0, none⟩ = some (.int .i64 (ya : Int)) ∧ (w7.drewN n).cell? ⟨wi.heap.size, 1, none⟩ = some (.int .i64 (yb : Int))) := hid0 (fun k n hk => by
              obtain ⟨g', eg, q0, q1⟩ := HF2.out k hk
              cases eg
              have hb : Below wi.heap.size wi (w7.drewN n) := below_drew' hb7 n
              exact ⟨(hb.cell (p := ⟨g2, k * 4, none⟩) (World.block_lt_of_cell? _ _ q0)).trans q0, (hb.cell (p := ⟨g2, k * 4 + 1, none⟩) (World.block_lt_of_cell? _ _ q1)).trans q1, (cell_of_row (w7.drewN n) _ _ _ _ _ hY7).trans rfl, (cell_of_row (w7.drewN n) _ _ _ _ _ hY7).trans rfl⟩)
            clear hw7 hb7 hY7 hHeld hHeld27 hHeld28 HBa HBb HS15 HF2
            go_loopw [16, 17] (fun sv kv wr => ∃ k : Nat, k ≤ l2.length ∧ sv = .bool (snF l2 ya yb k) ∧ kv = .int .i64 (k : Int) ∧ ∃ n, wr = w7.drewN n) (fun _ kv _ => l2.length - (intOf kv).toNat)
            case atStart => exact ⟨0, Nat.zero_le _, rfl, rfl, 0, rfl⟩
            case round =>
              obtain ⟨k, hk, rfl, rfl, nd, rfl⟩ := hrel
              by_cases hkl : k < l2.length
              · have hkI : (k : Int) < (l2.length : Int) := by omega
                have hkI0 : (0 : Int) ≤ (k : Int) := by omega
                obtain ⟨t0, t1, t2, t3⟩ := HCk.out k nd hkl
                have HSt := hid0 (snF_step (ya := ya) (yb := yb) hkl)
                obtain ⟨ka, eka⟩ : ∃ ka, ka = (l2.getD k default).a := ⟨_, rfl⟩
                obtain ⟨kb, ekb⟩ : ∃ kb, kb = (l2.getD k default).b := ⟨_, rfl⟩
                rw [← eka] at t0 HSt
                rw [← ekb] at t1 HSt
                clear eka ekb
                generalize snF l2 ya yb k = sn at *
                cases sn with
                | true =>
                  have HV : Hid (snF l2 ya yb (k + 1) = true) := hid0 (by rw [HSt.out]; rfl)
                  clear HSt
                  go_wp2
                  refine wp_region_noPanic ?_
                  refine wp_region_held_drew (S := (fun V => V.cell? ⟨g2, k * 4, none⟩ = some (.int .i64 (ka : Int)) ∧ V.cell? ⟨g2, k * 4 + 1, none⟩ = some (.int .i64 (kb : Int)) ∧ V.cell? ⟨wi.heap.size, 0, none⟩ = some (.int .i64 (ya : Int)) ∧ V.cell? ⟨wi.heap.size, 1, none⟩ = some (.int .i64 (yb : Int)))) (by kernel_rfl) ?_ (fun hHeld => ?_)
                  · exact ⟨t0, t1, t2, t3⟩
                  refine tkV (i := 0) (d := some 104) (v := ?_) rfl (by kernel_rfl) (by kernel_rfl) (by kernel_rfl) rfl (fun _ _ _ h => h) (by rfl) ?_ (by assumption) ?_
                  rotate_left
                  · (intro w hSw; (try dsimp only at hSw); (try simp only [List.getElem_toArray, List.getElem_cons_zero]); go_simp; try with_reducible rfl)
                  try simp only [Act.put, List.setIfInBounds_toArray, List.set_cons_zero, List.set_cons_succ]
                  refine tkV (i := 1) (d := some 105) (v := ?_) rfl (by kernel_rfl) (by kernel_rfl) (by kernel_rfl) rfl (fun _ _ _ h => h) (by rfl) ?_ (by assumption) ?_
                  rotate_left
                  · (intro w hSw; (try dsimp only at hSw); (try simp only [List.getElem_toArray, List.getElem_cons_zero, List.getElem_cons_succ]); go_simp; try with_reducible rfl)
                  try simp only [Act.put, List.setIfInBounds_toArray, List.set_cons_zero, List.set_cons_succ]
                  refine tkU (i := 2) (d := some 106) rfl (by kernel_rfl) (by kernel_rfl) (by kernel_rfl) rfl (fun _ _ _ h => h) (by rfl) (by assumption) ?_
                  try simp only [Act.put, List.setIfInBounds_toArray, List.set_cons_zero, List.set_cons_succ]
                  refine tkU (i := 3) (d := some 107) rfl (by kernel_rfl) (by kernel_rfl) (by kernel_rfl) rfl (fun _ _ _ h => h) (by rfl) (by assumption) ?_
                  try simp only [Act.put, List.setIfInBounds_toArray, List.set_cons_zero, List.set_cons_succ]
                  refine tkU (i := 4) (d := some 108) rfl (by kernel_rfl) (by kernel_rfl) (by kernel_rfl) rfl (fun _ _ _ h => h) (by rfl) (by assumption) ?_
                  try simp only [Act.put, List.setIfInBounds_toArray, List.set_cons_zero, List.set_cons_succ]
                  refine tkU (i := 5) (d := some 109) rfl (by kernel_rfl) (by kernel_rfl) (by kernel_rfl) rfl (fun _ _ _ h => h) (by rfl) (by assumption) ?_
                  try simp only [Act.put, List.setIfInBounds_toArray, List.set_cons_zero, List.set_cons_succ]
                  refine tkU (i := 6) (d := some 110) rfl (by kernel_rfl) (by kernel_rfl) (by kernel_rfl) rfl (fun _ _ _ h => h) (by rfl) (by assumption) ?_
                  try simp only [Act.put, List.setIfInBounds_toArray, List.set_cons_zero, List.set_cons_succ]
                  refine tkU (i := 7) (d := some 111) rfl (by kernel_rfl) (by kernel_rfl) (by kernel_rfl) rfl (fun _ _ _ h => h) (by rfl) (by assumption) ?_
                  try simp only [Act.put, List.setIfInBounds_toArray, List.set_cons_zero, List.set_cons_succ]
                  refine tkU (i := 8) (d := some 112) rfl (by kernel_rfl) (by kernel_rfl) (by kernel_rfl) rfl (fun _ _ _ h => h) (by rfl) (by assumption) ?_
                  try simp only [Act.put, List.setIfInBounds_toArray, List.set_cons_zero, List.set_cons_succ]
                  refine tkU (i := 9) (d := some 113) rfl (by kernel_rfl) (by kernel_rfl) (by kernel_rfl) rfl (fun _ _ _ h => h) (by rfl) (by assumption) ?_
                  try simp only [Act.put, List.setIfInBounds_toArray, List.set_cons_zero, List.set_cons_succ]
                  refine tkU (i := 10) (d := some 114) rfl (by kernel_rfl) (by kernel_rfl) (by kernel_rfl) rfl (fun _ _ _ h => h) (by rfl) (by assumption) ?_
                  try simp only [Act.put, List.setIfInBounds_toArray, List.set_cons_zero, List.set_cons_succ]
                  refine tkU (i := 11) (d := some 115) rfl (by kernel_rfl) (by kernel_rfl) (by kernel_rfl) rfl (fun _ _ _ h => h) (by rfl) (by assumption) ?_
                  try simp only [Act.put, List.setIfInBounds_toArray, List.set_cons_zero, List.set_cons_succ]
                  refine tkU (i := 12) (d := some 116) rfl (by kernel_rfl) (by kernel_rfl) (by kernel_rfl) rfl (fun _ _ _ h => h) (by rfl) (by assumption) ?_
                  try simp only [Act.put, List.setIfInBounds_toArray, List.set_cons_zero, List.set_cons_succ]
                  refine tkU (i := 13) (d := some 117) rfl (by kernel_rfl) (by kernel_rfl) (by kernel_rfl) rfl (fun _ _ _ h => h) (by rfl) (by assumption) ?_
                  try simp only [Act.put, List.setIfInBounds_toArray, List.set_cons_zero, List.set_cons_succ]
                  refine tkU (i := 14) (d := some 118) rfl (by kernel_rfl) (by kernel_rfl) (by kernel_rfl) rfl (fun _ _ _ h => h) (by rfl) (by assumption) ?_
                  try simp only [Act.put, List.setIfInBounds_toArray, List.set_cons_zero, List.set_cons_succ]
                  refine tkU (i := 15) (d := some 119) rfl (by kernel_rfl) (by kernel_rfl) (by kernel_rfl) rfl (fun _ _ _ h => h) (by rfl) (by assumption) ?_
                  try simp only [Act.put, List.setIfInBounds_toArray, List.set_cons_zero, List.set_cons_succ]
                  refine tkU (i := 16) (d := some 120) rfl (by kernel_rfl) (by kernel_rfl) (by kernel_rfl) rfl (fun _ _ _ h => h) (by rfl) (by assumption) ?_
                  try simp only [Act.put, List.setIfInBounds_toArray, List.set_cons_zero, List.set_cons_succ]
                  refine tkU (i := 17) (d := some 121) rfl (by kernel_rfl) (by kernel_rfl) (by kernel_rfl) rfl (fun _ _ _ h => h) (by rfl) (by assumption) ?_
                  try simp only [Act.put, List.setIfInBounds_toArray, List.set_cons_zero, List.set_cons_succ]
                  refine tkU (i := 18) (d := some 122) rfl (by kernel_rfl) (by kernel_rfl) (by kernel_rfl) rfl (fun _ _ _ h => h) (by rfl) (by assumption) ?_
                  try simp only [Act.put, List.setIfInBounds_toArray, List.set_cons_zero, List.set_cons_succ]
                  refine tkU (i := 19) (d := some 123) rfl (by kernel_rfl) (by kernel_rfl) (by kernel_rfl) rfl (fun _ _ _ h => h) (by rfl) (by assumption) ?_
                  try simp only [Act.put, List.setIfInBounds_toArray, List.set_cons_zero, List.set_cons_succ]
                  refine tkV (i := 20) (d := some 124) (v := ?_) rfl (by kernel_rfl) (by kernel_rfl) (by kernel_rfl) rfl (fun _ _ _ h => h) (by rfl) ?_ (by assumption) ?_
                  rotate_left
                  · (intro w hSw; (try dsimp only at hSw); (try simp only [List.getElem_toArray, List.getElem_cons_zero, List.getElem_cons_succ]); go_simp; try with_reducible rfl)
                  try simp only [Act.put, List.setIfInBounds_toArray, List.set_cons_zero, List.set_cons_succ]
                  refine tkV (i := 21) (d := some 16) (v := ?_) rfl (by kernel_rfl) (by kernel_rfl) (by kernel_rfl) rfl (fun _ _ _ h => h) (by rfl) ?_ (by assumption) ?_
                  rotate_left
                  · (intro w hSw; (try dsimp only at hSw); (try simp only [List.getElem_toArray, List.getElem_cons_zero, List.getElem_cons_succ]); go_simp; try with_reducible rfl)
                  try simp only [Act.put, List.setIfInBounds_toArray, List.set_cons_zero, List.set_cons_succ]
                  refine wpAnyH_done (by kernel_rfl) ?_ _
                  refine NoPanic.normal ?_
                  go_wp2
                  go_roundw
                  case rel => exact ⟨k + 1, by omega, by rw [HV.out], by go_num, _, World.drewN_drewN _ _ 1⟩
                  case measure => simp [intOf]; omega
                | false =>
                  by_cases hA : ka = ya
                  · have hA1 : ((ka : Int) == (ya : Int)) = true := by simp; omega
                    by_cases hB : kb = yb
                    · have hB1 : ((kb : Int) == (yb : Int)) = true := by simp; omega
                      have HV : Hid (snF l2 ya yb (k + 1) = true) := hid0 (by rw [HSt.out, hA, hB]; simp)
                      clear HSt hA hB
                      go_wp2
                      refine wp_region_noPanic ?_
                      refine wp_region_held_drew (S := (fun V => V.cell? ⟨g2, k * 4, none⟩ = some (.int .i64 (ka : Int)) ∧ V.cell? ⟨g2, k * 4 + 1, none⟩ = some (.int .i64 (kb : Int)) ∧ V.cell? ⟨wi.heap.size, 0, none⟩ = some (.int .i64 (ya : Int)) ∧ V.cell? ⟨wi.heap.size, 1, none⟩ = some (.int .i64 (yb : Int)))) (by kernel_rfl) ?_ (fun hHeld => ?_)
                      · exact ⟨t0, t1, t2, t3⟩
                      refine tkV (i := 0) (d := some 104) (v := ?_) rfl (by kernel_rfl) (by kernel_rfl) (by kernel_rfl) rfl (fun _ _ _ h => h) (by rfl) ?_ (by assumption) ?_
                      rotate_left
                      · (intro w hSw; (try dsimp only at hSw); (try simp only [List.getElem_toArray, List.getElem_cons_zero]); go_simp; try with_reducible rfl)
                      try simp only [Act.put, List.setIfInBounds_toArray, List.set_cons_zero, List.set_cons_succ]
                      refine tkV (i := 1) (d := some 105) (v := ?_) rfl (by kernel_rfl) (by kernel_rfl) (by kernel_rfl) rfl (fun _ _ _ h => h) (by rfl) ?_ (by assumption) ?_
                      rotate_left
                      · (intro w hSw; (try dsimp only at hSw); (try simp only [List.getElem_toArray, List.getElem_cons_zero, List.getElem_cons_succ]); go_simp; try with_reducible rfl)
                      try simp only [Act.put, List.setIfInBounds_toArray, List.set_cons_zero, List.set_cons_succ]
                      refine tkV (i := 2) (d := some 106) (v := ?_) rfl (by kernel_rfl) (by kernel_rfl) (by kernel_rfl) rfl (fun _ _ _ h => h) (by rfl) ?_ (by assumption) ?_
                      rotate_left
                      · (intro w hSw; (try dsimp only at hSw); (try simp only [List.getElem_toArray, List.getElem_cons_zero, List.getElem_cons_succ]); go_simp; try with_reducible rfl)
                      try simp only [Act.put, List.setIfInBounds_toArray, List.set_cons_zero, List.set_cons_succ]
                      refine tkV (i := 3) (d := some 107) (v := ?_) rfl (by kernel_rfl) (by kernel_rfl) (by kernel_rfl) rfl (fun _ _ _ h => h) (by rfl) ?_ (by assumption) ?_
                      rotate_left
                      · (intro w hSw; (try dsimp only at hSw); (try simp only [List.getElem_toArray, List.getElem_cons_zero, List.getElem_cons_succ]); go_simp; try with_reducible rfl)
                      try simp only [Act.put, List.setIfInBounds_toArray, List.set_cons_zero, List.set_cons_succ]
                      refine tkV (i := 4) (d := some 108) (v := ?_) rfl (by kernel_rfl) (by kernel_rfl) (by kernel_rfl) rfl (fun _ _ _ h => h) (by rfl) ?_ (by assumption) ?_
                      rotate_left
                      · (intro w hSw; (try dsimp only at hSw); (try simp only [List.getElem_toArray, List.getElem_cons_zero, List.getElem_cons_succ]); go_simp; try with_reducible rfl)
                      try simp only [Act.put, List.setIfInBounds_toArray, List.set_cons_zero, List.set_cons_succ]
                      refine tkV (i := 5) (d := some 109) (v := ?_) rfl (by kernel_rfl) (by kernel_rfl) (by kernel_rfl) rfl (fun _ _ _ h => h) (by rfl) ?_ (by assumption) ?_
                      rotate_left
                      · (intro w hSw; (try dsimp only at hSw); (try simp only [List.getElem_toArray, List.getElem_cons_zero, List.getElem_cons_succ]); go_simp; try with_reducible rfl)
                      try simp only [Act.put, List.setIfInBounds_toArray, List.set_cons_zero, List.set_cons_succ]
                      refine tkV (i := 6) (d := some 110) (v := ?_) rfl (by kernel_rfl) (by kernel_rfl) (by kernel_rfl) rfl (fun _ _ _ h => h) (by rfl) ?_ (by assumption) ?_
                      rotate_left
                      · (intro w hSw; (try dsimp only at hSw); (try simp only [List.getElem_toArray, List.getElem_cons_zero, List.getElem_cons_succ]); go_simp; try with_reducible rfl)
                      try simp only [Act.put, List.setIfInBounds_toArray, List.set_cons_zero, List.set_cons_succ]
                      refine tkV (i := 7) (d := some 111) (v := ?_) rfl (by kernel_rfl) (by kernel_rfl) (by kernel_rfl) rfl (fun _ _ _ h => h) (by rfl) ?_ (by assumption) ?_
                      rotate_left
                      · (intro w hSw; (try dsimp only at hSw); (try simp only [List.getElem_toArray, List.getElem_cons_zero, List.getElem_cons_succ]); go_simp; try with_reducible rfl)
                      try simp only [Act.put, List.setIfInBounds_toArray, List.set_cons_zero, List.set_cons_succ]
                      refine tkV (i := 8) (d := some 112) (v := ?_) rfl (by kernel_rfl) (by kernel_rfl) (by kernel_rfl) rfl (fun _ _ _ h => h) (by rfl) ?_ (by assumption) ?_
                      rotate_left
                      · (intro w hSw; (try dsimp only at hSw); (try simp only [List.getElem_toArray, List.getElem_cons_zero, List.getElem_cons_succ]); go_simp; try with_reducible rfl)
                      try simp only [Act.put, List.setIfInBounds_toArray, List.set_cons_zero, List.set_cons_succ]
                      refine tkV (i := 9) (d := some 113) (v := ?_) rfl (by kernel_rfl) (by kernel_rfl) (by kernel_rfl) rfl (fun _ _ _ h => h) (by rfl) ?_ (by assumption) ?_
                      rotate_left
                      · (intro w hSw; (try dsimp only at hSw); (try simp only [List.getElem_toArray, List.getElem_cons_zero, List.getElem_cons_succ]); go_simp; try with_reducible rfl)
                      try simp only [Act.put, List.setIfInBounds_toArray, List.set_cons_zero, List.set_cons_succ]
                      refine tkV (i := 10) (d := some 114) (v := ?_) rfl (by kernel_rfl) (by kernel_rfl) (by kernel_rfl) rfl (fun _ _ _ h => h) (by rfl) ?_ (by assumption) ?_
                      rotate_left
                      · (intro w hSw; (try dsimp only at hSw); (try simp only [List.getElem_toArray, List.getElem_cons_zero, List.getElem_cons_succ]); go_simp; try with_reducible rfl)
                      try simp only [Act.put, List.setIfInBounds_toArray, List.set_cons_zero, List.set_cons_succ]
                      refine tkV (i := 11) (d := some 115) (v := ?_) rfl (by kernel_rfl) (by kernel_rfl) (by kernel_rfl) rfl (fun _ _ _ h => h) (by rfl) ?_ (by assumption) ?_
                      rotate_left
                      · (intro w hSw; (try dsimp only at hSw); (try simp only [List.getElem_toArray, List.getElem_cons_zero, List.getElem_cons_succ]); go_simp; try with_reducible rfl)
                      try simp only [Act.put, List.setIfInBounds_toArray, List.set_cons_zero, List.set_cons_succ]
                      refine tkV (i := 12) (d := some 116) (v := ?_) rfl (by kernel_rfl) (by kernel_rfl) (by kernel_rfl) rfl (fun _ _ _ h => h) (by rfl) ?_ (by assumption) ?_
                      rotate_left
                      · (intro w hSw; (try dsimp only at hSw); (try simp only [List.getElem_toArray, List.getElem_cons_zero, List.getElem_cons_succ]); go_simp; try with_reducible rfl)
                      try simp only [Act.put, List.setIfInBounds_toArray, List.set_cons_zero, List.set_cons_succ]
                      refine tkV (i := 13) (d := some 117) (v := ?_) rfl (by kernel_rfl) (by kernel_rfl) (by kernel_rfl) rfl (fun _ _ _ h => h) (by rfl) ?_ (by assumption) ?_
                      rotate_left
                      · (intro w hSw; (try dsimp only at hSw); (try simp only [List.getElem_toArray, List.getElem_cons_zero, List.getElem_cons_succ]); go_simp; try with_reducible rfl)
                      try simp only [Act.put, List.setIfInBounds_toArray, List.set_cons_zero, List.set_cons_succ]
                      refine tkV (i := 14) (d := some 118) (v := ?_) rfl (by kernel_rfl) (by kernel_rfl) (by kernel_rfl) rfl (fun _ _ _ h => h) (by rfl) ?_ (by assumption) ?_
                      rotate_left
                      · (intro w hSw; (try dsimp only at hSw); (try simp only [List.getElem_toArray, List.getElem_cons_zero, List.getElem_cons_succ]); go_simp; try with_reducible rfl)
                      try simp only [Act.put, List.setIfInBounds_toArray, List.set_cons_zero, List.set_cons_succ]
                      refine tkV (i := 15) (d := some 119) (v := ?_) rfl (by kernel_rfl) (by kernel_rfl) (by kernel_rfl) rfl (fun _ _ _ h => h) (by rfl) ?_ (by assumption) ?_
                      rotate_left
                      · (intro w hSw; (try dsimp only at hSw); (try simp only [List.getElem_toArray, List.getElem_cons_zero, List.getElem_cons_succ]); go_simp; try with_reducible rfl)
                      try simp only [Act.put, List.setIfInBounds_toArray, List.set_cons_zero, List.set_cons_succ]
                      refine tkV (i := 16) (d := some 120) (v := ?_) rfl (by kernel_rfl) (by kernel_rfl) (by kernel_rfl) rfl (fun _ _ _ h => h) (by rfl) ?_ (by assumption) ?_
                      rotate_left
                      · (intro w hSw; (try dsimp only at hSw); (try simp only [List.getElem_toArray, List.getElem_cons_zero, List.getElem_cons_succ]); go_simp; try with_reducible rfl)
                      try simp only [Act.put, List.setIfInBounds_toArray, List.set_cons_zero, List.set_cons_succ]
                      refine tkV (i := 17) (d := some 121) (v := ?_) rfl (by kernel_rfl) (by kernel_rfl) (by kernel_rfl) rfl (fun _ _ _ h => h) (by rfl) ?_ (by assumption) ?_
                      rotate_left
                      · (intro w hSw; (try dsimp only at hSw); (try simp only [List.getElem_toArray, List.getElem_cons_zero, List.getElem_cons_succ]); go_simp; try with_reducible rfl)
                      try simp only [Act.put, List.setIfInBounds_toArray, List.set_cons_zero, List.set_cons_succ]
                      refine tkV (i := 18) (d := some 122) (v := ?_) rfl (by kernel_rfl) (by kernel_rfl) (by kernel_rfl) rfl (fun _ _ _ h => h) (by rfl) ?_ (by assumption) ?_
                      rotate_left
                      · (intro w hSw; (try dsimp only at hSw); (try simp only [List.getElem_toArray, List.getElem_cons_zero, List.getElem_cons_succ]); go_simp; try with_reducible rfl)
                      try simp only [Act.put, List.setIfInBounds_toArray, List.set_cons_zero, List.set_cons_succ]
                      refine tkV (i := 19) (d := some 123) (v := ?_) rfl (by kernel_rfl) (by kernel_rfl) (by kernel_rfl) rfl (fun _ _ _ h => h) (by rfl) ?_ (by assumption) ?_
                      rotate_left
                      · (intro w hSw; (try dsimp only at hSw); (try simp only [List.getElem_toArray, List.getElem_cons_zero, List.getElem_cons_succ]); go_simp; try with_reducible rfl)
                      try simp only [Act.put, List.setIfInBounds_toArray, List.set_cons_zero, List.set_cons_succ]
                      refine tkV (i := 20) (d := some 124) (v := ?_) rfl (by kernel_rfl) (by kernel_rfl) (by kernel_rfl) rfl (fun _ _ _ h => h) (by rfl) ?_ (by assumption) ?_
                      rotate_left
                      · (intro w hSw; (try dsimp only at hSw); (try simp only [List.getElem_toArray, List.getElem_cons_zero, List.getElem_cons_succ]); go_simp; try with_reducible rfl)
                      try simp only [Act.put, List.setIfInBounds_toArray, List.set_cons_zero, List.set_cons_succ]
                      refine tkV (i := 21) (d := some 16) (v := ?_) rfl (by kernel_rfl) (by kernel_rfl) (by kernel_rfl) rfl (fun _ _ _ h => h) (by rfl) ?_ (by assumption) ?_
                      rotate_left
                      · (intro w hSw; (try dsimp only at hSw); (try simp only [List.getElem_toArray, List.getElem_cons_zero, List.getElem_cons_succ]); go_simp; try with_reducible rfl)
                      try simp only [Act.put, List.setIfInBounds_toArray, List.set_cons_zero, List.set_cons_succ]
                      refine wpAnyH_done (by kernel_rfl) ?_ _
                      refine NoPanic.normal ?_
                      go_wp2
                      go_roundw
                      case rel => exact ⟨k + 1, by omega, by rw [HV.out], by go_num, _, World.drewN_drewN _ _ 1⟩
                      case measure => simp [intOf]; omega
                    · have hB1 : ((kb : Int) == (yb : Int)) = false := by simp; omega
                      have HV : Hid (snF l2 ya yb (k + 1) = false) := hid0 (by rw [HSt.out]; simp [hB])
                      clear HSt hA hB
                      go_wp2
                      refine wp_region_noPanic ?_
                      refine wp_region_held_drew (S := (fun V => V.cell? ⟨g2, k * 4, none⟩ = some (.int .i64 (ka : Int)) ∧ V.cell? ⟨g2, k * 4 + 1, none⟩ = some (.int .i64 (kb : Int)) ∧ V.cell? ⟨wi.heap.size, 0, none⟩ = some (.int .i64 (ya : Int)) ∧ V.cell? ⟨wi.heap.size, 1, none⟩ = some (.int .i64 (yb : Int)))) (by kernel_rfl) ?_ (fun hHeld => ?_)
                      · exact ⟨t0, t1, t2, t3⟩
                      refine tkV (i := 0) (d := some 104) (v := ?_) rfl (by kernel_rfl) (by kernel_rfl) (by kernel_rfl) rfl (fun _ _ _ h => h) (by rfl) ?_ (by assumption) ?_
                      rotate_left
                      · (intro w hSw; (try dsimp only at hSw); (try simp only [List.getElem_toArray, List.getElem_cons_zero]); go_simp; try with_reducible rfl)
                      try simp only [Act.put, List.setIfInBounds_toArray, List.set_cons_zero, List.set_cons_succ]
                      refine tkV (i := 1) (d := some 105) (v := ?_) rfl (by kernel_rfl) (by kernel_rfl) (by kernel_rfl) rfl (fun _ _ _ h => h) (by rfl) ?_ (by assumption) ?_
                      rotate_left
                      · (intro w hSw; (try dsimp only at hSw); (try simp only [List.getElem_toArray, List.getElem_cons_zero, List.getElem_cons_succ]); go_simp; try with_reducible rfl)
                      try simp only [Act.put, List.setIfInBounds_toArray, List.set_cons_zero, List.set_cons_succ]
                      refine tkV (i := 2) (d := some 106) (v := ?_) rfl (by kernel_rfl) (by kernel_rfl) (by kernel_rfl) rfl (fun _ _ _ h => h) (by rfl) ?_ (by assumption) ?_
                      rotate_left
                      · (intro w hSw; (try dsimp only at hSw); (try simp only [List.getElem_toArray, List.getElem_cons_zero, List.getElem_cons_succ]); go_simp; try with_reducible rfl)
                      try simp only [Act.put, List.setIfInBounds_toArray, List.set_cons_zero, List.set_cons_succ]
                      refine tkV (i := 3) (d := some 107) (v := ?_) rfl (by kernel_rfl) (by kernel_rfl) (by kernel_rfl) rfl (fun _ _ _ h => h) (by rfl) ?_ (by assumption) ?_
                      rotate_left
                      · (intro w hSw; (try dsimp only at hSw); (try simp only [List.getElem_toArray, List.getElem_cons_zero, List.getElem_cons_succ]); go_simp; try with_reducible rfl)
                      try simp only [Act.put, List.setIfInBounds_toArray, List.set_cons_zero, List.set_cons_succ]
                      refine tkV (i := 4) (d := some 108) (v := ?_) rfl (by kernel_rfl) (by kernel_rfl) (by kernel_rfl) rfl (fun _ _ _ h => h) (by rfl) ?_ (by assumption) ?_
                      rotate_left
                      · (intro w hSw; (try dsimp only at hSw); (try simp only [List.getElem_toArray, List.getElem_cons_zero, List.getElem_cons_succ]); go_simp; try with_reducible rfl)
                      try simp only [Act.put, List.setIfInBounds_toArray, List.set_cons_zero, List.set_cons_succ]
                      refine tkV (i := 5) (d := some 109) (v := ?_) rfl (by kernel_rfl) (by kernel_rfl) (by kernel_rfl) rfl (fun _ _ _ h => h) (by rfl) ?_ (by assumption) ?_
                      rotate_left
                      · (intro w hSw; (try dsimp only at hSw); (try simp only [List.getElem_toArray, List.getElem_cons_zero, List.getElem_cons_succ]); go_simp; try with_reducible rfl)
                      try simp only [Act.put, List.setIfInBounds_toArray, List.set_cons_zero, List.set_cons_succ]
                      refine tkV (i := 6) (d := some 110) (v := ?_) rfl (by kernel_rfl) (by kernel_rfl) (by kernel_rfl) rfl (fun _ _ _ h => h) (by rfl) ?_ (by assumption) ?_
                      rotate_left
                      · (intro w hSw; (try dsimp only at hSw); (try simp only [List.getElem_toArray, List.getElem_cons_zero, List.getElem_cons_succ]); go_simp; try with_reducible rfl)
                      try simp only [Act.put, List.setIfInBounds_toArray, List.set_cons_zero, List.set_cons_succ]
                      refine tkV (i := 7) (d := some 111) (v := ?_) rfl (by kernel_rfl) (by kernel_rfl) (by kernel_rfl) rfl (fun _ _ _ h => h) (by rfl) ?_ (by assumption) ?_
                      rotate_left
                      · (intro w hSw; (try dsimp only at hSw); (try simp only [List.getElem_toArray, List.getElem_cons_zero, List.getElem_cons_succ]); go_simp; try with_reducible rfl)
                      try simp only [Act.put, List.setIfInBounds_toArray, List.set_cons_zero, List.set_cons_succ]
                      refine tkV (i := 8) (d := some 112) (v := ?_) rfl (by kernel_rfl) (by kernel_rfl) (by kernel_rfl) rfl (fun _ _ _ h => h) (by rfl) ?_ (by assumption) ?_
                      rotate_left
                      · (intro w hSw; (try dsimp only at hSw); (try simp only [List.getElem_toArray, List.getElem_cons_zero, List.getElem_cons_succ]); go_simp; try with_reducible rfl)
                      try simp only [Act.put, List.setIfInBounds_toArray, List.set_cons_zero, List.set_cons_succ]
                      refine tkV (i := 9) (d := some 113) (v := ?_) rfl (by kernel_rfl) (by kernel_rfl) (by kernel_rfl) rfl (fun _ _ _ h => h) (by rfl) ?_ (by assumption) ?_
                      rotate_left
                      · (intro w hSw; (try dsimp only at hSw); (try simp only [List.getElem_toArray, List.getElem_cons_zero, List.getElem_cons_succ]); go_simp; try with_reducible rfl)
                      try simp only [Act.put, List.setIfInBounds_toArray, List.set_cons_zero, List.set_cons_succ]
                      refine tkV (i := 10) (d := some 114) (v := ?_) rfl (by kernel_rfl) (by kernel_rfl) (by kernel_rfl) rfl (fun _ _ _ h => h) (by rfl) ?_ (by assumption) ?_
                      rotate_left
                      · (intro w hSw; (try dsimp only at hSw); (try simp only [List.getElem_toArray, List.getElem_cons_zero, List.getElem_cons_succ]); go_simp; try with_reducible rfl)
                      try simp only [Act.put, List.setIfInBounds_toArray, List.set_cons_zero, List.set_cons_succ]
                      refine tkV (i := 11) (d := some 115) (v := ?_) rfl (by kernel_rfl) (by kernel_rfl) (by kernel_rfl) rfl (fun _ _ _ h => h) (by rfl) ?_ (by assumption) ?_
                      rotate_left
                      · (intro w hSw; (try dsimp only at hSw); (try simp only [List.getElem_toArray, List.getElem_cons_zero, List.getElem_cons_succ]); go_simp; try with_reducible rfl)
                      try simp only [Act.put, List.setIfInBounds_toArray, List.set_cons_zero, List.set_cons_succ]
                      refine tkV (i := 12) (d := some 116) (v := ?_) rfl (by kernel_rfl) (by kernel_rfl) (by kernel_rfl) rfl (fun _ _ _ h => h) (by rfl) ?_ (by assumption) ?_
                      rotate_left
                      · (intro w hSw; (try dsimp only at hSw); (try simp only [List.getElem_toArray, List.getElem_cons_zero, List.getElem_cons_succ]); go_simp; try with_reducible rfl)
                      try simp only [Act.put, List.setIfInBounds_toArray, List.set_cons_zero, List.set_cons_succ]
                      refine tkV (i := 13) (d := some 117) (v := ?_) rfl (by kernel_rfl) (by kernel_rfl) (by kernel_rfl) rfl (fun _ _ _ h => h) (by rfl) ?_ (by assumption) ?_
                      rotate_left
                      · (intro w hSw; (try dsimp only at hSw); (try simp only [List.getElem_toArray, List.getElem_cons_zero, List.getElem_cons_succ]); go_simp; try with_reducible rfl)
                      try simp only [Act.put, List.setIfInBounds_toArray, List.set_cons_zero, List.set_cons_succ]
                      refine tkV (i := 14) (d := some 118) (v := ?_) rfl (by kernel_rfl) (by kernel_rfl) (by kernel_rfl) rfl (fun _ _ _ h => h) (by rfl) ?_ (by assumption) ?_
                      rotate_left
                      · (intro w hSw; (try dsimp only at hSw); (try simp only [List.getElem_toArray, List.getElem_cons_zero, List.getElem_cons_succ]); go_simp; try with_reducible rfl)
                      try simp only [Act.put, List.setIfInBounds_toArray, List.set_cons_zero, List.set_cons_succ]
                      refine tkV (i := 15) (d := some 119) (v := ?_) rfl (by kernel_rfl) (by kernel_rfl) (by kernel_rfl) rfl (fun _ _ _ h => h) (by rfl) ?_ (by assumption) ?_
                      rotate_left
                      · (intro w hSw; (try dsimp only at hSw); (try simp only [List.getElem_toArray, List.getElem_cons_zero, List.getElem_cons_succ]); go_simp; try with_reducible rfl)
                      try simp only [Act.put, List.setIfInBounds_toArray, List.set_cons_zero, List.set_cons_succ]
                      refine tkV (i := 16) (d := some 120) (v := ?_) rfl (by kernel_rfl) (by kernel_rfl) (by kernel_rfl) rfl (fun _ _ _ h => h) (by rfl) ?_ (by assumption) ?_
                      rotate_left
                      · (intro w hSw; (try dsimp only at hSw); (try simp only [List.getElem_toArray, List.getElem_cons_zero, List.getElem_cons_succ]); go_simp; try with_reducible rfl)
                      try simp only [Act.put, List.setIfInBounds_toArray, List.set_cons_zero, List.set_cons_succ]
                      refine tkV (i := 17) (d := some 121) (v := ?_) rfl (by kernel_rfl) (by kernel_rfl) (by kernel_rfl) rfl (fun _ _ _ h => h) (by rfl) ?_ (by assumption) ?_
                      rotate_left
                      · (intro w hSw; (try dsimp only at hSw); (try simp only [List.getElem_toArray, List.getElem_cons_zero, List.getElem_cons_succ]); go_simp; try with_reducible rfl)
                      try simp only [Act.put, List.setIfInBounds_toArray, List.set_cons_zero, List.set_cons_succ]
                      refine tkV (i := 18) (d := some 122) (v := ?_) rfl (by kernel_rfl) (by kernel_rfl) (by kernel_rfl) rfl (fun _ _ _ h => h) (by rfl) ?_ (by assumption) ?_
                      rotate_left
                      · (intro w hSw; (try dsimp only at hSw); (try simp only [List.getElem_toArray, List.getElem_cons_zero, List.getElem_cons_succ]); go_simp; try with_reducible rfl)
                      try simp only [Act.put, List.setIfInBounds_toArray, List.set_cons_zero, List.set_cons_succ]
                      refine tkV (i := 19) (d := some 123) (v := ?_) rfl (by kernel_rfl) (by kernel_rfl) (by kernel_rfl) rfl (fun _ _ _ h => h) (by rfl) ?_ (by assumption) ?_
                      rotate_left
                      · (intro w hSw; (try dsimp only at hSw); (try simp only [List.getElem_toArray, List.getElem_cons_zero, List.getElem_cons_succ]); go_simp; try with_reducible rfl)
                      try simp only [Act.put, List.setIfInBounds_toArray, List.set_cons_zero, List.set_cons_succ]
                      refine tkV (i := 20) (d := some 124) (v := ?_) rfl (by kernel_rfl) (by kernel_rfl) (by kernel_rfl) rfl (fun _ _ _ h => h) (by rfl) ?_ (by assumption) ?_
                      rotate_left
                      · (intro w hSw; (try dsimp only at hSw); (try simp only [List.getElem_toArray, List.getElem_cons_zero, List.getElem_cons_succ]); go_simp; try with_reducible rfl)
                      try simp only [Act.put, List.setIfInBounds_toArray, List.set_cons_zero, List.set_cons_succ]
                      refine tkV (i := 21) (d := some 16) (v := ?_) rfl (by kernel_rfl) (by kernel_rfl) (by kernel_rfl) rfl (fun _ _ _ h => h) (by rfl) ?_ (by assumption) ?_
                      rotate_left
                      · (intro w hSw; (try dsimp only at hSw); (try simp only [List.getElem_toArray, List.getElem_cons_zero, List.getElem_cons_succ]); go_simp; try with_reducible rfl)
                      try simp only [Act.put, List.setIfInBounds_toArray, List.set_cons_zero, List.set_cons_succ]
                      refine wpAnyH_done (by kernel_rfl) ?_ _
                      refine NoPanic.normal ?_
                      go_wp2
                      go_roundw
                      case rel => exact ⟨k + 1, by omega, by rw [HV.out], by go_num, _, World.drewN_drewN _ _ 1⟩
                      case measure => simp [intOf]; omega
                  · have hA1 : ((ka : Int) == (ya : Int)) = false := by simp; omega
                    have HV : Hid (snF l2 ya yb (k + 1) = false) := hid0 (by rw [HSt.out]; simp [hA])
                    clear HSt hA
                    go_wp2
                    refine wp_region_noPanic ?_
                    refine wp_region_held_drew (S := (fun V => V.cell? ⟨g2, k * 4, none⟩ = some (.int .i64 (ka : Int)) ∧ V.cell? ⟨g2, k * 4 + 1, none⟩ = some (.int .i64 (kb : Int)) ∧ V.cell? ⟨wi.heap.size, 0, none⟩ = some (.int .i64 (ya : Int)) ∧ V.cell? ⟨wi.heap.size, 1, none⟩ = some (.int .i64 (yb : Int)))) (by kernel_rfl) ?_ (fun hHeld => ?_)
                    · exact ⟨t0, t1, t2, t3⟩
                    refine tkV (i := 0) (d := some 104) (v := ?_) rfl (by kernel_rfl) (by kernel_rfl) (by kernel_rfl) rfl (fun _ _ _ h => h) (by rfl) ?_ (by assumption) ?_
                    rotate_left
                    · (intro w hSw; (try dsimp only at hSw); (try simp only [List.getElem_toArray, List.getElem_cons_zero]); go_simp; try with_reducible rfl)
                    try simp only [Act.put, List.setIfInBounds_toArray, List.set_cons_zero, List.set_cons_succ]
                    refine tkV (i := 1) (d := some 105) (v := ?_) rfl (by kernel_rfl) (by kernel_rfl) (by kernel_rfl) rfl (fun _ _ _ h => h) (by rfl) ?_ (by assumption) ?_
                    rotate_left
                    · (intro w hSw; (try dsimp only at hSw); (try simp only [List.getElem_toArray, List.getElem_cons_zero, List.getElem_cons_succ]); go_simp; try with_reducible rfl)
                    try simp only [Act.put, List.setIfInBounds_toArray, List.set_cons_zero, List.set_cons_succ]
                    refine tkV (i := 2) (d := some 106) (v := ?_) rfl (by kernel_rfl) (by kernel_rfl) (by kernel_rfl) rfl (fun _ _ _ h => h) (by rfl) ?_ (by assumption) ?_
                    rotate_left
                    · (intro w hSw; (try dsimp only at hSw); (try simp only [List.getElem_toArray, List.getElem_cons_zero, List.getElem_cons_succ]); go_simp; try with_reducible rfl)
                    try simp only [Act.put, List.setIfInBounds_toArray, List.set_cons_zero, List.set_cons_succ]
                    refine tkV (i := 3) (d := some 107) (v := ?_) rfl (by kernel_rfl) (by kernel_rfl) (by kernel_rfl) rfl (fun _ _ _ h => h) (by rfl) ?_ (by assumption) ?_
                    rotate_left
                    · (intro w hSw; (try dsimp only at hSw); (try simp only [List.getElem_toArray, List.getElem_cons_zero, List.getElem_cons_succ]); go_simp; try with_reducible rfl)
                    try simp only [Act.put, List.setIfInBounds_toArray, List.set_cons_zero, List.set_cons_succ]
                    refine tkV (i := 4) (d := some 108) (v := ?_) rfl (by kernel_rfl) (by kernel_rfl) (by kernel_rfl) rfl (fun _ _ _ h => h) (by rfl) ?_ (by assumption) ?_
                    rotate_left
                    · (intro w hSw; (try dsimp only at hSw); (try simp only [List.getElem_toArray, List.getElem_cons_zero, List.getElem_cons_succ]); go_simp; try with_reducible rfl)
                    try simp only [Act.put, List.setIfInBounds_toArray, List.set_cons_zero, List.set_cons_succ]
                    refine tkV (i := 5) (d := some 109) (v := ?_) rfl (by kernel_rfl) (by kernel_rfl) (by kernel_rfl) rfl (fun _ _ _ h => h) (by rfl) ?_ (by assumption) ?_
                    rotate_left
                    · (intro w hSw; (try dsimp only at hSw); (try simp only [List.getElem_toArray, List.getElem_cons_zero, List.getElem_cons_succ]); go_simp; try with_reducible rfl)
                    try simp only [Act.put, List.setIfInBounds_toArray, List.set_cons_zero, List.set_cons_succ]
                    refine tkV (i := 6) (d := some 110) (v := ?_) rfl (by kernel_rfl) (by kernel_rfl) (by kernel_rfl) rfl (fun _ _ _ h => h) (by rfl) ?_ (by assumption) ?_
                    rotate_left
                    · (intro w hSw; (try dsimp only at hSw); (try simp only [List.getElem_toArray, List.getElem_cons_zero, List.getElem_cons_succ]); go_simp; try with_reducible rfl)
                    try simp only [Act.put, List.setIfInBounds_toArray, List.set_cons_zero, List.set_cons_succ]
                    refine tkV (i := 7) (d := some 111) (v := ?_) rfl (by kernel_rfl) (by kernel_rfl) (by kernel_rfl) rfl (fun _ _ _ h => h) (by rfl) ?_ (by assumption) ?_
                    rotate_left
                    · (intro w hSw; (try dsimp only at hSw); (try simp only [List.getElem_toArray, List.getElem_cons_zero, List.getElem_cons_succ]); go_simp; try with_reducible rfl)
                    try simp only [Act.put, List.setIfInBounds_toArray, List.set_cons_zero, List.set_cons_succ]
                    refine tkV (i := 8) (d := some 112) (v := ?_) rfl (by kernel_rfl) (by kernel_rfl) (by kernel_rfl) rfl (fun _ _ _ h => h) (by rfl) ?_ (by assumption) ?_
                    rotate_left
                    · (intro w hSw; (try dsimp only at hSw); (try simp only [List.getElem_toArray, List.getElem_cons_zero, List.getElem_cons_succ]); go_simp; try with_reducible rfl)
                    try simp only [Act.put, List.setIfInBounds_toArray, List.set_cons_zero, List.set_cons_succ]
                    refine tkV (i := 9) (d := some 113) (v := ?_) rfl (by kernel_rfl) (by kernel_rfl) (by kernel_rfl) rfl (fun _ _ _ h => h) (by rfl) ?_ (by assumption) ?_
                    rotate_left
                    · (intro w hSw; (try dsimp only at hSw); (try simp only [List.getElem_toArray, List.getElem_cons_zero, List.getElem_cons_succ]); go_simp; try with_reducible rfl)
                    try simp only [Act.put, List.setIfInBounds_toArray, List.set_cons_zero, List.set_cons_succ]
                    refine tkV (i := 10) (d := some 114) (v := ?_) rfl (by kernel_rfl) (by kernel_rfl) (by kernel_rfl) rfl (fun _ _ _ h => h) (by rfl) ?_ (by assumption) ?_
                    rotate_left
                    · (intro w hSw; (try dsimp only at hSw); (try simp only [List.getElem_toArray, List.getElem_cons_zero, List.getElem_cons_succ]); go_simp; try with_reducible rfl)
                    try simp only [Act.put, List.setIfInBounds_toArray, List.set_cons_zero, List.set_cons_succ]
                    refine tkU (i := 11) (d := some 115) rfl (by kernel_rfl) (by kernel_rfl) (by kernel_rfl) rfl (fun _ _ _ h => h) (by rfl) (by assumption) ?_
                    try simp only [Act.put, List.setIfInBounds_toArray, List.set_cons_zero, List.set_cons_succ]
                    refine tkU (i := 12) (d := some 116) rfl (by kernel_rfl) (by kernel_rfl) (by kernel_rfl) rfl (fun _ _ _ h => h) (by rfl) (by assumption) ?_
                    try simp only [Act.put, List.setIfInBounds_toArray, List.set_cons_zero, List.set_cons_succ]
                    refine tkU (i := 13) (d := some 117) rfl (by kernel_rfl) (by kernel_rfl) (by kernel_rfl) rfl (fun _ _ _ h => h) (by rfl) (by assumption) ?_
                    try simp only [Act.put, List.setIfInBounds_toArray, List.set_cons_zero, List.set_cons_succ]
                    refine tkU (i := 14) (d := some 118) rfl (by kernel_rfl) (by kernel_rfl) (by kernel_rfl) rfl (fun _ _ _ h => h) (by rfl) (by assumption) ?_
                    try simp only [Act.put, List.setIfInBounds_toArray, List.set_cons_zero, List.set_cons_succ]
                    refine tkU (i := 15) (d := some 119) rfl (by kernel_rfl) (by kernel_rfl) (by kernel_rfl) rfl (fun _ _ _ h => h) (by rfl) (by assumption) ?_
                    try simp only [Act.put, List.setIfInBounds_toArray, List.set_cons_zero, List.set_cons_succ]
                    refine tkU (i := 16) (d := some 120) rfl (by kernel_rfl) (by kernel_rfl) (by kernel_rfl) rfl (fun _ _ _ h => h) (by rfl) (by assumption) ?_
                    try simp only [Act.put, List.setIfInBounds_toArray, List.set_cons_zero, List.set_cons_succ]
                    refine tkU (i := 17) (d := some 121) rfl (by kernel_rfl) (by kernel_rfl) (by kernel_rfl) rfl (fun _ _ _ h => h) (by rfl) (by assumption) ?_
                    try simp only [Act.put, List.setIfInBounds_toArray, List.set_cons_zero, List.set_cons_succ]
                    refine tkU (i := 18) (d := some 122) rfl (by kernel_rfl) (by kernel_rfl) (by kernel_rfl) rfl (fun _ _ _ h => h) (by rfl) (by assumption) ?_
                    try simp only [Act.put, List.setIfInBounds_toArray, List.set_cons_zero, List.set_cons_succ]
                    refine tkV (i := 19) (d := some 123) (v := ?_) rfl (by kernel_rfl) (by kernel_rfl) (by kernel_rfl) rfl (fun _ _ _ h => h) (by rfl) ?_ (by assumption) ?_
                    rotate_left
                    · (intro w hSw; (try dsimp only at hSw); (try simp only [List.getElem_toArray, List.getElem_cons_zero, List.getElem_cons_succ]); go_simp; try with_reducible rfl)
                    try simp only [Act.put, List.setIfInBounds_toArray, List.set_cons_zero, List.set_cons_succ]
                    refine tkV (i := 20) (d := some 124) (v := ?_) rfl (by kernel_rfl) (by kernel_rfl) (by kernel_rfl) rfl (fun _ _ _ h => h) (by rfl) ?_ (by assumption) ?_
                    rotate_left
                    · (intro w hSw; (try dsimp only at hSw); (try simp only [List.getElem_toArray, List.getElem_cons_zero, List.getElem_cons_succ]); go_simp; try with_reducible rfl)
                    try simp only [Act.put, List.setIfInBounds_toArray, List.set_cons_zero, List.set_cons_succ]
                    refine tkV (i := 21) (d := some 16) (v := ?_) rfl (by kernel_rfl) (by kernel_rfl) (by kernel_rfl) rfl (fun _ _ _ h => h) (by rfl) ?_ (by assumption) ?_
                    rotate_left
                    · (intro w hSw; (try dsimp only at hSw); (try simp only [List.getElem_toArray, List.getElem_cons_zero, List.getElem_cons_succ]); go_simp; try with_reducible rfl)
                    try simp only [Act.put, List.setIfInBounds_toArray, List.set_cons_zero, List.set_cons_succ]
                    refine wpAnyH_done (by kernel_rfl) ?_ _
                    refine NoPanic.normal ?_
                    go_wp2
                    go_roundw
                    case rel => exact ⟨k + 1, by omega, by rw [HV.out], by go_num, _, World.drewN_drewN _ _ 1⟩
                    case measure => simp [intOf]; omega
              · have hkI : ¬ (k : Int) < (l2.length : Int) := by omega
                obtain rfl : k = l2.length := by omega
                have HB8 : Hid (Below wi.heap.size wi (w7.drewN nd)) := hid0 (below_drew' HB7.out nd)
                have HQ8 := hid0 (HQ2.out.past rfl HB8.out)
                cases hsn : snF l2 ya yb l2.length with
                | true =>
                  have HQ9 : Hid (Rfq T N.length N'.length w2.heap.size w2 (w7.drewN nd) (.slice (some ⟨g2, 0, none⟩) l2.length cv2) l2 Wd2 i (c + 1)) := hid0 ⟨HQ8.out.own, HQ8.out.que.keep hil2 (by
                    have h := HXe.out
                    simp only [Mt.mk.injEq, true_and] at h
                    rw [← h.1, ← h.2.1]
                    exact snF_cov hsn), HQ8.out.dif, HQ8.out.bel⟩
                  clear hsn HQ8
                  go_wp2
                  go_roundw
                  case rel => exact ⟨c + 1, l2, Wd2, by omega, by go_num, HQ9, HL2, HE2⟩
                  case measure => simp [intOf]; omega
                | false =>
                  obtain ⟨Wd3, hq3⟩ := HQ8.out.que.push hil2 HCm.out
                  rw [← HXe.out] at hq3
                  have HQ3 := hid0 hq3
                  have HDf := hid0 (HQ8.out.dif.snoc (x := ⟨ya, yb, i, c⟩) n1 n3 hsn)
                  obtain ⟨u0, u1, u2, u3⟩ : (w7.drewN nd).cell? ⟨wi.heap.size, 0, none⟩ = some (.int .i64 (ya : Int)) ∧ (w7.drewN nd).cell? ⟨wi.heap.size, 1, none⟩ = some (.int .i64 (yb : Int)) ∧ (w7.drewN nd).cell? ⟨wi.heap.size, 2, none⟩ = some (.int .i64 (i : Int)) ∧ (w7.drewN nd).cell? ⟨wi.heap.size, 3, none⟩ = some (.int .i64 (c : Int)) := by
                    refine ⟨?_, ?_, ?_, ?_⟩ <;> exact (cell_of_row (w7.drewN nd) _ _ _ _ _ HY7.out).trans rfl
                  have hpos : 0 < l2.length := by omega
                  have hsz8 := HQ8.out.bel.size
                  clear hsn hq3
                  generalize hw8 : w7.drewN nd = w8 at *
                  clear hw8
                  go_wp2_with (at_builtin; go_loud ((
                    refine wpList_append_own_at _ rfl _ _ 72 rfl w2.heap.size 71 i0 _ 4 32 Tryd.underlying72 hi hz0 hz1 hz2 rfl (by decide) _ l2.length (twV l2) rfl (World.ownsRow.alloc HQ8.out.own _) ⟨w8.heap.size, 0, none⟩ 1 1 [.int .i64 (ya : Int), .int .i64 (yb : Int), .int .i64 (i : Int), .int .i64 (c : Int)] rfl rfl (four_new _ _ _ _ _ _) (by simp [Value.oneCell']) (by unfold maxLen; omega) (by omega) (by simp; omega) ?_
                    intro v9 w9 hown9 hgrow9 _ _
                    have R := RfA.snoc (x := ⟨ya, yb, i, c⟩) HQ8.out.own hpos hown9 hgrow9 HQ8.out.bel (Nat.le_refl _)
                    have HR9 := hid0 R.1
                    have HB9 := hid0 R.2
                    obtain ⟨av9, cv9, ev9, _⟩ := R.1.form
                    rw [List.length_append, List.length_singleton] at ev9
                    subst ev9
                    clear R hown9 hgrow9)))
                  go_roundw
                  case rel => exact ⟨c + 1, l2 ++ [⟨ya, yb, i, c⟩], Wd3, by omega, by go_num, hid0 ⟨HR9.out, HQ3.out, HDf.out, HB9.out⟩, hid0 (by rw [List.length_append]; omega), hid0 ((getD_snoc_old hil2).trans HE2.out)⟩
                  case measure => simp [intOf]; omega
          · have hcI : ¬ (c : Int) < (m : Int) := by omega
            obtain rfl : c = m := by omega
            have HQn : Hid (Rfq T N.length N'.length w2.heap.size w2 wi (.slice av2 l2.length cv2) l2 Wd2 (i + 1) 0) := hid0 ⟨HQ2.out.own, (by rw [HTm.out]; exact HQ2.out.que : Que T l2 Wd2 i T.m).next (by rw [HE2.out, HTa.out, HTb.out]; exact HAb.out), HQ2.out.dif, HQ2.out.bel⟩
            clear hform2
            go_wp2
            go_roundw
            case rel => exact ⟨i + 1, l2, Wd2, by omega, by go_num, HQn⟩
            case measure => simp [intOf]; omega
      · have HEq : Hid (∀ V : World, Below wo.heap.size wo V → Calls Tryd.prog 9 #[.slice a1 ra.length c1, .slice a2 rb.length c2] V fun e w' => e = .returned (.bool false) ∧ ∃ n, w' = V.drewN n) := hid0 (fun V hV => by have h := HEq0.out V hV; rw [decide_eq_false hab] at h; exact h)
        have HBest : Hid (T.Best (Wd i)) := hid0 (HQ.out.que.found hil (by rw [HTa.out, HTb.out]; exact hab))
        have HRs : Hid (r = some (Wd i)) := hid0 (by
          have h : ApA T (some (Wd i)) := ⟨fun q e => (by cases e; exact HBest.out), fun e => (by cases e)⟩
          exact HR.out.one h)
        clear HEq0 hab
        go_wp2
        refine wp_region_noPanic ?_
        refine wp_region_held_drew (S := (fun V => V.cell? ⟨w.heap.size, 2, none⟩ = some (.slice (some ⟨bO, oO, none⟩) O.length cO) ∧ V.cell? ⟨w.heap.size + 1, 2, none⟩ = some (.slice (some ⟨bP, oP, none⟩) O'.length cP) ∧ V.cell? ⟨g, i * 4, none⟩ = some (.int .i64 (xa : Int)) ∧ V.cell? ⟨g, i * 4 + 1, none⟩ = some (.int .i64 (xb : Int)) ∧ V.cell? ⟨bO, oO + xa, none⟩ = some (.slice a1 ra.length c1) ∧ V.cell? ⟨bP, oP + xb, none⟩ = some (.slice a2 rb.length c2))) (by kernel_rfl) ?_ (fun hHeld => ?_)
        · exact HS9.out _ ⟨rfl, rfl, rfl, Nat.le_refl _, fun _ _ => rfl⟩
        refine tkV (i := 0) (d := some 42) (v := ?_) rfl (by kernel_rfl) (by kernel_rfl) (by kernel_rfl) rfl (fun _ _ _ h => h) (by rfl) ?_ (by assumption) ?_
        rotate_left
        · (intro w hSw; (try dsimp only at hSw); (try simp only [List.getElem_toArray, List.getElem_cons_zero]); go_simp; try with_reducible rfl)
        try simp only [Act.put, List.setIfInBounds_toArray, List.set_cons_zero, List.set_cons_succ]
        refine tkV (i := 1) (d := some 43) (v := ?_) rfl (by kernel_rfl) (by kernel_rfl) (by kernel_rfl) rfl (fun _ _ _ h => h) (by rfl) ?_ (by assumption) ?_
        rotate_left
        · (intro w hSw; (try dsimp only at hSw); (try simp only [List.getElem_toArray, List.getElem_cons_zero, List.getElem_cons_succ]); go_simp; try with_reducible rfl)
        try simp only [Act.put, List.setIfInBounds_toArray, List.set_cons_zero, List.set_cons_succ]
        refine tkV (i := 2) (d := some 44) (v := ?_) rfl (by kernel_rfl) (by kernel_rfl) (by kernel_rfl) rfl (fun _ _ _ h => h) (by rfl) ?_ (by assumption) ?_
        rotate_left
        · (intro w hSw; (try dsimp only at hSw); (try simp only [List.getElem_toArray, List.getElem_cons_zero, List.getElem_cons_succ]); go_simp; try with_reducible rfl)
        try simp only [Act.put, List.setIfInBounds_toArray, List.set_cons_zero, List.set_cons_succ]
        refine tkV (i := 3) (d := some 45) (v := ?_) rfl (by kernel_rfl) (by kernel_rfl) (by kernel_rfl) rfl (fun _ _ _ h => h) (by rfl) ?_ (by assumption) ?_
        rotate_left
        · (intro w hSw; (try dsimp only at hSw); (try simp only [List.getElem_toArray, List.getElem_cons_zero, List.getElem_cons_succ]); go_simp; try with_reducible rfl)
        try simp only [Act.put, List.setIfInBounds_toArray, List.set_cons_zero, List.set_cons_succ]
        refine tkV (i := 4) (d := some 46) (v := ?_) rfl (by kernel_rfl) (by kernel_rfl) (by kernel_rfl) rfl (fun _ _ _ h => h) (by rfl) ?_ (by assumption) ?_
        rotate_left
        · (intro w hSw; (try dsimp only at hSw); (try simp only [List.getElem_toArray, List.getElem_cons_zero, List.getElem_cons_succ]); go_simp; try with_reducible rfl)
        try simp only [Act.put, List.setIfInBounds_toArray, List.set_cons_zero, List.set_cons_succ]
        refine tkV (i := 5) (d := some 47) (v := ?_) rfl (by kernel_rfl) (by kernel_rfl) (by kernel_rfl) rfl (fun _ _ _ h => h) (by rfl) ?_ (by assumption) ?_
        rotate_left
        · (intro w hSw; (try dsimp only at hSw); (try simp only [List.getElem_toArray, List.getElem_cons_zero, List.getElem_cons_succ]); go_simp; try with_reducible rfl)
        try simp only [Act.put, List.setIfInBounds_toArray, List.set_cons_zero, List.set_cons_succ]
        refine tkV (i := 6) (d := some 48) (v := ?_) rfl (by kernel_rfl) (by kernel_rfl) (by kernel_rfl) rfl (fun _ _ _ h => h) (by rfl) ?_ (by assumption) ?_
        rotate_left
        · (intro w hSw; (try dsimp only at hSw); (try simp only [List.getElem_toArray, List.getElem_cons_zero, List.getElem_cons_succ]); go_simp; try with_reducible rfl)
        try simp only [Act.put, List.setIfInBounds_toArray, List.set_cons_zero, List.set_cons_succ]
        refine tkV (i := 7) (d := some 49) (v := ?_) rfl (by kernel_rfl) (by kernel_rfl) (by kernel_rfl) rfl (fun _ _ _ h => h) (by rfl) ?_ (by assumption) ?_
        rotate_left
        · (intro w hSw; (try dsimp only at hSw); (try simp only [List.getElem_toArray, List.getElem_cons_zero, List.getElem_cons_succ]); go_simp; try with_reducible rfl)
        try simp only [Act.put, List.setIfInBounds_toArray, List.set_cons_zero, List.set_cons_succ]
        refine tkV (i := 8) (d := some 50) (v := ?_) rfl (by kernel_rfl) (by kernel_rfl) (by kernel_rfl) rfl (fun _ _ _ h => h) (by rfl) ?_ (by assumption) ?_
        rotate_left
        · (intro w hSw; (try dsimp only at hSw); (try simp only [List.getElem_toArray, List.getElem_cons_zero, List.getElem_cons_succ]); go_simp; try with_reducible rfl)
        try simp only [Act.put, List.setIfInBounds_toArray, List.set_cons_zero, List.set_cons_succ]
        refine tkV (i := 9) (d := some 51) (v := ?_) rfl (by kernel_rfl) (by kernel_rfl) (by kernel_rfl) rfl (fun _ _ _ h => h) (by rfl) ?_ (by assumption) ?_
        rotate_left
        · (intro w hSw; (try dsimp only at hSw); (try simp only [List.getElem_toArray, List.getElem_cons_zero, List.getElem_cons_succ]); go_simp; try with_reducible rfl)
        try simp only [Act.put, List.setIfInBounds_toArray, List.set_cons_zero, List.set_cons_succ]
        refine tkV (i := 10) (d := some 52) (v := ?_) rfl (by kernel_rfl) (by kernel_rfl) (by kernel_rfl) rfl (fun _ _ _ h => h) (by rfl) ?_ (by assumption) ?_
        rotate_left
        · (intro w hSw; (try dsimp only at hSw); (try simp only [List.getElem_toArray, List.getElem_cons_zero, List.getElem_cons_succ]); go_simp; try with_reducible rfl)
        try simp only [Act.put, List.setIfInBounds_toArray, List.set_cons_zero, List.set_cons_succ]
        refine tkV (i := 11) (d := some 53) (v := ?_) rfl (by kernel_rfl) (by kernel_rfl) (by kernel_rfl) rfl (fun _ _ _ h => h) (by rfl) ?_ (by assumption) ?_
        rotate_left
        · (intro w hSw; (try dsimp only at hSw); (try simp only [List.getElem_toArray, List.getElem_cons_zero, List.getElem_cons_succ]); go_simp; try with_reducible rfl)
        try simp only [Act.put, List.setIfInBounds_toArray, List.set_cons_zero, List.set_cons_succ]
        refine tkV (i := 12) (d := some 54) (v := ?_) rfl (by kernel_rfl) (by kernel_rfl) (by kernel_rfl) rfl (fun _ _ _ h => h) (by rfl) ?_ (by assumption) ?_
        rotate_left
        · (intro w hSw; (try dsimp only at hSw); (try simp only [List.getElem_toArray, List.getElem_cons_zero, List.getElem_cons_succ]); go_simp; try with_reducible rfl)
        try simp only [Act.put, List.setIfInBounds_toArray, List.set_cons_zero, List.set_cons_succ]
        refine tkV (i := 13) (d := some 55) (v := ?_) rfl (by kernel_rfl) (by kernel_rfl) (by kernel_rfl) rfl (fun _ _ _ h => h) (by rfl) ?_ (by assumption) ?_
        rotate_left
        · (intro w hSw; (try dsimp only at hSw); (try simp only [List.getElem_toArray, List.getElem_cons_zero, List.getElem_cons_succ]); go_simp; try with_reducible rfl)
        try simp only [Act.put, List.setIfInBounds_toArray, List.set_cons_zero, List.set_cons_succ]
        refine tkV (i := 14) (d := some 56) (v := ?_) rfl (by kernel_rfl) (by kernel_rfl) (by kernel_rfl) rfl (fun _ _ _ h => h) (by rfl) ?_ (by assumption) ?_
        rotate_left
        · (intro w hSw; (try dsimp only at hSw); (try simp only [List.getElem_toArray, List.getElem_cons_zero, List.getElem_cons_succ]); go_simp; try with_reducible rfl)
        try simp only [Act.put, List.setIfInBounds_toArray, List.set_cons_zero, List.set_cons_succ]
        refine tkV (i := 15) (d := some 57) (v := ?_) rfl (by kernel_rfl) (by kernel_rfl) (by kernel_rfl) rfl (fun _ _ _ h => h) (by rfl) ?_ (by assumption) ?_
        rotate_left
        · (intro w hSw; (try dsimp only at hSw); (try simp only [List.getElem_toArray, List.getElem_cons_zero, List.getElem_cons_succ]); go_simp; try with_reducible rfl)
        try simp only [Act.put, List.setIfInBounds_toArray, List.set_cons_zero, List.set_cons_succ]
        refine tkV (i := 16) (d := some 58) (v := ?_) rfl (by kernel_rfl) (by kernel_rfl) (by kernel_rfl) rfl (fun _ _ _ h => h) (by rfl) ?_ (by assumption) ?_
        rotate_left
        · (intro w hSw; (try dsimp only at hSw); (try simp only [List.getElem_toArray, List.getElem_cons_zero, List.getElem_cons_succ]); go_simp; try with_reducible rfl)
        try simp only [Act.put, List.setIfInBounds_toArray, List.set_cons_zero, List.set_cons_succ]
        refine tkV (i := 17) (d := some 59) (v := ?_) rfl (by kernel_rfl) (by kernel_rfl) (by kernel_rfl) rfl (fun _ _ _ h => h) (by rfl) ?_ (by assumption) ?_
        rotate_left
        · (intro w hSw; (try dsimp only at hSw); (try simp only [List.getElem_toArray, List.getElem_cons_zero, List.getElem_cons_succ]); go_simp; try with_reducible rfl)
        try simp only [Act.put, List.setIfInBounds_toArray, List.set_cons_zero, List.set_cons_succ]
        refine wpAnyH_ready (rs := [18]) (by kernel_rfl) (by simp) (AllReadyH.cons rfl (fun K hK => ?_) AllReadyH.nil)
        try simp only [List.getElem_toArray, List.getElem_cons_zero, List.getElem_cons_succ]
        go_simp
        refine (HEq.out wo.drew ⟨rfl, rfl, rfl, Nat.le_refl _, fun _ _ => rfl⟩).mono ?_
        rintro e w5 ⟨rfl, nq, hw5⟩
        have HS5 := hid0 (HS9.out w5 (by rw [hw5]; exact ⟨rfl, rfl, rfl, Nat.le_refl _, fun _ _ => rfl⟩))
        have HB5 : Hid (Below wo.heap.size wo w5) := hid0 (by rw [hw5]; exact ⟨rfl, rfl, rfl, Nat.le_refl _, fun _ _ => rfl⟩)
        clear hw5
        go_wp2_with fail
        refine hK.out _ _ ?_ (fun hHeld18 => ?_)
        · exact HS5.out
        clear hK K
        (try simp only [Act.put]); (try simp only [List.setIfInBounds_toArray]); (try simp only [List.set_cons_succ]); (try simp only [List.set_cons_zero])
        refine tkV (i := 19) (d := some 13) (v := ?_) rfl (by kernel_rfl) (by kernel_rfl) (by kernel_rfl) rfl (fun _ _ _ h => h) (by rfl) ?_ (by assumption) ?_
        rotate_left
        · (intro w hSw; (try dsimp only at hSw); (try simp only [List.getElem_toArray, List.getElem_cons_zero, List.getElem_cons_succ]); go_simp; try with_reducible rfl)
        try simp only [Act.put, List.setIfInBounds_toArray, List.set_cons_zero, List.set_cons_succ]
        refine wpAnyH_done (by kernel_rfl) ?_ _
        refine NoPanic.normal ?_
        have HWt := hid0 (refWord_any T l Wd (some ⟨g, 0, none⟩) cv i w5 HQ.out.que.met (by omega) (HTw.out.past HB5.out) hil)
        have hlow : Below w.heap.size w w5 := (HAl.out w5 (HBw.out.trans (HB5.out.mono HBw.out.size))).2.2
        have HLow := hid0 hlow
        clear hHeld hHeld18 HS5 HS9 HEq HTw HQ d0 d1 x0 x1 x2 x3 x4 x5 hlow
        go_wp2_with (go_at_call 36; go_loud ((
          refine HWt.out.mono ?_
          rintro e w6 ⟨v6, rfl, ho6, hb6⟩
          have HO6 := hid0 ho6
          have HB6 := hid0 hb6
          clear ho6 hb6)))
        go_returns
        refine ⟨v6, ?_, ?_, HLow.out.trans (HB6.out.mono HLow.out.size)⟩
        · rw [HRs.out]; rfl
        · rw [HRs.out]; exact owns_lower HO6.out HLow.out.size
    · have he : i = l.length := by omega
      have heI : ¬ (i : Int) < (l.length : Int) := by omega
      have HRn : Hid (r = none) := hid0 (by
        have h : ApA T none := ⟨fun q e => (by cases e), fun _ => (by have := HQ.out.que; rw [he] at this; exact this.none)⟩
        exact HR.out.one h)
      have HLow := hid0 (HAl.out wo hb2w).2.2
      clear he hform htw hb2w
      go_wp2
      go_returns
      refine ⟨.slice none 0 0, ?_, ?_, HLow.out⟩
      · rw [HRn.out]; rfl
      · rw [HRn.out]; exact World.ownsRow_nil _ _ _ _
end Go.Proofs.YthoogkpiacopiaaDoor
namespace Go.Proofs.YthoogkpiacopiaaDoor
open Go.RowKit Go.Shelf
set_option maxRecDepth 10000 in
set_option maxHeartbeats 800000 in
theorem refApart_any (sa sb sy : Int) (N O N' O' : List (List Int)) (aN aO aM aP : Option Addr) (cN cO cM cP : Nat) (w : World) (hs : Sml N O) (hs' : Sml N' O') (hpr : N.length * N'.length ≤ 1000000000000) (ha : MaA w aN aO N O) (hb : MaA w aM aP N' O') (res : Option (Option (List Nat))) (hr : ApR sa sb sy N O N' O' res) :
    Calls Tryd.prog 8 #[.agg #[.int .i64 sa, .slice aN N.length cN, .slice aO O.length cO], .agg #[.int .i64 sb, .slice aM N'.length cM, .slice aP O'.length cP], .int .i64 sy] w fun e w' => RfR w res e w' := by
  cases hr with
  | good m r hm h1 h2 h3 h4 h =>
    subst hm
    obtain ⟨pa, rfl⟩ : ∃ pa : Nat, sa = (pa : Int) := ⟨sa.toNat, by have := h3.start; omega⟩
    obtain ⟨pb, rfl⟩ : ∃ pb : Nat, sb = (pb : Int) := ⟨sb.toNat, by have := h4.start; omega⟩
    exact refApart_good m pa pb N O N' O' aN aO aM aP cN cO cM cP w hs hs' hpr ha hb r h1 h2 h3 h4 h
  | bad h =>
    obtain ⟨w0, hw0, hB0, hsz0, hA0, hM0⟩ := two_boxes w #[.int .i64 sa, .slice aN N.length cN, .slice aO O.length cO] #[.int .i64 sb, .slice aM N'.length cM, .slice aP O'.length cP] 24
    have HCl : Hid (∀ V : World, Below w0.heap.size w0 V → (V.cell? ⟨w.heap.size, 0, none⟩ = some (.int .i64 sa) ∧ V.cell? ⟨w.heap.size, 1, none⟩ = some (.slice aN N.length cN) ∧ V.cell? ⟨w.heap.size, 2, none⟩ = some (.slice aO O.length cO)) ∧ (V.cell? ⟨w.heap.size + 1, 0, none⟩ = some (.int .i64 sb) ∧ V.cell? ⟨w.heap.size + 1, 1, none⟩ = some (.slice aM N'.length cM) ∧ V.cell? ⟨w.heap.size + 1, 2, none⟩ = some (.slice aP O'.length cP))) := hid0 (fun V hV => ⟨row3c ((hV.block _ (by omega)).trans hA0), row3c ((hV.block _ (by omega)).trans hM0)⟩)
    have HAl : Hid (∀ V : World, Below w0.heap.size w0 V → MaA V aN aO N O ∧ MaA V aM aP N' O' ∧ Below w.heap.size w V) := hid0 (fun V hV => by
      have h := hB0.trans (hV.mono (by omega))
      exact ⟨ha.past h, hb.past h, h⟩)
    obtain ⟨⟨x0, x1, x2⟩, ⟨x3, x4, x5⟩⟩ := HCl.out w0 (Below.refl _ _)
    have HM1 := hid0 (refMayBe_any sa sy N O aN aO cN cO w0 (by have := hs.n; omega) (fun r hr => by have := hs.nr r hr; omega) (fun r hr => by have := hs.or r hr; omega) (HAl.out w0 (Below.refl _ _)).1.n (HAl.out w0 (Below.refl _ _)).1.o)
    have HM2 : Hid (∀ V : World, Below w0.heap.size w0 V → Calls Tryd.prog 35 #[.agg #[.int .i64 sb, .slice aM N'.length cM, .slice aP O'.length cP], .int .i64 sy] V fun e w' => e = .returned (.bool (mayF sb N' O' sy)) ∧ Below V.heap.size V w') := hid0 (fun V hV => refMayBe_any sb sy N' O' aM aP cM cP V (by have := hs'.n; omega) (fun r hr => by have := hs'.nr r hr; omega) (fun r hr => by have := hs'.or r hr; omega) (HAl.out V hV).2.1.n (HAl.out V hV).2.1.o)
    clear hB0 hA0 hM0 ha hb hsz0
    generalize mayF sa N O sy = b1 at *
    generalize mayF sb N' O' sy = b2 at *
    have hbb : b1 = false ∨ (b1 = true ∧ b2 = false) := by
      cases b1 with
      | false => exact .inl rfl
      | true => cases b2 with
        | false => exact .inr ⟨rfl, rfl⟩
        | true => exact (h rfl rfl).elim
    clear h
    rcases hbb with rfl | ⟨rfl, rfl⟩
    · go_enter Tryd.func8, Tryd.ntmps8
      go_wp2_with (first
        | (go_at_call 35; have hq := HB1.out; refine (HM2.out _ hq).mono ?_; rintro e w2 ⟨rfl, hb2⟩; have HB2 : Hid (Below w0.heap.size w0 w2) := hid0 (hq.trans (hb2.mono hq.size)); clear hb2 hq)
        | (go_at_call 35; refine HM1.out.mono ?_; rintro e w1 ⟨rfl, hb1⟩; have HB1 := hid0 hb1; obtain ⟨_, ⟨y3, y4, y5⟩⟩ := HCl.out w1 hb1; clear hb1 HM1))
      go_returns
      exact ⟨_, rfl, World.ownsRow_nil _ _ _ _, (HAl.out w2 HB2.out).2.2⟩
    · go_enter Tryd.func8, Tryd.ntmps8
      go_wp2_with (first
        | (go_at_call 35; have hq := HB1.out; refine (HM2.out _ hq).mono ?_; rintro e w2 ⟨rfl, hb2⟩; have HB2 : Hid (Below w0.heap.size w0 w2) := hid0 (hq.trans (hb2.mono hq.size)); clear hb2 hq)
        | (go_at_call 35; refine HM1.out.mono ?_; rintro e w1 ⟨rfl, hb1⟩; have HB1 := hid0 hb1; obtain ⟨_, ⟨y3, y4, y5⟩⟩ := HCl.out w1 hb1; clear hb1 HM1))
      go_returns
      exact ⟨_, rfl, World.ownsRow_nil _ _ _ _, (HAl.out w2 HB2.out).2.2⟩
end Go.Proofs.YthoogkpiacopiaaDoor
namespace Go.Proofs.YthoogkpiacopiaaDoor
open Go.RowKit Go.Shelf
theorem RwX.kpd {w w' : World} {G : Nat} {ns : List Nat} {D E : Nat → Prop} (h : RwX w (some ⟨G, 0, none⟩) ns D) (hk : Kpd w w' E) (hG : ¬ E G) (hd : ∀ k, D k → ¬ E k) : RwX w' (some ⟨G, 0, none⟩) ns D := ⟨fun k hk' => by
  obtain ⟨b, off, e, h1, a1, c1, h2, h3⟩ := h.at' k hk'
  cases e
  refine ⟨G, 0, rfl, Nat.lt_of_lt_of_le h1 hk.size, a1, c1, hk.cell hG h2, fun j hj => ?_⟩
  obtain ⟨b', o', e, hd', h4, ⟨z, h5⟩, cs, t, h6⟩ := h3 j hj
  exact ⟨b', o', e, hd', Nat.lt_of_lt_of_le h4 hk.size, ⟨z, hk.cell (hd b' hd') h5⟩, cs, t, (hk.oth _ h4 (hd b' hd')).trans h6⟩⟩
theorem Sents.kpd {w w' : World} {A : Nat → Addr} {D : Nat → Prop} {lo : Nat} (h : Sents w A) (hk : Kpd w w' D) (hl : ∀ k, D k → lo ≤ k) (hg : ∀ k, k < 11 → (A k).block < lo) (hv : 0 < lo ∧ 1 < lo ∧ 2 < lo ∧ 3 < lo ∧ 4 < lo ∧ 6 < lo ∧ 5 < lo ∧ 7 < lo ∧ 8 < lo ∧ 9 < lo ∧ 10 < lo) : Sents w' A := by
  have key : ∀ {b : Nat} {u : Value}, b < lo → w.cell? ⟨b, 0, none⟩ = some u → w'.cell? ⟨b, 0, none⟩ = some u := fun hb hc => hk.cell (fun hd => absurd (hl _ hd) (by omega)) hc
  obtain ⟨v0, v1, v2, v3, v4, v5, v6, v7, v8, v9, v10⟩ := hv
  exact ⟨key v0 h.c0, key v1 h.c1, key v2 h.c2, key v3 h.c3, key v4 h.c4, key v5 h.c5, key v6 h.c6, key v7 h.c7, key v8 h.c8, key v9 h.c9, key v10 h.c10, h.ne, fun i hi => by
    obtain ⟨c, t, hc⟩ := h.blk i hi
    exact ⟨c, t, (hk.oth _ (Array.getElem?_eq_some_iff.1 hc).1 (fun hd => absurd (hl _ hd) (by have := hg i hi; omega))).trans hc⟩⟩
/-- All of the refusals lie below. -/
structure Low (A : Nat → Addr) (lo : Nat) : Prop where
  a : ∀ k, k < 11 → (A k).block < lo
  g : 0 < lo ∧ 1 < lo ∧ 2 < lo ∧ 3 < lo ∧ 4 < lo ∧ 6 < lo ∧ 5 < lo ∧ 7 < lo ∧ 8 < lo ∧ 9 < lo ∧ 10 < lo
theorem Sents.low {w : World} {A : Nat → Addr} (h : Sents w A) : Low A w.heap.size := by
  refine ⟨fun k hk => by obtain ⟨c, t, hc⟩ := h.blk k hk; exact (Array.getElem?_eq_some_iff.1 hc).1, ?_⟩
  have key : ∀ {b : Nat} {u : Value}, w.cell? ⟨b, 0, none⟩ = some u → b < w.heap.size := fun hc => World.block_lt_of_cell? w _ hc
  exact ⟨key h.c0, key h.c1, key h.c2, key h.c3, key h.c4, key h.c5, key h.c6, key h.c7, key h.c8, key h.c9, key h.c10⟩
def rng (lo hi : Nat) : Nat → Prop := fun b => lo ≤ b ∧ b < hi
/-- Two machines of the law's own, while others write: the first from l1 to h1, the second from l2 to h2. -/
structure LwE (A : Nat → Addr) (X Y1 Y2 l1 h1 l2 h2 G1 H1 G2 H2 c1 d1 c2 d2 : Nat) (sa sb sy : Int) (ns os ms ps : List Nat) (V : World) : Prop where
  xs : V.cell? ⟨X, 6, none⟩ = some (.int .i64 sy)
  ym : V.heap[Y1]? = some (.cells #[.int .i64 sa, .slice (some ⟨G1, 0, none⟩) ns.length c1, .slice (some ⟨H1, 0, none⟩) os.length d1] 24 (0, 0))
  yn : V.heap[Y2]? = some (.cells #[.int .i64 sb, .slice (some ⟨G2, 0, none⟩) ms.length c2, .slice (some ⟨H2, 0, none⟩) ps.length d2] 24 (0, 0))
  se : Sents V A
  m1 : RwX V (some ⟨G1, 0, none⟩) ns (rng l1 h1)
  m2 : RwX V (some ⟨H1, 0, none⟩) os (rng l1 h1)
  n1 : RwX V (some ⟨G2, 0, none⟩) ms (rng l2 h2)
  n2 : RwX V (some ⟨H2, 0, none⟩) ps (rng l2 h2)
  big : h2 ≤ V.heap.size
/-- Where they lie. -/
structure LwS (A : Nat → Addr) (X Y1 Y2 l1 h1 l2 h2 G1 H1 G2 H2 : Nat) : Prop where
  lw : Low A l1
  o1 : X < l1
  o2 : l1 ≤ G1 ∧ G1 < h1 ∧ l1 ≤ H1 ∧ H1 < h1
  o3 : h1 ≤ Y1 ∧ Y1 < l2
  o4 : l2 ≤ G2 ∧ G2 < h2 ∧ l2 ≤ H2 ∧ H2 < h2
  o5 : h2 ≤ Y2
  o6 : l1 ≤ h1
section
variable {A : Nat → Addr} {X Y1 Y2 l1 h1 l2 h2 G1 H1 G2 H2 c1 d1 c2 d2 : Nat} {sa sb sy : Int} {ns os ms ps : List Nat} {V V' : World}
theorem LwE.later (h : LwE A X Y1 Y2 l1 h1 l2 h2 G1 H1 G2 H2 c1 d1 c2 d2 sa sb sy ns os ms ps V) (hb : Below V.heap.size V V') : LwE A X Y1 Y2 l1 h1 l2 h2 G1 H1 G2 H2 c1 d1 c2 d2 sa sb sy ns os ms ps V' :=
  ⟨(hb.cell (p := ⟨X, 6, none⟩) (World.block_lt_of_cell? _ _ h.xs)).trans h.xs, (hb.block _ (Array.getElem?_eq_some_iff.1 h.ym).1).trans h.ym, (hb.block _ (Array.getElem?_eq_some_iff.1 h.yn).1).trans h.yn, h.se.below hb, h.m1.later hb, h.m2.later hb, h.n1.later hb, h.n2.later hb, Nat.le_trans h.big hb.size⟩
theorem LwE.turn1 (h : LwE A X Y1 Y2 l1 h1 l2 h2 G1 H1 G2 H2 c1 d1 c2 d2 sa sb sy ns os ms ps V) (hs : LwS A X Y1 Y2 l1 h1 l2 h2 G1 H1 G2 H2) (ht : TurR V (some ⟨G1, 0, none⟩) (some ⟨H1, 0, none⟩) ns os (rng l1 h1) V') : LwE A X Y1 Y2 l1 h1 l2 h2 G1 H1 G2 H2 c1 d1 c2 d2 sa sb sy ns os ms ps V' := by
  obtain ⟨t1, t2, hk⟩ := ht
  have q1 := hs.o1; have q2 := hs.o2; have q3 := hs.o3; have q4 := hs.o4; have q5 := hs.o5
  refine ⟨hk.cell (fun hd => by have := hd.1; omega) h.xs, (hk.oth _ (Array.getElem?_eq_some_iff.1 h.ym).1 (fun hd => by have := hd.2; omega)).trans h.ym, (hk.oth _ (Array.getElem?_eq_some_iff.1 h.yn).1 (fun hd => by have := hd.2; omega)).trans h.yn, h.se.kpd hk (lo := l1) (fun k hd => hd.1) hs.lw.a hs.lw.g, t1, t2, h.n1.kpd hk (fun hd => by have := hd.2; omega) (fun k hd he => by have := hd.1; have := he.2; omega), h.n2.kpd hk (fun hd => by have := hd.2; omega) (fun k hd he => by have := hd.1; have := he.2; omega), Nat.le_trans h.big hk.size⟩
theorem LwE.turn2 (h : LwE A X Y1 Y2 l1 h1 l2 h2 G1 H1 G2 H2 c1 d1 c2 d2 sa sb sy ns os ms ps V) (hs : LwS A X Y1 Y2 l1 h1 l2 h2 G1 H1 G2 H2) (ht : TurR V (some ⟨G2, 0, none⟩) (some ⟨H2, 0, none⟩) ms ps (rng l2 h2) V') : LwE A X Y1 Y2 l1 h1 l2 h2 G1 H1 G2 H2 c1 d1 c2 d2 sa sb sy ns os ms ps V' := by
  obtain ⟨t1, t2, hk⟩ := ht
  have q1 := hs.o1; have q2 := hs.o2; have q3 := hs.o3; have q4 := hs.o4; have q5 := hs.o5; have q6 := hs.o6
  refine ⟨hk.cell (fun hd => by have := hd.1; omega) h.xs, (hk.oth _ (Array.getElem?_eq_some_iff.1 h.ym).1 (fun hd => by have := hd.1; omega)).trans h.ym, (hk.oth _ (Array.getElem?_eq_some_iff.1 h.yn).1 (fun hd => by have := hd.2; omega)).trans h.yn, h.se.kpd hk (lo := l1) (fun k hd => by have := hd.1; omega) hs.lw.a hs.lw.g, h.m1.kpd hk (fun hd => by have := hd.1; omega) (fun k hd he => by have := hd.2; have := he.1; omega), h.m2.kpd hk (fun hd => by have := hd.1; omega) (fun k hd he => by have := hd.2; have := he.1; omega), t1, t2, Nat.le_trans h.big hk.size⟩
/-- Lengths that are small. -/
structure Smn (ns os : List Nat) : Prop where
  n : ns.length ≤ 2000000
  o : os.length ≤ 2000000
  nr : ∀ k ∈ ns, k ≤ 2000000
  or : ∀ k ∈ os, k ≤ 2000000
theorem Smn.sml {N O : List (List Int)} (h : Smn (N.map List.length) (O.map List.length)) : Sml N O :=
  ⟨by simpa using h.n, fun r hr => h.nr _ (List.mem_map_of_mem hr), fun r hr => h.or _ (List.mem_map_of_mem hr)⟩
/-- What both say of the machines as they are now. -/
theorem LwE.both (h : LwE A X Y1 Y2 l1 h1 l2 h2 G1 H1 G2 H2 c1 d1 c2 d2 sa sb sy ns os ms ps V) (hn : Smn ns os) (hm : Smn ms ps) (hpr : ns.length * ms.length ≤ 1000000000000) : ∃ res,
    Calls Tryd.prog 8 #[.agg #[.int .i64 sa, .slice (some ⟨G1, 0, none⟩) ns.length c1, .slice (some ⟨H1, 0, none⟩) os.length d1], .agg #[.int .i64 sb, .slice (some ⟨G2, 0, none⟩) ms.length c2, .slice (some ⟨H2, 0, none⟩) ps.length d2], .int .i64 sy] V (fun e w' => RfR V res e w') ∧
    ∀ W, Below V.heap.size V W → Calls Tryd.prog 6 #[.agg #[.int .i64 sa, .slice (some ⟨G1, 0, none⟩) ns.length c1, .slice (some ⟨H1, 0, none⟩) os.length d1], .agg #[.int .i64 sb, .slice (some ⟨G2, 0, none⟩) ms.length c2, .slice (some ⟨H2, 0, none⟩) ps.length d2], .int .i64 sy] W fun e w' => ∃ v, e = .returned (.tuple #[v, .bool (apB res), errQ A res]) ∧ OwnI w' W.heap.size v (apW res) ∧ (apW res).length ≤ 4000000 ∧ Below W.heap.size W w' := by
  obtain ⟨N, eN, rN⟩ := h.m1.read
  obtain ⟨O, eO, rO⟩ := h.m2.read
  obtain ⟨N', eN', rN'⟩ := h.n1.read
  obtain ⟨O', eO', rO'⟩ := h.n2.read
  subst eN eO eN' eO'
  obtain ⟨res, hr⟩ := apR_ex sa sb sy N O N' O'
  simp only [List.length_map] at hpr ⊢
  refine ⟨res, refApart_any sa sb sy N O N' O' _ _ _ _ c1 d1 c2 d2 V hn.sml hm.sml hpr ⟨rN, rO⟩ ⟨rN', rO'⟩ res hr, fun W hW => apart_any A sa sb sy N O N' O' _ _ _ _ c1 d1 c2 d2 W hn.sml hm.sml ((⟨rN, rO⟩ : MaA V _ _ N O).past hW) ((⟨rN', rO'⟩ : MaA V _ _ N' O').past hW) (h.se.below hW) res hr⟩
theorem numQ {w : World} (h : Sents w A) (res : Option (Option (List Nat))) : Calls Tryd.prog 10 #[errQ A res] w fun e w' => e = .returned (.int .i64 (apE res)) ∧ w' = w := by
  cases res with
  | none => exact kitNum_at w A h 0 (by omega)
  | some r => cases r <;> exact kitNum_nil w
theorem sameW (L : List Int) (x y : Option Addr) (cx cy : Nat) (w : World) (hl : L.length ≤ 17592186044000) (hx : IA w x L) (hy : IA w y L) : Calls Tryd.prog 9 #[.slice x L.length cx, .slice y L.length cy] w fun e w' => e = .returned (.bool true) ∧ Below w.heap.size w w' := by
  refine (sameInts_any L L x y cx cy w hl hx hy).mono ?_
  rintro e w' ⟨h1, m, rfl⟩
  rw [decide_eq_true rfl] at h1
  exact ⟨h1, below_drew' (Below.refl _ _) m⟩
end
end Go.Proofs.YthoogkpiacopiaaDoor
