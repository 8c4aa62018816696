/-
  MxYW.
-/
import Derived.Test.YtbbejfkgopcjoaaDoorNebm
namespace Go.Proofs.YtbbejfkgopcjoaaDoor
open Go.RowKit Go.Shelf
set_option maxRecDepth 10000 in
set_option maxHeartbeats 6400000 in
theorem machineBuilds_any (A : Nat → Addr) (rs : List Pr) (sy most : Int) (aP : Option Addr) (cP : Nat) (w : World) (hp : PaI w aP rs) (he : EnvA w A) (hi : BIn rs sy most) (hsh : ∀ rs', ShpL rs rs' → PrB rs') :
    Calls Tryd.prog 7 #[.agg #[.slice aP rs.length cP, .int .i64 sy, .int .i64 most]] w fun e w' => e = .returned (.bool true) ∧ Below w.heap.size w w' := by
  obtain ⟨n, hn⟩ : ∃ n, n = rs.length := ⟨_, rfl⟩
  have hrl := hi.bnd.len
  have hz := hp.z
  obtain ⟨w0, hw0⟩ : ∃ w0, w0 = w.alloc (.cells #[.slice aP n cP, .int .i64 sy, .int .i64 most] 24) := ⟨_, rfl⟩
  have hb0 : Below w.heap.size w w0 := by rw [hw0]; exact below_alloc1 _ _
  have hr0 : w0.heap[w.heap.size]? = some (.cells #[.slice aP n cP, .int .i64 sy, .int .i64 most] 24 (0, 0)) := by rw [hw0]; exact heap_alloc_new w _
  have HX : Hid (∀ V, Below w0.heap.size w0 V → (V.heap[w.heap.size]? = some (.cells #[.slice aP n cP, .int .i64 sy, .int .i64 most] 24 (0, 0)) ∧ V.cell? ⟨w.heap.size, 0, none⟩ = some (.slice aP n cP) ∧ V.cell? ⟨w.heap.size, 1, none⟩ = some (.int .i64 sy) ∧ V.cell? ⟨w.heap.size, 2, none⟩ = some (.int .i64 most)) ∧ PaI V aP rs ∧ EnvA V A) := hid0 (fun V hV => by
    have hr := (hV.block _ (Array.getElem?_eq_some_iff.1 hr0).1).trans hr0
    exact ⟨⟨hr, row3c hr⟩, hp.past (Below.later hb0 hV), he.past (Below.later hb0 hV)⟩)
  have HPt : Hid (Calls Tryd.prog 16 #[.slice aP n cP] w0 fun e w' => ∃ G c, e = .returned (.slice (some ⟨G, 0, none⟩) n c) ∧ Hid (PatK w' w0.heap.size G c rs ∧ Below w0.heap.size w0 w' ∧ w0.heap.size ≤ G)) := hid0 (by
    have h := patterns_any aP cP rs w0 (hp.past hb0) hrl
    rw [← hn] at h
    exact h)
  obtain ⟨X, hX⟩ : ∃ X, X = bX rs sy most := ⟨_, rfl⟩
  obtain ⟨Y, hY⟩ : ∃ Y, Y = bX [ltP] 2 9 := ⟨_, rfl⟩
  obtain ⟨lN, hlN⟩ : ∃ x, x = X.1.length := ⟨_, rfl⟩
  obtain ⟨lO, hlO⟩ : ∃ x, x = X.2.length := ⟨_, rfl⟩
  obtain ⟨pN, hpN⟩ : ∃ x, x = Y.1.length := ⟨_, rfl⟩
  obtain ⟨pO, hpO⟩ : ∃ x, x = Y.2.length := ⟨_, rfl⟩
  obtain ⟨ev, hev⟩ : ∃ ev, ev = bE A rs sy most := ⟨_, rfl⟩
  obtain ⟨z, hzc⟩ : ∃ z, z = bC rs sy most := ⟨_, rfl⟩
  have HBm : Hid (∀ (V : World) (a : Option Addr) (c : Nat), Below w0.heap.size w0 V → PaI V a rs → Calls Tryd.prog 9 #[.slice a n c, .int .i64 sy, .int .i64 most] V fun e w' => ∃ aN aO cN cO NX OU, e = .returned (.tuple #[.agg #[.int .i64 0, .slice aN lN cN, .slice aO lO cO], ev]) ∧ Hid ((MLs w' V.heap.size (.slice aN lN cN) (.slice aO lO cO) NX OU X.1 X.2 ∧ MRd w' aN aO X.1 X.2) ∧ Below V.heap.size V w')) := hid0 (fun V a c hV hpa => by
    have h := build_s (c := c) hpa (HX.out V hV).2.2 hi
    rw [← hn, ← hX, ← hlN, ← hlO, ← hev] at h
    exact h)
  have HBr : Hid (∀ (V : World) (a : Option Addr) (c : Nat), PaI V a rs → Calls Tryd.prog 18 #[.slice a n c, .int .i64 sy, .int .i64 most] V fun e w' => ∃ aN aO cN cO, e = .returned (.tuple #[.agg #[.int .i64 0, .slice aN lN cN, .slice aO lO cO], .int .i64 z]) ∧ Hid (MRd w' aN aO X.1 X.2 ∧ Below V.heap.size V w')) := hid0 (fun V a c hpa => by
    have h := refBuild_r (c := c) hpa hi
    rw [← hn, ← hX, ← hlN, ← hlO, ← hzc] at h
    exact h)
  have HBo : Hid (∀ (V : World) (a : Option Addr), Below w0.heap.size w0 V → PaI V a [ltP] → Calls Tryd.prog 9 #[.slice a 1 1, .int .i64 2, .int .i64 9] V fun e w' => ∃ aN aO cN cO NX OU, e = .returned (.tuple #[.agg #[.int .i64 0, .slice aN pN cN, .slice aO pO cO], .nilIface]) ∧ Hid ((MLs w' V.heap.size (.slice aN pN cN) (.slice aO pO cO) NX OU Y.1 Y.2 ∧ MRd w' aN aO Y.1 Y.2) ∧ Below V.heap.size V w')) := hid0 (fun V a hV hpa => by
    have h := build_s (c := 1) hpa (HX.out V hV).2.2 ltP_in
    rw [← hY, ← hpN, ← hpO, ltP_e] at h
    exact h)
  have HBq : Hid (∀ (V : World) (a : Option Addr), PaI V a [ltP] → Calls Tryd.prog 18 #[.slice a 1 1, .int .i64 2, .int .i64 9] V fun e w' => ∃ zq, ∃ aN aO cN cO, e = .returned (.tuple #[.agg #[.int .i64 0, .slice aN pN cN, .slice aO pO cO], .int .i64 zq]) ∧ Hid (MRd w' aN aO Y.1 Y.2 ∧ Below V.heap.size V w')) := hid0 (fun V a hpa => by
    have h := refBuild_r (c := 1) hpa ltP_in
    rw [← hY, ← hpN, ← hpO] at h
    exact h.mono (fun e w' hh => ⟨_, hh⟩))
  have HNu : Hid (∀ V, Below w0.heap.size w0 V → Calls Tryd.prog 19 #[ev] V fun e w' => e = .returned (.int .i64 z) ∧ w' = V) := hid0 (fun V hV => by
    have h := num_b rs sy most (HX.out V hV).2.2
    rw [← hev, ← hzc] at h
    exact h)
  have HS1 : Hid (∀ (V : World) (aN aO aM aP : Option Addr) (cN cO cM cP : Nat), MRd V aN aO X.1 X.2 → MRd V aM aP X.1 X.2 → Calls Tryd.prog 11 #[.agg #[.int .i64 0, .slice aN lN cN, .slice aO lO cO], .agg #[.int .i64 0, .slice aM lN cM, .slice aP lO cP]] V fun e w' => e = .returned (.bool true) ∧ Below V.heap.size V w') := hid0 (fun V aN aO aM aP cN cO cM cP h1 h2 => by
    rw [hX] at h1 h2
    have h := same_b (cN := cN) (cO := cO) (cM := cM) (cP := cP) hi.bnd h1 h2
    rw [← hX, ← hlN, ← hlO] at h
    exact h)
  have HS2 : Hid (∀ (V : World) (aN aO aM aP : Option Addr) (cN cO cM cP : Nat), MRd V aN aO Y.1 Y.2 → MRd V aM aP Y.1 Y.2 → Calls Tryd.prog 11 #[.agg #[.int .i64 0, .slice aN pN cN, .slice aO pO cO], .agg #[.int .i64 0, .slice aM pN cM, .slice aP pO cP]] V fun e w' => e = .returned (.bool true) ∧ Below V.heap.size V w') := hid0 (fun V aN aO aM aP cN cO cM cP h1 h2 => by
    rw [hY] at h1 h2
    have h := same_b (cN := cN) (cO := cO) (cM := cM) (cP := cP) ltP_in.bnd h1 h2
    rw [← hY, ← hpN, ← hpO] at h
    exact h)
  have HStl : Hid (∀ (V : World) (G c : Nat), PatK V w0.heap.size G c rs → PaI V aP rs → Calls Tryd.prog 20 #[.slice (some ⟨G, 0, none⟩) n c, .slice aP n cP] V fun e w' => e = .returned (.bool true) ∧ Hid (Below V.heap.size V w')) := hid0 (fun V G c h1 h2 => by
    have h := stillAll_any w0.heap.size G c cP aP rs V h1 h2 hrl
    rw [← hn] at h
    exact h)
  have HBu : Hid (∀ (V : World) (G c : Nat), Below w0.heap.size w0 V → YP V w0.heap.size G rs → Calls Tryd.prog 24 #[.slice (some ⟨G, 0, none⟩) n c, .int .i64 sy, .int .i64 most] V fun e w' => e = .returned (.bool true) ∧ Hid (Below V.heap.size V w')) := hid0 (fun V G c hV hy => by
    have h := built_y (c := c) hy hz hsh (HX.out V hV).2.2 hi
    rw [← hn] at h
    exact h)
  have HBe : Hid (∀ (V : World) (G c : Nat), Below w0.heap.size w0 V → YP V w0.heap.size G rs → Calls Tryd.prog 25 #[.slice (some ⟨G, 0, none⟩) n c, .int .i64 sy] V fun e w' => (∃ v, e = .returned v) ∧ Hid (YP w' w0.heap.size G rs ∧ Below w0.heap.size w0 w')) := hid0 (fun V G c hV hy => by
    have h := bend_any G c w0.heap.size sy rs V hy hV.size hz hrl hi.s63
    rw [← hn] at h
    exact h.mono (fun e w' hh => ⟨hh.1, hid0 ⟨hh.2.out.1, hV.trans hh.2.out.2⟩⟩))
  have hmul : 0 ≤ (lN : Int) * sy ∧ (lN : Int) * sy ≤ 4194304 := by rw [hlN, hX]; exact bX_mul
  have HSz : Hid ((∀ {lo hi : Nat} {vN vO : Value} {NX OU : List Value}, Mr.Sz ⟨lo, hi, vN, vO, NX, OU, X.1, X.2⟩) ∧ (∀ {lo hi : Nat} {vN vO : Value} {NX OU : List Value}, Mr.Sz ⟨lo, hi, vN, vO, NX, OU, Y.1, Y.2⟩) ∧ 0 < Y.1.length) := hid0 ⟨fun {_ _ _ _ _ _} => by rw [hX]; exact bX_Sz hi.bnd, fun {_ _ _ _ _ _} => by rw [hY]; exact bX_Sz ltP_in.bnd, by rw [hY]; exact ltP_n⟩
  have HB0 := hid0 hb0
  have HN := hid0 hn
  have hself : (z != z) = false := by simp
  have hfold := hw0.symm
  rw [← hn]
  clear hp he hi hsh hb0 hr0 hw0 hX hY hlN hlO hpN hpO hev hzc hn hz
  go_enter Tryd.func7, Tryd.ntmps7
  obtain ⟨⟨_, j0, _, _⟩, _, _⟩ := HX.out w0 (below_reflX w0)
  go_upto_region 2 with (go_at_call 16; go_loud ((refine HPt.out.mono ?_; rintro e w1 ⟨G, c, rfl, HK⟩)))
  clear j0 HPt hfold
  have HL : Hid (∀ V, Below w1.heap.size w1 V → Below w0.heap.size w0 V ∧ PatK V w0.heap.size G c rs ∧ PaI V (some ⟨G, 0, none⟩) rs) := hid0 (fun V hV => ⟨Below.later HK.out.2.1 hV, HK.out.1.past hV, (HK.out.1.past hV).pai (HX.out w0 (below_reflX w0)).2.1.z⟩)
  obtain ⟨⟨_, j0, j1, j2⟩, _, _⟩ := HX.out w1 ((HL.out w1 (below_reflX w1)).1)
  go_upto_region 3 with (go_at_call 9; go_loud ((refine (HBm.out w1 _ _ (HL.out w1 (below_reflX w1)).1 (HL.out w1 (below_reflX w1)).2.2).mono ?_; rintro e w2 ⟨aN1, aO1, cN1, cO1, NX1, OU1, rfl, H2⟩)))
  clear j0 j1 j2
  obtain ⟨w3, hw3⟩ : ∃ w3, w3 = w2.alloc (.cells #[.int .i64 0, .slice aN1 lN cN1, .slice aO1 lO cO1] 28) := ⟨_, rfl⟩
  rw [← hw3]
  have bw3 : Below w2.heap.size w2 w3 := by rw [hw3]; exact below_alloc1 _ _
  have HB1 : Hid (BxM w3 w2.heap.size w1.heap.size w2.heap.size lN lO aN1 aO1 cN1 cO1 NX1 OU1 X.1 X.2) := hid0 (bxM_new H2.out.1 hw3)
  clear hw3
  have HC3 : Hid (Below w1.heap.size w1 w3) := hid0 (Below.later H2.out.2 bw3)
  have hz2 := H2.out.2.size
  have hz3 := bw3.size
  clear H2 bw3
  obtain ⟨⟨_, j0, j1, j2⟩, _, _⟩ := HX.out w3 ((HL.out w3 HC3.out).1)
  go_upto_region 4 with (go_at_call 9; go_loud ((refine (HBm.out w3 _ _ (HL.out w3 HC3.out).1 (HL.out w3 HC3.out).2.2).mono ?_; rintro e w4 ⟨aN2, aO2, cN2, cO2, NX2, OU2, rfl, H4⟩)))
  clear j0 j1 j2
  obtain ⟨w5, hw5⟩ : ∃ w5, w5 = w4.alloc (.cells #[.int .i64 0, .slice aN2 lN cN2, .slice aO2 lO cO2] 28) := ⟨_, rfl⟩
  rw [← hw5]
  have bw5 : Below w4.heap.size w4 w5 := by rw [hw5]; exact below_alloc1 _ _
  have HB2 : Hid (BxM w5 w4.heap.size w3.heap.size w4.heap.size lN lO aN2 aO2 cN2 cO2 NX2 OU2 X.1 X.2) := hid0 (bxM_new H4.out.1 hw5)
  clear hw5
  have HC5 : Hid (Below w3.heap.size w3 w5) := hid0 (Below.later H4.out.2 bw5)
  have hz4 := H4.out.2.size
  have hz5 := bw5.size
  have HD5 := hid0 (Below.later HC3.out HC5.out)
  clear H4 bw5
  go_upto_region 5 with (first
    | (go_at_call 17; go_loud ((refine (letter_any w5).mono ?_; rintro e w6 ⟨G3, rfl, H6⟩)))
    | (go_at_call 9; go_loud ((refine (HBo.out w6 _ (Below.later (HL.out w5 HD5.out).1 H6.out.2) H6.out.1).mono ?_; rintro e w7 ⟨aN3, aO3, cN3, cO3, NX3, OU3, rfl, H7⟩))))
  obtain ⟨w8, hw8⟩ : ∃ w8, w8 = w7.alloc (.cells #[.int .i64 0, .slice aN3 pN cN3, .slice aO3 pO cO3] 28) := ⟨_, rfl⟩
  rw [← hw8]
  have bw8 : Below w7.heap.size w7 w8 := by rw [hw8]; exact below_alloc1 _ _
  have HB3 : Hid (BxM w8 w7.heap.size w6.heap.size w7.heap.size pN pO aN3 aO3 cN3 cO3 NX3 OU3 Y.1 Y.2) := hid0 (bxM_new H7.out.1 hw8)
  clear hw8
  have HC8 : Hid (Below w5.heap.size w5 w8) := hid0 (Below.later H6.out.2 (Below.later H7.out.2 bw8))
  have hz6 := H6.out.2.size
  have hz7 := H7.out.2.size
  have hz8 := bw8.size
  have HD8 := hid0 (Below.later HD5.out HC8.out)
  clear H6 H7 bw8
  obtain ⟨⟨_, j0, j1, j2⟩, _, _⟩ := HX.out w8 ((HL.out w8 HD8.out).1)
  go_upto_region 6 with (go_at_call 9; go_loud ((refine (HBm.out w8 _ _ (HL.out w8 HD8.out).1 (HL.out w8 HD8.out).2.2).mono ?_; rintro e w9 ⟨aN4, aO4, cN4, cO4, NX4, OU4, rfl, H9⟩)))
  clear j0 j1 j2
  obtain ⟨w10, hw10⟩ : ∃ w10, w10 = w9.alloc (.cells #[.int .i64 0, .slice aN4 lN cN4, .slice aO4 lO cO4] 28) := ⟨_, rfl⟩
  rw [← hw10]
  have bw10 : Below w9.heap.size w9 w10 := by rw [hw10]; exact below_alloc1 _ _
  have HB4 : Hid (BxM w10 w9.heap.size w8.heap.size w9.heap.size lN lO aN4 aO4 cN4 cO4 NX4 OU4 X.1 X.2) := hid0 (bxM_new H9.out.1 hw10)
  clear hw10
  have HC10 : Hid (Below w8.heap.size w8 w10) := hid0 (Below.later H9.out.2 bw10)
  have hz9 := H9.out.2.size
  have hz10 := bw10.size
  have HD10 := hid0 (Below.later HD8.out HC10.out)
  clear H9 bw10
  obtain ⟨⟨_, j0, j1, j2⟩, _, _⟩ := HX.out w10 ((HL.out w10 HD10.out).1)
  go_upto_region 7 with (go_at_call 18; go_loud ((refine (HBr.out w10 _ _ (HX.out w10 (HL.out w10 HD10.out).1).2.1).mono ?_; rintro e w11 ⟨aN5, aO5, cN5, cO5, rfl, H11⟩)))
  clear j0 j1 j2
  obtain ⟨w12, hw12⟩ : ∃ w12, w12 = w11.alloc (.cells #[.int .i64 0, .slice aN5 lN cN5, .slice aO5 lO cO5] 28) := ⟨_, rfl⟩
  rw [← hw12]
  have bw12 : Below w11.heap.size w11 w12 := by rw [hw12]; exact below_alloc1 _ _
  have HB5 : Hid (BxR w12 w11.heap.size lN lO aN5 aO5 cN5 cO5 X.1 X.2) := hid0 (bxR_new H11.out.1 hw12)
  clear hw12
  have HC12 : Hid (Below w10.heap.size w10 w12) := hid0 (Below.later H11.out.2 bw12)
  have HD12 := hid0 (Below.later HD10.out HC12.out)
  clear H11 bw12
  go_upto_region 8 with (first
    | (go_at_call 17; go_loud ((refine (letter_any w12).mono ?_; rintro e w13 ⟨G6, rfl, H13⟩)))
    | (go_at_call 18; go_loud ((refine (HBq.out w13 _ H13.out.1).mono ?_; rintro e w14 ⟨zq, aN6, aO6, cN6, cO6, rfl, H14⟩))))
  obtain ⟨w15, hw15⟩ : ∃ w15, w15 = w14.alloc (.cells #[.int .i64 0, .slice aN6 pN cN6, .slice aO6 pO cO6] 28) := ⟨_, rfl⟩
  rw [← hw15]
  have bw15 : Below w14.heap.size w14 w15 := by rw [hw15]; exact below_alloc1 _ _
  have HB6 : Hid (BxR w15 w14.heap.size pN pO aN6 aO6 cN6 cO6 Y.1 Y.2) := hid0 (bxR_new H14.out.1 hw15)
  clear hw15
  have HC15 : Hid (Below w12.heap.size w12 w15) := hid0 (Below.later H13.out.2 (Below.later H14.out.2 bw15))
  have HD15 := hid0 (Below.later HD12.out HC15.out)
  have HA15 : Hid (∀ V, Below w15.heap.size w15 V → BxM V w2.heap.size w1.heap.size w2.heap.size lN lO aN1 aO1 cN1 cO1 NX1 OU1 X.1 X.2 ∧ BxM V w4.heap.size w3.heap.size w4.heap.size lN lO aN2 aO2 cN2 cO2 NX2 OU2 X.1 X.2 ∧ BxM V w7.heap.size w6.heap.size w7.heap.size pN pO aN3 aO3 cN3 cO3 NX3 OU3 Y.1 Y.2 ∧ BxM V w9.heap.size w8.heap.size w9.heap.size lN lO aN4 aO4 cN4 cO4 NX4 OU4 X.1 X.2 ∧ BxR V w11.heap.size lN lO aN5 aO5 cN5 cO5 X.1 X.2 ∧ BxR V w14.heap.size pN pO aN6 aO6 cN6 cO6 Y.1 Y.2 ∧ Below w1.heap.size w1 V) := hid0 (fun V hV => by
    have q12 := Below.later HC15.out hV
    have q10 := Below.later HC12.out q12
    have q8 := Below.later HC10.out q10
    have q5 := Below.later HC8.out q8
    have q3 := Below.later HC5.out q5
    exact ⟨HB1.out.past q3, HB2.out.past q5, HB3.out.past q8, HB4.out.past q10, HB5.out.past q12, HB6.out.past hV, Below.later HC3.out q3⟩)
  have hz10' := HC12.out.size
  have hz15 := HC15.out.size
  clear H13 H14 bw15 HB1 HB2 HB3 HB4 HB5 HB6 HC3 HC5 HC8 HC10 HC12 HC15 HD5 HD8 HD10 HD12 HBm HBr HBo HBq
  obtain ⟨x0, x1, x2⟩ := row3c (HA15.out w15 (below_reflX w15)).1.r
  obtain ⟨y0, y1, y2⟩ := row3c (HA15.out w15 (below_reflX w15)).2.2.2.2.1.r
  have HM1 : Hid (1 = 1) := hid0 rfl
  have HM2 : Hid (2 = 2) := hid0 rfl
  have HM3 : Hid (3 = 3) := hid0 rfl
  go_upto_region 10 with (first
    | (go_at_call 19; go_loud ((refine (HNu.out w15 (HL.out w15 HD15.out).1).mono ?_; rintro e w16 ⟨rfl, hw16⟩; have hw16' := hw16.symm; subst hw16'; clear hw16)))
    | (go_at_call 11; have hm := HM1.out; clear hm; go_loud ((refine (HS1.out w15 _ _ _ _ _ _ _ _ (HA15.out w15 (below_reflX w15)).1.d (HA15.out w15 (below_reflX w15)).2.2.2.2.1.d).mono ?_; rintro e w17 ⟨rfl, h17⟩; clear HM1 x0 x1 x2 y0 y1 y2; obtain ⟨x0, x1, x2⟩ := row3c (HA15.out w17 h17).2.1.r; obtain ⟨y0, y1, y2⟩ := row3c (HA15.out w17 h17).2.2.2.2.1.r; have H17 := hid0 h17; clear h17)))
    | (go_at_call 11; have hm := HM2.out; clear hm; go_loud ((refine (HS1.out w17 _ _ _ _ _ _ _ _ (HA15.out w17 H17.out).2.1.d (HA15.out w17 H17.out).2.2.2.2.1.d).mono ?_; rintro e w18 ⟨rfl, h18⟩; clear HM2 x0 x1 x2 y0 y1 y2; have H18 := hid0 (Below.later H17.out h18); clear h18; obtain ⟨x0, x1, x2⟩ := row3c (HA15.out w18 H18.out).2.2.2.1.r; obtain ⟨y0, y1, y2⟩ := row3c (HA15.out w18 H18.out).2.2.2.2.1.r)))
    | (go_at_call 11; have hm := HM3.out; clear hm; go_loud ((refine (HS1.out w18 _ _ _ _ _ _ _ _ (HA15.out w18 H18.out).2.2.2.1.d (HA15.out w18 H18.out).2.2.2.2.1.d).mono ?_; rintro e w19 ⟨rfl, h19⟩; clear HM3 x0 x1 x2 y0 y1 y2; have H19 := hid0 (Below.later H18.out h19); clear h19; obtain ⟨x0, x1, x2⟩ := row3c (HA15.out w19 H19.out).2.2.1.r; obtain ⟨y0, y1, y2⟩ := row3c (HA15.out w19 H19.out).2.2.2.2.2.1.r)))
    | (go_at_call 11; go_loud ((refine (HS2.out w19 _ _ _ _ _ _ _ _ (HA15.out w19 H19.out).2.2.1.d (HA15.out w19 H19.out).2.2.2.2.2.1.d).mono ?_; rintro e w20 ⟨rfl, h20⟩; clear x0 x1 x2 y0 y1 y2; have H20 := hid0 (Below.later H19.out h20); clear h20; obtain ⟨⟨_, j0, _, _⟩, _, _⟩ := HX.out w20 (HL.out w20 (HA15.out w20 H20.out).2.2.2.2.2.2).1)))
    | (go_at_call 20; go_loud ((refine (HStl.out w20 G c (HL.out w20 (HA15.out w20 H20.out).2.2.2.2.2.2).2.1 (HX.out w20 (HL.out w20 (HA15.out w20 H20.out).2.2.2.2.2.2).1).2.1).mono ?_; rintro e w21 ⟨rfl, h21⟩; have H21 := hid0 (Below.later H20.out h21.out); clear h21 j0))))
  clear HNu HS1 HS2
  have HA21 := HA15.out w21 H21.out
  have HFs : Hid (Fr w1 w21 w21) := hid0 (Fr.start HA21.2.2.2.2.2.2)
  obtain ⟨ma, hma⟩ : ∃ ma, ma = (⟨w1.heap.size, w2.heap.size, (.slice aN1 lN cN1), (.slice aO1 lO cO1), NX1, OU1, X.1, X.2⟩ : Mr) := ⟨_, rfl⟩
  obtain ⟨mb, hmb⟩ : ∃ mb, mb = (⟨w3.heap.size, w4.heap.size, (.slice aN2 lN cN2), (.slice aO2 lO cO2), NX2, OU2, X.1, X.2⟩ : Mr) := ⟨_, rfl⟩
  obtain ⟨mc, hmc⟩ : ∃ mc, mc = (⟨w6.heap.size, w7.heap.size, (.slice aN3 pN cN3), (.slice aO3 pO cO3), NX3, OU3, Y.1, Y.2⟩ : Mr) := ⟨_, rfl⟩
  obtain ⟨md, hmd⟩ : ∃ md, md = (⟨w8.heap.size, w9.heap.size, (.slice aN4 lN cN4), (.slice aO4 lO cO4), NX4, OU4, X.1, X.2⟩ : Mr) := ⟨_, rfl⟩
  have hsz21 := H21.out.size
  have hM4 : M4 w1 w21 ma mb mc md := by
    subst hma hmb hmc hmd
    exact ⟨HA21.1.q, HA21.2.1.q, HA21.2.2.1.q, HA21.2.2.2.1.q, Nat.le_refl _, hz3, by show w4.heap.size ≤ w6.heap.size; omega, hz8, by show w9.heap.size ≤ w21.heap.size; omega, ⟨hz2, hz4, hz7, hz9⟩, HSz.out.1, HSz.out.1, HSz.out.2.1, HSz.out.1, HA21.2.2.2.2.2.2⟩
  have hcn : 0 < mc.nx.length := by rw [hmc]; exact HSz.out.2.2
  have hlen : ∀ m : Mr, m.In w21 → m.Sz → m.NX.length ≤ 16384 ∧ m.OU.length ≤ 16384 := fun m h1 h2 => h1.all_len h2
  have hal : ma.all.length ≤ 32768 ∧ mb.all.length ≤ 32768 ∧ mc.all.length ≤ 32768 := by
    have q1 := hlen ma hM4.ia hM4.sa
    have q2 := hlen mb hM4.ib hM4.sb
    have q3 := hlen mc hM4.ic hM4.sc
    unfold Mr.all
    simp only [List.length_append]
    omega
  have HT1 : Hid (Calls Tryd.prog 22 #[.slice none 0 0, .agg #[.int .i64 0, .slice aN1 lN cN1, .slice aO1 lO cO1]] w21.drew fun e w' => ∃ v', e = .returned v' ∧ Hid (TS w21 w' v' ma.all) ∧ Fr w1 w21 w') := hid0 (by
    have h := tabs_any 0 (TS.start w21 w21.drew (Below.refl _ _).drew) hM4.ia hM4.hi.1 (by have q := hlen ma hM4.ia hM4.sa; simp only [List.length_nil]; omega)
    rw [hma] at h ⊢
    exact h.mono (fun e w' ⟨v', h1, h2⟩ => ⟨v', h1, h2, h2.out.fr hM4.w⟩))
  have HT2 : Hid (∀ V v, TS w21 V v ma.all → Calls Tryd.prog 22 #[v, .agg #[.int .i64 0, .slice aN2 lN cN2, .slice aO2 lO cO2]] V fun e w' => ∃ v', e = .returned v' ∧ Hid (TS w21 w' v' (ma.all ++ mb.all)) ∧ Fr w1 w21 w') := hid0 (fun V v hT => by
    have h := tabs_any 0 hT hM4.ib hM4.hi.2.1 (by have q := hlen mb hM4.ib hM4.sb; omega)
    rw [List.append_assoc] at h
    have e2 : mb.NX ++ mb.OU = mb.all := rfl
    rw [e2] at h
    rw [hmb] at h ⊢
    exact h.mono (fun e w' ⟨v', h1, h2⟩ => ⟨v', h1, h2, h2.out.fr hM4.w⟩))
  have HT3 : Hid (∀ V v, TS w21 V v (ma.all ++ mb.all) → Calls Tryd.prog 22 #[v, .agg #[.int .i64 0, .slice aN3 pN cN3, .slice aO3 pO cO3]] V fun e w' => ∃ v', e = .returned v' ∧ Hid (TS w21 w' v' (ma.all ++ mb.all ++ mc.all)) ∧ Fr w1 w21 w') := hid0 (fun V v hT => by
    have h := tabs_any 0 hT hM4.ic hM4.hi.2.2.1 (by have q := hlen mc hM4.ic hM4.sc; simp only [List.length_append]; omega)
    rw [List.append_assoc (ma.all ++ mb.all)] at h
    have e2 : mc.NX ++ mc.OU = mc.all := rfl
    rw [e2] at h
    rw [hmc] at h ⊢
    exact h.mono (fun e w' ⟨v', h1, h2⟩ => ⟨v', h1, h2, h2.out.fr hM4.w⟩))
  have HT4 : Hid (∀ V v, TS w21 V v (ma.all ++ mb.all ++ mc.all) → Calls Tryd.prog 22 #[v, .agg #[.int .i64 0, .slice aN4 lN cN4, .slice aO4 lO cO4]] V fun e w' => ∃ v', e = .returned v' ∧ Hid (TS w21 w' v' (ma.all ++ mb.all ++ mc.all ++ md.all)) ∧ Fr w1 w21 w') := hid0 (fun V v hT => by
    have h := tabs_any 0 hT hM4.id hM4.hi.2.2.2 (by have q := hlen md hM4.id hM4.sd; simp only [List.length_append]; omega)
    rw [List.append_assoc (ma.all ++ mb.all ++ mc.all)] at h
    have e2 : md.NX ++ md.OU = md.all := rfl
    rw [e2] at h
    rw [hmd] at h ⊢
    exact h.mono (fun e w' ⟨v', h1, h2⟩ => ⟨v', h1, h2, h2.out.fr hM4.w⟩))
  have HLn : Hid (∀ V v, TS w21 V v (ma.all ++ mb.all ++ mc.all ++ md.all) → Calls Tryd.prog 21 #[v] V fun e w' => e = .returned (.bool true) ∧ Hid (KeB [3] w21 w') ∧ Fr w1 w21 w') := hid0 (fun V v hT => (hM4.lone hT hcn).mono (fun e w' hh => ⟨hh.1, hid0 ((KeB.below _ hT.bel).trans hh.2.out.2), hh.2.out.1⟩))
  have HSk : Hid (∀ V, Fr w1 w21 V → KeB [3] w21 V → Calls Tryd.prog 23 #[.slice (some ⟨V.heap.size, 0, none⟩) 8 8] (V.alloc (.cells #[.slice aN1 lN cN1, .slice aO1 lO cO1, .slice aN2 lN cN2, .slice aO2 lO cO2, .slice aN3 pN cN3, .slice aO3 pO cO3, .slice aN4 lN cN4, .slice aO4 lO cO4] 26)) fun e w' => e = .returned (.bool true) ∧ Fr w1 w21 w') := hid0 (fun V hF hK => by
    have h := hM4.stacked (hF.alloc (.cells #[.slice aN1 lN cN1, .slice aO1 lO cO1, .slice aN2 lN cN2, .slice aO2 lO cO2, .slice aN3 pN cN3, .slice aO3 pO cO3, .slice aN4 lN cN4, .slice aO4 lO cO4] 26)) (hK.trans (KeB.below _ (below_alloc1 _ _))) (X := V.heap.size) (by rw [hma, hmb, hmc, hmd]; exact heap_alloc_new V _) hK.size
    exact h.mono (fun e w' hh => ⟨hh.1, hh.2.out⟩))
  have HSa : Hid (∀ V, Fr w1 w21 V → Calls Tryd.prog 20 #[.slice (some ⟨G, 0, none⟩) n c, .slice aP n cP] V fun e w' => e = .returned (.bool true) ∧ Fr w1 w21 w') := hid0 (fun V hF => (HStl.out V G c (HL.out V hF.b).2.1 (HX.out V (HL.out V hF.b).1).2.1).mono (fun e w' hh => ⟨hh.1, hF.below hh.2.out⟩))
  have HSo : Hid (∀ V, Fr w1 w21 V → (V.cell? ⟨w2.heap.size, 0, none⟩ = some (.int .i64 0) ∧ V.cell? ⟨w2.heap.size, 1, none⟩ = some (.slice aN1 lN cN1) ∧ V.cell? ⟨w2.heap.size, 2, none⟩ = some (.slice aO1 lO cO1) ∧ V.cell? ⟨w4.heap.size, 0, none⟩ = some (.int .i64 0) ∧ V.cell? ⟨w4.heap.size, 1, none⟩ = some (.slice aN2 lN cN2) ∧ V.cell? ⟨w4.heap.size, 2, none⟩ = some (.slice aO2 lO cO2) ∧ V.cell? ⟨w7.heap.size, 0, none⟩ = some (.int .i64 0) ∧ V.cell? ⟨w7.heap.size, 1, none⟩ = some (.slice aN3 pN cN3) ∧ V.cell? ⟨w7.heap.size, 2, none⟩ = some (.slice aO3 pO cO3) ∧ V.cell? ⟨w9.heap.size, 0, none⟩ = some (.int .i64 0) ∧ V.cell? ⟨w9.heap.size, 1, none⟩ = some (.slice aN4 lN cN4) ∧ V.cell? ⟨w9.heap.size, 2, none⟩ = some (.slice aO4 lO cO4) ∧ V.cell? ⟨w.heap.size, 0, none⟩ = some (.slice aP n cP) ∧ Fr w1 w21 V)) := hid0 (fun V hF => by
    obtain ⟨p0, p1, p2⟩ := row3c (hF.box HA21.1.r (by decide))
    obtain ⟨q0, q1, q2⟩ := row3c (hF.box HA21.2.1.r (by decide))
    obtain ⟨r0, r1, r2⟩ := row3c (hF.box HA21.2.2.1.r (by decide))
    obtain ⟨s0, s1, s2⟩ := row3c (hF.box HA21.2.2.2.1.r (by decide))
    exact ⟨p0, p1, p2, q0, q1, q2, r0, r1, r2, s0, s1, s2, (HX.out V (HL.out V hF.b).1).1.2.1, hF⟩)
  have HRn : Hid (∀ V, Fr w1 w21 V → V.cell? ⟨w11.heap.size, 1, none⟩ = some (.slice aN5 lN cN5) ∧ (V.cell? ⟨w.heap.size, 1, none⟩ = some (.int .i64 sy) ∧ V.cell? ⟨w.heap.size, 2, none⟩ = some (.int .i64 most)) ∧ Below w0.heap.size w0 V ∧ PatK V w0.heap.size G c rs) := hid0 (fun V hF => by
    have h := (HX.out V (HL.out V hF.b).1).1.2
    exact ⟨(row3c (hF.box HA21.2.2.2.2.1.r (by decide))).2.1, ⟨h.2.1, h.2.2⟩, (HL.out V hF.b).1, (HL.out V hF.b).2.1⟩)
  have HGe : Hid (w0.heap.size ≤ G) := hid0 HK.out.2.2
  clear hM4 hcn hlen hal hma hmb hmc hmd HA21 HA15 HD15 HK H17 H18 H19 H20 H21 HSz HStl HL hz2 hz3 hz4 hz5 hz6 hz7 hz8 hz9 hz10 hz10' hz15 hsz21
  go_cut [143] from 106 (fun c wx => c = .bool false ∧ Hid (Fr w1 w21 wx))
  case first =>
    have HM1 : Hid (1 = 1) := hid0 rfl
    have HM2 : Hid (2 = 2) := hid0 rfl
    have HM3 : Hid (3 = 3) := hid0 rfl
    have hfs := HFs.out
    go_region_held3 (fun V => V.cell? ⟨w2.heap.size, 0, none⟩ = some (.int .i64 0) ∧ V.cell? ⟨w2.heap.size, 1, none⟩ = some (.slice aN1 lN cN1) ∧ V.cell? ⟨w2.heap.size, 2, none⟩ = some (.slice aO1 lO cO1) ∧ V.cell? ⟨w4.heap.size, 0, none⟩ = some (.int .i64 0) ∧ V.cell? ⟨w4.heap.size, 1, none⟩ = some (.slice aN2 lN cN2) ∧ V.cell? ⟨w4.heap.size, 2, none⟩ = some (.slice aO2 lO cO2) ∧ V.cell? ⟨w7.heap.size, 0, none⟩ = some (.int .i64 0) ∧ V.cell? ⟨w7.heap.size, 1, none⟩ = some (.slice aN3 pN cN3) ∧ V.cell? ⟨w7.heap.size, 2, none⟩ = some (.slice aO3 pO cO3) ∧ V.cell? ⟨w9.heap.size, 0, none⟩ = some (.int .i64 0) ∧ V.cell? ⟨w9.heap.size, 1, none⟩ = some (.slice aN4 lN cN4) ∧ V.cell? ⟨w9.heap.size, 2, none⟩ = some (.slice aO4 lO cO4) ∧ V.cell? ⟨w.heap.size, 0, none⟩ = some (.slice aP n cP) ∧ Fr w1 w21 V) (first | exact HSo.out _ (by assumption) | exact HSo.out _ (Fr.drew (by assumption)) | exact HSo.out _ (Fr.alloc (by assumption) _) | (go_split_ands; first | exact HSo.out _ (by assumption) | exact HSo.out _ (Fr.alloc (by assumption) _)))
      (first
        | (go_at_call 22; have hm := HM1.out; clear hm; go_split_ands; refine HT1.out.mono ?_; rintro e u1 ⟨v1, rfl, T1, f1⟩; clear HM1)
        | (go_at_call 22; have hm := HM2.out; clear hm; go_split_ands; refine (HT2.out _ _ T1.out).mono ?_; rintro e u2 ⟨v2, rfl, T2, f2⟩; clear HM2)
        | (go_at_call 22; have hm := HM3.out; clear hm; go_split_ands; refine (HT3.out _ _ T2.out).mono ?_; rintro e u3 ⟨v3, rfl, T3, f3⟩; clear HM3)
        | (go_at_call 22; go_split_ands; refine (HT4.out _ _ T3.out).mono ?_; rintro e u4 ⟨v4, rfl, T4, f4⟩)
        | (go_at_call 21; go_split_ands; refine (HLn.out _ _ T4.out).mono ?_; rintro e u5 ⟨rfl, K5, f5⟩)
        | (go_at_call 23; go_split_ands; refine (HSk.out u5 f5 K5.out).mono ?_; rintro e u6 ⟨rfl, f6⟩)
        | (go_at_call 20; go_split_ands; refine (HSa.out u6 f6).mono ?_; rintro e u7 ⟨rfl, f7⟩))
    all_goals go_split_ands
    all_goals go_wp2_with fail
    all_goals go_meet
    all_goals exact ⟨rfl, hid0 f7⟩
  case rest =>
    obtain ⟨rfl, HF⟩ := hcut
    generalize wc = wx at *
    obtain ⟨y1, ⟨j1, j2⟩, hbx, hkx⟩ := HRn.out wx HF.out
    obtain ⟨ps, hps⟩ : ∃ p, p = (lN : Int) * sy := ⟨_, rfl⟩
    rw [← hps] at hmul
    have hw : IntKind.i64.wrap ((lN : Int) * sy) = ps := by
      rw [← hps, IntKind.wrap_i64]
      omega
    have HBx := hid0 hbx
    have HYx := hid0 (hkx.yp HGe.out)
    clear hps hbx hkx HRn HSa HSk HLn HT1 HT2 HT3 HT4 HSo HFs HF
    by_cases hbig : ps > 262144
    · go_wp2
      go_ret
      exact ⟨rfl, Below.later HB0.out HBx.out⟩
    · have HM1 : Hid (1 = 1) := hid0 rfl
      go_wp2_with (go_at_call 24; go_loud ((refine (HBu.out wx G c HBx.out HYx.out).mono ?_; rintro e w22 ⟨rfl, h22⟩; have HY22 : Hid (YP w22 w0.heap.size G rs ∧ Below w0.heap.size w0 w22) := hid0 ⟨HYx.out.past h22.out, Below.later HBx.out h22.out⟩; clear h22)))
      clear y1 j1 j2 hw
      go_loopw [16] (fun q wr => ∃ k : Nat, k ≤ n ∧ q = .int .i64 (k : Int) ∧ Hid (YP wr w0.heap.size G rs ∧ Below w0.heap.size w0 wr)) (fun q _ => n - (intOf q).toNat)
      case atStart => exact ⟨0, Nat.zero_le _, rfl, HY22⟩
      case round =>
        clear HY22 HYx HBx
        obtain ⟨k, hk, rfl, HY⟩ := hrel
        by_cases hlt : k < n
        · have hkI : (k : Int) < (n : Int) := by omega
          have hkI0 : (0 : Int) ≤ (k : Int) := by omega
          have hkr : k < rs.length := by rw [← HN.out]; exact hlt
          obtain ⟨em, an, y5, e4, f5, f4, hY2⟩ := HY.out.1.flip hkr
          have HY2 : Hid (YP ((wr.setCell ⟨G, k * 6 + 5, none⟩ (.bool (!an))).setCell ⟨G, k * 6 + 4, none⟩ (.bool (!em))) w0.heap.size G rs ∧ Below w0.heap.size w0 ((wr.setCell ⟨G, k * 6 + 5, none⟩ (.bool (!an))).setCell ⟨G, k * 6 + 4, none⟩ (.bool (!em)))) := hid0 ⟨hY2, (HY.out.2.setCell (p := ⟨G, k * 6 + 5, none⟩) HGe.out _).setCell (p := ⟨G, k * 6 + 4, none⟩) HGe.out _⟩
          clear hY2
          go_wp2
          go_roundw
          case rel => exact ⟨k + 1, by omega, by go_num, HY2⟩
          case measure => simp [intOf]; omega
        · have hkI : ¬ (k : Int) < (n : Int) := by omega
          have j12 := (HX.out wr HY.out.2).1.2.2
          obtain ⟨j1, j2⟩ := j12
          have HM1 : Hid (1 = 1) := hid0 rfl
          go_wp2_with (first
            | (go_at_call 24; have hm := HM1.out; clear hm; go_loud ((refine (HBu.out wr G c HY.out.2 HY.out.1).mono ?_; rintro e w23 ⟨rfl, h23⟩; clear HM1 j1 j2; have HY23 : Hid (YP w23 w0.heap.size G rs ∧ Below w0.heap.size w0 w23) := hid0 ⟨HY.out.1.past h23.out, Below.later HY.out.2 h23.out⟩; clear h23; have j12 := (HX.out w23 HY23.out.2).1.2.2; obtain ⟨j1, j2⟩ := j12)))
            | (go_at_call 25; go_loud ((refine (HBe.out w23 G c HY23.out.2 HY23.out.1).mono ?_; rintro e w24 ⟨⟨vb, rfl⟩, HY24⟩; clear j1 j2; have j12 := (HX.out w24 HY24.out.2).1.2.2; obtain ⟨j1, j2⟩ := j12)))
            | (go_at_call 24; go_loud ((refine (HBu.out w24 G c HY24.out.2 HY24.out.1).mono ?_; rintro e w25 ⟨rfl, h25⟩; have HF25 : Hid (Below w.heap.size w w25) := hid0 (Below.later HB0.out (Below.later HY24.out.2 h25.out)); clear h25))))
          go_ret
          exact ⟨rfl, HF25.out⟩
end Go.Proofs.YtbbejfkgopcjoaaDoor
