/-
  MfKW, MfLW.
-/
import Derived.Test.YtbbejfkgopcjoaaDoorNebc
namespace Go.Proofs.YtbbejfkgopcjoaaDoor
open Go.RowKit Go.Shelf
def toI (r : Pr) (st : List Nat) (bg : Bool) (c q : Nat) : List Nat := (List.range q).filter fun x => reaI r st bg x c
theorem toI_succ (r : Pr) (st : List Nat) (bg : Bool) (c q : Nat) : toI r st bg c (q + 1) = if reaI r st bg q c = true then toI r st bg c q ++ [q] else toI r st bg c q := by
  unfold toI
  rw [List.range_succ, List.filter_append, List.filter_cons, List.filter_nil]
  split
  · rfl
  · rw [List.append_nil]
theorem toI_len (r : Pr) (st : List Nat) (bg : Bool) (c q : Nat) : (toI r st bg c q).length ≤ q := by
  unfold toI
  refine Nat.le_trans (List.length_filter_le _ _) ?_
  rw [List.length_range]
  exact Nat.le_refl _
/-- Where a symbol leads, in the first patterns. -/
def stpI (rs : List Pr) (ss : List (List Nat)) (bg : Bool) (c k : Nat) : List (List Nat) := (List.range k).map fun j => match rs[j]? with | none => [] | some r => toI r (ss.getD j []) bg c r.Le.length
theorem stpI_succ (rs : List Pr) (ss : List (List Nat)) (bg : Bool) (c : Nat) {k : Nat} (hk : k < rs.length) : stpI rs ss bg c (k + 1) = stpI rs ss bg c k ++ [toI rs[k] (ss.getD k []) bg c rs[k].Le.length] := by
  unfold stpI
  rw [List.range_succ, List.map_append, List.map_cons, List.map_nil, List.getElem?_eq_getElem hk]
theorem stpI_len (rs : List Pr) (ss : List (List Nat)) (bg : Bool) (c k : Nat) : (stpI rs ss bg c k).length = k := by unfold stpI; simp
theorem stpI_R {rs : List Pr} {sy : Nat} (h : ∀ r ∈ rs, PrOk r sy) (ss : List (List Nat)) (bg : Bool) (c : Nat) : (stpI rs ss bg c rs.length, true) = stepR (rs.map toPt) (ss, bg) c := by
  unfold stpI stepR
  rw [List.length_map]
  congr 1
  refine List.map_congr_left (fun k hk => ?_)
  rw [List.mem_range] at hk
  rw [List.getElem?_map, List.getElem?_eq_getElem hk]
  simp only [Option.map_some]
  unfold toI toR
  have e : (toPt rs[k]).le.length = rs[k].Le.length := by unfold toPt; simp
  rw [e]
  exact List.filter_congr (fun q _ => reaI_R (h _ (List.getElem_mem hk)) _ _ _ _)
theorem row2s {W : World} {X : Nat} {t : TypeId} {a b : Value} (h : W.heap[X]? = some (.cells #[a, b] t (0, 0))) : W.cell? ⟨X, 0, none⟩ = some a ∧ W.cell? ⟨X, 1, none⟩ = some b ∧ ∀ k, W.frozen? ⟨X, k, none⟩ = false :=
  ⟨by rw [cell_of_row _ _ _ _ _ _ h]; rfl, by rw [cell_of_row _ _ _ _ _ _ h]; rfl, fun k => by simp [World.frozen?, h]⟩
set_option maxRecDepth 10000 in
set_option maxHeartbeats 3200000 in
theorem stepD_any (aP aT : Option Addr) (cP cT : Nat) (rs : List Pr) (ss : List (List Nat)) (bg : Bool) (c : Nat) (w : World) (hP : PaI w aP rs) (hT : RwA w aT (ss.map nI)) (hsr : ss.length = rs.length) (hrl : rs.length ≤ 10000000) (hsl : ∀ s ∈ ss, s.length ≤ 1000000000) (hst : ∀ k (h : k < rs.length), ∀ y ∈ ss.getD k [], y < rs[k].Fo.length) (hc : c ≤ 1000000000) :
    Calls Tryd.prog 39 #[.slice aP rs.length cP, .agg #[.slice aT ss.length cT, .bool bg], .int .i64 (c : Int)] w fun e w' => ∃ aN cN, e = .returned (.agg #[.slice aN rs.length cN, .bool true]) ∧ RwF w' (· < w.heap.size) aN ((stpI rs ss bg c rs.length).map nI) ∧ Hid (Below w.heap.size w w') := by
  obtain ⟨n, hn⟩ : ∃ x, x = rs.length := ⟨_, rfl⟩
  rw [← hn] at hsr hrl
  rw [hsr, ← hn]
  obtain ⟨w1, hw1⟩ : ∃ w1, w1 = w.alloc (.cells #[.slice aT n cT, .bool bg] 76) := ⟨_, rfl⟩
  obtain ⟨w2, hw2⟩ : ∃ w2, w2 = w1.alloc (.cells #[.slice none 0 0, .bool false] 76) := ⟨_, rfl⟩
  obtain ⟨w3, hw3⟩ : ∃ w3, w3 = w2.alloc (.cells #[.slice none 0 0, .bool false] 76) := ⟨_, rfl⟩
  have hb1 : Below w.heap.size w w1 := by rw [hw1]; exact (Below.refl _ _).alloc (Nat.le_refl _) _
  have hb2 : Below w1.heap.size w1 w2 := by rw [hw2]; exact (Below.refl _ _).alloc (Nat.le_refl _) _
  have hb3 : Below w2.heap.size w2 w3 := by rw [hw3]; exact (Below.refl _ _).alloc (Nat.le_refl _) _
  have hs1 : w1.heap.size = w.heap.size + 1 := by rw [hw1]; simp
  have hs2 : w2.heap.size = w.heap.size + 2 := by rw [hw2]; simp; omega
  have hs3 : w3.heap.size = w.heap.size + 3 := by rw [hw3]; simp; omega
  have hr1 : w1.heap[w.heap.size]? = some (.cells #[.slice aT n cT, .bool bg] 76 (0, 0)) := by rw [hw1]; exact heap_alloc_new w _
  have hr2 : w2.heap[w1.heap.size]? = some (.cells #[.slice none 0 0, .bool false] 76 (0, 0)) := by rw [hw2]; exact heap_alloc_new w1 _
  have hr3 : w3.heap[w2.heap.size]? = some (.cells #[.slice none 0 0, .bool false] 76 (0, 0)) := by rw [hw3]; exact heap_alloc_new w2 _
  have hr1' : w3.heap[w.heap.size]? = some (.cells #[.slice aT n cT, .bool bg] 76 (0, 0)) := (hb3.block _ (by omega)).trans ((hb2.block _ (by omega)).trans hr1)
  have hr2' : w3.heap[w1.heap.size]? = some (.cells #[.slice none 0 0, .bool false] 76 (0, 0)) := (hb3.block _ (by omega)).trans hr2
  obtain ⟨v1, v2, hl⟩ := laidY (.slice none 0 0) (.bool true) hr3
  have hv2s : v2.heap.size = w3.heap.size := by rw [← hl.g2, ← hl.g1]; simp [World.setCell]
  have HB3 : Hid (Below w.heap.size w v2) := hid0 ((Below.later hb1 (Below.later hb2 hb3)).trans (hl.only.below (by omega) (fun k hk => by omega)))
  have HSn : Hid (SnM w w3 w2.heap.size true (.slice none 0 0) [] (stpI rs ss bg c 0) v2) := hid0 ⟨HB3.out, by omega, fun k hk hx => hl.only.block k hk hx, hl.r, RwsM.nil _ _, by omega, by omega⟩
  have HX : Hid (∀ (W : World) (vT : Value) (VS : List Value) (L : List (List Nat)), SnM w w3 w2.heap.size true vT VS L W → W.heap[w.heap.size]? = some (.cells #[.slice aT n cT, .bool bg] 76 (0, 0)) ∧ W.heap[w1.heap.size]? = some (.cells #[.slice none 0 0, .bool false] 76 (0, 0)) ∧ PaI W aP rs ∧ RwA W aT (ss.map nI)) := hid0 (fun W vT VS L h => ⟨(h.fr _ (by omega) (by omega)).trans hr1', (h.fr _ (by omega) (by omega)).trans hr2', hP.past h.bel, hT.past h.bel⟩)
  have HSz : Hid (w1.heap.size = w.heap.size + 1 ∧ w2.heap.size = w.heap.size + 2 ∧ w3.heap.size = w.heap.size + 3) := hid0 ⟨hs1, hs2, hs3⟩
  have HN := hid0 (And.intro hn hsr)
  have HSl := hid0 hsl
  have HSt := hid0 hst
  have q1 := hw1.symm
  have q2 := hw2.symm
  have q3 := hw3.symm
  have g1 := hl.g1
  have g2 := hl.g2
  obtain ⟨z0, z1⟩ := hl.z
  have a1 := hl.a1
  have f0 := hl.f0
  have f1 := hl.f1
  clear hw1 hw2 hw3 hb1 hb2 hb3 hs1 hs2 hs3 hr1 hr2 hr3 hr1' hr2' hl hv2s HB3 hP hT hn hsr hsl hst
  go_enter Tryd.func39, Tryd.ntmps39
  go_wp2
  clear q1 q2 q3 g1 g2 z0 z1 a1 f0 f1
  go_loopw [8] (fun q wr => ∃ (k : Nat) (vT : Value) (VS : List Value), k ≤ n ∧ q = .int .i64 (k : Int) ∧ Hid (SnM w w3 w2.heap.size true vT VS (stpI rs ss bg c k) wr)) (fun q _ => n - (intOf q).toNat)
  case atStart => exact ⟨0, _, _, Nat.zero_le _, rfl, HSn⟩
  case round =>
    clear HSn
    obtain ⟨k, vT, VS, hk, rfl, HS⟩ := hrel
    obtain ⟨wi, hwi⟩ : ∃ wi, wi = wr := ⟨_, rfl⟩
    subst hwi
    by_cases hkl : k < n
    · have hkI : (k : Int) < (n : Int) := by omega
      have hkI0 : (0 : Int) ≤ (k : Int) := by omega
      have hkr : k < rs.length := by rw [← HN.out.1]; exact hkl
      have hks : k < ss.length := by rw [HN.out.2]; exact hkl
      obtain ⟨hbx, _, hpa, hra⟩ := HX.out _ _ _ _ HS.out
      obtain ⟨bp, op, hap, hpl, aL, aF, aA, aO, cL, cF, cA, cO, y0, y1, y2, y3, y4, y5, _, y7⟩ := hpa.at' k hkr
      obtain ⟨bT, oT, haT, hTl, a1, c1, d1, i1⟩ := hra.at' k (by rw [List.length_map]; exact hks)
      obtain ⟨r, hr⟩ : ∃ r, r = rs[k] := ⟨_, rfl⟩
      rw [← hr] at y0 y1 y2 y3 y4 y5 y7
      rw [List.getElem_map] at d1 i1
      have hsk := HSl.out _ (List.getElem_mem hks)
      have hgd : ss.getD k [] = ss[k] := by rw [List.getD_eq_getElem?_getD, List.getElem?_eq_getElem hks]; rfl
      have hfk := HSt.out k hkr
      have HSs := hid0 (stpI_succ rs ss bg c hkr)
      rw [hgd, ← hr] at HSs hfk
      clear hgd
      generalize ss[k] = sk at *
      obtain ⟨nL, hnL⟩ : ∃ x, x = r.Le.length := ⟨_, rfl⟩
      obtain ⟨nF, hnF⟩ : ∃ x, x = r.Fi.length := ⟨_, rfl⟩
      obtain ⟨nA, hnA⟩ : ∃ x, x = r.La.length := ⟨_, rfl⟩
      obtain ⟨nO, hnO⟩ : ∃ x, x = r.Fo.length := ⟨_, rfl⟩
      obtain ⟨em, hem⟩ : ∃ x, x = r.em := ⟨_, rfl⟩
      obtain ⟨an, han⟩ : ∃ x, x = r.an := ⟨_, rfl⟩
      obtain ⟨ls, hls⟩ : ∃ x, x = (nI sk).length := ⟨_, rfl⟩
      rw [← hnL] at y0 HSs
      rw [← hnF] at y1
      rw [← hnA] at y2
      rw [← hnO] at y3
      rw [← hem] at y4
      rw [← han] at y5
      rw [← hls] at d1
      have hnl : nL ≤ 4000000 := by rw [hnL]; exact y7.l1
      subst hap
      subst haT
      have HXX : Hid (∀ V, Below wi.heap.size wi V → V.cell? ⟨w.heap.size, 0, none⟩ = some (.slice (some ⟨bT, oT, none⟩) n cT) ∧ V.cell? ⟨w.heap.size, 1, none⟩ = some (.bool bg) ∧ V.cell? ⟨bT, oT + k, none⟩ = some (.slice a1 ls c1) ∧ V.cell? ⟨bp, op + k * 6, none⟩ = some (.slice aL nL cL) ∧ V.cell? ⟨bp, op + k * 6 + 1, none⟩ = some (.slice aF nF cF) ∧ V.cell? ⟨bp, op + k * 6 + 2, none⟩ = some (.slice aA nA cA) ∧ V.cell? ⟨bp, op + k * 6 + 3, none⟩ = some (.slice aO nO cO) ∧ V.cell? ⟨bp, op + k * 6 + 4, none⟩ = some (.bool em) ∧ V.cell? ⟨bp, op + k * 6 + 5, none⟩ = some (.bool an)) := hid0 (fun V hV => by
        have hbi : w.heap.size < wi.heap.size := (Array.getElem?_eq_some_iff.1 hbx).1
        have hx := (hV.block _ hbi).trans hbx
        have tr : ∀ i, V.cell? ⟨bp, i, none⟩ = wi.cell? ⟨bp, i, none⟩ := fun i => hV.cell (p := ⟨bp, i, none⟩) hpl
        exact ⟨by rw [cell_of_row _ _ _ _ _ _ hx]; rfl, by rw [cell_of_row _ _ _ _ _ _ hx]; rfl, (hV.cell (p := ⟨bT, oT + k, none⟩) hTl).trans d1, (tr _).trans y0, (tr _).trans y1, (tr _).trans y2, (tr _).trans y3, (tr _).trans y4, (tr _).trans y5⟩)
      have HEn : Hid (∀ (V : World) (j : Nat), j < nL → Below wi.heap.size wi V → Calls Tryd.prog 62 #[.agg #[.slice aL nL cL, .slice aF nF cF, .slice aA nA cA, .slice aO nO cO, .bool em, .bool an], .slice a1 ls c1, .bool bg, .int .i64 (j : Int), .int .i64 (c : Int)] V fun e w' => e = .returned (.bool (reaI r sk bg j c)) ∧ Hid (Below V.heap.size V w')) := hid0 (fun V j hj hV => by
        have h := reached_any aL aF aA aO a1 cL cF cA cO c1 r sk bg j c V (y7.past hV) (i1.past hV) (fun y hy => hfk y hy) hsk (by omega) hc
        rw [← nI_len sk, ← hls, ← hnL, ← hnF, ← hnA, ← hnO, ← hem, ← han] at h
        exact h)
      have HKn : Hid (VS.length = k ∧ n = rs.length) := hid0 ⟨by rw [HS.out.rows.len, stpI_len], HN.out.1⟩
      clear hbx hpa hra hr hnL hnF hnA hnO hem han hls y0 y1 y2 y3 y4 y5 y7 d1 i1 hpl hTl hfk hsk hkr hks
      obtain ⟨x0, x1, _, x3, _⟩ := HXX.out wi (Below.refl _ _)
      go_wp2
      go_loopw [9, 10] (fun v q wr => ∃ j : Nat, j ≤ nL ∧ q = .int .i64 (j : Int) ∧ Hid (OwnI wr wi.heap.size v (nI (toI r sk bg c j))) ∧ Hid (Below wi.heap.size wi wr)) (fun _ q _ => nL - (intOf q).toNat)
      case atStart => exact ⟨0, Nat.zero_le _, rfl, hid0 (World.ownsRow_nil _ _ _ _), hid0 (Below.refl _ _)⟩
      case round =>
        obtain ⟨j, hj, rfl, HO, HB2⟩ := hrel
        clear x0 x1 x3
        obtain ⟨x0, x1, _, x3, _⟩ := HXX.out wr HB2.out
        by_cases hjl : j < nL
        · have hjI : (j : Int) < (nL : Int) := by omega
          have hjI0 : (0 : Int) ≤ (j : Int) := by omega
          have HWs := hid0 (toI_succ r sk bg c j)
          have hwl := toI_len r sk bg c j
          clear x1
          go_wp2_with fail
          refine wp_region_noPanic ?_
          refine wp_region_held_drew (S := fun W => W.cell? ⟨w.heap.size, 0, none⟩ = some (.slice (some ⟨bT, oT, none⟩) n cT) ∧ W.cell? ⟨w.heap.size, 1, none⟩ = some (.bool bg) ∧ W.cell? ⟨bT, oT + k, none⟩ = some (.slice a1 ls c1) ∧ W.cell? ⟨bp, op + k * 6, none⟩ = some (.slice aL nL cL) ∧ W.cell? ⟨bp, op + k * 6 + 1, none⟩ = some (.slice aF nF cF) ∧ W.cell? ⟨bp, op + k * 6 + 2, none⟩ = some (.slice aA nA cA) ∧ W.cell? ⟨bp, op + k * 6 + 3, none⟩ = some (.slice aO nO cO) ∧ W.cell? ⟨bp, op + k * 6 + 4, none⟩ = some (.bool em) ∧ W.cell? ⟨bp, op + k * 6 + 5, none⟩ = some (.bool an)) (by kernel_rfl) ?_ (fun hHeld => ?_)
          · exact HXX.out _ (bel_drew HB2.out)
          refine tkV (i := 0) (d := some 30) (v := ?_) rfl (by kernel_rfl) (by kernel_rfl) (by kernel_rfl) rfl (fun _ _ _ h => h) (by rfl) ?_ (by assumption) ?_
          rotate_left
          · (intro w hSw; (try dsimp only at hSw); (try simp only [List.getElem_toArray, List.getElem_cons_zero]); go_simp; try with_reducible rfl)
          try simp only [Act.put, List.setIfInBounds_toArray, List.set_cons_zero, List.set_cons_succ]
          refine tkV (i := 1) (d := some 31) (v := ?_) rfl (by kernel_rfl) (by kernel_rfl) (by kernel_rfl) rfl (fun _ _ _ h => h) (by rfl) ?_ (by assumption) ?_
          rotate_left
          · (intro w hSw; (try dsimp only at hSw); (try simp only [List.getElem_toArray, List.getElem_cons_zero, List.getElem_cons_succ]); go_simp; try with_reducible rfl)
          try simp only [Act.put, List.setIfInBounds_toArray, List.set_cons_zero, List.set_cons_succ]
          refine tkV (i := 2) (d := some 32) (v := ?_) rfl (by kernel_rfl) (by kernel_rfl) (by kernel_rfl) rfl (fun _ _ _ h => h) (by rfl) ?_ (by assumption) ?_
          rotate_left
          · (intro w hSw; (try dsimp only at hSw); (try simp only [List.getElem_toArray, List.getElem_cons_zero, List.getElem_cons_succ]); go_simp; try with_reducible rfl)
          try simp only [Act.put, List.setIfInBounds_toArray, List.set_cons_zero, List.set_cons_succ]
          refine tkV (i := 3) (d := some 33) (v := ?_) rfl (by kernel_rfl) (by kernel_rfl) (by kernel_rfl) rfl (fun _ _ _ h => h) (by rfl) ?_ (by assumption) ?_
          rotate_left
          · (intro w hSw; (try dsimp only at hSw); (try simp only [List.getElem_toArray, List.getElem_cons_zero, List.getElem_cons_succ]); go_simp; try with_reducible rfl)
          try simp only [Act.put, List.setIfInBounds_toArray, List.set_cons_zero, List.set_cons_succ]
          refine tkV (i := 4) (d := some 34) (v := ?_) rfl (by kernel_rfl) (by kernel_rfl) (by kernel_rfl) rfl (fun _ _ _ h => h) (by rfl) ?_ (by assumption) ?_
          rotate_left
          · (intro w hSw; (try dsimp only at hSw); (try simp only [List.getElem_toArray, List.getElem_cons_zero, List.getElem_cons_succ]); go_simp; try with_reducible rfl)
          try simp only [Act.put, List.setIfInBounds_toArray, List.set_cons_zero, List.set_cons_succ]
          refine tkV (i := 5) (d := some 35) (v := ?_) rfl (by kernel_rfl) (by kernel_rfl) (by kernel_rfl) rfl (fun _ _ _ h => h) (by rfl) ?_ (by assumption) ?_
          rotate_left
          · (intro w hSw; (try dsimp only at hSw); (try simp only [List.getElem_toArray, List.getElem_cons_zero, List.getElem_cons_succ]); go_simp; try with_reducible rfl)
          try simp only [Act.put, List.setIfInBounds_toArray, List.set_cons_zero, List.set_cons_succ]
          refine tkV (i := 6) (d := some 36) (v := ?_) rfl (by kernel_rfl) (by kernel_rfl) (by kernel_rfl) rfl (fun _ _ _ h => h) (by rfl) ?_ (by assumption) ?_
          rotate_left
          · (intro w hSw; (try dsimp only at hSw); (try simp only [List.getElem_toArray, List.getElem_cons_zero, List.getElem_cons_succ]); go_simp; try with_reducible rfl)
          try simp only [Act.put, List.setIfInBounds_toArray, List.set_cons_zero, List.set_cons_succ]
          refine tkV (i := 7) (d := some 37) (v := ?_) rfl (by kernel_rfl) (by kernel_rfl) (by kernel_rfl) rfl (fun _ _ _ h => h) (by rfl) ?_ (by assumption) ?_
          rotate_left
          · (intro w hSw; (try dsimp only at hSw); (try simp only [List.getElem_toArray, List.getElem_cons_zero, List.getElem_cons_succ]); go_simp; try with_reducible rfl)
          try simp only [Act.put, List.setIfInBounds_toArray, List.set_cons_zero, List.set_cons_succ]
          refine tkV (i := 8) (d := some 38) (v := ?_) rfl (by kernel_rfl) (by kernel_rfl) (by kernel_rfl) rfl (fun _ _ _ h => h) (by rfl) ?_ (by assumption) ?_
          rotate_left
          · (intro w hSw; (try dsimp only at hSw); (try simp only [List.getElem_toArray, List.getElem_cons_zero, List.getElem_cons_succ]); go_simp; try with_reducible rfl)
          try simp only [Act.put, List.setIfInBounds_toArray, List.set_cons_zero, List.set_cons_succ]
          refine tkV (i := 9) (d := some 39) (v := ?_) rfl (by kernel_rfl) (by kernel_rfl) (by kernel_rfl) rfl (fun _ _ _ h => h) (by rfl) ?_ (by assumption) ?_
          rotate_left
          · (intro w hSw; (try dsimp only at hSw); (try simp only [List.getElem_toArray, List.getElem_cons_zero, List.getElem_cons_succ]); go_simp; try with_reducible rfl)
          try simp only [Act.put, List.setIfInBounds_toArray, List.set_cons_zero, List.set_cons_succ]
          refine tkV (i := 10) (d := some 40) (v := ?_) rfl (by kernel_rfl) (by kernel_rfl) (by kernel_rfl) rfl (fun _ _ _ h => h) (by rfl) ?_ (by assumption) ?_
          rotate_left
          · (intro w hSw; (try dsimp only at hSw); (try simp only [List.getElem_toArray, List.getElem_cons_zero, List.getElem_cons_succ]); go_simp; try with_reducible rfl)
          try simp only [Act.put, List.setIfInBounds_toArray, List.set_cons_zero, List.set_cons_succ]
          refine tkV (i := 11) (d := some 41) (v := ?_) rfl (by kernel_rfl) (by kernel_rfl) (by kernel_rfl) rfl (fun _ _ _ h => h) (by rfl) ?_ (by assumption) ?_
          rotate_left
          · (intro w hSw; (try dsimp only at hSw); (try simp only [List.getElem_toArray, List.getElem_cons_zero, List.getElem_cons_succ]); go_simp; try with_reducible rfl)
          try simp only [Act.put, List.setIfInBounds_toArray, List.set_cons_zero, List.set_cons_succ]
          refine tkV (i := 12) (d := some 42) (v := ?_) rfl (by kernel_rfl) (by kernel_rfl) (by kernel_rfl) rfl (fun _ _ _ h => h) (by rfl) ?_ (by assumption) ?_
          rotate_left
          · (intro w hSw; (try dsimp only at hSw); (try simp only [List.getElem_toArray, List.getElem_cons_zero, List.getElem_cons_succ]); go_simp; try with_reducible rfl)
          try simp only [Act.put, List.setIfInBounds_toArray, List.set_cons_zero, List.set_cons_succ]
          refine wpAnyH_ready (rs := [13]) (by kernel_rfl) (by simp) (AllReadyH.cons rfl (fun K hK => ?_) AllReadyH.nil)
          try simp only [List.getElem_toArray, List.getElem_cons_zero, List.getElem_cons_succ]
          go_simp
          refine (HEn.out _ j hjl (bel_drew HB2.out)).mono ?_
          rintro e w6 ⟨rfl, H6⟩
          go_wp2_with fail
          refine hK.out _ _ ?_ (fun hHeld13 => ?_)
          · exact HXX.out _ (Below.later (bel_drew HB2.out) H6.out)
          clear hK K
          (try simp only [Act.put]); (try simp only [List.setIfInBounds_toArray]); (try simp only [List.set_cons_succ]); (try simp only [List.set_cons_zero])
          refine tkV (i := 14) (d := some 11) (v := ?_) rfl (by kernel_rfl) (by kernel_rfl) (by kernel_rfl) rfl (fun _ _ _ h => h) (by rfl) ?_ (by assumption) ?_
          rotate_left
          · (intro w hSw; (try dsimp only at hSw); (try simp only [List.getElem_toArray, List.getElem_cons_zero, List.getElem_cons_succ]); go_simp; try with_reducible rfl)
          try simp only [Act.put, List.setIfInBounds_toArray, List.set_cons_zero, List.set_cons_succ]
          refine wpAnyH_done (by kernel_rfl) ?_ _
          refine NoPanic.normal ?_
          have HB6 : Hid (Below wi.heap.size wi w6) := hid0 (Below.later (bel_drew HB2.out) H6.out)
          have HO6 : Hid (OwnI w6 wi.heap.size u9 (nI (toI r sk bg c j))) := hid0 (ownI_past (W := wr.drew) HO.out H6.out)
          obtain ⟨lw, hlw⟩ : ∃ lw, lw = (nI (toI r sk bg c j)).length := ⟨_, rfl⟩
          have hlw2 : lw ≤ j := by rw [hlw, nI_len]; exact hwl
          have HLw := hid0 hlw
          clear hlw hwl
          cases he : reaI r sk bg j c with
          | true =>
            have HO' : Hid (w6.ownsRow wi.heap.size 3 1 u9 lw ((nI (toI r sk bg c j)).map (Value.int .i64))) := hid0 (by have h := HO6.out; unfold OwnI at h; rw [← HLw.out] at h; exact h)
            have HW2 : Hid (nI (toI r sk bg c (j + 1)) = nI (toI r sk bg c j) ++ [(j : Int)]) := hid0 (by
              rw [HWs.out, if_pos he]
              unfold nI
              rw [List.map_append]
              rfl)
            obtain ⟨i0, hi', hz0, hz1, hz2⟩ := info_parts infoInt
            have hsz := HB6.out.size
            clear he HWs
            go_wp2_with (at_builtin; refine wpList_append_own _ rfl _ _ 34 rfl wi.heap.size 3 i0 (.int .i64 0) 1 8 Tryd.underlying34 hi' hz0 hz1 hz2 rfl (by decide) _ lw ((nI (toI r sk bg c j)).map (Value.int .i64)) rfl (World.ownsRow.alloc (show World.ownsRow w6 _ _ _ _ _ _ from HO'.out) _) ⟨w6.heap.size, 0, none⟩ 1 1 [.int .i64 (j : Int)] rfl rfl (cell_one_new _ _ _) (by simp [Value.oneCell']) (by unfold maxLen; omega) (by omega) (by simp; omega) ?_; intro v2 w4 hown' hgrow _; have HH := hid0 (ownI_snoc (w := wi) (base := wi.heap.size) (L := nI (toI r sk bg c j)) (c := (j : Int)) (n := lw) HLw.out (show OwnI w6 _ _ _ from HO6.out) hown' hgrow HB6.out (Nat.le_refl _)); clear hown' hgrow)
            have HO4 : Hid (OwnI w4 wi.heap.size v2 (nI (toI r sk bg c (j + 1)))) := hid0 (by rw [HW2.out]; exact HH.out.1)
            have HB4 := hid0 HH.out.2
            go_roundw
            case rel => exact ⟨j + 1, by omega, by go_num, HO4, HB4⟩
            case measure => simp [intOf]; omega
          | false =>
            have HO4 : Hid (OwnI w6 wi.heap.size u9 (nI (toI r sk bg c (j + 1)))) := hid0 (by
              rw [HWs.out, if_neg (by rw [he]; decide)]
              exact HO6.out)
            clear he HWs
            go_wp2
            go_roundw
            case rel => exact ⟨j + 1, by omega, by go_num, HO4, HB6⟩
            case measure => simp [intOf]; omega
        · have hjI : ¬ (j : Int) < (nL : Int) := by omega
          have ejn : j = nL := by omega
          have HSn := hid0 (HS.out.past HB2.out)
          obtain ⟨b0, b1, bf⟩ := row2s HSn.out.box
          have hs3 := HSn.out.size
          have HOx : Hid (OwnI wr w3.heap.size u9 (nI (toI r sk bg c nL))) := hid0 (by rw [← ejn]; exact owns_lower HO.out HS.out.size)
          have HRo : Hid (wr.ownsRow w3.heap.size 34 1 vT k VS) := hid0 (by have h := HSn.out.rows.outer; rw [HKn.out.1] at h; exact h)
          obtain ⟨aV, cV, eV⟩ := own_sl HRo.out
          obtain ⟨aR, cR, eR⟩ := own_sl (show World.ownsRow _ _ _ _ _ _ _ from HOx.out)
          subst eV
          rw [eR] at HOx ⊢
          obtain ⟨lx, hlx⟩ : ∃ lx, lx = (nI (toI r sk bg c nL)).length := ⟨_, rfl⟩
          rw [← hlx] at HOx ⊢
          obtain ⟨i0, hi', hz0, hz1, hz2⟩ := info_parts infoIntsM
          clear hlx HO ejn x1
          go_wp2_with (at_builtin; go_loud ((
            refine wpList_append_own_at _ rfl _ _ 26 rfl w3.heap.size 34 i0 (.slice none 0 0) 1 24 Tryd.underlying26 hi' hz0 hz1 hz2 rfl (by decide) (.slice aV k cV) k VS rfl (World.ownsRow.alloc HRo.out _) ⟨wr.heap.size, 0, none⟩ 1 1 [.slice aR lx cR] rfl rfl (cell_one_new _ _ _) (by simp [Value.oneCell']) (by unfold maxLen; omega) (by omega) (by simp; omega) ?_
            intro v6 w6 hown6 hgrow6 _ hat6
            obtain ⟨a6, c6, e6⟩ := own_sl hown6
            subst e6
            obtain ⟨rb, rm⟩ := HSn.out.add HOx.out HKn.out.1.symm hown6 hgrow6
            obtain ⟨g0, g1, gf⟩ := row2s rb
            obtain ⟨W6, hW6⟩ : ∃ W6, w6.setCell ⟨w2.heap.size, 0, none⟩ (.slice a6 (k + 1) c6) = W6 := ⟨_, rfl⟩
            rw [hW6] at rm
            have HM6 := hid0 rm
            clear rb rm hown6 hgrow6 hat6)))
          have HM7 : Hid (SnM w w3 w2.heap.size true (.slice a6 (k + 1) c6) (VS ++ [.slice aR lx cR]) (stpI rs ss bg c (k + 1)) W6) := hid0 (by rw [HSs.out]; exact HM6.out)
          go_roundw
          case rel => exact ⟨k + 1, _, _, by omega, by go_num, HM7⟩
          case measure => simp [intOf]; omega
    · have hkI : ¬ (k : Int) < (n : Int) := by omega
      have hkn : k = n := by omega
      subst hkn
      obtain ⟨_, hr2, _, _⟩ := HX.out _ _ _ _ HS.out
      obtain ⟨b0, b1, bf⟩ := row2s HS.out.box
      obtain ⟨aN, cN, eN, hRf⟩ := HS.out.rows.rwf
      rw [stpI_len] at eN
      subst eN
      obtain ⟨v1, v2, hl⟩ := laidY (.slice aN k cN) (.bool true) hr2
      have HF : Hid (RwF v2 (· < w.heap.size) aN ((stpI rs ss bg c k).map nI) ∧ Below w.heap.size w v2) := hid0 ⟨hRf.keep hl.only.size (fun i hi hav => hl.only.block i hi (fun e => by have := HSz.out; omega)) (fun i _ h => by have := HSz.out; omega), HS.out.bel.trans (hl.only.below HS.out.bel.size (fun i hi => by have := HSz.out; omega))⟩
      have HRr := hid0 hl.r
      have g1 := hl.g1
      have g2 := hl.g2
      obtain ⟨z0, z1⟩ := hl.z
      have a1 := hl.a1
      have f0 := hl.f0
      have f1 := hl.f1
      clear hl hr2 hRf
      go_wp2
      (try simp only [Exit.inBlock, Exit.then])
      refine bodyPost_ret (results_cell_row rfl _ _ w1.heap.size 76 _ _ _ rfl HRr.out Tryd.underlying76 rfl (by kernel_rfl)) rfl ?_
      first
        | exact ⟨aN, cN, rfl, HF.out.1, hid0 HF.out.2⟩
        | exact ⟨aN, ⟨cN, rfl⟩, HF.out.1, hid0 HF.out.2⟩
        | exact ⟨aN, ⟨cN, rfl⟩, HF.out⟩
end Go.Proofs.YtbbejfkgopcjoaaDoor
namespace Go.Proofs.YtbbejfkgopcjoaaDoor
open Go.RowKit Go.Shelf
theorem eq_uptoD {α : Type} {L M : List α} (hl : L.length = M.length) (h : ∀ k, k < L.length → L[k]? = M[k]?) : L = M := by
  apply List.ext_getElem?
  intro k
  rcases Nat.lt_or_ge k L.length with hk | hk
  · exact h k hk
  · rw [List.getElem?_eq_none hk, List.getElem?_eq_none (by omega)]
theorem ia_drew {w : World} {a : Option Addr} {L : List Int} (h : IA w a L) (n : Nat) : IA (w.drewN n) a L := ⟨h.at'⟩
set_option maxRecDepth 10000 in
set_option maxHeartbeats 800000 in
theorem sameIntsD (L M : List Int) (a b : Option Addr) (ca cb : Nat) (w : World) (hl : L.length ≤ 17592186044000) (ha : IA w a L) (hb : IA w b M) :
    Calls Tryd.prog 14 #[.slice a L.length ca, .slice b M.length cb] w fun e w' => e = .returned (.bool (decide (L = M))) ∧ ∃ n, w' = w.drewN n := by
  have HA := hid0 ha
  have HB := hid0 hb
  clear ha hb
  by_cases hlen : L.length = M.length
  · have hlI : (L.length : Int) = (M.length : Int) := by omega
    have HL := hid0 hlen
    clear hlen
    go_enter Tryd.func14, Tryd.ntmps14
    go_wp2
    go_loopw [5] (fun i wr => ∃ k : Nat, k ≤ L.length ∧ i = .int .i64 (k : Int) ∧ (∃ n, wr = w.drewN n) ∧ Hid (∀ j, j < k → L[j]? = M[j]?)) (fun i _ => L.length - (intOf i).toNat)
    case atStart => exact ⟨0, Nat.zero_le _, rfl, ⟨0, rfl⟩, hid0 (fun j h => absurd h (Nat.not_lt_zero _))⟩
    case round =>
      obtain ⟨k, hk, rfl, ⟨nd, rfl⟩, HE⟩ := hrel
      by_cases hlt : k < L.length
      · have hltM : k < M.length := by have := HL.out; omega
        obtain ⟨b1, o1, rfl, _, d1⟩ := HA.out.at' k hlt
        obtain ⟨b2, o2, rfl, _, d2⟩ := HB.out.at' k hltM
        have hkI : (k : Int) < (L.length : Int) := by omega
        have hkM : (k : Int) < (M.length : Int) := by omega
        have hkI0 : (0 : Int) ≤ (k : Int) := by omega
        have HG1 : Hid (L[k]? = some L[k]) := hid0 (List.getElem?_eq_getElem hlt)
        have HG2 : Hid (M[k]? = some M[k]) := hid0 (List.getElem?_eq_getElem hltM)
        generalize L[k] = s at *
        generalize M[k] = u at *
        by_cases hsu : s = u
        · subst hsu
          have hself : (s == s) = true := by simp
          have hself2 : (s != s) = false := by simp
          have HE2 : Hid (∀ j, j < k + 1 → L[j]? = M[j]?) := hid0 (fun j hj => by
            by_cases e : j = k
            · subst e; rw [HG1.out, HG2.out]
            · exact HE.out j (by omega))
          clear HE HG1 HG2
          go_wp2
          go_quiet ((fail))
          go_wp2
          go_roundw
          case rel => exact ⟨k + 1, by omega, by go_num, ⟨_, rfl⟩, HE2⟩
          case measure => simp [intOf]; omega
        · have hne : (s == u) = false := by simpa using hsu
          have hne2 : (s != u) = true := by simpa using hsu
          have HV : Hid (decide (L = M) = false) := hid0 (decide_eq_false (fun e => by
            subst e
            rw [HG1.out] at HG2
            exact hsu (by have := HG2.out; cases this; rfl)))
          clear HE HG1 HG2
          go_wp2
          go_quiet ((fail))
          go_wp2
          go_ret
          exact ⟨by rw [HV.out]; rfl, _, World.drewN_drewN _ _ _⟩
      · have hkI : ¬ (k : Int) < (L.length : Int) := by omega
        have HV : Hid (decide (L = M) = true) := hid0 (decide_eq_true (eq_uptoD HL.out (fun j hj => HE.out j (by omega))))
        clear HE
        go_wp2
        go_ret
        exact ⟨by rw [HV.out]; rfl, nd, rfl⟩
  · have hlI : ¬ (L.length : Int) = (M.length : Int) := by omega
    have HV : Hid (decide (L = M) = false) := hid0 (decide_eq_false (fun e => hlen (by rw [e])))
    clear hlen
    go_enter Tryd.func14, Tryd.ntmps14
    go_wp2
    go_ret
    exact ⟨by rw [HV.out]; rfl, 0, rfl⟩
set_option maxRecDepth 10000 in
set_option maxHeartbeats 1600000 in
theorem sameRowsD (L M : List (List Int)) (a b : Option Addr) (ca cb : Nat) (w : World) (hl : L.length ≤ 1000000000) (hr : ∀ r ∈ L, r.length ≤ 1000000000) (ha : RwA w a L) (hb : RwA w b M) :
    Calls Tryd.prog 33 #[.slice a L.length ca, .slice b M.length cb] w fun e w' => e = .returned (.bool (decide (L = M))) ∧ ∃ n, w' = w.drewN n := by
  have HA := hid0 ha
  have HB := hid0 hb
  have HR := hid0 hr
  clear ha hb hr
  by_cases hlen : L.length = M.length
  · have hlI : (L.length : Int) = (M.length : Int) := by omega
    have HL := hid0 hlen
    clear hlen
    go_enter Tryd.func33, Tryd.ntmps33
    go_wp2
    go_loopw [5] (fun i wr => ∃ k : Nat, k ≤ L.length ∧ i = .int .i64 (k : Int) ∧ (∃ n, wr = w.drewN n) ∧ Hid (∀ j, j < k → L[j]? = M[j]?)) (fun i _ => L.length - (intOf i).toNat)
    case atStart => exact ⟨0, Nat.zero_le _, rfl, ⟨0, rfl⟩, hid0 (fun j h => absurd h (Nat.not_lt_zero _))⟩
    case round =>
      obtain ⟨k, hk, rfl, ⟨nd, rfl⟩, HE⟩ := hrel
      by_cases hlt : k < L.length
      · have hltM : k < M.length := by have := HL.out; omega
        obtain ⟨b1, o1, rfl, _, a1, c1, d1, i1⟩ := HA.out.at' k hlt
        obtain ⟨b2, o2, rfl, _, a2, c2, d2, i2⟩ := HB.out.at' k hltM
        have hkI : (k : Int) < (L.length : Int) := by omega
        have hkM : (k : Int) < (M.length : Int) := by omega
        have hkI0 : (0 : Int) ≤ (k : Int) := by omega
        have HG1 : Hid (L[k]? = some L[k]) := hid0 (List.getElem?_eq_getElem hlt)
        have HG2 : Hid (M[k]? = some M[k]) := hid0 (List.getElem?_eq_getElem hltM)
        have HS := hid0 (fun n => sameIntsD L[k] M[k] a1 a2 c1 c2 (w.drewN n) (by have := HR.out _ (List.getElem_mem hlt); omega) (ia_drew i1 n) (ia_drew i2 n))
        clear i1 i2
        generalize L[k] = s at *
        generalize M[k] = u at *
        by_cases hsu : s = u
        · have HE2 : Hid (∀ j, j < k + 1 → L[j]? = M[j]?) := hid0 (fun j hj => by
            by_cases e : j = k
            · subst e; rw [HG1.out, HG2.out, hsu]
            · exact HE.out j (by omega))
          rw [decide_eq_true hsu] at HS
          clear HE HG1 HG2 hsu
          go_wp2
          go_quiet ((go_at_call 14; exact (HS.out _).mono (fun _ _ h => ⟨h.1, drew_more h.2⟩)))
          go_wp2
          go_roundw
          case rel => exact ⟨k + 1, by omega, by go_num, ⟨_, rfl⟩, HE2⟩
          case measure => simp [intOf]; omega
        · have HV : Hid (decide (L = M) = false) := hid0 (decide_eq_false (fun e => by
            subst e
            rw [HG1.out] at HG2
            exact hsu (by have := HG2.out; cases this; rfl)))
          rw [decide_eq_false hsu] at HS
          clear HE HG1 HG2 hsu
          go_wp2
          go_quiet ((go_at_call 14; exact (HS.out _).mono (fun _ _ h => ⟨h.1, drew_more h.2⟩)))
          go_wp2
          go_ret
          exact ⟨by rw [HV.out]; rfl, _, rfl⟩
      · have hkI : ¬ (k : Int) < (L.length : Int) := by omega
        have HV : Hid (decide (L = M) = true) := hid0 (decide_eq_true (eq_uptoD HL.out (fun j hj => HE.out j (by omega))))
        clear HE
        go_wp2
        go_ret
        exact ⟨by rw [HV.out]; rfl, nd, rfl⟩
  · have hlI : ¬ (L.length : Int) = (M.length : Int) := by omega
    have HV : Hid (decide (L = M) = false) := hid0 (decide_eq_false (fun e => hlen (by rw [e])))
    clear hlen
    go_enter Tryd.func33, Tryd.ntmps33
    go_wp2
    go_ret
    exact ⟨by rw [HV.out]; rfl, 0, rfl⟩
theorem nI_inj {a b : List Nat} (h : nI a = nI b) : a = b := by
  unfold nI at h
  exact (List.map_inj_right (fun x y e => by omega)).1 h
theorem rows_inj {a b : List (List Nat)} (h : a.map nI = b.map nI) : a = b := (List.map_inj_right (fun _ _ e => nI_inj e)).1 h
/-- States in memory. -/
structure AllD (W : World) (aA : Option Addr) (all : List Rst) : Prop where
  at' : ∀ i (h : i < all.length), ∃ b off, aA = some ⟨b, off, none⟩ ∧ b < W.heap.size ∧ ∃ aT cT, W.cell? ⟨b, off + i * 2, none⟩ = some (.slice aT (all[i]).1.length cT) ∧ W.cell? ⟨b, off + i * 2 + 1, none⟩ = some (.bool (all[i]).2) ∧ RwA W aT ((all[i]).1.map nI)
theorem AllD.past {w w' : World} {aA : Option Addr} {all : List Rst} (h : AllD w aA all) (hb : Below w.heap.size w w') : AllD w' aA all := ⟨fun i hi => by
  obtain ⟨b, off, e, h1, aT, cT, h2, h3, h4⟩ := h.at' i hi
  exact ⟨b, off, e, Nat.lt_of_lt_of_le h1 hb.size, aT, cT, (hb.cell (p := ⟨b, off + i * 2, none⟩) h1).trans h2, (hb.cell (p := ⟨b, off + i * 2 + 1, none⟩) h1).trans h3, h4.past hb⟩⟩
def fndI (all : List Rst) (s : Rst) : Int := if s ∈ all then (all.idxOf s : Int) else -1
theorem fndI_at {all : List Rst} {s : Rst} {k : Nat} (hk : k < all.length) (h : all[k] = s) (h0 : ∀ j (_h : j < k) (h' : j < all.length), all[j] ≠ s) : fndI all s = (k : Int) := by
  unfold fndI
  rw [if_pos (h ▸ List.getElem_mem hk)]
  have h1 : all.idxOf s < all.length := List.idxOf_lt_length_iff.2 (h ▸ List.getElem_mem hk)
  have h2 : all[all.idxOf s] = s := List.getElem_idxOf h1
  have h3 : ¬ all.idxOf s < k := fun q => h0 _ q h1 h2
  have h4 : ¬ k < all.idxOf s := fun q => by
    have := List.not_of_lt_findIdx (p := fun x => x == s) (xs := all) (i := k) q
    simp at this
    exact this h
  omega
theorem fndI_no {all : List Rst} {s : Rst} (h0 : ∀ j (h' : j < all.length), all[j] ≠ s) : fndI all s = -1 := by
  unfold fndI
  rw [if_neg]
  intro h
  obtain ⟨j, hj, e⟩ := List.getElem_of_mem h
  exact h0 j hj e
set_option maxRecDepth 10000 in
set_option maxHeartbeats 3200000 in
theorem findD_any (aA aS : Option Addr) (cA cS : Nat) (all : List Rst) (s : Rst) (w : World) (hA : AllD w aA all) (hS : RwA w aS (s.1.map nI)) (hl : all.length ≤ 1000000000) (hsz : ∀ a ∈ all, a.1.length ≤ 1000000000 ∧ ∀ l ∈ a.1, l.length ≤ 1000000000) :
    Calls Tryd.prog 40 #[.slice aA all.length cA, .agg #[.slice aS s.1.length cS, .bool s.2]] w fun e w' => e = .returned (.int .i64 (fndI all s)) ∧ Hid (Below w.heap.size w w') := by
  obtain ⟨n, hn⟩ : ∃ x, x = all.length := ⟨_, rfl⟩
  obtain ⟨ns, hns⟩ : ∃ x, x = s.1.length := ⟨_, rfl⟩
  obtain ⟨sb, hsb⟩ : ∃ x, x = s.2 := ⟨_, rfl⟩
  rw [← hn] at hl
  rw [← hn, ← hns, ← hsb]
  obtain ⟨w0, hw0⟩ : ∃ w0, w0 = w.alloc (.cells #[.slice aS ns cS, .bool sb] 76) := ⟨_, rfl⟩
  have hb0 : Below w.heap.size w w0 := by rw [hw0]; exact (Below.refl _ _).alloc (Nat.le_refl _) _
  have hr0 : w0.heap[w.heap.size]? = some (.cells #[.slice aS ns cS, .bool sb] 76 (0, 0)) := by rw [hw0]; exact heap_alloc_new w _
  have HX : Hid (∀ V, Below w0.heap.size w0 V → V.cell? ⟨w.heap.size, 0, none⟩ = some (.slice aS ns cS) ∧ V.cell? ⟨w.heap.size, 1, none⟩ = some (.bool sb) ∧ AllD V aA all ∧ RwA V aS (s.1.map nI)) := hid0 (fun V hV => by
    have hr := (hV.block _ (Array.getElem?_eq_some_iff.1 hr0).1).trans hr0
    exact ⟨by rw [cell_of_row _ _ _ _ _ _ hr]; rfl, by rw [cell_of_row _ _ _ _ _ _ hr]; rfl, (hA.past hb0).past hV, (hS.past hb0).past hV⟩)
  have HB0 := hid0 hb0
  have HN := hid0 (And.intro hn (And.intro hns hsb))
  have HSz := hid0 hsz
  have hfold := hw0.symm
  clear hw0 hr0 hb0 hA hS hn hns hsb hsz
  go_enter Tryd.func40, Tryd.ntmps40
  go_wp2
  go_loopw [5] (fun q wr => ∃ k : Nat, k ≤ n ∧ q = .int .i64 (k : Int) ∧ Hid (∀ j (h : j < k) (h' : j < all.length), all[j] ≠ s) ∧ Hid (Below w0.heap.size w0 wr)) (fun q _ => n - (intOf q).toNat)
  case atStart => exact ⟨0, Nat.zero_le _, rfl, hid0 (fun i h => absurd h (Nat.not_lt_zero _)), hid0 (Below.refl _ _)⟩
  case round =>
    obtain ⟨k, hk, rfl, HZ, HB⟩ := hrel
    have x0 := (HX.out wr HB.out).1
    have x1 := (HX.out wr HB.out).2.1
    by_cases hkl : k < n
    · have hkI : (k : Int) < (n : Int) := by omega
      have hkI0 : (0 : Int) ≤ (k : Int) := by omega
      have hka : k < all.length := by rw [← HN.out.1]; exact hkl
      obtain ⟨bA, oA, rfl, _, aT, cT, d1, d2, i1⟩ := (HX.out wr HB.out).2.2.1.at' k hka
      have hz := HSz.out _ (List.getElem_mem hka)
      have HNx : Hid (all[k] ≠ s → ∀ j (h : j < k + 1) (h' : j < all.length), all[j] ≠ s) := hid0 (fun h0 j hj hj' => by
        by_cases e : j = k
        · subst e; exact h0
        · exact HZ.out j (by omega) hj')
      have HYs : Hid (all[k] = s → fndI all s = (k : Int)) := hid0 (fun h => fndI_at hka h HZ.out)
      generalize all[k] = ak at *
      obtain ⟨kT, kb⟩ := ak
      dsimp only at d1 d2 i1 hz
      obtain ⟨nk, hnk⟩ : ∃ x, x = kT.length := ⟨_, rfl⟩
      have HR : Hid (∀ m, Calls Tryd.prog 33 #[.slice aT nk cT, .slice aS ns cS] (wr.drewN m) fun e w' => e = .returned (.bool (decide (kT.map nI = s.1.map nI))) ∧ ∃ q, w' = (wr.drewN m).drewN q) := hid0 (fun m => by
        have hd : Below wr.heap.size wr (wr.drewN m) := below_drew' (Below.refl _ _) m
        have h := sameRowsD (kT.map nI) (s.1.map nI) aT aS cT cS (wr.drewN m) (by rw [List.length_map]; exact hz.1) (fun r hr => by
          obtain ⟨l, hl, rfl⟩ := List.mem_map.1 hr
          rw [nI_len]
          exact hz.2 l hl) (i1.past hd) ((HX.out wr HB.out).2.2.2.past hd)
        rw [List.length_map, List.length_map, ← hnk, ← HN.out.2.1] at h
        exact h)
      rw [← hnk] at d1
      clear hnk i1 hz HZ
      by_cases hb : kb = sb
      · subst hb
        by_cases hr : kT.map nI = s.1.map nI
        · have HV : Hid (fndI all s = (k : Int)) := hid0 (HYs.out (Prod.ext (rows_inj hr) HN.out.2.2))
          rw [decide_eq_true hr] at HR
          clear hr HYs HNx
          cases kb
          all_goals
            go_wp2
            go_quiet ((go_at_call 33; go_loud (exact (HR.out _).mono (fun _ _ h => ⟨h.1, by obtain ⟨m, hm⟩ := h.2; exact ⟨_, hm.trans (World.drewN_drewN _ _ _)⟩⟩))))
            go_wp2
            go_ret
            exact ⟨by rw [HV.out]; rfl, hid0 (Below.later HB0.out (below_drew' HB.out _))⟩
        · have HNe : Hid (∀ j (h : j < k + 1) (h' : j < all.length), all[j] ≠ s) := hid0 (HNx.out (fun e => hr (by rw [← e])))
          rw [decide_eq_false hr] at HR
          clear hr HYs HNx
          cases kb
          all_goals
            go_wp2
            go_quiet ((go_at_call 33; go_loud (exact (HR.out _).mono (fun _ _ h => ⟨h.1, by obtain ⟨m, hm⟩ := h.2; exact ⟨_, hm.trans (World.drewN_drewN _ _ _)⟩⟩))))
            go_wp2
            go_roundw
            case rel => exact ⟨k + 1, by omega, by go_num, HNe, hid0 (below_drew' HB.out _)⟩
            case measure => simp [intOf]; omega
      · have HNe : Hid (∀ j (h : j < k + 1) (h' : j < all.length), all[j] ≠ s) := hid0 (HNx.out (fun e => hb (by rw [HN.out.2.2, ← e])))
        clear HYs HNx
        cases kb <;> cases sb <;> first | (exact absurd rfl hb) | skip
        all_goals
          clear hb
          go_wp2
          go_quiet (fail)
          go_wp2
          go_roundw
          case rel => exact ⟨k + 1, by omega, by go_num, HNe, hid0 (below_drew' HB.out _)⟩
          case measure => simp [intOf]; omega
    · have hkI : ¬ (k : Int) < (n : Int) := by omega
      have HV : Hid (fndI all s = -1) := hid0 (fndI_no (fun j hj => HZ.out j (by have := HN.out.1; omega) hj))
      clear HZ
      go_wp2
      go_ret
      exact ⟨by rw [HV.out]; rfl, hid0 (Below.later HB0.out HB.out)⟩
end Go.Proofs.YtbbejfkgopcjoaaDoor
