/-
  PlEeW, PlHbW, PlKaM, PlTaM, PlZW, PlTbW, PlTcM, PlTgM, PlLeW.
-/
import Derived.Test.YtlkgghbdgjomkaaDoorMuc
import Derived.Test.YtlkgghbdgjomkaaDoorMub
import Derived.Test.YtlkgghbdgjomkaaDoorMud
import Derived.Test.YtlkgghbdgjomkaaDoorMua
namespace Go.Proofs.YtlkgghbdgjomkaaDoor
open Go.RowKit Go.Shelf
attribute [local go_sem] Oper.semAt_some
set_option maxRecDepth 100000 in
set_option maxHeartbeats 1000000 in
theorem step_any (B gf gh ga gn mp m cF cH n i : Nat) (ks : List Int) (Fo H : List (List Int)) (fa fx : Nat → Bool) (R : Nat → Prop) (w : World) (hm : m ≤ 1000000) (hn : n ≤ 512 * m) (hFl : Fo.length = n) (hHl : H.length = ks.length) (hi : i < ks.length) (hin : inI ks[i])
    (_hHn : H.length ≤ 1000000000000) (hFa : ∀ r ∈ Fo, r.length ≤ 100000000000000 ∧ r.all (oneOf n) = true) (hHa : ∀ r ∈ H, r.length ≤ 100000000000000 ∧ r.all (oneOf n) = true) (h : Wk w B gf gh ga gn mp m cF cH ks Fo H fa fx R) :
    Calls Tryd.prog 34 #[.pointer (some ⟨B, 0, none⟩), .int .i64 ks[i]] w fun e w' => e = .returned (.bool (!emF (stepAt (H[i]'(hHl ▸ hi)) fx m) m)) ∧ Wk w' B gf gh ga gn mp m cF cH ks Fo H (stepAt (H[i]'(hHl ▸ hi)) fx m) (nxF Fo (plB (stepAt (H[i]'(hHl ▸ hi)) fx m) (512 * m))) R ∧ Only w w' (fun k => k = ga ∨ k = gn) := by
  have hiH : i < H.length := hHl ▸ hi
  obtain ⟨w0, hw0⟩ : ∃ w0, w0 = w.alloc (.cells #[.pointer (some ⟨B, 0, none⟩)] 49) := ⟨_, rfl⟩
  have hb0 : Below w.heap.size w w0 := by rw [hw0]; exact (Below.refl _ _).alloc (Nat.le_refl _) _
  have hs0 : w0.heap.size = w.heap.size + 1 := by rw [hw0]; simp
  have hx0 : w0.heap[w.heap.size]? = some (.cells #[.pointer (some ⟨B, 0, none⟩)] 49 (0, 0)) := by rw [hw0]; exact heap_alloc_new w _
  have hBl : B < w.heap.size := (Array.getElem?_eq_some_iff.1 h.row).1
  have hga := h.at'.lt
  have hgn := h.nx.lt
  have hBa := h.ra B h.rB
  -- what stands while the two sets are written
  have HC : Hid (∀ W, Only w0 W (fun k => k = ga ∨ k = gn) → W.cell? ⟨w.heap.size, 0, none⟩ = some (.pointer (some ⟨B, 0, none⟩)) ∧ W.cell? ⟨B, 0, none⟩ = some (.slice (some ⟨gf, 0, none⟩) Fo.length cF) ∧ W.cell? ⟨B, 1, none⟩ = some (.map (some mp)) ∧ W.cell? ⟨B, 2, none⟩ = some (.slice (some ⟨gh, 0, none⟩) H.length cH) ∧ W.cell? ⟨B, 3, none⟩ = some (.slice (some ⟨ga, 0, none⟩) m m) ∧ W.cell? ⟨B, 4, none⟩ = some (.slice (some ⟨gn, 0, none⟩) m m)) := hid0 (fun W ho => by
    have hr := (ho.block B (by omega) (by omega)).trans ((hb0.block B hBl).trans h.row)
    have hr2 := (ho.block w.heap.size (by omega) (by omega)).trans hx0
    refine ⟨by rw [cell_of_row _ _ _ _ _ _ hr2]; rfl, by rw [cell_of_row _ _ _ _ _ _ hr]; rfl, by rw [cell_of_row _ _ _ _ _ _ hr]; rfl, by rw [cell_of_row _ _ _ _ _ _ hr]; rfl, by rw [cell_of_row _ _ _ _ _ _ hr]; rfl, by rw [cell_of_row _ _ _ _ _ _ hr]; rfl⟩)
  have hR : ∀ k, R k → ¬ (k = ga ∨ k = gn) := fun k hk => by have := h.ra k hk; omega
  have HW : Hid (∀ W fa' fx', Only w0 W (fun k => k = ga ∨ k = gn) → BS W ga m fa' → BS W gn m fx' → Wk W B gf gh ga gn mp m cF cH ks Fo H fa' fx' R) := hid0 (fun W fa' fx' ho h1 h2 => by
    have ho' : Only w W (fun k => k = ga ∨ k = gn) := (Only.ofNew hb0 (fun k => k = ga ∨ k = gn)).trans ho (fun i hi => .inl hi)
    exact ⟨(ho'.block B hBl (hR B h.rB)).trans h.row, h.fo.only ho' hR, h.ho.only ho' hR, h.nu.keep (ho'.block mp h.nu.lt (hR mp h.rm)), h1, h2, tab_only h.tab h.tabl ho' (hR 11 h.rt), Nat.lt_of_lt_of_le h.tabl ho'.size, h.rB, h.rm, h.rt, h.ra, h.ne⟩)
  have HBe := hid0 hb0
  obtain ⟨w1, hcl1, hat1, ho1⟩ := clear_blk ga m fa w0 (h.at'.kept (hb0.block ga hga))
  have ho1' : Only w0 w1 (fun k => k = ga ∨ k = gn) := ho1.mono (fun k hk => .inl hk)
  have hk1 := HW.out w1 _ _ ho1' hat1 ((h.nx.kept (hb0.block gn hgn)).only ho1 (fun e => h.ne e.symm))
  obtain ⟨x, u, v, hu, hv, hrw, hxr⟩ := hk1.ho.at' i hiH
  have hget := (hk1.nu.keep (w' := w1.drew) rfl).get hi hin
  obtain ⟨d0, d1, d2, d3, d4, d5⟩ := HC.out w1 ho1'
  obtain ⟨p0, p1, p2, p3, p4, p5⟩ := HC.out w0 (Only.refl _ _)
  have hHi := hHa _ (List.getElem_mem hiH)
  have hxg : ¬ x = some ga := fun e => (h.ra ga (hxr ga e)).1 rfl
  have HJ := hid0 (joinTo_any B 3 ga m n (fun _ => false) H[i] x (.agg #[u, v]) w1.drew hHi.1 hm hn hHi.2 (by show B < w1.heap.size; have := ho1.size; omega) hBa.1 d4 (hat1.kept (w' := w1.drew) rfl) (hrw.only (w' := w1.drew) (S := fun _ => False) (Only.drewN w1 1 _) (fun _ _ h => h)) hxg)
  have HSv : Hid (∀ W, Only w0 W (fun k => k = ga ∨ k = gn) → Only w1 W (fun k => k = ga ∨ k = gn) → (fun V => V.cell? ⟨w.heap.size, 0, none⟩ = some (.pointer (some ⟨B, 0, none⟩)) ∧ V.cell? ⟨B, 0, none⟩ = some (.slice (some ⟨gf, 0, none⟩) Fo.length cF) ∧ V.cell? ⟨B, 1, none⟩ = some (.map (some mp)) ∧ V.cell? ⟨B, 2, none⟩ = some (.slice (some ⟨gh, 0, none⟩) H.length cH) ∧ V.cell? ⟨B, 3, none⟩ = some (.slice (some ⟨ga, 0, none⟩) m m) ∧ V.cell? ⟨B, 4, none⟩ = some (.slice (some ⟨gn, 0, none⟩) m m) ∧ V.cell? ⟨gh, i * 2, none⟩ = some u ∧ V.cell? ⟨gh, i * 2 + 1, none⟩ = some v ∧ (Instr.lookup 53 (.map (some mp)) (.int .i64 ks[i]) false).run Tryd.prog V = .ok (.int .i64 (i : Int)) V) W) := hid0 (fun W h1 h2 => by
    obtain ⟨q0, q1, q2, q3, q4, q5⟩ := HC.out W h1
    exact ⟨q0, q1, q2, q3, q4, q5, (h2.cell (p := ⟨gh, i * 2, none⟩) hk1.ho.lt (hR gh hk1.ho.in')).trans hu, (h2.cell (p := ⟨gh, i * 2 + 1, none⟩) hk1.ho.lt (hR gh hk1.ho.in')).trans hv, ((hk1.nu.keep (h2.block mp hk1.nu.lt (hR mp h.rm))).get hi hin)⟩)
  have HXn : Hid (∀ x, stepAt H[i] fx m x = true → x < Fo.length) := hid0 (fun x hx => by
    unfold stepAt andTo addF at hx
    rw [Bool.and_eq_true, Bool.or_false, List.any_eq_true] at hx
    obtain ⟨⟨z, hz, hzx⟩, _⟩ := hx
    have h1 := (oneOf_iff n z).1 (List.all_eq_true.1 (hHa _ (List.getElem_mem hiH)).2 z hz)
    have h2 := of_decide_eq_true hzx
    omega)
  have HK1 := hid0 hk1
  have HNx := hid0 h.ne
  have HHr := hid0 hx0
  have HO1 := hid0 ho1'
  have HO11 : Hid (Only w1 w1 (fun k => k = ga ∨ k = gn)) := hid0 (Only.refl _ _)
  have HNx0 := hid0 ((h.nx.kept (hb0.block gn hgn)))
  have HTr : Hid (∀ W W' g, (g = ga ∨ g = gn) → Only w0 W (fun k => k = ga ∨ k = gn) → Only W.drew W' (fun k => k = g) → Only w0 W' (fun k => k = ga ∨ k = gn)) := hid0 (fun W W' g hg h1 h2 => (h1.trans (Only.drewN W 1 (fun k => k = ga ∨ k = gn)) (fun i hi => .inl hi)).trans h2 (fun i hi => .inl (hi ▸ hg)))
  have HMt : Hid (∀ W f', Only w0 W (fun k => k = ga ∨ k = gn) → BS W ga m f' → BS W gn m fx → Calls Tryd.prog 52 #[.pointer (some ⟨B, 3, none⟩), .agg #[.slice (some ⟨gn, 0, none⟩) m m]] W.drew fun e w' => e = .returned (.tuple #[]) ∧ BS w' ga m (andTo f' fx (64 * (m * 8))) ∧ Only W.drew w' (fun k => k = ga)) := hid0 (fun W f' h1 h2 h3 =>
    meet_any B 3 ga gn m f' fx W.drew hm (by show B < W.heap.size; have := h1.size; omega) hBa.1 (fun e => h.ne e.symm) (HC.out W h1).2.2.2.2.1 (h2.kept (w' := W.drew) rfl) (h3.kept (w' := W.drew) rfl))
  have HNe := hid0 h.ne
  have HFa := hid0 hFa
  have hmx : Tryd.prog.follows .mixedOrders = true := by kernel_rfl
  have hf1 : Fence.wide.fn 51 := trivial
  have hf2 : Fence.wide.fn 52 := trivial
  have hiI : (i : Int) < (H.length : Int) := by omega
  have hiI0 : (0 : Int) ≤ (i : Int) := by omega
  generalize hLi : H[i] = L at *
  generalize hci : ks[i] = c at *
  have hfold := hw0.symm
  clear hw0 hb0 hrw hxr hat1 ho1 hk1 hHi hFa hHa h hx0 hR hBa hxg ho1' hLi hci hin
  refine (callsIn_wide (n := 8)).1 ?_
  refine callsIn_of_wp_marks Tryd.func34 rfl trivial ?_ rfl
  simp only [Tryd.ntmps34, List.size_toArray, List.length_cons, List.length_nil, Nat.reduceAdd, Nat.reduceSub, Array.replicate_succ, Array.replicate_zero, List.push_toArray, List.append_toArray, List.nil_append, List.cons_append]
  gi_wp2
  refine wpIn_wide.2 ?_
  refine wp_region_noPanic ?_
  refine wp_region_held_drew (S := (fun V => V.cell? ⟨w.heap.size, 0, none⟩ = some (.pointer (some ⟨B, 0, none⟩)) ∧ V.cell? ⟨B, 0, none⟩ = some (.slice (some ⟨gf, 0, none⟩) Fo.length cF) ∧ V.cell? ⟨B, 1, none⟩ = some (.map (some mp)) ∧ V.cell? ⟨B, 2, none⟩ = some (.slice (some ⟨gh, 0, none⟩) H.length cH) ∧ V.cell? ⟨B, 3, none⟩ = some (.slice (some ⟨ga, 0, none⟩) m m) ∧ V.cell? ⟨B, 4, none⟩ = some (.slice (some ⟨gn, 0, none⟩) m m) ∧ V.cell? ⟨gh, i * 2, none⟩ = some u ∧ V.cell? ⟨gh, i * 2 + 1, none⟩ = some v ∧ (Instr.lookup 53 (.map (some mp)) (.int .i64 c) false).run Tryd.prog V = .ok (.int .i64 (i : Int)) V)) (by kernel_rfl) ?_ (fun hHeld => ?_)
  · exact HSv.out w1.drew (HO1.out.trans (Only.drewN w1 1 (fun k => k = ga ∨ k = gn)) (fun i hi => .inl hi)) (Only.drewN w1 1 _)
  refine tkV (i := 0) (d := some 11) (v := ?_) rfl (by kernel_rfl) (by kernel_rfl) (by kernel_rfl) rfl (fun _ _ _ h => h) (by rfl) ?_ (by assumption) ?_
  rotate_left
  · (intro w hSw; (try dsimp only at hSw); (try simp only [List.getElem_toArray, List.getElem_cons_zero]); go_simp; try with_reducible rfl)
  try simp only [Act.put, List.setIfInBounds_toArray, List.set_cons_zero, List.set_cons_succ]
  refine tkV (i := 1) (d := some 12) (v := ?_) rfl (by kernel_rfl) (by kernel_rfl) (by kernel_rfl) rfl (fun _ _ _ h => h) (by rfl) ?_ (by assumption) ?_
  rotate_left
  · (intro w hSw; (try dsimp only at hSw); (try simp only [List.getElem_toArray, List.getElem_cons_zero, List.getElem_cons_succ]); go_simp; try with_reducible rfl)
  try simp only [Act.put, List.setIfInBounds_toArray, List.set_cons_zero, List.set_cons_succ]
  refine tkV (i := 2) (d := some 13) (v := ?_) rfl (by kernel_rfl) (by kernel_rfl) (by kernel_rfl) rfl (fun _ _ _ h => h) (by rfl) ?_ (by assumption) ?_
  rotate_left
  · (intro w hSw; (try dsimp only at hSw); (try simp only [List.getElem_toArray, List.getElem_cons_zero, List.getElem_cons_succ]); go_simp; try with_reducible rfl)
  try simp only [Act.put, List.setIfInBounds_toArray, List.set_cons_zero, List.set_cons_succ]
  refine tkV (i := 3) (d := some 14) (v := ?_) rfl (by kernel_rfl) (by kernel_rfl) (by kernel_rfl) rfl (fun _ _ _ h => h) (by rfl) ?_ (by assumption) ?_
  rotate_left
  · (intro w hSw; (try dsimp only at hSw); (try simp only [List.getElem_toArray, List.getElem_cons_zero, List.getElem_cons_succ]); go_simp; try with_reducible rfl)
  try simp only [Act.put, List.setIfInBounds_toArray, List.set_cons_zero, List.set_cons_succ]
  refine tkV (i := 4) (d := some 15) (v := ?_) rfl (by kernel_rfl) (by kernel_rfl) (by kernel_rfl) rfl (fun _ _ _ h => h) (by rfl) ?_ (by assumption) ?_
  rotate_left
  · (intro w hSw; (try dsimp only at hSw); (try simp only [List.getElem_toArray, List.getElem_cons_zero, List.getElem_cons_succ]); go_simp; try with_reducible rfl)
  try simp only [Act.put, List.setIfInBounds_toArray, List.set_cons_zero, List.set_cons_succ]
  refine tkV (i := 5) (d := some 16) (v := ?_) rfl (by kernel_rfl) (by kernel_rfl) (by kernel_rfl) rfl (fun _ _ _ h => h) (by rfl) ?_ (by assumption) ?_
  rotate_left
  · (intro w hSw; (try dsimp only at hSw); (try simp only [List.getElem_toArray, List.getElem_cons_zero, List.getElem_cons_succ]); go_simp; try with_reducible rfl)
  try simp only [Act.put, List.setIfInBounds_toArray, List.set_cons_zero, List.set_cons_succ]
  refine tkV (i := 6) (d := some 17) (v := ?_) rfl (by kernel_rfl) (by kernel_rfl) (by kernel_rfl) rfl (fun _ _ _ h => h) (by rfl) ?_ (by assumption) ?_
  rotate_left
  · (intro w hSw; (try dsimp only at hSw); (try simp only [List.getElem_toArray, List.getElem_cons_zero, List.getElem_cons_succ]); go_simp; try with_reducible rfl)
  try simp only [Act.put, List.setIfInBounds_toArray, List.set_cons_zero, List.set_cons_succ]
  refine tkV (i := 7) (d := some 18) (v := ?_) rfl (by kernel_rfl) (by kernel_rfl) (by kernel_rfl) rfl (fun _ _ _ h => h) (by rfl) ?_ (by assumption) ?_
  rotate_left
  · (intro w hSw; (try dsimp only at hSw); (try simp only [List.getElem_toArray, List.getElem_cons_zero, List.getElem_cons_succ]); go_simp; try with_reducible rfl)
  try simp only [Act.put, List.setIfInBounds_toArray, List.set_cons_zero, List.set_cons_succ]
  refine tkV (i := 8) (d := some 19) (v := ?_) rfl (by kernel_rfl) (by kernel_rfl) (by kernel_rfl) rfl (fun _ _ _ h => h) (by rfl) ?_ (by assumption) ?_
  rotate_left
  · (intro w hSw; (try dsimp only at hSw); (try simp only [List.getElem_toArray, List.getElem_cons_zero, List.getElem_cons_succ]); go_simp; try with_reducible rfl)
  try simp only [Act.put, List.setIfInBounds_toArray, List.set_cons_zero, List.set_cons_succ]
  refine tkV (i := 9) (d := some 20) (v := ?_) rfl (by kernel_rfl) (by kernel_rfl) (by kernel_rfl) rfl (fun _ _ _ h => h) (by rfl) ?_ (by assumption) ?_
  rotate_left
  · (intro w hSw; (try dsimp only at hSw); (try simp only [List.getElem_toArray, List.getElem_cons_zero, List.getElem_cons_succ]); go_simp; try with_reducible rfl)
  try simp only [Act.put, List.setIfInBounds_toArray, List.set_cons_zero, List.set_cons_succ]
  refine tkV (i := 10) (d := some 21) (v := ?_) rfl (by kernel_rfl) (by kernel_rfl) (by kernel_rfl) rfl (fun _ _ _ h => h) (by rfl) ?_ (by assumption) ?_
  rotate_left
  · (intro w hSw; (try dsimp only at hSw); (try simp only [List.getElem_toArray, List.getElem_cons_zero, List.getElem_cons_succ]); go_simp; try with_reducible rfl)
  try simp only [Act.put, List.setIfInBounds_toArray, List.set_cons_zero, List.set_cons_succ]
  refine tkV (i := 11) (d := some 22) (v := ?_) rfl (by kernel_rfl) (by kernel_rfl) (by kernel_rfl) rfl (fun _ _ _ h => h) (by rfl) ?_ (by assumption) ?_
  rotate_left
  · (intro w hSw; (try dsimp only at hSw); (try simp only [List.getElem_toArray, List.getElem_cons_zero, List.getElem_cons_succ]); go_simp; try with_reducible rfl)
  try simp only [Act.put, List.setIfInBounds_toArray, List.set_cons_zero, List.set_cons_succ]
  refine tkV (i := 12) (d := some 23) (v := ?_) rfl (by kernel_rfl) (by kernel_rfl) (by kernel_rfl) rfl (fun _ _ _ h => h) (by rfl) ?_ (by assumption) ?_
  rotate_left
  · (intro w hSw; (try dsimp only at hSw); (try simp only [List.getElem_toArray, List.getElem_cons_zero, List.getElem_cons_succ]); go_simp; try with_reducible rfl)
  try simp only [Act.put, List.setIfInBounds_toArray, List.set_cons_zero, List.set_cons_succ]
  refine tkV (i := 13) (d := some 24) (v := ?_) rfl (by kernel_rfl) (by kernel_rfl) (by kernel_rfl) rfl (fun _ _ _ h => h) (by rfl) ?_ (by assumption) ?_
  rotate_left
  · (intro w hSw; (try dsimp only at hSw); (try simp only [List.getElem_toArray, List.getElem_cons_zero, List.getElem_cons_succ]); go_simp; try with_reducible rfl)
  try simp only [Act.put, List.setIfInBounds_toArray, List.set_cons_zero, List.set_cons_succ]
  refine tkV (i := 14) (d := some 25) (v := ?_) rfl (by kernel_rfl) (by kernel_rfl) (by kernel_rfl) rfl (fun _ _ _ h => h) (by rfl) ?_ (by assumption) ?_
  rotate_left
  · (intro w hSw; (try dsimp only at hSw); (try simp only [List.getElem_toArray, List.getElem_cons_zero, List.getElem_cons_succ]); go_simp; try with_reducible rfl)
  try simp only [Act.put, List.setIfInBounds_toArray, List.set_cons_zero, List.set_cons_succ]
  refine wpAnyH_ready (rs := [15]) (by kernel_rfl) (by simp) (AllReadyH.cons rfl (fun K hK => ?_) AllReadyH.nil)
  try simp only [List.getElem_toArray, List.getElem_cons_zero, List.getElem_cons_succ]
  go_simp
  refine HJ.out.mono ?_
  rintro e w2 ⟨rfl, hb2, ho2⟩
  have HO2 := hid0 (HTr.out w1 w2 ga (.inl rfl) HO1.out ho2)
  have HO12 : Hid (Only w1 w2 (fun k => k = ga ∨ k = gn)) := hid0 ((Only.drewN w1 1 (fun k => k = ga ∨ k = gn)).trans ho2 (fun i hi => .inl (.inl hi)))
  have HB2 := hid0 hb2
  have HN2 := hid0 ((HK1.out.nx.kept (w' := w1.drew) rfl).only ho2 (fun e => HNe.out e.symm))
  clear hb2 ho2
  go_wp2_with fail
  refine hK.out _ _ ?_ (fun hHeld15 => ?_)
  · exact HSv.out w2 HO2.out HO12.out
  clear hK K
  (try simp only [Act.put]); (try simp only [List.setIfInBounds_toArray]); (try simp only [List.set_cons_succ]); (try simp only [List.set_cons_zero])
  refine wpAnyH_done (by kernel_rfl) ?_ _
  refine NoPanic.normal ?_
  have HM2 := hid0 (HMt.out w2 _ HO2.out HB2.out HN2.out)
  clear hget hcl1 d0 d1 d2 d3 d4 d5 p0 p1 p2 p3 p4 p5 hu hv
  gi_wp2
  refine wpIn_wide.2 ?_
  refine wp_region_noPanic ?_
  refine wp_region_held_drew (S := (fun V => V.cell? ⟨w.heap.size, 0, none⟩ = some (.pointer (some ⟨B, 0, none⟩)) ∧ V.cell? ⟨B, 0, none⟩ = some (.slice (some ⟨gf, 0, none⟩) Fo.length cF) ∧ V.cell? ⟨B, 1, none⟩ = some (.map (some mp)) ∧ V.cell? ⟨B, 2, none⟩ = some (.slice (some ⟨gh, 0, none⟩) H.length cH) ∧ V.cell? ⟨B, 3, none⟩ = some (.slice (some ⟨ga, 0, none⟩) m m) ∧ V.cell? ⟨B, 4, none⟩ = some (.slice (some ⟨gn, 0, none⟩) m m) ∧ V.cell? ⟨gh, i * 2, none⟩ = some u ∧ V.cell? ⟨gh, i * 2 + 1, none⟩ = some v ∧ (Instr.lookup 53 (.map (some mp)) (.int .i64 c) false).run Tryd.prog V = .ok (.int .i64 (i : Int)) V)) (by kernel_rfl) ?_ (fun hHeld => ?_)
  · exact HSv.out w2.drew (HO2.out.trans (Only.drewN w2 1 (fun k => k = ga ∨ k = gn)) (fun i hi => .inl hi)) (HO12.out.trans (Only.drewN w2 1 (fun k => k = ga ∨ k = gn)) (fun i hi => .inl hi))
  refine tkV (i := 0) (d := some 27) (v := ?_) rfl (by kernel_rfl) (by kernel_rfl) (by kernel_rfl) rfl (fun _ _ _ h => h) (by rfl) ?_ (by assumption) ?_
  rotate_left
  · (intro w hSw; (try dsimp only at hSw); (try simp only [List.getElem_toArray, List.getElem_cons_zero]); go_simp; try with_reducible rfl)
  try simp only [Act.put, List.setIfInBounds_toArray, List.set_cons_zero, List.set_cons_succ]
  refine tkV (i := 1) (d := some 28) (v := ?_) rfl (by kernel_rfl) (by kernel_rfl) (by kernel_rfl) rfl (fun _ _ _ h => h) (by rfl) ?_ (by assumption) ?_
  rotate_left
  · (intro w hSw; (try dsimp only at hSw); (try simp only [List.getElem_toArray, List.getElem_cons_zero, List.getElem_cons_succ]); go_simp; try with_reducible rfl)
  try simp only [Act.put, List.setIfInBounds_toArray, List.set_cons_zero, List.set_cons_succ]
  refine tkV (i := 2) (d := some 29) (v := ?_) rfl (by kernel_rfl) (by kernel_rfl) (by kernel_rfl) rfl (fun _ _ _ h => h) (by rfl) ?_ (by assumption) ?_
  rotate_left
  · (intro w hSw; (try dsimp only at hSw); (try simp only [List.getElem_toArray, List.getElem_cons_zero, List.getElem_cons_succ]); go_simp; try with_reducible rfl)
  try simp only [Act.put, List.setIfInBounds_toArray, List.set_cons_zero, List.set_cons_succ]
  refine tkV (i := 3) (d := some 30) (v := ?_) rfl (by kernel_rfl) (by kernel_rfl) (by kernel_rfl) rfl (fun _ _ _ h => h) (by rfl) ?_ (by assumption) ?_
  rotate_left
  · (intro w hSw; (try dsimp only at hSw); (try simp only [List.getElem_toArray, List.getElem_cons_zero, List.getElem_cons_succ]); go_simp; try with_reducible rfl)
  try simp only [Act.put, List.setIfInBounds_toArray, List.set_cons_zero, List.set_cons_succ]
  refine tkV (i := 4) (d := some 31) (v := ?_) rfl (by kernel_rfl) (by kernel_rfl) (by kernel_rfl) rfl (fun _ _ _ h => h) (by rfl) ?_ (by assumption) ?_
  rotate_left
  · (intro w hSw; (try dsimp only at hSw); (try simp only [List.getElem_toArray, List.getElem_cons_zero, List.getElem_cons_succ]); go_simp; try with_reducible rfl)
  try simp only [Act.put, List.setIfInBounds_toArray, List.set_cons_zero, List.set_cons_succ]
  refine tkV (i := 5) (d := some 32) (v := ?_) rfl (by kernel_rfl) (by kernel_rfl) (by kernel_rfl) rfl (fun _ _ _ h => h) (by rfl) ?_ (by assumption) ?_
  rotate_left
  · (intro w hSw; (try dsimp only at hSw); (try simp only [List.getElem_toArray, List.getElem_cons_zero, List.getElem_cons_succ]); go_simp; try with_reducible rfl)
  try simp only [Act.put, List.setIfInBounds_toArray, List.set_cons_zero, List.set_cons_succ]
  refine tkV (i := 6) (d := some 33) (v := ?_) rfl (by kernel_rfl) (by kernel_rfl) (by kernel_rfl) rfl (fun _ _ _ h => h) (by rfl) ?_ (by assumption) ?_
  rotate_left
  · (intro w hSw; (try dsimp only at hSw); (try simp only [List.getElem_toArray, List.getElem_cons_zero, List.getElem_cons_succ]); go_simp; try with_reducible rfl)
  try simp only [Act.put, List.setIfInBounds_toArray, List.set_cons_zero, List.set_cons_succ]
  refine wpAnyH_ready (rs := [7]) (by kernel_rfl) (by simp) (AllReadyH.cons rfl (fun K hK => ?_) AllReadyH.nil)
  try simp only [List.getElem_toArray, List.getElem_cons_zero, List.getElem_cons_succ]
  go_simp
  refine HM2.out.mono ?_
  rintro e w3 ⟨rfl, hb3, ho3⟩
  have HO3 := hid0 (HTr.out w2 w3 ga (.inl rfl) HO2.out ho3)
  have HO13 : Hid (Only w1 w3 (fun k => k = ga ∨ k = gn)) := hid0 ((HO12.out.trans (Only.drewN w2 1 (fun k => k = ga ∨ k = gn)) (fun i hi => .inl hi)).trans ho3 (fun i hi => .inl (.inl hi)))
  have HB3 := hid0 hb3
  have HN3 := hid0 ((HN2.out.kept (w' := w2.drew) rfl).only ho3 (fun e => HNe.out e.symm))
  clear hb3 ho3
  go_wp2_with fail
  refine hK.out _ _ ?_ (fun hHeld7 => ?_)
  · exact HSv.out w3 HO3.out HO13.out
  clear hK K
  (try simp only [Act.put]); (try simp only [List.setIfInBounds_toArray]); (try simp only [List.set_cons_succ]); (try simp only [List.set_cons_zero])
  refine wpAnyH_done (by kernel_rfl) ?_ _
  refine NoPanic.normal ?_
  obtain ⟨f0, f1, f2, f3, f4, f5⟩ := HC.out w3 HO3.out
  obtain ⟨w4, hcl4, hn4, ho4⟩ := clear_blk gn m fx w3 HN3.out
  have HO4 : Hid (Only w0 w4 (fun k => k = ga ∨ k = gn)) := hid0 (HO3.out.trans ho4 (fun i hi => .inl (.inr hi)))
  obtain ⟨g0, g1, g2, g3, g4, g5⟩ := HC.out w4 HO4.out
  have HN4 := hid0 hn4
  have HB4 : Hid (BS w4 ga m (stepAt L fx m)) := hid0 (HB3.out.only ho4 HNe.out)
  clear hn4 ho4
  gi_wp2
  clear HJ HM2 HN2 HN3 HB2 HB3 HO11 HO12 HO13 HO1 HO2 HO3 HMt HTr HSv HK1 hcl4 f0 f1 f2 f3 f4 f5 g0 g1 g2 g3 g4 g5
  have hs4 := HO4.out.size
  have HA : Hid (∀ W, Only w4 W (fun k => k = gn) → Only w0 W (fun k => k = ga ∨ k = gn)) := hid0 (fun W h => HO4.out.trans h (fun i hi => .inl (.inr hi)))
  have HJd : Hid (∀ pre W, BS W gn m (nxF Fo pre) ∧ Only w4 W (fun k => k = gn) → Wk W B gf gh ga gn mp m cF cH ks Fo H (stepAt L fx m) (nxF Fo pre) R) := hid0 (fun pre W h => HW.out W _ _ (HA.out W h.2) (HB4.out.only h.2 HNe.out) h.1)
  refine wpIn_rangeEach' 5 8 (by omega) ga m gn (stepAt L fx m) hm rfl (by omega) (fun pre W => BS W gn m (nxF Fo pre) ∧ Only w4 W (fun k => k = gn)) ?keep (fun pre A h => ⟨(HJd.out pre A h).at', (HJd.out pre A h).tab⟩) ⟨HN4.out, Only.refl _ _⟩ ?assign ?body ?done
  case keep =>
    rintro pre A W ⟨h1, h2⟩ h3
    exact ⟨h1.only h3 (by omega), h2.trans h3 (fun i hi => .inr hi)⟩
  case assign =>
    intro l x W K hK
    simp only [actE, List.setIfInBounds_toArray, List.set_cons_succ, List.set_cons_zero] at hK ⊢
    gi_wp2
    exact hK
  case body =>
    intro l pre x W hJ hx hfx
    simp only [actE, List.setIfInBounds_toArray, List.set_cons_succ, List.set_cons_zero]
    have hk := HJd.out pre W hJ
    obtain ⟨y0, y1, y2, y3, y4, y5⟩ := HC.out W (HA.out W hJ.2)
    have hxn : x < Fo.length := HXn.out x hfx
    obtain ⟨xx, uu, vv, hu, hv, hrw, hxr⟩ := hk.fo.at' x hxn
    have hra := hk.ra
    have hFx := HFa.out _ (List.getElem_mem hxn)
    have HC2 := hid0 (joinTo_any B 4 gn m n (nxF Fo pre) Fo[x] xx (.agg #[uu, vv]) W.drew hFx.1 hm hn hFx.2 (by show B < W.heap.size; have := hJ.2.size; omega) (hra B hk.rB).2 y5 (hJ.1.kept (w' := W.drew) rfl) (hrw.only (w' := W.drew) (S := fun _ => False) (Only.drewN W 1 _) (fun _ _ h => h)) (fun e => (hra gn (hxr gn e)).2 rfl))
    have HS := hid0 (nxF_snoc Fo pre x hxn)
    have HJp := hid0 hJ.2
    have hxI : (x : Int) < (Fo.length : Int) := by omega
    have hxI0 : (0 : Int) ≤ (x : Int) := by omega
    have hxn2 : x < n := by omega
    generalize Fo[x] = Lx at *
    have HS7 : Hid (∀ V, Only W V (fun k => k = gn) → V.cell? ⟨w.heap.size, 0, none⟩ = some (.pointer (some ⟨B, 0, none⟩)) ∧ V.cell? ⟨B, 0, none⟩ = some (.slice (some ⟨gf, 0, none⟩) Fo.length cF) ∧ V.cell? ⟨gf, x * 2, none⟩ = some uu ∧ V.cell? ⟨gf, x * 2 + 1, none⟩ = some vv) := hid0 (fun V hV => by
      obtain ⟨q0, q1, _⟩ := HC.out V ((HA.out W hJ.2).trans hV (fun i hi => .inl (.inr hi)))
      exact ⟨q0, q1, (hV.cell (p := ⟨gf, x * 2, none⟩) hk.fo.lt (hra gf hk.fo.in').2).trans hu, (hV.cell (p := ⟨gf, x * 2 + 1, none⟩) hk.fo.lt (hra gf hk.fo.in').2).trans hv⟩)
    clear hrw hxr hk hra hFx hJ
    have hfj : Fence.wide.fn 51 := trivial
    gi_wp2
    refine wpIn_region_round (S := (fun V => V.cell? ⟨w.heap.size, 0, none⟩ = some (.pointer (some ⟨B, 0, none⟩)) ∧ V.cell? ⟨B, 0, none⟩ = some (.slice (some ⟨gf, 0, none⟩) Fo.length cF) ∧ V.cell? ⟨gf, x * 2, none⟩ = some uu ∧ V.cell? ⟨gf, x * 2 + 1, none⟩ = some vv)) (by kernel_rfl) (by kernel_rfl) ?_ (fun hHeld => ?_)
    · exact HS7.out W.drew (Only.drewN W 1 _)
    refine tkV (i := 0) (d := some 46) (v := ?_) rfl (by kernel_rfl) (by kernel_rfl) (by kernel_rfl) rfl (fun _ _ _ h => h) (by rfl) ?_ (by assumption) ?_
    rotate_left
    · (intro w hSw; (try dsimp only at hSw); (try simp only [List.getElem_toArray, List.getElem_cons_zero]); go_simp; try with_reducible rfl)
    try simp only [Act.put, List.setIfInBounds_toArray, List.set_cons_zero, List.set_cons_succ]
    refine tkV (i := 1) (d := some 47) (v := ?_) rfl (by kernel_rfl) (by kernel_rfl) (by kernel_rfl) rfl (fun _ _ _ h => h) (by rfl) ?_ (by assumption) ?_
    rotate_left
    · (intro w hSw; (try dsimp only at hSw); (try simp only [List.getElem_toArray, List.getElem_cons_zero, List.getElem_cons_succ]); go_simp; try with_reducible rfl)
    try simp only [Act.put, List.setIfInBounds_toArray, List.set_cons_zero, List.set_cons_succ]
    refine tkV (i := 2) (d := some 48) (v := ?_) rfl (by kernel_rfl) (by kernel_rfl) (by kernel_rfl) rfl (fun _ _ _ h => h) (by rfl) ?_ (by assumption) ?_
    rotate_left
    · (intro w hSw; (try dsimp only at hSw); (try simp only [List.getElem_toArray, List.getElem_cons_zero, List.getElem_cons_succ]); go_simp; try with_reducible rfl)
    try simp only [Act.put, List.setIfInBounds_toArray, List.set_cons_zero, List.set_cons_succ]
    refine tkV (i := 3) (d := some 49) (v := ?_) rfl (by kernel_rfl) (by kernel_rfl) (by kernel_rfl) rfl (fun _ _ _ h => h) (by rfl) ?_ (by assumption) ?_
    rotate_left
    · (intro w hSw; (try dsimp only at hSw); (try simp only [List.getElem_toArray, List.getElem_cons_zero, List.getElem_cons_succ]); go_simp; try with_reducible rfl)
    try simp only [Act.put, List.setIfInBounds_toArray, List.set_cons_zero, List.set_cons_succ]
    refine tkV (i := 4) (d := some 50) (v := ?_) rfl (by kernel_rfl) (by kernel_rfl) (by kernel_rfl) rfl (fun _ _ _ h => h) (by rfl) ?_ (by assumption) ?_
    rotate_left
    · (intro w hSw; (try dsimp only at hSw); (try simp only [List.getElem_toArray, List.getElem_cons_zero, List.getElem_cons_succ]); go_simp; try with_reducible rfl)
    try simp only [Act.put, List.setIfInBounds_toArray, List.set_cons_zero, List.set_cons_succ]
    refine tkV (i := 5) (d := some 51) (v := ?_) rfl (by kernel_rfl) (by kernel_rfl) (by kernel_rfl) rfl (fun _ _ _ h => h) (by rfl) ?_ (by assumption) ?_
    rotate_left
    · (intro w hSw; (try dsimp only at hSw); (try simp only [List.getElem_toArray, List.getElem_cons_zero, List.getElem_cons_succ]); go_simp; try with_reducible rfl)
    try simp only [Act.put, List.setIfInBounds_toArray, List.set_cons_zero, List.set_cons_succ]
    refine tkV (i := 6) (d := some 52) (v := ?_) rfl (by kernel_rfl) (by kernel_rfl) (by kernel_rfl) rfl (fun _ _ _ h => h) (by rfl) ?_ (by assumption) ?_
    rotate_left
    · (intro w hSw; (try dsimp only at hSw); (try simp only [List.getElem_toArray, List.getElem_cons_zero, List.getElem_cons_succ]); go_simp; try with_reducible rfl)
    try simp only [Act.put, List.setIfInBounds_toArray, List.set_cons_zero, List.set_cons_succ]
    refine tkV (i := 7) (d := some 53) (v := ?_) rfl (by kernel_rfl) (by kernel_rfl) (by kernel_rfl) rfl (fun _ _ _ h => h) (by rfl) ?_ (by assumption) ?_
    rotate_left
    · (intro w hSw; (try dsimp only at hSw); (try simp only [List.getElem_toArray, List.getElem_cons_zero, List.getElem_cons_succ]); go_simp; try with_reducible rfl)
    try simp only [Act.put, List.setIfInBounds_toArray, List.set_cons_zero, List.set_cons_succ]
    refine tkV (i := 8) (d := some 54) (v := ?_) rfl (by kernel_rfl) (by kernel_rfl) (by kernel_rfl) rfl (fun _ _ _ h => h) (by rfl) ?_ (by assumption) ?_
    rotate_left
    · (intro w hSw; (try dsimp only at hSw); (try simp only [List.getElem_toArray, List.getElem_cons_zero, List.getElem_cons_succ]); go_simp; try with_reducible rfl)
    try simp only [Act.put, List.setIfInBounds_toArray, List.set_cons_zero, List.set_cons_succ]
    refine tkV (i := 9) (d := some 55) (v := ?_) rfl (by kernel_rfl) (by kernel_rfl) (by kernel_rfl) rfl (fun _ _ _ h => h) (by rfl) ?_ (by assumption) ?_
    rotate_left
    · (intro w hSw; (try dsimp only at hSw); (try simp only [List.getElem_toArray, List.getElem_cons_zero, List.getElem_cons_succ]); go_simp; try with_reducible rfl)
    try simp only [Act.put, List.setIfInBounds_toArray, List.set_cons_zero, List.set_cons_succ]
    refine wpAnyH_ready (rs := [10]) (by kernel_rfl) (by simp) (AllReadyH.cons rfl (fun K hK => ?_) AllReadyH.nil)
    try simp only [List.getElem_toArray, List.getElem_cons_zero, List.getElem_cons_succ]
    go_simp
    refine HC2.out.mono ?_
    rintro e w5 ⟨rfl, hb5, ho5⟩
    have HB5 := hid0 hb5
    have HO5 : Hid (Only W w5 (fun k => k = gn)) := hid0 ((Only.drewN W 1 (fun k => k = gn)).trans ho5 (fun i hi => .inl hi))
    clear hb5 ho5
    go_wp2_with fail
    refine hK.out _ _ ?_ (fun hHeld10 => ?_)
    · exact HS7.out w5 HO5.out
    clear hK K
    (try simp only [Act.put]); (try simp only [List.setIfInBounds_toArray]); (try simp only [List.set_cons_succ]); (try simp only [List.set_cons_zero])
    refine wpAnyH_done (by kernel_rfl) ?_ _
    refine NormO.normal ?_
    gi_wp2
    exact ⟨⟨by rw [HS.out]; exact HB5.out, HJp.out.trans HO5.out (fun i hi => .inl hi)⟩, HO5.out⟩
  case done =>
    intro W hJ hK
    have hk := HJd.out _ W hJ
    obtain ⟨y0, y1, y2, y3, y4, y5⟩ := HC.out W (HA.out W hJ.2)
    have HE := hid0 (isEmpty_any ga m (stepAt L fx m) W hm hk.at')
    have HK := hid0 hK
    have HWk := hid0 hk
    have HOW := hid0 (HA.out W hJ.2)
    clear hk hJ hK
    gi_wp2_with (refine ⟨trivial, ?_⟩; gi_at_call 54; refine (callsIn_wide.2 HE.out).mono ?_; rintro e w6 ⟨rfl, hb6⟩; have HB6 := hid0 hb6; clear hb6)
    have hk6 : w6.heap[w4.heap.size]? = some (.deferred (some [])) := (HB6.out.block _ (Array.getElem?_eq_some_iff.1 HK.out).1).trans HK.out
    have ho6 : Only w0 (w6.putObj w4.heap.size (.deferred none)) (fun k => k = ga ∨ k = gn) := (HOW.out.trans (Only.ofNew HB6.out (fun k => k = ga ∨ k = gn)) (fun i hi => .inl hi)).trans (Only.putObj w6 w4.heap.size _ (fun k => w4.heap.size ≤ k) (Nat.le_refl _)) (fun i hi => .inr (by omega))
    have hbs := fun g' (hg' : g' < w.heap.size) => (World.putObj_heap_other (w := w6) (o := .deferred none) (show g' ≠ w4.heap.size by omega)).trans (HB6.out.block g' (by have := HOW.out.size; omega))
    refine ⟨by simp, .inl ⟨_, _, rfl, run_takeDeferred hk6, ?_⟩⟩
    exact ⟨_, results_tmp rfl _ _ _, rfl, HW.out _ _ _ ho6 (HWk.out.at'.kept (hbs ga hga)) (HWk.out.nx.kept (hbs gn hgn)), (Only.ofNew HBe.out (fun k => k = ga ∨ k = gn)).trans ho6 (fun i hi => .inl hi)⟩
end Go.Proofs.YtlkgghbdgjomkaaDoor
namespace Go.Proofs.YtlkgghbdgjomkaaDoor
open Go.RowKit Go.Shelf
theorem stand_sound {n : Nat} {Fi La : List Int} {Fo : List (List Int)} (h : Fo.length = n) : standP n Fi La Fo = soundP n Fi La Fo := by
  unfold soundP standP
  rw [decide_eq_true h]
  cases insA n Fo <;> simp
set_option maxRecDepth 10000 in
set_option maxHeartbeats 1600000 in
theorem match_any (aL aF aA aO aW : Option Addr) (cL cF cA cO cW : Nat) (Le Fo : List (List Int)) (Fi La Wd : List Int) (em : Bool) (w : World) (hp : PosA w aL aF aA aO Le Fo Fi La) (hwd : IA w aW Wd) (hwl : Wd.length ≤ 4000000) (hfb : RwB w aO Fo) (hfi : ∀ p, aF = some p → p.block < w.heap.size) (hLi : ∀ r ∈ Le, ∀ z ∈ r, inI z) (hWi : ∀ z ∈ Wd, inI z) (hTab : TabAt 11 Lib.deBruijn64tab w) (hT11 : 11 < w.heap.size) :
    Calls Tryd.prog 11 #[posV aL aF aA aO cL cF cA cO Le Fo Fi La em, .slice aW Wd.length cW] w fun e w' => e = .returned (.bool (matM Le Fo Fi La em Wd)) ∧ Below w.heap.size w w' := by
  obtain ⟨w0, hw0⟩ : ∃ w0, w0 = w.alloc (.cells #[.slice aL Le.length cL, .slice aF Fi.length cF, .slice aA La.length cA, .slice aO Fo.length cO, .bool em] 25) := ⟨_, rfl⟩
  have hr0 : w0.heap[w.heap.size]? = some (.cells #[.slice aL Le.length cL, .slice aF Fi.length cF, .slice aA La.length cA, .slice aO Fo.length cO, .bool em] 25 (0, 0)) := by rw [hw0]; exact heap_alloc_new w _
  have hb0 : Below w.heap.size w w0 := by rw [hw0]; exact (Below.refl _ _).alloc (Nat.le_refl _) _
  have hs0 : w0.heap.size = w.heap.size + 1 := by rw [hw0]; simp
  obtain ⟨c0, c1, c2, c3, c4⟩ := row5 hr0
  have hl1 := hp.l1
  have hl4 := hp.l4
  have hfold := hw0.symm
  have HB0 := hid0 hb0
  clear hw0
  by_cases hFl : Fo.length = Le.length
  · have HSt := hid0 (placesStand_any aL aF aA aO cL cF cA cO Le Fo Fi La em w0 (hp.past hb0))
    rw [stand_sound hFl] at HSt
    unfold posV at HSt ⊢
    have HC5 : Hid (∀ W, Below w0.heap.size w0 W → W.cell? ⟨w.heap.size, 0, none⟩ = some (.slice aL Le.length cL) ∧ W.cell? ⟨w.heap.size, 1, none⟩ = some (.slice aF Fi.length cF) ∧ W.cell? ⟨w.heap.size, 2, none⟩ = some (.slice aA La.length cA) ∧ W.cell? ⟨w.heap.size, 3, none⟩ = some (.slice aO Fo.length cO) ∧ W.cell? ⟨w.heap.size, 4, none⟩ = some (.bool em)) := hid0 (fun W hW => row5 ((hW.block w.heap.size (by omega)).trans hr0))
    have hFI : ((Fo.length : Int) != (Le.length : Int)) = false := by simp [hFl]
    have HFl := hid0 hFl
    clear hFl
    by_cases hso : soundP Le.length Fi La Fo = true
    · rw [hso] at HSt
      by_cases hw : Wd = []
      · subst hw
        have HM : Hid (matM Le Fo Fi La em [] = em) := hid0 (by unfold matM; rw [hso]; rfl)
        go_enter Tryd.func11, Tryd.ntmps11
        go_wp2_with (go_at_call 32; go_loud ((
          refine HSt.out.mono ?_
          rintro e w1 ⟨rfl, hb1⟩
          obtain ⟨d0, d1, d2, d3, d4⟩ := HC5.out w1 hb1
          have HB1 := hid0 hb1
          clear hb1)))
        go_ret
        exact ⟨by rw [HM.out]; rfl, Below.later HB0.out HB1.out⟩
      · have hwp : 0 < Wd.length := List.length_pos_iff.2 hw
        have hwI : ((Wd.length : Int) == 0) = false := by simp; exact hw
        have HNw : Hid (∀ W, Below w0.heap.size w0 W → Calls Tryd.prog 33 #[.agg #[.slice aL Le.length cL, .slice aF Fi.length cF, .slice aA La.length cA, .slice aO Fo.length cO, .bool em], .slice aW Wd.length cW] W (NwR W Le Fo Fi Wd)) := hid0 (fun W hW => by
          have hb := Below.later hb0 hW
          exact newWalk_any aL aF aA aO aW cL cF cA cO cW Le Fo Fi La Wd em W (hp.past hb) (hwd.past hb) hwl hwp hso (hfb.past hb) (fun p hp => Nat.lt_of_lt_of_le (hfi p hp) hb.size) hLi hWi (fun j hj => (hb.cell (p := ⟨11, j, none⟩) hT11).trans (hTab j hj)) (Nat.lt_of_lt_of_le hT11 hb.size))
        have HSd : Hid (La.all (oneOf Le.length) = true ∧ ∀ r ∈ Fo, r.length ≤ 100000000000000 ∧ r.all (oneOf Le.length) = true) := hid0 (by
          unfold soundP insA at hso
          simp only [Bool.and_eq_true, decide_eq_true_eq] at hso
          exact ⟨hso.1.2, fun r hr => ⟨by have := hp.r4 r hr; omega, List.all_eq_true.1 hso.2 r hr⟩⟩)
        have HM0 := hid0 (cM_start (em := em) (Wd := Wd) hso hwp)
        have HWd := hid0 hwd
        have HLa := hid0 hp.la
        have hl3 := hp.l3
        clear hso hp hwd hfb hfi hLi hWi hTab hw hb0 hr0
        go_enter Tryd.func11, Tryd.ntmps11
        go_upto_region 7 with (first
          | (go_at_call 32; go_loud ((
              refine HSt.out.mono ?_
              rintro e w1 ⟨rfl, hb1⟩
              obtain ⟨d0, d1, d2, d3, d4⟩ := HC5.out w1 hb1
              have HB1 := hid0 hb1
              clear hb1)))
          | (go_at_call 33; go_loud ((
              refine (HNw.out w1 HB1.out).mono ?_
              rintro e w2 ⟨B, gf, gh, ga, gn, mp, cF', cH', ks, H, rfl, hwk, hk1, hk2, hk3, hk4, hk5, hlo, hbw⟩
              have HWk := hid0 hwk
              have HK1 := hid0 hk1
              have HK2 := hid0 hk2
              have HK4 := hid0 hk4
              have HK5 := hid0 hk5
              have HLo := hid0 hlo
              have HB2 := hid0 (Below.later HB1.out hbw)
              clear hwk hk1 hk2 hk4 hk5 hlo hbw)))
          | fail)
        have hz1 := HB1.out.size
        obtain ⟨m, hm⟩ : ∃ m, m = (Le.length + 511) / 512 := ⟨_, rfl⟩
        rw [← hm] at HWk
        have hm1 : m ≤ 1000000 := by omega
        have hm2 : Le.length ≤ 512 * m := by omega
        clear hm
        have HLo2 : Hid (w0.heap.size ≤ ga ∧ w0.heap.size ≤ gn) := hid0 ⟨by have := HLo.out.1; omega, by have := HLo.out.2; omega⟩
        clear HNw HSt HLo
        go_loopw [30] (fun i wr => ∃ (k : Nat) (fa fx : Nat → Bool), k ≤ Wd.length ∧ i = .int .i64 (k : Int) ∧ Hid (Wk wr B gf gh ga gn mp m cF' cH' ks Fo H fa fx (fun k => ¬ k = ga ∧ ¬ k = gn)) ∧ Hid (cM Le Fo La fa fx (Wd.drop k) = matM Le Fo Fi La em Wd) ∧ Hid (Below w0.heap.size w0 wr)) (fun i _ => Wd.length - (intOf i).toNat)
        case atStart => exact ⟨0, _, _, Nat.zero_le _, rfl, HWk, HM0, HB2⟩
        case round =>
          clear HWk HM0 HB2 d0 d1 d2 d3 d4
          obtain ⟨k, fa, fx, hk, rfl, HWk, HMk, HBk⟩ := hrel
          by_cases hlt : k < Wd.length
          · obtain ⟨b, off, rfl, _, d1⟩ := (HWd.out.past (Below.later HB0.out HBk.out)).at' k hlt
            have hkI : (k : Int) < (Wd.length : Int) := by omega
            have hkI0 : (0 : Int) ≤ (k : Int) := by omega
            have hMd := cM_drop (Le := Le) (Fo := Fo) (La := La) (fa := fa) (fx := fx) hlt
            obtain ⟨i, hi, hc⟩ := List.mem_iff_getElem.1 (HK1.out _ (List.getElem_mem hlt))
            rw [← hc] at hMd d1
            have hiH : i < H.length := by rw [HK4.out.len]; exact hi
            have hgd : H.getD i [] = H[i] := by rw [List.getD_eq_getElem?_getD, List.getElem?_eq_getElem hiH]; rfl
            have hst : stepAt H[i] fx m = atF Le fx ks[i] := stepAt_at (fun p => by have := HK4.out.whole (Nat.le_refl _) i hi p; rwa [hgd] at this) (by omega)
            have hnx : nxF Fo (plB (atF Le fx ks[i]) (512 * m)) = nextF Fo (atF Le fx ks[i]) := nxF_next Fo _ _ (fun q hq => by rw [HFl.out]; exact at_lt hq) (by rw [HFl.out]; omega)
            have HSp := hid0 (step_any B gf gh ga gn mp m cF' cH' Le.length i ks Fo H fa fx _ wr (by omega) (by omega) HFl.out HK4.out.len hi (HK2.out _ (List.getElem_mem hi)) (by rw [HK4.out.len]; omega) HSd.out.2 (fun r hr => ⟨HK5.out r hr, by
              obtain ⟨j, hj, rfl⟩ := List.mem_iff_getElem.1 hr
              have := HK4.out.inn j
              rwa [List.getD_eq_getElem?_getD, List.getElem?_eq_getElem hj] at this⟩) HWk.out)
            rw [hst, hnx] at HSp
            have HMd : Hid (cM Le Fo La (atF Le fx ks[i]) (nextF Fo (atF Le fx ks[i])) (Wd.drop (k + 1)) = matM Le Fo Fi La em Wd) := hid0 (hMd.symm.trans HMk.out)
            have HEm : Hid (emF (atF Le fx ks[i]) m = true → matM Le Fo Fi La em Wd = false) := hid0 (fun h => by
              rw [← HMd.out, cM_next]
              exact cont_none _ _ _ _ _ (em_none h (by omega)))
            have HOb : Hid (∀ w3, Only wr w3 (fun k => k = ga ∨ k = gn) → Below w0.heap.size w0 w3) := hid0 (fun w3 h3 => HBk.out.trans (h3.below HBk.out.size (fun j hj => by have := HLo2.out; omega)))
            clear hMd hst hnx hc hgd HMk
            generalize ks[i] = c at *
            cases hem : emF (atF Le fx c) m with
            | true =>
              rw [hem] at HSp
              have HE := hid0 (HEm.out hem)
              clear hem HEm
              go_wp2_with (go_at_call 34; go_loud ((
                refine HSp.out.mono ?_
                rintro e w3 ⟨rfl, hwk3, ho3⟩
                have HWk3 := hid0 hwk3
                have HB3 := hid0 (HOb.out w3 ho3)
                clear hwk3 ho3)))
              go_ret
              exact ⟨by rw [HE.out]; rfl, Below.later HB0.out HB3.out⟩
            | false =>
              rw [hem] at HSp
              clear hem HEm
              go_wp2_with (go_at_call 34; go_loud ((
                refine HSp.out.mono ?_
                rintro e w3 ⟨rfl, hwk3, ho3⟩
                have HWk3 := hid0 hwk3
                have HB3 := hid0 (HOb.out w3 ho3)
                clear hwk3 ho3)))
              go_roundw
              case rel => exact ⟨k + 1, _, _, by omega, by go_num, HWk3, HMd, HB3⟩
              case measure => simp [intOf]; omega
          · have hke : k = Wd.length := by omega
            subst hke
            have HEn : Hid (lastF La fa = matM Le Fo Fi La em Wd) := hid0 (by
              have := HMk.out
              rwa [List.drop_length] at this)
            obtain ⟨d0, d1, d2, d3, d4⟩ := HC5.out wr HBk.out
            have q3 : wr.cell? ⟨B, 3, none⟩ = some (.slice (some ⟨ga, 0, none⟩) m m) := by rw [cell_of_row _ _ _ _ _ _ HWk.out.row]; rfl
            have HHas := hid0 (hasOneOf_any ga m Le.length fa La aA cA wr.drew (by omega) hm1 hm2 HSd.out.1 ((HLa.out.past (Below.later HB0.out HBk.out)).past (drew_below wr)) (HWk.out.at'.kept rfl))
            have HS12 := hid0 (And.intro q3 d2)
            have HS12b : Hid (∀ w3, Below wr.drew.heap.size wr.drew w3 → w3.cell? ⟨B, 3, none⟩ = some (.slice (some ⟨ga, 0, none⟩) m m) ∧ w3.cell? ⟨w.heap.size, 2, none⟩ = some (.slice aA La.length cA)) := hid0 (fun w3 h3 => ⟨(h3.cell (p := ⟨B, 3, none⟩) (World.block_lt_of_cell? wr _ q3)).trans q3, (h3.cell (p := ⟨w.heap.size, 2, none⟩) (World.block_lt_of_cell? wr _ d2)).trans d2⟩)
            clear d0 d1 d2 d3 d4 q3
            go_upto_region 12 with fail
            refine wp_region_noPanic ?_
            refine wp_region_held_drew (S := (fun V => V.cell? ⟨B, 3, none⟩ = some (.slice (some ⟨ga, 0, none⟩) m m) ∧ V.cell? ⟨w.heap.size, 2, none⟩ = some (.slice aA La.length cA))) (by kernel_rfl) ?_ (fun hHeld => ?_)
            · exact HS12.out
            refine tkV (i := 0) (d := some 39) (v := ?_) rfl (by kernel_rfl) (by kernel_rfl) (by kernel_rfl) rfl (fun _ _ _ h => h) (by rfl) ?_ (by assumption) ?_
            rotate_left
            · (intro w hSw; (try dsimp only at hSw); (try simp only [List.getElem_toArray, List.getElem_cons_zero]); go_simp; try with_reducible rfl)
            try simp only [Act.put, List.setIfInBounds_toArray, List.set_cons_zero, List.set_cons_succ]
            refine tkV (i := 1) (d := some 40) (v := ?_) rfl (by kernel_rfl) (by kernel_rfl) (by kernel_rfl) rfl (fun _ _ _ h => h) (by rfl) ?_ (by assumption) ?_
            rotate_left
            · (intro w hSw; (try dsimp only at hSw); (try simp only [List.getElem_toArray, List.getElem_cons_zero, List.getElem_cons_succ]); go_simp; try with_reducible rfl)
            try simp only [Act.put, List.setIfInBounds_toArray, List.set_cons_zero, List.set_cons_succ]
            refine tkV (i := 2) (d := some 41) (v := ?_) rfl (by kernel_rfl) (by kernel_rfl) (by kernel_rfl) rfl (fun _ _ _ h => h) (by rfl) ?_ (by assumption) ?_
            rotate_left
            · (intro w hSw; (try dsimp only at hSw); (try simp only [List.getElem_toArray, List.getElem_cons_zero, List.getElem_cons_succ]); go_simp; try with_reducible rfl)
            try simp only [Act.put, List.setIfInBounds_toArray, List.set_cons_zero, List.set_cons_succ]
            refine tkV (i := 3) (d := some 42) (v := ?_) rfl (by kernel_rfl) (by kernel_rfl) (by kernel_rfl) rfl (fun _ _ _ h => h) (by rfl) ?_ (by assumption) ?_
            rotate_left
            · (intro w hSw; (try dsimp only at hSw); (try simp only [List.getElem_toArray, List.getElem_cons_zero, List.getElem_cons_succ]); go_simp; try with_reducible rfl)
            try simp only [Act.put, List.setIfInBounds_toArray, List.set_cons_zero, List.set_cons_succ]
            refine tkV (i := 4) (d := some 43) (v := ?_) rfl (by kernel_rfl) (by kernel_rfl) (by kernel_rfl) rfl (fun _ _ _ h => h) (by rfl) ?_ (by assumption) ?_
            rotate_left
            · (intro w hSw; (try dsimp only at hSw); (try simp only [List.getElem_toArray, List.getElem_cons_zero, List.getElem_cons_succ]); go_simp; try with_reducible rfl)
            try simp only [Act.put, List.setIfInBounds_toArray, List.set_cons_zero, List.set_cons_succ]
            refine tkV (i := 5) (d := some 44) (v := ?_) rfl (by kernel_rfl) (by kernel_rfl) (by kernel_rfl) rfl (fun _ _ _ h => h) (by rfl) ?_ (by assumption) ?_
            rotate_left
            · (intro w hSw; (try dsimp only at hSw); (try simp only [List.getElem_toArray, List.getElem_cons_zero, List.getElem_cons_succ]); go_simp; try with_reducible rfl)
            try simp only [Act.put, List.setIfInBounds_toArray, List.set_cons_zero, List.set_cons_succ]
            refine wpAnyH_ready (rs := [6]) (by kernel_rfl) (by simp) (AllReadyH.cons rfl (fun K hK => ?_) AllReadyH.nil)
            try simp only [List.getElem_toArray, List.getElem_cons_zero, List.getElem_cons_succ]
            go_simp
            refine HHas.out.mono ?_
            rintro e w3 ⟨rfl, hb3⟩
            have HB3 := hid0 hb3
            clear hb3
            go_wp2_with fail
            refine hK.out _ _ ?_ (fun hHeld6 => ?_)
            · exact HS12b.out w3 HB3.out
            clear hK K
            (try simp only [Act.put]); (try simp only [List.setIfInBounds_toArray]); (try simp only [List.set_cons_succ]); (try simp only [List.set_cons_zero])
            refine tkV (i := 7) (d := some 4) (v := ?_) rfl (by kernel_rfl) (by kernel_rfl) (by kernel_rfl) rfl (fun _ _ _ h => h) (by rfl) ?_ (by assumption) ?_
            rotate_left
            · (intro w hSw; (try dsimp only at hSw); (try simp only [List.getElem_toArray, List.getElem_cons_zero, List.getElem_cons_succ]); go_simp; try with_reducible rfl)
            try simp only [Act.put, List.setIfInBounds_toArray, List.set_cons_zero, List.set_cons_succ]
            refine wpAnyH_done (by kernel_rfl) ?_ _
            refine NoPanic.normal ?_
            go_wp2
            go_ret
            exact ⟨by rw [← HEn.out]; rfl, Below.later (Below.later HB0.out HBk.out) (below_drew HB3.out)⟩
    · rw [Bool.not_eq_true] at hso
      rw [hso] at HSt
      have HM : Hid (matM Le Fo Fi La em Wd = false) := hid0 (by unfold matM; rw [hso]; rfl)
      go_enter Tryd.func11, Tryd.ntmps11
      go_wp2_with (go_at_call 32; go_loud ((
        refine HSt.out.mono ?_
        rintro e w1 ⟨rfl, hb1⟩
        have HB1 := hid0 hb1
        clear hb1)))
      go_ret
      exact ⟨by rw [HM.out]; rfl, Below.later HB0.out HB1.out⟩
  · have hFI : ((Fo.length : Int) != (Le.length : Int)) = true := by simp; omega
    have HM : Hid (matM Le Fo Fi La em Wd = false) := hid0 (by unfold matM soundP; rw [decide_eq_false hFl]; rfl)
    unfold posV
    go_enter Tryd.func11, Tryd.ntmps11
    go_wp2
    go_ret
    exact ⟨by rw [HM.out]; rfl, HB0.out⟩
end Go.Proofs.YtlkgghbdgjomkaaDoor
namespace Go.Proofs.YtlkgghbdgjomkaaDoor
open Go.RowKit Go.Shelf
theorem putT_at (x : Nat) (T : List (List Int)) (y : Int) (j : Nat) : ((putT x T y).getD j []).length ≤ (T.getD j []).length + (if j = y.toNat then 1 else 0) := by
  unfold putT
  by_cases h : y.toNat = j
  · subst h
    by_cases hl : y.toNat < T.length
    · rw [getD_set_same _ _ _ hl, if_pos rfl]
      simp
    · rw [List.set_eq_of_length_le (by omega)]
      omega
  · rw [getD_set_other _ _ _ _ h]
    omega
theorem fold_at (x : Nat) (j : Nat) : ∀ (r : List Int) (T : List (List Int)), (∀ y ∈ r, 0 ≤ y) → r.Nodup → ((r.foldl (putT x) T).getD j []).length ≤ (T.getD j []).length + (if (j : Int) ∈ r then 1 else 0)
  | [], T, _, _ => by simp
  | y :: r, T, h0, hn => by
    rw [List.foldl_cons]
    have ih := fold_at x j r (putT x T y) (fun z hz => h0 z (List.mem_cons_of_mem _ hz)) (List.nodup_cons.1 hn).2
    have h1 := putT_at x T y j
    have h2 := h0 y (List.mem_cons_self ..)
    have h3 := (List.nodup_cons.1 hn).1
    by_cases hj : j = y.toNat
    · have hjy : (j : Int) = y := by omega
      have : ¬ (j : Int) ∈ r := by rw [hjy]; exact h3
      rw [if_neg this] at ih
      rw [if_pos hj] at h1
      rw [if_pos (by rw [hjy]; exact List.mem_cons_self ..)]
      omega
    · rw [if_neg hj] at h1
      by_cases hr : (j : Int) ∈ r
      · rw [if_pos hr] at ih
        rw [if_pos (List.mem_cons_of_mem _ hr)]
        omega
      · rw [if_neg hr] at ih
        split <;> omega
theorem turnA_at (j : Nat) : ∀ (L : List (List Int)) (x : Nat) (T : List (List Int)), (∀ r ∈ L, (∀ y ∈ r, 0 ≤ y) ∧ r.Nodup) → ((turnA x L T).getD j []).length ≤ (T.getD j []).length + L.length
  | [], x, T, _ => by simp [turnA]
  | r :: L, x, T, h => by
    rw [turnA]
    have ih := turnA_at j L (x + 1) (r.foldl (putT x) T) (fun r' hr' => h r' (List.mem_cons_of_mem _ hr'))
    have h1 := fold_at x j r T (h r (List.mem_cons_self ..)).1 (h r (List.mem_cons_self ..)).2
    rw [List.length_cons]
    split at h1 <;> omega
theorem turnA_len : ∀ (L : List (List Int)) (x : Nat) (T : List (List Int)), (turnA x L T).length = T.length
  | [], x, T => rfl
  | r :: L, x, T => by
    rw [turnA, turnA_len]
    have : ∀ (r : List Int) (T : List (List Int)), (r.foldl (putT x) T).length = T.length := by
      intro r
      induction r with
      | nil => intro T; rfl
      | cons y r ih => intro T; rw [List.foldl_cons, ih, putT_len]
    exact this r T
theorem turnL_len (Fo : List (List Int)) : (turnL Fo).length = Fo.length := by unfold turnL; rw [turnA_len, List.length_replicate]
theorem turnL_rows {Fo : List (List Int)} (h : ∀ r ∈ Fo, (∀ y ∈ r, 0 ≤ y) ∧ r.Nodup) : ∀ t ∈ turnL Fo, t.length ≤ Fo.length := fun t ht => by
  obtain ⟨j, hj, rfl⟩ := List.mem_iff_getElem.1 ht
  have h1 := turnA_at j Fo 0 (List.replicate Fo.length []) h
  have e : (List.replicate Fo.length ([] : List Int)).getD j [] = [] := by
    rw [List.getD_eq_getElem?_getD, List.getElem?_replicate]
    split <;> rfl
  rw [e] at h1
  have e2 : (turnA 0 Fo (List.replicate Fo.length [])).getD j [] = (turnL Fo)[j] := by
    rw [List.getD_eq_getElem?_getD]
    show ((turnL Fo)[j]?).getD [] = _
    rw [List.getElem?_eq_getElem hj]
    rfl
  rw [e2] at h1
  simpa using h1
theorem rise_lo {n : Int} : ∀ (L : List Int) (lo : Int), riseF n lo L = true → (∀ y ∈ L, lo ≤ y) ∧ L.Nodup
  | [], _, _ => ⟨fun y hy => (by cases hy), List.nodup_nil⟩
  | z :: L, lo, h => by
    rw [riseF] at h
    simp only [Bool.and_eq_true, decide_eq_true_eq] at h
    have ih := rise_lo L (z + 1) h.2
    refine ⟨fun y hy => ?_, List.nodup_cons.2 ⟨fun hz => ?_, ih.2⟩⟩
    · rcases List.mem_cons.1 hy with rfl | hy
      · exact h.1.1
      · have := ih.1 y hy; omega
    · have := ih.1 z hz; omega
/-- Positions of no great size. -/
structure PosS (p : Pos) : Prop where
  l1 : p.le.length ≤ 4000000
  l2 : p.fi.length ≤ 4000000
  l3 : p.la.length ≤ 4000000
  l4 : p.fo.length ≤ 4000000
  r1 : ∀ r ∈ p.le, r.length ≤ 4000000
  r4 : ∀ r ∈ p.fo, r.length ≤ 4000000
theorem rev_small {w : World} {aL aF aA aO : Option Addr} {Le Fo : List (List Int)} {Fi La : List Int} {em : Bool} (h : PosA w aL aF aA aO Le Fo Fi La) : PosS (revP Le Fo Fi La em) := by
  unfold revP
  split
  · rename_i hc
    rw [Bool.and_eq_true, plRise, riseA] at hc
    simp only [Bool.and_eq_true, List.all_eq_true, decide_eq_true_eq] at hc
    refine ⟨h.l1, h.l3, h.l2, by rw [turnL_len]; exact h.l4, h.r1, fun r hr => ?_⟩
    have := turnL_rows (fun r hr => by
      have := rise_lo r 0 (hc.2.2 r hr)
      exact this) r hr
    have := h.l4
    omega
  · exact ⟨Nat.zero_le _, Nat.zero_le _, Nat.zero_le _, Nat.zero_le _, fun r hr => (by cases hr), fun r hr => (by cases hr)⟩
theorem PosQ.posA {w : World} {lo : Nat} {aL aF aA aO : Option Addr} {p : Pos} (h : PosQ w lo aL aF aA aO p.le p.fo p.fi p.la) (hs : PosS p) : PosA w aL aF aA aO p.le p.fo p.fi p.la :=
  ⟨h.le.rwa, h.fi.ia, h.la.ia, h.fo.rwa, hs.l1, hs.l2, hs.l3, hs.l4, hs.r1, hs.r4⟩
/-- Positions as they are handed in. -/
structure PosF (w : World) (aL aF aA aO : Option Addr) (cF cA : Nat) (Le Fo : List (List Int)) (Fi La : List Int) : Prop where
  pos : PosA w aL aF aA aO Le Fo Fi La
  nL : RwN w aL Le
  nF : aF = none → cF = 0
  nA : aA = none → cA = 0
  bO : RwB w aO Fo
  bF : ∀ p, aF = some p → p.block < w.heap.size
  iL : ∀ r ∈ Le, ∀ z ∈ r, inI z
theorem PosF.past {w w' : World} {aL aF aA aO : Option Addr} {cF cA : Nat} {Le Fo : List (List Int)} {Fi La : List Int} (h : PosF w aL aF aA aO cF cA Le Fo Fi La) (hb : Below w.heap.size w w') : PosF w' aL aF aA aO cF cA Le Fo Fi La :=
  ⟨h.pos.past hb, h.nL.past hb, h.nF, h.nA, h.bO.past hb, fun p hp => Nat.lt_of_lt_of_le (h.bF p hp) hb.size, h.iL⟩
end Go.Proofs.YtlkgghbdgjomkaaDoor
namespace Go.Proofs.YtlkgghbdgjomkaaDoor
theorem has_mem (l : List Int) (z : Int) : hasL l z = true ↔ z ∈ l := by
  unfold hasL
  rw [List.any_eq_true]
  constructor
  · rintro ⟨x, hx, e⟩
    rw [← eq_of_beq e]
    exact hx
  · intro h
    exact ⟨z, h, by simp⟩
theorem rise_pw {n : Int} : ∀ (L : List Int) (lo : Int), riseF n lo L = true → (∀ z ∈ L, lo ≤ z ∧ z < n) ∧ L.Pairwise (· < ·)
  | [], _, _ => ⟨fun z hz => (by cases hz), List.Pairwise.nil⟩
  | y :: L, lo, h => by
    rw [riseF] at h
    simp only [Bool.and_eq_true, decide_eq_true_eq] at h
    have ih := rise_pw L (y + 1) h.2
    refine ⟨fun z hz => ?_, List.pairwise_cons.2 ⟨fun z hz => by have := (ih.1 z hz).1; omega, ih.2⟩⟩
    rcases List.mem_cons.1 hz with rfl | hz
    · omega
    · have := ih.1 z hz; omega
theorem pw_ext : ∀ (L K : List Int), L.Pairwise (· < ·) → K.Pairwise (· < ·) → (∀ z, z ∈ L ↔ z ∈ K) → L = K
  | [], K, _, _, h => by
    cases K with
    | nil => rfl
    | cons b K => exact absurd ((h b).2 (List.mem_cons_self ..)) (by simp)
  | a :: L, [], _, _, h => absurd ((h a).1 (List.mem_cons_self ..)) (by simp)
  | a :: L, b :: K, h1, h2, h => by
    have p1 := List.pairwise_cons.1 h1
    have p2 := List.pairwise_cons.1 h2
    have hab : a = b := by
      have ha := (h a).1 (List.mem_cons_self ..)
      have hb := (h b).2 (List.mem_cons_self ..)
      rcases List.mem_cons.1 ha with e | ha
      · exact e
      · rcases List.mem_cons.1 hb with e | hb
        · exact e.symm
        · have q1 := p2.1 a ha
          have q2 := p1.1 b hb
          omega
    subst hab
    congr 1
    refine pw_ext L K p1.2 p2.2 (fun z => ?_)
    constructor
    · intro hz
      rcases List.mem_cons.1 ((h z).1 (List.mem_cons_of_mem _ hz)) with e | hk
      · have := p1.1 z hz; omega
      · exact hk
    · intro hz
      rcases List.mem_cons.1 ((h z).2 (List.mem_cons_of_mem _ hz)) with e | hk
      · have := p2.1 z hz; omega
      · exact hk
theorem rise_of {n : Int} : ∀ (L : List Int) (lo : Int), (∀ z ∈ L, lo ≤ z ∧ z < n) → L.Pairwise (· < ·) → riseF n lo L = true
  | [], _, _, _ => rfl
  | y :: L, lo, h, hp => by
    have p := List.pairwise_cons.1 hp
    have h0 := h y (List.mem_cons_self ..)
    rw [riseF, rise_of L (y + 1) (fun z hz => ⟨by have := p.1 z hz; omega, (h z (List.mem_cons_of_mem _ hz)).2⟩) p.2, decide_eq_true h0.1, decide_eq_true h0.2]
    rfl
theorem rise_len {n : Int} : ∀ (L : List Int) (lo : Int), riseF n lo L = true → L ≠ [] → (L.length : Int) ≤ n - lo
  | [], _, _, h => absurd rfl h
  | y :: L, lo, h, _ => by
    rw [riseF] at h
    simp only [Bool.and_eq_true, decide_eq_true_eq] at h
    by_cases e : L = []
    · subst e; simp; omega
    · have := rise_len L (y + 1) h.2 e
      rw [List.length_cons]
      omega
theorem putT_eq (x : Nat) (T : List (List Int)) (y : Int) (j : Nat) : (putT x T y).getD j [] = if j = y.toNat ∧ j < T.length then T.getD j [] ++ [(x : Int)] else T.getD j [] := by
  unfold putT
  by_cases h : y.toNat = j
  · subst h
    by_cases hl : y.toNat < T.length
    · rw [getD_set_same _ _ _ hl, if_pos ⟨rfl, hl⟩]
    · rw [List.set_eq_of_length_le (by omega), if_neg (fun e => hl e.2)]
  · rw [getD_set_other _ _ _ _ h, if_neg (fun e => h e.1.symm)]
theorem fold_eq (x : Nat) (j : Nat) : ∀ (r : List Int) (T : List (List Int)), (∀ y ∈ r, 0 ≤ y) → r.Nodup → (r.foldl (putT x) T).getD j [] = T.getD j [] ++ (if (j : Int) ∈ r ∧ j < T.length then [(x : Int)] else [])
  | [], T, _, _ => by simp
  | y :: r, T, h0, hn => by
    rw [List.foldl_cons, fold_eq x j r (putT x T y) (fun z hz => h0 z (List.mem_cons_of_mem _ hz)) (List.nodup_cons.1 hn).2, putT_eq, putT_len]
    have h2 := h0 y (List.mem_cons_self ..)
    have h3 := (List.nodup_cons.1 hn).1
    by_cases hl : j < T.length
    · by_cases hj : j = y.toNat
      · have hjy : (j : Int) = y := by omega
        have : ¬ ((j : Int) ∈ r ∧ j < T.length) := fun e => h3 (hjy ▸ e.1)
        rw [if_pos ⟨hj, hl⟩, if_neg this, if_pos ⟨by rw [hjy]; exact List.mem_cons_self .., hl⟩, List.append_nil]
      · have hjy : ¬ (j : Int) = y := by omega
        rw [if_neg (fun e => hj e.1)]
        congr 1
        by_cases hr : (j : Int) ∈ r
        · rw [if_pos ⟨hr, hl⟩, if_pos ⟨List.mem_cons_of_mem _ hr, hl⟩]
        · rw [if_neg (fun e => hr e.1), if_neg (fun e => (List.mem_cons.1 e.1).elim hjy hr)]
    · rw [if_neg (fun e => hl e.2), if_neg (fun e => hl e.2), if_neg (fun e => hl e.2)]
theorem fold_len (x : Nat) : ∀ (r : List Int) (T : List (List Int)), (r.foldl (putT x) T).length = T.length
  | [], _ => rfl
  | y :: r, T => by rw [List.foldl_cons, fold_len, putT_len]
theorem turnA_has (j : Nat) : ∀ (L : List (List Int)) (x : Nat) (T : List (List Int)) (z : Nat), (∀ r ∈ L, (∀ y ∈ r, 0 ≤ y) ∧ r.Nodup) → j < T.length →
    hasL ((turnA x L T).getD j []) (z : Int) = (hasL (T.getD j []) (z : Int) || (decide (x ≤ z) && hasL (L.getD (z - x) []) (j : Int)))
  | [], x, T, z, _, _ => by simp [turnA, hasL]
  | r :: L, x, T, z, h, hj => by
    rw [turnA, turnA_has j L (x + 1) _ z (fun r' hr' => h r' (List.mem_cons_of_mem _ hr')) (by rw [fold_len]; exact hj), fold_eq x j r T (h r (List.mem_cons_self ..)).1 (h r (List.mem_cons_self ..)).2, hasL_append, Bool.or_assoc]
    congr 1
    by_cases hz : z = x
    · subst hz
      rw [decide_eq_false (show ¬ z + 1 ≤ z by omega), Bool.false_and, Bool.or_false, decide_eq_true (Nat.le_refl z), Bool.true_and, Nat.sub_self]
      simp only [List.getD_cons_zero]
      by_cases hr : (j : Int) ∈ r
      · rw [if_pos ⟨hr, hj⟩, (has_mem r _).2 hr]
        simp [hasL]
      · rw [if_neg (fun e => hr e.1)]
        have : hasL r (j : Int) = false := by
          cases e : hasL r (j : Int) with
          | false => rfl
          | true => exact absurd ((has_mem r _).1 e) hr
        rw [this, hasL_nil]
    · have hf : hasL (if (j : Int) ∈ r ∧ j < T.length then [(x : Int)] else []) (z : Int) = false := by
        split
        · have : ¬ (x : Int) = (z : Int) := by omega
          simp [hasL, this]
        · rfl
      rw [hf, Bool.false_or]
      by_cases hx : x ≤ z
      · rw [decide_eq_true hx, decide_eq_true (show x + 1 ≤ z by omega), show z - x = (z - (x + 1)) + 1 by omega]
        simp only [List.getD_cons_succ]
      · rw [decide_eq_false hx, decide_eq_false (show ¬ x + 1 ≤ z by omega)]
        simp
theorem turnA_pw (j : Nat) : ∀ (L : List (List Int)) (x : Nat) (T : List (List Int)), (∀ r ∈ L, (∀ y ∈ r, 0 ≤ y) ∧ r.Nodup) → ((∀ z ∈ T.getD j [], 0 ≤ z ∧ z < (x : Int)) ∧ (T.getD j []).Pairwise (· < ·)) →
    (∀ z ∈ (turnA x L T).getD j [], 0 ≤ z ∧ z < ((x + L.length : Nat) : Int)) ∧ ((turnA x L T).getD j []).Pairwise (· < ·)
  | [], x, T, _, h => by simpa [turnA] using h
  | r :: L, x, T, h, hT => by
    rw [turnA, List.length_cons, show x + (L.length + 1) = x + 1 + L.length by omega]
    refine turnA_pw j L (x + 1) _ (fun r' hr' => h r' (List.mem_cons_of_mem _ hr')) ?_
    rw [fold_eq x j r T (h r (List.mem_cons_self ..)).1 (h r (List.mem_cons_self ..)).2]
    split
    · refine ⟨fun z hz => ?_, List.pairwise_append.2 ⟨hT.2, List.pairwise_singleton _ _, fun a ha b hb => ?_⟩⟩
      · rcases List.mem_append.1 hz with hz | hz
        · have := hT.1 z hz; omega
        · have := List.mem_singleton.1 hz; omega
      · have h1 := hT.1 a ha
        have h2 := List.mem_singleton.1 hb
        omega
    · rw [List.append_nil]
      exact ⟨fun z hz => by have := hT.1 z hz; omega, hT.2⟩
/-- Lists that rise, of places below n. -/
def RiseP (n : Nat) (Fo : List (List Int)) : Prop := ∀ r ∈ Fo, riseF (n : Int) 0 r = true
theorem RiseP.nd {n : Nat} {Fo : List (List Int)} (h : RiseP n Fo) : ∀ r ∈ Fo, (∀ y ∈ r, 0 ≤ y) ∧ r.Nodup := fun r hr => rise_lo r 0 (h r hr)
theorem nil_getD (n j : Nat) : (List.replicate n ([] : List Int)).getD j [] = [] := by
  rw [List.getD_eq_getElem?_getD, List.getElem?_replicate]
  split <;> rfl
theorem turnL_has {Fo : List (List Int)} (h : RiseP Fo.length Fo) (j z : Nat) : hasL ((turnL Fo).getD j []) (z : Int) = hasL (Fo.getD z []) (j : Int) := by
  by_cases hj : j < Fo.length
  · unfold turnL
    rw [turnA_has j Fo 0 _ z h.nd (by rw [List.length_replicate]; exact hj), nil_getD, hasL_nil, Bool.false_or, decide_eq_true (Nat.zero_le z), Bool.true_and, Nat.sub_zero]
  · have h1 : (turnL Fo).getD j [] = [] := by rw [List.getD_eq_getElem?_getD, List.getElem?_eq_none (by rw [turnL_len]; omega)]; rfl
    rw [h1, hasL_nil]
    cases e : hasL (Fo.getD z []) (j : Int) with
    | false => rfl
    | true =>
      have hm := (has_mem _ _).1 e
      by_cases hz : z < Fo.length
      · rw [List.getD_eq_getElem?_getD, List.getElem?_eq_getElem hz] at hm
        have := ((rise_pw _ 0 (h _ (List.getElem_mem hz))).1 _ hm).2
        omega
      · rw [List.getD_eq_getElem?_getD, List.getElem?_eq_none (by omega)] at hm
        cases hm
theorem turnL_rise {Fo : List (List Int)} (h : RiseP Fo.length Fo) : RiseP Fo.length (turnL Fo) := fun r hr => by
  obtain ⟨j, hj, rfl⟩ := List.mem_iff_getElem.1 hr
  have h1 := turnA_pw j Fo 0 (List.replicate Fo.length []) h.nd (by rw [nil_getD]; exact ⟨fun z hz => (by cases hz), List.Pairwise.nil⟩)
  have e : (turnA 0 Fo (List.replicate Fo.length [])).getD j [] = (turnL Fo)[j] := by
    rw [List.getD_eq_getElem?_getD]
    show ((turnL Fo)[j]?).getD [] = _
    rw [List.getElem?_eq_getElem hj]
    rfl
  rw [e, Nat.zero_add] at h1
  exact rise_of _ 0 h1.1 h1.2
theorem turnL_twice {Fo : List (List Int)} (h : RiseP Fo.length Fo) : turnL (turnL Fo) = Fo := by
  have h2 : RiseP (turnL Fo).length (turnL Fo) := by rw [turnL_len]; exact turnL_rise h
  apply List.ext_getElem
  · rw [turnL_len, turnL_len]
  · intro j h1 h3
    have g1 : (turnL (turnL Fo)).getD j [] = (turnL (turnL Fo))[j] := by rw [List.getD_eq_getElem?_getD, List.getElem?_eq_getElem h1]; rfl
    have g2 : Fo.getD j [] = Fo[j] := by rw [List.getD_eq_getElem?_getD, List.getElem?_eq_getElem h3]; rfl
    have r1 := rise_pw _ 0 (turnL_rise h2 _ (List.getElem_mem h1))
    have r2 := rise_pw _ 0 (h _ (List.getElem_mem h3))
    refine pw_ext _ _ r1.2 r2.2 (fun z => ?_)
    have key : ∀ y : Nat, ((y : Int) ∈ (turnL (turnL Fo))[j] ↔ (y : Int) ∈ Fo[j]) := fun y => by
      rw [← has_mem, ← has_mem, ← g1, ← g2, turnL_has h2, turnL_has h]
    constructor
    · intro hz
      have := (r1.1 z hz).1
      have e : ((z.toNat : Nat) : Int) = z := by omega
      have := (key z.toNat).1 (by rw [e]; exact hz)
      rwa [e] at this
    · intro hz
      have := (r2.1 z hz).1
      have e : ((z.toNat : Nat) : Int) = z := by omega
      have := (key z.toNat).2 (by rw [e]; exact hz)
      rwa [e] at this
/-- A way through places whose letters are a word's. -/
inductive Way (Le Fo : List (List Int)) : List Nat → List Int → Prop
  | one (q : Nat) (c : Int) (h : holdF Le c q = true) : Way Le Fo [q] [c]
  | cons (q p : Nat) (ps : List Nat) (c : Int) (l : List Int) (h : holdF Le c q = true) (hf : hasL (Fo.getD q []) (p : Int) = true) (hw : Way Le Fo (p :: ps) l) : Way Le Fo (q :: p :: ps) (c :: l)
theorem Way.snoc {Le Fo : List (List Int)} {p q : Nat} {c : Int} (hq : holdF Le c q = true) (hf : hasL (Fo.getD p []) (q : Int) = true) : ∀ (ps : List Nat) (l : List Int), Way Le Fo (ps ++ [p]) l → Way Le Fo (ps ++ [p] ++ [q]) (l ++ [c])
  | [], l, h => by
    cases h with
    | one _ d hd => exact .cons p q [] d [c] hd hf (.one q c hq)
  | [a], l, h => by
    cases h with
    | cons _ _ _ d l hd hf' hw => exact .cons a p [q] d (l ++ [c]) hd hf' (Way.snoc hq hf [] l hw)
  | a :: b :: ps, l, h => by
    cases h with
    | cons _ _ _ d l hd hf' hw => exact .cons a b (ps ++ [p] ++ [q]) d (l ++ [c]) hd hf' (Way.snoc hq hf (b :: ps) l hw)
theorem Way.back {Le Fo Go : List (List Int)} (ht : ∀ j z : Nat, hasL (Go.getD j []) (z : Int) = hasL (Fo.getD z []) (j : Int)) {ps : List Nat} {l : List Int} (h : Way Le Fo ps l) : Way Le Go ps.reverse l.reverse := by
  induction h with
  | one q c hq => exact .one q c hq
  | cons q p ps c l hq hf _ ih =>
    rw [List.reverse_cons, List.reverse_cons (a := c)]
    rw [List.reverse_cons] at ih ⊢
    exact Way.snoc hq (by rw [ht]; exact hf) ps.reverse l.reverse ih
/-- Is there a way from a first place to a last one? -/
def Acc (Le Fo : List (List Int)) (Fi La : List Int) (l : List Int) : Prop := ∃ ps, Way Le Fo ps l ∧ (∃ q, ps.head? = some q ∧ hasL Fi (q : Int) = true) ∧ ∃ q, ps.getLast? = some q ∧ hasL La (q : Int) = true
theorem run_way {Le Fo : List (List Int)} {La : List Int} (hLa : ∀ z ∈ La, 0 ≤ z) : ∀ (r : List Int) (nx : Nat → Bool) (c : Int), runM Le Fo La nx c r = true ↔ ∃ q ps, Way Le Fo (q :: ps) (c :: r) ∧ nx q = true ∧ ∃ y, (q :: ps).getLast? = some y ∧ hasL La (y : Int) = true
  | [], nx, c => by
    rw [runM, lastF, List.any_eq_true]
    constructor
    · rintro ⟨z, hz, h⟩
      unfold atF at h
      rw [Bool.and_eq_true] at h
      have h0 := hLa z hz
      exact ⟨z.toNat, [], .one _ _ h.2, h.1, z.toNat, rfl, (has_mem _ _).2 (by rw [show ((z.toNat : Nat) : Int) = z by omega]; exact hz)⟩
    · rintro ⟨q, ps, hw, hn, y, hy, hl⟩
      cases hw with
      | one _ _ hq =>
        have e : q = y := by simpa using hy
        subst e
        refine ⟨(q : Int), (has_mem _ _).1 hl, ?_⟩
        unfold atF
        rw [Int.toNat_natCast, hn, hq]
        rfl
      | cons q p ps c l hq hf hw => cases hw
  | d :: r, nx, c => by
    rw [runM, run_way hLa r _ d]
    constructor
    · rintro ⟨p, ps, hw, hn, y, hy, hl⟩
      unfold nextF partF at hn
      rw [List.any_eq_true] at hn
      obtain ⟨q, _, h⟩ := hn
      unfold atF at h
      rw [Bool.and_eq_true, Bool.and_eq_true] at h
      exact ⟨q, p :: ps, .cons q p ps c _ h.1.2 h.2 hw, h.1.1, y, by rw [List.getLast?_cons_cons]; exact hy, hl⟩
    · rintro ⟨q, ps, hw, hn, y, hy, hl⟩
      cases hw with
      | cons _ p ps _ _ hq hf hw =>
        refine ⟨p, ps, hw, ?_, y, by rw [List.getLast?_cons_cons] at hy; exact hy, hl⟩
        unfold nextF partF
        rw [List.any_eq_true]
        refine ⟨q, List.mem_range.2 ?_, ?_⟩
        · apply Classical.byContradiction
          intro hge
          rw [List.getD_eq_getElem?_getD, List.getElem?_eq_none (by omega)] at hf
          cases hf
        · unfold atF
          rw [hn, hq, hf]
          rfl
theorem mat_acc {Le Fo : List (List Int)} {Fi La : List Int} {em : Bool} (hs : soundP Le.length Fi La Fo = true) (hLa : ∀ z ∈ La, 0 ≤ z) {l : List Int} (hl : l ≠ []) : matM Le Fo Fi La em l = true ↔ Acc Le Fo Fi La l := by
  cases l with
  | nil => exact absurd rfl hl
  | cons c r =>
    unfold matM
    rw [hs, Bool.true_and]
    show runM Le Fo La (fun q => hasL Fi (q : Int)) c r = true ↔ _
    rw [run_way hLa]
    constructor
    · rintro ⟨q, ps, hw, hn, hy⟩
      exact ⟨q :: ps, hw, ⟨q, rfl, hn⟩, hy⟩
    · rintro ⟨ps, hw, ⟨q, hq, hn⟩, hy⟩
      cases ps with
      | nil => cases hq
      | cons a ps =>
        cases hq
        exact ⟨q, ps, hw, hn, hy⟩
/-- Positions that may be over four symbols, few of them. -/
structure Tdy (Le Fo : List (List Int)) (Fi La : List Int) : Prop where
  n : Le.length ≤ 8
  fo : Fo.length = Le.length
  le : RiseP 4 Le
  fi : riseF (Le.length : Int) 0 Fi = true
  la : riseF (Le.length : Int) 0 La = true
  fol : RiseP Le.length Fo
theorem Tdy.plRise {Le Fo : List (List Int)} {Fi La : List Int} (h : Tdy Le Fo Fi La) : plRise Le.length Fi La Fo = true := by
  unfold Go.Proofs.YtlkgghbdgjomkaaDoor.plRise riseA
  rw [h.fi, h.la, List.all_eq_true.2 h.fol]
  rfl
theorem Tdy.rev {Le Fo : List (List Int)} {Fi La : List Int} (h : Tdy Le Fo Fi La) : Tdy Le (turnL Fo) La Fi :=
  ⟨h.n, by rw [turnL_len]; exact h.fo, h.le, h.la, h.fi, by have := h.fol; rw [← h.fo] at this ⊢; exact turnL_rise this⟩
theorem Tdy.revP {Le Fo : List (List Int)} {Fi La : List Int} (h : Tdy Le Fo Fi La) (em : Bool) : revP Le Fo Fi La em = ⟨Le, La, Fi, turnL Fo, em⟩ := by
  unfold Go.Proofs.YtlkgghbdgjomkaaDoor.revP
  rw [decide_eq_true h.fo, h.plRise]
  rfl
theorem Tdy.twice {Le Fo : List (List Int)} {Fi La : List Int} (h : Tdy Le Fo Fi La) (em : Bool) : Go.Proofs.YtlkgghbdgjomkaaDoor.revP Le (turnL Fo) La Fi em = ⟨Le, Fi, La, Fo, em⟩ := by
  rw [h.rev.revP, turnL_twice (by have := h.fol; rw [← h.fo] at this; exact this)]
theorem row_small {n : Nat} {r : List Int} (h : riseF (n : Int) 0 r = true) : r.length ≤ n := by
  by_cases e : r = []
  · subst e; simp
  · have := rise_len r 0 h e; omega
theorem sum_small {n : Nat} : ∀ (L : List (List Int)), (∀ r ∈ L, r.length ≤ n) → sumL L ≤ n * L.length
  | [], _ => by simp [sumL]
  | r :: L, h => by
    have ih := sum_small L (fun r' hr' => h r' (List.mem_cons_of_mem _ hr'))
    have h1 := h r (List.mem_cons_self ..)
    unfold sumL at ih ⊢
    rw [List.map_cons, List.sum_cons, List.length_cons, Nat.mul_add, Nat.mul_one]
    omega
theorem Tdy.chk {Le Fo : List (List Int)} {Fi La : List Int} (h : Tdy Le Fo Fi La) : chkP Le Fo Fi La 4 = none := by
  have s1 := sum_small (n := 4) Le (fun r hr => row_small (h.le r hr))
  have s2 := sum_small (n := 8) Fo (fun r hr => by have := row_small (h.fol r hr); have := h.n; omega)
  have hn := h.n
  have hf := h.fo
  unfold chkP
  rw [if_neg (by omega), if_neg (by rintro (h | h | h) <;> omega)]
  have : riseA 4 Le = true := by unfold riseA; exact List.all_eq_true.2 h.le
  rw [this, h.plRise]
  rfl
theorem Tdy.sound {Le Fo : List (List Int)} {Fi La : List Int} (h : Tdy Le Fo Fi La) : soundP Le.length Fi La Fo = true := by
  have key : ∀ r, riseF (Le.length : Int) 0 r = true → r.all (oneOf Le.length) = true := fun r hr => List.all_eq_true.2 (fun z hz => (oneOf_iff _ z).2 ((rise_pw r 0 hr).1 z hz))
  unfold soundP insA
  rw [decide_eq_true h.fo, key Fi h.fi, key La h.la, List.all_eq_true.2 (fun r hr => key r (h.fol r hr))]
  rfl
theorem Tdy.match {Le Fo : List (List Int)} {Fi La : List Int} (h : Tdy Le Fo Fi La) (em : Bool) (l : List Int) : matM Le (turnL Fo) La Fi em l.reverse = matM Le Fo Fi La em l := by
  by_cases hl : l = []
  · subst hl
    unfold matM
    rw [h.sound, h.rev.sound]
    rfl
  · have hr : l.reverse ≠ [] := fun e => hl (by simpa using e)
    have ht := turnL_has (Fo := Fo) (by have := h.fol; rw [← h.fo] at this; exact this)
    rw [Bool.eq_iff_iff, mat_acc h.rev.sound (fun z hz => ((rise_pw Fi 0 h.fi).1 z hz).1) hr, mat_acc h.sound (fun z hz => ((rise_pw La 0 h.la).1 z hz).1) hl]
    constructor
    · rintro ⟨ps, hw, ⟨q, hq, h1⟩, ⟨y, hy, h2⟩⟩
      have hb := hw.back (Go := Fo) (fun j z => (ht z j).symm)
      rw [List.reverse_reverse] at hb
      exact ⟨ps.reverse, hb, ⟨y, by rw [List.head?_reverse]; exact hy, h2⟩, ⟨q, by rw [List.getLast?_reverse]; exact hq, h1⟩⟩
    · rintro ⟨ps, hw, ⟨q, hq, h1⟩, ⟨y, hy, h2⟩⟩
      exact ⟨ps.reverse, hw.back ht, ⟨y, by rw [List.head?_reverse]; exact hy, h2⟩, ⟨q, by rw [List.getLast?_reverse]; exact hq, h1⟩⟩
end Go.Proofs.YtlkgghbdgjomkaaDoor
namespace Go.Proofs.YtlkgghbdgjomkaaDoor
open Go.RowKit Go.Shelf
def pickN (k : Int) (n : Nat) : Nat := (if k.tmod n < 0 then k.tmod n + n else k.tmod n).toNat
theorem pickN_lt (k : Int) (n : Nat) (hn : 0 < n) : pickN k n < n := by
  have hm1 := Int.tmod_lt_of_pos k (b := (n : Int)) (by omega)
  have hm2 : -(n : Int) < k.tmod n := by
    have := Int.tmod_lt_of_pos (-k) (b := (n : Int)) (by omega)
    rw [Int.neg_tmod] at this
    omega
  unfold pickN
  split <;> omega
set_option maxRecDepth 10000 in
set_option maxHeartbeats 400000 in
theorem pick_at (k : Int) (n : Nat) (hn : 0 < n) (hn2 : n ≤ 2000000) (w : World) :
    Calls Tryd.prog 6 #[.int .i64 k, .int .i64 (n : Int)] w fun e w' => e = .returned (.int .i64 (pickN k n : Nat)) ∧ w' = w := by
  have hm1 := Int.tmod_lt_of_pos k (b := (n : Int)) (by omega)
  have hm2 : -(n : Int) < k.tmod n := by
    have := Int.tmod_lt_of_pos (-k) (b := (n : Int)) (by omega)
    rw [Int.neg_tmod] at this
    omega
  have hz : ((n : Int) == 0) = false := by simp; omega
  have hz2 : ¬ (n : Int) = 0 := by omega
  have hz3 : ¬ (n : Int) < 1 := by omega
  by_cases hneg : k.tmod n < 0
  · have HE : Hid (((pickN k n : Nat) : Int) = k.tmod n + n) := hid0 (by rw [pickN, if_pos hneg]; omega)
    go_enter Tryd.func6, Tryd.ntmps6
    go_wp2
    go_ret
    exact ⟨by rw [HE.out]; rfl, rfl⟩
  · have HE : Hid (((pickN k n : Nat) : Int) = k.tmod n) := hid0 (by rw [pickN, if_neg hneg]; omega)
    go_enter Tryd.func6, Tryd.ntmps6
    go_wp2
    go_ret
    exact ⟨by rw [HE.out]; rfl, rfl⟩
/-- Lists of numbers with marks behind them. -/
structure MkR (w : World) (base g c : Nat) (ps : Lot) : Prop where
  pile : Pile w base (.slice (some ⟨g, 0, none⟩) ps.length c) ps
  cap : ps.length + 1 ≤ c
  mark : ∃ gm, w.cell? ⟨g, ps.length, none⟩ = some (.slice (some ⟨gm, 0, none⟩) 1 1) ∧ (base ≤ gm ∧ gm < w.heap.size) ∧ w.cell? ⟨gm, 0, none⟩ = some (.int .i64 (-77))
theorem MkR.lt {w : World} {base g c : Nat} {ps : Lot} (h : MkR w base g c ps) : base ≤ g ∧ g < w.heap.size := World.ownsRow.lt h.pile.outer g rfl
theorem MkR.past {w w' : World} {base g c : Nat} {ps : Lot} (h : MkR w base g c ps) (hb : Below w.heap.size w w') : MkR w' base g c ps := by
  obtain ⟨gm, h1, h2, h3⟩ := h.mark
  exact ⟨h.pile.later hb, h.cap, gm, (hb.cell (p := ⟨g, ps.length, none⟩) h.lt.2).trans h1, ⟨h2.1, Nat.lt_of_lt_of_le h2.2 hb.size⟩, (hb.cell (p := ⟨gm, 0, none⟩) h2.2).trans h3⟩
theorem MkR.left {w : World} {base g c : Nat} {ps : Lot} (h : MkR w base g c ps) (hl : ps.length ≤ 1000000000) (hr : ∀ x ∈ ps, x.2.length ≤ 1000000000) : Calls Tryd.prog 42 #[.slice (some ⟨g, 0, none⟩) ps.length c] w fun r w' => r = .returned (.bool true) ∧ ∃ n, w' = w.drewN n := by
  obtain ⟨gm, h1, _, h3⟩ := h.mark
  exact rowsLeft_any ps base g c gm w hl hr h.pile h.cap h1 h3
theorem past_drewN {B : Nat} {w a : World} (h : Below B w a) (n : Nat) : Below B w (a.drewN n) := ⟨h.os, h.tape, h.output, h.size, h.block⟩
set_option maxRecDepth 10000 in
set_option maxHeartbeats 800000 in
theorem marked_any (psL psO : Lot) (base gL cL gO cO gF cF gA cA : Nat) (Fi La : List Int) (em : Bool) (w : World) (h1 : psL.length ≤ 1000000000) (h2 : ∀ x ∈ psL, x.2.length ≤ 1000000000) (h3 : psO.length ≤ 1000000000) (h4 : ∀ x ∈ psO, x.2.length ≤ 1000000000) (h5 : Fi.length ≤ 1000000000) (h6 : La.length ≤ 1000000000)
    (hL : MkR w base gL cL psL) (hO : MkR w base gO cO psO) (hF : LW w base gF cF Fi) (hA : LW w base gA cA La) :
    Calls Tryd.prog 17 #[.agg #[.slice (some ⟨gL, 0, none⟩) psL.length cL, .slice (some ⟨gF, 0, none⟩) Fi.length cF, .slice (some ⟨gA, 0, none⟩) La.length cA, .slice (some ⟨gO, 0, none⟩) psO.length cO, .bool em]] w fun e w' => e = .returned (.bool true) ∧ Below w.heap.size w w' := by
  obtain ⟨w0, hw0⟩ : ∃ w0, w0 = w.alloc (.cells #[.slice (some ⟨gL, 0, none⟩) psL.length cL, .slice (some ⟨gF, 0, none⟩) Fi.length cF, .slice (some ⟨gA, 0, none⟩) La.length cA, .slice (some ⟨gO, 0, none⟩) psO.length cO, .bool em] 25) := ⟨_, rfl⟩
  have hb0 : Below w.heap.size w w0 := by rw [hw0]; exact (Below.refl _ _).alloc (Nat.le_refl _) _
  have hr0 : w0.heap[w.heap.size]? = some (.cells #[.slice (some ⟨gL, 0, none⟩) psL.length cL, .slice (some ⟨gF, 0, none⟩) Fi.length cF, .slice (some ⟨gA, 0, none⟩) La.length cA, .slice (some ⟨gO, 0, none⟩) psO.length cO, .bool em] 25 (0, 0)) := by rw [hw0]; exact heap_alloc_new w _
  have c0 : w0.cell? ⟨w.heap.size, 0, none⟩ = some (.slice (some ⟨gL, 0, none⟩) psL.length cL) := by rw [cell_of_row _ _ _ _ _ _ hr0]; rfl
  have c1 : w0.cell? ⟨w.heap.size, 1, none⟩ = some (.slice (some ⟨gF, 0, none⟩) Fi.length cF) := by rw [cell_of_row _ _ _ _ _ _ hr0]; rfl
  have c2 : w0.cell? ⟨w.heap.size, 2, none⟩ = some (.slice (some ⟨gA, 0, none⟩) La.length cA) := by rw [cell_of_row _ _ _ _ _ _ hr0]; rfl
  have c3 : w0.cell? ⟨w.heap.size, 3, none⟩ = some (.slice (some ⟨gO, 0, none⟩) psO.length cO) := by rw [cell_of_row _ _ _ _ _ _ hr0]; rfl
  have hbn : ∀ n, Below w.heap.size w (w0.drewN n) := fun n => past_drewN hb0 n
  have HL := hid0 (fun n => (hL.past (hbn n)).left h1 h2)
  have HO := hid0 (fun n => (hO.past (hbn n)).left h3 h4)
  have HF := hid0 (fun n => listLeft_any Fi base gF cF _ h5 (hF.past (hbn n)))
  have HA := hid0 (fun n => listLeft_any La base gA cA _ h6 (hA.past (hbn n)))
  have HB := hid0 hbn
  have hfold := hw0.symm
  clear hw0 hb0 hr0 hbn hL hO hF hA h2 h4
  go_enter Tryd.func17, Tryd.ntmps17
  go_wp2_with (first
    | (go_at_call 42; first
        | (refine (HL.out 0).mono ?_; rintro e w1 ⟨rfl, hw1⟩; obtain ⟨q1, rfl⟩ := hw1; clear HL)
        | (refine (HO.out _).mono ?_; rintro e w1 ⟨rfl, hw1⟩; obtain ⟨q2, rfl⟩ := drew_add hw1; clear hw1 HO))
    | (go_at_call 18; first
        | (refine (HF.out _).mono ?_; rintro e w1 ⟨rfl, hw1⟩; obtain ⟨q3, rfl⟩ := drew_add hw1; clear hw1 HF)
        | (refine (HA.out _).mono ?_; rintro e w1 ⟨rfl, hw1⟩; obtain ⟨q4, rfl⟩ := drew_add hw1; clear hw1 HA)))
  go_ret
  exact ⟨rfl, HB.out _⟩
end Go.Proofs.YtlkgghbdgjomkaaDoor
namespace Go.Proofs.YtlkgghbdgjomkaaDoor
open Go.RowKit Go.Shelf
/-- Is k what some number of a list picks? -/
def hitL (l : List Int) (n k : Nat) : Bool := l.any (fun x => pickN x n == k)
def someL (l : List Int) (n : Nat) : List Int := (plB (hitL l n) n).map Int.ofNat
theorem someL_rise (l : List Int) (n : Nat) : riseF (n : Int) 0 (someL l n) = true := by
  refine rise_of _ 0 (fun z hz => ?_) ?_
  · obtain ⟨k, hk, rfl⟩ := List.mem_map.1 hz
    unfold plB at hk
    have := List.mem_range.1 (List.mem_filter.1 hk).1
    simp only [Int.ofNat_eq_natCast]
    omega
  · unfold someL plB
    rw [List.pairwise_map]
    refine List.Pairwise.imp (fun h => ?_) (List.Pairwise.filter _ List.pairwise_lt_range)
    simp only [Int.ofNat_eq_natCast]
    omega
theorem beq_cast (a b : Nat) : ((a : Int) == (b : Int)) = (a == b) := by
  by_cases h : a = b
  · subst h; simp
  · have h2 : ¬ (a : Int) = (b : Int) := by omega
    rw [beq_eq_false_iff_ne.2 h, beq_eq_false_iff_ne.2 h2]
set_option maxRecDepth 10000 in
set_option maxHeartbeats 800000 in
theorem some_any (l : List Int) (a : Option Addr) (c n : Nat) (w : World) (hl : l.length ≤ 17592186043904) (hn : n ≤ 8) (ha : IA w a l) :
    Calls Tryd.prog 24 #[.slice a l.length c, .int .i64 (n : Int)] w fun e w' => ∃ v, e = .returned v ∧ OwnI w' w.heap.size v (someL l n) ∧ Below w.heap.size w w' := by
  obtain ⟨i0, hi, hz0, hz1, hz2⟩ := info_parts infoInt
  have HA := hid0 ha
  clear ha
  go_enter Tryd.func24, Tryd.ntmps24
  go_wp2
  go_loopw [5, 6] (fun v i wr => ∃ k : Nat, k ≤ n ∧ i = .int .i64 (k : Int) ∧ Hid (OwnI wr w.heap.size v ((plB (hitL l n) k).map Int.ofNat)) ∧ Hid (Below w.heap.size w wr)) (fun _ i _ => n - (intOf i).toNat)
  case atStart => exact ⟨0, Nat.zero_le _, rfl, hid0 (World.ownsRow_nil _ _ _ _), hid0 (Below.refl _ _)⟩
  case round =>
    obtain ⟨k, hk, rfl, HO, HB⟩ := hrel
    by_cases hlt : k < n
    · have hkI : (k : Int) < (n : Int) := by omega
      have hkI0 : (0 : Int) ≤ (k : Int) := by omega
      have hsz := HB.out.size
      go_wp2
      go_loopw [7, 8] (fun b i w2 => ∃ j : Nat, j ≤ l.length ∧ i = .int .i64 (j : Int) ∧ b = .bool ((l.take j).any (fun x => pickN x n == k)) ∧ w2 = wr) (fun _ i _ => l.length - (intOf i).toNat)
      case atStart => exact ⟨0, Nat.zero_le _, rfl, rfl, rfl⟩
      case round =>
        obtain ⟨j, hj, rfl, rfl, rfl⟩ := hrel
        by_cases hjl : j < l.length
        · obtain ⟨b, off, rfl, _, d1⟩ := (HA.out.past HB.out).at' j hjl
          have hjI : (j : Int) < (l.length : Int) := by omega
          have hjI0 : (0 : Int) ≤ (j : Int) := by omega
          have HT : Hid ((l.take (j + 1)).any (fun x => pickN x n == k) = ((l.take j).any (fun x => pickN x n == k) || (pickN l[j] n == k))) := hid0 (by rw [List.take_succ_eq_append_getElem hjl, List.any_append]; simp)
          generalize l[j] = x at *
          have HP := hid0 (pick_at x n (by omega) (by omega) wr)
          have HBq := hid0 (beq_cast (pickN x n) k)
          generalize pickN x n = q at *
          cases hb : (l.take j).any (fun x => pickN x n == k) with
          | true =>
            rw [hb] at HT
            go_wp2
            go_roundw
            case rel => exact ⟨j + 1, by omega, by go_num, by rw [HT.out]; rfl, by trivial⟩
            case measure => simp [intOf]; omega
          | false =>
            rw [hb] at HT
            go_wp2_with (go_at_call 6; refine HP.out.mono ?_; rintro e wk ⟨rfl, hwk⟩; have hwk' := hwk.symm; subst hwk'; clear hwk)
            go_roundw
            case rel => exact ⟨j + 1, by omega, by go_num, by rw [HT.out, ← HBq.out]; rfl, by trivial⟩
            case measure => simp [intOf]; omega
        · have hjI : ¬ (j : Int) < (l.length : Int) := by omega
          have HT : Hid ((l.take j).any (fun x => pickN x n == k) = hitL l n k) := hid0 (by rw [List.take_of_length_le (by omega)]; rfl)
          have HPs := hid0 (plB_succ (hitL l n) k)
          rw [HT.out]
          have hlen : (plB (hitL l n) k).length ≤ k := by unfold plB; exact Nat.le_trans (List.length_filter_le _ _) (by simp)
          obtain ⟨av, cv, ev, _⟩ := HO.out.ia
          cases hh : hitL l n k with
          | true =>
            rw [hh, if_pos rfl] at HPs
            have HR := hid0 HO.out
            subst ev
            have hll : ((plB (hitL l n) k).map Int.ofNat).length ≤ 8 := by rw [List.length_map]; omega
            generalize hX : (plB (hitL l n) k).map Int.ofNat = X at *
            go_wp2_with (at_builtin; go_loud ((
              refine wpList_append_own_at _ rfl _ _ 23 rfl w.heap.size 3 i0 (.int .i64 0) 1 8 Tryd.underlying23 hi hz0 hz1 hz2 rfl (by decide) _ X.length (X.map (Value.int .i64)) rfl (World.ownsRow.alloc HR.out _) ⟨wr.heap.size, 0, none⟩ 1 1 [.int .i64 (k : Int)] rfl rfl (cell_one_new _ _ _) (by simp [Value.oneCell']) (by unfold maxLen; omega) (by omega) (by simp; omega) ?_
              intro v2 w2 hown2 hgrow2 _ _
              have R := ownI_snoc rfl HR.out hown2 hgrow2 HB.out (Nat.le_refl _)
              have HO2 := hid0 R.1
              have HB2 := hid0 R.2
              obtain ⟨av2, cv2, ev2, _⟩ := R.1.ia
              rw [List.length_append, List.length_singleton] at ev2
              subst ev2
              clear R hown2 hgrow2)))
            go_roundw
            case rel => exact ⟨k + 1, by omega, by go_num, hid0 (by rw [HPs.out, List.map_append, hX]; exact HO2.out), HB2⟩
            case measure => simp [intOf]; omega
          | false =>
            rw [hh] at HPs
            go_wp2
            go_roundw
            case rel => exact ⟨k + 1, by omega, by go_num, hid0 (by rw [HPs.out]; exact HO.out), HB⟩
            case measure => simp [intOf]; omega
    · have hkn : k = n := by omega
      subst hkn
      go_wp2
      go_ret
      exact ⟨_, rfl, HO.out, HB.out⟩
set_option maxRecDepth 10000 in
set_option maxHeartbeats 800000 in
theorem back_any (l : List Int) (a : Option Addr) (c : Nat) (w : World) (hl : l.length ≤ 1000) (ha : IA w a l) :
    Calls Tryd.prog 12 #[.slice a l.length c] w fun e w' => ∃ v, e = .returned v ∧ OwnI w' w.heap.size v l.reverse ∧ Below w.heap.size w w' := by
  obtain ⟨i0, hi, hz0, hz1, hz2⟩ := info_parts infoInt
  have HA := hid0 ha
  clear ha
  go_enter Tryd.func12, Tryd.ntmps12
  go_wp2
  go_loopw [3, 4] (fun v i wr => ∃ k : Nat, k ≤ l.length ∧ i = .int .i64 ((k : Int) - 1) ∧ Hid (OwnI wr w.heap.size v (l.drop k).reverse) ∧ Hid (Below w.heap.size w wr)) (fun _ i _ => (intOf i + 1).toNat)
  case atStart => exact ⟨l.length, Nat.le_refl _, rfl, hid0 (by rw [List.drop_length]; exact World.ownsRow_nil _ _ _ _), hid0 (Below.refl _ _)⟩
  case round =>
    obtain ⟨k, hk, rfl, HO, HB⟩ := hrel
    by_cases h0 : k = 0
    · subst h0
      go_wp2
      go_ret
      exact ⟨_, rfl, HO.out, HB.out⟩
    · obtain ⟨j, rfl⟩ : ∃ j, k = j + 1 := ⟨k - 1, by omega⟩
      have hjl : j < l.length := by omega
      obtain ⟨b, off, rfl, _, d1⟩ := (HA.out.past HB.out).at' j hjl
      have hjI : (j : Int) < (l.length : Int) := by omega
      have hjI0 : (0 : Int) ≤ (j : Int) := by omega
      have hsz := HB.out.size
      have HD : Hid ((l.drop j).reverse = (l.drop (j + 1)).reverse ++ [l[j]]) := hid0 (by rw [List.drop_eq_getElem_cons hjl, List.reverse_cons])
      have hll : (l.drop (j + 1)).reverse.length ≤ 1000 := by rw [List.length_reverse, List.length_drop]; omega
      generalize l[j] = x at *
      obtain ⟨av, cv, ev, _⟩ := HO.out.ia
      subst ev
      have HR := HO
      have ej : ((j + 1 : Nat) : Int) - 1 = (j : Int) := by omega
      rw [ej]
      generalize (l.drop (j + 1)).reverse = X at *
      go_wp2_with (at_builtin; go_loud ((
        refine wpList_append_own_at _ rfl _ _ 23 rfl w.heap.size 3 i0 (.int .i64 0) 1 8 Tryd.underlying23 hi hz0 hz1 hz2 rfl (by decide) _ X.length (X.map (Value.int .i64)) rfl (World.ownsRow.alloc HR.out _) ⟨wr.heap.size, 0, none⟩ 1 1 [.int .i64 x] rfl rfl (cell_one_new _ _ _) (by simp [Value.oneCell']) (by unfold maxLen; omega) (by omega) (by simp; omega) ?_
        intro v2 w2 hown2 hgrow2 _ _
        have R := ownI_snoc rfl HR.out hown2 hgrow2 HB.out (Nat.le_refl _)
        have HO2 := hid0 R.1
        have HB2 := hid0 R.2
        obtain ⟨av2, cv2, ev2, _⟩ := R.1.ia
        rw [List.length_append, List.length_singleton] at ev2
        subst ev2
        clear R hown2 hgrow2)))
      go_roundw
      case rel => exact ⟨j, by omega, by go_num, hid0 (by rw [HD.out]; exact HO2.out), HB2⟩
      case measure => simp [intOf]
end Go.Proofs.YtlkgghbdgjomkaaDoor
namespace Go.Proofs.YtlkgghbdgjomkaaDoor
open Go.RowKit Go.Shelf
/-- The blocks of a bag. -/
def BB (v : Value) (ps : Lot) (k : Nat) : Prop := v.ownBlock = some k ∨ ∃ x ∈ ps, x.1.ownBlock = some k
theorem Bag.blt {w : World} {base : Nat} {v : Value} {ps : Lot} (h : Bag w base v ps) {k : Nat} (hk : BB v ps k) : base ≤ k ∧ k < w.heap.size := by
  rcases hk with hk | ⟨x, hx, hk⟩
  · exact World.ownsRow.lt h.outer k hk
  · exact World.ownsRow.lt (h.row x hx) k hk
theorem Bag.on {w w' : World} {base : Nat} {v : Value} {ps : Lot} (h : Bag w base v ps) (hk : ∀ k, BB v ps k → w'.heap[k]? = w.heap[k]?) : Bag w' base v ps :=
  ⟨own_blk h.outer (fun k e => hk k (.inl e)), fun x hx => own_blk (h.row x hx) (fun k e => hk k (.inr ⟨x, hx, e⟩)), h.apart, h.away⟩
/-- One more list for one of two bags. -/
theorem two_snoc {W wr w1 : World} {base : Nat} {v v' x vO : Value} {ps psO : Lot} {l : List Int} {o : Obj} (h : Bag W base v ps) (hO : Bag W base vO psO) (hd : ∀ k, BB v ps k → ¬ BB vO psO k) (hk : Below W.heap.size W wr) (hx : OwnI wr W.heap.size x l) (hbase : base ≤ W.heap.size)
    (hown' : w1.ownsRow base 23 1 v' (ps.length + 1) (ps.map (·.1) ++ [x])) (hgrow : (wr.alloc o).grownBy w1 v.ownBlock) (hat : v'.ownBlock = v.ownBlock ∨ v'.ownBlock = some (wr.alloc o).heap.size) {w : World} (hb : Below base w W) :
    Bag w1 base v' (ps ++ [(x, l)]) ∧ Bag w1 base vO psO ∧ (∀ k, BB v' (ps ++ [(x, l)]) k → ¬ BB vO psO k) ∧ Below base w w1 := by
  obtain ⟨h1, h2⟩ := h.snoc rfl hk hx hbase hown' hgrow hat hb
  refine ⟨h1, hO.on (fun k e => ?_), fun k e eO => ?_, h2⟩
  · have hl := hO.blt e
    exact (hgrow.block k (by simp; have := hk.size; omega) (fun e2 => hd k (.inl e2.symm) e)).trans ((heap_alloc_old wr o (by have := hk.size; omega)).trans (hk.block k hl.2))
  · have hl := hO.blt eO
    have hs := hk.size
    rcases e with e | ⟨y, hy, e⟩
    · rcases hat with ha | ha
      · exact hd k (.inl (ha ▸ e)) eO
      · rw [ha] at e
        have := Option.some.inj e
        simp at this
        omega
    · rcases List.mem_append.1 hy with hy | hy
      · exact hd k (.inr ⟨y, hy, e⟩) eO
      · rw [List.mem_singleton] at hy
        subst hy
        have := (World.ownsRow.lt hx k e).1
        omega
/-- Positions that are being made, in the variable X. -/
structure TdI (w W : World) (X base : Nat) (vL vO vF vA : Value) (psL psO : Lot) (Fi La : List Int) (em : Bool) : Prop where
  row : W.heap[X]? = some (.cells #[vL, vF, vA, vO, .bool em] 25 (0, 0))
  bL : Bag W base vL psL
  bO : Bag W base vO psO
  dis : ∀ k, BB vL psL k → ¬ BB vO psO k
  oF : OwnI W w.heap.size vF Fi
  oA : OwnI W w.heap.size vA La
  bF : ∀ k, vF.ownBlock = some k → k < base ∧ ¬ k = X
  bA : ∀ k, vA.ownBlock = some k → k < base ∧ ¬ k = X
  bel : Below w.heap.size w W
  od : w.heap.size ≤ X ∧ X < base ∧ base ≤ W.heap.size
section
variable {w W : World} {X base : Nat} {vL vO vF vA : Value} {psL psO : Lot} {Fi La : List Int} {em : Bool}
theorem TdI.past {W' : World} (h : TdI w W X base vL vO vF vA psL psO Fi La em) (hb : Below W.heap.size W W') : TdI w W' X base vL vO vF vA psL psO Fi La em :=
  ⟨(hb.block X (Array.getElem?_eq_some_iff.1 h.row).1).trans h.row, h.bL.later hb, h.bO.later hb, h.dis, h.oF.past hb, h.oA.past hb, h.bF, h.bA, Below.later h.bel hb, ⟨h.od.1, h.od.2.1, Nat.le_trans h.od.2.2 hb.size⟩⟩
theorem TdI.addL {wr w1 : World} {x v' : Value} {l : List Int} {o : Obj} (h : TdI w W X base vL vO vF vA psL psO Fi La em) (hk : Below W.heap.size W wr) (hx : OwnI wr W.heap.size x l) (hown' : w1.ownsRow base 23 1 v' (psL.length + 1) (psL.map (·.1) ++ [x])) (hgrow : (wr.alloc o).grownBy w1 vL.ownBlock) (hat : v'.ownBlock = vL.ownBlock ∨ v'.ownBlock = some (wr.alloc o).heap.size) :
    w1.cell? ⟨X, 0, none⟩ = some vL ∧ w1.frozen? ⟨X, 0, none⟩ = false ∧ TdI w (w1.setCell ⟨X, 0, none⟩ v') X base v' vO vF vA (psL ++ [(x, l)]) psO Fi La em := by
  obtain ⟨o1, o2, o3⟩ := h.od
  obtain ⟨g1, g2, g3, g4⟩ := two_snoc h.bL h.bO h.dis hk hx o3 hown' hgrow hat (Below.refl base W)
  have hXl := (Array.getElem?_eq_some_iff.1 h.row).1
  have hr1 : w1.heap[X]? = _ := (g4.block X o2).trans h.row
  have oth : ∀ k, ¬ k = X → (w1.setCell ⟨X, 0, none⟩ v').heap[k]? = w1.heap[k]? := fun k hk => Below.heap_setCell w1 _ _ k hk
  refine ⟨by rw [cell_of_row _ _ _ _ _ _ hr1]; rfl, by simp [World.frozen?, hr1], ⟨heap_setCell_same _ _ 0 _ _ v' hr1, g1.on (fun k e => oth k (by have := g1.blt e; omega)), g2.on (fun k e => oth k (by have := g2.blt e; omega)), g3, own_blk h.oF (fun k e => ?_), own_blk h.oA (fun k e => ?_), h.bF, h.bA, (h.bel.trans (g4.mono (by omega))).setCell (p := ⟨X, 0, none⟩) o1 v', ⟨o1, o2, by have := g4.size; simp; omega⟩⟩⟩
  · have := h.bF k e
    exact (oth k this.2).trans (g4.block k this.1)
  · have := h.bA k e
    exact (oth k this.2).trans (g4.block k this.1)
theorem TdI.addO {wr w1 : World} {x v' : Value} {l : List Int} {o : Obj} (h : TdI w W X base vL vO vF vA psL psO Fi La em) (hk : Below W.heap.size W wr) (hx : OwnI wr W.heap.size x l) (hown' : w1.ownsRow base 23 1 v' (psO.length + 1) (psO.map (·.1) ++ [x])) (hgrow : (wr.alloc o).grownBy w1 vO.ownBlock) (hat : v'.ownBlock = vO.ownBlock ∨ v'.ownBlock = some (wr.alloc o).heap.size) :
    w1.cell? ⟨X, 3, none⟩ = some vO ∧ w1.frozen? ⟨X, 3, none⟩ = false ∧ TdI w (w1.setCell ⟨X, 3, none⟩ v') X base vL v' vF vA psL (psO ++ [(x, l)]) Fi La em := by
  obtain ⟨o1, o2, o3⟩ := h.od
  obtain ⟨g1, g2, g3, g4⟩ := two_snoc h.bO h.bL (fun k e e2 => h.dis k e2 e) hk hx o3 hown' hgrow hat (Below.refl base W)
  have hr1 : w1.heap[X]? = _ := (g4.block X o2).trans h.row
  have oth : ∀ k, ¬ k = X → (w1.setCell ⟨X, 3, none⟩ v').heap[k]? = w1.heap[k]? := fun k hk => Below.heap_setCell w1 _ _ k hk
  refine ⟨by rw [cell_of_row _ _ _ _ _ _ hr1]; rfl, by simp [World.frozen?, hr1], ⟨heap_setCell_same _ _ 3 _ _ v' hr1, g2.on (fun k e => oth k (by have := g2.blt e; omega)), g1.on (fun k e => oth k (by have := g1.blt e; omega)), fun k e e2 => g3 k e2 e, own_blk h.oF (fun k e => ?_), own_blk h.oA (fun k e => ?_), h.bF, h.bA, (h.bel.trans (g4.mono (by omega))).setCell (p := ⟨X, 3, none⟩) o1 v', ⟨o1, o2, by have := g4.size; simp; omega⟩⟩⟩
  · have := h.bF k e
    exact (oth k this.2).trans (g4.block k this.1)
  · have := h.bA k e
    exact (oth k this.2).trans (g4.block k this.1)
end
/-- What tidy makes of Letters and Follow. -/
def tdL (Le : List (List Int)) (n : Nat) : List (List Int) := (List.range n).map fun i => someL (Le.getD i []) 4
def tdO (Fo : List (List Int)) (m n : Nat) : List (List Int) := (List.range n).map fun i => someL (Fo.getD i []) m
theorem someL_nil (n : Nat) : someL [] n = [] := by
  have : plB (hitL [] n) n = [] := by
    unfold plB
    rw [List.filter_eq_nil_iff]
    intro a _
    simp [hitL]
  unfold someL
  rw [this]
  rfl
theorem tdy (Le Fo : List (List Int)) (Fi La : List Int) {n : Nat} (hn : n ≤ 8) : Tdy (tdL Le n) (tdO Fo n n) (someL Fi n) (someL La n) := by
  have e1 : (tdL Le n).length = n := by simp [tdL]
  have e2 : (tdO Fo n n).length = n := by simp [tdO]
  refine ⟨by rw [e1]; exact hn, by rw [e1, e2], fun r hr => ?_, by rw [e1]; exact someL_rise Fi n, by rw [e1]; exact someL_rise La n, fun r hr => ?_⟩
  · obtain ⟨i, _, rfl⟩ := List.mem_map.1 hr
    exact someL_rise _ 4
  · obtain ⟨i, _, rfl⟩ := List.mem_map.1 hr
    rw [e1]
    exact someL_rise _ n
theorem tdL_succ (Le : List (List Int)) (k : Nat) : tdL Le (k + 1) = tdL Le k ++ [someL (Le.getD k []) 4] := by simp [tdL, List.range_succ]
theorem tdO_succ (Fo : List (List Int)) (m k : Nat) : tdO Fo m (k + 1) = tdO Fo m k ++ [someL (Fo.getD k []) m] := by simp [tdO, List.range_succ]
end Go.Proofs.YtlkgghbdgjomkaaDoor
namespace Go.Proofs.YtlkgghbdgjomkaaDoor
open Go.RowKit Go.Shelf
/-- Lists of numbers in memory, in blocks from lo on that there are. -/
structure RwK (w : World) (lo : Nat) (a : Option Addr) (L : List (List Int)) : Prop where
  at' : ∀ k (h : k < L.length), ∃ b off, a = some ⟨b, off, none⟩ ∧ lo ≤ b ∧ b < w.heap.size ∧ ∃ a1 c1, w.cell? ⟨b, off + k, none⟩ = some (.slice a1 (L[k]).length c1) ∧ IQ w lo a1 L[k] ∧ ∀ p, a1 = some p → p.block < w.heap.size
theorem RwK.rwb {w : World} {lo : Nat} {a : Option Addr} {L : List (List Int)} (h : RwK w lo a L) : RwB w a L := ⟨fun k hk => by
  obtain ⟨b, off, e, _, h1, a1, c1, h2, h3, h4⟩ := h.at' k hk
  exact ⟨b, off, e, h1, a1, c1, h2, h3.ia, h4⟩⟩
theorem RwK.keep {w w' : World} {lo : Nat} {a : Option Addr} {L : List (List Int)} (h : RwK w lo a L) (hs : w.heap.size ≤ w'.heap.size) (hk : ∀ k, lo ≤ k → k < w.heap.size → w'.heap[k]? = w.heap[k]?) : RwK w' lo a L := ⟨fun k hk' => by
  obtain ⟨b, off, e, h0, h1, a1, c1, h2, h3, h4⟩ := h.at' k hk'
  exact ⟨b, off, e, h0, by omega, a1, c1, (World.cell?_of_block (w := w) (hk b h0 h1)).trans h2, h3.keep hs hk, fun p hp => Nat.lt_of_lt_of_le (h4 p hp) hs⟩⟩
theorem RwK.past {w w' : World} {lo : Nat} {a : Option Addr} {L : List (List Int)} (h : RwK w lo a L) (hb : Below w.heap.size w w') : RwK w' lo a L := h.keep hb.size (fun k _ hk => hb.block k hk)
theorem RwK.lower {w : World} {b lo : Nat} {a : Option Addr} {L : List (List Int)} (h : RwK w b a L) (hb : lo ≤ b) : RwK w lo a L := ⟨fun k hk => by
  obtain ⟨b1, off, e, h0, h1, a1, c1, h2, h3, h4⟩ := h.at' k hk
  exact ⟨b1, off, e, by omega, h1, a1, c1, h2, ⟨fun i hi => by obtain ⟨b2, o2, e2, g0, g1, g2⟩ := h3.at' i hi; exact ⟨b2, o2, e2, by omega, g1, g2⟩⟩, h4⟩⟩
theorem OwnI.bd {w : World} {base n c : Nat} {a : Option Addr} {L : List Int} (h : OwnI w base (.slice a n c) L) : ∀ p, a = some p → p.block < w.heap.size := fun p hp => by
  subst hp
  have h0 := h
  rcases h.2 with ⟨e, _⟩ | ⟨g, cap, cur, e, _⟩
  · cases e
  · cases e
    exact (World.ownsRow.lt h0 g rfl).2
theorem Bag.rwk {w : World} {base : Nat} {ps : Lot} {L : List (List Int)} {a : Option Addr} {c n : Nat} (h : Bag w base (.slice a n c) ps) (hm : ps.map (·.2) = L) : RwK w base a L := by
  subst hm
  have h0 := h.outer
  rcases h0.2 with ⟨hv, hn⟩ | ⟨g, cap, cur, hv, hg, _⟩
  · have hps : ps = [] := List.eq_nil_of_length_eq_zero (by omega)
    subst hps
    exact ⟨fun k hk => by simp at hk⟩
  · refine ⟨fun k hk => ?_⟩
    have hk' : k < ps.length := by simpa using hk
    have hr := h.row ps[k] (List.getElem_mem hk')
    obtain ⟨a1, c1, e1, hq⟩ := hr.iq
    rw [e1] at hr
    cases hv
    refine ⟨g, 0, rfl, hg, (World.ownsRow.lt h0 g rfl).2, a1, c1, ?_, ?_, hr.bd⟩
    · rw [Nat.zero_add, World.ownsRow.cellAt h0 k (by omega)]
      simp [hk', e1]
    · simp only [List.getElem_map]
      exact hq
/-- Positions are answered, in new memory, in blocks that there are. -/
def RevB (w : World) (p : Pos) (r : Ending) (w' : World) : Prop := ∃ aL aF aA aO cL cF cA cO, r = .returned (posV aL aF aA aO cL cF cA cO p.le p.fo p.fi p.la p.em) ∧ PosQ w' w.heap.size aL aF aA aO p.le p.fo p.fi p.la ∧ RwK w' w.heap.size aO p.fo ∧ (∀ q, aF = some q → q.block < w'.heap.size) ∧ Below w.heap.size w w'
theorem RevB.zero {w w' : World} (hb : Below w.heap.size w w') : RevB w ⟨[], [], [], [], false⟩ (.returned (.agg #[.slice none 0 0, .slice none 0 0, .slice none 0 0, .slice none 0 0, .bool false])) w' :=
  ⟨none, none, none, none, 0, 0, 0, 0, rfl, ⟨⟨fun _ hk => absurd hk (Nat.not_lt_zero _)⟩, ⟨fun _ hk => absurd hk (Nat.not_lt_zero _)⟩, ⟨fun _ hk => absurd hk (Nat.not_lt_zero _)⟩, ⟨fun _ hk => absurd hk (Nat.not_lt_zero _)⟩⟩, ⟨fun _ hk => absurd hk (Nat.not_lt_zero _)⟩, fun q hq => (by cases hq), hb⟩
end Go.Proofs.YtlkgghbdgjomkaaDoor
namespace Go.Proofs.YtlkgghbdgjomkaaDoor
open Go.RowKit Go.Shelf
theorem cell_lt {w : World} {g i : Nat} {v : Value} (h : w.cell? ⟨g, i, none⟩ = some v) : g < w.heap.size := by
  apply Classical.byContradiction
  intro hn
  have : w.heap[g]? = none := Array.getElem?_eq_none (by omega)
  simp [World.cell?, this] at h
theorem RowsR.mk {w w' : World} {L : List (List Int)} {r : Ending} (h : RowsR w L r w') : ∃ g c ps, r = .returned (.slice (some ⟨g, 0, none⟩) L.length c) ∧ MkR w' w.heap.size g c ps ∧ ps.map (·.2) = L ∧ Below w.heap.size w w' := by
  obtain ⟨g, c, rfl, gm, ps, h1, h2, h3, h4, h5, h6, h7⟩ := h
  have hl : ps.length = L.length := by rw [← h2, List.length_map]
  rw [← hl] at h1 h3 h4 ⊢
  exact ⟨g, c, ps, rfl, ⟨h1, h3, gm, h4, ⟨h7, cell_lt h5⟩, h5⟩, h2, h6⟩
theorem LW.kept {w w' : World} {lo g c b : Nat} {L : List Int} (h : LW w lo g c L) (hb : b ≤ lo) (hk : ∀ k, b ≤ k → w'.heap[k]? = w.heap[k]?) : LW w' lo g c L :=
  own_blk h (fun k hk' => hk k (by have := (World.ownsRow.lt h k hk').1; omega))
theorem MkR.kept {w w' : World} {base g c : Nat} {ps : Lot} (h : MkR w base g c ps) (hs : w.heap.size ≤ w'.heap.size) (hk : ∀ k, base ≤ k → w'.heap[k]? = w.heap[k]?) : MkR w' base g c ps := by
  obtain ⟨gm, h1, h2, h3⟩ := h.mark
  refine ⟨⟨own_blk h.pile.outer (fun k hk' => hk k (World.ownsRow.lt h.pile.outer k hk').1), fun x hx => ?_, h.pile.apart, h.pile.away⟩, h.cap, gm, ?_, ⟨h2.1, by omega⟩, ?_⟩
  · obtain ⟨g', c', e, hl⟩ := h.pile.row x hx
    exact ⟨g', c', e, hl.kept (Nat.le_refl _) hk⟩
  · exact (World.cell?_of_block (w := w) (hk g h.lt.1)).trans h1
  · exact (World.cell?_of_block (w := w) (hk gm h2.1)).trans h3
theorem MkR.lower {w : World} {b lo g c : Nat} {ps : Lot} (h : MkR w b g c ps) (hb : lo ≤ b) : MkR w lo g c ps :=
  ⟨⟨owns_lower h.pile.outer hb, fun x hx => by obtain ⟨g', c', e, hl⟩ := h.pile.row x hx; exact ⟨g', c', e, owns_lower hl hb⟩, h.pile.apart, h.pile.away⟩, h.cap, by obtain ⟨gm, h1, h2, h3⟩ := h.mark; exact ⟨gm, h1, ⟨by omega, h2.2⟩, h3⟩⟩
/-- Positions of their own, with marks behind their lists. -/
def LentR (w : World) (Le Fo : List (List Int)) (Fi La : List Int) (em : Bool) (r : Ending) (w' : World) : Prop :=
  ∃ gL cL gF cF gA cA gO cO psL psO b1 b2 b3, r = .returned (.agg #[.slice (some ⟨gL, 0, none⟩) Le.length cL, .slice (some ⟨gF, 0, none⟩) Fi.length cF, .slice (some ⟨gA, 0, none⟩) La.length cA, .slice (some ⟨gO, 0, none⟩) Fo.length cO, .bool em]) ∧
    psL.map (·.2) = Le ∧ psO.map (·.2) = Fo ∧ (MkR w' w.heap.size gL cL psL ∧ gL < b1 ∧ ∀ x ∈ psL, ∀ g, x.1.ownBlock = some g → g < b1) ∧ ((LW w' b1 gF cF Fi ∧ gF < b2) ∧ (LW w' b2 gA cA La ∧ gA < b3) ∧ MkR w' b3 gO cO psO) ∧ Below w.heap.size w w'
set_option maxRecDepth 10000 in
set_option maxHeartbeats 3200000 in
theorem lent_any (aL aF aA aO : Option Addr) (cL cF cA cO : Nat) (Le Fo : List (List Int)) (Fi La : List Int) (em : Bool) (w : World) (hp : PosA w aL aF aA aO Le Fo Fi La) :
    Calls Tryd.prog 13 #[posV aL aF aA aO cL cF cA cO Le Fo Fi La em] w fun r w' => LentR w Le Fo Fi La em r w' := by
  unfold posV
  obtain ⟨wa, hwa⟩ : ∃ wa, wa = w.alloc (.cells #[.slice aL Le.length cL, .slice aF Fi.length cF, .slice aA La.length cA, .slice aO Fo.length cO, .bool em] 25) := ⟨_, rfl⟩
  obtain ⟨w0, hw0⟩ : ∃ w0, w0 = wa.alloc (.cells #[.slice none 0 0, .slice none 0 0, .slice none 0 0, .slice none 0 0, .bool false] 25) := ⟨_, rfl⟩
  have hsa : wa.heap.size = w.heap.size + 1 := by rw [hwa]; simp
  have hs0 : w0.heap.size = w.heap.size + 1 + 1 := by rw [hw0]; simp [hsa]
  have hBa : Below w.heap.size w wa := by rw [hwa]; exact (Below.refl _ _).alloc (Nat.le_refl _) _
  have hBb : Below wa.heap.size wa w0 := by rw [hw0]; exact (Below.refl _ _).alloc (Nat.le_refl _) _
  have hB0 : Below w.heap.size w w0 := Below.later hBa hBb
  have hXa : wa.heap[w.heap.size]? = some (.cells #[.slice aL Le.length cL, .slice aF Fi.length cF, .slice aA La.length cA, .slice aO Fo.length cO, .bool em] 25 (0, 0)) := by rw [hwa]; exact heap_alloc_new w _
  have hX0 : w0.heap[w.heap.size]? = some (.cells #[.slice aL Le.length cL, .slice aF Fi.length cF, .slice aA La.length cA, .slice aO Fo.length cO, .bool em] 25 (0, 0)) := (hBb.block _ (by omega)).trans hXa
  have hY0 : w0.heap[w.heap.size + 1]? = some (.cells #[.slice none 0 0, .slice none 0 0, .slice none 0 0, .slice none 0 0, .bool false] 25 (0, 0)) := by rw [hw0, ← hsa]; exact heap_alloc_new wa _
  have HB0 := hid0 hB0
  have HX0 := hid0 hX0
  have HY0 := hid0 hY0
  have HS0 := hid0 hs0
  have hp0 := hp.past hB0
  have HXX : Hid (∀ V, Below w0.heap.size w0 V → V.cell? ⟨w.heap.size, 0, none⟩ = some (.slice aL Le.length cL) ∧ V.cell? ⟨w.heap.size, 1, none⟩ = some (.slice aF Fi.length cF) ∧ V.cell? ⟨w.heap.size, 2, none⟩ = some (.slice aA La.length cA) ∧ V.cell? ⟨w.heap.size, 3, none⟩ = some (.slice aO Fo.length cO) ∧ V.cell? ⟨w.heap.size, 4, none⟩ = some (.bool em)) := hid0 (fun V hV => row5 ((hV.block _ (by omega)).trans hX0))
  have H1 := hid0 (fun V (hV : Below w0.heap.size w0 V) => rows_any Le aL cL V (by have := hp.l1; omega) (fun r hr => by have := hp.r1 r hr; omega) (hp0.le.past hV))
  have H2 := hid0 (fun V (hV : Below w0.heap.size w0 V) => list_any Fi aF cF V (by have := hp.l2; omega) (hp0.fi.past hV))
  have H3 := hid0 (fun V (hV : Below w0.heap.size w0 V) => list_any La aA cA V (by have := hp.l3; omega) (hp0.la.past hV))
  have H4 := hid0 (fun V (hV : Below w0.heap.size w0 V) => rows_any Fo aO cO V (by have := hp.l4; omega) (fun r hr => by have := hp.r4 r hr; omega) (hp0.fo.past hV))
  have HD : Hid (Below w0.heap.size w0 w0.drew) := hid0 ⟨rfl, rfl, rfl, Nat.le_refl _, fun _ _ => rfl⟩
  have hfa := hwa.symm
  have hfold := hw0.symm
  clear hwa hw0 hp hp0 hB0 hBa hBb hXa hX0 hY0 hs0 hsa
  subst hfa
  go_enter Tryd.func13, Tryd.ntmps13
  go_upto_region 1 with fail
  refine wp_region_noPanic ?_
  refine wp_region_held_drew (S := (fun V => V.cell? ⟨w.heap.size, 0, none⟩ = some (.slice aL Le.length cL) ∧ V.cell? ⟨w.heap.size, 1, none⟩ = some (.slice aF Fi.length cF) ∧ V.cell? ⟨w.heap.size, 2, none⟩ = some (.slice aA La.length cA) ∧ V.cell? ⟨w.heap.size, 3, none⟩ = some (.slice aO Fo.length cO) ∧ V.cell? ⟨w.heap.size, 4, none⟩ = some (.bool em))) (by kernel_rfl) ?_ (fun hHeld => ?_)
  · exact HXX.out _ HD.out
  refine tkV (i := 0) (d := some 3) (v := ?_) rfl (by kernel_rfl) (by kernel_rfl) (by kernel_rfl) rfl (fun _ _ _ h => h) (by rfl) ?_ (by assumption) ?_
  rotate_left
  · (intro w hSw; (try dsimp only at hSw); (try simp only [List.getElem_toArray, List.getElem_cons_zero]); go_simp; try with_reducible rfl)
  try simp only [Act.put, List.setIfInBounds_toArray, List.set_cons_zero, List.set_cons_succ]
  refine tkV (i := 1) (d := some 4) (v := ?_) rfl (by kernel_rfl) (by kernel_rfl) (by kernel_rfl) rfl (fun _ _ _ h => h) (by rfl) ?_ (by assumption) ?_
  rotate_left
  · (intro w hSw; (try dsimp only at hSw); (try simp only [List.getElem_toArray, List.getElem_cons_zero, List.getElem_cons_succ]); go_simp; try with_reducible rfl)
  try simp only [Act.put, List.setIfInBounds_toArray, List.set_cons_zero, List.set_cons_succ]
  refine tkV (i := 3) (d := some 6) (v := ?_) rfl (by kernel_rfl) (by kernel_rfl) (by kernel_rfl) rfl (fun _ _ _ h => h) (by rfl) ?_ (by assumption) ?_
  rotate_left
  · (intro w hSw; (try dsimp only at hSw); (try simp only [List.getElem_toArray, List.getElem_cons_zero, List.getElem_cons_succ]); go_simp; try with_reducible rfl)
  try simp only [Act.put, List.setIfInBounds_toArray, List.set_cons_zero, List.set_cons_succ]
  refine tkV (i := 4) (d := some 7) (v := ?_) rfl (by kernel_rfl) (by kernel_rfl) (by kernel_rfl) rfl (fun _ _ _ h => h) (by rfl) ?_ (by assumption) ?_
  rotate_left
  · (intro w hSw; (try dsimp only at hSw); (try simp only [List.getElem_toArray, List.getElem_cons_zero, List.getElem_cons_succ]); go_simp; try with_reducible rfl)
  try simp only [Act.put, List.setIfInBounds_toArray, List.set_cons_zero, List.set_cons_succ]
  refine tkV (i := 6) (d := some 9) (v := ?_) rfl (by kernel_rfl) (by kernel_rfl) (by kernel_rfl) rfl (fun _ _ _ h => h) (by rfl) ?_ (by assumption) ?_
  rotate_left
  · (intro w hSw; (try dsimp only at hSw); (try simp only [List.getElem_toArray, List.getElem_cons_zero, List.getElem_cons_succ]); go_simp; try with_reducible rfl)
  try simp only [Act.put, List.setIfInBounds_toArray, List.set_cons_zero, List.set_cons_succ]
  refine tkV (i := 7) (d := some 10) (v := ?_) rfl (by kernel_rfl) (by kernel_rfl) (by kernel_rfl) rfl (fun _ _ _ h => h) (by rfl) ?_ (by assumption) ?_
  rotate_left
  · (intro w hSw; (try dsimp only at hSw); (try simp only [List.getElem_toArray, List.getElem_cons_zero, List.getElem_cons_succ]); go_simp; try with_reducible rfl)
  try simp only [Act.put, List.setIfInBounds_toArray, List.set_cons_zero, List.set_cons_succ]
  refine tkV (i := 9) (d := some 12) (v := ?_) rfl (by kernel_rfl) (by kernel_rfl) (by kernel_rfl) rfl (fun _ _ _ h => h) (by rfl) ?_ (by assumption) ?_
  rotate_left
  · (intro w hSw; (try dsimp only at hSw); (try simp only [List.getElem_toArray, List.getElem_cons_zero, List.getElem_cons_succ]); go_simp; try with_reducible rfl)
  try simp only [Act.put, List.setIfInBounds_toArray, List.set_cons_zero, List.set_cons_succ]
  refine tkV (i := 10) (d := some 13) (v := ?_) rfl (by kernel_rfl) (by kernel_rfl) (by kernel_rfl) rfl (fun _ _ _ h => h) (by rfl) ?_ (by assumption) ?_
  rotate_left
  · (intro w hSw; (try dsimp only at hSw); (try simp only [List.getElem_toArray, List.getElem_cons_zero, List.getElem_cons_succ]); go_simp; try with_reducible rfl)
  try simp only [Act.put, List.setIfInBounds_toArray, List.set_cons_zero, List.set_cons_succ]
  refine tkV (i := 12) (d := some 15) (v := ?_) rfl (by kernel_rfl) (by kernel_rfl) (by kernel_rfl) rfl (fun _ _ _ h => h) (by rfl) ?_ (by assumption) ?_
  rotate_left
  · (intro w hSw; (try dsimp only at hSw); (try simp only [List.getElem_toArray, List.getElem_cons_zero, List.getElem_cons_succ]); go_simp; try with_reducible rfl)
  try simp only [Act.put, List.setIfInBounds_toArray, List.set_cons_zero, List.set_cons_succ]
  refine tkV (i := 13) (d := some 16) (v := ?_) rfl (by kernel_rfl) (by kernel_rfl) (by kernel_rfl) rfl (fun _ _ _ h => h) (by rfl) ?_ (by assumption) ?_
  rotate_left
  · (intro w hSw; (try dsimp only at hSw); (try simp only [List.getElem_toArray, List.getElem_cons_zero, List.getElem_cons_succ]); go_simp; try with_reducible rfl)
  try simp only [Act.put, List.setIfInBounds_toArray, List.set_cons_zero, List.set_cons_succ]
  refine wpAnyH_ready (rs := [2]) (by kernel_rfl) (by simp) (AllReadyH.cons rfl (fun K hK => ?_) AllReadyH.nil)
  try simp only [List.getElem_toArray, List.getElem_cons_zero, List.getElem_cons_succ]
  go_simp
  refine (H1.out w0.drew HD.out).mono ?_
  rintro e v1 hr1
  obtain ⟨bL, dL, psL, rfl, hk1, hm1, hl1⟩ := RowsR.mk hr1
  have HBv1 := hid0 (Below.later HD.out hl1)
  have HK1 := hid0 hk1
  have HM1 := hid0 hm1
  have hsv1 := HXX.out v1 HBv1.out
  clear hr1 hk1 hm1 hl1
  go_wp2_with fail
  refine hK.out _ _ ?_ (fun hHeld2 => ?_)
  · exact hsv1
  clear hK K
  (try simp only [Act.put]); (try simp only [List.setIfInBounds_toArray]); (try simp only [List.set_cons_succ]); (try simp only [List.set_cons_zero])
  refine wpAnyH_ready (rs := [5]) (by kernel_rfl) (by simp) (AllReadyH.cons rfl (fun K hK => ?_) AllReadyH.nil)
  try simp only [List.getElem_toArray, List.getElem_cons_zero, List.getElem_cons_succ]
  go_simp
  refine (H2.out v1 HBv1.out).mono ?_
  rintro e v2 ⟨bF, dF, rfl, ho2, hl2⟩
  have HBv2 := hid0 (Below.later HBv1.out hl2)
  have HBs2 := hid0 hl2
  have HQ2 := hid0 ho2
  have hsv2 := HXX.out v2 HBv2.out
  clear ho2 hl2
  go_wp2_with fail
  refine hK.out _ _ ?_ (fun hHeld5 => ?_)
  · exact hsv2
  clear hK K
  (try simp only [Act.put]); (try simp only [List.setIfInBounds_toArray]); (try simp only [List.set_cons_succ]); (try simp only [List.set_cons_zero])
  refine wpAnyH_ready (rs := [8]) (by kernel_rfl) (by simp) (AllReadyH.cons rfl (fun K hK => ?_) AllReadyH.nil)
  try simp only [List.getElem_toArray, List.getElem_cons_zero, List.getElem_cons_succ]
  go_simp
  refine (H3.out v2 HBv2.out).mono ?_
  rintro e v3 ⟨bA, dA, rfl, ho3, hl3⟩
  have HBv3 := hid0 (Below.later HBv2.out hl3)
  have HBs3 := hid0 hl3
  have HQ3 := hid0 ho3
  have hsv3 := HXX.out v3 HBv3.out
  clear ho3 hl3
  go_wp2_with fail
  refine hK.out _ _ ?_ (fun hHeld8 => ?_)
  · exact hsv3
  clear hK K
  (try simp only [Act.put]); (try simp only [List.setIfInBounds_toArray]); (try simp only [List.set_cons_succ]); (try simp only [List.set_cons_zero])
  refine wpAnyH_ready (rs := [11]) (by kernel_rfl) (by simp) (AllReadyH.cons rfl (fun K hK => ?_) AllReadyH.nil)
  try simp only [List.getElem_toArray, List.getElem_cons_zero, List.getElem_cons_succ]
  go_simp
  refine (H4.out v3 HBv3.out).mono ?_
  rintro e v4 hr4
  obtain ⟨bO, dO, psO, rfl, hk4, hm4, hl4⟩ := RowsR.mk hr4
  have HBv4 := hid0 (Below.later HBv3.out hl4)
  have HBs4 := hid0 hl4
  have HK4 := hid0 hk4
  have HM4 := hid0 hm4
  have hsv4 := HXX.out v4 HBv4.out
  have hY4 := (HBv4.out.block (w.heap.size + 1) (by have := HS0.out; omega)).trans HY0.out
  have HY4 := hid0 hY4
  obtain ⟨y0, y1, y2, y3, y4⟩ := row5 hY4
  obtain ⟨f0, f1, f2, f3, f4⟩ := frz5 hY4
  clear hr4 hk4 hm4 hl4 hY4
  go_wp2_with fail
  refine hK.out _ _ ?_ (fun hHeld11 => ?_)
  · exact hsv4
  clear hK K
  (try simp only [Act.put]); (try simp only [List.setIfInBounds_toArray]); (try simp only [List.set_cons_succ]); (try simp only [List.set_cons_zero])
  refine tkV (i := 14) (d := some 17) (v := ?_) rfl (by kernel_rfl) (by kernel_rfl) (by kernel_rfl) rfl (fun _ _ _ h => h) (by rfl) ?_ (by assumption) ?_
  rotate_left
  · (intro w hSw; (try dsimp only at hSw); (try simp only [List.getElem_toArray, List.getElem_cons_zero, List.getElem_cons_succ]); go_simp; try with_reducible rfl)
  try simp only [Act.put, List.setIfInBounds_toArray, List.set_cons_zero, List.set_cons_succ]
  refine wpAnyH_ready (rs := [15]) (by kernel_rfl) (by simp) (AllReadyH.cons rfl (fun K hK => ?_) AllReadyH.nil)
  try simp only [List.getElem_toArray, List.getElem_cons_zero, List.getElem_cons_succ]
  go_simp
  refine hK.out _ _ ?_ (fun hHeld15 => ?_)
  · exact row5 ((set5_other (X := w.heap.size + 1) (k := w.heap.size) (by omega) (.slice (some ⟨bL, 0, none⟩) Le.length dL) (.slice (some ⟨bF, 0, none⟩) Fi.length dF) (.slice (some ⟨bA, 0, none⟩) La.length dA) (.slice (some ⟨bO, 0, none⟩) Fo.length dO) (.bool em)).trans ((HBv4.out.block w.heap.size (by have := HS0.out; omega)).trans HX0.out))
  clear hK K
  (try simp only [Act.put]); (try simp only [List.setIfInBounds_toArray]); (try simp only [List.set_cons_succ]); (try simp only [List.set_cons_zero])
  refine wpAnyH_done (by kernel_rfl) ?_ _
  refine NoPanic.normal ?_
  obtain ⟨V5, hV5⟩ : ∃ V5, V5 = set5 v4 (w.heap.size + 1) (.slice (some ⟨bL, 0, none⟩) Le.length dL) (.slice (some ⟨bF, 0, none⟩) Fi.length dF) (.slice (some ⟨bA, 0, none⟩) La.length dA) (.slice (some ⟨bO, 0, none⟩) Fo.length dO) (.bool em) := ⟨_, rfl⟩
  obtain ⟨k0, k1, k2, k3, k4⟩ := row5 (hV5 ▸ set5_row HY4.out (.slice (some ⟨bL, 0, none⟩) Le.length dL) (.slice (some ⟨bF, 0, none⟩) Fi.length dF) (.slice (some ⟨bA, 0, none⟩) La.length dA) (.slice (some ⟨bO, 0, none⟩) Fo.length dO) (.bool em))
  have HKp : Hid (∀ k, w0.heap.size ≤ k → V5.heap[k]? = v4.heap[k]?) := hid0 (fun k hk => by rw [hV5]; exact set5_other (by have := HS0.out; omega) (.slice (some ⟨bL, 0, none⟩) Le.length dL) (.slice (some ⟨bF, 0, none⟩) Fi.length dF) (.slice (some ⟨bA, 0, none⟩) La.length dA) (.slice (some ⟨bO, 0, none⟩) Fo.length dO) (.bool em))
  have HSz : Hid (V5.heap.size = v4.heap.size) := hid0 (by rw [hV5, set5_size])
  have HR : Hid (LentR w Le Fo Fi La em (.returned (.agg #[.slice (some ⟨bL, 0, none⟩) Le.length dL, .slice (some ⟨bF, 0, none⟩) Fi.length dF, .slice (some ⟨bA, 0, none⟩) La.length dA, .slice (some ⟨bO, 0, none⟩) Fo.length dO, .bool em])) V5) := hid0 (by
    have q1 := HBv1.out.size
    have q2 := HBs2.out.size
    have q3 := HBs3.out.size
    have q4 := HBs4.out.size
    have q0 := HS0.out
    refine ⟨bL, dL, bF, dF, bA, dA, bO, dO, psL, psO, v1.heap.size, v2.heap.size, v3.heap.size, rfl, HM1.out, HM4.out, ⟨?_, ?_, ?_⟩, ⟨?_, ?_, ?_⟩, ?_⟩
    · exact ((HK1.out.past (Below.later (Below.later HBs2.out HBs3.out) HBs4.out)).kept (by rw [HSz.out]; exact Nat.le_refl _) (fun k hk => HKp.out k (by have := HD.out.size; omega))).lower (by have := HD.out.size; omega)
    · exact HK1.out.lt.2
    · exact fun x hx g hg => (HK1.out.pile.blk hx hg).2
    · exact ⟨(HQ2.out.past (Below.later HBs3.out HBs4.out)).kept (by omega) HKp.out, (World.ownsRow.lt HQ2.out bF rfl).2⟩
    · exact ⟨(HQ3.out.past HBs4.out).kept (by omega) HKp.out, (World.ownsRow.lt HQ3.out bA rfl).2⟩
    · exact HK4.out.kept (by rw [HSz.out]; exact Nat.le_refl _) (fun k hk => HKp.out k (by omega))
    · rw [hV5]; exact set5_below (Below.later HB0.out HBv4.out) (by omega) (.slice (some ⟨bL, 0, none⟩) Le.length dL) (.slice (some ⟨bF, 0, none⟩) Fi.length dF) (.slice (some ⟨bA, 0, none⟩) La.length dA) (.slice (some ⟨bO, 0, none⟩) Fo.length dO) (.bool em))
  unfold set5 at hV5
  rw [← hV5]
  clear hV5
  go_wp2
  exact bodyPost_ret (v := .agg #[.slice (some ⟨bL, 0, none⟩) Le.length dL, .slice (some ⟨bF, 0, none⟩) Fi.length dF, .slice (some ⟨bA, 0, none⟩) La.length dA, .slice (some ⟨bO, 0, none⟩) Fo.length dO, .bool em]) (by simp [results, Tryd.results13, go_sem, k0, k1, k2, k3, k4]) rfl HR.out
end Go.Proofs.YtlkgghbdgjomkaaDoor
