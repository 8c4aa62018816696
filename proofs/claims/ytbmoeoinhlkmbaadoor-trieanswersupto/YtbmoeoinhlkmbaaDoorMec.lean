/-
  TrPW, TrQW, TrRM, TrSM, TrUM, TwAW, TwCW, TwDW, TwBM, TwEW, TwHM.
-/
import Derived.Test.YtbmoeoinhlkmbaaDoorMeb
namespace Go.Proofs.YtbmoeoinhlkmbaaDoor
open Go.RowKit Go.Shelf Go.Lib Go.Maps
attribute [local go_sem] Oper.semAt_some
/-- What All answers. -/
def AllR (w : World) (L : List Fd) (r : Ending) (w' : World) : Prop := ∃ v, r = .returned v ∧ OwnF w' w.heap.size v L ∧ Below w.heap.size w w'
set_option maxRecDepth 100000 in
set_option maxHeartbeats 2000000 in
theorem all_any {w : World} {lo hi T : Nat} {E : List (List Int)} {bk : List Int → Nat} {mp : List Int → Option Nat} (l : List Int) (a : Option Addr) (ca : Nat) (h : TrieAt w lo hi T E bk mp) (hG : Good E) (ha : IA w a l) (hI : ∀ c ∈ l, inI c) (hl : l.length ≤ 1000000000) (hh : hi ≤ w.heap.size) (_hE : E.length ≤ 1000000) :
    Calls Tryd.prog 8 #[.pointer (some ⟨T, 0, none⟩), .slice a l.length ca] w fun e w' => AllR w (allK E l l.length) e w' := by
  obtain ⟨i0, hi0, hz0, hz1, hz2⟩ := info_parts infoF
  obtain ⟨w0, hw0⟩ : ∃ w0, w0 = w.alloc (.cells #[.slice none 0 0] 36) := ⟨_, rfl⟩
  have hb0 : Below w.heap.size w w0 := by rw [hw0]; exact (Below.refl _ _).alloc (Nat.le_refl _) _
  have HJ0 : Hid (AJ w w0 lo hi T E bk mp (.slice none 0 0) []) := hid0 ⟨by rw [hw0]; exact heap_alloc_new _ _, World.ownsRow_nil _ _ _ _, Tr.past h hb0, hb0, hh⟩
  have HA : Hid (∀ V : World, Below w.heap.size w V → IA V a l) := hid0 (fun V hV => ha.past hV)
  have HI := hid0 hI
  have HG := hid0 hG
  have HRb := hid0 h.rb
  have hfold := hw0.symm
  clear h hG ha hI hw0 hb0
  refine (callsIn_wide (n := 8)).1 ?_
  refine callsIn_of_wp_marks Tryd.func8 rfl trivial ?_ rfl
  simp only [Tryd.ntmps8, List.size_toArray, List.length_cons, List.length_nil, Nat.reduceAdd, Nat.reduceSub, Array.replicate_succ, Array.replicate_zero, List.push_toArray, List.append_toArray, List.nil_append, List.cons_append]
  gi_wp2
  refine wpIn_loop (fun a' W => ∃ (k bq : Nat) (v : Value) (ds : List Nat) (u7 u8 u9 u16 u17 u18 u19 u20 u21 u22 u23 u24 u25 u26 u27 u28 u29 u30 u31 u32 u33 u34 u35 u36 u37 u38 u39 u40 u41 u42 u43 u44 : Value), k ≤ l.length ∧ Hid (bq = bk (lsf (begB E) (l.take k))) ∧ Hid (AJ w W lo hi T E bk mp v (allK E l k)) ∧ Hid ((∀ d ∈ ds, w.heap.size ≤ d ∧ W.heap[d]? = some (.deferred (some []))) ∧ ds.Nodup) ∧ a' = { tmps := #[.pointer (some ⟨T, 0, none⟩), .slice a l.length ca, undef, undef, .slice none 0 0, .pointer (some ⟨w.heap.size, 0, none⟩), .pointer (some ⟨bq, 0, none⟩), u7, u8, u9, .pointer (some ⟨T, 0, none⟩), .pointer (some ⟨T, 0, none⟩), .pointer (some ⟨T, 0, none⟩), .slice a l.length ca, .int .i64 (l.length : Int), .int .i64 (k : Int), u16, u17, u18, u19, u20, u21, u22, u23, u24, u25, u26, u27, u28, u29, u30, u31, u32, u33, u34, u35, u36, u37, u38, u39, u40, u41, u42, u43, u44, undef], defers := ds.map markD }) (fun a' _ => l.length - (intOf (a'.tmps.getD 15 undef)).toNat) ?_ ?_
  · exact ⟨0, T, .slice none 0 0, [], _, _, _, _, _, _, _, _, _, _, _, _, _, _, _, _, _, _, _, _, _, _, _, _, _, _, _, _, _, _, _, _, Nat.zero_le _, hid0 (by rw [List.take_zero]; exact HRb.out.symm), HJ0, hid0 ⟨(fun _ hd => nomatch hd), List.nodup_nil⟩, rfl⟩
  rintro a' wr ⟨k, bq, v, ds, u7, u8, u9, u16, u17, u18, u19, u20, u21, u22, u23, u24, u25, u26, u27, u28, u29, u30, u31, u32, u33, u34, u35, u36, u37, u38, u39, u40, u41, u42, u43, u44, hk, HBq, HJ, HM, rfl⟩
  clear hfold HJ0
  by_cases hlt : k < l.length
  · obtain ⟨b, off, rfl, hbl, hce⟩ := (HA.out wr HJ.out.bel).at' k hlt
    have hkI : (k : Int) < (l.length : Int) := by omega
    have hkI0 : (0 : Int) ≤ (k : Int) := by omega
    have HTs := hid0 (take_snoc hlt)
    obtain ⟨w1, hw1⟩ : ∃ w1, w1 = wr.alloc (.cells #[.int .i64 (k : Int)] 3) := ⟨_, rfl⟩
    have hb1 : Below wr.heap.size wr w1 := by rw [hw1]; exact (Below.refl _ _).alloc (Nat.le_refl _) _
    have hs1 : w1.heap.size = wr.heap.size + 1 := by rw [hw1]; simp
    have HR1 : Hid (w1.heap[wr.heap.size]? = some (.cells #[.int .i64 (k : Int)] 3 (0, 0))) := hid0 (by rw [hw1]; exact heap_alloc_new _ _)
    have HJ1 := hid0 (HJ.out.past hb1)
    have HM1 : Hid (∀ d ∈ ds, w1.heap[d]? = some (.deferred (some []))) := hid0 (fun d hd => (hb1.block d (Array.getElem?_eq_some_iff.1 (HM.out.1 d hd).2).1).trans (HM.out.1 d hd).2)
    have HLt : Hid (w.heap.size < wr.heap.size ∧ w1.heap.size = wr.heap.size + 1 ∧ (∀ d ∈ ds, d < wr.heap.size) ∧ (∀ g, v.ownBlock = some g → g < wr.heap.size)) := hid0 ⟨HJ.out.lt, hs1, fun d hd => (Array.getElem?_eq_some_iff.1 (HM.out.1 d hd).2).1, fun g hg => (World.ownsRow.lt HJ.out.own g hg).2⟩
    have HST : Hid (Calls Tryd.prog 22 #[.pointer (some ⟨T, 0, none⟩), .pointer (some ⟨bq, 0, none⟩), .int .i64 l[k]] w1 fun e w' => e = .returned (.pointer (some ⟨bk (lsf (begB E) (l.take (k + 1))), 0, none⟩)) ∧ w' = w1) := hid0 (by
      have h := step_any (some (lsf (begB E) (l.take k))) l[k] (lsf (begB E) (l.take k)).length HJ1.out.tr (HI.out _ (List.getElem_mem hlt)) (fun _ _ _ => rfl) (fun p hp => by injection hp with hp; rw [← hp]; exact ⟨lsf_ok (begB_nil E) _, Nat.le_refl _⟩)
      rw [show ptr (Option.map bk (some (lsf (begB E) (l.take k)))) = .pointer (some ⟨bk (lsf (begB E) (l.take k)), 0, none⟩) from rfl, ← HBq.out] at h
      rw [HTs.out, lsf_snoc (fun _ _ => begB_front)]
      exact h)
    have HEn := hid0 (ends_lsf (P := begB E) (fun _ he => begB_mem he) (l.take (k + 1)))
    have hfold := hw1.symm
    clear hw1 hb1 hs1
    generalize l[k] = c at *
    gi_wp2_with (refine ⟨trivial, ?_⟩; gi_at_call 22; refine (callsIn_wide.2 HST.out).mono ?_; rintro e w2 ⟨rfl, hw⟩; have hw := hw.symm; subst hw)
    clear hfold
    refine wpIn_rangeEnds' 9 8 (by omega) (lsf (begB E) (l.take (k + 1))) (lsf_ok (begB_nil E) _) HG.out.ne rfl (fun pre W => ∃ v : Value, AJ w W lo hi T E bk mp v (allK E l k ++ pre.map (fdF E k)) ∧ W.heap[wr.heap.size]? = some (.cells #[.int .i64 (k : Int)] 3 (0, 0)) ∧ (∀ d ∈ ds, W.heap[d]? = some (.deferred (some []))) ∧ (∀ g, v.ownBlock = some g → g ≠ w1.heap.size ∧ g ≠ w1.heap.size + 1)) ?keep (fun pre A h => h.choose_spec.1.tr) ⟨v, by simpa using HJ1.out, HR1.out, HM1.out, fun g hg => by have := HLt.out; have := this.2.2.2 g hg; omega⟩ ?assign ?body ?done
    case keep =>
      rintro pre A B ⟨v, h1, h2, h3, h4⟩ ho
      have hl := HLt.out
      exact ⟨v, h1.only ho (fun k hk => by omega) (fun g hg q => by have := h4 g hg; omega), (ho.block _ (Array.getElem?_eq_some_iff.1 h2).1 (by omega)).trans h2, fun d hd => (ho.block _ (Array.getElem?_eq_some_iff.1 (h3 d hd)).1 (by have := hl.2.2.1 d hd; omega)).trans (h3 d hd), h4⟩
    case assign =>
      intro q b' W K hK
      simp only [actP, List.setIfInBounds_toArray, List.set_cons_succ, List.set_cons_zero] at hK ⊢
      gi_wp2
      exact hK
    case body =>
      rintro q pre x W ⟨v2, h1, h2, h3, h4⟩ hx ⟨r, hr⟩ hsz ⟨hd1, rc, hd2⟩
      simp only [actP, List.setIfInBounds_toArray, List.set_cons_succ, List.set_cons_zero]
      have hxl := (chkN_none (HG.out.chk x hx)).2.1
      have n1 := (Tr.nd h1.tr x (begB_mem hx)).cells.2.1
      have n3 := (Tr.nd h1.tr x (begB_mem hx)).cells.2.2.2.1
      rw [show enE E x = (numF E x : Int) from if_pos hx] at n3
      have c7 : W.cell? ⟨wr.heap.size, 0, none⟩ = some (.int .i64 (k : Int)) := by rw [cell_of_row _ _ _ _ _ _ h2]; rfl
      have c5 : W.cell? ⟨w.heap.size, 0, none⟩ = some v2 := by rw [cell_of_row _ _ _ _ _ _ h1.box]; rfl
      have hne : v2.ownBlock ≠ some wr.heap.size := fun e => by
        obtain ⟨cur, fr, hr2⟩ := h1.row e
        rw [h2] at hr2
        injection hr2 with hr2
        injection hr2 with _ hr2
        cases hr2
      have hbx := Tr.lh h1.tr x (begB_mem hx)
      have HLn : Hid ((allK E l k ++ pre.map (fdF E k)).length ≤ 32 * 1000000000 + 32) := hid0 (by
        have q1 := allK_len HG.out.len l k
        have q2 := ends_32 HG.out.len (lsf (begB E) (l.take (k + 1)))
        rw [← hr] at q2
        simp only [List.length_append, List.length_cons] at q2
        rw [List.length_append, List.length_map]
        omega)
      have HSv : Hid (∀ V : World, Only W V (fun k => k = w.heap.size ∨ v2.ownBlock = some k) → (fun V => V.cell? ⟨bk x, 3, none⟩ = some (.int .i64 (numF E x : Int)) ∧ V.cell? ⟨bk x, 1, none⟩ = some (.int .i64 (x.length : Int)) ∧ V.cell? ⟨wr.heap.size, 0, none⟩ = some (.int .i64 (k : Int))) V) := hid0 (fun V hV => by
        have hl := HLt.out
        have hb : ¬ (bk x = w.heap.size ∨ v2.ownBlock = some (bk x)) := by
          rintro (e | e)
          · omega
          · have := (World.ownsRow.lt h1.own _ e).1; omega
        exact ⟨(hV.cell (p := ⟨bk x, 3, none⟩) (World.block_lt_of_cell? _ _ n3) hb).trans n3, (hV.cell (p := ⟨bk x, 1, none⟩) (World.block_lt_of_cell? _ _ n1) hb).trans n1, (hV.cell (p := ⟨wr.heap.size, 0, none⟩) (World.block_lt_of_cell? _ _ c7) (by rintro (e | e); (· show False; simp only at e; omega); exact hne e)).trans c7⟩)
      have HBa : Hid (Below W.heap.size W (W.drew.alloc (.cells #[.int .i64 (numF E x : Int), .int .i64 ((k : Int) + 1 - (x.length : Int)), .int .i64 ((k : Int) + 1)] 35))) := hid0 ((show Below W.heap.size W W.drew from ⟨rfl, rfl, rfl, Nat.le_refl _, fun _ _ => rfl⟩).alloc (Nat.le_refl _) _)
      have HOa : Hid (Only W (W.drew.alloc (.cells #[.int .i64 (numF E x : Int), .int .i64 ((k : Int) + 1 - (x.length : Int)), .int .i64 ((k : Int) + 1)] 35)) (fun k => k = w.heap.size ∨ v2.ownBlock = some k)) := hid0 (Only.ofNew HBa.out _)
      have c5' : W.drew.cell? ⟨w.heap.size, 0, none⟩ = some v2 := c5
      have c5a : (W.drew.alloc (.cells #[.int .i64 (numF E x : Int), .int .i64 ((k : Int) + 1 - (x.length : Int)), .int .i64 ((k : Int) + 1)] 35)).cell? ⟨w.heap.size, 0, none⟩ = some v2 := (HBa.out.cell (p := ⟨w.heap.size, 0, none⟩) (World.block_lt_of_cell? _ _ c5)).trans c5
      have c5b : (W.alloc (.cells #[.int .i64 (numF E x : Int), .int .i64 ((k : Int) + 1 - (x.length : Int)), .int .i64 ((k : Int) + 1)] 35)).cell? ⟨w.heap.size, 0, none⟩ = some v2 := c5a
      have hw1 : IntKind.i64.wrap ((k : Int) + 1) = (k : Int) + 1 := by simp [IntKind.wrap, IntKind.bits, IntKind.signed]; omega
      have hw2 : IntKind.i64.wrap ((k : Int) + 1 - (x.length : Int)) = (k : Int) + 1 - (x.length : Int) := by simp [IntKind.wrap, IntKind.bits, IntKind.signed]; omega
      have HFin : Hid (∀ (v3 : Value) (V : World), AJ w V lo hi T E bk mp v3 (allK E l k ++ pre.map (fdF E k) ++ [fdF E k x]) → Only W V (fun k => k = w.heap.size ∨ v2.ownBlock = some k) → (∃ v : Value, AJ w V lo hi T E bk mp v (allK E l k ++ (pre ++ [x]).map (fdF E k)) ∧ V.heap[wr.heap.size]? = some (.cells #[.int .i64 (k : Int)] 3 (0, 0)) ∧ (∀ d ∈ ds, V.heap[d]? = some (.deferred (some []))) ∧ (∀ g, v.ownBlock = some g → g ≠ w1.heap.size ∧ g ≠ w1.heap.size + 1)) ∧ Only W V (fun k => k ≠ w1.heap.size ∧ k ≠ w1.heap.size + 1)) := hid0 (fun v3 V hj ho => by
        have hl := HLt.out
        have hS : ∀ k, (k = w.heap.size ∨ v2.ownBlock = some k) → k ≠ w1.heap.size ∧ k ≠ w1.heap.size + 1 := by
          rintro k (e | e)
          · omega
          · exact h4 k e
        have hk1 := (ho.block w1.heap.size (by omega) (fun q => (hS _ q).1 rfl)).trans hd1
        have hk2 := (ho.block (w1.heap.size + 1) (by omega) (fun q => (hS _ q).2 rfl)).trans hd2
        refine ⟨⟨v3, by rw [List.map_append, ← List.append_assoc]; exact hj, (ho.block _ (Array.getElem?_eq_some_iff.1 h2).1 (by rintro (e | e); (· omega); exact hne e)).trans h2, fun d hd => (ho.block _ (Array.getElem?_eq_some_iff.1 (h3 d hd)).1 (by
          rintro (e | e)
          · have := hl.2.2.1 d hd; have := HM.out.1 d hd; subst e; have hq := h3 _ hd; rw [h1.box] at hq; cases hq
          · obtain ⟨cur, fr, hr2⟩ := h1.row e; rw [h3 d hd] at hr2; cases hr2)).trans (h3 d hd), fun g hg => ?_⟩, ho.mono hS⟩
        obtain ⟨cur, fr, hr2⟩ := hj.row hg
        refine ⟨fun e => ?_, fun e => ?_⟩
        · rw [e, hk1] at hr2; cases hr2
        · rw [e, hk2] at hr2; cases hr2)
      obtain ⟨av, cv, hvf⟩ := h1.form
      subst hvf
      have HJx := hid0 h1
      generalize hL2 : allK E l k ++ pre.map (fdF E k) = L2 at *
      have HOk : Hid (W.drew.ownsRow (w.heap.size + 1) 35 3 (.slice av L2.length cv) L2.length (cellsF L2)) := hid0 (own_blk HJx.out.own (fun _ _ => rfl))
      have HL2 := hid0 hL2
      clear hL2 h1 h2 h3 h4 hd1 hd2 hr hne hbx n1 n3 c7 hx
      generalize hn2 : L2.length = n2 at *
      have HN2 := hid0 hn2
      clear hn2
      gi_wp2
      refine wpIn_region_round (S := (fun V => V.cell? ⟨bk x, 3, none⟩ = some (.int .i64 (numF E x : Int)) ∧ V.cell? ⟨bk x, 1, none⟩ = some (.int .i64 (x.length : Int)) ∧ V.cell? ⟨wr.heap.size, 0, none⟩ = some (.int .i64 (k : Int)))) (by kernel_rfl) (by kernel_rfl) ?_ (fun hHeld => ?_)
      · exact HSv.out W.drew (Only.drewN W 1 _)
      refine tkV (i := 1) (d := some 28) (v := ?_) rfl (by kernel_rfl) (by kernel_rfl) (by kernel_rfl) rfl (fun _ _ _ h => h) (by rfl) ?_ (by assumption) ?_
      rotate_left
      · (intro w hSw; (try dsimp only at hSw); (try simp only [List.getElem_toArray, List.getElem_cons_zero, List.getElem_cons_succ]); go_simp; try with_reducible rfl)
      try simp only [Act.put, List.setIfInBounds_toArray, List.set_cons_zero, List.set_cons_succ]
      refine tkV (i := 2) (d := some 29) (v := ?_) rfl (by kernel_rfl) (by kernel_rfl) (by kernel_rfl) rfl (fun _ _ _ h => h) (by rfl) ?_ (by assumption) ?_
      rotate_left
      · (intro w hSw; (try dsimp only at hSw); (try simp only [List.getElem_toArray, List.getElem_cons_zero, List.getElem_cons_succ]); go_simp; try with_reducible rfl)
      try simp only [Act.put, List.setIfInBounds_toArray, List.set_cons_zero, List.set_cons_succ]
      refine tkV (i := 3) (d := some 30) (v := ?_) rfl (by kernel_rfl) (by kernel_rfl) (by kernel_rfl) rfl (fun _ _ _ h => h) (by rfl) ?_ (by assumption) ?_
      rotate_left
      · (intro w hSw; (try dsimp only at hSw); (try simp only [List.getElem_toArray, List.getElem_cons_zero, List.getElem_cons_succ]); go_simp; try with_reducible rfl)
      try simp only [Act.put, List.setIfInBounds_toArray, List.set_cons_zero, List.set_cons_succ]
      refine tkV (i := 4) (d := some 31) (v := ?_) rfl (by kernel_rfl) (by kernel_rfl) (by kernel_rfl) rfl (fun _ _ _ h => h) (by rfl) ?_ (by assumption) ?_
      rotate_left
      · (intro w hSw; (try dsimp only at hSw); (try simp only [List.getElem_toArray, List.getElem_cons_zero, List.getElem_cons_succ]); go_simp; try with_reducible rfl)
      try simp only [Act.put, List.setIfInBounds_toArray, List.set_cons_zero, List.set_cons_succ]
      refine tkV (i := 5) (d := some 32) (v := ?_) rfl (by kernel_rfl) (by kernel_rfl) (by kernel_rfl) rfl (fun _ _ _ h => h) (by rfl) ?_ (by assumption) ?_
      rotate_left
      · (intro w hSw; (try dsimp only at hSw); (try simp only [List.getElem_toArray, List.getElem_cons_zero, List.getElem_cons_succ]); go_simp; try with_reducible rfl)
      try simp only [Act.put, List.setIfInBounds_toArray, List.set_cons_zero, List.set_cons_succ]
      refine tkV (i := 6) (d := some 33) (v := ?_) rfl (by kernel_rfl) (by kernel_rfl) (by kernel_rfl) rfl (fun _ _ _ h => h) (by rfl) ?_ (by assumption) ?_
      rotate_left
      · (intro w hSw; (try dsimp only at hSw); (try simp only [List.getElem_toArray, List.getElem_cons_zero, List.getElem_cons_succ]); go_simp; try with_reducible rfl)
      try simp only [Act.put, List.setIfInBounds_toArray, List.set_cons_zero, List.set_cons_succ]
      refine tkV (i := 7) (d := some 34) (v := ?_) rfl (by kernel_rfl) (by kernel_rfl) (by kernel_rfl) rfl (fun _ _ _ h => h) (by rfl) ?_ (by assumption) ?_
      rotate_left
      · (intro w hSw; (try dsimp only at hSw); (try simp only [List.getElem_toArray, List.getElem_cons_zero, List.getElem_cons_succ]); go_simp; try with_reducible rfl)
      try simp only [Act.put, List.setIfInBounds_toArray, List.set_cons_zero, List.set_cons_succ]
      refine tkV (i := 8) (d := some 35) (v := ?_) rfl (by kernel_rfl) (by kernel_rfl) (by kernel_rfl) rfl (fun _ _ _ h => h) (by rfl) ?_ (by assumption) ?_
      rotate_left
      · (intro w hSw; (try dsimp only at hSw); (try simp only [List.getElem_toArray, List.getElem_cons_zero, List.getElem_cons_succ]); go_simp; try with_reducible rfl)
      try simp only [Act.put, List.setIfInBounds_toArray, List.set_cons_zero, List.set_cons_succ]
      refine tkV (i := 9) (d := some 36) (v := ?_) rfl (by kernel_rfl) (by kernel_rfl) (by kernel_rfl) rfl (fun _ _ _ h => h) (by rfl) ?_ (by assumption) ?_
      rotate_left
      · (intro w hSw; (try dsimp only at hSw); (try simp only [List.getElem_toArray, List.getElem_cons_zero, List.getElem_cons_succ]); go_simp; try with_reducible rfl)
      try simp only [Act.put, List.setIfInBounds_toArray, List.set_cons_zero, List.set_cons_succ]
      refine tkV (i := 10) (d := some 37) (v := ?_) rfl (by kernel_rfl) (by kernel_rfl) (by kernel_rfl) rfl (fun _ _ _ h => h) (by rfl) ?_ (by assumption) ?_
      rotate_left
      · (intro w hSw; (try dsimp only at hSw); (try simp only [List.getElem_toArray, List.getElem_cons_zero, List.getElem_cons_succ]); go_simp; try with_reducible rfl)
      try simp only [Act.put, List.setIfInBounds_toArray, List.set_cons_zero, List.set_cons_succ]
      refine tkV (i := 11) (d := some 38) (v := ?_) rfl (by kernel_rfl) (by kernel_rfl) (by kernel_rfl) rfl (fun _ _ _ h => h) (by rfl) ?_ (by assumption) ?_
      rotate_left
      · (intro w hSw; (try dsimp only at hSw); (try simp only [List.getElem_toArray, List.getElem_cons_zero, List.getElem_cons_succ]); go_simp; try with_reducible rfl)
      try simp only [Act.put, List.setIfInBounds_toArray, List.set_cons_zero, List.set_cons_succ]
      refine tkV (i := 12) (d := some 39) (v := ?_) rfl (by kernel_rfl) (by kernel_rfl) (by kernel_rfl) rfl (fun _ _ _ h => h) (by rfl) ?_ (by assumption) ?_
      rotate_left
      · (intro w hSw; (try dsimp only at hSw); (try simp only [List.getElem_toArray, List.getElem_cons_zero, List.getElem_cons_succ]); go_simp; try with_reducible rfl)
      try simp only [Act.put, List.setIfInBounds_toArray, List.set_cons_zero, List.set_cons_succ]
      refine tkV (i := 13) (d := some 40) (v := ?_) rfl (by kernel_rfl) (by kernel_rfl) (by kernel_rfl) rfl (fun _ _ _ h => h) (by rfl) ?_ (by assumption) ?_
      rotate_left
      · (intro w hSw; (try dsimp only at hSw); (try simp only [List.getElem_toArray, List.getElem_cons_zero, List.getElem_cons_succ]); go_simp; try with_reducible rfl)
      try simp only [Act.put, List.setIfInBounds_toArray, List.set_cons_zero, List.set_cons_succ]
      refine tkV (i := 14) (d := some 41) (v := ?_) rfl (by kernel_rfl) (by kernel_rfl) (by kernel_rfl) rfl (fun _ _ _ h => h) (by rfl) ?_ (by assumption) ?_
      rotate_left
      · (intro w hSw; (try dsimp only at hSw); (try simp only [List.getElem_toArray, List.getElem_cons_zero, List.getElem_cons_succ]); go_simp; try with_reducible rfl)
      try simp only [Act.put, List.setIfInBounds_toArray, List.set_cons_zero, List.set_cons_succ]
      refine wpAnyH_ready (rs := [0, 15]) (by kernel_rfl) (by simp) (AllReadyH.cons rfl (fun K hK => ?_) (AllReadyH.cons rfl (fun K hK => ?_) AllReadyH.nil))
      · try simp only [List.getElem_toArray, List.getElem_cons_zero]
        go_simp
        refine hK.out _ _ ?_ (fun hHeld0 => ?_)
        · exact HSv.out W.drew (Only.drewN W 1 _)
        clear hK K
        (try simp only [Act.put]); (try simp only [List.setIfInBounds_toArray]); (try simp only [List.set_cons_succ]); (try simp only [List.set_cons_zero])
        refine wpAnyH_ready (rs := [15]) (by kernel_rfl) (by simp) (AllReadyH.cons rfl (fun K hK => ?_) AllReadyH.nil)
        try simp only [List.getElem_toArray, List.getElem_cons_zero, List.getElem_cons_succ]
        go_simp
        refine hK.out _ _ ?_ (fun hHeld15 => ?_)
        · exact HSv.out _ HOa.out
        clear hK K
        (try simp only [Act.put]); (try simp only [List.setIfInBounds_toArray]); (try simp only [List.set_cons_succ]); (try simp only [List.set_cons_zero])
        refine wpAnyH_ready (rs := [16]) (by kernel_rfl) (by simp) (AllReadyH.cons rfl (fun K hK => ?_) AllReadyH.nil)
        refine step_append_lies _ (by rfl) _ _ _ (by rfl) (w.heap.size + 1) 35 i0 (.agg #[.int .i64 0, .int .i64 0, .int .i64 0]) 3 24 Tryd.underlying36 hi0 hz0 hz1 hz2 rfl (by decide) (.slice av n2 cv) n2 (cellsF L2) (by rfl) (World.ownsRow.alloc HOk.out _) ⟨W.heap.size, 0, none⟩ 1 1 [.int .i64 (numF E x : Int), .int .i64 ((k : Int) + 1 - (x.length : Int)), .int .i64 ((k : Int) + 1)] (by rfl) (by rfl) (World.news_of_block (cs := #[.int .i64 (numF E x : Int), .int .i64 ((k : Int) + 1 - (x.length : Int)), .int .i64 ((k : Int) + 1)]) (t := 35) (fr := (0, 0)) (heap_alloc_new W.drew _)) (by simp [Value.oneCell']) (by omega) (by unfold maxLen; have := HLn.out; omega) (by have := HLn.out; omega) (by have := HLt.out; simp; omega) (W.heap.size + 1) (by simp) ?_
        intro g2 cap2 w2 hown2 hgrow2 _ _
        have HN := hid0 (HJx.out.snoc (f := fdF E k x) HBa.out hgrow2 (by rw [HN2.out]; exact hown2))
        have c2 := HN.out.2.2.1
        have f2 := HN.out.2.2.2
        have HO2 : Hid (Only W w2 (fun k => k = w.heap.size ∨ Value.ownBlock (.slice av n2 cv) = some k)) := hid0 ((Only.ofNew HBa.out (fun k => k = w.heap.size ∨ Value.ownBlock (.slice av n2 cv) = some k)).trans (T := fun k => Value.ownBlock (.slice av n2 cv) = some k) ⟨hgrow2.os, hgrow2.tape, hgrow2.output, hgrow2.size, fun k hk hn => hgrow2.block k hk (fun e => hn e.symm)⟩ (fun i hi => .inl (.inr hi)))
        clear hown2 hgrow2
        refine hK.out _ _ ?_ (fun hHeld16 => ?_)
        · exact HSv.out _ HO2.out
        clear hK K
        (try simp only [Act.put]); (try simp only [List.setIfInBounds_toArray]); (try simp only [List.set_cons_succ]); (try simp only [List.set_cons_zero])
        refine wpAnyH_ready (rs := [17]) (by kernel_rfl) (by simp) (AllReadyH.cons rfl (fun K hK => ?_) AllReadyH.nil)
        try simp only [List.getElem_toArray, List.getElem_cons_zero, List.getElem_cons_succ]
        go_simp
        refine hK.out _ _ ?_ (fun hHeld17 => ?_)
        · exact HSv.out _ HN.out.2.1
        clear hK K
        (try simp only [Act.put]); (try simp only [List.setIfInBounds_toArray]); (try simp only [List.set_cons_succ]); (try simp only [List.set_cons_zero])
        refine wpAnyH_done (by kernel_rfl) ?_ _
        refine NormO.normal ?_
        exact ⟨rfl, HFin.out _ _ HN.out.1 HN.out.2.1⟩
      · try simp only [List.getElem_toArray, List.getElem_cons_zero, List.getElem_cons_succ]
        go_simp
        refine hK.out _ _ ?_ (fun hHeld15 => ?_)
        · exact HSv.out _ HOa.out
        clear hK K
        (try simp only [Act.put]); (try simp only [List.setIfInBounds_toArray]); (try simp only [List.set_cons_succ]); (try simp only [List.set_cons_zero])
        refine wpAnyH_ready (rs := [0]) (by kernel_rfl) (by simp) (AllReadyH.cons rfl (fun K hK => ?_) AllReadyH.nil)
        try simp only [List.getElem_toArray, List.getElem_cons_zero]
        go_simp
        refine hK.out _ _ ?_ (fun hHeld0 => ?_)
        · exact HSv.out _ HOa.out
        clear hK K
        (try simp only [Act.put]); (try simp only [List.setIfInBounds_toArray]); (try simp only [List.set_cons_succ]); (try simp only [List.set_cons_zero])
        refine wpAnyH_ready (rs := [16]) (by kernel_rfl) (by simp) (AllReadyH.cons rfl (fun K hK => ?_) AllReadyH.nil)
        refine step_append_lies _ (by rfl) _ _ _ (by rfl) (w.heap.size + 1) 35 i0 (.agg #[.int .i64 0, .int .i64 0, .int .i64 0]) 3 24 Tryd.underlying36 hi0 hz0 hz1 hz2 rfl (by decide) (.slice av n2 cv) n2 (cellsF L2) (by rfl) (World.ownsRow.alloc HOk.out _) ⟨W.heap.size, 0, none⟩ 1 1 [.int .i64 (numF E x : Int), .int .i64 ((k : Int) + 1 - (x.length : Int)), .int .i64 ((k : Int) + 1)] (by rfl) (by rfl) (World.news_of_block (cs := #[.int .i64 (numF E x : Int), .int .i64 ((k : Int) + 1 - (x.length : Int)), .int .i64 ((k : Int) + 1)]) (t := 35) (fr := (0, 0)) (heap_alloc_new W.drew _)) (by simp [Value.oneCell']) (by omega) (by unfold maxLen; have := HLn.out; omega) (by have := HLn.out; omega) (by have := HLt.out; simp; omega) (W.heap.size + 1) (by simp) ?_
        intro g2 cap2 w2 hown2 hgrow2 _ _
        have HN := hid0 (HJx.out.snoc (f := fdF E k x) HBa.out hgrow2 (by rw [HN2.out]; exact hown2))
        have c2 := HN.out.2.2.1
        have f2 := HN.out.2.2.2
        have HO2 : Hid (Only W w2 (fun k => k = w.heap.size ∨ Value.ownBlock (.slice av n2 cv) = some k)) := hid0 ((Only.ofNew HBa.out (fun k => k = w.heap.size ∨ Value.ownBlock (.slice av n2 cv) = some k)).trans (T := fun k => Value.ownBlock (.slice av n2 cv) = some k) ⟨hgrow2.os, hgrow2.tape, hgrow2.output, hgrow2.size, fun k hk hn => hgrow2.block k hk (fun e => hn e.symm)⟩ (fun i hi => .inl (.inr hi)))
        clear hown2 hgrow2
        refine hK.out _ _ ?_ (fun hHeld16 => ?_)
        · exact HSv.out _ HO2.out
        clear hK K
        (try simp only [Act.put]); (try simp only [List.setIfInBounds_toArray]); (try simp only [List.set_cons_succ]); (try simp only [List.set_cons_zero])
        refine wpAnyH_ready (rs := [17]) (by kernel_rfl) (by simp) (AllReadyH.cons rfl (fun K hK => ?_) AllReadyH.nil)
        try simp only [List.getElem_toArray, List.getElem_cons_zero, List.getElem_cons_succ]
        go_simp
        refine hK.out _ _ ?_ (fun hHeld17 => ?_)
        · exact HSv.out _ HN.out.2.1
        clear hK K
        (try simp only [Act.put]); (try simp only [List.setIfInBounds_toArray]); (try simp only [List.set_cons_succ]); (try simp only [List.set_cons_zero])
        refine wpAnyH_done (by kernel_rfl) ?_ _
        refine NormO.normal ?_
        exact ⟨rfl, HFin.out _ _ HN.out.1 HN.out.2.1⟩
    case done =>
      rintro W ⟨v2, h1, h2, h3, h4⟩ hk2
      have HJ3 : Hid (AJ w W lo hi T E bk mp v2 (allK E l (k + 1))) := hid0 (by rw [HEn.out] at h1; exact h1)
      have HM3 : Hid ((∀ d ∈ w1.heap.size :: ds, w.heap.size ≤ d ∧ W.heap[d]? = some (.deferred (some []))) ∧ (w1.heap.size :: ds).Nodup) := hid0 (by
        have hl := HLt.out
        refine ⟨fun d hd => ?_, List.nodup_cons.2 ⟨fun hd => by have := hl.2.2.1 _ hd; omega, HM.out.2⟩⟩
        rcases List.mem_cons.1 hd with rfl | hd
        · exact ⟨by omega, hk2⟩
        · exact ⟨(HM.out.1 d hd).1, h3 d hd⟩)
      clear h1 h2 h3 h4 hk2
      gi_wp2
      exact ⟨⟨k + 1, _, v2, w1.heap.size :: ds, _, _, _, _, _, _, _, _, _, _, _, _, _, _, _, _, _, _, _, _, _, _, _, _, _, _, _, _, _, _, _, _, hlt, hid0 rfl, HJ3, HM3, rfl⟩, by simp [intOf]; omega⟩
  · have hkI : ¬ (k : Int) < (l.length : Int) := by omega
    have hke : k = l.length := by omega
    have HJe : Hid (AJ w wr lo hi T E bk mp v (allK E l l.length)) := hid0 (by have h := HJ.out; rw [hke] at h; exact h)
    have c5 : wr.cell? ⟨w.heap.size, 0, none⟩ = some v := by rw [cell_of_row _ _ _ _ _ _ HJe.out.box]; rfl
    obtain ⟨av, cv, rfl⟩ := HJe.out.form
    clear hke HJ
    gi_wp2
    refine leaves_marks w.heap.size ds wr HM.out.1 HM.out.2 (fun W hW => ?_)
    refine ⟨_, results_tmp rfl _ _ _, ?_⟩
    have hj := HJe.out.only hW (fun d hd => by
      have h1 := HM.out.1 d hd
      rcases Nat.lt_or_ge w.heap.size d with h2 | h2
      · exact h2
      · have h3 := HJe.out.box
        rw [show w.heap.size = d by omega, h1.2] at h3
        cases h3) (fun g hg hd => by
      obtain ⟨cur, fr, hr⟩ := HJe.out.row hg
      rw [(HM.out.1 g hd).2] at hr
      cases hr)
    exact ⟨_, rfl, owns_lower hj.own (Nat.le_succ _), hj.bel⟩
end Go.Proofs.YtbmoeoinhlkmbaaDoor
namespace Go.Proofs.YtbmoeoinhlkmbaaDoor
open Go.RowKit Go.Shelf Go.Lib Go.Maps
/-- Founds in memory, each where it is asked. -/
structure FA (w : World) (a : Option Addr) (L : List Fd) : Prop where
  at' : ∀ k (h : k < L.length), ∃ b off, a = some ⟨b, off, none⟩ ∧ b < w.heap.size ∧
    w.cell? ⟨b, off + k * 3, none⟩ = some (.int .i64 L[k].1) ∧ w.cell? ⟨b, off + k * 3 + 1, none⟩ = some (.int .i64 L[k].2.1) ∧ w.cell? ⟨b, off + k * 3 + 2, none⟩ = some (.int .i64 L[k].2.2)
theorem FA.past {w w' : World} {a : Option Addr} {L : List Fd} (h : FA w a L) (hb : Below w.heap.size w w') : FA w' a L := ⟨fun k hk => by
  obtain ⟨b, off, rfl, h1, c0, c1, c2⟩ := h.at' k hk
  exact ⟨b, off, rfl, Nat.lt_of_lt_of_le h1 hb.size, (hb.cell (p := ⟨b, off + k * 3, none⟩) h1).trans c0, (hb.cell (p := ⟨b, off + k * 3 + 1, none⟩) h1).trans c1, (hb.cell (p := ⟨b, off + k * 3 + 2, none⟩) h1).trans c2⟩⟩
theorem cellsF_at (L : List Fd) : ∀ (k : Nat) (h : k < L.length), (cellsF L)[k * 3]? = some (.int .i64 L[k].1) ∧ (cellsF L)[k * 3 + 1]? = some (.int .i64 L[k].2.1) ∧ (cellsF L)[k * 3 + 2]? = some (.int .i64 L[k].2.2) := by
  induction L with
  | nil => intro k h; simp at h
  | cons u us ih =>
    intro k h
    have e : cellsF (u :: us) = .int .i64 u.1 :: .int .i64 u.2.1 :: .int .i64 u.2.2 :: cellsF us := rfl
    cases k with
    | zero => rw [e]; simp
    | succ k =>
      have := ih k (by simpa using h)
      rw [e, show (k + 1) * 3 = k * 3 + 1 + 1 + 1 by omega, show k * 3 + 1 + 1 + 1 + 1 = (k * 3 + 1) + 1 + 1 + 1 by omega, show k * 3 + 1 + 1 + 1 + 2 = (k * 3 + 2) + 1 + 1 + 1 by omega]
      simpa using this
theorem OwnF.fa {w : World} {base : Nat} {v : Value} {L : List Fd} (h : OwnF w base v L) : ∃ a cap, v = .slice a L.length cap ∧ FA w a L := by
  have h0 := h
  rcases h.2 with ⟨rfl, hn⟩ | ⟨g, cap, cur, rfl, _⟩
  · exact ⟨none, 0, by rw [hn], ⟨fun k hk => by omega⟩⟩
  · refine ⟨_, cap, rfl, ⟨fun k hk => ⟨g, 0, rfl, (World.ownsRow.lt h0 g rfl).2, ?_⟩⟩⟩
    obtain ⟨a, b, c⟩ := cellsF_at L k hk
    rw [Nat.zero_add, World.ownsRow.cellAt h0 _ (by omega), World.ownsRow.cellAt h0 _ (by omega), World.ownsRow.cellAt h0 _ (by omega)]
    exact ⟨a, b, c⟩
theorem OwnF.past {w w' : World} {base : Nat} {v : Value} {L : List Fd} (h : OwnF w base v L) (hb : Below w.heap.size w w') : OwnF w' base v L := own_blk h (fun k e => hb.block k (World.ownsRow.lt h k e).2)
set_option maxRecDepth 10000 in
set_option maxHeartbeats 400000 in
theorem same_fa (L : List Fd) (a b : Option Addr) (ca cb : Nat) (w : World) (hl : L.length ≤ 140737488355328) (ha : FA w a L) (hb : FA w b L) :
    Calls Tryd.prog 9 #[.slice a L.length ca, .slice b L.length cb] w fun e w' => e = .returned (.bool true) ∧ ∃ q, w' = w.drewN q := by
  have HA := hid0 ha
  have HB := hid0 hb
  clear ha hb
  go_enter Tryd.func9, Tryd.ntmps9
  go_wp2
  go_loopw [5] (fun i wr => ∃ k q : Nat, k ≤ L.length ∧ i = .int .i64 (k : Int) ∧ wr = w.drewN q) (fun i _ => L.length - (intOf i).toNat)
  case atStart => exact ⟨0, 0, Nat.zero_le _, rfl, rfl⟩
  case round =>
    obtain ⟨k, q, hk, rfl, rfl⟩ := hrel
    by_cases hlt : k < L.length
    · obtain ⟨b1, o1, rfl, _, c0, c1, c2⟩ := HA.out.at' k hlt
      obtain ⟨b2, o2, rfl, _, d0, d1, d2⟩ := HB.out.at' k hlt
      generalize L[k] = u at *
      clear HA HB
      go_wp2
      go_quiet ((fail))
      go_wp2
      go_roundw
      case rel => exact ⟨k + 1, _, hlt, by go_num, rfl⟩
      case measure => simp [intOf]; omega
    · have hk2 : ¬ (k : Int) < (L.length : Int) := by omega
      clear HA HB
      go_wp2
      go_ret
      exact ⟨rfl, q, rfl⟩
/-- Numbers that were just laid. -/
theorem ia_new (w : World) (vs : List Int) (o : Obj) (ho : o = .cells (vs.map (Value.int .i64)).toArray 3 (0, 0)) : IA (w.alloc o) (some ⟨w.heap.size, 0, none⟩) vs := ⟨fun k hk => by
  subst ho
  exact ⟨w.heap.size, 0, rfl, by simp, by rw [cell_of_row _ _ _ _ _ _ (heap_alloc_new w _), Nat.zero_add]; simp [hk]⟩⟩
def E0 : List (List Int) := [[97, 98], [98], [97, 98, 99], [99, 97]]
theorem new0 : newE E0 = none := by decide
theorem siz0 : szK E0 E0.length = 6 := by decide
theorem lng0 : lngO E0 [120, 97, 98, 99] 1 = some [97, 98, 99] := by decide
theorem end0 : endO E0 [120, 97, 98, 99] 3 = some [97, 98] := by decide
theorem all0 : allK E0 [97, 98, 99, 97] ([97, 98, 99, 97] : List Int).length = [(0, 0, 2), (1, 1, 2), (2, 0, 3), (3, 2, 4)] := by decide
/-- The four entries, laid. -/
theorem rows0 (w : World) : ∃ w5, ((((w.alloc (.cells #[.int .i64 97, .int .i64 98] 3)).alloc (.cells #[.int .i64 98] 3)).alloc (.cells #[.int .i64 97, .int .i64 98, .int .i64 99] 3)).alloc (.cells #[.int .i64 99, .int .i64 97] 3)).alloc (.cells #[.slice (some ⟨w.heap.size, 0, none⟩) 2 2, .slice (some ⟨w.heap.size + 1, 0, none⟩) 1 1, .slice (some ⟨w.heap.size + 1 + 1, 0, none⟩) 3 3, .slice (some ⟨w.heap.size + 1 + 1 + 1, 0, none⟩) 2 2] 23) = w5 ∧ Below w.heap.size w w5 ∧ RwA w5 (some ⟨w.heap.size + 1 + 1 + 1 + 1, 0, none⟩) E0 := by
  obtain ⟨w1, h1⟩ : ∃ w1, w.alloc (.cells #[.int .i64 97, .int .i64 98] 3) = w1 := ⟨_, rfl⟩
  obtain ⟨w2, h2⟩ : ∃ w2, w1.alloc (.cells #[.int .i64 98] 3) = w2 := ⟨_, rfl⟩
  obtain ⟨w3, h3⟩ : ∃ w3, w2.alloc (.cells #[.int .i64 97, .int .i64 98, .int .i64 99] 3) = w3 := ⟨_, rfl⟩
  obtain ⟨w4, h4⟩ : ∃ w4, w3.alloc (.cells #[.int .i64 99, .int .i64 97] 3) = w4 := ⟨_, rfl⟩
  rw [h1, h2, h3, h4]
  have s1 : w1.heap.size = w.heap.size + 1 := by rw [← h1]; simp
  have s2 : w2.heap.size = w.heap.size + 1 + 1 := by rw [← h2]; simp [s1]
  have s3 : w3.heap.size = w.heap.size + 1 + 1 + 1 := by rw [← h3]; simp [s2]
  have s4 : w4.heap.size = w.heap.size + 1 + 1 + 1 + 1 := by rw [← h4]; simp [s3]
  have b1 : Below w.heap.size w w1 := by rw [← h1]; exact (Below.refl _ _).alloc (Nat.le_refl _) _
  have b2 : Below w1.heap.size w1 w2 := by rw [← h2]; exact (Below.refl _ _).alloc (Nat.le_refl _) _
  have b3 : Below w2.heap.size w2 w3 := by rw [← h3]; exact (Below.refl _ _).alloc (Nat.le_refl _) _
  have b4 : Below w3.heap.size w3 w4 := by rw [← h4]; exact (Below.refl _ _).alloc (Nat.le_refl _) _
  refine ⟨_, rfl, ?_, ?_⟩
  · exact (b1.trans ((b2.trans ((b3.trans (b4.mono (by omega))).mono (by omega))).mono (by omega))).alloc (by omega) _
  · generalize hw5 : w4.alloc (.cells #[.slice (some ⟨w.heap.size, 0, none⟩) 2 2, .slice (some ⟨w.heap.size + 1, 0, none⟩) 1 1, .slice (some ⟨w.heap.size + 1 + 1, 0, none⟩) 3 3, .slice (some ⟨w.heap.size + 1 + 1 + 1, 0, none⟩) 2 2] 23) = w5
    have b5 : Below w4.heap.size w4 w5 := by rw [← hw5]; exact (Below.refl _ _).alloc (Nat.le_refl _) _
    have i1 : IA w5 (some ⟨w.heap.size, 0, none⟩) [97, 98] := ((((by rw [← h1]; exact ia_new w [97, 98] _ rfl : IA w1 (some ⟨w.heap.size, 0, none⟩) [97, 98]).past b2).past b3).past b4).past b5
    have i2 : IA w5 (some ⟨w.heap.size + 1, 0, none⟩) [98] := (((by rw [← h2, ← s1]; exact ia_new w1 [98] _ rfl : IA w2 (some ⟨w.heap.size + 1, 0, none⟩) [98]).past b3).past b4).past b5
    have i3 : IA w5 (some ⟨w.heap.size + 1 + 1, 0, none⟩) [97, 98, 99] := ((by rw [← h3, ← s2]; exact ia_new w2 [97, 98, 99] _ rfl : IA w3 (some ⟨w.heap.size + 1 + 1, 0, none⟩) [97, 98, 99]).past b4).past b5
    have i4 : IA w5 (some ⟨w.heap.size + 1 + 1 + 1, 0, none⟩) [99, 97] := (by rw [← h4, ← s3]; exact ia_new w3 [99, 97] _ rfl : IA w4 (some ⟨w.heap.size + 1 + 1 + 1, 0, none⟩) [99, 97]).past b5
    have hr : w5.heap[w.heap.size + 1 + 1 + 1 + 1]? = some (.cells #[.slice (some ⟨w.heap.size, 0, none⟩) 2 2, .slice (some ⟨w.heap.size + 1, 0, none⟩) 1 1, .slice (some ⟨w.heap.size + 1 + 1, 0, none⟩) 3 3, .slice (some ⟨w.heap.size + 1 + 1 + 1, 0, none⟩) 2 2] 23 (0, 0)) := by
      rw [← hw5, ← s4]
      exact heap_alloc_new _ _
    have hlt := (Array.getElem?_eq_some_iff.1 hr).1
    refine ⟨fun k hk => ⟨_, 0, rfl, hlt, ?_⟩⟩
    rw [cell_of_row _ _ _ _ _ _ hr, Nat.zero_add]
    have hk4 : k < 4 := hk
    rcases (show k = 0 ∨ k = 1 ∨ k = 2 ∨ k = 3 by omega) with rfl | rfl | rfl | rfl
    · exact ⟨_, 2, rfl, i1⟩
    · exact ⟨_, 1, rfl, i2⟩
    · exact ⟨_, 3, rfl, i3⟩
    · exact ⟨_, 2, rfl, i4⟩
theorem fa0 (w : World) : FA (w.alloc (.cells #[.int .i64 0, .int .i64 0, .int .i64 2, .int .i64 1, .int .i64 1, .int .i64 2, .int .i64 2, .int .i64 0, .int .i64 3, .int .i64 3, .int .i64 2, .int .i64 4] 35)) (some ⟨w.heap.size, 0, none⟩) [(0, 0, 2), (1, 1, 2), (2, 0, 3), (3, 2, 4)] := ⟨fun k hk => by
  have hr := heap_alloc_new w (.cells #[.int .i64 0, .int .i64 0, .int .i64 2, .int .i64 1, .int .i64 1, .int .i64 2, .int .i64 2, .int .i64 0, .int .i64 3, .int .i64 3, .int .i64 2, .int .i64 4] 35)
  refine ⟨_, 0, rfl, by simp, ?_⟩
  rw [cell_of_row _ _ _ _ _ _ hr, cell_of_row _ _ _ _ _ _ hr, cell_of_row _ _ _ _ _ _ hr]
  have hk4 : k < 4 := hk
  rcases (show k = 0 ∨ k = 1 ∨ k = 2 ∨ k = 3 by omega) with rfl | rfl | rfl | rfl <;> exact ⟨rfl, rfl, rfl⟩⟩
theorem inI_small {c : Int} (h : 0 ≤ c ∧ c ≤ 1000000) : inI c := by
  simp [inI, Lit.wf, IntKind.min, IntKind.max, IntKind.bits, IntKind.signed]
  omega
end Go.Proofs.YtbmoeoinhlkmbaaDoor
namespace Go.Proofs.YtbmoeoinhlkmbaaDoor
def movF (f : Nat) (x : Fd) : Fd := (x.1, x.2.1 - (f : Int), x.2.2 - (f : Int))
def keepB (f t : Nat) (x : Fd) : Bool := decide ((f : Int) ≤ x.2.1) && decide (x.2.2 ≤ (t : Int))
theorem keepB_iff {f t : Nat} {x : Fd} : keepB f t x = true ↔ (f : Int) ≤ x.2.1 ∧ x.2.2 ≤ (t : Int) := by simp [keepB]
theorem ends_filter (E : List (List Int)) (m : Nat) (q : List Int) : (endsF E q).filter (fun e => decide (e.length ≤ m)) = endsF E (q.drop (q.length - m)) := by
  induction q with
  | nil => simp [endsF]
  | cons x xs ih =>
    by_cases h : (x :: xs).length ≤ m
    · rw [show (x :: xs).length - m = 0 by omega, List.drop_zero, List.filter_eq_self]
      intro e he
      have := (ends_mem he).2.1.length_le
      exact decide_eq_true (by omega)
    · have e1 : (x :: xs).length - m = (xs.length - m) + 1 := by simp only [List.length_cons] at *; omega
      rw [e1, List.drop_succ_cons, ← ih]
      have e2 : endsF E (x :: xs) = if (x :: xs) ∈ E then (x :: xs) :: endsF E xs else endsF E xs := rfl
      rw [e2]
      split
      · rw [List.filter_cons_of_neg (by simp only [decide_eq_true_eq]; exact h)]
      · rfl
theorem part_low {E : List (List Int)} {l : List Int} {k f t : Nat} (h : k < f ∨ t ≤ k) : ((endsF E (l.take (k + 1))).map (fdF E k)).filter (keepB f t) = [] := by
  rw [List.filter_eq_nil_iff]
  intro y hy
  obtain ⟨e, he, rfl⟩ := List.mem_map.1 hy
  have hne := (ends_mem he).2.2
  have hpos : 0 < e.length := List.length_pos_iff.2 hne
  intro h1
  have h2 := keepB_iff.1 h1
  have h3 : (fdF E k e).2.1 = (k : Int) + 1 - (e.length : Int) := rfl
  have h4 : (fdF E k e).2.2 = (k : Int) + 1 := rfl
  omega
theorem part_mid {E : List (List Int)} {l : List Int} {k f t : Nat} (hf : f ≤ k) (ht : k < t) (hk : k < l.length) : (((endsF E (l.take (k + 1))).map (fdF E k)).filter (keepB f t)).map (movF f) = (endsF E (((l.take t).drop f).take (k - f + 1))).map (fdF E (k - f)) := by
  rw [List.filter_map, List.map_map]
  have h1 : (endsF E (l.take (k + 1))).filter (keepB f t ∘ fdF E k) = endsF E ((l.take (k + 1)).drop f) := by
    have h2 := ends_filter E (k + 1 - f) (l.take (k + 1))
    rw [List.length_take, Nat.min_eq_left (by omega), show k + 1 - (k + 1 - f) = f by omega] at h2
    rw [← h2]
    apply List.filter_congr
    intro e he
    have h3 : (fdF E k e).2.1 = (k : Int) + 1 - (e.length : Int) := rfl
    have h4 : (fdF E k e).2.2 = (k : Int) + 1 := rfl
    apply Bool.eq_iff_iff.2
    rw [Function.comp, keepB_iff, decide_eq_true_eq]
    omega
  rw [h1, show ((l.take t).drop f).take (k - f + 1) = (l.take (k + 1)).drop f by
    rw [List.take_drop, List.take_take, show min (f + (k - f + 1)) t = k + 1 by omega]]
  apply List.map_congr_left
  intro e _
  simp only [Function.comp, movF, fdF]
  refine Prod.ext rfl (Prod.ext ?_ ?_)
  · show (k : Int) + 1 - (e.length : Int) - (f : Int) = ((k - f : Nat) : Int) + 1 - (e.length : Int)
    omega
  · show (k : Int) + 1 - (f : Int) = ((k - f : Nat) : Int) + 1
    omega
theorem pieces_upto (E : List (List Int)) (l : List Int) (f t : Nat) (ht : t ≤ l.length) : ∀ k, k ≤ l.length → ((allK E l k).filter (keepB f t)).map (movF f) = allK E ((l.take t).drop f) (min k t - f)
  | 0, _ => by rw [Nat.zero_min, Nat.zero_sub]; rfl
  | k + 1, hk => by
    rw [allK, List.filter_append, List.map_append, pieces_upto E l f t ht k (by omega)]
    by_cases h : k < f ∨ t ≤ k
    · rw [part_low h, List.map_nil, List.append_nil]
      congr 1
      omega
    · rw [part_mid (by omega) (by omega) (by omega), show min (k + 1) t - f = (k - f) + 1 by omega, show min k t - f = k - f by omega]
      rfl
theorem pieces_all (E : List (List Int)) (l : List Int) (f t : Nat) (ht : t ≤ l.length) : ((allK E l l.length).filter (keepB f t)).map (movF f) = allK E ((l.take t).drop f) ((l.take t).drop f).length := by
  rw [pieces_upto E l f t ht l.length (Nat.le_refl _), List.length_drop, List.length_take, Nat.min_comm]
/-- What is wanted of the first k. -/
def wantK (f t : Nat) (L : List Fd) (k : Nat) : List Fd := ((L.take k).filter (keepB f t)).map (movF f)
theorem wantK_yes {f t : Nat} {L : List Fd} {k : Nat} (hk : k < L.length) (h : keepB f t L[k] = true) : wantK f t L (k + 1) = wantK f t L k ++ [movF f L[k]] := by
  unfold wantK
  rw [List.take_add_one, List.getElem?_eq_getElem hk, Option.toList_some, List.filter_append, List.filter_cons_of_pos h, List.map_append]
  rfl
theorem wantK_no {f t : Nat} {L : List Fd} {k : Nat} (hk : k < L.length) (h : keepB f t L[k] = false) : wantK f t L (k + 1) = wantK f t L k := by
  unfold wantK
  rw [List.take_add_one, List.getElem?_eq_getElem hk, Option.toList_some, List.filter_append, List.filter_cons_of_neg (by simp [h]), List.filter_nil, List.append_nil]
theorem wantK_len (f t : Nat) (L : List Fd) (k : Nat) : (wantK f t L k).length ≤ L.length := by
  unfold wantK
  rw [List.length_map]
  exact Nat.le_trans (List.length_filter_le _ _) (by rw [List.length_take]; omega)
/-- How small the numbers of what All tells are. -/
theorem allK_small {E : List (List Int)} {l : List Int} (hl : ∀ e ∈ E, e.length ≤ 32) (hE : E.length ≤ 1000000) : ∀ k, ∀ x ∈ allK E l k, (0 ≤ x.1 ∧ x.1 ≤ 1000000) ∧ (-32 ≤ x.2.1 ∧ x.2.1 ≤ k) ∧ (1 ≤ x.2.2 ∧ x.2.2 ≤ k)
  | 0, x, h => by cases h
  | k + 1, x, h => by
    rcases List.mem_append.1 h with h | h
    · have := allK_small hl hE k x h
      omega
    · obtain ⟨e, he, rfl⟩ := List.mem_map.1 h
      have h1 := hl e (ends_mem he).1
      have h2 := numF_lt (ends_mem he).1
      have h3 : 0 < e.length := List.length_pos_iff.2 (ends_mem he).2.2
      simp only [fdF]
      omega
end Go.Proofs.YtbmoeoinhlkmbaaDoor
namespace Go.Proofs.YtbmoeoinhlkmbaaDoor
/-- Does an entry stand at a place? -/
def stdB (e l : List Int) (a : Nat) : Bool := decide ((l.drop a).take e.length = e)
theorem std_len {e l : List Int} {a : Nat} (h : stdB e l a = true) (he : e ≠ []) : a + e.length ≤ l.length := by
  have h1 := congrArg List.length (of_decide_eq_true h)
  rw [List.length_take, List.length_drop] at h1
  have : 0 < e.length := List.length_pos_iff.2 he
  omega
theorem std_suffix {e l : List Int} {k : Nat} (hk : k < l.length) (hle : e.length ≤ k + 1) : stdB e l (k + 1 - e.length) = true ↔ e <:+ l.take (k + 1) := by
  rw [stdB, decide_eq_true_eq, List.suffix_iff_eq_drop, List.length_take, Nat.min_eq_left (by omega)]
  have h1 : (l.drop (k + 1 - e.length)).take e.length = (l.take (k + 1)).drop (k + 1 - e.length) := by
    rw [List.take_drop, show k + 1 - e.length + e.length = k + 1 by omega]
  rw [h1]
  exact ⟨fun h => h.symm, fun h => h.symm⟩
def cntS (e l : List Int) : Nat → Nat
  | 0 => 0
  | m + 1 => cntS e l m + if stdB e l m = true then 1 else 0
def cntC (e l : List Int) : Nat → Nat
  | 0 => 0
  | k + 1 => cntC e l k + if e <:+ l.take (k + 1) then 1 else 0
def sumE (f : List Int → Nat) : List (List Int) → Nat
  | [] => 0
  | e :: r => f e + sumE f r
theorem sumE_add (f g : List Int → Nat) (E : List (List Int)) : sumE (fun e => f e + g e) E = sumE f E + sumE g E := by
  induction E with
  | nil => rfl
  | cons e r ih => simp only [sumE, ih]; omega
theorem sumE_congr {f g : List Int → Nat} {E : List (List Int)} (h : ∀ e ∈ E, f e = g e) : sumE f E = sumE g E := by
  induction E with
  | nil => rfl
  | cons e r ih =>
    simp only [sumE]
    rw [h e (.head _), ih (fun x hx => h x (.tail _ hx))]
theorem sumE_snoc (f : List Int → Nat) (E : List (List Int)) (e : List Int) : sumE f (E ++ [e]) = sumE f E + f e := by
  induction E with
  | nil => simp [sumE]
  | cons x r ih => simp only [List.cons_append, sumE, ih]; omega
theorem sumE_one (p : List Int → Prop) [DecidablePred p] (E : List (List Int)) : (E.filter fun e => decide (p e)).length = sumE (fun e => if p e then 1 else 0) E := by
  induction E with
  | nil => rfl
  | cons e r ih =>
    by_cases h : p e
    · rw [List.filter_cons_of_pos (by simpa using h), List.length_cons, ih]
      simp only [sumE, if_pos h]
      omega
    · rw [List.filter_cons_of_neg (by simpa using h), ih]
      simp only [sumE, if_neg h]
      omega
theorem ends_dec (E : List (List Int)) (q : List Int) : (endsF E q).Pairwise fun x y => y.length < x.length := by
  induction q with
  | nil => exact List.Pairwise.nil
  | cons x xs ih =>
    unfold endsF
    split
    · refine List.Pairwise.cons (fun y hy => ?_) ih
      have := (ends_mem hy).2.1.length_le
      simp only [List.length_cons]
      omega
    · exact ih
theorem ends_count {E : List (List Int)} (hn : E.Nodup) (h0 : [] ∉ E) (q : List Int) : (endsF E q).length = (E.filter fun e => decide (e <:+ q)).length := by
  have h1 : (endsF E q).Nodup := (ends_dec E q).imp (fun {a b} h e => by rw [e] at h; omega)
  have h2 : (E.filter fun e => decide (e <:+ q)).Nodup := hn.filter _
  refine Nat.le_antisymm (nodup_len h1 (fun e he => ?_)) (nodup_len h2 (fun e he => ?_))
  · rw [List.mem_filter]
    exact ⟨(ends_mem he).1, decide_eq_true (ends_mem he).2.1⟩
  · obtain ⟨h3, h4⟩ := List.mem_filter.1 he
    exact ends_of h3 (of_decide_eq_true h4) (fun e0 => h0 (by rw [← e0]; exact h3))
theorem all_sum {E : List (List Int)} (hn : E.Nodup) (h0 : [] ∉ E) (l : List Int) : ∀ k, (allK E l k).length = sumE (fun e => cntC e l k) E
  | 0 => by
    have : ∀ E : List (List Int), sumE (fun _ => 0) E = 0 := fun E => by
      induction E with
      | nil => rfl
      | cons e r ih => simp only [sumE, ih]
    exact (this E).symm
  | k + 1 => by
    rw [allK, List.length_append, List.length_map, all_sum hn h0 l k, ends_count hn h0, sumE_one, ← sumE_add]
    rfl
theorem cnt_shift {e l : List Int} (he : e ≠ []) : ∀ k, k ≤ l.length → cntC e l k = cntS e l (k + 1 - e.length)
  | 0, _ => by
    have : 0 < e.length := List.length_pos_iff.2 he
    rw [show 0 + 1 - e.length = 0 by omega]
    rfl
  | k + 1, hk => by
    rw [cntC, cnt_shift he k (by omega)]
    by_cases h : e.length ≤ k + 1
    · rw [show k + 1 + 1 - e.length = (k + 1 - e.length) + 1 by omega, cntS]
      congr 1
      by_cases hs : e <:+ l.take (k + 1)
      · rw [if_pos hs, if_pos ((std_suffix (by omega) h).2 hs)]
      · rw [if_neg hs, if_neg (fun q => hs ((std_suffix (by omega) h).1 q))]
    · have hs : ¬ e <:+ l.take (k + 1) := fun q => by
        have := q.length_le
        rw [List.length_take] at this
        omega
      rw [if_neg hs, show k + 1 - e.length = 0 by omega, show k + 1 + 1 - e.length = 0 by omega, Nat.add_zero]
theorem cnt_rest {e l : List Int} (he : e ≠ []) : ∀ d, cntS e l (l.length + 1 - e.length + d) = cntS e l (l.length + 1 - e.length)
  | 0 => rfl
  | d + 1 => by
    have : ¬ stdB e l (l.length + 1 - e.length + d) = true := fun h => by
      have := std_len h he
      have : 0 < e.length := List.length_pos_iff.2 he
      omega
    rw [← Nat.add_assoc, cntS, if_neg this, cnt_rest he d, Nat.add_zero]
theorem cnt_all {E : List (List Int)} (hn : E.Nodup) (h0 : [] ∉ E) (l : List Int) : (allK E l l.length).length = sumE (fun e => cntS e l l.length) E := by
  rw [all_sum hn h0]
  refine sumE_congr (fun e he => ?_)
  have hne : e ≠ [] := fun e0 => h0 (by rw [← e0]; exact he)
  have hp : 0 < e.length := List.length_pos_iff.2 hne
  rw [cnt_shift hne l.length (Nat.le_refl _)]
  by_cases h : e.length ≤ l.length
  · have := cnt_rest (l := l) hne (e.length - 1)
    rw [show l.length + 1 - e.length + (e.length - 1) = l.length by omega] at this
    exact this.symm
  · have := cnt_rest (l := l) hne l.length
    rw [show l.length + 1 - e.length + l.length = l.length by omega] at this
    exact this.symm
/-- What is found is an entry that stands there. -/
theorem all_mem {E : List (List Int)} {l : List Int} : ∀ k, k ≤ l.length → ∀ x ∈ allK E l k, ∃ (j s : Nat) (hj : j < E.length), x = ((j : Int), (s : Int), (s : Int) + ((E[j]).length : Int)) ∧ stdB E[j] l s = true ∧ s < l.length
  | 0, _, x, h => by cases h
  | k + 1, hk, x, h => by
    rcases List.mem_append.1 h with h | h
    · exact all_mem k (by omega) x h
    · obtain ⟨e, he, rfl⟩ := List.mem_map.1 h
      have h1 := (ends_mem he).2.1.length_le
      rw [List.length_take] at h1
      have h2 : 0 < e.length := List.length_pos_iff.2 (ends_mem he).2.2
      refine ⟨numF E e, k + 1 - e.length, numF_lt (ends_mem he).1, ?_, ?_, by omega⟩
      · rw [numF_at (ends_mem he).1]
        refine Prod.ext rfl (Prod.ext ?_ ?_)
        · show (k : Int) + 1 - (e.length : Int) = ((k + 1 - e.length : Nat) : Int)
          omega
        · show (k : Int) + 1 = ((k + 1 - e.length : Nat) : Int) + (e.length : Int)
          omega
      · rw [numF_at (ends_mem he).1]
        exact (std_suffix (by omega) (by omega)).2 (ends_mem he).2.1
theorem all_ord (E : List (List Int)) (l : List Int) : ∀ k, (allK E l k).Pairwise fun x y => x.2.2 < y.2.2 ∨ x.2.2 = y.2.2 ∧ x.2.1 < y.2.1
  | 0 => List.Pairwise.nil
  | k + 1 => by
    rw [allK, List.pairwise_append]
    refine ⟨all_ord E l k, ?_, fun x hx y hy => ?_⟩
    · rw [List.pairwise_map]
      refine (ends_dec E _).imp (fun {a b} h => .inr ⟨rfl, ?_⟩)
      show (k : Int) + 1 - (a.length : Int) < (k : Int) + 1 - (b.length : Int)
      omega
    · obtain ⟨e, he, rfl⟩ := List.mem_map.1 hy
      left
      have : ∀ k, ∀ x ∈ allK E l k, x.2.2 ≤ (k : Int) := fun k => by
        induction k with
        | zero => intro x h; cases h
        | succ k ih =>
          intro x h
          rcases List.mem_append.1 h with h | h
          · have := ih x h; omega
          · obtain ⟨e, _, rfl⟩ := List.mem_map.1 h
            show (k : Int) + 1 ≤ ((k + 1 : Nat) : Int)
            omega
      have h1 := this k x hx
      show x.2.2 < (k : Int) + 1
      omega
end Go.Proofs.YtbmoeoinhlkmbaaDoor
namespace Go.Proofs.YtbmoeoinhlkmbaaDoor
open Go.RowKit Go.Shelf Go.Lib Go.Maps
/-- Stands the entry there? At any place. -/
def stI (e l : List Int) (t : Int) : Bool := decide (0 ≤ t) && stdB e l t.toNat
theorem stI_iff {e l : List Int} {t : Int} : stI e l t = true ↔ 0 ≤ t ∧ stdB e l t.toNat = true := by simp [stI]
theorem lpK_none {E : List (List Int)} {l : List Int} : ∀ {k : Nat}, lpK E l k = none → ∀ m, m < k → l.take (m + 1) ∉ E
  | 0, _, m, h => absurd h (Nat.not_lt_zero m)
  | k + 1, h, m, hm => by
    rw [lpK] at h
    split at h
    · cases h
    · rename_i hn
      by_cases e : m = k
      · rw [e]; exact hn
      · exact lpK_none h m (by omega)
theorem lpK_some {E : List (List Int)} {l e : List Int} : ∀ {k : Nat}, lpK E l k = some e → e ∈ E ∧ ∃ m, m < k ∧ e = l.take (m + 1) ∧ ∀ m', m < m' → m' < k → l.take (m' + 1) ∉ E
  | 0, h => by cases h
  | k + 1, h => by
    rw [lpK] at h
    split at h
    · rename_i hn
      injection h with h
      subst h
      exact ⟨hn, k, by omega, rfl, fun m' h1 h2 => by omega⟩
    · rename_i hn
      obtain ⟨h1, m, h2, h3, h4⟩ := lpK_some h
      refine ⟨h1, m, by omega, h3, fun m' h5 h6 => ?_⟩
      by_cases e : m' = k
      · rw [e]; exact hn
      · exact h4 m' h5 (by omega)
/-- The longest entry that stands there. -/
def LonS (E : List (List Int)) (l : List Int) (t : Int) : Option (List Int) → Prop
  | none => ∀ e ∈ E, stI e l t = false
  | some e => e ∈ E ∧ stI e l t = true ∧ ∀ e' ∈ E, stI e' l t = true → e'.length ≤ e.length
theorem lng_lon {E : List (List Int)} (h0 : [] ∉ E) (l : List Int) (t : Int) : LonS E l t (lngO E l t) := by
  have hf : ∀ e ∈ E, stI e l t = true → 0 ≤ t ∧ t < (l.length : Int) ∧ ∃ m, e.length = m + 1 ∧ m < l.length - t.toNat ∧ (l.drop t.toNat).take (m + 1) = e := fun e he hs => by
    obtain ⟨h1, h2⟩ := stI_iff.1 hs
    have hne : e ≠ [] := fun e0 => h0 (by rw [← e0]; exact he)
    have h3 := std_len h2 hne
    have h4 : 0 < e.length := List.length_pos_iff.2 hne
    have h5 := of_decide_eq_true h2
    refine ⟨h1, by omega, e.length - 1, by omega, by omega, ?_⟩
    rw [show e.length - 1 + 1 = e.length by omega]
    exact h5
  unfold lngO
  split
  · intro e he
    cases hs : stI e l t with
    | false => rfl
    | true => have := hf e he hs; omega
  · cases hl : lpK E (l.drop t.toNat) (l.length - t.toNat) with
    | none =>
      intro e he
      cases hs : stI e l t with
      | false => rfl
      | true =>
        obtain ⟨_, _, m, _, h3, h4⟩ := hf e he hs
        exact absurd (by rw [h4]; exact he) (lpK_none hl m h3)
    | some e =>
      obtain ⟨h1, m, h2, h3, h4⟩ := lpK_some hl
      have hle : e.length = m + 1 := by rw [h3, List.length_take, List.length_drop]; omega
      refine ⟨h1, stI_iff.2 ⟨by omega, decide_eq_true (by rw [hle]; exact h3.symm)⟩, fun e' he' hs' => ?_⟩
      obtain ⟨_, _, m', h5, h6, h7⟩ := hf e' he' hs'
      by_cases hq : m < m'
      · exact absurd (by rw [h7]; exact he') (h4 m' hq h6)
      · omega
/-- The longest entry that ends there. -/
def EndS (E : List (List Int)) (l : List Int) (t : Int) : Option (List Int) → Prop
  | none => ∀ e ∈ E, (e.length : Int) ≤ t → t ≤ (l.length : Int) → stI e l (t - (e.length : Int)) = false
  | some e => e ∈ E ∧ (e.length : Int) ≤ t ∧ t ≤ (l.length : Int) ∧ stI e l (t - (e.length : Int)) = true ∧ ∀ e' ∈ E, (e'.length : Int) ≤ t → stI e' l (t - (e'.length : Int)) = true → e'.length ≤ e.length
theorem end_end {E : List (List Int)} (h0 : [] ∉ E) (l : List Int) (t : Int) : EndS E l t (endO E l t) := by
  have hp : ∀ e ∈ E, 0 < e.length := fun e he => List.length_pos_iff.2 (fun e0 => h0 (by rw [← e0]; exact he))
  unfold endO
  split
  · intro e he h1 h2
    have := hp e he
    omega
  · rename_i hn
    obtain ⟨k, hk, hkl⟩ : ∃ k : Nat, t = (k : Int) + 1 ∧ k < l.length := ⟨t.toNat - 1, by omega, by omega⟩
    have htn : t.toNat = k + 1 := by omega
    rw [htn]
    have hi : ∀ e ∈ E, (e.length : Int) ≤ t → (stI e l (t - (e.length : Int)) = true ↔ e <:+ l.take (k + 1)) := fun e he hle => by
      rw [stI_iff, show (t - (e.length : Int)).toNat = k + 1 - e.length by omega, std_suffix hkl (by omega)]
      exact ⟨fun h => h.2, fun h => ⟨by omega, h⟩⟩
    cases hh : (endsF E (l.take (k + 1))).head? with
    | none =>
      intro e he h1 h2
      cases hs : stI e l (t - (e.length : Int)) with
      | false => rfl
      | true =>
        have := ends_of he ((hi e he h1).1 hs) (List.length_pos_iff.1 (hp e he))
        rw [List.head?_eq_none_iff.1 hh] at this
        cases this
    | some e =>
      obtain ⟨h1, h2, h3⟩ := ends_head_mem hh
      have h4 := h2.length_le
      rw [List.length_take] at h4
      refine ⟨h1, by omega, by omega, (hi e h1 (by omega)).2 h2, fun e' he' h5 h6 => ?_⟩
      have h7 := ends_of he' ((hi e' he' h5).1 h6) (List.length_pos_iff.1 (hp e' he'))
      have h8 := ends_dec E (l.take (k + 1))
      cases hq : endsF E (l.take (k + 1)) with
      | nil => rw [hq] at h7; cases h7
      | cons y r =>
        rw [hq] at hh h7 h8
        injection hh with hh
        subst hh
        rcases List.mem_cons.1 h7 with h9 | h9
        · rw [h9]; exact Nat.le_refl _
        · exact Nat.le_of_lt (List.rel_of_pairwise_cons h8 h9)
theorem all_grow {E : List (List Int)} {l : List Int} {k : Nat} : ∀ K, k < K → ∀ x ∈ (endsF E (l.take (k + 1))).map (fdF E k), x ∈ allK E l K
  | 0, h, _, _ => absurd h (Nat.not_lt_zero k)
  | K + 1, h, x, hx => by
    rw [allK]
    by_cases e : k = K
    · subst e; exact List.mem_append.2 (.inr hx)
    · exact List.mem_append.2 (.inl (all_grow K (by omega) x hx))
theorem all_has {E : List (List Int)} {l e : List Int} {s : Nat} (he : e ∈ E) (hne : e ≠ []) (hs : stdB e l s = true) : ((numF E e : Int), (s : Int), (s : Int) + (e.length : Int)) ∈ allK E l l.length := by
  have h1 := std_len hs hne
  have h2 : 0 < e.length := List.length_pos_iff.2 hne
  obtain ⟨k, hk⟩ : ∃ k, k + 1 = s + e.length := ⟨s + e.length - 1, by omega⟩
  refine all_grow (k := k) _ (by omega) _ (List.mem_map.2 ⟨e, ends_of he ((std_suffix (by omega) (by omega)).1 (by rw [show k + 1 - e.length = s by omega]; exact hs)) hne, ?_⟩)
  refine Prod.ext rfl (Prod.ext ?_ ?_)
  · show (k : Int) + 1 - (e.length : Int) = (s : Int)
    omega
  · show (k : Int) + 1 = (s : Int) + (e.length : Int)
    omega
/-- The last of the first k that begins at t. -/
def LastI (LA : List Fd) (t : Int) (k : Nat) (n : Int) : Prop :=
  (n = -1 ∧ ∀ i (_ : i < LA.length), i < k → LA[i].2.1 ≠ t) ∨ ∃ i, ∃ _ : i < LA.length, i < k ∧ LA[i].2.1 = t ∧ n = LA[i].1 ∧ ∀ i' (_ : i' < LA.length), i < i' → i' < k → LA[i'].2.1 ≠ t
/-- The first of the first k that ends at t. -/
def FirstI (LA : List Fd) (t : Int) (k : Nat) (n : Int) : Prop :=
  (n = -1 ∧ ∀ i (_ : i < LA.length), i < k → LA[i].2.2 ≠ t) ∨ ∃ i, ∃ _ : i < LA.length, i < k ∧ LA[i].2.2 = t ∧ n = LA[i].1 ∧ ∀ i' (_ : i' < LA.length), i' < i → LA[i'].2.2 ≠ t
theorem LastI.zero (LA : List Fd) (t : Int) : LastI LA t 0 (-1) := .inl ⟨rfl, fun _ _ h => absurd h (Nat.not_lt_zero _)⟩
theorem FirstI.zero (LA : List Fd) (t : Int) : FirstI LA t 0 (-1) := .inl ⟨rfl, fun _ _ h => absurd h (Nat.not_lt_zero _)⟩
theorem LastI.hit {LA : List Fd} {t : Int} {k : Nat} (hk : k < LA.length) (h : LA[k].2.1 = t) : LastI LA t (k + 1) LA[k].1 :=
  .inr ⟨k, hk, by omega, h, rfl, fun i' _ h1 h2 => by omega⟩
theorem LastI.miss {LA : List Fd} {t : Int} {k : Nat} {n : Int} (hk : k < LA.length) (hi : LastI LA t k n) (h : LA[k].2.1 ≠ t) : LastI LA t (k + 1) n := by
  have hq : ∀ i (_ : i < LA.length), ¬ i < k → i < k + 1 → LA[i].2.1 ≠ t := fun i h1 h2 h3 => by
    have e : i = k := by omega
    subst e
    exact h
  rcases hi with ⟨h1, h2⟩ | ⟨i, h1, h2, h3, h4, h5⟩
  · exact .inl ⟨h1, fun i h3 h4 => if h5 : i < k then h2 i h3 h5 else hq i h3 h5 h4⟩
  · exact .inr ⟨i, h1, by omega, h3, h4, fun i' h6 h7 h8 => if h9 : i' < k then h5 i' h6 h7 h9 else hq i' h6 h9 h8⟩
theorem FirstI.hit {LA : List Fd} {t : Int} {k : Nat} {n : Int} (hp : ∀ x ∈ LA, 0 ≤ x.1) (hk : k < LA.length) (hi : FirstI LA t k n) (hn : n < 0) (h : LA[k].2.2 = t) : FirstI LA t (k + 1) LA[k].1 := by
  rcases hi with ⟨_, h2⟩ | ⟨i, h1, _, _, h4, _⟩
  · exact .inr ⟨k, hk, by omega, h, rfl, fun i' h3 h4 => h2 i' h3 h4⟩
  · have := hp _ (List.getElem_mem h1)
    omega
theorem FirstI.miss {LA : List Fd} {t : Int} {k : Nat} {n : Int} (hi : FirstI LA t k n) (h : ¬ n < 0 ∨ ∀ hk : k < LA.length, LA[k].2.2 ≠ t) : FirstI LA t (k + 1) n := by
  rcases hi with ⟨h1, h2⟩ | ⟨i, h1, h2, h3, h4, h5⟩
  · refine .inl ⟨h1, fun i h3 h4 => ?_⟩
    by_cases h5 : i < k
    · exact h2 i h3 h5
    · have e : i = k := by omega
      subst e
      rcases h with h | h
      · omega
      · exact h h3
  · exact .inr ⟨i, h1, by omega, h3, h4, h5⟩
/-- What an answer says, -1 for none. -/
def orM (E : List (List Int)) : Option (List Int) → Int
  | none => -1
  | some e => (numF E e : Int)
theorem last_end {E : List (List Int)} (h0 : [] ∉ E) (l : List Int) (t : Int) {n : Int} (h : LastI (allK E l l.length) t (allK E l l.length).length n) : n = orM E (lngO E l t) := by
  have hL := lng_lon h0 l t
  have hM := all_mem (E := E) (l := l) l.length (Nat.le_refl _)
  have hO := all_ord E l l.length
  have hH := fun e s (he : e ∈ E) => all_has (l := l) (s := s) he (fun e0 => h0 (by rw [← e0]; exact he))
  generalize allK E l l.length = LA at *
  have hx : ∀ i (hi : i < LA.length), LA[i].2.1 = t → ∃ e ∈ E, stI e l t = true ∧ LA[i].2.2 = t + (e.length : Int) := fun i hi ht => by
    obtain ⟨j, s, hj, h1, h2, _⟩ := hM _ (List.getElem_mem hi)
    rw [h1] at ht ⊢
    dsimp only at ht ⊢
    subst ht
    exact ⟨E[j], List.getElem_mem hj, stI_iff.2 ⟨by omega, h2⟩, rfl⟩
  cases ho : lngO E l t with
  | none =>
    rw [ho] at hL
    rcases h with ⟨h1, _⟩ | ⟨i, h1, _, h3, _, _⟩
    · exact h1
    · obtain ⟨e, he, hs, _⟩ := hx i h1 h3
      rw [hL e he] at hs
      cases hs
  | some e =>
    rw [ho] at hL
    obtain ⟨he, hs, hm⟩ := hL
    obtain ⟨ht0, hs'⟩ := stI_iff.1 hs
    obtain ⟨i0, hi0, hq⟩ := List.mem_iff_getElem.1 (hH e t.toNat he hs')
    have e1 : LA[i0].1 = (numF E e : Int) := by rw [hq]
    have e2 : LA[i0].2.1 = t := by rw [hq]; show ((t.toNat : Nat) : Int) = t; omega
    have e3 : LA[i0].2.2 = t + (e.length : Int) := by rw [hq]; show ((t.toNat : Nat) : Int) + _ = _; omega
    rcases h with ⟨_, h2⟩ | ⟨i, h1, _, h3, h4, h5⟩
    · exact absurd e2 (h2 i0 hi0 hi0)
    · rcases Nat.lt_trichotomy i i0 with hlt | heq | hgt
      · exact absurd e2 (h5 i0 hi0 hlt hi0)
      · subst heq; rw [h4, e1]; rfl
      · obtain ⟨e', he', hs2, h6⟩ := hx i h1 h3
        have h7 := hm e' he' hs2
        have h8 := List.pairwise_iff_getElem.1 hO i0 i hi0 h1 hgt
        omega
theorem first_end {E : List (List Int)} (h0 : [] ∉ E) (l : List Int) (t : Int) {n : Int} (h : FirstI (allK E l l.length) t (allK E l l.length).length n) : n = orM E (endO E l t) := by
  have hL := end_end h0 l t
  have hM := all_mem (E := E) (l := l) l.length (Nat.le_refl _)
  have hO := all_ord E l l.length
  have hH := fun e s (he : e ∈ E) => all_has (l := l) (s := s) he (fun e0 => h0 (by rw [← e0]; exact he))
  generalize allK E l l.length = LA at *
  have hx : ∀ i (hi : i < LA.length), LA[i].2.2 = t → ∃ e ∈ E, (e.length : Int) ≤ t ∧ t ≤ (l.length : Int) ∧ stI e l (t - (e.length : Int)) = true ∧ LA[i].2.1 = t - (e.length : Int) := fun i hi ht => by
    obtain ⟨j, s, hj, h1, h2, _⟩ := hM _ (List.getElem_mem hi)
    rw [h1] at ht ⊢
    dsimp only at ht ⊢
    have hne : E[j] ≠ [] := fun e0 => h0 (by rw [← e0]; exact List.getElem_mem hj)
    have h3 := std_len h2 hne
    exact ⟨E[j], List.getElem_mem hj, by omega, by omega, stI_iff.2 ⟨by omega, by rw [show (t - (E[j].length : Int)).toNat = s by omega]; exact h2⟩, by omega⟩
  cases ho : endO E l t with
  | none =>
    rw [ho] at hL
    rcases h with ⟨h1, _⟩ | ⟨i, h1, _, h3, _, _⟩
    · exact h1
    · obtain ⟨e, he, hl, hl2, hs, _⟩ := hx i h1 h3
      rw [hL e he hl hl2] at hs
      cases hs
  | some e =>
    rw [ho] at hL
    obtain ⟨he, hl, hl2, hs, hm⟩ := hL
    obtain ⟨ht0, hs'⟩ := stI_iff.1 hs
    obtain ⟨i0, hi0, hq⟩ := List.mem_iff_getElem.1 (hH e (t - (e.length : Int)).toNat he hs')
    have e1 : LA[i0].1 = (numF E e : Int) := by rw [hq]
    have e2 : LA[i0].2.1 = t - (e.length : Int) := by rw [hq]; show (((t - (e.length : Int)).toNat : Nat) : Int) = _; omega
    have e3 : LA[i0].2.2 = t := by rw [hq]; show (((t - (e.length : Int)).toNat : Nat) : Int) + _ = _; omega
    rcases h with ⟨_, h2⟩ | ⟨i, h1, _, h3, h4, h5⟩
    · exact absurd e3 (h2 i0 hi0 hi0)
    · rcases Nat.lt_trichotomy i i0 with hlt | heq | hgt
      · obtain ⟨e', he', hl', _, hs2, h6⟩ := hx i h1 h3
        have h7 := hm e' he' hl' hs2
        have h8 := List.pairwise_iff_getElem.1 hO i i0 h1 hi0 hlt
        omega
      · subst heq; rw [h4, e1]; rfl
      · exact absurd e3 (h5 i0 hi0 hgt)
end Go.Proofs.YtbmoeoinhlkmbaaDoor
namespace Go.Proofs.YtbmoeoinhlkmbaaDoor
open Go.RowKit Go.Shelf Go.Lib Go.Maps
set_option maxRecDepth 10000 in
theorem scalar_any (c : Int) (w : World) : Calls Tryd.prog 31 #[.int .i64 c] w fun e w' => e = .returned (.bool (!nsB c)) ∧ w' = w := by
  by_cases h1 : c < 0
  · have hr : nsB c = true := by simp [nsB, h1]
    have h1' : ¬ c ≥ 0 := by omega
    rw [hr]
    clear hr
    go_enter Tryd.func31, Tryd.ntmps31
    go_wp2
    go_ret
    exact ⟨rfl, rfl⟩
  · have h1' : c ≥ 0 := by omega
    by_cases h2 : c > 1114111
    · have hr : nsB c = true := by simp [nsB, h2]
      have h2' : ¬ c ≤ 1114111 := by omega
      rw [hr]
      clear hr
      go_enter Tryd.func31, Tryd.ntmps31
      go_wp2
      go_ret
      exact ⟨rfl, rfl⟩
    · have h2' : c ≤ 1114111 := by omega
      by_cases h3 : c < 55296
      · have hr : nsB c = false := by simp [nsB]; omega
        rw [hr]
        clear hr
        go_enter Tryd.func31, Tryd.ntmps31
        go_wp2
        go_ret
        exact ⟨rfl, rfl⟩
      · by_cases h4 : c > 57343
        · have hr : nsB c = false := by simp [nsB]; omega
          rw [hr]
          clear hr
          go_enter Tryd.func31, Tryd.ntmps31
          go_wp2
          go_ret
          exact ⟨rfl, rfl⟩
        · have hr : nsB c = true := by simp [nsB]; omega
          rw [hr]
          clear hr
          go_enter Tryd.func31, Tryd.ntmps31
          go_wp2
          go_ret
          exact ⟨rfl, rfl⟩
theorem take_step {p q : List Int} {k : Nat} (hp : k < p.length) (hq : k < q.length) (h : p.take k = q.take k) : p.take (k + 1) = q.take (k + 1) ↔ p[k] = q[k] := by
  rw [take_snoc hp, take_snoc hq, h]
  constructor
  · intro e
    have := List.append_cancel_left e
    simpa using this
  · intro e
    rw [e]
theorem take_ne {p q : List Int} {k n : Nat} (hk : k ≤ n) (h : p.take k ≠ q.take k) : p.take n ≠ q.take n := fun e => h (by
  have h1 := congrArg (List.take k) e
  rw [List.take_take, List.take_take, Nat.min_eq_left hk] at h1
  exact h1)
set_option maxRecDepth 10000 in
set_option maxHeartbeats 800000 in
/-- begins: are the first n the same? -/
theorem begins_any (p q : List Int) (ap aq : Option Addr) (cp cq n : Nat) (w : World) (hp : IA w ap p) (hq : IA w aq q) (h1 : p.length ≤ 1000000000) (h2 : n ≤ q.length) (_h3 : q.length ≤ 1000000000) :
    Calls Tryd.prog 35 #[.slice ap p.length cp, .slice aq q.length cq, .int .i64 (n : Int)] w fun r w' => r = .returned (.bool (decide (p.take n = q.take n))) ∧ ∃ m, w' = w.drewN m := by
  have HP := hid0 hp
  have HQ := hid0 hq
  clear hp hq
  by_cases hlt : p.length < n
  · have hr : decide (p.take n = q.take n) = false := decide_eq_false (fun e => by
      have h := congrArg List.length e
      rw [List.length_take, List.length_take] at h
      omega)
    have hI : (p.length : Int) < (n : Int) := by omega
    rw [hr]
    clear hr
    go_enter Tryd.func35, Tryd.ntmps35
    go_wp2
    go_ret
    exact ⟨rfl, 0, rfl⟩
  · have hI : ¬ (p.length : Int) < (n : Int) := by omega
    go_enter Tryd.func35, Tryd.ntmps35
    go_wp2
    go_loopw [7] (fun i wr => ∃ k m : Nat, k ≤ n ∧ i = .int .i64 (k : Int) ∧ Hid (p.take k = q.take k) ∧ wr = w.drewN m) (fun i _ => n - (intOf i).toNat)
    case atStart => exact ⟨0, 0, Nat.zero_le _, rfl, hid0 rfl, rfl⟩
    case round =>
      obtain ⟨k, m, hk, rfl, HT, rfl⟩ := hrel
      by_cases hkn : k < n
      · obtain ⟨b1, o1, rfl, _, c1⟩ := HP.out.at' k (by omega)
        obtain ⟨b2, o2, rfl, _, c2⟩ := HQ.out.at' k (by omega)
        have hkI : (k : Int) < (n : Int) := by omega
        have hkI0 : (0 : Int) ≤ (k : Int) := by omega
        have hkp : (k : Int) < (p.length : Int) := by omega
        have hkq : (k : Int) < (q.length : Int) := by omega
        have HS := hid0 (take_step (p := p) (q := q) (by omega) (by omega) HT.out)
        generalize p[k]'(by omega) = y at *
        generalize q[k]'(by omega) = x at *
        clear HP HQ
        by_cases hxy : y = x
        · have HT2 : Hid (p.take (k + 1) = q.take (k + 1)) := hid0 (HS.out.2 hxy)
          have hb : (y != x) = false := by simp [hxy]
          clear hxy HS HT
          go_wp2
          go_quiet ((fail))
          go_wp2
          go_roundw
          case rel => exact ⟨k + 1, _, hkn, by go_num, HT2, rfl⟩
          case measure => simp [intOf]; omega
        · have HF : Hid (decide (p.take n = q.take n) = false) := hid0 (decide_eq_false (take_ne (k := k + 1) hkn (fun e => hxy (HS.out.1 e))))
          have hb : (y != x) = true := by simpa using hxy
          clear HS HT
          go_wp2
          go_quiet ((fail))
          go_wp2
          go_ret
          exact ⟨by rw [HF.out]; rfl, _, World.drewN_drewN _ _ _⟩
      · have hkI : ¬ (k : Int) < (n : Int) := by omega
        have HF : Hid (decide (p.take n = q.take n) = true) := hid0 (decide_eq_true (by have h := HT.out; rw [show k = n by omega] at h; exact h))
        clear HP HQ
        go_wp2
        go_ret
        exact ⟨by rw [HF.out]; rfl, _, rfl⟩
set_option maxRecDepth 10000 in
set_option maxHeartbeats 800000 in
theorem refStands_any (e l : List Int) (ae al : Option Addr) (ce cl : Nat) (t : Int) (w : World) (he : IA w ae e) (hl : IA w al l) (h1 : e.length ≤ 1000000000) (h2 : l.length ≤ 1000000000) (hcl : l.length ≤ cl) (hne : e ≠ []) :
    Calls Tryd.prog 21 #[.slice ae e.length ce, .slice al l.length cl, .int .i64 t] w fun r w' => r = .returned (.bool (stI e l t)) ∧ ∃ m, w' = w.drewN m := by
  by_cases h0 : t < 0
  · have hr : stI e l t = false := by
      unfold stI
      rw [decide_eq_false (show ¬ (0 : Int) ≤ t by omega)]
      rfl
    rw [hr]
    clear hr he hl hne hcl
    go_enter Tryd.func21, Tryd.ntmps21
    go_wp2
    go_ret
    exact ⟨rfl, 0, rfl⟩
  · by_cases h3 : t > (l.length : Int)
    · have hr : stI e l t = false := by
        cases hq : stI e l t with
        | false => rfl
        | true => have := std_len (stI_iff.1 hq).2 hne; omega
      rw [hr]
      clear hr he hl hne hcl
      go_enter Tryd.func21, Tryd.ntmps21
      go_wp2
      go_ret
      exact ⟨rfl, 0, rfl⟩
    · obtain ⟨n, rfl⟩ : ∃ n : Nat, t = (n : Int) := ⟨t.toNat, by omega⟩
      have hn : n ≤ l.length := by omega
      have hdl : (l.drop n).length = l.length - n := List.length_drop
      have HB : Hid (∀ (a : Option Addr) (c : Nat), IA w a (l.drop n) → Calls Tryd.prog 35 #[.slice a (l.length - n) c, .slice ae e.length ce, .int .i64 (e.length : Int)] w fun r w' => r = .returned (.bool (stI e l (n : Int))) ∧ ∃ m, w' = w.drewN m) := hid0 (fun a c ha => by
        have h := begins_any (l.drop n) e a ae c ce e.length w ha he (by omega) (Nat.le_refl _) h1
        rw [hdl, List.take_length] at h
        rw [show stI e l (n : Int) = decide ((l.drop n).take e.length = e) by simp [stI, stdB]]
        exact h)
      have HL := hid0 hl
      have HD := hid0 hdl
      clear he hl hne hdl
      generalize stI e l (n : Int) = bb at *
      by_cases hnl : n < l.length
      · obtain ⟨b, off, rfl, _, _⟩ := HL.out.at' n hnl
        have HQ := hid0 (HB.out (some ⟨b, off + n, none⟩) (cl - n) ⟨fun k hk => by
          have hk2 : k < l.length - n := by have := HD.out; omega
          obtain ⟨b2, off2, e2, hb2, hc2⟩ := HL.out.at' (n + k) (by omega)
          injection e2 with e2
          injection e2 with e3 e4
          subst e3 e4
          refine ⟨b, off + n, rfl, hb2, ?_⟩
          rw [show off + n + k = off + (n + k) by omega, hc2]
          simp only [List.getElem_drop]⟩)
        have hncf : ¬ cl = n := by omega
        have hnI : (n : Int) ≤ (l.length : Int) := by omega
        have hnI0 : (0 : Int) ≤ (n : Int) := by omega
        clear HB HL HD
        go_enter Tryd.func21, Tryd.ntmps21
        go_wp2_with (go_at_call 35; go_loud ((
          refine HQ.out.mono ?_
          rintro r w1 ⟨rfl, m1, rfl⟩)))
        go_ret
        exact ⟨rfl, _, rfl⟩
      · have hne : l.length - n = 0 := by omega
        have HQ : Hid (∀ (a : Option Addr) (c : Nat), Calls Tryd.prog 35 #[.slice a 0 c, .slice ae e.length ce, .int .i64 (e.length : Int)] w fun r w' => r = .returned (.bool bb) ∧ ∃ m, w' = w.drewN m) := hid0 (fun a c => by
          have h := HB.out a c ⟨fun k hk => by have := HD.out; omega⟩
          rw [hne] at h
          exact h)
        obtain rfl : n = l.length := by omega
        have hnI0 : (0 : Int) ≤ (l.length : Int) := by omega
        have hse : l.length - l.length = 0 := Nat.sub_self _
        have hcI : (l.length : Int) ≤ (cl : Int) := by omega
        clear HB HL HD hne hnl hn
        cases al with
        | none =>
          go_enter Tryd.func21, Tryd.ntmps21
          go_wp2_with (go_at_call 35; go_loud ((
            refine (HQ.out _ _).mono ?_
            rintro r w1 ⟨rfl, m1, rfl⟩)))
          go_ret
          exact ⟨rfl, _, rfl⟩
        | some a0 =>
          obtain ⟨ad, had⟩ : ∃ ad : Option Addr, (if cl = l.length then some a0 else some (a0.add l.length)) = ad := ⟨_, rfl⟩
          go_enter Tryd.func21, Tryd.ntmps21
          go_wp2_with (go_at_call 35; go_loud ((
            refine (HQ.out _ _).mono ?_
            rintro r w1 ⟨rfl, m1, rfl⟩)))
          go_ret
          exact ⟨rfl, _, rfl⟩
end Go.Proofs.YtbmoeoinhlkmbaaDoor
namespace Go.Proofs.YtbmoeoinhlkmbaaDoor
open Go.RowKit Go.Shelf Go.Lib Go.Maps
theorem eq_upto {L M : List Int} (hl : L.length = M.length) (h : ∀ k, k < L.length → L[k]? = M[k]?) : L = M := by
  apply List.ext_getElem?
  intro k
  rcases Nat.lt_or_ge k L.length with hk | hk
  · exact h k hk
  · rw [List.getElem?_eq_none hk, List.getElem?_eq_none (by omega)]
set_option maxRecDepth 10000 in
set_option maxHeartbeats 800000 in
theorem sameInts_any (L M : List Int) (a b : Option Addr) (ca cb : Nat) (w : World) (hl : L.length ≤ 17592186044000) (ha : IA w a L) (hb : IA w b M) :
    Calls Tryd.prog 16 #[.slice a L.length ca, .slice b M.length cb] w fun e w' => e = .returned (.bool (decide (L = M))) ∧ ∃ n, w' = w.drewN n := by
  have HA := hid0 ha
  have HB := hid0 hb
  clear ha hb
  by_cases hlen : L.length = M.length
  · have hlI : (L.length : Int) = (M.length : Int) := by omega
    have HL := hid0 hlen
    clear hlen
    go_enter Tryd.func16, Tryd.ntmps16
    go_wp2
    go_loopw [5] (fun i wr => ∃ k : Nat, k ≤ L.length ∧ i = .int .i64 (k : Int) ∧ (∃ n, wr = w.drewN n) ∧ Hid (∀ j, j < k → L[j]? = M[j]?)) (fun i _ => L.length - (intOf i).toNat)
    case atStart => exact ⟨0, Nat.zero_le _, rfl, ⟨0, rfl⟩, hid0 (fun j h => absurd h (Nat.not_lt_zero _))⟩
    case round =>
      obtain ⟨k, hk, rfl, ⟨nd, rfl⟩, HE⟩ := hrel
      by_cases hlt : k < L.length
      · have hltM : k < M.length := by have := HL.out; omega
        obtain ⟨b1, o1, rfl, _, d1⟩ := HA.out.at' k hlt
        obtain ⟨b2, o2, rfl, _, d2⟩ := HB.out.at' k hltM
        have hkI : (k : Int) < (L.length : Int) := by omega
        have hkM : (k : Int) < (M.length : Int) := by omega
        have hkI0 : (0 : Int) ≤ (k : Int) := by omega
        have HG1 : Hid (L[k]? = some L[k]) := hid0 (List.getElem?_eq_getElem hlt)
        have HG2 : Hid (M[k]? = some M[k]) := hid0 (List.getElem?_eq_getElem hltM)
        generalize L[k] = s at *
        generalize M[k] = u at *
        by_cases hsu : s = u
        · subst hsu
          have hself : (s == s) = true := by simp
          have hself2 : (s != s) = false := by simp
          have HE2 : Hid (∀ j, j < k + 1 → L[j]? = M[j]?) := hid0 (fun j hj => by
            by_cases e : j = k
            · subst e; rw [HG1.out, HG2.out]
            · exact HE.out j (by omega))
          clear HE HG1 HG2
          go_wp2
          go_quiet ((fail))
          go_wp2
          go_roundw
          case rel => exact ⟨k + 1, by omega, by go_num, ⟨_, rfl⟩, HE2⟩
          case measure => simp [intOf]; omega
        · have hne : (s == u) = false := by simpa using hsu
          have hne2 : (s != u) = true := by simpa using hsu
          have HV : Hid (decide (L = M) = false) := hid0 (decide_eq_false (fun e => by
            subst e
            rw [HG1.out] at HG2
            exact hsu (by have := HG2.out; cases this; rfl)))
          clear HE HG1 HG2
          go_wp2
          go_quiet ((fail))
          go_wp2
          go_ret
          exact ⟨by rw [HV.out]; rfl, _, World.drewN_drewN _ _ _⟩
      · have hkI : ¬ (k : Int) < (L.length : Int) := by omega
        have HV : Hid (decide (L = M) = true) := hid0 (decide_eq_true (eq_upto HL.out (fun j hj => HE.out j (by omega))))
        clear HE
        go_wp2
        go_ret
        exact ⟨by rw [HV.out]; rfl, nd, rfl⟩
  · have hlI : ¬ (L.length : Int) = (M.length : Int) := by omega
    have HV : Hid (decide (L = M) = false) := hid0 (decide_eq_false (fun e => hlen (by rw [e])))
    clear hlen
    go_enter Tryd.func16, Tryd.ntmps16
    go_wp2
    go_ret
    exact ⟨by rw [HV.out]; rfl, 0, rfl⟩
/-- What fault says of an entry. -/
def fltN (L : List (List Int)) (i : Nat) : Int :=
  match chkN (L.getD i []) with
  | some k => (k : Int) + 1
  | none => if L.getD i [] ∈ L.take i then 5 else 0
set_option maxRecDepth 10000 in
set_option maxHeartbeats 1600000 in
theorem fault_any (L : List (List Int)) (a : Option Addr) (ca i : Nat) (w : World) (ha : RwA w a L) (hi : i < L.length) (hn : L.length ≤ 1000000000) (hl : ∀ e ∈ L, e.length ≤ 1000000000) :
    Calls Tryd.prog 17 #[.slice a L.length ca, .int .i64 (i : Int)] w fun r w' => r = .returned (.int .i64 (fltN L i)) ∧ ∃ m, w' = w.drewN m := by
  have HA := hid0 ha
  have HL := hid0 hl
  obtain ⟨b, off, rfl, hb, a1, c1, hc1, hia⟩ := ha.at' i hi
  have HI := hid0 hia
  have hel := hl _ (List.getElem_mem hi)
  have HF : Hid (fltN L i = match chkN L[i] with
    | some k => (k : Int) + 1
    | none => if L[i] ∈ L.take i then 5 else 0) := hid0 (by
      unfold fltN
      rw [List.getD_eq_getElem?_getD, List.getElem?_eq_getElem hi]
      rfl)
  generalize fltN L i = R at *
  have hiI : (i : Int) < (L.length : Int) := by omega
  have hiI0 : (0 : Int) ≤ (i : Int) := by omega
  clear ha hl hia
  generalize L[i] = e at *
  by_cases h0 : e.length = 0
  · have hR : R = 1 := by
      rw [HF.out]
      have : e = [] := List.length_eq_zero_iff.1 h0
      subst this
      rfl
    subst hR
    rw [h0] at hc1
    clear h0 HF HA HL HI
    go_enter Tryd.func17, Tryd.ntmps17
    go_wp2
    go_ret
    exact ⟨rfl, 0, rfl⟩
  · have h0I : ¬ (e.length : Int) = 0 := by omega
    have h0B : ((e.length : Int) == 0) = false := beq_eq_false_iff_ne.2 h0I
    have HZ := hid0 h0
    clear h0
    go_enter Tryd.func17, Tryd.ntmps17
    go_wp2
    go_loopw [6] (fun j wr => ∃ k : Nat, k ≤ e.length ∧ j = .int .i64 (k : Int) ∧ Hid ((e.take k).any nsB = false) ∧ wr = w) (fun j _ => e.length - (intOf j).toNat)
    case atStart => exact ⟨0, Nat.zero_le _, rfl, hid0 rfl, rfl⟩
    case round =>
      obtain ⟨k, hk, rfl, HN, rfl⟩ := hrel
      by_cases hlt : k < e.length
      · obtain ⟨b2, o2, rfl, _, ce⟩ := HI.out.at' k hlt
        have hkI : (k : Int) < (e.length : Int) := by omega
        have hkI0 : (0 : Int) ≤ (k : Int) := by omega
        have HT := hid0 (take_snoc hlt)
        have HM : Hid (e[k] ∈ e) := hid0 (List.getElem_mem hlt)
        generalize e[k] = c at *
        have HCc := hid0 (scalar_any c wr)
        cases hq : nsB c with
        | true =>
          rw [hq] at HCc
          have hR : R = 1 := by
            rw [HF.out, show chkN e = some 0 by
              unfold chkN
              rw [if_pos]
              rw [List.any_eq_true.2 ⟨c, HM.out, hq⟩]
              simp]
            rfl
          subst hR
          clear hq HF HA HL HI HN HT HM
          go_wp2_with (go_at_call 31; go_loud ((
            refine HCc.out.mono ?_
            rintro r w1 ⟨rfl, hw⟩
            have hw := hw.symm
            subst hw)))
          go_ret
          exact ⟨rfl, 0, rfl⟩
        | false =>
          rw [hq] at HCc
          have HN2 : Hid ((e.take (k + 1)).any nsB = false) := hid0 (by rw [HT.out, List.any_append, HN.out]; simp [hq])
          clear hq HN HT HM
          go_wp2_with (go_at_call 31; go_loud ((
            refine HCc.out.mono ?_
            rintro r w1 ⟨rfl, hw⟩
            have hw := hw.symm
            subst hw)))
          go_roundw
          case rel => exact ⟨k + 1, hlt, by go_num, HN2, trivial⟩
          case measure => simp [intOf]; omega
      · have hkI : ¬ (k : Int) < (e.length : Int) := by omega
        have hE : (e.isEmpty || e.any nsB) = false := by
          have h := HN.out
          rw [List.take_of_length_le (by omega)] at h
          rw [h]
          have := HZ.out
          cases e with
          | nil => simp at this
          | cons x xs => rfl
        by_cases hgt : (e.length : Int) > 32
        · have hR : R = 3 := by
            rw [HF.out, show chkN e = some 2 by
              unfold chkN
              rw [hE, if_neg (by simp), if_pos (by omega)]]
            rfl
          subst hR
          clear HF HA HL HI HN hE
          go_wp2
          go_ret
          exact ⟨rfl, 0, rfl⟩
        · have HF2 : Hid (R = if e ∈ L.take i then 5 else 0) := hid0 (by
            rw [HF.out, show chkN e = none by
              unfold chkN
              rw [hE, if_neg (by simp), if_neg (by omega)]])
          clear HF HN hE
          go_wp2
          go_loopw [8] (fun j wx => ∃ k m : Nat, k ≤ i ∧ j = .int .i64 (k : Int) ∧ Hid (e ∉ L.take k) ∧ wx = wr.drewN m) (fun j _ => i - (intOf j).toNat)
          case atStart => exact ⟨0, 0, Nat.zero_le _, rfl, hid0 (by simp), rfl⟩
          case round =>
            obtain ⟨j, m, hj, rfl, HN, rfl⟩ := hrel
            by_cases hji : j < i
            · have hjI : (j : Int) < (i : Int) := by omega
              have hjI0 : (0 : Int) ≤ (j : Int) := by omega
              have hjL : (j : Int) < (L.length : Int) := by omega
              obtain ⟨b3, o3, e3, hb3, a3, c3, hc3, hi3⟩ := HA.out.at' j (by omega)
              injection e3 with e3
              injection e3 with e4 e5
              subst e4 e5
              have HSa := hid0 (sameInts_any (L[j]'(by omega)) e a3 a1 c3 c1 (wr.drewN m) (by have := HL.out _ (List.getElem_mem (show j < L.length by omega)); omega) ⟨hi3.at'⟩ ⟨HI.out.at'⟩)
              have HTk : Hid (L.take (j + 1) = L.take j ++ [L[j]'(by omega)]) := hid0 (by rw [List.take_add_one, List.getElem?_eq_getElem (by omega)]; rfl)
              have HLt : Hid (L[j]'(by omega) ∈ L.take i) := hid0 (by
                rw [List.mem_take_iff_getElem]
                exact ⟨j, by omega, rfl⟩)
              generalize L[j]'(by omega) = e2 at *
              clear hi3
              by_cases hee : e2 = e
              · have hR : R = 5 := by rw [HF2.out, if_pos (by rw [← hee]; exact HLt.out)]
                subst hR
                rw [decide_eq_true hee] at HSa
                clear hee HF2 HTk HLt HN
                go_wp2_with (go_at_call 16; go_loud ((
                  refine HSa.out.mono ?_
                  rintro r w1 ⟨rfl, n1, rfl⟩)))
                go_ret
                exact ⟨rfl, _, rfl⟩
              · have HN2 : Hid (e ∉ L.take (j + 1)) := hid0 (by
                  rw [HTk.out]
                  simp only [List.mem_append, List.mem_singleton, not_or]
                  exact ⟨HN.out, fun h => hee h.symm⟩)
                rw [decide_eq_false hee] at HSa
                clear hee HTk HLt HN
                go_wp2_with (go_at_call 16; go_loud ((
                  refine HSa.out.mono ?_
                  rintro r w1 ⟨rfl, n1, rfl⟩)))
                go_roundw
                case rel => exact ⟨j + 1, _, hji, by go_num, HN2, rfl⟩
                case measure => simp [intOf]; omega
            · have hjI : ¬ (j : Int) < (i : Int) := by omega
              have hR : R = 0 := by
                rw [HF2.out, if_neg]
                have h := HN.out
                rw [show j = i by omega] at h
                exact h
              subst hR
              clear HF2 HN
              go_wp2
              go_ret
              exact ⟨rfl, _, rfl⟩
end Go.Proofs.YtbmoeoinhlkmbaaDoor
namespace Go.Proofs.YtbmoeoinhlkmbaaDoor
open Go.RowKit Go.Shelf Go.Lib Go.Maps
theorem app_nilI (w : World) (ty : TypeId) : (Builtin.append_ #[23, 23] ty #[.slice none 0 0, .slice none 0 0]).run Tryd.prog w = .ok (.slice none 0 0) w := by
  go_simp
theorem wpList_spreadI {ops : Array Oper} {rest : List Oper} {op : Oper} {a : Act} {w : World} {Q : Exit → Act → World → Prop} (hgd : op.guard = none) (s x : Operand) (ho : op.op = .call { callee := .builtin .append, args := #[s, x], argTypes := #[23, 23] })
    (aN : Option Addr) (L : List Int) (cN base : Nat) (hs : a.eval s = .slice none 0 0) (hx : a.eval x = .slice aN L.length cN) (hnil : aN = none → cN = 0) (ha : IA w aN L) (hl : L.length ≤ 17592186044416) (hb : base ≤ w.heap.size)
    (h : ∀ v' w', OwnI w' base v' L → w.grownBy w' none → wpList Tryd.prog ops Q rest (a.put op.dst v') w') : wpList Tryd.prog ops Q (op :: rest) a w := by
  obtain ⟨i0, hi, hz0, hz1, hz2⟩ := info_parts infoInt
  cases aN with
  | none =>
    have hL : L = [] := by
      cases L with
      | nil => rfl
      | cons y r => obtain ⟨b, off, e, _⟩ := ha.at' 0 (by simp); cases e
    subst hL
    have hc := hnil rfl
    subst hc
    refine wpList_plain hgd fun K hK => ?_
    have hr := app_nilI w op.type
    unfold Oper.wp execOp
    simp only [ho, resolve, invoke, builtin, Sem.run_bind, Sem.run_pure, Result.andThen_ok, List.map_toArray, List.map_cons, List.map_nil, hs, hx, List.length_nil, hr]
    exact hK _ _ (h _ _ (World.ownsRow_nil _ _ _ _) ⟨rfl, rfl, rfl, Nat.le_refl _, fun _ _ _ => rfl⟩)
  | some ad =>
    refine wpList_append_own _ hgd s x 23 ho base 3 i0 (.int .i64 0) 1 8 Tryd.underlying23 hi hz0 hz1 hz2 rfl (by decide) (.slice none 0 0) 0 [] hs (World.ownsRow_nil _ _ _ _) ad L.length cN (L.map (Value.int .i64)) hx (by simp) (fun j u hu => ?_) (fun u hu => by obtain ⟨y, _, rfl⟩ := List.mem_map.1 hu; rfl) (by unfold maxLen; omega) (by omega) hb (fun v' w' h1 h2 _ => h v' w' (by rw [Nat.zero_add, List.nil_append] at h1; exact h1) h2)
    have hj : j < L.length := by have := (List.getElem?_eq_some_iff.1 hu).1; simpa using this
    obtain ⟨b, off, e, h1, h2⟩ := ha.at' j hj
    cases e
    rw [Addr.add_mid, h2]
    have : (L.map (Value.int .i64))[j]? = some (.int .i64 L[j]) := by simp [hj]
    rw [this] at hu
    exact hu
/-- The document's trie in memory. -/
structure RTr (w : World) (U : Nat) (E : List (List Int)) (a : Option Addr) (c : Nat) : Prop where
  at' : w.cell? ⟨U, 0, none⟩ = some (.slice a E.length c)
  row : RwA w a E
theorem RTr.past {w w' : World} {U : Nat} {E : List (List Int)} {a : Option Addr} {c : Nat} (h : RTr w U E a c) (hb : Below w.heap.size w w') : RTr w' U E a c :=
  ⟨(hb.cell (p := ⟨U, 0, none⟩) (World.block_lt_of_cell? w _ h.at')).trans h.at', h.row.past hb⟩
/-- The same, while it is made. -/
structure Nst (w : World) (U : Nat) (v : Value) (E : List (List Int)) (vs : List Value) : Prop where
  box : w.heap[U]? = some (.cells #[v] 49 (0, 0))
  own : w.ownsRow (U + 1) 23 1 v E.length vs
  row : ∀ k (h : k < E.length), ∃ a c, vs[k]? = some (.slice a (E[k]).length c) ∧ IA w a E[k] ∧ ∀ p, a = some p → U < p.block ∧ p.block < w.heap.size ∧ v.ownBlock ≠ some p.block
theorem Nst.nil (w : World) : Nst (w.alloc (.cells #[.slice none 0 0] 49)) w.heap.size (.slice none 0 0) [] [] := ⟨heap_alloc_new _ _, World.ownsRow_nil _ _ _ _, fun _k h => absurd h (Nat.not_lt_zero _)⟩
theorem Nst.past {w w' : World} {U : Nat} {v : Value} {E : List (List Int)} {vs : List Value} (h : Nst w U v E vs) (hb : Below w.heap.size w w') : Nst w' U v E vs :=
  ⟨(hb.block U (Array.getElem?_eq_some_iff.1 h.box).1).trans h.box, own_blk h.own (fun k e => hb.block k (World.ownsRow.lt h.own k e).2), fun k hk => by
    obtain ⟨a, c, h1, h2, h3⟩ := h.row k hk
    exact ⟨a, c, h1, h2.past hb, fun p hp => ⟨(h3 p hp).1, Nat.lt_of_lt_of_le (h3 p hp).2.1 hb.size, (h3 p hp).2.2⟩⟩⟩
theorem IA.only {w w' : World} {S : Nat → Prop} {a : Option Addr} {L : List Int} (h : IA w a L) (ho : Only w w' S) (hs : ∀ p, a = some p → ¬ S p.block) : IA w' a L := ⟨fun k hk => by
  obtain ⟨b, off, rfl, h1, h2⟩ := h.at' k hk
  exact ⟨b, off, rfl, Nat.lt_of_lt_of_le h1 ho.size, (ho.cell (p := ⟨b, off + k, none⟩) h1 (hs ⟨b, off, none⟩ rfl)).trans h2⟩⟩
theorem OwnI.blk {w : World} {base : Nat} {v : Value} {L : List Int} (h : OwnI w base v L) : ∃ a cap, v = .slice a L.length cap ∧ IA w a L ∧ ∀ p, a = some p → base ≤ p.block ∧ p.block < w.heap.size := by
  have h0 := h
  obtain ⟨a, cap, e, hia⟩ := OwnI.ia h0
  refine ⟨a, cap, e, hia, fun p hp => ?_⟩
  rcases h.2 with ⟨rfl, _⟩ | ⟨g, cap', cur, rfl, _⟩
  · injection e with e1
    rw [hp] at e1
    cases e1
  · injection e with e1
    rw [hp] at e1
    injection e1 with e1
    subst e1
    exact World.ownsRow.lt h0 g rfl
/-- One more entry. -/
theorem Nst.snoc {w w1 w2 : World} {U c : Nat} {v v2 : Value} {E : List (List Int)} {vs : List Value} {e : List Int} {a : Option Addr} {o : Obj} {n : Nat} (hn : n = E.length) (h : Nst w U v E vs) (hb : Below w.heap.size w w1) (hia : IA w1 a e) (hab : ∀ p, a = some p → w.heap.size ≤ p.block ∧ p.block < w1.heap.size)
    (hown : w2.ownsRow (U + 1) 23 1 v2 (n + 1) (vs ++ [.slice a e.length c])) (hg : (w1.alloc o).grownBy w2 v.ownBlock) (hat : v2.ownBlock = v.ownBlock ∨ v2.ownBlock = some (w1.alloc o).heap.size) :
    Nst (w2.setCell ⟨U, 0, none⟩ v2) U v2 (E ++ [e]) (vs ++ [.slice a e.length c]) ∧ Below U w (w2.setCell ⟨U, 0, none⟩ v2) ∧ w2.cell? ⟨U, 0, none⟩ = some v ∧ w2.frozen? ⟨U, 0, none⟩ = false := by
  subst hn
  have hUl := (Array.getElem?_eq_some_iff.1 h.box).1
  have hs1 := hb.size
  have hvo : ∀ g, v.ownBlock = some g → U + 1 ≤ g ∧ g < w.heap.size := fun g e => World.ownsRow.lt h.own g e
  have ho1 : Only w1 w2 (fun k => v.ownBlock = some k) := ((Only.alloc w1 o (fun k => v.ownBlock = some k))).trans (T := fun k => v.ownBlock = some k) ⟨hg.os, hg.tape, hg.output, hg.size, fun k hk hn => hg.block k hk (fun e => hn e.symm)⟩ (fun i hi => .inl hi)
  have hbox : w2.heap[U]? = some (.cells #[v] 49 (0, 0)) := ((ho1.block U (by omega) (fun e => by have := hvo _ e; omega)).trans (hb.block U hUl)).trans h.box
  have ho2 : Only w1 (w2.setCell ⟨U, 0, none⟩ v2) (fun k => k = U ∨ v.ownBlock = some k) := (ho1.mono (fun i hi => .inr hi)).trans ((Only.setCell _ _ _ _).mono (fun i hi => .inl hi)) (fun i hi => .inl hi)
  have hne2 : ∀ p : Addr, U < p.block → v.ownBlock ≠ some p.block → p.block < w1.heap.size → v2.ownBlock ≠ some p.block := fun p h1 h2 h3 h4 => by
    rcases hat with e | e
    · rw [e] at h4; exact h2 h4
    · rw [e] at h4
      simp at h4
      omega
  have hvs : vs.length = E.length := by have := h.own.1; omega
  refine ⟨⟨(heap_setCell_same _ _ 0 _ _ _ hbox).trans (by simp), ?_, fun k hk => ?_⟩, ?_, by rw [cell_of_row _ _ _ _ _ _ hbox]; rfl, by simp [World.frozen?, hbox]⟩
  · rw [List.length_append]
    exact own_blk hown (fun k e => setCell_block_ne (by have := (World.ownsRow.lt hown k e).1; omega))
  · by_cases hlt : k < E.length
    · obtain ⟨a1, c1, h1, h2, h3⟩ := h.row k hlt
      rw [List.getElem_append_left hlt]
      refine ⟨a1, c1, by rw [List.getElem?_append_left (by omega)]; exact h1, (h2.past hb).only ho2 (fun p hp => ?_), fun p hp => ⟨(h3 p hp).1, ?_, hne2 p (h3 p hp).1 (h3 p hp).2.2 ?_⟩⟩
      · have := h3 p hp
        rintro (q | q)
        · omega
        · exact this.2.2 q
      · have := (h3 p hp).2.1
        have := ho2.size
        omega
      · have := (h3 p hp).2.1
        omega
    · have hke : k = E.length := by simp at hk; omega
      subst hke
      rw [List.getElem_append_right (Nat.le_refl _)]
      simp only [Nat.sub_self, List.getElem_cons_zero]
      refine ⟨a, c, by rw [List.getElem?_append_right (by omega)]; simp [hvs], hia.only ho2 (fun p hp => ?_), fun p hp => ?_⟩
      · have := hab p hp
        rintro (q | q)
        · omega
        · have := hvo _ q; omega
      · have h1 := hab p hp
        have h2 := ho2.size
        exact ⟨by omega, by omega, hne2 p (by omega) (fun q => by have := hvo _ q; omega) h1.2⟩
  · exact (hb.mono (by omega)).trans (ho2.below (by omega) (by
      rintro i (e | e)
      · omega
      · have := hvo _ e; omega))
/-- What the document's New answers. -/
def RNewR (w : World) (L : List (List Int)) (r : Ending) (w' : World) : Prop :=
  Below w.heap.size w w' ∧ ((∃ k : Nat, newE L = some k ∧ r = .returned (.tuple #[.pointer none, .int .i64 ((k : Int) + 1)])) ∨ (newE L = none ∧ ∃ U a c, r = .returned (.tuple #[.pointer (some ⟨U, 0, none⟩), .int .i64 0]) ∧ RTr w' U L a c ∧ ∀ V : World, Agree w' V w.heap.size → RTr V U L a c))
theorem flt_cases {L : List (List Int)} {k : Nat} (hk : k < L.length) : (∃ j : Nat, fltN L k = (j : Int) + 1 ∧ nwK (L.take k) (L.drop k) = some j) ∨ (fltN L k = 0 ∧ nwK (L.take k) (L.drop k) = nwK (L.take (k + 1)) (L.drop (k + 1)) ∧ L[k] ≠ [] ∧ L[k].length ≤ 32) := by
  have h1 := nwK_step hk
  have h2 : fltN L k = match chkN L[k] with
    | some k => (k : Int) + 1
    | none => if L[k] ∈ L.take k then 5 else 0 := by
      unfold fltN
      rw [List.getD_eq_getElem?_getD, List.getElem?_eq_getElem hk]
      rfl
  cases hq : chkN L[k] with
  | some j =>
    rw [hq] at h1 h2
    exact .inl ⟨j, h2, h1⟩
  | none =>
    rw [hq] at h1 h2
    by_cases he : L[k] ∈ L.take k
    · simp only [if_pos he] at h1 h2
      exact .inl ⟨4, h2, h1⟩
    · simp only [if_neg he] at h1 h2
      exact .inr ⟨h2, h1, (chkN_none hq).1, (chkN_none hq).2.1⟩
theorem Nst.keep {w V : World} {U : Nat} {v : Value} {E : List (List Int)} {vs : List Value} (h : Nst w U v E vs) (ha : Agree w V U) : Nst V U v E vs :=
  ⟨(ha.block U (Nat.le_refl _) (Array.getElem?_eq_some_iff.1 h.box).1).trans h.box, own_blk h.own (fun k e => ha.block k (by have := (World.ownsRow.lt h.own k e).1; omega) (World.ownsRow.lt h.own k e).2), fun k hk => by
    obtain ⟨a, c, h1, h2, h3⟩ := h.row k hk
    refine ⟨a, c, h1, ⟨fun q hq => ?_⟩, fun p hp => ⟨(h3 p hp).1, Nat.lt_of_lt_of_le (h3 p hp).2.1 ha.size, (h3 p hp).2.2⟩⟩
    obtain ⟨b, off, rfl, q1, q2⟩ := h2.at' q hq
    have := (h3 _ rfl).1
    exact ⟨b, off, rfl, Nat.lt_of_lt_of_le q1 ha.size, (World.cell?_of_block (w := w) (a := ⟨b, off + q, none⟩) (ha.block b (Nat.le_of_lt this) q1)).trans q2⟩⟩
theorem Nst.done {w : World} {U : Nat} {v : Value} {E : List (List Int)} {vs : List Value} (h : Nst w U v E vs) : ∃ a c, RTr w U E a c ∧ ∀ V : World, Agree w V U → RTr V U E a c := by
  have key : ∃ a c, v = .slice a E.length c ∧ ∀ V : World, Nst V U v E vs → RTr V U E a c := by
    rcases h.own.2 with ⟨e, hn⟩ | ⟨g, cap, cur, e, _⟩
    · refine ⟨none, 0, by rw [e, hn], fun V hV => ⟨?_, ⟨fun k hk => by omega⟩⟩⟩
      rw [cell_of_row _ _ _ _ _ _ hV.box, hn]
      simp [e]
    · refine ⟨_, cap, e, fun V hV => ⟨?_, ⟨fun k hk => ?_⟩⟩⟩
      · rw [cell_of_row _ _ _ _ _ _ hV.box, ← e]
        rfl
      · obtain ⟨a1, c1, h1, h2, _⟩ := hV.row k hk
        have h0 := hV.own
        rw [e] at h0
        refine ⟨g, 0, rfl, (World.ownsRow.lt h0 g rfl).2, a1, c1, ?_, h2⟩
        rw [Nat.zero_add, World.ownsRow.cellAt h0 k (by omega)]
        exact h1
  obtain ⟨a, c, _, hk⟩ := key
  exact ⟨a, c, hk w h, fun V hV => hk V (h.keep hV)⟩
set_option maxRecDepth 10000 in
set_option maxHeartbeats 1600000 in
theorem refNew_any (L : List (List Int)) (a : Option Addr) (ca : Nat) (w : World) (ha : RwA w a L) (hl : ∀ e ∈ L, e.length ≤ 1000000000) :
    Calls Tryd.prog 5 #[.slice a L.length ca] w fun r w' => RNewR w L r w' := by
  by_cases h2 : (L.length : Int) > 2000
  · have HR : Hid (RNewR w L (.returned (.tuple #[.pointer none, .int .i64 3])) w) := hid0 ⟨Below.refl _ _, .inl ⟨2, by unfold newE; rw [if_pos (by omega)], rfl⟩⟩
    clear ha hl
    go_enter Tryd.func5, Tryd.ntmps5
    go_wp2
    go_returns
    exact HR.out
  · have HA := hid0 ha
    have HL := hid0 hl
    have hL2 : L.length ≤ 2000 := by omega
    have HN0 := hid0 (Nst.nil w)
    have HNE : Hid (nwK [] L = newE L) := hid0 (by unfold newE; rw [if_neg (by omega)])
    obtain ⟨i0, hi, hz0, hz1, hz2⟩ := info_parts infoInts
    clear ha hl
    go_enter Tryd.func5, Tryd.ntmps5
    go_wp2
    go_loopw [5] (fun i wr => ∃ (k : Nat) (v : Value) (vs : List Value), k ≤ L.length ∧ i = .int .i64 (k : Int) ∧ Hid (Nst wr w.heap.size v (L.take k) vs) ∧ Hid (nwK (L.take k) (L.drop k) = newE L) ∧ Hid (Below w.heap.size w wr)) (fun i _ => L.length - (intOf i).toNat)
    case atStart => exact ⟨0, _, [], Nat.zero_le _, rfl, HN0, HNE, hid0 ((Below.refl _ _).alloc (Nat.le_refl _) _)⟩
    case round =>
      obtain ⟨k, v, vs, hk, rfl, HN, HE, HB⟩ := hrel
      clear HN0 HNE
      by_cases hlt : k < L.length
      · have hkI : (k : Int) < (L.length : Int) := by omega
        have hkI0 : (0 : Int) ≤ (k : Int) := by omega
        have HF := hid0 (fault_any L a ca k wr (HA.out.past HB.out) hlt (by omega) HL.out)
        rcases flt_cases hlt with ⟨j, hf, hn⟩ | ⟨hf, hn, hne, hel⟩
        · rw [hf] at HF
          have HR : Hid (∀ m, RNewR w L (.returned (.tuple #[.pointer none, .int .i64 ((j : Int) + 1)])) (wr.drewN m)) := hid0 (fun m => ⟨below_drew' HB.out m, .inl ⟨j, by rw [← HE.out, hn], rfl⟩⟩)
          have hj0 : ¬ (j : Int) + 1 = 0 := by omega
          have hj1 : (((j : Int) + 1) != 0) = true := by simp; omega
          have hj2 : (((j : Int) + 1) == 0) = false := by simp; omega
          clear hf hn HN HE HB HA HL
          go_wp2_with (go_at_call 17; go_loud ((
            refine HF.out.mono ?_
            rintro r w1 ⟨rfl, m1, rfl⟩)))
          go_returns
          exact HR.out _
        · rw [hf] at HF
          obtain ⟨b, off, e0, hbl, a1, c1, hc1, hia⟩ := (HA.out.past HB.out).at' k hlt
          have HXa := hid0 e0
          subst e0
          have HTk : Hid (L.take (k + 1) = L.take k ++ [L[k]]) := hid0 (by rw [List.take_add_one, List.getElem?_eq_getElem hlt]; rfl)
          have HE2 : Hid (nwK (L.take (k + 1)) (L.drop (k + 1)) = newE L) := hid0 (by rw [← hn]; exact HE.out)
          have HI := hid0 hia
          have HNn : Hid (a1 = none → c1 = 0) := hid0 (fun e => by
            obtain ⟨b', off', e', _⟩ := hia.at' 0 (List.length_pos_iff.2 hne)
            rw [e] at e'
            cases e')
          have HLe : Hid ((L.take k).length = k) := hid0 (by rw [List.length_take]; omega)
          have HF2 : Hid (Calls Tryd.prog 17 #[.slice (some ⟨b, off, none⟩) L.length ca, .int .i64 (k : Int)] wr fun r w' => r = .returned (.int .i64 0) ∧ Below wr.heap.size wr w') := hid0 (HF.out.mono (by
            rintro r w1 ⟨rfl, m1, rfl⟩
            exact ⟨rfl, below_drew' (Below.refl _ _) m1⟩))
          clear hf hn hia HF HE
          generalize L[k] = e at *
          have HCx : Hid (∀ V : World, Below wr.heap.size wr V → V.cell? ⟨b, off + k, none⟩ = some (.slice a1 e.length c1)) := hid0 (fun V hV => (hV.cell (p := ⟨b, off + k, none⟩) hbl).trans hc1)
          have hbs := HB.out.size
          have hUw : w.heap.size < wr.heap.size := (Array.getElem?_eq_some_iff.1 HN.out.box).1
          clear hc1 hbl hne HXa
          go_wp2_with (first
            | (have hq := HQ2.out; at_builtin; go_loud ((
                refine wpList_append_own_at _ rfl _ _ 22 rfl (w.heap.size + 1) 23 i0 (.slice none 0 0) 1 24 Tryd.underlying22 hi hz0 hz1 hz2 rfl (by decide) _ k vs rfl (World.ownsRow.alloc HOO.out _) ⟨w2.heap.size, 0, none⟩ 1 1 [.slice a2 e.length c2] rfl rfl (cell_one_new _ _ _) (by simp [Value.oneCell']) (by unfold maxLen; omega) (by omega) (by simp; omega) ?_
                intro v3 w3 hown3 hgrow3 _ hat3
                obtain ⟨g3, c3, rfl, _⟩ := own_form hown3 (by omega)
                obtain ⟨n1, n2, n3, n4⟩ := Nst.snoc HLe.out.symm HN1.out hq.1 hq.2.1 hq.2.2 hown3 hgrow3 hat3
                have HN3 := hid0 n1
                have HB3 := hid0 n2
                clear hown3 hgrow3 hat3 n1 n2 hq)))
            | (at_builtin; go_loud ((
                refine wpList_spreadI rfl _ _ rfl a1 e c1 w1.heap.size rfl rfl HNn.out (HI.out.past HB1.out) (by omega) (Nat.le_refl _) ?_
                intro v2 w2 hown2 hgrow2
                have hb2 := (Below.refl w1.heap.size w1).grown hgrow2 (Nat.le_refl _) (fun k hk => by cases hk)
                obtain ⟨a2, c2, rfl, hia2, hab2⟩ := OwnI.blk hown2
                have hs2 := hb2.size
                have HQ2 : Hid (Below w1.heap.size w1 w2 ∧ IA w2 a2 e ∧ ∀ p, a2 = some p → w1.heap.size ≤ p.block ∧ p.block < w2.heap.size) := hid0 ⟨hb2, hia2, hab2⟩
                have HOO : Hid (w2.ownsRow (w.heap.size + 1) 23 1 v k vs) := hid0 (by
                  have h := (HN1.out.past hb2).own
                  rw [HLe.out] at h
                  exact h)
                have hbx : w2.cell? ⟨w.heap.size, 0, none⟩ = some v := by rw [cell_of_row _ _ _ _ _ _ (HN1.out.past hb2).box]; rfl
                clear hown2 hgrow2 hb2 hia2 hab2)))
            | (go_at_call 17; go_loud ((
                refine HF2.out.mono ?_
                rintro r w1 ⟨rfl, hb1⟩
                have HB1 := hid0 hb1
                have hc1 := HCx.out w1 hb1
                have hs1 := hb1.size
                have HN1 := hid0 (HN.out.past hb1)
                clear hb1 HF2)))
            | fail)
          go_roundw
          case rel => exact ⟨k + 1, _, _, hlt, by go_num, by rw [HTk.out]; exact HN3, HE2, hid0 (HB.out.trans ((HB1.out.mono hbs).trans HB3.out))⟩
          case measure => simp [intOf]; omega
      · have hkI : ¬ (k : Int) < (L.length : Int) := by omega
        obtain ⟨a9, c9, hT⟩ := HN.out.done
        rw [List.take_of_length_le (by omega)] at hT
        have HR : Hid (RNewR w L (.returned (.tuple #[.pointer (some ⟨w.heap.size, 0, none⟩), .int .i64 0])) wr) := hid0 ⟨HB.out, .inr ⟨by rw [← HE.out, show k = L.length by omega, List.drop_length]; rfl, _, a9, c9, rfl, hT.1, hT.2⟩⟩
        clear hT HN HE HB
        go_wp2
        go_returns
        exact HR.out
end Go.Proofs.YtbmoeoinhlkmbaaDoor
namespace Go.Proofs.YtbmoeoinhlkmbaaDoor
open Go.RowKit Go.Shelf Go.Lib Go.Maps
/-- The last m of a list. -/
def sufN (q : List Int) (m : Nat) : List Int := q.drop (q.length - m)
/-- The ends that are entries, longer than m. -/
def hiF (E : List (List Int)) (q : List Int) (m : Nat) : List (List Int) := (endsF E q).filter fun e => decide (m < e.length)
section
variable {E : List (List Int)} {q : List Int} {m : Nat}
theorem hiF_big (h : q.length ≤ m) : hiF E q m = [] := List.filter_eq_nil_iff.2 (fun e he => by
  have := (ends_mem he).2.1.length_le
  simp
  omega)
theorem hiF_top (h : ∀ e ∈ E, e.length ≤ 32) (q : List Int) : hiF E q 32 = [] := List.filter_eq_nil_iff.2 (fun e he => by
  have := h e (ends_mem he).1
  simp
  omega)
theorem hiF_zero (E : List (List Int)) (q : List Int) : hiF E q 0 = endsF E q := List.filter_eq_self.2 (fun _e he => decide_eq_true (List.length_pos_iff.2 (ends_mem he).2.2))
theorem hiF_cons {x : Int} {xs : List Int} (h : m < xs.length + 1) : hiF E (x :: xs) m = (if (x :: xs) ∈ E then [x :: xs] else []) ++ hiF E xs m := by
  unfold hiF
  rw [endsF]
  split
  · rw [List.filter_cons, if_pos (by simp; omega)]
    rfl
  · rfl
end
/-- What is found of the length m among the first i entries. -/
def miF (E : List (List Int)) (q : List Int) (m i : Nat) : List (List Int) := if m ≤ q.length ∧ sufN q m ∈ E.take i then [sufN q m] else []
theorem hiF_step (E : List (List Int)) (q : List Int) (m : Nat) : hiF E q m = hiF E q (m + 1) ++ miF E q (m + 1) E.length := by
  unfold miF
  rw [List.take_length]
  induction q with
  | nil => rfl
  | cons x xs ih =>
    by_cases h1 : m + 1 ≤ xs.length
    · have hs : sufN (x :: xs) (m + 1) = sufN xs (m + 1) := by
        unfold sufN
        rw [List.length_cons, show xs.length + 1 - (m + 1) = (xs.length - (m + 1)) + 1 by omega, List.drop_succ_cons]
      rw [hiF_cons (by omega), hiF_cons (by omega), ih, hs, List.append_assoc, List.length_cons]
      have e : (m + 1 ≤ xs.length + 1 ∧ sufN xs (m + 1) ∈ E) ↔ (m + 1 ≤ xs.length ∧ sufN xs (m + 1) ∈ E) := ⟨fun h => ⟨h1, h.2⟩, fun h => ⟨by omega, h.2⟩⟩
      simp only [e]
    · by_cases h2 : m = xs.length
      · have hs : sufN (x :: xs) (m + 1) = x :: xs := by
          unfold sufN
          rw [List.length_cons, show xs.length + 1 - (m + 1) = 0 by omega]
          rfl
        rw [hiF_cons (by omega), hiF_big (q := xs) (by omega), hiF_big (q := x :: xs) (m := m + 1) (by simp; omega), hs, List.append_nil, List.nil_append]
        by_cases h3 : (x :: xs) ∈ E
        · rw [if_pos h3, if_pos ⟨by simp; omega, h3⟩]
        · rw [if_neg h3, if_neg (fun h => h3 h.2)]
      · rw [hiF_big (q := x :: xs) (by simp; omega), hiF_big (q := x :: xs) (by simp; omega), if_neg (fun h => by have := h.1; simp at this; omega)]
        rfl
theorem miF_zero (E : List (List Int)) (q : List Int) (m : Nat) : miF E q m 0 = [] := by simp [miF]
theorem miF_miss {E : List (List Int)} {q : List Int} {m i : Nat} (hi : i < E.length) (h : m ≤ q.length → sufN q m ≠ E[i]) : miF E q m (i + 1) = miF E q m i := by
  unfold miF
  have e : (m ≤ q.length ∧ sufN q m ∈ E.take (i + 1)) ↔ (m ≤ q.length ∧ sufN q m ∈ E.take i) := by
    rw [List.take_add_one, List.getElem?_eq_getElem hi]
    simp only [Option.toList_some, List.mem_append, List.mem_singleton]
    exact ⟨fun ⟨h1, h2⟩ => ⟨h1, h2.resolve_right (h h1)⟩, fun ⟨h1, h2⟩ => ⟨h1, .inl h2⟩⟩
  simp only [e]
theorem miF_hit {E : List (List Int)} {q : List Int} {m i : Nat} (hi : i < E.length) (hn : E.Nodup) (hm : m ≤ q.length) (h : sufN q m = E[i]) : miF E q m (i + 1) = miF E q m i ++ [E[i]] := by
  have h1 : sufN q m ∉ E.take i := fun h2 => by
    obtain ⟨j, hj, e⟩ := List.getElem_of_mem h2
    rw [List.length_take] at hj
    rw [List.getElem_take, h] at e
    have := List.pairwise_iff_getElem.1 hn j i (by omega) hi (by omega)
    exact this e
  have h2 : sufN q m ∈ E.take (i + 1) := by
    rw [List.take_add_one, List.getElem?_eq_getElem hi, h]
    exact List.mem_append_right _ (by simp)
  unfold miF
  rw [if_pos ⟨hm, h2⟩, if_neg (fun h3 => h1 h3.2), h]
  rfl
theorem numF_idx {E : List (List Int)} (hn : E.Nodup) {i : Nat} (hi : i < E.length) : numF E E[i] = i := by
  have hm : E[i] ∈ E := List.getElem_mem hi
  have h1 := numF_at hm
  have h2 := numF_lt hm
  rcases Nat.lt_trichotomy (numF E E[i]) i with h | h | h
  · exact absurd h1 (List.pairwise_iff_getElem.1 hn _ _ h2 hi h)
  · exact h
  · exact absurd h1.symm (List.pairwise_iff_getElem.1 hn _ _ hi h2 h)
theorem std_suf {e l : List Int} {k : Nat} (hk : k ≤ l.length) (he : e.length ≤ k) : stdB e l (k - e.length) = decide (sufN (l.take k) e.length = e) := by
  unfold stdB sufN
  rw [List.length_take, Nat.min_eq_left hk, List.drop_take, show k - (k - e.length) = e.length by omega]
/-- What the document's All has when it is at the end k + 1, the length m, the entry i. -/
def reK (E : List (List Int)) (l : List Int) (k m i : Nat) : List Fd := allK E l k ++ (hiF E (l.take (k + 1)) m ++ miF E (l.take (k + 1)) m i).map (fdF E k)
section
variable {E : List (List Int)} {l : List Int} {k m i : Nat}
theorem reK_first (h : ∀ e ∈ E, e.length ≤ 32) : reK E l k 32 0 = allK E l k := by
  unfold reK
  rw [hiF_top h, miF_zero]
  simp
theorem reK_next : reK E l k (m + 1) E.length = reK E l k m 0 := by
  unfold reK
  rw [← hiF_step, miF_zero, List.append_nil]
theorem reK_last : reK E l k 0 0 = allK E l (k + 1) := by
  unfold reK
  rw [hiF_zero, miF_zero, List.append_nil]
  rfl
theorem reK_miss (hi : i < E.length) (hk : k < l.length) (h : E[i].length ≠ m ∨ k + 1 < m ∨ stI E[i] l ((k : Int) + 1 - (m : Int)) = false) : reK E l k m (i + 1) = reK E l k m i := by
  unfold reK
  rw [miF_miss hi (fun hm hs => ?_)]
  have hq : (l.take (k + 1)).length = k + 1 := by rw [List.length_take]; omega
  have hl : E[i].length = m := by
    rw [← hs]
    unfold sufN
    rw [List.length_drop]
    omega
  rcases h with h | h | h
  · exact h hl
  · omega
  · have h2 := std_suf (e := E[i]) (l := l) (k := k + 1) (by omega) (by omega)
    rw [hl, hs, decide_eq_true rfl] at h2
    rw [show ((k : Int) + 1 - (m : Int)) = ((k + 1 - m : Nat) : Int) by omega] at h
    simp [stI, h2] at h
theorem reK_hit (hi : i < E.length) (hn : E.Nodup) (hk : k < l.length) (hl : E[i].length = m) (hm : m ≤ k + 1) (h : stI E[i] l ((k : Int) + 1 - (m : Int)) = true) : reK E l k m (i + 1) = reK E l k m i ++ [((i : Int), (k : Int) + 1 - (m : Int), (k : Int) + 1)] := by
  have hq : (l.take (k + 1)).length = k + 1 := by rw [List.length_take]; omega
  have h2 := std_suf (e := E[i]) (l := l) (k := k + 1) (by omega) (by omega)
  rw [show ((k : Int) + 1 - (m : Int)) = ((k + 1 - m : Nat) : Int) by omega] at h
  simp only [stI, Int.toNat_natCast, Bool.and_eq_true] at h
  rw [hl] at h2
  rw [h2] at h
  have h3 := of_decide_eq_true h.2
  unfold reK
  rw [miF_hit hi hn (by omega) h3, ← List.append_assoc, List.map_append, ← List.append_assoc]
  simp only [List.map_cons, List.map_nil, fdF, numF_idx hn hi, hl]
theorem reK_len (h : ∀ e ∈ E, e.length ≤ 32) : (reK E l k m i).length ≤ 32 * k + 33 := by
  have h1 := allK_len h l k
  have h2 := ends_32 h (l.take (k + 1))
  have h3 := List.length_filter_le (fun e : List Int => decide (m < e.length)) (endsF E (l.take (k + 1)))
  have h4 : (miF E (l.take (k + 1)) m i).length ≤ 1 := by unfold miF; split <;> simp
  unfold reK
  rw [List.length_append, List.length_map, List.length_append]
  unfold hiF
  omega
end
end Go.Proofs.YtbmoeoinhlkmbaaDoor
namespace Go.Proofs.YtbmoeoinhlkmbaaDoor
open Go.RowKit Go.Shelf Go.Lib Go.Maps
theorem cell3_new (w : World) (a b c : Value) (t : TypeId) : ∀ j u, [a, b, c][j]? = some u → (w.alloc (.cells #[a, b, c] t)).cell? ((⟨w.heap.size, 0, none⟩ : Addr).add j) = some u := by
  intro j u h
  rw [Addr.add_lit, cell_of_row _ w.heap.size _ _ _ _ (heap_alloc_new w _), Nat.zero_add]
  simpa using h
set_option maxRecDepth 10000 in
set_option maxHeartbeats 2000000 in
theorem refAll_any {w : World} {U : Nat} {E : List (List Int)} {aE : Option Addr} {cE : Nat} (l : List Int) (aW : Option Addr) (cW : Nat) (hT : RTr w U E aE cE) (hG : Good E) (hE2 : E.length ≤ 2000) (hl : IA w aW l) (hll : l.length ≤ 1000000000) (hcl : l.length ≤ cW) :
    Calls Tryd.prog 7 #[.pointer (some ⟨U, 0, none⟩), .slice aW l.length cW] w fun r w' => AllR w (allK E l l.length) r w' := by
  obtain ⟨i0, hi, hz0, hz1, hz2⟩ := info_parts infoF
  have HT := hid0 hT
  have HG := hid0 hG
  have HL := hid0 hl
  have HX : Hid (∀ V : World, Below w.heap.size w V → V.cell? ⟨U, 0, none⟩ = some (.slice aE E.length cE)) := hid0 (fun V hV => (hT.past hV).at')
  clear hT hG hl
  go_enter Tryd.func7, Tryd.ntmps7
  go_wp2
  go_loopw [5, 6] (fun v i wr => ∃ k n : Nat, k ≤ l.length ∧ Hid (n = k + 1) ∧ n ≤ 1000000001 ∧ i = .int .i64 (n : Int) ∧ Hid (OwnF wr w.heap.size v (allK E l k)) ∧ Hid (Below w.heap.size w wr)) (fun _ i _ => l.length + 1 - (intOf i).toNat)
  case atStart => exact ⟨0, 1, Nat.zero_le _, hid0 rfl, by omega, rfl, hid0 (World.ownsRow_nil _ _ _ _), hid0 (Below.refl _ _)⟩
  case round =>
    obtain ⟨k, n, hk, HN, hn9, rfl, HO, HB⟩ := hrel
    by_cases hlt : k < l.length
    · have hnI : (n : Int) ≤ (l.length : Int) := by have := HN.out; omega
      have HO1 : Hid (OwnF wr w.heap.size u5 (reK E l k 32 0)) := hid0 (by rw [reK_first HG.out.len]; exact HO.out)
      clear HO
      go_wp2
      go_loopw [5, 7] (fun v i wr => ∃ m : Nat, m ≤ 32 ∧ i = .int .i64 (m : Int) ∧ Hid (OwnF wr w.heap.size v (reK E l k m 0)) ∧ Hid (Below w.heap.size w wr)) (fun _ i _ => (intOf i).toNat)
      case atStart => exact ⟨32, Nat.le_refl _, rfl, HO1, HB⟩
      case round =>
        clear HO1 HB
        obtain ⟨m, hm, rfl, HO, HB⟩ := hrel
        by_cases hm0 : 1 ≤ m
        · have hmI : (m : Int) ≥ 1 := by omega
          obtain ⟨m', HM⟩ : ∃ m', Hid (m = m' + 1) := ⟨m - 1, hid0 (by omega)⟩
          have HNx : Hid (reK E l k m E.length = reK E l k m' 0) := hid0 (by rw [HM.out]; exact reK_next)
          go_wp2
          go_loopw [5, 8] (fun v i wr => ∃ j : Nat, j ≤ E.length ∧ i = .int .i64 (j : Int) ∧ Hid (OwnF wr w.heap.size v (reK E l k m j)) ∧ Hid (Below w.heap.size w wr)) (fun _ i _ => E.length - (intOf i).toNat)
          case atStart => exact ⟨0, Nat.zero_le _, rfl, HO, HB⟩
          case round =>
            clear HO HB
            obtain ⟨j, hj, rfl, HO, HB⟩ := hrel
            have x0 := HX.out wr HB.out
            by_cases hje : j < E.length
            · have hjI : (j : Int) < (E.length : Int) := by omega
              have hjI0 : (0 : Int) ≤ (j : Int) := by omega
              obtain ⟨b, off, e0, hbl, a1, c1, hc1, hia⟩ := (HT.out.row.past HB.out).at' j hje
              subst e0
              have hel : E[j].length ≤ 32 := HG.out.len _ (List.getElem_mem hje)
              have HMs := hid0 (reK_miss (E := E) (l := l) (k := k) (m := m) hje hlt)
              have HHt := hid0 (reK_hit (E := E) (l := l) (k := k) (m := m) hje HG.out.nd hlt)
              have HNe : Hid (E[j] ≠ []) := hid0 (fun e0 => HG.out.ne (by rw [← e0]; exact List.getElem_mem hje))
              have HIa := hid0 hia
              clear hia hbl
              generalize E[j] = e at *
              by_cases hem : e.length = m
              · have hne1 : ((e.length : Int) != (m : Int)) = false := by rw [hem]; simp
                by_cases hmn : n < m
                · have hgt : (m : Int) > (n : Int) := by omega
                  have HR : Hid (reK E l k m (j + 1) = reK E l k m j) := hid0 (HMs.out (.inr (.inl (by have := HN.out; omega))))
                  clear HMs HHt HIa HNe hem
                  go_wp2
                  go_roundw
                  case rel => exact ⟨j + 1, hje, by go_num, hid0 (by rw [HR.out]; exact HO.out), HB⟩
                  case measure => simp [intOf]; omega
                · have hgt : ¬ (m : Int) > (n : Int) := by omega
                  obtain ⟨s, hs⟩ : ∃ s : Nat, (n : Int) - (m : Int) = (s : Int) := ⟨n - m, by omega⟩
                  have hw0 : IntKind.i64.wrap ((n : Int) - (m : Int)) = (s : Int) := by rw [hs]; simp [IntKind.wrap, IntKind.bits, IntKind.signed]; omega
                  have HSt := hid0 (refStands_any e l a1 aW c1 cW (s : Int) wr HIa.out (HL.out.past HB.out) (by omega) (by omega) hcl HNe.out)
                  have HSn : Hid ((k : Int) + 1 - (m : Int) = (s : Int) ∧ (k : Int) + 1 = (n : Int)) := hid0 (by have := HN.out; omega)
                  cases hq : stI e l (s : Int) with
                  | false =>
                    rw [hq] at HSt
                    have HR : Hid (reK E l k m (j + 1) = reK E l k m j) := hid0 (HMs.out (.inr (.inr (by rw [HSn.out.1]; exact hq))))
                    have HSt2 : Hid (Calls Tryd.prog 21 #[.slice a1 e.length c1, .slice aW l.length cW, .int .i64 (s : Int)] wr fun r w' => r = .returned (.bool false) ∧ Below wr.heap.size wr w') := hid0 (HSt.out.mono (by
                      rintro r w1 ⟨rfl, m1, rfl⟩
                      exact ⟨rfl, below_drew' (Below.refl _ _) m1⟩))
                    clear HMs HHt HIa HNe hem hq HSt HSn
                    go_wp2_with (go_at_call 21; go_loud ((
                      refine HSt2.out.mono ?_
                      rintro r w1 ⟨rfl, hb1⟩
                      have HB1 := hid0 hb1
                      clear hb1)))
                    go_roundw
                    case rel => exact ⟨j + 1, hje, by go_num, hid0 (by rw [HR.out]; exact HO.out.past HB1.out), hid0 (Below.later HB.out HB1.out)⟩
                    case measure => simp [intOf]; omega
                  | true =>
                    rw [hq] at HSt
                    have HR : Hid (reK E l k m (j + 1) = reK E l k m j ++ [((j : Int), (s : Int), (n : Int))]) := hid0 (by
                      have h := HHt.out hem (by have := HN.out; omega) (by rw [HSn.out.1]; exact hq)
                      rw [HSn.out.1, HSn.out.2] at h
                      exact h)
                    have HSt2 : Hid (Calls Tryd.prog 21 #[.slice a1 e.length c1, .slice aW l.length cW, .int .i64 (s : Int)] wr fun r w' => r = .returned (.bool true) ∧ Below wr.heap.size wr w') := hid0 (HSt.out.mono (by
                      rintro r w1 ⟨rfl, m1, rfl⟩
                      exact ⟨rfl, below_drew' (Below.refl _ _) m1⟩))
                    have HLn : Hid ((reK E l k m j).length ≤ 32000000100) := hid0 (by have := reK_len (E := E) (l := l) (k := k) (m := m) (i := j) HG.out.len; omega)
                    obtain ⟨L9, hL9⟩ : ∃ L9, reK E l k m j = L9 := ⟨_, rfl⟩
                    rw [hL9] at HO HR HLn
                    obtain ⟨n9, hn9'⟩ : ∃ n9, L9.length = n9 := ⟨_, rfl⟩
                    have HN9 := hid0 hn9'
                    have hl9 : n9 ≤ 32000000100 := by rw [← hn9']; exact HLn.out
                    have hbs := HB.out.size
                    clear HMs HHt HIa HNe hem hq HSt HSn hL9 hn9' HLn
                    go_wp2_with (first
                      | (have hq := HQ1.out; at_builtin; go_loud ((
                          refine wpList_append_own_at _ (by rfl) _ _ 36 (by rfl) w.heap.size 35 i0 (.agg #[.int .i64 0, .int .i64 0, .int .i64 0]) 3 24 Tryd.underlying36 hi hz0 hz1 hz2 rfl (by decide) _ n9 (cellsF L9) (by rfl) (World.ownsRow.alloc hq _) ⟨w1.heap.size, 0, none⟩ 1 1 [.int .i64 (j : Int), .int .i64 (s : Int), .int .i64 (n : Int)] (by rfl) (by rfl) (cell3_new _ _ _ _ _) (by simp [Value.oneCell']) (by unfold maxLen; omega) (by omega) (by simp; omega) ?_
                          intro v2 w2 hown2 hgrow2 _ hat2
                          have HO2 : Hid (OwnF w2 w.heap.size v2 (L9 ++ [((j : Int), (s : Int), (n : Int))])) := hid0 (by unfold OwnF; rw [cellsF_snoc, List.length_append, HN9.out]; exact hown2)
                          have HB2 : Hid (Below w.heap.size w w2) := hid0 (((Below.later HB.out HB1.out).alloc (by omega) _).grown hgrow2 (by simp; omega) (fun q hq' => (World.ownsRow.lt hq q hq').1))
                          clear hown2 hgrow2 hat2 hq)))
                      | (go_at_call 21; go_loud ((
                          refine HSt2.out.mono ?_
                          rintro r w1 ⟨rfl, hb1⟩
                          have HB1 := hid0 hb1
                          have hs1 := hb1.size
                          have HQ1 : Hid (w1.ownsRow w.heap.size 35 3 u5 n9 (cellsF L9)) := hid0 (by have h := HO.out.past hb1; unfold OwnF at h; rw [HN9.out] at h; exact h)
                          clear hb1 HSt2)))
                      | fail)
                    go_roundw
                    case rel => exact ⟨j + 1, hje, by go_num, hid0 (by rw [HR.out]; exact HO2.out), HB2⟩
                    case measure => simp [intOf]; omega
              · have hne1 : ((e.length : Int) != (m : Int)) = true := by simp; omega
                have HR : Hid (reK E l k m (j + 1) = reK E l k m j) := hid0 (HMs.out (.inl hem))
                clear HMs HHt HIa HNe hem
                go_wp2
                go_roundw
                case rel => exact ⟨j + 1, hje, by go_num, hid0 (by rw [HR.out]; exact HO.out), HB⟩
                case measure => simp [intOf]; omega
            · have hjI : ¬ (j : Int) < (E.length : Int) := by omega
              have HO2 : Hid (OwnF wr w.heap.size u5 (reK E l k m' 0)) := hid0 (by
                have h := HO.out
                rw [show j = E.length by omega, HNx.out] at h
                exact h)
              have hm'I : (m : Int) - 1 = (m' : Int) := by have := HM.out; omega
              have hm'l : m' ≤ 32 := by omega
              go_wp2
              go_roundw
              case rel => exact ⟨m', hm'l, by go_num, HO2, HB⟩
              case measure => simp [intOf]; omega
        · have hmI : ¬ (m : Int) ≥ 1 := by omega
          have HO2 : Hid (OwnF wr w.heap.size u5 (allK E l (k + 1))) := hid0 (by
            have h := HO.out
            rw [show m = 0 by omega, reK_last] at h
            exact h)
          have hnk : n = k + 1 := HN.out
          go_wp2
          go_roundw
          case rel => exact ⟨k + 1, n + 1, hlt, hid0 (by omega), by omega, by go_num, HO2, HB⟩
          case measure => simp [intOf]; omega
    · have hnI : ¬ (n : Int) ≤ (l.length : Int) := by have := HN.out; omega
      have HO2 : Hid (OwnF wr w.heap.size u5 (allK E l l.length)) := hid0 (by
        have h := HO.out
        rw [show k = l.length by omega] at h
        exact h)
      go_wp2
      go_ret
      exact ⟨_, rfl, HO2.out, HB.out⟩
end Go.Proofs.YtbmoeoinhlkmbaaDoor
namespace Go.Proofs.YtbmoeoinhlkmbaaDoor
open Go.RowKit Go.Shelf Go.Lib Go.Maps
/-- Is the entry i taken for the one that was the best so far? -/
def btB (E : List (List Int)) (o : Option Nat) (i : Nat) : Bool :=
  match o with
  | none => true
  | some j => decide ((E.getD j []).length < (E.getD i []).length)
/-- The first of the longest of which P says yes, among the first i. -/
def bstK (E : List (List Int)) (P : List Int → Bool) : Nat → Option Nat
  | 0 => none
  | i + 1 => if (P (E.getD i []) && btB E (bstK E P i) i) = true then some i else bstK E P i
def BstS (E : List (List Int)) (P : List Int → Bool) (i : Nat) : Option Nat → Prop
  | none => ∀ j, j < i → P (E.getD j []) = false
  | some j => j < i ∧ P (E.getD j []) = true ∧ ∀ j', j' < i → P (E.getD j' []) = true → (E.getD j' []).length ≤ (E.getD j []).length
theorem bst_spec (E : List (List Int)) (P : List Int → Bool) : ∀ i, BstS E P i (bstK E P i)
  | 0 => fun j h => absurd h (Nat.not_lt_zero j)
  | i + 1 => by
    have ih := bst_spec E P i
    rw [bstK]
    cases hp : P (E.getD i []) with
    | false =>
      rw [if_neg (by simp)]
      cases hb : bstK E P i with
      | none =>
        rw [hb] at ih
        intro j hj
        by_cases e : j = i
        · rw [e]; exact hp
        · exact ih j (by omega)
      | some j =>
        rw [hb] at ih
        refine ⟨by have := ih.1; omega, ih.2.1, fun j' hj' h => ?_⟩
        by_cases e : j' = i
        · rw [e, hp] at h; cases h
        · exact ih.2.2 j' (by omega) h
    | true =>
      cases hb : bstK E P i with
      | none =>
        rw [hb] at ih
        rw [if_pos (by simp [btB])]
        refine ⟨by omega, hp, fun j' hj' h => ?_⟩
        by_cases e : j' = i
        · rw [e]; exact Nat.le_refl _
        · rw [ih j' (by omega)] at h; cases h
      | some j =>
        rw [hb] at ih
        by_cases hl : (E.getD j []).length < (E.getD i []).length
        · rw [if_pos (by simp only [btB, Bool.true_and, decide_eq_true_eq]; exact hl)]
          refine ⟨by omega, hp, fun j' hj' h => ?_⟩
          by_cases e : j' = i
          · rw [e]; exact Nat.le_refl _
          · have := ih.2.2 j' (by omega) h; omega
        · rw [if_neg (by simp only [btB, Bool.true_and, decide_eq_true_eq]; exact hl)]
          refine ⟨by have := ih.1; omega, ih.2.1, fun j' hj' h => ?_⟩
          by_cases e : j' = i
          · rw [e]; omega
          · exact ih.2.2 j' (by omega) h
theorem bst_lt {E : List (List Int)} {P : List Int → Bool} {i j : Nat} (h : bstK E P i = some j) : j < i := by
  have := bst_spec E P i
  rw [h] at this
  exact this.1
theorem getD_at {E : List (List Int)} {i : Nat} (hi : i < E.length) : E.getD i [] = E[i] := by
  rw [List.getD_eq_getElem?_getD, List.getElem?_eq_getElem hi]
  rfl
theorem getD_num {E : List (List Int)} {e : List Int} (h : e ∈ E) : E.getD (numF E e) [] = e := by
  rw [getD_at (numF_lt h)]
  exact numF_at h
/-- Any longest one is that one. -/
theorem bst_of {E : List (List Int)} (hn : E.Nodup) {P : List Int → Bool} (hP : ∀ e ∈ E, ∀ e' ∈ E, P e = true → P e' = true → e.length = e'.length → e = e') {o : Option (List Int)}
    (ho : match o with
      | none => ∀ e ∈ E, P e = false
      | some e => e ∈ E ∧ P e = true ∧ ∀ e' ∈ E, P e' = true → e'.length ≤ e.length) : bstK E P E.length = o.map (numF E) := by
  have hs := bst_spec E P E.length
  cases o with
  | none =>
    cases hb : bstK E P E.length with
    | none => rfl
    | some j =>
      rw [hb] at hs
      have h1 := hs.1
      have h2 := hs.2.1
      rw [getD_at h1, ho _ (List.getElem_mem h1)] at h2
      cases h2
  | some e =>
    obtain ⟨h1, h2, h3⟩ := ho
    cases hb : bstK E P E.length with
    | none =>
      rw [hb] at hs
      have := hs _ (numF_lt h1)
      rw [getD_num h1, h2] at this
      cases this
    | some j =>
      rw [hb] at hs
      obtain ⟨h4, h5, h6⟩ := hs
      have h7 := h6 _ (numF_lt h1) (by rw [getD_num h1]; exact h2)
      rw [getD_num h1, getD_at h4] at h7
      rw [getD_at h4] at h5
      have h8 := h3 _ (List.getElem_mem h4) h5
      have h9 := hP _ (List.getElem_mem h4) e h1 h5 h2 (by omega)
      rw [Option.map_some, ← h9, numF_idx hn h4]
theorem std_len_eq {e e' l : List Int} {a : Nat} (h1 : stdB e l a = true) (h2 : stdB e' l a = true) (hl : e.length = e'.length) : e = e' := by
  have q1 := of_decide_eq_true h1
  have q2 := of_decide_eq_true h2
  rw [← q1, ← q2, hl]
theorem bst_lng {E : List (List Int)} (hG : Good E) (l : List Int) (t : Int) : bstK E (fun e => stI e l t) E.length = (lngO E l t).map (numF E) := by
  refine bst_of hG.nd (fun e _ e' _ h1 h2 hl => std_len_eq (stI_iff.1 h1).2 (stI_iff.1 h2).2 hl) ?_
  have h := lng_lon hG.ne l t
  cases hq : lngO E l t with
  | none => rw [hq] at h; exact h
  | some e => rw [hq] at h; exact h
/-- What Ending asks of an entry. -/
def enP (l : List Int) (t : Int) (e : List Int) : Bool := stI e l (t - (e.length : Int)) && decide (t ≥ (e.length : Int))
theorem bst_end {E : List (List Int)} (hG : Good E) (l : List Int) (t : Int) (ht : t ≤ (l.length : Int)) : bstK E (enP l t) E.length = (endO E l t).map (numF E) := by
  refine bst_of hG.nd (fun e _ e' _ h1 h2 hl => ?_) ?_
  · simp only [enP, Bool.and_eq_true] at h1 h2
    have q1 := (stI_iff.1 h1.1).2
    have q2 := (stI_iff.1 h2.1).2
    rw [← hl] at q2
    exact std_len_eq q1 q2 hl
  · have h := end_end hG.ne l t
    cases hq : endO E l t with
    | none =>
      rw [hq] at h
      intro e he
      unfold enP
      by_cases hle : (e.length : Int) ≤ t
      · rw [h e he hle ht]; rfl
      · rw [decide_eq_false (by omega)]; simp
    | some e =>
      rw [hq] at h
      obtain ⟨h1, h2, h3, h4, h5⟩ := h
      refine ⟨h1, ?_, fun e' he' hp => ?_⟩
      · unfold enP; rw [h4, decide_eq_true (by omega)]; rfl
      · simp only [enP, Bool.and_eq_true, decide_eq_true_eq] at hp
        exact h5 e' he' hp.2 hp.1
/-- Does one of the first k begin as e does up to m? -/
def bgK (E : List (List Int)) (e : List Int) (m k : Nat) : Bool := (E.take k).any fun e' => decide (e'.take m = e.take m)
theorem bgK_step {E : List (List Int)} {e : List Int} {m k : Nat} (hk : k < E.length) : bgK E e m (k + 1) = (bgK E e m k || decide (E[k].take m = e.take m)) := by
  unfold bgK
  rw [show E.take (k + 1) = E.take k ++ [E[k]] by rw [List.take_add_one, List.getElem?_eq_getElem hk]; rfl, List.any_append]
  simp
theorem bgK_beg {E : List (List Int)} {e : List Int} {m k : Nat} (h1 : 0 < m) (h2 : m ≤ e.length) : begB (E.take k) (e.take m) = bgK E e m k := by
  have hl : (e.take m).length = m := by rw [List.length_take]; omega
  have he : (e.take m).isEmpty = false := by
    cases hq : e.take m with
    | nil => rw [hq] at hl; simp at hl; omega
    | cons => rfl
  unfold begB bgK
  rw [he, Bool.false_or]
  congr 1
  funext e'
  rw [Bool.eq_iff_iff, List.isPrefixOf_iff_prefix, List.prefix_iff_eq_take, hl, decide_eq_true_eq]
  exact eq_comm
/-- What a number of an entry is in what is answered. -/
def onK : Option Nat → Int
  | none => 0
  | some j => (j : Int)
theorem onK_num (E : List (List Int)) (o : Option (List Int)) : onK (o.map (numF E)) = onN E o ∧ (o.map (numF E)).isSome = o.isSome := by
  cases o with
  | none => exact ⟨rfl, rfl⟩
  | some e => exact ⟨rfl, rfl⟩
end Go.Proofs.YtbmoeoinhlkmbaaDoor
