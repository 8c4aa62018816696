/-
  TrPW, TrQW, TrRM, TrRW.
-/
import Derived.Test.YtamgjdgnlcoapaaDoorMab
import Derived.Deep.Cut
namespace Go.Proofs.YtamgjdgnlcoapaaDoor
open Go.RowKit Go.Shelf Go.Lib Go.Maps
attribute [local go_sem] Oper.semAt_some
/-- What All answers. -/
def AllR (w : World) (L : List Fd) (r : Ending) (w' : World) : Prop := ∃ v, r = .returned v ∧ OwnF w' w.heap.size v L ∧ Below w.heap.size w w'
set_option maxRecDepth 100000 in
set_option maxHeartbeats 2000000 in
theorem all_any {w : World} {lo hi T : Nat} {E : List (List Int)} {bk : List Int → Nat} {mp : List Int → Option Nat} (l : List Int) (a : Option Addr) (ca : Nat) (h : TrieAt w lo hi T E bk mp) (hG : Good E) (ha : IA w a l) (hI : ∀ c ∈ l, inI c) (hl : l.length ≤ 1000000000) (hh : hi ≤ w.heap.size) (_hE : E.length ≤ 1000000) :
    Calls Tryd.prog 10 #[.pointer (some ⟨T, 0, none⟩), .slice a l.length ca] w fun e w' => AllR w (allK E l l.length) e w' := by
  obtain ⟨i0, hi0, hz0, hz1, hz2⟩ := info_parts infoF
  obtain ⟨w0, hw0⟩ : ∃ w0, w0 = w.alloc (.cells #[.slice none 0 0] 32) := ⟨_, rfl⟩
  have hb0 : Below w.heap.size w w0 := by rw [hw0]; exact (Below.refl _ _).alloc (Nat.le_refl _) _
  have HJ0 : Hid (AJ w w0 lo hi T E bk mp (.slice none 0 0) []) := hid0 ⟨by rw [hw0]; exact heap_alloc_new _ _, World.ownsRow_nil _ _ _ _, Tr.past h hb0, hb0, hh⟩
  have HA : Hid (∀ V : World, Below w.heap.size w V → IA V a l) := hid0 (fun V hV => ha.past hV)
  have HI := hid0 hI
  have HG := hid0 hG
  have HRb := hid0 h.rb
  have hfold := hw0.symm
  clear h hG ha hI hw0 hb0
  refine (callsIn_wide (n := 8)).1 ?_
  refine callsIn_of_wp_marks Tryd.func10 rfl trivial ?_ rfl
  simp only [Tryd.ntmps10, List.size_toArray, List.length_cons, List.length_nil, Nat.reduceAdd, Nat.reduceSub, Array.replicate_succ, Array.replicate_zero, List.push_toArray, List.append_toArray, List.nil_append, List.cons_append]
  gi_wp2
  refine wpIn_loop (fun a' W => ∃ (k bq : Nat) (v : Value) (ds : List Nat) (u7 u8 u9 u16 u17 u18 u19 u20 u21 u22 u23 u24 u25 u26 u27 u28 u29 u30 u31 u32 u33 u34 u35 u36 u37 u38 u39 u40 u41 u42 u43 u44 : Value), k ≤ l.length ∧ Hid (bq = bk (lsf (begB E) (l.take k))) ∧ Hid (AJ w W lo hi T E bk mp v (allK E l k)) ∧ Hid ((∀ d ∈ ds, w.heap.size ≤ d ∧ W.heap[d]? = some (.deferred (some []))) ∧ ds.Nodup) ∧ a' = { tmps := #[.pointer (some ⟨T, 0, none⟩), .slice a l.length ca, undef, undef, .slice none 0 0, .pointer (some ⟨w.heap.size, 0, none⟩), .pointer (some ⟨bq, 0, none⟩), u7, u8, u9, .pointer (some ⟨T, 0, none⟩), .pointer (some ⟨T, 0, none⟩), .pointer (some ⟨T, 0, none⟩), .slice a l.length ca, .int .i64 (l.length : Int), .int .i64 (k : Int), u16, u17, u18, u19, u20, u21, u22, u23, u24, u25, u26, u27, u28, u29, u30, u31, u32, u33, u34, u35, u36, u37, u38, u39, u40, u41, u42, u43, u44, undef], defers := ds.map markD }) (fun a' _ => l.length - (intOf (a'.tmps.getD 15 undef)).toNat) ?_ ?_
  · exact ⟨0, T, .slice none 0 0, [], _, _, _, _, _, _, _, _, _, _, _, _, _, _, _, _, _, _, _, _, _, _, _, _, _, _, _, _, _, _, _, _, Nat.zero_le _, hid0 (by rw [List.take_zero]; exact HRb.out.symm), HJ0, hid0 ⟨(fun _ hd => nomatch hd), List.nodup_nil⟩, rfl⟩
  rintro a' wr ⟨k, bq, v, ds, u7, u8, u9, u16, u17, u18, u19, u20, u21, u22, u23, u24, u25, u26, u27, u28, u29, u30, u31, u32, u33, u34, u35, u36, u37, u38, u39, u40, u41, u42, u43, u44, hk, HBq, HJ, HM, rfl⟩
  clear hfold HJ0
  by_cases hlt : k < l.length
  · obtain ⟨b, off, rfl, hbl, hce⟩ := (HA.out wr HJ.out.bel).at' k hlt
    have hkI : (k : Int) < (l.length : Int) := by omega
    have hkI0 : (0 : Int) ≤ (k : Int) := by omega
    have HTs := hid0 (take_snoc hlt)
    obtain ⟨w1, hw1⟩ : ∃ w1, w1 = wr.alloc (.cells #[.int .i64 (k : Int)] 3) := ⟨_, rfl⟩
    have hb1 : Below wr.heap.size wr w1 := by rw [hw1]; exact (Below.refl _ _).alloc (Nat.le_refl _) _
    have hs1 : w1.heap.size = wr.heap.size + 1 := by rw [hw1]; simp
    have HR1 : Hid (w1.heap[wr.heap.size]? = some (.cells #[.int .i64 (k : Int)] 3 (0, 0))) := hid0 (by rw [hw1]; exact heap_alloc_new _ _)
    have HJ1 := hid0 (HJ.out.past hb1)
    have HM1 : Hid (∀ d ∈ ds, w1.heap[d]? = some (.deferred (some []))) := hid0 (fun d hd => (hb1.block d (Array.getElem?_eq_some_iff.1 (HM.out.1 d hd).2).1).trans (HM.out.1 d hd).2)
    have HLt : Hid (w.heap.size < wr.heap.size ∧ w1.heap.size = wr.heap.size + 1 ∧ (∀ d ∈ ds, d < wr.heap.size) ∧ (∀ g, v.ownBlock = some g → g < wr.heap.size)) := hid0 ⟨HJ.out.lt, hs1, fun d hd => (Array.getElem?_eq_some_iff.1 (HM.out.1 d hd).2).1, fun g hg => (World.ownsRow.lt HJ.out.own g hg).2⟩
    have HST : Hid (Calls Tryd.prog 28 #[.pointer (some ⟨T, 0, none⟩), .pointer (some ⟨bq, 0, none⟩), .int .i64 l[k]] w1 fun e w' => e = .returned (.pointer (some ⟨bk (lsf (begB E) (l.take (k + 1))), 0, none⟩)) ∧ w' = w1) := hid0 (by
      have h := step_any (some (lsf (begB E) (l.take k))) l[k] (lsf (begB E) (l.take k)).length HJ1.out.tr (HI.out _ (List.getElem_mem hlt)) (fun _ _ _ => rfl) (fun p hp => by injection hp with hp; rw [← hp]; exact ⟨lsf_ok (begB_nil E) _, Nat.le_refl _⟩)
      rw [show ptr (Option.map bk (some (lsf (begB E) (l.take k)))) = .pointer (some ⟨bk (lsf (begB E) (l.take k)), 0, none⟩) from rfl, ← HBq.out] at h
      rw [HTs.out, lsf_snoc (fun _ _ => begB_front)]
      exact h)
    have HEn := hid0 (ends_lsf (P := begB E) (fun _ he => begB_mem he) (l.take (k + 1)))
    have hfold := hw1.symm
    clear hw1 hb1 hs1
    generalize l[k] = c at *
    gi_wp2_with (refine ⟨trivial, ?_⟩; gi_at_call 28; refine (callsIn_wide.2 HST.out).mono ?_; rintro e w2 ⟨rfl, hw⟩; have hw := hw.symm; subst hw)
    clear hfold
    refine wpIn_rangeEnds' 9 8 (by omega) (lsf (begB E) (l.take (k + 1))) (lsf_ok (begB_nil E) _) HG.out.ne rfl (fun pre W => ∃ v : Value, AJ w W lo hi T E bk mp v (allK E l k ++ pre.map (fdF E k)) ∧ W.heap[wr.heap.size]? = some (.cells #[.int .i64 (k : Int)] 3 (0, 0)) ∧ (∀ d ∈ ds, W.heap[d]? = some (.deferred (some []))) ∧ (∀ g, v.ownBlock = some g → g ≠ w1.heap.size ∧ g ≠ w1.heap.size + 1)) ?keep (fun pre A h => h.choose_spec.1.tr) ⟨v, by simpa using HJ1.out, HR1.out, HM1.out, fun g hg => by have := HLt.out; have := this.2.2.2 g hg; omega⟩ ?assign ?body ?done
    case keep =>
      rintro pre A B ⟨v, h1, h2, h3, h4⟩ ho
      have hl := HLt.out
      exact ⟨v, h1.only ho (fun k hk => by omega) (fun g hg q => by have := h4 g hg; omega), (ho.block _ (Array.getElem?_eq_some_iff.1 h2).1 (by omega)).trans h2, fun d hd => (ho.block _ (Array.getElem?_eq_some_iff.1 (h3 d hd)).1 (by have := hl.2.2.1 d hd; omega)).trans (h3 d hd), h4⟩
    case assign =>
      intro q b' W K hK
      simp only [actP, List.setIfInBounds_toArray, List.set_cons_succ, List.set_cons_zero] at hK ⊢
      gi_wp2
      exact hK
    case body =>
      rintro q pre x W ⟨v2, h1, h2, h3, h4⟩ hx ⟨r, hr⟩ hsz ⟨hd1, rc, hd2⟩
      simp only [actP, List.setIfInBounds_toArray, List.set_cons_succ, List.set_cons_zero]
      have hxl := (chkN_none (HG.out.chk x hx)).2.1
      have n1 := (Tr.nd h1.tr x (begB_mem hx)).cells.2.1
      have n3 := (Tr.nd h1.tr x (begB_mem hx)).cells.2.2.2.1
      rw [show enE E x = (numF E x : Int) from if_pos hx] at n3
      have c7 : W.cell? ⟨wr.heap.size, 0, none⟩ = some (.int .i64 (k : Int)) := by rw [cell_of_row _ _ _ _ _ _ h2]; rfl
      have c5 : W.cell? ⟨w.heap.size, 0, none⟩ = some v2 := by rw [cell_of_row _ _ _ _ _ _ h1.box]; rfl
      have hne : v2.ownBlock ≠ some wr.heap.size := fun e => by
        obtain ⟨cur, fr, hr2⟩ := h1.row e
        rw [h2] at hr2
        injection hr2 with hr2
        injection hr2 with _ hr2
        cases hr2
      have hbx := Tr.lh h1.tr x (begB_mem hx)
      have HLn : Hid ((allK E l k ++ pre.map (fdF E k)).length ≤ 32 * 1000000000 + 32) := hid0 (by
        have q1 := allK_len HG.out.len l k
        have q2 := ends_32 HG.out.len (lsf (begB E) (l.take (k + 1)))
        rw [← hr] at q2
        simp only [List.length_append, List.length_cons] at q2
        rw [List.length_append, List.length_map]
        omega)
      have HSv : Hid (∀ V : World, Only W V (fun k => k = w.heap.size ∨ v2.ownBlock = some k) → (fun V => V.cell? ⟨bk x, 3, none⟩ = some (.int .i64 (numF E x : Int)) ∧ V.cell? ⟨bk x, 1, none⟩ = some (.int .i64 (x.length : Int)) ∧ V.cell? ⟨wr.heap.size, 0, none⟩ = some (.int .i64 (k : Int))) V) := hid0 (fun V hV => by
        have hl := HLt.out
        have hb : ¬ (bk x = w.heap.size ∨ v2.ownBlock = some (bk x)) := by
          rintro (e | e)
          · omega
          · have := (World.ownsRow.lt h1.own _ e).1; omega
        exact ⟨(hV.cell (p := ⟨bk x, 3, none⟩) (World.block_lt_of_cell? _ _ n3) hb).trans n3, (hV.cell (p := ⟨bk x, 1, none⟩) (World.block_lt_of_cell? _ _ n1) hb).trans n1, (hV.cell (p := ⟨wr.heap.size, 0, none⟩) (World.block_lt_of_cell? _ _ c7) (by rintro (e | e); (· show False; simp only at e; omega); exact hne e)).trans c7⟩)
      have HBa : Hid (Below W.heap.size W (W.drew.alloc (.cells #[.int .i64 (numF E x : Int), .int .i64 ((k : Int) + 1 - (x.length : Int)), .int .i64 ((k : Int) + 1)] 35))) := hid0 ((show Below W.heap.size W W.drew from ⟨rfl, rfl, rfl, Nat.le_refl _, fun _ _ => rfl⟩).alloc (Nat.le_refl _) _)
      have HOa : Hid (Only W (W.drew.alloc (.cells #[.int .i64 (numF E x : Int), .int .i64 ((k : Int) + 1 - (x.length : Int)), .int .i64 ((k : Int) + 1)] 35)) (fun k => k = w.heap.size ∨ v2.ownBlock = some k)) := hid0 (Only.ofNew HBa.out _)
      have c5' : W.drew.cell? ⟨w.heap.size, 0, none⟩ = some v2 := c5
      have c5a : (W.drew.alloc (.cells #[.int .i64 (numF E x : Int), .int .i64 ((k : Int) + 1 - (x.length : Int)), .int .i64 ((k : Int) + 1)] 35)).cell? ⟨w.heap.size, 0, none⟩ = some v2 := (HBa.out.cell (p := ⟨w.heap.size, 0, none⟩) (World.block_lt_of_cell? _ _ c5)).trans c5
      have c5b : (W.alloc (.cells #[.int .i64 (numF E x : Int), .int .i64 ((k : Int) + 1 - (x.length : Int)), .int .i64 ((k : Int) + 1)] 35)).cell? ⟨w.heap.size, 0, none⟩ = some v2 := c5a
      have hw1 : IntKind.i64.wrap ((k : Int) + 1) = (k : Int) + 1 := by simp [IntKind.wrap, IntKind.bits, IntKind.signed]; omega
      have hw2 : IntKind.i64.wrap ((k : Int) + 1 - (x.length : Int)) = (k : Int) + 1 - (x.length : Int) := by simp [IntKind.wrap, IntKind.bits, IntKind.signed]; omega
      have HFin : Hid (∀ (v3 : Value) (V : World), AJ w V lo hi T E bk mp v3 (allK E l k ++ pre.map (fdF E k) ++ [fdF E k x]) → Only W V (fun k => k = w.heap.size ∨ v2.ownBlock = some k) → (∃ v : Value, AJ w V lo hi T E bk mp v (allK E l k ++ (pre ++ [x]).map (fdF E k)) ∧ V.heap[wr.heap.size]? = some (.cells #[.int .i64 (k : Int)] 3 (0, 0)) ∧ (∀ d ∈ ds, V.heap[d]? = some (.deferred (some []))) ∧ (∀ g, v.ownBlock = some g → g ≠ w1.heap.size ∧ g ≠ w1.heap.size + 1)) ∧ Only W V (fun k => k ≠ w1.heap.size ∧ k ≠ w1.heap.size + 1)) := hid0 (fun v3 V hj ho => by
        have hl := HLt.out
        have hS : ∀ k, (k = w.heap.size ∨ v2.ownBlock = some k) → k ≠ w1.heap.size ∧ k ≠ w1.heap.size + 1 := by
          rintro k (e | e)
          · omega
          · exact h4 k e
        have hk1 := (ho.block w1.heap.size (by omega) (fun q => (hS _ q).1 rfl)).trans hd1
        have hk2 := (ho.block (w1.heap.size + 1) (by omega) (fun q => (hS _ q).2 rfl)).trans hd2
        refine ⟨⟨v3, by rw [List.map_append, ← List.append_assoc]; exact hj, (ho.block _ (Array.getElem?_eq_some_iff.1 h2).1 (by rintro (e | e); (· omega); exact hne e)).trans h2, fun d hd => (ho.block _ (Array.getElem?_eq_some_iff.1 (h3 d hd)).1 (by
          rintro (e | e)
          · have := hl.2.2.1 d hd; have := HM.out.1 d hd; subst e; have hq := h3 _ hd; rw [h1.box] at hq; cases hq
          · obtain ⟨cur, fr, hr2⟩ := h1.row e; rw [h3 d hd] at hr2; cases hr2)).trans (h3 d hd), fun g hg => ?_⟩, ho.mono hS⟩
        obtain ⟨cur, fr, hr2⟩ := hj.row hg
        refine ⟨fun e => ?_, fun e => ?_⟩
        · rw [e, hk1] at hr2; cases hr2
        · rw [e, hk2] at hr2; cases hr2)
      obtain ⟨av, cv, hvf⟩ := h1.form
      subst hvf
      have HJx := hid0 h1
      generalize hL2 : allK E l k ++ pre.map (fdF E k) = L2 at *
      have HOk : Hid (W.drew.ownsRow (w.heap.size + 1) 35 3 (.slice av L2.length cv) L2.length (cellsF L2)) := hid0 (own_blk HJx.out.own (fun _ _ => rfl))
      have HL2 := hid0 hL2
      clear hL2 h1 h2 h3 h4 hd1 hd2 hr hne hbx n1 n3 c7 hx
      generalize hn2 : L2.length = n2 at *
      have HN2 := hid0 hn2
      clear hn2
      gi_wp2
      refine wpIn_region_round (S := (fun V => V.cell? ⟨bk x, 3, none⟩ = some (.int .i64 (numF E x : Int)) ∧ V.cell? ⟨bk x, 1, none⟩ = some (.int .i64 (x.length : Int)) ∧ V.cell? ⟨wr.heap.size, 0, none⟩ = some (.int .i64 (k : Int)))) (by kernel_rfl) (by kernel_rfl) ?_ (fun hHeld => ?_)
      · exact HSv.out W.drew (Only.drewN W 1 _)
      refine tkV (i := 1) (d := some 28) (v := ?_) rfl (by kernel_rfl) (by kernel_rfl) (by kernel_rfl) rfl (fun _ _ _ h => h) (by rfl) ?_ (by assumption) ?_
      rotate_left
      · (intro w hSw; (try dsimp only at hSw); (try simp only [List.getElem_toArray, List.getElem_cons_zero, List.getElem_cons_succ]); go_simp; try with_reducible rfl)
      try simp only [Act.put, List.setIfInBounds_toArray, List.set_cons_zero, List.set_cons_succ]
      refine tkV (i := 2) (d := some 29) (v := ?_) rfl (by kernel_rfl) (by kernel_rfl) (by kernel_rfl) rfl (fun _ _ _ h => h) (by rfl) ?_ (by assumption) ?_
      rotate_left
      · (intro w hSw; (try dsimp only at hSw); (try simp only [List.getElem_toArray, List.getElem_cons_zero, List.getElem_cons_succ]); go_simp; try with_reducible rfl)
      try simp only [Act.put, List.setIfInBounds_toArray, List.set_cons_zero, List.set_cons_succ]
      refine tkV (i := 3) (d := some 30) (v := ?_) rfl (by kernel_rfl) (by kernel_rfl) (by kernel_rfl) rfl (fun _ _ _ h => h) (by rfl) ?_ (by assumption) ?_
      rotate_left
      · (intro w hSw; (try dsimp only at hSw); (try simp only [List.getElem_toArray, List.getElem_cons_zero, List.getElem_cons_succ]); go_simp; try with_reducible rfl)
      try simp only [Act.put, List.setIfInBounds_toArray, List.set_cons_zero, List.set_cons_succ]
      refine tkV (i := 4) (d := some 31) (v := ?_) rfl (by kernel_rfl) (by kernel_rfl) (by kernel_rfl) rfl (fun _ _ _ h => h) (by rfl) ?_ (by assumption) ?_
      rotate_left
      · (intro w hSw; (try dsimp only at hSw); (try simp only [List.getElem_toArray, List.getElem_cons_zero, List.getElem_cons_succ]); go_simp; try with_reducible rfl)
      try simp only [Act.put, List.setIfInBounds_toArray, List.set_cons_zero, List.set_cons_succ]
      refine tkV (i := 5) (d := some 32) (v := ?_) rfl (by kernel_rfl) (by kernel_rfl) (by kernel_rfl) rfl (fun _ _ _ h => h) (by rfl) ?_ (by assumption) ?_
      rotate_left
      · (intro w hSw; (try dsimp only at hSw); (try simp only [List.getElem_toArray, List.getElem_cons_zero, List.getElem_cons_succ]); go_simp; try with_reducible rfl)
      try simp only [Act.put, List.setIfInBounds_toArray, List.set_cons_zero, List.set_cons_succ]
      refine tkV (i := 6) (d := some 33) (v := ?_) rfl (by kernel_rfl) (by kernel_rfl) (by kernel_rfl) rfl (fun _ _ _ h => h) (by rfl) ?_ (by assumption) ?_
      rotate_left
      · (intro w hSw; (try dsimp only at hSw); (try simp only [List.getElem_toArray, List.getElem_cons_zero, List.getElem_cons_succ]); go_simp; try with_reducible rfl)
      try simp only [Act.put, List.setIfInBounds_toArray, List.set_cons_zero, List.set_cons_succ]
      refine tkV (i := 7) (d := some 34) (v := ?_) rfl (by kernel_rfl) (by kernel_rfl) (by kernel_rfl) rfl (fun _ _ _ h => h) (by rfl) ?_ (by assumption) ?_
      rotate_left
      · (intro w hSw; (try dsimp only at hSw); (try simp only [List.getElem_toArray, List.getElem_cons_zero, List.getElem_cons_succ]); go_simp; try with_reducible rfl)
      try simp only [Act.put, List.setIfInBounds_toArray, List.set_cons_zero, List.set_cons_succ]
      refine tkV (i := 8) (d := some 35) (v := ?_) rfl (by kernel_rfl) (by kernel_rfl) (by kernel_rfl) rfl (fun _ _ _ h => h) (by rfl) ?_ (by assumption) ?_
      rotate_left
      · (intro w hSw; (try dsimp only at hSw); (try simp only [List.getElem_toArray, List.getElem_cons_zero, List.getElem_cons_succ]); go_simp; try with_reducible rfl)
      try simp only [Act.put, List.setIfInBounds_toArray, List.set_cons_zero, List.set_cons_succ]
      refine tkV (i := 9) (d := some 36) (v := ?_) rfl (by kernel_rfl) (by kernel_rfl) (by kernel_rfl) rfl (fun _ _ _ h => h) (by rfl) ?_ (by assumption) ?_
      rotate_left
      · (intro w hSw; (try dsimp only at hSw); (try simp only [List.getElem_toArray, List.getElem_cons_zero, List.getElem_cons_succ]); go_simp; try with_reducible rfl)
      try simp only [Act.put, List.setIfInBounds_toArray, List.set_cons_zero, List.set_cons_succ]
      refine tkV (i := 10) (d := some 37) (v := ?_) rfl (by kernel_rfl) (by kernel_rfl) (by kernel_rfl) rfl (fun _ _ _ h => h) (by rfl) ?_ (by assumption) ?_
      rotate_left
      · (intro w hSw; (try dsimp only at hSw); (try simp only [List.getElem_toArray, List.getElem_cons_zero, List.getElem_cons_succ]); go_simp; try with_reducible rfl)
      try simp only [Act.put, List.setIfInBounds_toArray, List.set_cons_zero, List.set_cons_succ]
      refine tkV (i := 11) (d := some 38) (v := ?_) rfl (by kernel_rfl) (by kernel_rfl) (by kernel_rfl) rfl (fun _ _ _ h => h) (by rfl) ?_ (by assumption) ?_
      rotate_left
      · (intro w hSw; (try dsimp only at hSw); (try simp only [List.getElem_toArray, List.getElem_cons_zero, List.getElem_cons_succ]); go_simp; try with_reducible rfl)
      try simp only [Act.put, List.setIfInBounds_toArray, List.set_cons_zero, List.set_cons_succ]
      refine tkV (i := 12) (d := some 39) (v := ?_) rfl (by kernel_rfl) (by kernel_rfl) (by kernel_rfl) rfl (fun _ _ _ h => h) (by rfl) ?_ (by assumption) ?_
      rotate_left
      · (intro w hSw; (try dsimp only at hSw); (try simp only [List.getElem_toArray, List.getElem_cons_zero, List.getElem_cons_succ]); go_simp; try with_reducible rfl)
      try simp only [Act.put, List.setIfInBounds_toArray, List.set_cons_zero, List.set_cons_succ]
      refine tkV (i := 13) (d := some 40) (v := ?_) rfl (by kernel_rfl) (by kernel_rfl) (by kernel_rfl) rfl (fun _ _ _ h => h) (by rfl) ?_ (by assumption) ?_
      rotate_left
      · (intro w hSw; (try dsimp only at hSw); (try simp only [List.getElem_toArray, List.getElem_cons_zero, List.getElem_cons_succ]); go_simp; try with_reducible rfl)
      try simp only [Act.put, List.setIfInBounds_toArray, List.set_cons_zero, List.set_cons_succ]
      refine tkV (i := 14) (d := some 41) (v := ?_) rfl (by kernel_rfl) (by kernel_rfl) (by kernel_rfl) rfl (fun _ _ _ h => h) (by rfl) ?_ (by assumption) ?_
      rotate_left
      · (intro w hSw; (try dsimp only at hSw); (try simp only [List.getElem_toArray, List.getElem_cons_zero, List.getElem_cons_succ]); go_simp; try with_reducible rfl)
      try simp only [Act.put, List.setIfInBounds_toArray, List.set_cons_zero, List.set_cons_succ]
      refine wpAnyH_ready (rs := [0, 15]) (by kernel_rfl) (by simp) (AllReadyH.cons rfl (fun K hK => ?_) (AllReadyH.cons rfl (fun K hK => ?_) AllReadyH.nil))
      · try simp only [List.getElem_toArray, List.getElem_cons_zero]
        go_simp
        refine hK.out _ _ ?_ (fun hHeld0 => ?_)
        · exact HSv.out W.drew (Only.drewN W 1 _)
        clear hK K
        (try simp only [Act.put]); (try simp only [List.setIfInBounds_toArray]); (try simp only [List.set_cons_succ]); (try simp only [List.set_cons_zero])
        refine wpAnyH_ready (rs := [15]) (by kernel_rfl) (by simp) (AllReadyH.cons rfl (fun K hK => ?_) AllReadyH.nil)
        try simp only [List.getElem_toArray, List.getElem_cons_zero, List.getElem_cons_succ]
        go_simp
        refine hK.out _ _ ?_ (fun hHeld15 => ?_)
        · exact HSv.out _ HOa.out
        clear hK K
        (try simp only [Act.put]); (try simp only [List.setIfInBounds_toArray]); (try simp only [List.set_cons_succ]); (try simp only [List.set_cons_zero])
        refine wpAnyH_ready (rs := [16]) (by kernel_rfl) (by simp) (AllReadyH.cons rfl (fun K hK => ?_) AllReadyH.nil)
        refine step_append_lies _ (by rfl) _ _ _ (by rfl) (w.heap.size + 1) 35 i0 (.agg #[.int .i64 0, .int .i64 0, .int .i64 0]) 3 24 Tryd.underlying32 hi0 hz0 hz1 hz2 rfl (by decide) (.slice av n2 cv) n2 (cellsF L2) (by rfl) (World.ownsRow.alloc HOk.out _) ⟨W.heap.size, 0, none⟩ 1 1 [.int .i64 (numF E x : Int), .int .i64 ((k : Int) + 1 - (x.length : Int)), .int .i64 ((k : Int) + 1)] (by rfl) (by rfl) (World.news_of_block (cs := #[.int .i64 (numF E x : Int), .int .i64 ((k : Int) + 1 - (x.length : Int)), .int .i64 ((k : Int) + 1)]) (t := 35) (fr := (0, 0)) (heap_alloc_new W.drew _)) (by simp [Value.oneCell']) (by omega) (by unfold maxLen; have := HLn.out; omega) (by have := HLn.out; omega) (by have := HLt.out; simp; omega) (W.heap.size + 1) (by simp) ?_
        intro g2 cap2 w2 hown2 hgrow2 _ _
        have HN := hid0 (HJx.out.snoc (f := fdF E k x) HBa.out hgrow2 (by rw [HN2.out]; exact hown2))
        have c2 := HN.out.2.2.1
        have f2 := HN.out.2.2.2
        have HO2 : Hid (Only W w2 (fun k => k = w.heap.size ∨ Value.ownBlock (.slice av n2 cv) = some k)) := hid0 ((Only.ofNew HBa.out (fun k => k = w.heap.size ∨ Value.ownBlock (.slice av n2 cv) = some k)).trans (T := fun k => Value.ownBlock (.slice av n2 cv) = some k) ⟨hgrow2.os, hgrow2.tape, hgrow2.output, hgrow2.size, fun k hk hn => hgrow2.block k hk (fun e => hn e.symm)⟩ (fun i hi => .inl (.inr hi)))
        clear hown2 hgrow2
        refine hK.out _ _ ?_ (fun hHeld16 => ?_)
        · exact HSv.out _ HO2.out
        clear hK K
        (try simp only [Act.put]); (try simp only [List.setIfInBounds_toArray]); (try simp only [List.set_cons_succ]); (try simp only [List.set_cons_zero])
        refine wpAnyH_ready (rs := [17]) (by kernel_rfl) (by simp) (AllReadyH.cons rfl (fun K hK => ?_) AllReadyH.nil)
        try simp only [List.getElem_toArray, List.getElem_cons_zero, List.getElem_cons_succ]
        go_simp
        refine hK.out _ _ ?_ (fun hHeld17 => ?_)
        · exact HSv.out _ HN.out.2.1
        clear hK K
        (try simp only [Act.put]); (try simp only [List.setIfInBounds_toArray]); (try simp only [List.set_cons_succ]); (try simp only [List.set_cons_zero])
        refine wpAnyH_done (by kernel_rfl) ?_ _
        refine NormO.normal ?_
        exact ⟨rfl, HFin.out _ _ HN.out.1 HN.out.2.1⟩
      · try simp only [List.getElem_toArray, List.getElem_cons_zero, List.getElem_cons_succ]
        go_simp
        refine hK.out _ _ ?_ (fun hHeld15 => ?_)
        · exact HSv.out _ HOa.out
        clear hK K
        (try simp only [Act.put]); (try simp only [List.setIfInBounds_toArray]); (try simp only [List.set_cons_succ]); (try simp only [List.set_cons_zero])
        refine wpAnyH_ready (rs := [0]) (by kernel_rfl) (by simp) (AllReadyH.cons rfl (fun K hK => ?_) AllReadyH.nil)
        try simp only [List.getElem_toArray, List.getElem_cons_zero]
        go_simp
        refine hK.out _ _ ?_ (fun hHeld0 => ?_)
        · exact HSv.out _ HOa.out
        clear hK K
        (try simp only [Act.put]); (try simp only [List.setIfInBounds_toArray]); (try simp only [List.set_cons_succ]); (try simp only [List.set_cons_zero])
        refine wpAnyH_ready (rs := [16]) (by kernel_rfl) (by simp) (AllReadyH.cons rfl (fun K hK => ?_) AllReadyH.nil)
        refine step_append_lies _ (by rfl) _ _ _ (by rfl) (w.heap.size + 1) 35 i0 (.agg #[.int .i64 0, .int .i64 0, .int .i64 0]) 3 24 Tryd.underlying32 hi0 hz0 hz1 hz2 rfl (by decide) (.slice av n2 cv) n2 (cellsF L2) (by rfl) (World.ownsRow.alloc HOk.out _) ⟨W.heap.size, 0, none⟩ 1 1 [.int .i64 (numF E x : Int), .int .i64 ((k : Int) + 1 - (x.length : Int)), .int .i64 ((k : Int) + 1)] (by rfl) (by rfl) (World.news_of_block (cs := #[.int .i64 (numF E x : Int), .int .i64 ((k : Int) + 1 - (x.length : Int)), .int .i64 ((k : Int) + 1)]) (t := 35) (fr := (0, 0)) (heap_alloc_new W.drew _)) (by simp [Value.oneCell']) (by omega) (by unfold maxLen; have := HLn.out; omega) (by have := HLn.out; omega) (by have := HLt.out; simp; omega) (W.heap.size + 1) (by simp) ?_
        intro g2 cap2 w2 hown2 hgrow2 _ _
        have HN := hid0 (HJx.out.snoc (f := fdF E k x) HBa.out hgrow2 (by rw [HN2.out]; exact hown2))
        have c2 := HN.out.2.2.1
        have f2 := HN.out.2.2.2
        have HO2 : Hid (Only W w2 (fun k => k = w.heap.size ∨ Value.ownBlock (.slice av n2 cv) = some k)) := hid0 ((Only.ofNew HBa.out (fun k => k = w.heap.size ∨ Value.ownBlock (.slice av n2 cv) = some k)).trans (T := fun k => Value.ownBlock (.slice av n2 cv) = some k) ⟨hgrow2.os, hgrow2.tape, hgrow2.output, hgrow2.size, fun k hk hn => hgrow2.block k hk (fun e => hn e.symm)⟩ (fun i hi => .inl (.inr hi)))
        clear hown2 hgrow2
        refine hK.out _ _ ?_ (fun hHeld16 => ?_)
        · exact HSv.out _ HO2.out
        clear hK K
        (try simp only [Act.put]); (try simp only [List.setIfInBounds_toArray]); (try simp only [List.set_cons_succ]); (try simp only [List.set_cons_zero])
        refine wpAnyH_ready (rs := [17]) (by kernel_rfl) (by simp) (AllReadyH.cons rfl (fun K hK => ?_) AllReadyH.nil)
        try simp only [List.getElem_toArray, List.getElem_cons_zero, List.getElem_cons_succ]
        go_simp
        refine hK.out _ _ ?_ (fun hHeld17 => ?_)
        · exact HSv.out _ HN.out.2.1
        clear hK K
        (try simp only [Act.put]); (try simp only [List.setIfInBounds_toArray]); (try simp only [List.set_cons_succ]); (try simp only [List.set_cons_zero])
        refine wpAnyH_done (by kernel_rfl) ?_ _
        refine NormO.normal ?_
        exact ⟨rfl, HFin.out _ _ HN.out.1 HN.out.2.1⟩
    case done =>
      rintro W ⟨v2, h1, h2, h3, h4⟩ hk2
      have HJ3 : Hid (AJ w W lo hi T E bk mp v2 (allK E l (k + 1))) := hid0 (by rw [HEn.out] at h1; exact h1)
      have HM3 : Hid ((∀ d ∈ w1.heap.size :: ds, w.heap.size ≤ d ∧ W.heap[d]? = some (.deferred (some []))) ∧ (w1.heap.size :: ds).Nodup) := hid0 (by
        have hl := HLt.out
        refine ⟨fun d hd => ?_, List.nodup_cons.2 ⟨fun hd => by have := hl.2.2.1 _ hd; omega, HM.out.2⟩⟩
        rcases List.mem_cons.1 hd with rfl | hd
        · exact ⟨by omega, hk2⟩
        · exact ⟨(HM.out.1 d hd).1, h3 d hd⟩)
      clear h1 h2 h3 h4 hk2
      gi_wp2
      exact ⟨⟨k + 1, _, v2, w1.heap.size :: ds, _, _, _, _, _, _, _, _, _, _, _, _, _, _, _, _, _, _, _, _, _, _, _, _, _, _, _, _, _, _, _, _, hlt, hid0 rfl, HJ3, HM3, rfl⟩, by simp [intOf]; omega⟩
  · have hkI : ¬ (k : Int) < (l.length : Int) := by omega
    have hke : k = l.length := by omega
    have HJe : Hid (AJ w wr lo hi T E bk mp v (allK E l l.length)) := hid0 (by have h := HJ.out; rw [hke] at h; exact h)
    have c5 : wr.cell? ⟨w.heap.size, 0, none⟩ = some v := by rw [cell_of_row _ _ _ _ _ _ HJe.out.box]; rfl
    obtain ⟨av, cv, rfl⟩ := HJe.out.form
    clear hke HJ
    gi_wp2
    refine leaves_marks w.heap.size ds wr HM.out.1 HM.out.2 (fun W hW => ?_)
    refine ⟨_, results_tmp rfl _ _ _, ?_⟩
    have hj := HJe.out.only hW (fun d hd => by
      have h1 := HM.out.1 d hd
      rcases Nat.lt_or_ge w.heap.size d with h2 | h2
      · exact h2
      · have h3 := HJe.out.box
        rw [show w.heap.size = d by omega, h1.2] at h3
        cases h3) (fun g hg hd => by
      obtain ⟨cur, fr, hr⟩ := HJe.out.row hg
      rw [(HM.out.1 g hd).2] at hr
      cases hr)
    exact ⟨_, rfl, owns_lower hj.own (Nat.le_succ _), hj.bel⟩
end Go.Proofs.YtamgjdgnlcoapaaDoor
namespace Go.Proofs.YtamgjdgnlcoapaaDoor
open Go.RowKit Go.Shelf Go.Lib Go.Maps
/-- Founds in memory, each where it is asked. -/
structure FA (w : World) (a : Option Addr) (L : List Fd) : Prop where
  at' : ∀ k (h : k < L.length), ∃ b off, a = some ⟨b, off, none⟩ ∧ b < w.heap.size ∧
    w.cell? ⟨b, off + k * 3, none⟩ = some (.int .i64 L[k].1) ∧ w.cell? ⟨b, off + k * 3 + 1, none⟩ = some (.int .i64 L[k].2.1) ∧ w.cell? ⟨b, off + k * 3 + 2, none⟩ = some (.int .i64 L[k].2.2)
theorem FA.past {w w' : World} {a : Option Addr} {L : List Fd} (h : FA w a L) (hb : Below w.heap.size w w') : FA w' a L := ⟨fun k hk => by
  obtain ⟨b, off, rfl, h1, c0, c1, c2⟩ := h.at' k hk
  exact ⟨b, off, rfl, Nat.lt_of_lt_of_le h1 hb.size, (hb.cell (p := ⟨b, off + k * 3, none⟩) h1).trans c0, (hb.cell (p := ⟨b, off + k * 3 + 1, none⟩) h1).trans c1, (hb.cell (p := ⟨b, off + k * 3 + 2, none⟩) h1).trans c2⟩⟩
theorem cellsF_at (L : List Fd) : ∀ (k : Nat) (h : k < L.length), (cellsF L)[k * 3]? = some (.int .i64 L[k].1) ∧ (cellsF L)[k * 3 + 1]? = some (.int .i64 L[k].2.1) ∧ (cellsF L)[k * 3 + 2]? = some (.int .i64 L[k].2.2) := by
  induction L with
  | nil => intro k h; simp at h
  | cons u us ih =>
    intro k h
    have e : cellsF (u :: us) = .int .i64 u.1 :: .int .i64 u.2.1 :: .int .i64 u.2.2 :: cellsF us := rfl
    cases k with
    | zero => rw [e]; simp
    | succ k =>
      have := ih k (by simpa using h)
      rw [e, show (k + 1) * 3 = k * 3 + 1 + 1 + 1 by omega, show k * 3 + 1 + 1 + 1 + 1 = (k * 3 + 1) + 1 + 1 + 1 by omega, show k * 3 + 1 + 1 + 1 + 2 = (k * 3 + 2) + 1 + 1 + 1 by omega]
      simpa using this
theorem OwnF.fa {w : World} {base : Nat} {v : Value} {L : List Fd} (h : OwnF w base v L) : ∃ a cap, v = .slice a L.length cap ∧ FA w a L := by
  have h0 := h
  rcases h.2 with ⟨rfl, hn⟩ | ⟨g, cap, cur, rfl, _⟩
  · exact ⟨none, 0, by rw [hn], ⟨fun k hk => by omega⟩⟩
  · refine ⟨_, cap, rfl, ⟨fun k hk => ⟨g, 0, rfl, (World.ownsRow.lt h0 g rfl).2, ?_⟩⟩⟩
    obtain ⟨a, b, c⟩ := cellsF_at L k hk
    rw [Nat.zero_add, World.ownsRow.cellAt h0 _ (by omega), World.ownsRow.cellAt h0 _ (by omega), World.ownsRow.cellAt h0 _ (by omega)]
    exact ⟨a, b, c⟩
theorem OwnF.past {w w' : World} {base : Nat} {v : Value} {L : List Fd} (h : OwnF w base v L) (hb : Below w.heap.size w w') : OwnF w' base v L := own_blk h (fun k e => hb.block k (World.ownsRow.lt h k e).2)
set_option maxRecDepth 10000 in
set_option maxHeartbeats 400000 in
theorem same_fa (L : List Fd) (a b : Option Addr) (ca cb : Nat) (w : World) (hl : L.length ≤ 140737488355328) (ha : FA w a L) (hb : FA w b L) :
    Calls Tryd.prog 11 #[.slice a L.length ca, .slice b L.length cb] w fun e w' => e = .returned (.bool true) ∧ ∃ q, w' = w.drewN q := by
  have HA := hid0 ha
  have HB := hid0 hb
  clear ha hb
  go_enter Tryd.func11, Tryd.ntmps11
  go_wp2
  go_loopw [5] (fun i wr => ∃ k q : Nat, k ≤ L.length ∧ i = .int .i64 (k : Int) ∧ wr = w.drewN q) (fun i _ => L.length - (intOf i).toNat)
  case atStart => exact ⟨0, 0, Nat.zero_le _, rfl, rfl⟩
  case round =>
    obtain ⟨k, q, hk, rfl, rfl⟩ := hrel
    by_cases hlt : k < L.length
    · obtain ⟨b1, o1, rfl, _, c0, c1, c2⟩ := HA.out.at' k hlt
      obtain ⟨b2, o2, rfl, _, d0, d1, d2⟩ := HB.out.at' k hlt
      generalize L[k] = u at *
      clear HA HB
      go_wp2
      go_quiet ((fail))
      go_wp2
      go_roundw
      case rel => exact ⟨k + 1, _, hlt, by go_num, rfl⟩
      case measure => simp [intOf]; omega
    · have hk2 : ¬ (k : Int) < (L.length : Int) := by omega
      clear HA HB
      go_wp2
      go_ret
      exact ⟨rfl, q, rfl⟩
/-- Numbers that were just laid. -/
theorem ia_new (w : World) (vs : List Int) (o : Obj) (ho : o = .cells (vs.map (Value.int .i64)).toArray 3 (0, 0)) : IA (w.alloc o) (some ⟨w.heap.size, 0, none⟩) vs := ⟨fun k hk => by
  subst ho
  exact ⟨w.heap.size, 0, rfl, by simp, by rw [cell_of_row _ _ _ _ _ _ (heap_alloc_new w _), Nat.zero_add]; simp [hk]⟩⟩
def E0 : List (List Int) := [[97, 98], [98], [97, 98, 99], [99, 97]]
theorem new0 : newE E0 = none := by decide
theorem siz0 : szK E0 E0.length = 6 := by decide
theorem lng0 : lngO E0 [120, 97, 98, 99] 1 = some [97, 98, 99] := by decide
theorem end0 : endO E0 [120, 97, 98, 99] 3 = some [97, 98] := by decide
theorem all0 : allK E0 [97, 98, 99, 97] ([97, 98, 99, 97] : List Int).length = [(0, 0, 2), (1, 1, 2), (2, 0, 3), (3, 2, 4)] := by decide
/-- The four entries, laid. -/
theorem rows0 (w : World) : ∃ w5, ((((w.alloc (.cells #[.int .i64 97, .int .i64 98] 3)).alloc (.cells #[.int .i64 98] 3)).alloc (.cells #[.int .i64 97, .int .i64 98, .int .i64 99] 3)).alloc (.cells #[.int .i64 99, .int .i64 97] 3)).alloc (.cells #[.slice (some ⟨w.heap.size, 0, none⟩) 2 2, .slice (some ⟨w.heap.size + 1, 0, none⟩) 1 1, .slice (some ⟨w.heap.size + 1 + 1, 0, none⟩) 3 3, .slice (some ⟨w.heap.size + 1 + 1 + 1, 0, none⟩) 2 2] 23) = w5 ∧ Below w.heap.size w w5 ∧ RwA w5 (some ⟨w.heap.size + 1 + 1 + 1 + 1, 0, none⟩) E0 := by
  obtain ⟨w1, h1⟩ : ∃ w1, w.alloc (.cells #[.int .i64 97, .int .i64 98] 3) = w1 := ⟨_, rfl⟩
  obtain ⟨w2, h2⟩ : ∃ w2, w1.alloc (.cells #[.int .i64 98] 3) = w2 := ⟨_, rfl⟩
  obtain ⟨w3, h3⟩ : ∃ w3, w2.alloc (.cells #[.int .i64 97, .int .i64 98, .int .i64 99] 3) = w3 := ⟨_, rfl⟩
  obtain ⟨w4, h4⟩ : ∃ w4, w3.alloc (.cells #[.int .i64 99, .int .i64 97] 3) = w4 := ⟨_, rfl⟩
  rw [h1, h2, h3, h4]
  have s1 : w1.heap.size = w.heap.size + 1 := by rw [← h1]; simp
  have s2 : w2.heap.size = w.heap.size + 1 + 1 := by rw [← h2]; simp [s1]
  have s3 : w3.heap.size = w.heap.size + 1 + 1 + 1 := by rw [← h3]; simp [s2]
  have s4 : w4.heap.size = w.heap.size + 1 + 1 + 1 + 1 := by rw [← h4]; simp [s3]
  have b1 : Below w.heap.size w w1 := by rw [← h1]; exact (Below.refl _ _).alloc (Nat.le_refl _) _
  have b2 : Below w1.heap.size w1 w2 := by rw [← h2]; exact (Below.refl _ _).alloc (Nat.le_refl _) _
  have b3 : Below w2.heap.size w2 w3 := by rw [← h3]; exact (Below.refl _ _).alloc (Nat.le_refl _) _
  have b4 : Below w3.heap.size w3 w4 := by rw [← h4]; exact (Below.refl _ _).alloc (Nat.le_refl _) _
  refine ⟨_, rfl, ?_, ?_⟩
  · exact (b1.trans ((b2.trans ((b3.trans (b4.mono (by omega))).mono (by omega))).mono (by omega))).alloc (by omega) _
  · generalize hw5 : w4.alloc (.cells #[.slice (some ⟨w.heap.size, 0, none⟩) 2 2, .slice (some ⟨w.heap.size + 1, 0, none⟩) 1 1, .slice (some ⟨w.heap.size + 1 + 1, 0, none⟩) 3 3, .slice (some ⟨w.heap.size + 1 + 1 + 1, 0, none⟩) 2 2] 23) = w5
    have b5 : Below w4.heap.size w4 w5 := by rw [← hw5]; exact (Below.refl _ _).alloc (Nat.le_refl _) _
    have i1 : IA w5 (some ⟨w.heap.size, 0, none⟩) [97, 98] := ((((by rw [← h1]; exact ia_new w [97, 98] _ rfl : IA w1 (some ⟨w.heap.size, 0, none⟩) [97, 98]).past b2).past b3).past b4).past b5
    have i2 : IA w5 (some ⟨w.heap.size + 1, 0, none⟩) [98] := (((by rw [← h2, ← s1]; exact ia_new w1 [98] _ rfl : IA w2 (some ⟨w.heap.size + 1, 0, none⟩) [98]).past b3).past b4).past b5
    have i3 : IA w5 (some ⟨w.heap.size + 1 + 1, 0, none⟩) [97, 98, 99] := ((by rw [← h3, ← s2]; exact ia_new w2 [97, 98, 99] _ rfl : IA w3 (some ⟨w.heap.size + 1 + 1, 0, none⟩) [97, 98, 99]).past b4).past b5
    have i4 : IA w5 (some ⟨w.heap.size + 1 + 1 + 1, 0, none⟩) [99, 97] := (by rw [← h4, ← s3]; exact ia_new w3 [99, 97] _ rfl : IA w4 (some ⟨w.heap.size + 1 + 1 + 1, 0, none⟩) [99, 97]).past b5
    have hr : w5.heap[w.heap.size + 1 + 1 + 1 + 1]? = some (.cells #[.slice (some ⟨w.heap.size, 0, none⟩) 2 2, .slice (some ⟨w.heap.size + 1, 0, none⟩) 1 1, .slice (some ⟨w.heap.size + 1 + 1, 0, none⟩) 3 3, .slice (some ⟨w.heap.size + 1 + 1 + 1, 0, none⟩) 2 2] 23 (0, 0)) := by
      rw [← hw5, ← s4]
      exact heap_alloc_new _ _
    have hlt := (Array.getElem?_eq_some_iff.1 hr).1
    refine ⟨fun k hk => ⟨_, 0, rfl, hlt, ?_⟩⟩
    rw [cell_of_row _ _ _ _ _ _ hr, Nat.zero_add]
    have hk4 : k < 4 := hk
    rcases (show k = 0 ∨ k = 1 ∨ k = 2 ∨ k = 3 by omega) with rfl | rfl | rfl | rfl
    · exact ⟨_, 2, rfl, i1⟩
    · exact ⟨_, 1, rfl, i2⟩
    · exact ⟨_, 3, rfl, i3⟩
    · exact ⟨_, 2, rfl, i4⟩
theorem fa0 (w : World) : FA (w.alloc (.cells #[.int .i64 0, .int .i64 0, .int .i64 2, .int .i64 1, .int .i64 1, .int .i64 2, .int .i64 2, .int .i64 0, .int .i64 3, .int .i64 3, .int .i64 2, .int .i64 4] 35)) (some ⟨w.heap.size, 0, none⟩) [(0, 0, 2), (1, 1, 2), (2, 0, 3), (3, 2, 4)] := ⟨fun k hk => by
  have hr := heap_alloc_new w (.cells #[.int .i64 0, .int .i64 0, .int .i64 2, .int .i64 1, .int .i64 1, .int .i64 2, .int .i64 2, .int .i64 0, .int .i64 3, .int .i64 3, .int .i64 2, .int .i64 4] 35)
  refine ⟨_, 0, rfl, by simp, ?_⟩
  rw [cell_of_row _ _ _ _ _ _ hr, cell_of_row _ _ _ _ _ _ hr, cell_of_row _ _ _ _ _ _ hr]
  have hk4 : k < 4 := hk
  rcases (show k = 0 ∨ k = 1 ∨ k = 2 ∨ k = 3 by omega) with rfl | rfl | rfl | rfl <;> exact ⟨rfl, rfl, rfl⟩⟩
theorem inI_small {c : Int} (h : 0 ≤ c ∧ c ≤ 1000000) : inI c := by
  simp [inI, Lit.wf, IntKind.min, IntKind.max, IntKind.bits, IntKind.signed]
  omega
set_option maxRecDepth 10000 in
set_option maxHeartbeats 1600000 in
theorem begun_any (A : Nat → Addr) (w : World) (hs : Se3 w A) : Calls Tryd.prog 8 #[] w fun e w' => e = .returned (.bool true) ∧ Below w.heap.size w w' := by
  obtain ⟨w5, hfold, hb5, hr5⟩ := rows0 w
  have HN := hid0 (new_any A E0 _ 4 w5 hr5 (hs.past hb5) (fun e he => by
    have : ∀ e ∈ E0, e.length ≤ 3 := by decide
    have := this e he
    omega))
  rw [show E0.length = 4 from rfl] at HN
  have HB5 := hid0 hb5
  clear hr5 hs hb5
  go_enter Tryd.func8, Tryd.ntmps8
  go_upto_region 2 with (go_at_call 9; go_loud ((
    refine HN.out.mono ?_
    rintro r w6 ⟨hb6, hr6⟩
    obtain ⟨hG, T, hi, bk, mp, rfl, ht⟩ : Good E0 ∧ ∃ T hi bk mp, r = .returned (.tuple #[.pointer (some ⟨T, 0, none⟩), .nilIface]) ∧ TrieAt w6 w5.heap.size hi T E0 bk mp := by
      rcases hr6 with ⟨k, hk, _⟩ | ⟨_, h1, h2⟩
      · rw [new0] at hk; cases hk
      · exact ⟨h1, h2⟩
    have HT := hid0 ht
    have HG := hid0 hG
    have HB6 : Hid (Below w.heap.size w w6) := hid0 (HB5.out.trans (hb6.mono HB5.out.size))
    clear hb6 hr6 hG ht HN)))
  clear hfold
  have HSz : Hid (Calls Tryd.prog 24 #[.pointer (some ⟨T, 0, none⟩)] w6 fun e w' => e = .returned (.int .i64 7) ∧ w' = w6) := hid0 ((size_any HT.out (by rw [siz0]; omega)).mono (fun _ _ h => ⟨by rw [h.1, siz0]; rfl, h.2⟩))
  have hpn := @run_eql_pointer_nil Tryd.prog
  go_upto_region 4 with (go_at_call 24; go_loud ((
    refine HSz.out.mono ?_
    rintro r w7 ⟨rfl, hw⟩
    have hw := hw.symm
    subst hw)))
  obtain ⟨w7, hfold⟩ : ∃ w7, w6.alloc (.cells #[.int .i64 120, .int .i64 97, .int .i64 98, .int .i64 99] 3) = w7 := ⟨_, rfl⟩
  have HB67 : Hid (Below w6.heap.size w6 w7) := hid0 (by rw [← hfold]; exact (Below.refl _ _).alloc (Nat.le_refl _) _)
  have HI7 : Hid (IA w7 (some ⟨w6.heap.size, 0, none⟩) [120, 97, 98, 99]) := hid0 (by rw [← hfold]; exact ia_new w6 _ _ rfl)
  have HT7 := hid0 (Tr.past HT.out HB67.out)
  have HIn : Hid (∀ c ∈ ([120, 97, 98, 99] : List Int), inI c) := hid0 (fun c hc => inI_small (by
    have : ∀ c ∈ ([120, 97, 98, 99] : List Int), 0 ≤ c ∧ c ≤ 1000000 := by decide
    exact this c hc))
  have HLg : Hid (Calls Tryd.prog 13 #[.pointer (some ⟨T, 0, none⟩), .slice (some ⟨w6.heap.size, 0, none⟩) 4 4, .int .i64 1] w7 fun e w' => e = .returned (.tuple #[.int .i64 2, .bool true]) ∧ w' = w7) := hid0 ((longest_any [120, 97, 98, 99] _ 4 1 HT7.out HI7.out HIn.out (by simp) (by simp) (inI_small (by omega))).mono (fun _ _ h => ⟨by rw [h.1, lng0]; rfl, h.2⟩))
  go_upto_region 5 with (go_at_call 13; go_loud ((
    refine HLg.out.mono ?_
    rintro r w8 ⟨rfl, hw⟩
    have hw := hw.symm
    subst hw)))
  clear hfold
  obtain ⟨w8, hfold⟩ : ∃ w8, w7.alloc (.cells #[.int .i64 120, .int .i64 97, .int .i64 98, .int .i64 99] 3) = w8 := ⟨_, rfl⟩
  have HB78 : Hid (Below w7.heap.size w7 w8) := hid0 (by rw [← hfold]; exact (Below.refl _ _).alloc (Nat.le_refl _) _)
  have HI8 : Hid (IA w8 (some ⟨w7.heap.size, 0, none⟩) [120, 97, 98, 99]) := hid0 (by rw [← hfold]; exact ia_new w7 _ _ rfl)
  have HT8 := hid0 (Tr.past HT7.out HB78.out)
  have HEd : Hid (Calls Tryd.prog 14 #[.pointer (some ⟨T, 0, none⟩), .slice (some ⟨w7.heap.size, 0, none⟩) 4 4, .int .i64 3] w8 fun e w' => e = .returned (.tuple #[.int .i64 0, .bool true]) ∧ Below w8.heap.size w8 w') := hid0 ((ending_any [120, 97, 98, 99] _ 4 3 HT8.out HG.out HI8.out HIn.out (by simp) (by simp) (inI_small (by omega))).mono (fun _ _ h => ⟨by rw [h.1, end0]; rfl, h.2⟩))
  go_upto_region 6 with (go_at_call 14; go_loud ((
    refine HEd.out.mono ?_
    rintro r w9 ⟨rfl, hb⟩
    have HB89 := hid0 hb
    clear hb)))
  clear hfold
  obtain ⟨wa, hfold⟩ : ∃ wa, w9.alloc (.cells #[.int .i64 97, .int .i64 98, .int .i64 99, .int .i64 97] 3) = wa := ⟨_, rfl⟩
  have HB9a : Hid (Below w9.heap.size w9 wa) := hid0 (by rw [← hfold]; exact (Below.refl _ _).alloc (Nat.le_refl _) _)
  have HIa : Hid (IA wa (some ⟨w9.heap.size, 0, none⟩) [97, 98, 99, 97]) := hid0 (by rw [← hfold]; exact ia_new w9 _ _ rfl)
  have HTa := hid0 (Tr.past (Tr.past HT8.out HB89.out) HB9a.out)
  have HAl : Hid (Calls Tryd.prog 10 #[.pointer (some ⟨T, 0, none⟩), .slice (some ⟨w9.heap.size, 0, none⟩) 4 4] wa fun e w' => AllR wa [(0, 0, 2), (1, 1, 2), (2, 0, 3), (3, 2, 4)] e w') := hid0 ((all_any [97, 98, 99, 97] _ 4 HTa.out HG.out HIa.out (fun c hc => inI_small (by
    have : ∀ c ∈ ([97, 98, 99, 97] : List Int), 0 ≤ c ∧ c ≤ 1000000 := by decide
    exact this c hc)) (by simp) HTa.out.hs (by decide)).mono (fun _ _ h => by rw [all0] at h; exact h))
  go_upto_region 7 with (go_at_call 10; go_loud ((
    refine HAl.out.mono ?_
    rintro r wb ⟨v, rfl, ho, hb⟩
    obtain ⟨av, cv, rfl, hfa⟩ := ho.fa
    have HFb := hid0 hfa
    have HBab := hid0 hb
    clear ho hb hfa)))
  clear hfold
  obtain ⟨wc, hfold⟩ : ∃ wc, wb.alloc (.cells #[.int .i64 0, .int .i64 0, .int .i64 2, .int .i64 1, .int .i64 1, .int .i64 2, .int .i64 2, .int .i64 0, .int .i64 3, .int .i64 3, .int .i64 2, .int .i64 4] 35) = wc := ⟨_, rfl⟩
  have HBbc : Hid (Below wb.heap.size wb wc) := hid0 (by rw [← hfold]; exact (Below.refl _ _).alloc (Nat.le_refl _) _)
  have HSm : Hid (Calls Tryd.prog 11 #[.slice av 4 cv, .slice (some ⟨wb.heap.size, 0, none⟩) 4 4] wc fun e w' => e = .returned (.bool true) ∧ ∃ q, w' = wc.drewN q) := hid0 (same_fa [(0, 0, 2), (1, 1, 2), (2, 0, 3), (3, 2, 4)] av (some ⟨wb.heap.size, 0, none⟩) cv 4 wc (by simp) (HFb.out.past HBbc.out) (by rw [← hfold]; exact fa0 wb))
  have HBz : Hid (Below w.heap.size w wc) := hid0 (by
    have h1 := HB6.out
    have h2 := Below.later h1 HB67.out
    have h3 := Below.later h2 HB78.out
    have h4 := Below.later h3 HB89.out
    have h5 := Below.later h4 HB9a.out
    have h6 := Below.later h5 HBab.out
    exact Below.later h6 HBbc.out)
  go_wp2_with (go_at_call 11; go_loud ((
    refine HSm.out.mono ?_
    rintro r wd ⟨rfl, q, rfl⟩)))
  go_ret
  exact ⟨rfl, below_drew' HBz.out _⟩
end Go.Proofs.YtamgjdgnlcoapaaDoor
namespace Go.Proofs.YtamgjdgnlcoapaaDoor
def movF (f : Nat) (x : Fd) : Fd := (x.1, x.2.1 - (f : Int), x.2.2 - (f : Int))
def keepB (f t : Nat) (x : Fd) : Bool := decide ((f : Int) ≤ x.2.1) && decide (x.2.2 ≤ (t : Int))
theorem keepB_iff {f t : Nat} {x : Fd} : keepB f t x = true ↔ (f : Int) ≤ x.2.1 ∧ x.2.2 ≤ (t : Int) := by simp [keepB]
theorem ends_filter (E : List (List Int)) (m : Nat) (q : List Int) : (endsF E q).filter (fun e => decide (e.length ≤ m)) = endsF E (q.drop (q.length - m)) := by
  induction q with
  | nil => simp [endsF]
  | cons x xs ih =>
    by_cases h : (x :: xs).length ≤ m
    · rw [show (x :: xs).length - m = 0 by omega, List.drop_zero, List.filter_eq_self]
      intro e he
      have := (ends_mem he).2.1.length_le
      exact decide_eq_true (by omega)
    · have e1 : (x :: xs).length - m = (xs.length - m) + 1 := by simp only [List.length_cons] at *; omega
      rw [e1, List.drop_succ_cons, ← ih]
      have e2 : endsF E (x :: xs) = if (x :: xs) ∈ E then (x :: xs) :: endsF E xs else endsF E xs := rfl
      rw [e2]
      split
      · rw [List.filter_cons_of_neg (by simp only [decide_eq_true_eq]; exact h)]
      · rfl
theorem part_low {E : List (List Int)} {l : List Int} {k f t : Nat} (h : k < f ∨ t ≤ k) : ((endsF E (l.take (k + 1))).map (fdF E k)).filter (keepB f t) = [] := by
  rw [List.filter_eq_nil_iff]
  intro y hy
  obtain ⟨e, he, rfl⟩ := List.mem_map.1 hy
  have hne := (ends_mem he).2.2
  have hpos : 0 < e.length := List.length_pos_iff.2 hne
  intro h1
  have h2 := keepB_iff.1 h1
  have h3 : (fdF E k e).2.1 = (k : Int) + 1 - (e.length : Int) := rfl
  have h4 : (fdF E k e).2.2 = (k : Int) + 1 := rfl
  omega
theorem part_mid {E : List (List Int)} {l : List Int} {k f t : Nat} (hf : f ≤ k) (ht : k < t) (hk : k < l.length) : (((endsF E (l.take (k + 1))).map (fdF E k)).filter (keepB f t)).map (movF f) = (endsF E (((l.take t).drop f).take (k - f + 1))).map (fdF E (k - f)) := by
  rw [List.filter_map, List.map_map]
  have h1 : (endsF E (l.take (k + 1))).filter (keepB f t ∘ fdF E k) = endsF E ((l.take (k + 1)).drop f) := by
    have h2 := ends_filter E (k + 1 - f) (l.take (k + 1))
    rw [List.length_take, Nat.min_eq_left (by omega), show k + 1 - (k + 1 - f) = f by omega] at h2
    rw [← h2]
    apply List.filter_congr
    intro e he
    have h3 : (fdF E k e).2.1 = (k : Int) + 1 - (e.length : Int) := rfl
    have h4 : (fdF E k e).2.2 = (k : Int) + 1 := rfl
    apply Bool.eq_iff_iff.2
    rw [Function.comp, keepB_iff, decide_eq_true_eq]
    omega
  rw [h1, show ((l.take t).drop f).take (k - f + 1) = (l.take (k + 1)).drop f by
    rw [List.take_drop, List.take_take, show min (f + (k - f + 1)) t = k + 1 by omega]]
  apply List.map_congr_left
  intro e _
  simp only [Function.comp, movF, fdF]
  refine Prod.ext rfl (Prod.ext ?_ ?_)
  · show (k : Int) + 1 - (e.length : Int) - (f : Int) = ((k - f : Nat) : Int) + 1 - (e.length : Int)
    omega
  · show (k : Int) + 1 - (f : Int) = ((k - f : Nat) : Int) + 1
    omega
theorem pieces_upto (E : List (List Int)) (l : List Int) (f t : Nat) (ht : t ≤ l.length) : ∀ k, k ≤ l.length → ((allK E l k).filter (keepB f t)).map (movF f) = allK E ((l.take t).drop f) (min k t - f)
  | 0, _ => by rw [Nat.zero_min, Nat.zero_sub]; rfl
  | k + 1, hk => by
    rw [allK, List.filter_append, List.map_append, pieces_upto E l f t ht k (by omega)]
    by_cases h : k < f ∨ t ≤ k
    · rw [part_low h, List.map_nil, List.append_nil]
      congr 1
      omega
    · rw [part_mid (by omega) (by omega) (by omega), show min (k + 1) t - f = (k - f) + 1 by omega, show min k t - f = k - f by omega]
      rfl
theorem pieces_all (E : List (List Int)) (l : List Int) (f t : Nat) (ht : t ≤ l.length) : ((allK E l l.length).filter (keepB f t)).map (movF f) = allK E ((l.take t).drop f) ((l.take t).drop f).length := by
  rw [pieces_upto E l f t ht l.length (Nat.le_refl _), List.length_drop, List.length_take, Nat.min_comm]
/-- What is wanted of the first k. -/
def wantK (f t : Nat) (L : List Fd) (k : Nat) : List Fd := ((L.take k).filter (keepB f t)).map (movF f)
theorem wantK_yes {f t : Nat} {L : List Fd} {k : Nat} (hk : k < L.length) (h : keepB f t L[k] = true) : wantK f t L (k + 1) = wantK f t L k ++ [movF f L[k]] := by
  unfold wantK
  rw [List.take_add_one, List.getElem?_eq_getElem hk, Option.toList_some, List.filter_append, List.filter_cons_of_pos h, List.map_append]
  rfl
theorem wantK_no {f t : Nat} {L : List Fd} {k : Nat} (hk : k < L.length) (h : keepB f t L[k] = false) : wantK f t L (k + 1) = wantK f t L k := by
  unfold wantK
  rw [List.take_add_one, List.getElem?_eq_getElem hk, Option.toList_some, List.filter_append, List.filter_cons_of_neg (by simp [h]), List.filter_nil, List.append_nil]
theorem wantK_len (f t : Nat) (L : List Fd) (k : Nat) : (wantK f t L k).length ≤ L.length := by
  unfold wantK
  rw [List.length_map]
  exact Nat.le_trans (List.length_filter_le _ _) (by rw [List.length_take]; omega)
/-- How small the numbers of what All tells are. -/
theorem allK_small {E : List (List Int)} {l : List Int} (hl : ∀ e ∈ E, e.length ≤ 32) (hE : E.length ≤ 1000000) : ∀ k, ∀ x ∈ allK E l k, (0 ≤ x.1 ∧ x.1 ≤ 1000000) ∧ (-32 ≤ x.2.1 ∧ x.2.1 ≤ k) ∧ (1 ≤ x.2.2 ∧ x.2.2 ≤ k)
  | 0, x, h => by cases h
  | k + 1, x, h => by
    rcases List.mem_append.1 h with h | h
    · have := allK_small hl hE k x h
      omega
    · obtain ⟨e, he, rfl⟩ := List.mem_map.1 h
      have h1 := hl e (ends_mem he).1
      have h2 := numF_lt (ends_mem he).1
      have h3 : 0 < e.length := List.length_pos_iff.2 (ends_mem he).2.2
      simp only [fdF]
      omega
end Go.Proofs.YtamgjdgnlcoapaaDoor
namespace Go.Proofs.YtamgjdgnlcoapaaDoor
open Go.RowKit Go.Shelf Go.Lib Go.Maps
/-- What the law is handed. -/
structure LkA (w : World) (L : List (List Int)) (l : List Int) (aE aW : Option Addr) (cE cW : Nat) : Prop where
  e : RwA w aE L
  w' : IA w aW l
  cap : l.length ≤ cW
  el : ∀ r ∈ L, r.length ≤ 1000000000
  ll : l.length ≤ 100000000
  li : ∀ c ∈ l, inI c
set_option maxRecDepth 10000 in
set_option maxHeartbeats 1600000 in
theorem triePieces_any (A : Nat → Addr) (L : List (List Int)) (l : List Int) (at' : Int) (aE aW : Option Addr) (cE cW : Nat) (w : World) (h : LkA w L l aE aW cE cW) (hs : Se3 w A) :
    Calls Tryd.prog 3 #[.agg #[.slice aE L.length cE, .slice aW l.length cW, .int .i64 at']] w fun e w' => e = .returned (.bool true) ∧ Below w.heap.size w w' := by
  obtain ⟨w0, hw0, hb0, h0⟩ : ∃ w0, w.alloc (.cells #[.slice aE L.length cE, .slice aW l.length cW, .int .i64 at'] 25) = w0 ∧ Below w.heap.size w w0 ∧ w0.heap[w.heap.size]? = some (.cells #[.slice aE L.length cE, .slice aW l.length cW, .int .i64 at'] 25 (0, 0)) := ⟨_, rfl, (Below.refl _ _).alloc (Nat.le_refl _) _, heap_alloc_new _ _⟩
  have hz0 : w0.heap.size = w.heap.size + 1 := by rw [← hw0]; simp
  have HC : Hid (∀ V : World, Below w0.heap.size w0 V → V.cell? ⟨w.heap.size, 0, none⟩ = some (.slice aE L.length cE) ∧ V.cell? ⟨w.heap.size, 1, none⟩ = some (.slice aW l.length cW) ∧ V.cell? ⟨w.heap.size, 2, none⟩ = some (.int .i64 at')) := hid0 (fun V hV => by
    have hr := (hV.block w.heap.size (by omega)).trans h0
    exact ⟨by rw [cell_of_row _ _ _ _ _ _ hr]; rfl, by rw [cell_of_row _ _ _ _ _ _ hr]; rfl, by rw [cell_of_row _ _ _ _ _ _ hr]; rfl⟩)
  have HIn : Hid (∀ V : World, Below w0.heap.size w0 V → RwA V aE L ∧ IA V aW l ∧ Se3 V A ∧ Below w.heap.size w V) := hid0 (fun V hV => by
    have hq := hb0.trans (hV.mono (by omega))
    exact ⟨h.e.past hq, h.w'.past hq, hs.past hq, hq⟩)
  have HH := hid0 h
  have HBg := hid0 (begun_any A w0 (HIn.out w0 (Below.refl _ _)).2.2.1)
  have hpn := @run_eql_pointer_nil Tryd.prog
  have hll := h.ll
  have hcap := h.cap
  have HLL : Hid (∀ V : World, newE L = none → L.length ≤ 2000) := hid0 (fun _ hq => by
    unfold newE at hq
    split at hq
    · cases hq
    · omega)
  clear h hs hb0 h0 hz0
  go_enter Tryd.func3, Tryd.ntmps3
  go_upto_region 3 with (go_at_call 8; go_loud ((
    refine HBg.out.mono ?_
    rintro r w1 ⟨rfl, hb⟩
    have HB1 := hid0 hb; clear hb HBg)))
  clear hw0
  obtain ⟨x0, x1, x2⟩ := HC.out w1 HB1.out
  have HNw := hid0 (new_any A L aE cE w1 (HIn.out w1 HB1.out).1 (HIn.out w1 HB1.out).2.2.1 (fun e he => by have := HH.out.el e he; omega))
  cases hne : newE L with
  | some j =>
    have HE := hid0 hne
    clear hne
    go_upto_region 4 with (go_at_call 9; go_loud ((
    refine HNw.out.mono ?_
    rintro r w2 ⟨hb, hr⟩
    obtain rfl : r = .returned (.tuple #[.pointer none, .iface 71 (.pointer (some (A j)))]) := by
      rcases hr with ⟨k, hk, h2⟩ | ⟨hk, _⟩
      · rw [HE.out] at hk; injection hk with hk; rw [hk]; exact h2
      · rw [HE.out] at hk; cases hk
    have HB2 : Hid (Below w0.heap.size w0 w2) := hid0 (HB1.out.trans (hb.mono HB1.out.size))
    clear hb hr HNw)))
    go_wp2
    go_ret
    exact ⟨rfl, (HIn.out _ HB2.out).2.2.2⟩
  | none =>
    have HE := hid0 hne
    clear hne
    go_upto_region 4 with (go_at_call 9; go_loud ((
    refine HNw.out.mono ?_
    rintro r w2 ⟨hb, hr⟩
    obtain ⟨hG, T, hi, bk, mp, rfl, ht⟩ : Good L ∧ ∃ T hi bk mp, r = .returned (.tuple #[.pointer (some ⟨T, 0, none⟩), .nilIface]) ∧ TrieAt w2 w1.heap.size hi T L bk mp := by
      rcases hr with ⟨k, hk, _⟩ | ⟨_, h1, h2⟩
      · rw [HE.out] at hk; cases hk
      · exact ⟨h1, h2⟩
    have HT := hid0 ht
    have HG := hid0 hG
    have HB2 : Hid (Below w0.heap.size w0 w2) := hid0 (HB1.out.trans (hb.mono HB1.out.size))
    clear hb hr HNw ht hG)))
    clear x0 x1 x2
    obtain ⟨x0, x1, x2⟩ := HC.out w2 HB2.out
    go_upto_region 7 with (fail)
    go_cut [41] from 33 (fun c wx => ∃ b : Bool, c = .bool b ∧ Hid (b = false → 0 ≤ at' ∧ at' ≤ (l.length : Int)) ∧ wx = w2)
    case first =>
      by_cases h1 : at' < 0
      · go_wp2_with fail
        go_meet
        case rel => exact ⟨true, rfl, hid0 (fun h => nomatch h), rfl⟩
      · by_cases h2 : at' > (l.length : Int)
        · go_wp2_with fail
          go_meet
          case rel => exact ⟨true, rfl, hid0 (fun h => nomatch h), rfl⟩
        · go_wp2_with fail
          go_meet
          case rel => exact ⟨false, rfl, hid0 (fun _ => by omega), rfl⟩
    case rest =>
    obtain ⟨bq, rfl, HQ, hw⟩ := hcut
    have hw := hw.symm
    subst hw
    go_upto_if 41 with (fail)
    go_cut [5] from 33 (fun c wx => ∃ f : Nat, c = .int .i64 (f : Int) ∧ f ≤ l.length ∧ wx = w2)
    case first =>
      cases bq with
      | true =>
        go_wp2_with fail
        go_meet
        case rel => exact ⟨0, rfl, Nat.zero_le _, rfl⟩
      | false =>
        obtain ⟨h1, h2⟩ := HQ.out rfl
        obtain ⟨m, rfl⟩ : ∃ m : Nat, at' = (m : Int) := ⟨at'.toNat, by omega⟩
        go_wp2_with fail
        go_meet
        case rel => exact ⟨m, rfl, by omega, rfl⟩
    case rest =>
    obtain ⟨f, rfl, hf, hw⟩ := hcut
    have hw := hw.symm
    subst hw
    clear HQ
    obtain ⟨d, hd⟩ : ∃ d, d = (l.length - f) / 2 := ⟨_, rfl⟩
    have htd : Int.tdiv ((l.length : Int) - (f : Int)) 2 = (d : Int) := by
      rw [Int.tdiv_eq_ediv_of_nonneg (by omega)]
      omega
    obtain ⟨t, hft, htl, HFl⟩ : ∃ t : Nat, (f : Int) + (d : Int) = (t : Int) ∧ t ≤ l.length ∧ Hid (f ≤ t ∧ (f = l.length → t = f)) := ⟨f + d, by omega, by omega, hid0 (by omega)⟩
    have hwr : IntKind.i64.wrap ((l.length : Int) - (f : Int)) = (l.length : Int) - (f : Int) := by simp [IntKind.wrap, IntKind.bits, IntKind.signed]; omega
    have hfI : (f : Int) ≤ (l.length : Int) := by omega
    clear hd
    go_upto_region 10 with (fail)
    clear htd hwr hft
    obtain ⟨pc, hpc⟩ : ∃ pc, pc = (l.take t).drop f := ⟨_, rfl⟩
    have HPl : Hid (pc.length = t - f) := hid0 (by rw [hpc, List.length_drop, List.length_take]; omega)
    have HPi : Hid (∀ c ∈ pc, inI c) := hid0 (fun c hc => HH.out.li c (List.mem_of_mem_take (List.mem_of_mem_drop (by rw [hpc] at hc; exact hc))))
    have HPc := hid0 hpc
    have HAp : Hid (∀ (a : Option Addr) (c : Nat), IA w2 a pc → Calls Tryd.prog 10 #[.pointer (some ⟨T, 0, none⟩), .slice a (t - f) c] w2 fun e w' => AllR w2 (allK L pc pc.length) e w') := hid0 (fun a c ha => by
      have h := all_any pc a c HT.out HG.out ha HPi.out (by have := HPl.out; omega) HT.out.hs (by have := HLL.out w2 HE.out; omega)
      rw [HPl.out] at h ⊢
      exact h)
    clear hpc
    go_cut [7] from 42 (fun v wx => ∃ (a7 : Option Addr) (c7 : Nat), v = .slice a7 (allK L pc pc.length).length c7 ∧ Hid (FA wx a7 (allK L pc pc.length)) ∧ Hid (Below w2.heap.size w2 wx))
    case first =>
      by_cases hfl : f < l.length
      · obtain ⟨b, off, hab, _, _⟩ := (HIn.out w2 HB2.out).2.1.at' f hfl
        subst hab
        have HAq : Hid (Calls Tryd.prog 10 #[.pointer (some ⟨T, 0, none⟩), .slice (some ⟨b, off + f, none⟩) (t - f) (cW - f)] w2 fun e w' => AllR w2 (allK L pc pc.length) e w') := hid0 (HAp.out _ _ ⟨fun k hk => by
          have hk2 : k < t - f := by have := HPl.out; omega
          obtain ⟨b2, off2, e2, hb2, hc2⟩ := (HIn.out w2 HB2.out).2.1.at' (f + k) (by omega)
          injection e2 with e2
          injection e2 with e3 e4
          subst e3 e4
          refine ⟨b, off + f, rfl, hb2, ?_⟩
          rw [show off + f + k = off + (f + k) by omega, hc2]
          simp only [HPc.out, List.getElem_drop, List.getElem_take]⟩)
        have hncf : ¬ cW = f := by omega
        have hft2 : (f : Int) ≤ (t : Int) := by have := HFl.out; omega
        have htc : (t : Int) ≤ (cW : Int) := by omega
        go_wp2_with (go_at_call 10; go_loud ((
          refine HAq.out.mono ?_
          rintro r w3 ⟨v, rfl, ho, hb⟩
          obtain ⟨a7, c7, rfl, hfa⟩ := ho.fa
          have HF3 := hid0 hfa
          have HB3 := hid0 hb
          clear ho hb hfa)))
        go_meet
        case rel => exact ⟨a7, c7, rfl, HF3, HB3⟩
      · have hfe : f = l.length := by omega
        have hte : t = f := HFl.out.2 hfe
        subst hte
        have HAq : Hid (∀ (a : Option Addr) (c : Nat), Calls Tryd.prog 10 #[.pointer (some ⟨T, 0, none⟩), .slice a 0 c] w2 fun e w' => AllR w2 (allK L pc pc.length) e w') := hid0 (fun a c => by
          have h := HAp.out a c ⟨fun k hk => by have := HPl.out; omega⟩
          rw [Nat.sub_self] at h
          exact h)
        have htc : (t : Int) ≤ (cW : Int) := by omega
        have hse : t - t = 0 := Nat.sub_self t
        clear hfe hfl
        cases aW with
        | none =>
          go_wp2_with (go_at_call 10; go_loud ((
            refine (HAq.out _ _).mono ?_
            rintro r w3 ⟨v, rfl, ho, hb⟩
            obtain ⟨a7, c7, rfl, hfa⟩ := ho.fa
            have HF3 := hid0 hfa
            have HB3 := hid0 hb
            clear ho hb hfa)))
          go_meet
          case rel => exact ⟨a7, c7, rfl, HF3, HB3⟩
        | some a0 =>
          obtain ⟨ad, had⟩ : ∃ ad : Option Addr, (if cW = t then some a0 else some (a0.add t)) = ad := ⟨_, rfl⟩
          go_wp2_with (go_at_call 10; go_loud ((
            refine (HAq.out _ _).mono ?_
            rintro r w3 ⟨v, rfl, ho, hb⟩
            obtain ⟨a7, c7, rfl, hfa⟩ := ho.fa
            have HF3 := hid0 hfa
            have HB3 := hid0 hb
            clear ho hb hfa)))
          go_meet
          case rel => exact ⟨a7, c7, rfl, HF3, HB3⟩
    case rest =>
    obtain ⟨a7, c7, rfl, HF3, HB3⟩ := hcut
    have HBc : Hid (Below w0.heap.size w0 wc) := hid0 (HB2.out.trans (HB3.out.mono HB2.out.size))
    clear x0 x1 x2 HAp
    obtain ⟨x0, x1, x2⟩ := HC.out wc HBc.out
    have HAl := hid0 (all_any l aW cW (Tr.past HT.out HB3.out) HG.out (HIn.out wc HBc.out).2.1 HH.out.li (by omega) (Nat.le_trans HT.out.hs HB3.out.size) (by have := HLL.out w2 HE.out; omega))
    have HSm9 := hid0 (allK_small (l := l) HG.out.len (by have := HLL.out w2 HE.out; omega) l.length)
    have HLn8 := hid0 (allK_len HG.out.len l l.length)
    have HPa := hid0 (pieces_all L l f t htl)
    rw [← HPc.out] at HPa
    generalize allK L pc pc.length = LP at *
    generalize allK L l l.length = LA at *
    go_wp2_with (go_at_call 10; go_loud ((
      refine HAl.out.mono ?_
      rintro r w4 ⟨v, rfl, ho, hb⟩
      obtain ⟨a8, c8, rfl, hfa⟩ := ho.fa
      have HF4 := hid0 hfa
      have HB4 := hid0 hb
      clear ho hb hfa HAl)))
    have HF7 := hid0 (HF3.out.past HB4.out)
    have HBz : Hid (Below w0.heap.size w0 w4) := hid0 (HBc.out.trans (HB4.out.mono HBc.out.size))
    clear x0 x1 x2 HF3 HB3 HBc HB4 hcap
    obtain ⟨i0, hi0, hz0, hz1, hz2⟩ := info_parts infoF
    have hn8 : LA.length ≤ 3200000000 := by have := HLn8.out; omega
    clear HLn8
    go_loopw [9, 10] (fun v i wr => ∃ k : Nat, k ≤ LA.length ∧ i = .int .i64 (k : Int) ∧ Hid (OwnF wr w4.heap.size v (wantK f t LA k)) ∧ Hid (Below w4.heap.size w4 wr)) (fun _ i _ => LA.length - (intOf i).toNat)
    case atStart => exact ⟨0, Nat.zero_le _, rfl, hid0 (World.ownsRow_nil _ _ _ _), hid0 (Below.refl _ _)⟩
    case round =>
      obtain ⟨k, hk, rfl, HO, HBr⟩ := hrel
      by_cases hlt : k < LA.length
      · obtain ⟨b8, o8, e8, hb8, c0, c1, c2⟩ := (HF4.out.past HBr.out).at' k hlt
        subst e8
        have hb84 : b8 < w4.heap.size := by
          obtain ⟨b9, o9, e9, hb9, _⟩ := HF4.out.at' k hlt
          injection e9 with e9
          injection e9 with e9 _
          omega
        have hkI : (k : Int) < (LA.length : Int) := by omega
        have hkI0 : (0 : Int) ≤ (k : Int) := by omega
        have hsm := HSm9.out _ (List.getElem_mem hlt)
        have HY : Hid (keepB f t LA[k] = true → wantK f t LA (k + 1) = wantK f t LA k ++ [movF f LA[k]]) := hid0 (wantK_yes hlt)
        have HNo : Hid (keepB f t LA[k] = false → wantK f t LA (k + 1) = wantK f t LA k) := hid0 (wantK_no hlt)
        have hwl := wantK_len f t LA k
        generalize LA[k] = u at *
        have HKi : Hid (keepB f t u = true ↔ (f : Int) ≤ u.2.1 ∧ u.2.2 ≤ (t : Int)) := hid0 keepB_iff
        by_cases h1 : u.2.1 ≥ (f : Int)
        · by_cases h2 : u.2.2 ≤ (t : Int)
          · have HY2 : Hid (wantK f t LA (k + 1) = wantK f t LA k ++ [movF f u]) := hid0 (HY.out (HKi.out.2 ⟨h1, h2⟩))
            have hw1 : IntKind.i64.wrap (u.2.1 - (f : Int)) = u.2.1 - (f : Int) := by simp [IntKind.wrap, IntKind.bits, IntKind.signed]; omega
            have hw2 : IntKind.i64.wrap (u.2.2 - (f : Int)) = u.2.2 - (f : Int) := by simp [IntKind.wrap, IntKind.bits, IntKind.signed]; omega
            have HSv : Hid (∀ V : World, Below w4.heap.size w4 V → (fun V => V.cell? ⟨b8, o8 + k * 3, none⟩ = some (.int .i64 u.1) ∧ V.cell? ⟨b8, o8 + k * 3 + 1, none⟩ = some (.int .i64 u.2.1) ∧ V.cell? ⟨b8, o8 + k * 3 + 2, none⟩ = some (.int .i64 u.2.2)) V) := hid0 (fun V hV => by
              have key : ∀ o x, wr.cell? ⟨b8, o, none⟩ = some x → V.cell? ⟨b8, o, none⟩ = some x := fun o x hx => by
                rw [hV.cell (p := ⟨b8, o, none⟩) hb84, ← HBr.out.cell (p := ⟨b8, o, none⟩) hb84]
                exact hx
              exact ⟨key _ _ c0, key _ _ c1, key _ _ c2⟩)
            have HBd : Hid (Below w4.heap.size w4 wr.drew) := hid0 ⟨HBr.out.os, HBr.out.tape, HBr.out.output, HBr.out.size, HBr.out.block⟩
            have HBe : Hid (Below w4.heap.size w4 (wr.drew.alloc (.cells #[.int .i64 u.1, .int .i64 (u.2.1 - (f : Int)), .int .i64 (u.2.2 - (f : Int))] 35))) := hid0 (HBd.out.alloc HBr.out.size _)
            generalize wantK f t LA k = L9 at *
            obtain ⟨av, cv, hvf⟩ : ∃ av cv, u9 = .slice av L9.length cv := by
              obtain ⟨av, cv, e, _⟩ := HO.out.fa
              exact ⟨av, cv, e⟩
            subst hvf
            have HOk : Hid (wr.drew.ownsRow w4.heap.size 35 3 (.slice av L9.length cv) L9.length (cellsF L9)) := hid0 (own_blk HO.out (fun _ _ => rfl))
            generalize hn9 : L9.length = n9 at *
            have HN9 := hid0 hn9
            have HLn : Hid (n9 ≤ 3200000000) := hid0 (by omega)
            clear hn9 hwl hsm
            go_upto_region 17 with (fail)
            clear c0 c1 c2
            refine wp_region_noPanic ?_
            refine wp_region_held_drew (S := (fun V => V.cell? ⟨b8, o8 + k * 3, none⟩ = some (.int .i64 u.1) ∧ V.cell? ⟨b8, o8 + k * 3 + 1, none⟩ = some (.int .i64 u.2.1) ∧ V.cell? ⟨b8, o8 + k * 3 + 2, none⟩ = some (.int .i64 u.2.2))) (by kernel_rfl) ?_ (fun hHeld => ?_)
            · exact HSv.out _ HBd.out
            refine tkV (i := 0) (d := some 83) (v := ?_) rfl (by kernel_rfl) (by kernel_rfl) (by kernel_rfl) rfl (fun _ _ _ h => h) (by rfl) ?_ (by assumption) ?_
            rotate_left
            · (intro w hSw; (try dsimp only at hSw); (try simp only [List.getElem_toArray, List.getElem_cons_zero]); go_simp; try with_reducible rfl)
            try simp only [Act.put, List.setIfInBounds_toArray, List.set_cons_zero, List.set_cons_succ]
            refine tkV (i := 1) (d := some 84) (v := ?_) rfl (by kernel_rfl) (by kernel_rfl) (by kernel_rfl) rfl (fun _ _ _ h => h) (by rfl) ?_ (by assumption) ?_
            rotate_left
            · (intro w hSw; (try dsimp only at hSw); (try simp only [List.getElem_toArray, List.getElem_cons_zero, List.getElem_cons_succ]); go_simp; try with_reducible rfl)
            try simp only [Act.put, List.setIfInBounds_toArray, List.set_cons_zero, List.set_cons_succ]
            refine tkV (i := 2) (d := some 85) (v := ?_) rfl (by kernel_rfl) (by kernel_rfl) (by kernel_rfl) rfl (fun _ _ _ h => h) (by rfl) ?_ (by assumption) ?_
            rotate_left
            · (intro w hSw; (try dsimp only at hSw); (try simp only [List.getElem_toArray, List.getElem_cons_zero, List.getElem_cons_succ]); go_simp; try with_reducible rfl)
            try simp only [Act.put, List.setIfInBounds_toArray, List.set_cons_zero, List.set_cons_succ]
            refine tkV (i := 3) (d := some 86) (v := ?_) rfl (by kernel_rfl) (by kernel_rfl) (by kernel_rfl) rfl (fun _ _ _ h => h) (by rfl) ?_ (by assumption) ?_
            rotate_left
            · (intro w hSw; (try dsimp only at hSw); (try simp only [List.getElem_toArray, List.getElem_cons_zero, List.getElem_cons_succ]); go_simp; try with_reducible rfl)
            try simp only [Act.put, List.setIfInBounds_toArray, List.set_cons_zero, List.set_cons_succ]
            refine tkV (i := 4) (d := some 87) (v := ?_) rfl (by kernel_rfl) (by kernel_rfl) (by kernel_rfl) rfl (fun _ _ _ h => h) (by rfl) ?_ (by assumption) ?_
            rotate_left
            · (intro w hSw; (try dsimp only at hSw); (try simp only [List.getElem_toArray, List.getElem_cons_zero, List.getElem_cons_succ]); go_simp; try with_reducible rfl)
            try simp only [Act.put, List.setIfInBounds_toArray, List.set_cons_zero, List.set_cons_succ]
            refine tkV (i := 5) (d := some 88) (v := ?_) rfl (by kernel_rfl) (by kernel_rfl) (by kernel_rfl) rfl (fun _ _ _ h => h) (by rfl) ?_ (by assumption) ?_
            rotate_left
            · (intro w hSw; (try dsimp only at hSw); (try simp only [List.getElem_toArray, List.getElem_cons_zero, List.getElem_cons_succ]); go_simp; try with_reducible rfl)
            try simp only [Act.put, List.setIfInBounds_toArray, List.set_cons_zero, List.set_cons_succ]
            refine tkV (i := 6) (d := some 89) (v := ?_) rfl (by kernel_rfl) (by kernel_rfl) (by kernel_rfl) rfl (fun _ _ _ h => h) (by rfl) ?_ (by assumption) ?_
            rotate_left
            · (intro w hSw; (try dsimp only at hSw); (try simp only [List.getElem_toArray, List.getElem_cons_zero, List.getElem_cons_succ]); go_simp; try with_reducible rfl)
            try simp only [Act.put, List.setIfInBounds_toArray, List.set_cons_zero, List.set_cons_succ]
            refine tkV (i := 7) (d := some 90) (v := ?_) rfl (by kernel_rfl) (by kernel_rfl) (by kernel_rfl) rfl (fun _ _ _ h => h) (by rfl) ?_ (by assumption) ?_
            rotate_left
            · (intro w hSw; (try dsimp only at hSw); (try simp only [List.getElem_toArray, List.getElem_cons_zero, List.getElem_cons_succ]); go_simp; try with_reducible rfl)
            try simp only [Act.put, List.setIfInBounds_toArray, List.set_cons_zero, List.set_cons_succ]
            refine tkV (i := 8) (d := some 91) (v := ?_) rfl (by kernel_rfl) (by kernel_rfl) (by kernel_rfl) rfl (fun _ _ _ h => h) (by rfl) ?_ (by assumption) ?_
            rotate_left
            · (intro w hSw; (try dsimp only at hSw); (try simp only [List.getElem_toArray, List.getElem_cons_zero, List.getElem_cons_succ]); go_simp; try with_reducible rfl)
            try simp only [Act.put, List.setIfInBounds_toArray, List.set_cons_zero, List.set_cons_succ]
            refine tkV (i := 9) (d := some 92) (v := ?_) rfl (by kernel_rfl) (by kernel_rfl) (by kernel_rfl) rfl (fun _ _ _ h => h) (by rfl) ?_ (by assumption) ?_
            rotate_left
            · (intro w hSw; (try dsimp only at hSw); (try simp only [List.getElem_toArray, List.getElem_cons_zero, List.getElem_cons_succ]); go_simp; try with_reducible rfl)
            try simp only [Act.put, List.setIfInBounds_toArray, List.set_cons_zero, List.set_cons_succ]
            refine tkV (i := 10) (d := some 93) (v := ?_) rfl (by kernel_rfl) (by kernel_rfl) (by kernel_rfl) rfl (fun _ _ _ h => h) (by rfl) ?_ (by assumption) ?_
            rotate_left
            · (intro w hSw; (try dsimp only at hSw); (try simp only [List.getElem_toArray, List.getElem_cons_zero, List.getElem_cons_succ]); go_simp; try with_reducible rfl)
            try simp only [Act.put, List.setIfInBounds_toArray, List.set_cons_zero, List.set_cons_succ]
            refine tkV (i := 11) (d := some 94) (v := ?_) rfl (by kernel_rfl) (by kernel_rfl) (by kernel_rfl) rfl (fun _ _ _ h => h) (by rfl) ?_ (by assumption) ?_
            rotate_left
            · (intro w hSw; (try dsimp only at hSw); (try simp only [List.getElem_toArray, List.getElem_cons_zero, List.getElem_cons_succ]); go_simp; try with_reducible rfl)
            try simp only [Act.put, List.setIfInBounds_toArray, List.set_cons_zero, List.set_cons_succ]
            refine tkV (i := 12) (d := some 95) (v := ?_) rfl (by kernel_rfl) (by kernel_rfl) (by kernel_rfl) rfl (fun _ _ _ h => h) (by rfl) ?_ (by assumption) ?_
            rotate_left
            · (intro w hSw; (try dsimp only at hSw); (try simp only [List.getElem_toArray, List.getElem_cons_zero, List.getElem_cons_succ]); go_simp; try with_reducible rfl)
            try simp only [Act.put, List.setIfInBounds_toArray, List.set_cons_zero, List.set_cons_succ]
            refine tkV (i := 13) (d := some 96) (v := ?_) rfl (by kernel_rfl) (by kernel_rfl) (by kernel_rfl) rfl (fun _ _ _ h => h) (by rfl) ?_ (by assumption) ?_
            rotate_left
            · (intro w hSw; (try dsimp only at hSw); (try simp only [List.getElem_toArray, List.getElem_cons_zero, List.getElem_cons_succ]); go_simp; try with_reducible rfl)
            try simp only [Act.put, List.setIfInBounds_toArray, List.set_cons_zero, List.set_cons_succ]
            refine tkV (i := 14) (d := some 97) (v := ?_) rfl (by kernel_rfl) (by kernel_rfl) (by kernel_rfl) rfl (fun _ _ _ h => h) (by rfl) ?_ (by assumption) ?_
            rotate_left
            · (intro w hSw; (try dsimp only at hSw); (try simp only [List.getElem_toArray, List.getElem_cons_zero, List.getElem_cons_succ]); go_simp; try with_reducible rfl)
            try simp only [Act.put, List.setIfInBounds_toArray, List.set_cons_zero, List.set_cons_succ]
            refine tkV (i := 15) (d := some 98) (v := ?_) rfl (by kernel_rfl) (by kernel_rfl) (by kernel_rfl) rfl (fun _ _ _ h => h) (by rfl) ?_ (by assumption) ?_
            rotate_left
            · (intro w hSw; (try dsimp only at hSw); (try simp only [List.getElem_toArray, List.getElem_cons_zero, List.getElem_cons_succ]); go_simp; try with_reducible rfl)
            try simp only [Act.put, List.setIfInBounds_toArray, List.set_cons_zero, List.set_cons_succ]
            refine tkV (i := 16) (d := some 99) (v := ?_) rfl (by kernel_rfl) (by kernel_rfl) (by kernel_rfl) rfl (fun _ _ _ h => h) (by rfl) ?_ (by assumption) ?_
            rotate_left
            · (intro w hSw; (try dsimp only at hSw); (try simp only [List.getElem_toArray, List.getElem_cons_zero, List.getElem_cons_succ]); go_simp; try with_reducible rfl)
            try simp only [Act.put, List.setIfInBounds_toArray, List.set_cons_zero, List.set_cons_succ]
            refine tkV (i := 17) (d := some 100) (v := ?_) rfl (by kernel_rfl) (by kernel_rfl) (by kernel_rfl) rfl (fun _ _ _ h => h) (by rfl) ?_ (by assumption) ?_
            rotate_left
            · (intro w hSw; (try dsimp only at hSw); (try simp only [List.getElem_toArray, List.getElem_cons_zero, List.getElem_cons_succ]); go_simp; try with_reducible rfl)
            try simp only [Act.put, List.setIfInBounds_toArray, List.set_cons_zero, List.set_cons_succ]
            refine tkV (i := 18) (d := some 101) (v := ?_) rfl (by kernel_rfl) (by kernel_rfl) (by kernel_rfl) rfl (fun _ _ _ h => h) (by rfl) ?_ (by assumption) ?_
            rotate_left
            · (intro w hSw; (try dsimp only at hSw); (try simp only [List.getElem_toArray, List.getElem_cons_zero, List.getElem_cons_succ]); go_simp; try with_reducible rfl)
            try simp only [Act.put, List.setIfInBounds_toArray, List.set_cons_zero, List.set_cons_succ]
            refine tkV (i := 19) (d := some 102) (v := ?_) rfl (by kernel_rfl) (by kernel_rfl) (by kernel_rfl) rfl (fun _ _ _ h => h) (by rfl) ?_ (by assumption) ?_
            rotate_left
            · (intro w hSw; (try dsimp only at hSw); (try simp only [List.getElem_toArray, List.getElem_cons_zero, List.getElem_cons_succ]); go_simp; try with_reducible rfl)
            try simp only [Act.put, List.setIfInBounds_toArray, List.set_cons_zero, List.set_cons_succ]
            refine tkV (i := 20) (d := some 103) (v := ?_) rfl (by kernel_rfl) (by kernel_rfl) (by kernel_rfl) rfl (fun _ _ _ h => h) (by rfl) ?_ (by assumption) ?_
            rotate_left
            · (intro w hSw; (try dsimp only at hSw); (try simp only [List.getElem_toArray, List.getElem_cons_zero, List.getElem_cons_succ]); go_simp; try with_reducible rfl)
            try simp only [Act.put, List.setIfInBounds_toArray, List.set_cons_zero, List.set_cons_succ]
            refine wpAnyH_ready (rs := [21]) (by kernel_rfl) (by simp) (AllReadyH.cons rfl (fun K hK => ?_) AllReadyH.nil)
            try simp only [List.getElem_toArray, List.getElem_cons_zero, List.getElem_cons_succ]
            go_simp
            refine hK.out _ _ ?_ (fun hHeld21 => ?_)
            · exact HSv.out _ HBe.out
            clear hK K
            (try simp only [Act.put]); (try simp only [List.setIfInBounds_toArray]); (try simp only [List.set_cons_succ]); (try simp only [List.set_cons_zero])
            refine wpAnyH_ready (rs := [22]) (by kernel_rfl) (by simp) (AllReadyH.cons rfl (fun K hK => ?_) AllReadyH.nil)
            refine step_append_lies _ (by rfl) _ _ _ (by rfl) w4.heap.size 35 i0 (.agg #[.int .i64 0, .int .i64 0, .int .i64 0]) 3 24 Tryd.underlying32 hi0 hz0 hz1 hz2 rfl (by decide) (.slice av n9 cv) n9 (cellsF L9) (by rfl) (World.ownsRow.alloc HOk.out _) ⟨wr.heap.size, 0, none⟩ 1 1 [.int .i64 u.1, .int .i64 (u.2.1 - (f : Int)), .int .i64 (u.2.2 - (f : Int))] (by rfl) (by rfl) (World.news_of_block (cs := #[.int .i64 u.1, .int .i64 (u.2.1 - (f : Int)), .int .i64 (u.2.2 - (f : Int))]) (t := 35) (fr := (0, 0)) (heap_alloc_new wr.drew _)) (by simp [Value.oneCell']) (by omega) (by unfold maxLen; have := HLn.out; omega) (by have := HLn.out; omega) (by have := HBr.out.size; simp; omega) (wr.heap.size + 1) (by simp) ?_
            intro g2 cap2 w5 hown2 hgrow2 _ _
            have HO5 : Hid (OwnF w5 w4.heap.size (.slice (some ⟨g2, 0, none⟩) (n9 + 1) cap2) (L9 ++ [movF f u])) := hid0 (by unfold OwnF; rw [cellsF_snoc, List.length_append, HN9.out]; exact hown2)
            have HB5 : Hid (Below w4.heap.size w4 w5) := hid0 (((show Below w4.heap.size w4 wr.drew from ⟨HBr.out.os, HBr.out.tape, HBr.out.output, HBr.out.size, HBr.out.block⟩).alloc HBr.out.size _).grown hgrow2 (by have := HBr.out.size; simp; omega) (fun j hj => (World.ownsRow.lt HOk.out j hj).1))
            clear hown2 hgrow2
            refine hK.out _ _ ?_ (fun hHeld22 => ?_)
            · exact HSv.out _ HB5.out
            clear hK K
            (try simp only [Act.put]); (try simp only [List.setIfInBounds_toArray]); (try simp only [List.set_cons_succ]); (try simp only [List.set_cons_zero])
            refine tkV (i := 23) (d := some 9) (v := ?_) rfl (by kernel_rfl) (by kernel_rfl) (by kernel_rfl) rfl (fun _ _ _ h => h) (by rfl) ?_ (by assumption) ?_
            rotate_left
            · (intro w hSw; (try dsimp only at hSw); (try simp only [List.getElem_toArray, List.getElem_cons_zero, List.getElem_cons_succ]); go_simp; try with_reducible rfl)
            try simp only [Act.put]
            refine wpAnyH_done (by kernel_rfl) ?_ _
            refine NoPanic.normal ?_
            go_wp2
            go_roundw
            case rel => exact ⟨k + 1, hlt, by go_num, hid0 (by rw [HY2.out]; exact HO5.out), HB5⟩
            case measure => simp [intOf]; omega
          · have HN2 : Hid (wantK f t LA (k + 1) = wantK f t LA k) := hid0 (HNo.out (by
              cases hq : keepB f t u with
              | false => rfl
              | true => exact absurd (HKi.out.1 hq).2 h2))
            clear hsm hwl
            go_wp2
            go_roundw
            case rel => exact ⟨k + 1, hlt, by go_num, hid0 (by rw [HN2.out]; exact HO.out), HBr⟩
            case measure => simp [intOf]; omega
        · have HN2 : Hid (wantK f t LA (k + 1) = wantK f t LA k) := hid0 (HNo.out (by
            cases hq : keepB f t u with
            | false => rfl
            | true => exact absurd (HKi.out.1 hq).1 h1))
          clear hsm hwl
          go_wp2
          go_roundw
          case rel => exact ⟨k + 1, hlt, by go_num, hid0 (by rw [HN2.out]; exact HO.out), HBr⟩
          case measure => simp [intOf]; omega
      · have hkI : ¬ (k : Int) < (LA.length : Int) := by omega
        have HW : Hid (wantK f t LA k = LP) := hid0 (by
          unfold wantK
          rw [List.take_of_length_le (by omega)]
          exact HPa.out)
        have HO2 : Hid (OwnF wr w4.heap.size u9 LP) := hid0 (by rw [← HW.out]; exact HO.out)
        have hlp : LP.length ≤ 3200000000 := by rw [← HW.out]; have := wantK_len f t LA k; omega
        obtain ⟨av, cv, hvf, hfa⟩ := HO2.out.fa
        subst hvf
        have HSF := hid0 (same_fa LP a7 av c7 cv wr (by omega) (HF7.out.past HBr.out) hfa)
        have HBy : Hid (Below w.heap.size w wr) := hid0 (HIn.out wr (HBz.out.trans (HBr.out.mono HBz.out.size))).2.2.2
        clear hfa HO HO2 HW
        go_wp2_with (go_at_call 11; go_loud ((
          refine HSF.out.mono ?_
          rintro r w6 ⟨rfl, q, rfl⟩)))
        go_ret
        exact ⟨rfl, below_drew' HBy.out _⟩
end Go.Proofs.YtamgjdgnlcoapaaDoor
