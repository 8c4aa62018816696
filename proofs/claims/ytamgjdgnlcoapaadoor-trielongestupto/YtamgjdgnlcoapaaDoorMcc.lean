/-
  TrPW, TrQW, TrRM, TrSM, TrSW, TrTW, TrUM, TrUW.
-/
import Derived.Test.YtamgjdgnlcoapaaDoorMcb
import Derived.Deep.Cut
import Derived.BigQuiet
namespace Go.Proofs.YtamgjdgnlcoapaaDoor
open Go.RowKit Go.Shelf Go.Lib Go.Maps
attribute [local go_sem] Oper.semAt_some
/-- What All answers. -/
def AllR (w : World) (L : List Fd) (r : Ending) (w' : World) : Prop := ∃ v, r = .returned v ∧ OwnF w' w.heap.size v L ∧ Below w.heap.size w w'
set_option maxRecDepth 100000 in
set_option maxHeartbeats 2000000 in
theorem all_any {w : World} {lo hi T : Nat} {E : List (List Int)} {bk : List Int → Nat} {mp : List Int → Option Nat} (l : List Int) (a : Option Addr) (ca : Nat) (h : TrieAt w lo hi T E bk mp) (hG : Good E) (ha : IA w a l) (hI : ∀ c ∈ l, inI c) (hl : l.length ≤ 1000000000) (hh : hi ≤ w.heap.size) (_hE : E.length ≤ 1000000) :
    Calls Tryd.prog 10 #[.pointer (some ⟨T, 0, none⟩), .slice a l.length ca] w fun e w' => AllR w (allK E l l.length) e w' := by
  obtain ⟨i0, hi0, hz0, hz1, hz2⟩ := info_parts infoF
  obtain ⟨w0, hw0⟩ : ∃ w0, w0 = w.alloc (.cells #[.slice none 0 0] 32) := ⟨_, rfl⟩
  have hb0 : Below w.heap.size w w0 := by rw [hw0]; exact (Below.refl _ _).alloc (Nat.le_refl _) _
  have HJ0 : Hid (AJ w w0 lo hi T E bk mp (.slice none 0 0) []) := hid0 ⟨by rw [hw0]; exact heap_alloc_new _ _, World.ownsRow_nil _ _ _ _, Tr.past h hb0, hb0, hh⟩
  have HA : Hid (∀ V : World, Below w.heap.size w V → IA V a l) := hid0 (fun V hV => ha.past hV)
  have HI := hid0 hI
  have HG := hid0 hG
  have HRb := hid0 h.rb
  have hfold := hw0.symm
  clear h hG ha hI hw0 hb0
  refine (callsIn_wide (n := 8)).1 ?_
  refine callsIn_of_wp_marks Tryd.func10 rfl trivial ?_ rfl
  simp only [Tryd.ntmps10, List.size_toArray, List.length_cons, List.length_nil, Nat.reduceAdd, Nat.reduceSub, Array.replicate_succ, Array.replicate_zero, List.push_toArray, List.append_toArray, List.nil_append, List.cons_append]
  gi_wp2
  refine wpIn_loop (fun a' W => ∃ (k bq : Nat) (v : Value) (ds : List Nat) (u7 u8 u9 u16 u17 u18 u19 u20 u21 u22 u23 u24 u25 u26 u27 u28 u29 u30 u31 u32 u33 u34 u35 u36 u37 u38 u39 u40 u41 u42 u43 u44 : Value), k ≤ l.length ∧ Hid (bq = bk (lsf (begB E) (l.take k))) ∧ Hid (AJ w W lo hi T E bk mp v (allK E l k)) ∧ Hid ((∀ d ∈ ds, w.heap.size ≤ d ∧ W.heap[d]? = some (.deferred (some []))) ∧ ds.Nodup) ∧ a' = { tmps := #[.pointer (some ⟨T, 0, none⟩), .slice a l.length ca, undef, undef, .slice none 0 0, .pointer (some ⟨w.heap.size, 0, none⟩), .pointer (some ⟨bq, 0, none⟩), u7, u8, u9, .pointer (some ⟨T, 0, none⟩), .pointer (some ⟨T, 0, none⟩), .pointer (some ⟨T, 0, none⟩), .slice a l.length ca, .int .i64 (l.length : Int), .int .i64 (k : Int), u16, u17, u18, u19, u20, u21, u22, u23, u24, u25, u26, u27, u28, u29, u30, u31, u32, u33, u34, u35, u36, u37, u38, u39, u40, u41, u42, u43, u44, undef], defers := ds.map markD }) (fun a' _ => l.length - (intOf (a'.tmps.getD 15 undef)).toNat) ?_ ?_
  · exact ⟨0, T, .slice none 0 0, [], _, _, _, _, _, _, _, _, _, _, _, _, _, _, _, _, _, _, _, _, _, _, _, _, _, _, _, _, _, _, _, _, Nat.zero_le _, hid0 (by rw [List.take_zero]; exact HRb.out.symm), HJ0, hid0 ⟨(fun _ hd => nomatch hd), List.nodup_nil⟩, rfl⟩
  rintro a' wr ⟨k, bq, v, ds, u7, u8, u9, u16, u17, u18, u19, u20, u21, u22, u23, u24, u25, u26, u27, u28, u29, u30, u31, u32, u33, u34, u35, u36, u37, u38, u39, u40, u41, u42, u43, u44, hk, HBq, HJ, HM, rfl⟩
  clear hfold HJ0
  by_cases hlt : k < l.length
  · obtain ⟨b, off, rfl, hbl, hce⟩ := (HA.out wr HJ.out.bel).at' k hlt
    have hkI : (k : Int) < (l.length : Int) := by omega
    have hkI0 : (0 : Int) ≤ (k : Int) := by omega
    have HTs := hid0 (take_snoc hlt)
    obtain ⟨w1, hw1⟩ : ∃ w1, w1 = wr.alloc (.cells #[.int .i64 (k : Int)] 3) := ⟨_, rfl⟩
    have hb1 : Below wr.heap.size wr w1 := by rw [hw1]; exact (Below.refl _ _).alloc (Nat.le_refl _) _
    have hs1 : w1.heap.size = wr.heap.size + 1 := by rw [hw1]; simp
    have HR1 : Hid (w1.heap[wr.heap.size]? = some (.cells #[.int .i64 (k : Int)] 3 (0, 0))) := hid0 (by rw [hw1]; exact heap_alloc_new _ _)
    have HJ1 := hid0 (HJ.out.past hb1)
    have HM1 : Hid (∀ d ∈ ds, w1.heap[d]? = some (.deferred (some []))) := hid0 (fun d hd => (hb1.block d (Array.getElem?_eq_some_iff.1 (HM.out.1 d hd).2).1).trans (HM.out.1 d hd).2)
    have HLt : Hid (w.heap.size < wr.heap.size ∧ w1.heap.size = wr.heap.size + 1 ∧ (∀ d ∈ ds, d < wr.heap.size) ∧ (∀ g, v.ownBlock = some g → g < wr.heap.size)) := hid0 ⟨HJ.out.lt, hs1, fun d hd => (Array.getElem?_eq_some_iff.1 (HM.out.1 d hd).2).1, fun g hg => (World.ownsRow.lt HJ.out.own g hg).2⟩
    have HST : Hid (Calls Tryd.prog 28 #[.pointer (some ⟨T, 0, none⟩), .pointer (some ⟨bq, 0, none⟩), .int .i64 l[k]] w1 fun e w' => e = .returned (.pointer (some ⟨bk (lsf (begB E) (l.take (k + 1))), 0, none⟩)) ∧ w' = w1) := hid0 (by
      have h := step_any (some (lsf (begB E) (l.take k))) l[k] (lsf (begB E) (l.take k)).length HJ1.out.tr (HI.out _ (List.getElem_mem hlt)) (fun _ _ _ => rfl) (fun p hp => by injection hp with hp; rw [← hp]; exact ⟨lsf_ok (begB_nil E) _, Nat.le_refl _⟩)
      rw [show ptr (Option.map bk (some (lsf (begB E) (l.take k)))) = .pointer (some ⟨bk (lsf (begB E) (l.take k)), 0, none⟩) from rfl, ← HBq.out] at h
      rw [HTs.out, lsf_snoc (fun _ _ => begB_front)]
      exact h)
    have HEn := hid0 (ends_lsf (P := begB E) (fun _ he => begB_mem he) (l.take (k + 1)))
    have hfold := hw1.symm
    clear hw1 hb1 hs1
    generalize l[k] = c at *
    gi_wp2_with (refine ⟨trivial, ?_⟩; gi_at_call 28; refine (callsIn_wide.2 HST.out).mono ?_; rintro e w2 ⟨rfl, hw⟩; have hw := hw.symm; subst hw)
    clear hfold
    refine wpIn_rangeEnds' 9 8 (by omega) (lsf (begB E) (l.take (k + 1))) (lsf_ok (begB_nil E) _) HG.out.ne rfl (fun pre W => ∃ v : Value, AJ w W lo hi T E bk mp v (allK E l k ++ pre.map (fdF E k)) ∧ W.heap[wr.heap.size]? = some (.cells #[.int .i64 (k : Int)] 3 (0, 0)) ∧ (∀ d ∈ ds, W.heap[d]? = some (.deferred (some []))) ∧ (∀ g, v.ownBlock = some g → g ≠ w1.heap.size ∧ g ≠ w1.heap.size + 1)) ?keep (fun pre A h => h.choose_spec.1.tr) ⟨v, by simpa using HJ1.out, HR1.out, HM1.out, fun g hg => by have := HLt.out; have := this.2.2.2 g hg; omega⟩ ?assign ?body ?done
    case keep =>
      rintro pre A B ⟨v, h1, h2, h3, h4⟩ ho
      have hl := HLt.out
      exact ⟨v, h1.only ho (fun k hk => by omega) (fun g hg q => by have := h4 g hg; omega), (ho.block _ (Array.getElem?_eq_some_iff.1 h2).1 (by omega)).trans h2, fun d hd => (ho.block _ (Array.getElem?_eq_some_iff.1 (h3 d hd)).1 (by have := hl.2.2.1 d hd; omega)).trans (h3 d hd), h4⟩
    case assign =>
      intro q b' W K hK
      simp only [actP, List.setIfInBounds_toArray, List.set_cons_succ, List.set_cons_zero] at hK ⊢
      gi_wp2
      exact hK
    case body =>
      rintro q pre x W ⟨v2, h1, h2, h3, h4⟩ hx ⟨r, hr⟩ hsz ⟨hd1, rc, hd2⟩
      simp only [actP, List.setIfInBounds_toArray, List.set_cons_succ, List.set_cons_zero]
      have hxl := (chkN_none (HG.out.chk x hx)).2.1
      have n1 := (Tr.nd h1.tr x (begB_mem hx)).cells.2.1
      have n3 := (Tr.nd h1.tr x (begB_mem hx)).cells.2.2.2.1
      rw [show enE E x = (numF E x : Int) from if_pos hx] at n3
      have c7 : W.cell? ⟨wr.heap.size, 0, none⟩ = some (.int .i64 (k : Int)) := by rw [cell_of_row _ _ _ _ _ _ h2]; rfl
      have c5 : W.cell? ⟨w.heap.size, 0, none⟩ = some v2 := by rw [cell_of_row _ _ _ _ _ _ h1.box]; rfl
      have hne : v2.ownBlock ≠ some wr.heap.size := fun e => by
        obtain ⟨cur, fr, hr2⟩ := h1.row e
        rw [h2] at hr2
        injection hr2 with hr2
        injection hr2 with _ hr2
        cases hr2
      have hbx := Tr.lh h1.tr x (begB_mem hx)
      have HLn : Hid ((allK E l k ++ pre.map (fdF E k)).length ≤ 32 * 1000000000 + 32) := hid0 (by
        have q1 := allK_len HG.out.len l k
        have q2 := ends_32 HG.out.len (lsf (begB E) (l.take (k + 1)))
        rw [← hr] at q2
        simp only [List.length_append, List.length_cons] at q2
        rw [List.length_append, List.length_map]
        omega)
      have HSv : Hid (∀ V : World, Only W V (fun k => k = w.heap.size ∨ v2.ownBlock = some k) → (fun V => V.cell? ⟨bk x, 3, none⟩ = some (.int .i64 (numF E x : Int)) ∧ V.cell? ⟨bk x, 1, none⟩ = some (.int .i64 (x.length : Int)) ∧ V.cell? ⟨wr.heap.size, 0, none⟩ = some (.int .i64 (k : Int))) V) := hid0 (fun V hV => by
        have hl := HLt.out
        have hb : ¬ (bk x = w.heap.size ∨ v2.ownBlock = some (bk x)) := by
          rintro (e | e)
          · omega
          · have := (World.ownsRow.lt h1.own _ e).1; omega
        exact ⟨(hV.cell (p := ⟨bk x, 3, none⟩) (World.block_lt_of_cell? _ _ n3) hb).trans n3, (hV.cell (p := ⟨bk x, 1, none⟩) (World.block_lt_of_cell? _ _ n1) hb).trans n1, (hV.cell (p := ⟨wr.heap.size, 0, none⟩) (World.block_lt_of_cell? _ _ c7) (by rintro (e | e); (· show False; simp only at e; omega); exact hne e)).trans c7⟩)
      have HBa : Hid (Below W.heap.size W (W.drew.alloc (.cells #[.int .i64 (numF E x : Int), .int .i64 ((k : Int) + 1 - (x.length : Int)), .int .i64 ((k : Int) + 1)] 35))) := hid0 ((show Below W.heap.size W W.drew from ⟨rfl, rfl, rfl, Nat.le_refl _, fun _ _ => rfl⟩).alloc (Nat.le_refl _) _)
      have HOa : Hid (Only W (W.drew.alloc (.cells #[.int .i64 (numF E x : Int), .int .i64 ((k : Int) + 1 - (x.length : Int)), .int .i64 ((k : Int) + 1)] 35)) (fun k => k = w.heap.size ∨ v2.ownBlock = some k)) := hid0 (Only.ofNew HBa.out _)
      have c5' : W.drew.cell? ⟨w.heap.size, 0, none⟩ = some v2 := c5
      have c5a : (W.drew.alloc (.cells #[.int .i64 (numF E x : Int), .int .i64 ((k : Int) + 1 - (x.length : Int)), .int .i64 ((k : Int) + 1)] 35)).cell? ⟨w.heap.size, 0, none⟩ = some v2 := (HBa.out.cell (p := ⟨w.heap.size, 0, none⟩) (World.block_lt_of_cell? _ _ c5)).trans c5
      have c5b : (W.alloc (.cells #[.int .i64 (numF E x : Int), .int .i64 ((k : Int) + 1 - (x.length : Int)), .int .i64 ((k : Int) + 1)] 35)).cell? ⟨w.heap.size, 0, none⟩ = some v2 := c5a
      have hw1 : IntKind.i64.wrap ((k : Int) + 1) = (k : Int) + 1 := by simp [IntKind.wrap, IntKind.bits, IntKind.signed]; omega
      have hw2 : IntKind.i64.wrap ((k : Int) + 1 - (x.length : Int)) = (k : Int) + 1 - (x.length : Int) := by simp [IntKind.wrap, IntKind.bits, IntKind.signed]; omega
      have HFin : Hid (∀ (v3 : Value) (V : World), AJ w V lo hi T E bk mp v3 (allK E l k ++ pre.map (fdF E k) ++ [fdF E k x]) → Only W V (fun k => k = w.heap.size ∨ v2.ownBlock = some k) → (∃ v : Value, AJ w V lo hi T E bk mp v (allK E l k ++ (pre ++ [x]).map (fdF E k)) ∧ V.heap[wr.heap.size]? = some (.cells #[.int .i64 (k : Int)] 3 (0, 0)) ∧ (∀ d ∈ ds, V.heap[d]? = some (.deferred (some []))) ∧ (∀ g, v.ownBlock = some g → g ≠ w1.heap.size ∧ g ≠ w1.heap.size + 1)) ∧ Only W V (fun k => k ≠ w1.heap.size ∧ k ≠ w1.heap.size + 1)) := hid0 (fun v3 V hj ho => by
        have hl := HLt.out
        have hS : ∀ k, (k = w.heap.size ∨ v2.ownBlock = some k) → k ≠ w1.heap.size ∧ k ≠ w1.heap.size + 1 := by
          rintro k (e | e)
          · omega
          · exact h4 k e
        have hk1 := (ho.block w1.heap.size (by omega) (fun q => (hS _ q).1 rfl)).trans hd1
        have hk2 := (ho.block (w1.heap.size + 1) (by omega) (fun q => (hS _ q).2 rfl)).trans hd2
        refine ⟨⟨v3, by rw [List.map_append, ← List.append_assoc]; exact hj, (ho.block _ (Array.getElem?_eq_some_iff.1 h2).1 (by rintro (e | e); (· omega); exact hne e)).trans h2, fun d hd => (ho.block _ (Array.getElem?_eq_some_iff.1 (h3 d hd)).1 (by
          rintro (e | e)
          · have := hl.2.2.1 d hd; have := HM.out.1 d hd; subst e; have hq := h3 _ hd; rw [h1.box] at hq; cases hq
          · obtain ⟨cur, fr, hr2⟩ := h1.row e; rw [h3 d hd] at hr2; cases hr2)).trans (h3 d hd), fun g hg => ?_⟩, ho.mono hS⟩
        obtain ⟨cur, fr, hr2⟩ := hj.row hg
        refine ⟨fun e => ?_, fun e => ?_⟩
        · rw [e, hk1] at hr2; cases hr2
        · rw [e, hk2] at hr2; cases hr2)
      obtain ⟨av, cv, hvf⟩ := h1.form
      subst hvf
      have HJx := hid0 h1
      generalize hL2 : allK E l k ++ pre.map (fdF E k) = L2 at *
      have HOk : Hid (W.drew.ownsRow (w.heap.size + 1) 35 3 (.slice av L2.length cv) L2.length (cellsF L2)) := hid0 (own_blk HJx.out.own (fun _ _ => rfl))
      have HL2 := hid0 hL2
      clear hL2 h1 h2 h3 h4 hd1 hd2 hr hne hbx n1 n3 c7 hx
      generalize hn2 : L2.length = n2 at *
      have HN2 := hid0 hn2
      clear hn2
      gi_wp2
      refine wpIn_region_round (S := (fun V => V.cell? ⟨bk x, 3, none⟩ = some (.int .i64 (numF E x : Int)) ∧ V.cell? ⟨bk x, 1, none⟩ = some (.int .i64 (x.length : Int)) ∧ V.cell? ⟨wr.heap.size, 0, none⟩ = some (.int .i64 (k : Int)))) (by kernel_rfl) (by kernel_rfl) ?_ (fun hHeld => ?_)
      · exact HSv.out W.drew (Only.drewN W 1 _)
      refine tkV (i := 1) (d := some 28) (v := ?_) rfl (by kernel_rfl) (by kernel_rfl) (by kernel_rfl) rfl (fun _ _ _ h => h) (by rfl) ?_ (by assumption) ?_
      rotate_left
      · (intro w hSw; (try dsimp only at hSw); (try simp only [List.getElem_toArray, List.getElem_cons_zero, List.getElem_cons_succ]); go_simp; try with_reducible rfl)
      try simp only [Act.put, List.setIfInBounds_toArray, List.set_cons_zero, List.set_cons_succ]
      refine tkV (i := 2) (d := some 29) (v := ?_) rfl (by kernel_rfl) (by kernel_rfl) (by kernel_rfl) rfl (fun _ _ _ h => h) (by rfl) ?_ (by assumption) ?_
      rotate_left
      · (intro w hSw; (try dsimp only at hSw); (try simp only [List.getElem_toArray, List.getElem_cons_zero, List.getElem_cons_succ]); go_simp; try with_reducible rfl)
      try simp only [Act.put, List.setIfInBounds_toArray, List.set_cons_zero, List.set_cons_succ]
      refine tkV (i := 3) (d := some 30) (v := ?_) rfl (by kernel_rfl) (by kernel_rfl) (by kernel_rfl) rfl (fun _ _ _ h => h) (by rfl) ?_ (by assumption) ?_
      rotate_left
      · (intro w hSw; (try dsimp only at hSw); (try simp only [List.getElem_toArray, List.getElem_cons_zero, List.getElem_cons_succ]); go_simp; try with_reducible rfl)
      try simp only [Act.put, List.setIfInBounds_toArray, List.set_cons_zero, List.set_cons_succ]
      refine tkV (i := 4) (d := some 31) (v := ?_) rfl (by kernel_rfl) (by kernel_rfl) (by kernel_rfl) rfl (fun _ _ _ h => h) (by rfl) ?_ (by assumption) ?_
      rotate_left
      · (intro w hSw; (try dsimp only at hSw); (try simp only [List.getElem_toArray, List.getElem_cons_zero, List.getElem_cons_succ]); go_simp; try with_reducible rfl)
      try simp only [Act.put, List.setIfInBounds_toArray, List.set_cons_zero, List.set_cons_succ]
      refine tkV (i := 5) (d := some 32) (v := ?_) rfl (by kernel_rfl) (by kernel_rfl) (by kernel_rfl) rfl (fun _ _ _ h => h) (by rfl) ?_ (by assumption) ?_
      rotate_left
      · (intro w hSw; (try dsimp only at hSw); (try simp only [List.getElem_toArray, List.getElem_cons_zero, List.getElem_cons_succ]); go_simp; try with_reducible rfl)
      try simp only [Act.put, List.setIfInBounds_toArray, List.set_cons_zero, List.set_cons_succ]
      refine tkV (i := 6) (d := some 33) (v := ?_) rfl (by kernel_rfl) (by kernel_rfl) (by kernel_rfl) rfl (fun _ _ _ h => h) (by rfl) ?_ (by assumption) ?_
      rotate_left
      · (intro w hSw; (try dsimp only at hSw); (try simp only [List.getElem_toArray, List.getElem_cons_zero, List.getElem_cons_succ]); go_simp; try with_reducible rfl)
      try simp only [Act.put, List.setIfInBounds_toArray, List.set_cons_zero, List.set_cons_succ]
      refine tkV (i := 7) (d := some 34) (v := ?_) rfl (by kernel_rfl) (by kernel_rfl) (by kernel_rfl) rfl (fun _ _ _ h => h) (by rfl) ?_ (by assumption) ?_
      rotate_left
      · (intro w hSw; (try dsimp only at hSw); (try simp only [List.getElem_toArray, List.getElem_cons_zero, List.getElem_cons_succ]); go_simp; try with_reducible rfl)
      try simp only [Act.put, List.setIfInBounds_toArray, List.set_cons_zero, List.set_cons_succ]
      refine tkV (i := 8) (d := some 35) (v := ?_) rfl (by kernel_rfl) (by kernel_rfl) (by kernel_rfl) rfl (fun _ _ _ h => h) (by rfl) ?_ (by assumption) ?_
      rotate_left
      · (intro w hSw; (try dsimp only at hSw); (try simp only [List.getElem_toArray, List.getElem_cons_zero, List.getElem_cons_succ]); go_simp; try with_reducible rfl)
      try simp only [Act.put, List.setIfInBounds_toArray, List.set_cons_zero, List.set_cons_succ]
      refine tkV (i := 9) (d := some 36) (v := ?_) rfl (by kernel_rfl) (by kernel_rfl) (by kernel_rfl) rfl (fun _ _ _ h => h) (by rfl) ?_ (by assumption) ?_
      rotate_left
      · (intro w hSw; (try dsimp only at hSw); (try simp only [List.getElem_toArray, List.getElem_cons_zero, List.getElem_cons_succ]); go_simp; try with_reducible rfl)
      try simp only [Act.put, List.setIfInBounds_toArray, List.set_cons_zero, List.set_cons_succ]
      refine tkV (i := 10) (d := some 37) (v := ?_) rfl (by kernel_rfl) (by kernel_rfl) (by kernel_rfl) rfl (fun _ _ _ h => h) (by rfl) ?_ (by assumption) ?_
      rotate_left
      · (intro w hSw; (try dsimp only at hSw); (try simp only [List.getElem_toArray, List.getElem_cons_zero, List.getElem_cons_succ]); go_simp; try with_reducible rfl)
      try simp only [Act.put, List.setIfInBounds_toArray, List.set_cons_zero, List.set_cons_succ]
      refine tkV (i := 11) (d := some 38) (v := ?_) rfl (by kernel_rfl) (by kernel_rfl) (by kernel_rfl) rfl (fun _ _ _ h => h) (by rfl) ?_ (by assumption) ?_
      rotate_left
      · (intro w hSw; (try dsimp only at hSw); (try simp only [List.getElem_toArray, List.getElem_cons_zero, List.getElem_cons_succ]); go_simp; try with_reducible rfl)
      try simp only [Act.put, List.setIfInBounds_toArray, List.set_cons_zero, List.set_cons_succ]
      refine tkV (i := 12) (d := some 39) (v := ?_) rfl (by kernel_rfl) (by kernel_rfl) (by kernel_rfl) rfl (fun _ _ _ h => h) (by rfl) ?_ (by assumption) ?_
      rotate_left
      · (intro w hSw; (try dsimp only at hSw); (try simp only [List.getElem_toArray, List.getElem_cons_zero, List.getElem_cons_succ]); go_simp; try with_reducible rfl)
      try simp only [Act.put, List.setIfInBounds_toArray, List.set_cons_zero, List.set_cons_succ]
      refine tkV (i := 13) (d := some 40) (v := ?_) rfl (by kernel_rfl) (by kernel_rfl) (by kernel_rfl) rfl (fun _ _ _ h => h) (by rfl) ?_ (by assumption) ?_
      rotate_left
      · (intro w hSw; (try dsimp only at hSw); (try simp only [List.getElem_toArray, List.getElem_cons_zero, List.getElem_cons_succ]); go_simp; try with_reducible rfl)
      try simp only [Act.put, List.setIfInBounds_toArray, List.set_cons_zero, List.set_cons_succ]
      refine tkV (i := 14) (d := some 41) (v := ?_) rfl (by kernel_rfl) (by kernel_rfl) (by kernel_rfl) rfl (fun _ _ _ h => h) (by rfl) ?_ (by assumption) ?_
      rotate_left
      · (intro w hSw; (try dsimp only at hSw); (try simp only [List.getElem_toArray, List.getElem_cons_zero, List.getElem_cons_succ]); go_simp; try with_reducible rfl)
      try simp only [Act.put, List.setIfInBounds_toArray, List.set_cons_zero, List.set_cons_succ]
      refine wpAnyH_ready (rs := [0, 15]) (by kernel_rfl) (by simp) (AllReadyH.cons rfl (fun K hK => ?_) (AllReadyH.cons rfl (fun K hK => ?_) AllReadyH.nil))
      · try simp only [List.getElem_toArray, List.getElem_cons_zero]
        go_simp
        refine hK.out _ _ ?_ (fun hHeld0 => ?_)
        · exact HSv.out W.drew (Only.drewN W 1 _)
        clear hK K
        (try simp only [Act.put]); (try simp only [List.setIfInBounds_toArray]); (try simp only [List.set_cons_succ]); (try simp only [List.set_cons_zero])
        refine wpAnyH_ready (rs := [15]) (by kernel_rfl) (by simp) (AllReadyH.cons rfl (fun K hK => ?_) AllReadyH.nil)
        try simp only [List.getElem_toArray, List.getElem_cons_zero, List.getElem_cons_succ]
        go_simp
        refine hK.out _ _ ?_ (fun hHeld15 => ?_)
        · exact HSv.out _ HOa.out
        clear hK K
        (try simp only [Act.put]); (try simp only [List.setIfInBounds_toArray]); (try simp only [List.set_cons_succ]); (try simp only [List.set_cons_zero])
        refine wpAnyH_ready (rs := [16]) (by kernel_rfl) (by simp) (AllReadyH.cons rfl (fun K hK => ?_) AllReadyH.nil)
        refine step_append_lies _ (by rfl) _ _ _ (by rfl) (w.heap.size + 1) 35 i0 (.agg #[.int .i64 0, .int .i64 0, .int .i64 0]) 3 24 Tryd.underlying32 hi0 hz0 hz1 hz2 rfl (by decide) (.slice av n2 cv) n2 (cellsF L2) (by rfl) (World.ownsRow.alloc HOk.out _) ⟨W.heap.size, 0, none⟩ 1 1 [.int .i64 (numF E x : Int), .int .i64 ((k : Int) + 1 - (x.length : Int)), .int .i64 ((k : Int) + 1)] (by rfl) (by rfl) (World.news_of_block (cs := #[.int .i64 (numF E x : Int), .int .i64 ((k : Int) + 1 - (x.length : Int)), .int .i64 ((k : Int) + 1)]) (t := 35) (fr := (0, 0)) (heap_alloc_new W.drew _)) (by simp [Value.oneCell']) (by omega) (by unfold maxLen; have := HLn.out; omega) (by have := HLn.out; omega) (by have := HLt.out; simp; omega) (W.heap.size + 1) (by simp) ?_
        intro g2 cap2 w2 hown2 hgrow2 _ _
        have HN := hid0 (HJx.out.snoc (f := fdF E k x) HBa.out hgrow2 (by rw [HN2.out]; exact hown2))
        have c2 := HN.out.2.2.1
        have f2 := HN.out.2.2.2
        have HO2 : Hid (Only W w2 (fun k => k = w.heap.size ∨ Value.ownBlock (.slice av n2 cv) = some k)) := hid0 ((Only.ofNew HBa.out (fun k => k = w.heap.size ∨ Value.ownBlock (.slice av n2 cv) = some k)).trans (T := fun k => Value.ownBlock (.slice av n2 cv) = some k) ⟨hgrow2.os, hgrow2.tape, hgrow2.output, hgrow2.size, fun k hk hn => hgrow2.block k hk (fun e => hn e.symm)⟩ (fun i hi => .inl (.inr hi)))
        clear hown2 hgrow2
        refine hK.out _ _ ?_ (fun hHeld16 => ?_)
        · exact HSv.out _ HO2.out
        clear hK K
        (try simp only [Act.put]); (try simp only [List.setIfInBounds_toArray]); (try simp only [List.set_cons_succ]); (try simp only [List.set_cons_zero])
        refine wpAnyH_ready (rs := [17]) (by kernel_rfl) (by simp) (AllReadyH.cons rfl (fun K hK => ?_) AllReadyH.nil)
        try simp only [List.getElem_toArray, List.getElem_cons_zero, List.getElem_cons_succ]
        go_simp
        refine hK.out _ _ ?_ (fun hHeld17 => ?_)
        · exact HSv.out _ HN.out.2.1
        clear hK K
        (try simp only [Act.put]); (try simp only [List.setIfInBounds_toArray]); (try simp only [List.set_cons_succ]); (try simp only [List.set_cons_zero])
        refine wpAnyH_done (by kernel_rfl) ?_ _
        refine NormO.normal ?_
        exact ⟨rfl, HFin.out _ _ HN.out.1 HN.out.2.1⟩
      · try simp only [List.getElem_toArray, List.getElem_cons_zero, List.getElem_cons_succ]
        go_simp
        refine hK.out _ _ ?_ (fun hHeld15 => ?_)
        · exact HSv.out _ HOa.out
        clear hK K
        (try simp only [Act.put]); (try simp only [List.setIfInBounds_toArray]); (try simp only [List.set_cons_succ]); (try simp only [List.set_cons_zero])
        refine wpAnyH_ready (rs := [0]) (by kernel_rfl) (by simp) (AllReadyH.cons rfl (fun K hK => ?_) AllReadyH.nil)
        try simp only [List.getElem_toArray, List.getElem_cons_zero]
        go_simp
        refine hK.out _ _ ?_ (fun hHeld0 => ?_)
        · exact HSv.out _ HOa.out
        clear hK K
        (try simp only [Act.put]); (try simp only [List.setIfInBounds_toArray]); (try simp only [List.set_cons_succ]); (try simp only [List.set_cons_zero])
        refine wpAnyH_ready (rs := [16]) (by kernel_rfl) (by simp) (AllReadyH.cons rfl (fun K hK => ?_) AllReadyH.nil)
        refine step_append_lies _ (by rfl) _ _ _ (by rfl) (w.heap.size + 1) 35 i0 (.agg #[.int .i64 0, .int .i64 0, .int .i64 0]) 3 24 Tryd.underlying32 hi0 hz0 hz1 hz2 rfl (by decide) (.slice av n2 cv) n2 (cellsF L2) (by rfl) (World.ownsRow.alloc HOk.out _) ⟨W.heap.size, 0, none⟩ 1 1 [.int .i64 (numF E x : Int), .int .i64 ((k : Int) + 1 - (x.length : Int)), .int .i64 ((k : Int) + 1)] (by rfl) (by rfl) (World.news_of_block (cs := #[.int .i64 (numF E x : Int), .int .i64 ((k : Int) + 1 - (x.length : Int)), .int .i64 ((k : Int) + 1)]) (t := 35) (fr := (0, 0)) (heap_alloc_new W.drew _)) (by simp [Value.oneCell']) (by omega) (by unfold maxLen; have := HLn.out; omega) (by have := HLn.out; omega) (by have := HLt.out; simp; omega) (W.heap.size + 1) (by simp) ?_
        intro g2 cap2 w2 hown2 hgrow2 _ _
        have HN := hid0 (HJx.out.snoc (f := fdF E k x) HBa.out hgrow2 (by rw [HN2.out]; exact hown2))
        have c2 := HN.out.2.2.1
        have f2 := HN.out.2.2.2
        have HO2 : Hid (Only W w2 (fun k => k = w.heap.size ∨ Value.ownBlock (.slice av n2 cv) = some k)) := hid0 ((Only.ofNew HBa.out (fun k => k = w.heap.size ∨ Value.ownBlock (.slice av n2 cv) = some k)).trans (T := fun k => Value.ownBlock (.slice av n2 cv) = some k) ⟨hgrow2.os, hgrow2.tape, hgrow2.output, hgrow2.size, fun k hk hn => hgrow2.block k hk (fun e => hn e.symm)⟩ (fun i hi => .inl (.inr hi)))
        clear hown2 hgrow2
        refine hK.out _ _ ?_ (fun hHeld16 => ?_)
        · exact HSv.out _ HO2.out
        clear hK K
        (try simp only [Act.put]); (try simp only [List.setIfInBounds_toArray]); (try simp only [List.set_cons_succ]); (try simp only [List.set_cons_zero])
        refine wpAnyH_ready (rs := [17]) (by kernel_rfl) (by simp) (AllReadyH.cons rfl (fun K hK => ?_) AllReadyH.nil)
        try simp only [List.getElem_toArray, List.getElem_cons_zero, List.getElem_cons_succ]
        go_simp
        refine hK.out _ _ ?_ (fun hHeld17 => ?_)
        · exact HSv.out _ HN.out.2.1
        clear hK K
        (try simp only [Act.put]); (try simp only [List.setIfInBounds_toArray]); (try simp only [List.set_cons_succ]); (try simp only [List.set_cons_zero])
        refine wpAnyH_done (by kernel_rfl) ?_ _
        refine NormO.normal ?_
        exact ⟨rfl, HFin.out _ _ HN.out.1 HN.out.2.1⟩
    case done =>
      rintro W ⟨v2, h1, h2, h3, h4⟩ hk2
      have HJ3 : Hid (AJ w W lo hi T E bk mp v2 (allK E l (k + 1))) := hid0 (by rw [HEn.out] at h1; exact h1)
      have HM3 : Hid ((∀ d ∈ w1.heap.size :: ds, w.heap.size ≤ d ∧ W.heap[d]? = some (.deferred (some []))) ∧ (w1.heap.size :: ds).Nodup) := hid0 (by
        have hl := HLt.out
        refine ⟨fun d hd => ?_, List.nodup_cons.2 ⟨fun hd => by have := hl.2.2.1 _ hd; omega, HM.out.2⟩⟩
        rcases List.mem_cons.1 hd with rfl | hd
        · exact ⟨by omega, hk2⟩
        · exact ⟨(HM.out.1 d hd).1, h3 d hd⟩)
      clear h1 h2 h3 h4 hk2
      gi_wp2
      exact ⟨⟨k + 1, _, v2, w1.heap.size :: ds, _, _, _, _, _, _, _, _, _, _, _, _, _, _, _, _, _, _, _, _, _, _, _, _, _, _, _, _, _, _, _, _, hlt, hid0 rfl, HJ3, HM3, rfl⟩, by simp [intOf]; omega⟩
  · have hkI : ¬ (k : Int) < (l.length : Int) := by omega
    have hke : k = l.length := by omega
    have HJe : Hid (AJ w wr lo hi T E bk mp v (allK E l l.length)) := hid0 (by have h := HJ.out; rw [hke] at h; exact h)
    have c5 : wr.cell? ⟨w.heap.size, 0, none⟩ = some v := by rw [cell_of_row _ _ _ _ _ _ HJe.out.box]; rfl
    obtain ⟨av, cv, rfl⟩ := HJe.out.form
    clear hke HJ
    gi_wp2
    refine leaves_marks w.heap.size ds wr HM.out.1 HM.out.2 (fun W hW => ?_)
    refine ⟨_, results_tmp rfl _ _ _, ?_⟩
    have hj := HJe.out.only hW (fun d hd => by
      have h1 := HM.out.1 d hd
      rcases Nat.lt_or_ge w.heap.size d with h2 | h2
      · exact h2
      · have h3 := HJe.out.box
        rw [show w.heap.size = d by omega, h1.2] at h3
        cases h3) (fun g hg hd => by
      obtain ⟨cur, fr, hr⟩ := HJe.out.row hg
      rw [(HM.out.1 g hd).2] at hr
      cases hr)
    exact ⟨_, rfl, owns_lower hj.own (Nat.le_succ _), hj.bel⟩
end Go.Proofs.YtamgjdgnlcoapaaDoor
namespace Go.Proofs.YtamgjdgnlcoapaaDoor
open Go.RowKit Go.Shelf Go.Lib Go.Maps
/-- Founds in memory, each where it is asked. -/
structure FA (w : World) (a : Option Addr) (L : List Fd) : Prop where
  at' : ∀ k (h : k < L.length), ∃ b off, a = some ⟨b, off, none⟩ ∧ b < w.heap.size ∧
    w.cell? ⟨b, off + k * 3, none⟩ = some (.int .i64 L[k].1) ∧ w.cell? ⟨b, off + k * 3 + 1, none⟩ = some (.int .i64 L[k].2.1) ∧ w.cell? ⟨b, off + k * 3 + 2, none⟩ = some (.int .i64 L[k].2.2)
theorem FA.past {w w' : World} {a : Option Addr} {L : List Fd} (h : FA w a L) (hb : Below w.heap.size w w') : FA w' a L := ⟨fun k hk => by
  obtain ⟨b, off, rfl, h1, c0, c1, c2⟩ := h.at' k hk
  exact ⟨b, off, rfl, Nat.lt_of_lt_of_le h1 hb.size, (hb.cell (p := ⟨b, off + k * 3, none⟩) h1).trans c0, (hb.cell (p := ⟨b, off + k * 3 + 1, none⟩) h1).trans c1, (hb.cell (p := ⟨b, off + k * 3 + 2, none⟩) h1).trans c2⟩⟩
theorem cellsF_at (L : List Fd) : ∀ (k : Nat) (h : k < L.length), (cellsF L)[k * 3]? = some (.int .i64 L[k].1) ∧ (cellsF L)[k * 3 + 1]? = some (.int .i64 L[k].2.1) ∧ (cellsF L)[k * 3 + 2]? = some (.int .i64 L[k].2.2) := by
  induction L with
  | nil => intro k h; simp at h
  | cons u us ih =>
    intro k h
    have e : cellsF (u :: us) = .int .i64 u.1 :: .int .i64 u.2.1 :: .int .i64 u.2.2 :: cellsF us := rfl
    cases k with
    | zero => rw [e]; simp
    | succ k =>
      have := ih k (by simpa using h)
      rw [e, show (k + 1) * 3 = k * 3 + 1 + 1 + 1 by omega, show k * 3 + 1 + 1 + 1 + 1 = (k * 3 + 1) + 1 + 1 + 1 by omega, show k * 3 + 1 + 1 + 1 + 2 = (k * 3 + 2) + 1 + 1 + 1 by omega]
      simpa using this
theorem OwnF.fa {w : World} {base : Nat} {v : Value} {L : List Fd} (h : OwnF w base v L) : ∃ a cap, v = .slice a L.length cap ∧ FA w a L := by
  have h0 := h
  rcases h.2 with ⟨rfl, hn⟩ | ⟨g, cap, cur, rfl, _⟩
  · exact ⟨none, 0, by rw [hn], ⟨fun k hk => by omega⟩⟩
  · refine ⟨_, cap, rfl, ⟨fun k hk => ⟨g, 0, rfl, (World.ownsRow.lt h0 g rfl).2, ?_⟩⟩⟩
    obtain ⟨a, b, c⟩ := cellsF_at L k hk
    rw [Nat.zero_add, World.ownsRow.cellAt h0 _ (by omega), World.ownsRow.cellAt h0 _ (by omega), World.ownsRow.cellAt h0 _ (by omega)]
    exact ⟨a, b, c⟩
theorem OwnF.past {w w' : World} {base : Nat} {v : Value} {L : List Fd} (h : OwnF w base v L) (hb : Below w.heap.size w w') : OwnF w' base v L := own_blk h (fun k e => hb.block k (World.ownsRow.lt h k e).2)
set_option maxRecDepth 10000 in
set_option maxHeartbeats 400000 in
theorem same_fa (L : List Fd) (a b : Option Addr) (ca cb : Nat) (w : World) (hl : L.length ≤ 140737488355328) (ha : FA w a L) (hb : FA w b L) :
    Calls Tryd.prog 11 #[.slice a L.length ca, .slice b L.length cb] w fun e w' => e = .returned (.bool true) ∧ ∃ q, w' = w.drewN q := by
  have HA := hid0 ha
  have HB := hid0 hb
  clear ha hb
  go_enter Tryd.func11, Tryd.ntmps11
  go_wp2
  go_loopw [5] (fun i wr => ∃ k q : Nat, k ≤ L.length ∧ i = .int .i64 (k : Int) ∧ wr = w.drewN q) (fun i _ => L.length - (intOf i).toNat)
  case atStart => exact ⟨0, 0, Nat.zero_le _, rfl, rfl⟩
  case round =>
    obtain ⟨k, q, hk, rfl, rfl⟩ := hrel
    by_cases hlt : k < L.length
    · obtain ⟨b1, o1, rfl, _, c0, c1, c2⟩ := HA.out.at' k hlt
      obtain ⟨b2, o2, rfl, _, d0, d1, d2⟩ := HB.out.at' k hlt
      generalize L[k] = u at *
      clear HA HB
      go_wp2
      go_quiet ((fail))
      go_wp2
      go_roundw
      case rel => exact ⟨k + 1, _, hlt, by go_num, rfl⟩
      case measure => simp [intOf]; omega
    · have hk2 : ¬ (k : Int) < (L.length : Int) := by omega
      clear HA HB
      go_wp2
      go_ret
      exact ⟨rfl, q, rfl⟩
/-- Numbers that were just laid. -/
theorem ia_new (w : World) (vs : List Int) (o : Obj) (ho : o = .cells (vs.map (Value.int .i64)).toArray 3 (0, 0)) : IA (w.alloc o) (some ⟨w.heap.size, 0, none⟩) vs := ⟨fun k hk => by
  subst ho
  exact ⟨w.heap.size, 0, rfl, by simp, by rw [cell_of_row _ _ _ _ _ _ (heap_alloc_new w _), Nat.zero_add]; simp [hk]⟩⟩
def E0 : List (List Int) := [[97, 98], [98], [97, 98, 99], [99, 97]]
theorem new0 : newE E0 = none := by decide
theorem siz0 : szK E0 E0.length = 6 := by decide
theorem lng0 : lngO E0 [120, 97, 98, 99] 1 = some [97, 98, 99] := by decide
theorem end0 : endO E0 [120, 97, 98, 99] 3 = some [97, 98] := by decide
theorem all0 : allK E0 [97, 98, 99, 97] ([97, 98, 99, 97] : List Int).length = [(0, 0, 2), (1, 1, 2), (2, 0, 3), (3, 2, 4)] := by decide
/-- The four entries, laid. -/
theorem rows0 (w : World) : ∃ w5, ((((w.alloc (.cells #[.int .i64 97, .int .i64 98] 3)).alloc (.cells #[.int .i64 98] 3)).alloc (.cells #[.int .i64 97, .int .i64 98, .int .i64 99] 3)).alloc (.cells #[.int .i64 99, .int .i64 97] 3)).alloc (.cells #[.slice (some ⟨w.heap.size, 0, none⟩) 2 2, .slice (some ⟨w.heap.size + 1, 0, none⟩) 1 1, .slice (some ⟨w.heap.size + 1 + 1, 0, none⟩) 3 3, .slice (some ⟨w.heap.size + 1 + 1 + 1, 0, none⟩) 2 2] 23) = w5 ∧ Below w.heap.size w w5 ∧ RwA w5 (some ⟨w.heap.size + 1 + 1 + 1 + 1, 0, none⟩) E0 := by
  obtain ⟨w1, h1⟩ : ∃ w1, w.alloc (.cells #[.int .i64 97, .int .i64 98] 3) = w1 := ⟨_, rfl⟩
  obtain ⟨w2, h2⟩ : ∃ w2, w1.alloc (.cells #[.int .i64 98] 3) = w2 := ⟨_, rfl⟩
  obtain ⟨w3, h3⟩ : ∃ w3, w2.alloc (.cells #[.int .i64 97, .int .i64 98, .int .i64 99] 3) = w3 := ⟨_, rfl⟩
  obtain ⟨w4, h4⟩ : ∃ w4, w3.alloc (.cells #[.int .i64 99, .int .i64 97] 3) = w4 := ⟨_, rfl⟩
  rw [h1, h2, h3, h4]
  have s1 : w1.heap.size = w.heap.size + 1 := by rw [← h1]; simp
  have s2 : w2.heap.size = w.heap.size + 1 + 1 := by rw [← h2]; simp [s1]
  have s3 : w3.heap.size = w.heap.size + 1 + 1 + 1 := by rw [← h3]; simp [s2]
  have s4 : w4.heap.size = w.heap.size + 1 + 1 + 1 + 1 := by rw [← h4]; simp [s3]
  have b1 : Below w.heap.size w w1 := by rw [← h1]; exact (Below.refl _ _).alloc (Nat.le_refl _) _
  have b2 : Below w1.heap.size w1 w2 := by rw [← h2]; exact (Below.refl _ _).alloc (Nat.le_refl _) _
  have b3 : Below w2.heap.size w2 w3 := by rw [← h3]; exact (Below.refl _ _).alloc (Nat.le_refl _) _
  have b4 : Below w3.heap.size w3 w4 := by rw [← h4]; exact (Below.refl _ _).alloc (Nat.le_refl _) _
  refine ⟨_, rfl, ?_, ?_⟩
  · exact (b1.trans ((b2.trans ((b3.trans (b4.mono (by omega))).mono (by omega))).mono (by omega))).alloc (by omega) _
  · generalize hw5 : w4.alloc (.cells #[.slice (some ⟨w.heap.size, 0, none⟩) 2 2, .slice (some ⟨w.heap.size + 1, 0, none⟩) 1 1, .slice (some ⟨w.heap.size + 1 + 1, 0, none⟩) 3 3, .slice (some ⟨w.heap.size + 1 + 1 + 1, 0, none⟩) 2 2] 23) = w5
    have b5 : Below w4.heap.size w4 w5 := by rw [← hw5]; exact (Below.refl _ _).alloc (Nat.le_refl _) _
    have i1 : IA w5 (some ⟨w.heap.size, 0, none⟩) [97, 98] := ((((by rw [← h1]; exact ia_new w [97, 98] _ rfl : IA w1 (some ⟨w.heap.size, 0, none⟩) [97, 98]).past b2).past b3).past b4).past b5
    have i2 : IA w5 (some ⟨w.heap.size + 1, 0, none⟩) [98] := (((by rw [← h2, ← s1]; exact ia_new w1 [98] _ rfl : IA w2 (some ⟨w.heap.size + 1, 0, none⟩) [98]).past b3).past b4).past b5
    have i3 : IA w5 (some ⟨w.heap.size + 1 + 1, 0, none⟩) [97, 98, 99] := ((by rw [← h3, ← s2]; exact ia_new w2 [97, 98, 99] _ rfl : IA w3 (some ⟨w.heap.size + 1 + 1, 0, none⟩) [97, 98, 99]).past b4).past b5
    have i4 : IA w5 (some ⟨w.heap.size + 1 + 1 + 1, 0, none⟩) [99, 97] := (by rw [← h4, ← s3]; exact ia_new w3 [99, 97] _ rfl : IA w4 (some ⟨w.heap.size + 1 + 1 + 1, 0, none⟩) [99, 97]).past b5
    have hr : w5.heap[w.heap.size + 1 + 1 + 1 + 1]? = some (.cells #[.slice (some ⟨w.heap.size, 0, none⟩) 2 2, .slice (some ⟨w.heap.size + 1, 0, none⟩) 1 1, .slice (some ⟨w.heap.size + 1 + 1, 0, none⟩) 3 3, .slice (some ⟨w.heap.size + 1 + 1 + 1, 0, none⟩) 2 2] 23 (0, 0)) := by
      rw [← hw5, ← s4]
      exact heap_alloc_new _ _
    have hlt := (Array.getElem?_eq_some_iff.1 hr).1
    refine ⟨fun k hk => ⟨_, 0, rfl, hlt, ?_⟩⟩
    rw [cell_of_row _ _ _ _ _ _ hr, Nat.zero_add]
    have hk4 : k < 4 := hk
    rcases (show k = 0 ∨ k = 1 ∨ k = 2 ∨ k = 3 by omega) with rfl | rfl | rfl | rfl
    · exact ⟨_, 2, rfl, i1⟩
    · exact ⟨_, 1, rfl, i2⟩
    · exact ⟨_, 3, rfl, i3⟩
    · exact ⟨_, 2, rfl, i4⟩
theorem fa0 (w : World) : FA (w.alloc (.cells #[.int .i64 0, .int .i64 0, .int .i64 2, .int .i64 1, .int .i64 1, .int .i64 2, .int .i64 2, .int .i64 0, .int .i64 3, .int .i64 3, .int .i64 2, .int .i64 4] 35)) (some ⟨w.heap.size, 0, none⟩) [(0, 0, 2), (1, 1, 2), (2, 0, 3), (3, 2, 4)] := ⟨fun k hk => by
  have hr := heap_alloc_new w (.cells #[.int .i64 0, .int .i64 0, .int .i64 2, .int .i64 1, .int .i64 1, .int .i64 2, .int .i64 2, .int .i64 0, .int .i64 3, .int .i64 3, .int .i64 2, .int .i64 4] 35)
  refine ⟨_, 0, rfl, by simp, ?_⟩
  rw [cell_of_row _ _ _ _ _ _ hr, cell_of_row _ _ _ _ _ _ hr, cell_of_row _ _ _ _ _ _ hr]
  have hk4 : k < 4 := hk
  rcases (show k = 0 ∨ k = 1 ∨ k = 2 ∨ k = 3 by omega) with rfl | rfl | rfl | rfl <;> exact ⟨rfl, rfl, rfl⟩⟩
theorem inI_small {c : Int} (h : 0 ≤ c ∧ c ≤ 1000000) : inI c := by
  simp [inI, Lit.wf, IntKind.min, IntKind.max, IntKind.bits, IntKind.signed]
  omega
set_option maxRecDepth 10000 in
set_option maxHeartbeats 1600000 in
theorem begun_any (A : Nat → Addr) (w : World) (hs : Se3 w A) : Calls Tryd.prog 8 #[] w fun e w' => e = .returned (.bool true) ∧ Below w.heap.size w w' := by
  obtain ⟨w5, hfold, hb5, hr5⟩ := rows0 w
  have HN := hid0 (new_any A E0 _ 4 w5 hr5 (hs.past hb5) (fun e he => by
    have : ∀ e ∈ E0, e.length ≤ 3 := by decide
    have := this e he
    omega))
  rw [show E0.length = 4 from rfl] at HN
  have HB5 := hid0 hb5
  clear hr5 hs hb5
  go_enter Tryd.func8, Tryd.ntmps8
  go_upto_region 2 with (go_at_call 9; go_loud ((
    refine HN.out.mono ?_
    rintro r w6 ⟨hb6, hr6⟩
    obtain ⟨hG, T, hi, bk, mp, rfl, ht⟩ : Good E0 ∧ ∃ T hi bk mp, r = .returned (.tuple #[.pointer (some ⟨T, 0, none⟩), .nilIface]) ∧ TrieAt w6 w5.heap.size hi T E0 bk mp := by
      rcases hr6 with ⟨k, hk, _⟩ | ⟨_, h1, h2⟩
      · rw [new0] at hk; cases hk
      · exact ⟨h1, h2⟩
    have HT := hid0 ht
    have HG := hid0 hG
    have HB6 : Hid (Below w.heap.size w w6) := hid0 (HB5.out.trans (hb6.mono HB5.out.size))
    clear hb6 hr6 hG ht HN)))
  clear hfold
  have HSz : Hid (Calls Tryd.prog 24 #[.pointer (some ⟨T, 0, none⟩)] w6 fun e w' => e = .returned (.int .i64 7) ∧ w' = w6) := hid0 ((size_any HT.out (by rw [siz0]; omega)).mono (fun _ _ h => ⟨by rw [h.1, siz0]; rfl, h.2⟩))
  have hpn := @run_eql_pointer_nil Tryd.prog
  go_upto_region 4 with (go_at_call 24; go_loud ((
    refine HSz.out.mono ?_
    rintro r w7 ⟨rfl, hw⟩
    have hw := hw.symm
    subst hw)))
  obtain ⟨w7, hfold⟩ : ∃ w7, w6.alloc (.cells #[.int .i64 120, .int .i64 97, .int .i64 98, .int .i64 99] 3) = w7 := ⟨_, rfl⟩
  have HB67 : Hid (Below w6.heap.size w6 w7) := hid0 (by rw [← hfold]; exact (Below.refl _ _).alloc (Nat.le_refl _) _)
  have HI7 : Hid (IA w7 (some ⟨w6.heap.size, 0, none⟩) [120, 97, 98, 99]) := hid0 (by rw [← hfold]; exact ia_new w6 _ _ rfl)
  have HT7 := hid0 (Tr.past HT.out HB67.out)
  have HIn : Hid (∀ c ∈ ([120, 97, 98, 99] : List Int), inI c) := hid0 (fun c hc => inI_small (by
    have : ∀ c ∈ ([120, 97, 98, 99] : List Int), 0 ≤ c ∧ c ≤ 1000000 := by decide
    exact this c hc))
  have HLg : Hid (Calls Tryd.prog 13 #[.pointer (some ⟨T, 0, none⟩), .slice (some ⟨w6.heap.size, 0, none⟩) 4 4, .int .i64 1] w7 fun e w' => e = .returned (.tuple #[.int .i64 2, .bool true]) ∧ w' = w7) := hid0 ((longest_any [120, 97, 98, 99] _ 4 1 HT7.out HI7.out HIn.out (by simp) (by simp) (inI_small (by omega))).mono (fun _ _ h => ⟨by rw [h.1, lng0]; rfl, h.2⟩))
  go_upto_region 5 with (go_at_call 13; go_loud ((
    refine HLg.out.mono ?_
    rintro r w8 ⟨rfl, hw⟩
    have hw := hw.symm
    subst hw)))
  clear hfold
  obtain ⟨w8, hfold⟩ : ∃ w8, w7.alloc (.cells #[.int .i64 120, .int .i64 97, .int .i64 98, .int .i64 99] 3) = w8 := ⟨_, rfl⟩
  have HB78 : Hid (Below w7.heap.size w7 w8) := hid0 (by rw [← hfold]; exact (Below.refl _ _).alloc (Nat.le_refl _) _)
  have HI8 : Hid (IA w8 (some ⟨w7.heap.size, 0, none⟩) [120, 97, 98, 99]) := hid0 (by rw [← hfold]; exact ia_new w7 _ _ rfl)
  have HT8 := hid0 (Tr.past HT7.out HB78.out)
  have HEd : Hid (Calls Tryd.prog 14 #[.pointer (some ⟨T, 0, none⟩), .slice (some ⟨w7.heap.size, 0, none⟩) 4 4, .int .i64 3] w8 fun e w' => e = .returned (.tuple #[.int .i64 0, .bool true]) ∧ Below w8.heap.size w8 w') := hid0 ((ending_any [120, 97, 98, 99] _ 4 3 HT8.out HG.out HI8.out HIn.out (by simp) (by simp) (inI_small (by omega))).mono (fun _ _ h => ⟨by rw [h.1, end0]; rfl, h.2⟩))
  go_upto_region 6 with (go_at_call 14; go_loud ((
    refine HEd.out.mono ?_
    rintro r w9 ⟨rfl, hb⟩
    have HB89 := hid0 hb
    clear hb)))
  clear hfold
  obtain ⟨wa, hfold⟩ : ∃ wa, w9.alloc (.cells #[.int .i64 97, .int .i64 98, .int .i64 99, .int .i64 97] 3) = wa := ⟨_, rfl⟩
  have HB9a : Hid (Below w9.heap.size w9 wa) := hid0 (by rw [← hfold]; exact (Below.refl _ _).alloc (Nat.le_refl _) _)
  have HIa : Hid (IA wa (some ⟨w9.heap.size, 0, none⟩) [97, 98, 99, 97]) := hid0 (by rw [← hfold]; exact ia_new w9 _ _ rfl)
  have HTa := hid0 (Tr.past (Tr.past HT8.out HB89.out) HB9a.out)
  have HAl : Hid (Calls Tryd.prog 10 #[.pointer (some ⟨T, 0, none⟩), .slice (some ⟨w9.heap.size, 0, none⟩) 4 4] wa fun e w' => AllR wa [(0, 0, 2), (1, 1, 2), (2, 0, 3), (3, 2, 4)] e w') := hid0 ((all_any [97, 98, 99, 97] _ 4 HTa.out HG.out HIa.out (fun c hc => inI_small (by
    have : ∀ c ∈ ([97, 98, 99, 97] : List Int), 0 ≤ c ∧ c ≤ 1000000 := by decide
    exact this c hc)) (by simp) HTa.out.hs (by decide)).mono (fun _ _ h => by rw [all0] at h; exact h))
  go_upto_region 7 with (go_at_call 10; go_loud ((
    refine HAl.out.mono ?_
    rintro r wb ⟨v, rfl, ho, hb⟩
    obtain ⟨av, cv, rfl, hfa⟩ := ho.fa
    have HFb := hid0 hfa
    have HBab := hid0 hb
    clear ho hb hfa)))
  clear hfold
  obtain ⟨wc, hfold⟩ : ∃ wc, wb.alloc (.cells #[.int .i64 0, .int .i64 0, .int .i64 2, .int .i64 1, .int .i64 1, .int .i64 2, .int .i64 2, .int .i64 0, .int .i64 3, .int .i64 3, .int .i64 2, .int .i64 4] 35) = wc := ⟨_, rfl⟩
  have HBbc : Hid (Below wb.heap.size wb wc) := hid0 (by rw [← hfold]; exact (Below.refl _ _).alloc (Nat.le_refl _) _)
  have HSm : Hid (Calls Tryd.prog 11 #[.slice av 4 cv, .slice (some ⟨wb.heap.size, 0, none⟩) 4 4] wc fun e w' => e = .returned (.bool true) ∧ ∃ q, w' = wc.drewN q) := hid0 (same_fa [(0, 0, 2), (1, 1, 2), (2, 0, 3), (3, 2, 4)] av (some ⟨wb.heap.size, 0, none⟩) cv 4 wc (by simp) (HFb.out.past HBbc.out) (by rw [← hfold]; exact fa0 wb))
  have HBz : Hid (Below w.heap.size w wc) := hid0 (by
    have h1 := HB6.out
    have h2 := Below.later h1 HB67.out
    have h3 := Below.later h2 HB78.out
    have h4 := Below.later h3 HB89.out
    have h5 := Below.later h4 HB9a.out
    have h6 := Below.later h5 HBab.out
    exact Below.later h6 HBbc.out)
  go_wp2_with (go_at_call 11; go_loud ((
    refine HSm.out.mono ?_
    rintro r wd ⟨rfl, q, rfl⟩)))
  go_ret
  exact ⟨rfl, below_drew' HBz.out _⟩
end Go.Proofs.YtamgjdgnlcoapaaDoor
namespace Go.Proofs.YtamgjdgnlcoapaaDoor
def movF (f : Nat) (x : Fd) : Fd := (x.1, x.2.1 - (f : Int), x.2.2 - (f : Int))
def keepB (f t : Nat) (x : Fd) : Bool := decide ((f : Int) ≤ x.2.1) && decide (x.2.2 ≤ (t : Int))
theorem keepB_iff {f t : Nat} {x : Fd} : keepB f t x = true ↔ (f : Int) ≤ x.2.1 ∧ x.2.2 ≤ (t : Int) := by simp [keepB]
theorem ends_filter (E : List (List Int)) (m : Nat) (q : List Int) : (endsF E q).filter (fun e => decide (e.length ≤ m)) = endsF E (q.drop (q.length - m)) := by
  induction q with
  | nil => simp [endsF]
  | cons x xs ih =>
    by_cases h : (x :: xs).length ≤ m
    · rw [show (x :: xs).length - m = 0 by omega, List.drop_zero, List.filter_eq_self]
      intro e he
      have := (ends_mem he).2.1.length_le
      exact decide_eq_true (by omega)
    · have e1 : (x :: xs).length - m = (xs.length - m) + 1 := by simp only [List.length_cons] at *; omega
      rw [e1, List.drop_succ_cons, ← ih]
      have e2 : endsF E (x :: xs) = if (x :: xs) ∈ E then (x :: xs) :: endsF E xs else endsF E xs := rfl
      rw [e2]
      split
      · rw [List.filter_cons_of_neg (by simp only [decide_eq_true_eq]; exact h)]
      · rfl
theorem part_low {E : List (List Int)} {l : List Int} {k f t : Nat} (h : k < f ∨ t ≤ k) : ((endsF E (l.take (k + 1))).map (fdF E k)).filter (keepB f t) = [] := by
  rw [List.filter_eq_nil_iff]
  intro y hy
  obtain ⟨e, he, rfl⟩ := List.mem_map.1 hy
  have hne := (ends_mem he).2.2
  have hpos : 0 < e.length := List.length_pos_iff.2 hne
  intro h1
  have h2 := keepB_iff.1 h1
  have h3 : (fdF E k e).2.1 = (k : Int) + 1 - (e.length : Int) := rfl
  have h4 : (fdF E k e).2.2 = (k : Int) + 1 := rfl
  omega
theorem part_mid {E : List (List Int)} {l : List Int} {k f t : Nat} (hf : f ≤ k) (ht : k < t) (hk : k < l.length) : (((endsF E (l.take (k + 1))).map (fdF E k)).filter (keepB f t)).map (movF f) = (endsF E (((l.take t).drop f).take (k - f + 1))).map (fdF E (k - f)) := by
  rw [List.filter_map, List.map_map]
  have h1 : (endsF E (l.take (k + 1))).filter (keepB f t ∘ fdF E k) = endsF E ((l.take (k + 1)).drop f) := by
    have h2 := ends_filter E (k + 1 - f) (l.take (k + 1))
    rw [List.length_take, Nat.min_eq_left (by omega), show k + 1 - (k + 1 - f) = f by omega] at h2
    rw [← h2]
    apply List.filter_congr
    intro e he
    have h3 : (fdF E k e).2.1 = (k : Int) + 1 - (e.length : Int) := rfl
    have h4 : (fdF E k e).2.2 = (k : Int) + 1 := rfl
    apply Bool.eq_iff_iff.2
    rw [Function.comp, keepB_iff, decide_eq_true_eq]
    omega
  rw [h1, show ((l.take t).drop f).take (k - f + 1) = (l.take (k + 1)).drop f by
    rw [List.take_drop, List.take_take, show min (f + (k - f + 1)) t = k + 1 by omega]]
  apply List.map_congr_left
  intro e _
  simp only [Function.comp, movF, fdF]
  refine Prod.ext rfl (Prod.ext ?_ ?_)
  · show (k : Int) + 1 - (e.length : Int) - (f : Int) = ((k - f : Nat) : Int) + 1 - (e.length : Int)
    omega
  · show (k : Int) + 1 - (f : Int) = ((k - f : Nat) : Int) + 1
    omega
theorem pieces_upto (E : List (List Int)) (l : List Int) (f t : Nat) (ht : t ≤ l.length) : ∀ k, k ≤ l.length → ((allK E l k).filter (keepB f t)).map (movF f) = allK E ((l.take t).drop f) (min k t - f)
  | 0, _ => by rw [Nat.zero_min, Nat.zero_sub]; rfl
  | k + 1, hk => by
    rw [allK, List.filter_append, List.map_append, pieces_upto E l f t ht k (by omega)]
    by_cases h : k < f ∨ t ≤ k
    · rw [part_low h, List.map_nil, List.append_nil]
      congr 1
      omega
    · rw [part_mid (by omega) (by omega) (by omega), show min (k + 1) t - f = (k - f) + 1 by omega, show min k t - f = k - f by omega]
      rfl
theorem pieces_all (E : List (List Int)) (l : List Int) (f t : Nat) (ht : t ≤ l.length) : ((allK E l l.length).filter (keepB f t)).map (movF f) = allK E ((l.take t).drop f) ((l.take t).drop f).length := by
  rw [pieces_upto E l f t ht l.length (Nat.le_refl _), List.length_drop, List.length_take, Nat.min_comm]
/-- What is wanted of the first k. -/
def wantK (f t : Nat) (L : List Fd) (k : Nat) : List Fd := ((L.take k).filter (keepB f t)).map (movF f)
theorem wantK_yes {f t : Nat} {L : List Fd} {k : Nat} (hk : k < L.length) (h : keepB f t L[k] = true) : wantK f t L (k + 1) = wantK f t L k ++ [movF f L[k]] := by
  unfold wantK
  rw [List.take_add_one, List.getElem?_eq_getElem hk, Option.toList_some, List.filter_append, List.filter_cons_of_pos h, List.map_append]
  rfl
theorem wantK_no {f t : Nat} {L : List Fd} {k : Nat} (hk : k < L.length) (h : keepB f t L[k] = false) : wantK f t L (k + 1) = wantK f t L k := by
  unfold wantK
  rw [List.take_add_one, List.getElem?_eq_getElem hk, Option.toList_some, List.filter_append, List.filter_cons_of_neg (by simp [h]), List.filter_nil, List.append_nil]
theorem wantK_len (f t : Nat) (L : List Fd) (k : Nat) : (wantK f t L k).length ≤ L.length := by
  unfold wantK
  rw [List.length_map]
  exact Nat.le_trans (List.length_filter_le _ _) (by rw [List.length_take]; omega)
/-- How small the numbers of what All tells are. -/
theorem allK_small {E : List (List Int)} {l : List Int} (hl : ∀ e ∈ E, e.length ≤ 32) (hE : E.length ≤ 1000000) : ∀ k, ∀ x ∈ allK E l k, (0 ≤ x.1 ∧ x.1 ≤ 1000000) ∧ (-32 ≤ x.2.1 ∧ x.2.1 ≤ k) ∧ (1 ≤ x.2.2 ∧ x.2.2 ≤ k)
  | 0, x, h => by cases h
  | k + 1, x, h => by
    rcases List.mem_append.1 h with h | h
    · have := allK_small hl hE k x h
      omega
    · obtain ⟨e, he, rfl⟩ := List.mem_map.1 h
      have h1 := hl e (ends_mem he).1
      have h2 := numF_lt (ends_mem he).1
      have h3 : 0 < e.length := List.length_pos_iff.2 (ends_mem he).2.2
      simp only [fdF]
      omega
end Go.Proofs.YtamgjdgnlcoapaaDoor
namespace Go.Proofs.YtamgjdgnlcoapaaDoor
/-- Does an entry stand at a place? -/
def stdB (e l : List Int) (a : Nat) : Bool := decide ((l.drop a).take e.length = e)
theorem std_len {e l : List Int} {a : Nat} (h : stdB e l a = true) (he : e ≠ []) : a + e.length ≤ l.length := by
  have h1 := congrArg List.length (of_decide_eq_true h)
  rw [List.length_take, List.length_drop] at h1
  have : 0 < e.length := List.length_pos_iff.2 he
  omega
theorem std_suffix {e l : List Int} {k : Nat} (hk : k < l.length) (hle : e.length ≤ k + 1) : stdB e l (k + 1 - e.length) = true ↔ e <:+ l.take (k + 1) := by
  rw [stdB, decide_eq_true_eq, List.suffix_iff_eq_drop, List.length_take, Nat.min_eq_left (by omega)]
  have h1 : (l.drop (k + 1 - e.length)).take e.length = (l.take (k + 1)).drop (k + 1 - e.length) := by
    rw [List.take_drop, show k + 1 - e.length + e.length = k + 1 by omega]
  rw [h1]
  exact ⟨fun h => h.symm, fun h => h.symm⟩
def cntS (e l : List Int) : Nat → Nat
  | 0 => 0
  | m + 1 => cntS e l m + if stdB e l m = true then 1 else 0
def cntC (e l : List Int) : Nat → Nat
  | 0 => 0
  | k + 1 => cntC e l k + if e <:+ l.take (k + 1) then 1 else 0
def sumE (f : List Int → Nat) : List (List Int) → Nat
  | [] => 0
  | e :: r => f e + sumE f r
theorem sumE_add (f g : List Int → Nat) (E : List (List Int)) : sumE (fun e => f e + g e) E = sumE f E + sumE g E := by
  induction E with
  | nil => rfl
  | cons e r ih => simp only [sumE, ih]; omega
theorem sumE_congr {f g : List Int → Nat} {E : List (List Int)} (h : ∀ e ∈ E, f e = g e) : sumE f E = sumE g E := by
  induction E with
  | nil => rfl
  | cons e r ih =>
    simp only [sumE]
    rw [h e (.head _), ih (fun x hx => h x (.tail _ hx))]
theorem sumE_snoc (f : List Int → Nat) (E : List (List Int)) (e : List Int) : sumE f (E ++ [e]) = sumE f E + f e := by
  induction E with
  | nil => simp [sumE]
  | cons x r ih => simp only [List.cons_append, sumE, ih]; omega
theorem sumE_one (p : List Int → Prop) [DecidablePred p] (E : List (List Int)) : (E.filter fun e => decide (p e)).length = sumE (fun e => if p e then 1 else 0) E := by
  induction E with
  | nil => rfl
  | cons e r ih =>
    by_cases h : p e
    · rw [List.filter_cons_of_pos (by simpa using h), List.length_cons, ih]
      simp only [sumE, if_pos h]
      omega
    · rw [List.filter_cons_of_neg (by simpa using h), ih]
      simp only [sumE, if_neg h]
      omega
theorem ends_dec (E : List (List Int)) (q : List Int) : (endsF E q).Pairwise fun x y => y.length < x.length := by
  induction q with
  | nil => exact List.Pairwise.nil
  | cons x xs ih =>
    unfold endsF
    split
    · refine List.Pairwise.cons (fun y hy => ?_) ih
      have := (ends_mem hy).2.1.length_le
      simp only [List.length_cons]
      omega
    · exact ih
theorem ends_count {E : List (List Int)} (hn : E.Nodup) (h0 : [] ∉ E) (q : List Int) : (endsF E q).length = (E.filter fun e => decide (e <:+ q)).length := by
  have h1 : (endsF E q).Nodup := (ends_dec E q).imp (fun {a b} h e => by rw [e] at h; omega)
  have h2 : (E.filter fun e => decide (e <:+ q)).Nodup := hn.filter _
  refine Nat.le_antisymm (nodup_len h1 (fun e he => ?_)) (nodup_len h2 (fun e he => ?_))
  · rw [List.mem_filter]
    exact ⟨(ends_mem he).1, decide_eq_true (ends_mem he).2.1⟩
  · obtain ⟨h3, h4⟩ := List.mem_filter.1 he
    exact ends_of h3 (of_decide_eq_true h4) (fun e0 => h0 (by rw [← e0]; exact h3))
theorem all_sum {E : List (List Int)} (hn : E.Nodup) (h0 : [] ∉ E) (l : List Int) : ∀ k, (allK E l k).length = sumE (fun e => cntC e l k) E
  | 0 => by
    have : ∀ E : List (List Int), sumE (fun _ => 0) E = 0 := fun E => by
      induction E with
      | nil => rfl
      | cons e r ih => simp only [sumE, ih]
    exact (this E).symm
  | k + 1 => by
    rw [allK, List.length_append, List.length_map, all_sum hn h0 l k, ends_count hn h0, sumE_one, ← sumE_add]
    rfl
theorem cnt_shift {e l : List Int} (he : e ≠ []) : ∀ k, k ≤ l.length → cntC e l k = cntS e l (k + 1 - e.length)
  | 0, _ => by
    have : 0 < e.length := List.length_pos_iff.2 he
    rw [show 0 + 1 - e.length = 0 by omega]
    rfl
  | k + 1, hk => by
    rw [cntC, cnt_shift he k (by omega)]
    by_cases h : e.length ≤ k + 1
    · rw [show k + 1 + 1 - e.length = (k + 1 - e.length) + 1 by omega, cntS]
      congr 1
      by_cases hs : e <:+ l.take (k + 1)
      · rw [if_pos hs, if_pos ((std_suffix (by omega) h).2 hs)]
      · rw [if_neg hs, if_neg (fun q => hs ((std_suffix (by omega) h).1 q))]
    · have hs : ¬ e <:+ l.take (k + 1) := fun q => by
        have := q.length_le
        rw [List.length_take] at this
        omega
      rw [if_neg hs, show k + 1 - e.length = 0 by omega, show k + 1 + 1 - e.length = 0 by omega, Nat.add_zero]
theorem cnt_rest {e l : List Int} (he : e ≠ []) : ∀ d, cntS e l (l.length + 1 - e.length + d) = cntS e l (l.length + 1 - e.length)
  | 0 => rfl
  | d + 1 => by
    have : ¬ stdB e l (l.length + 1 - e.length + d) = true := fun h => by
      have := std_len h he
      have : 0 < e.length := List.length_pos_iff.2 he
      omega
    rw [← Nat.add_assoc, cntS, if_neg this, cnt_rest he d, Nat.add_zero]
theorem cnt_all {E : List (List Int)} (hn : E.Nodup) (h0 : [] ∉ E) (l : List Int) : (allK E l l.length).length = sumE (fun e => cntS e l l.length) E := by
  rw [all_sum hn h0]
  refine sumE_congr (fun e he => ?_)
  have hne : e ≠ [] := fun e0 => h0 (by rw [← e0]; exact he)
  have hp : 0 < e.length := List.length_pos_iff.2 hne
  rw [cnt_shift hne l.length (Nat.le_refl _)]
  by_cases h : e.length ≤ l.length
  · have := cnt_rest (l := l) hne (e.length - 1)
    rw [show l.length + 1 - e.length + (e.length - 1) = l.length by omega] at this
    exact this.symm
  · have := cnt_rest (l := l) hne l.length
    rw [show l.length + 1 - e.length + l.length = l.length by omega] at this
    exact this.symm
/-- What is found is an entry that stands there. -/
theorem all_mem {E : List (List Int)} {l : List Int} : ∀ k, k ≤ l.length → ∀ x ∈ allK E l k, ∃ (j s : Nat) (hj : j < E.length), x = ((j : Int), (s : Int), (s : Int) + ((E[j]).length : Int)) ∧ stdB E[j] l s = true ∧ s < l.length
  | 0, _, x, h => by cases h
  | k + 1, hk, x, h => by
    rcases List.mem_append.1 h with h | h
    · exact all_mem k (by omega) x h
    · obtain ⟨e, he, rfl⟩ := List.mem_map.1 h
      have h1 := (ends_mem he).2.1.length_le
      rw [List.length_take] at h1
      have h2 : 0 < e.length := List.length_pos_iff.2 (ends_mem he).2.2
      refine ⟨numF E e, k + 1 - e.length, numF_lt (ends_mem he).1, ?_, ?_, by omega⟩
      · rw [numF_at (ends_mem he).1]
        refine Prod.ext rfl (Prod.ext ?_ ?_)
        · show (k : Int) + 1 - (e.length : Int) = ((k + 1 - e.length : Nat) : Int)
          omega
        · show (k : Int) + 1 = ((k + 1 - e.length : Nat) : Int) + (e.length : Int)
          omega
      · rw [numF_at (ends_mem he).1]
        exact (std_suffix (by omega) (by omega)).2 (ends_mem he).2.1
theorem all_ord (E : List (List Int)) (l : List Int) : ∀ k, (allK E l k).Pairwise fun x y => x.2.2 < y.2.2 ∨ x.2.2 = y.2.2 ∧ x.2.1 < y.2.1
  | 0 => List.Pairwise.nil
  | k + 1 => by
    rw [allK, List.pairwise_append]
    refine ⟨all_ord E l k, ?_, fun x hx y hy => ?_⟩
    · rw [List.pairwise_map]
      refine (ends_dec E _).imp (fun {a b} h => .inr ⟨rfl, ?_⟩)
      show (k : Int) + 1 - (a.length : Int) < (k : Int) + 1 - (b.length : Int)
      omega
    · obtain ⟨e, he, rfl⟩ := List.mem_map.1 hy
      left
      have : ∀ k, ∀ x ∈ allK E l k, x.2.2 ≤ (k : Int) := fun k => by
        induction k with
        | zero => intro x h; cases h
        | succ k ih =>
          intro x h
          rcases List.mem_append.1 h with h | h
          · have := ih x h; omega
          · obtain ⟨e, _, rfl⟩ := List.mem_map.1 h
            show (k : Int) + 1 ≤ ((k + 1 : Nat) : Int)
            omega
      have h1 := this k x hx
      show x.2.2 < (k : Int) + 1
      omega
end Go.Proofs.YtamgjdgnlcoapaaDoor
namespace Go.Proofs.YtamgjdgnlcoapaaDoor
open Go.RowKit Go.Shelf Go.Lib Go.Maps
theorem std_step {e l : List Int} {a k : Nat} (hk : k < e.length) (hl : a + e.length ≤ l.length) (h : (l.drop a).take k = e.take k) : (l.drop a).take (k + 1) = e.take (k + 1) ↔ l[a + k]'(by omega) = e[k] := by
  have hd : k < (l.drop a).length := by rw [List.length_drop]; omega
  rw [take_snoc hd, take_snoc hk, h, List.getElem_drop]
  constructor
  · intro q
    have := List.append_cancel_left q
    simpa using this
  · intro q
    rw [q]
theorem std_ne {e l : List Int} {a k : Nat} (hk : k ≤ e.length) (h : (l.drop a).take k ≠ e.take k) : stdB e l a = false := by
  refine decide_eq_false (fun q => h ?_)
  have h1 := congrArg (List.take k) q
  rw [List.take_take, Nat.min_eq_left hk] at h1
  exact h1
set_option maxRecDepth 10000 in
set_option maxHeartbeats 800000 in
theorem stands_any (e l : List Int) (ae al : Option Addr) (ce cl a : Nat) (w : World) (he : IA w ae e) (hl : IA w al l) (h1 : e.length ≤ 1000000000) (h2 : l.length ≤ 1000000000) (ha : a ≤ 1000000000) (hne : e ≠ []) :
    Calls Tryd.prog 12 #[.slice ae e.length ce, .slice al l.length cl, .int .i64 (a : Int)] w fun r w' => r = .returned (.bool (stdB e l a)) ∧ ∃ q, w' = w.drewN q := by
  have HE := hid0 he
  have HL := hid0 hl
  clear he hl
  have hpos : 0 < e.length := List.length_pos_iff.2 hne
  have hai : ¬ (a : Int) < 0 := by omega
  have hw0 : IntKind.i64.wrap ((l.length : Int) - (e.length : Int)) = (l.length : Int) - (e.length : Int) := by simp [IntKind.wrap, IntKind.bits, IntKind.signed]; omega
  by_cases hgt : (a : Int) > (l.length : Int) - (e.length : Int)
  · have hr : stdB e l a = false := by
      cases hq : stdB e l a with
      | false => rfl
      | true => have := std_len hq hne; omega
    rw [hr]
    clear hr hne
    go_enter Tryd.func12, Tryd.ntmps12
    go_wp2
    go_ret
    exact ⟨rfl, 0, rfl⟩
  · have hle : a + e.length ≤ l.length := by omega
    go_enter Tryd.func12, Tryd.ntmps12
    go_wp2
    go_loopw [7] (fun i wr => ∃ k q : Nat, k ≤ e.length ∧ i = .int .i64 (k : Int) ∧ Hid ((l.drop a).take k = e.take k) ∧ wr = w.drewN q) (fun i _ => e.length - (intOf i).toNat)
    case atStart => exact ⟨0, 0, Nat.zero_le _, rfl, hid0 rfl, rfl⟩
    case round =>
      obtain ⟨k, q, hk, rfl, HT, rfl⟩ := hrel
      by_cases hlt : k < e.length
      · obtain ⟨b1, o1, rfl, _, c1⟩ := HE.out.at' k hlt
        obtain ⟨b2, o2, rfl, _, c2⟩ := HL.out.at' (a + k) (by omega)
        have hkI : (k : Int) < (e.length : Int) := by omega
        have hkI0 : (0 : Int) ≤ (k : Int) := by omega
        obtain ⟨m, hm⟩ : ∃ m, m = a + k := ⟨_, rfl⟩
        have hmI : (a : Int) + (k : Int) = (m : Int) := by omega
        have hml : (m : Int) < (l.length : Int) := by omega
        have HS := hid0 (std_step (e := e) (l := l) hlt hle HT.out)
        have HN : Hid ((l.drop a).take (k + 1) ≠ e.take (k + 1) → stdB e l a = false) := hid0 (fun hq => std_ne (by omega) hq)
        generalize l[a + k]'(by omega) = y at *
        generalize e[k] = x at *
        rw [← hm] at c2
        clear hm HE HL
        by_cases hxy : y = x
        · have HT2 : Hid ((l.drop a).take (k + 1) = e.take (k + 1)) := hid0 (HS.out.2 hxy)
          have hb : (y != x) = false := by simp [hxy]
          clear hxy HS HN
          go_wp2
          go_quiet ((fail))
          go_wp2
          go_roundw
          case rel => exact ⟨k + 1, _, hlt, by go_num, HT2, rfl⟩
          case measure => simp [intOf]; omega
        · have HF : Hid (stdB e l a = false) := hid0 (HN.out (fun hq => hxy (HS.out.1 hq)))
          have hb : (y != x) = true := by simpa using hxy
          clear HS HN
          go_wp2
          go_quiet ((fail))
          go_wp2
          go_ret
          exact ⟨by rw [HF.out]; rfl, _, World.drewN_drewN _ _ _⟩
      · have hkI : ¬ (k : Int) < (e.length : Int) := by omega
        have HF : Hid (stdB e l a = true) := hid0 (decide_eq_true (by have h := HT.out; rw [show k = e.length by omega, List.take_length] at h; exact h))
        clear HE HL
        go_wp2
        go_ret
        exact ⟨by rw [HF.out]; rfl, _, rfl⟩
end Go.Proofs.YtamgjdgnlcoapaaDoor
namespace Go.Proofs.YtamgjdgnlcoapaaDoor
open Go.RowKit Go.Shelf Go.Lib Go.Maps
/-- What the law is handed. -/
structure LkB (w : World) (L : List (List Int)) (l : List Int) (aE aW : Option Addr) (cE cW : Nat) : Prop where
  e : RwA w aE L
  w' : IA w aW l
  cap : l.length ≤ cW
  el : ∀ r ∈ L, r.length ≤ 1000000000
  ll : l.length ≤ 100000000
  li : ∀ c ∈ l, inI c
theorem cnt_le (e l : List Int) : ∀ m, cntS e l m ≤ m
  | 0 => Nat.le_refl _
  | m + 1 => by
    have := cnt_le e l m
    simp only [cntS]
    split <;> omega
theorem sum_cnt (l : List Int) (B : Nat) (hB : l.length ≤ B) (E : List (List Int)) : sumE (fun e => cntS e l l.length) E ≤ E.length * B := by
  induction E with
  | nil => exact Nat.zero_le _
  | cons e r ih =>
    have h1 := cnt_le e l l.length
    have h2 : sumE (fun e => cntS e l l.length) (e :: r) = cntS e l l.length + sumE (fun e => cntS e l l.length) r := rfl
    rw [h2, List.length_cons, Nat.succ_mul]
    omega
set_option maxRecDepth 10000 in
set_option maxHeartbeats 1600000 in
theorem trieAll_any (A : Nat → Addr) (L : List (List Int)) (l : List Int) (at' : Int) (aE aW : Option Addr) (cE cW : Nat) (w : World) (h : LkB w L l aE aW cE cW) (hs : Se3 w A) :
    Calls Tryd.prog 4 #[.agg #[.slice aE L.length cE, .slice aW l.length cW, .int .i64 at']] w fun e w' => e = .returned (.bool true) ∧ Below w.heap.size w w' := by
  obtain ⟨w0, hw0, hb0, h0⟩ : ∃ w0, w.alloc (.cells #[.slice aE L.length cE, .slice aW l.length cW, .int .i64 at'] 25) = w0 ∧ Below w.heap.size w w0 ∧ w0.heap[w.heap.size]? = some (.cells #[.slice aE L.length cE, .slice aW l.length cW, .int .i64 at'] 25 (0, 0)) := ⟨_, rfl, (Below.refl _ _).alloc (Nat.le_refl _) _, heap_alloc_new _ _⟩
  have hz0 : w0.heap.size = w.heap.size + 1 := by rw [← hw0]; simp
  have HC : Hid (∀ V : World, Below w0.heap.size w0 V → V.cell? ⟨w.heap.size, 0, none⟩ = some (.slice aE L.length cE) ∧ V.cell? ⟨w.heap.size, 1, none⟩ = some (.slice aW l.length cW) ∧ V.cell? ⟨w.heap.size, 2, none⟩ = some (.int .i64 at')) := hid0 (fun V hV => by
    have hr := (hV.block w.heap.size (by omega)).trans h0
    exact ⟨by rw [cell_of_row _ _ _ _ _ _ hr]; rfl, by rw [cell_of_row _ _ _ _ _ _ hr]; rfl, by rw [cell_of_row _ _ _ _ _ _ hr]; rfl⟩)
  have HIn : Hid (∀ V : World, Below w0.heap.size w0 V → RwA V aE L ∧ IA V aW l ∧ Se3 V A ∧ Below w.heap.size w V) := hid0 (fun V hV => by
    have hq := hb0.trans (hV.mono (by omega))
    exact ⟨h.e.past hq, h.w'.past hq, hs.past hq, hq⟩)
  have HH := hid0 h
  have HBg := hid0 (begun_any A w0 (HIn.out w0 (Below.refl _ _)).2.2.1)
  have hpn := @run_eql_pointer_nil Tryd.prog
  have hll := h.ll
  have hcap := h.cap
  have HLL : Hid (∀ V : World, newE L = none → L.length ≤ 2000) := hid0 (fun _ hq => by
    unfold newE at hq
    split at hq
    · cases hq
    · omega)
  clear h hs hb0 h0 hz0
  go_enter Tryd.func4, Tryd.ntmps4
  go_upto_region 3 with (go_at_call 8; go_loud ((
    refine HBg.out.mono ?_
    rintro r w1 ⟨rfl, hb⟩
    have HB1 := hid0 hb; clear hb HBg)))
  clear hw0
  obtain ⟨x0, x1, x2⟩ := HC.out w1 HB1.out
  have HNw := hid0 (new_any A L aE cE w1 (HIn.out w1 HB1.out).1 (HIn.out w1 HB1.out).2.2.1 (fun e he => by have := HH.out.el e he; omega))
  cases hne : newE L with
  | some j =>
    have HE := hid0 hne
    clear hne
    go_upto_region 4 with (go_at_call 9; go_loud ((
    refine HNw.out.mono ?_
    rintro r w2 ⟨hb, hr⟩
    obtain rfl : r = .returned (.tuple #[.pointer none, .iface 71 (.pointer (some (A j)))]) := by
      rcases hr with ⟨k, hk, h2⟩ | ⟨hk, _⟩
      · rw [HE.out] at hk; injection hk with hk; rw [hk]; exact h2
      · rw [HE.out] at hk; cases hk
    have HB2 : Hid (Below w0.heap.size w0 w2) := hid0 (HB1.out.trans (hb.mono HB1.out.size))
    clear hb hr HNw)))
    go_wp2
    go_ret
    exact ⟨rfl, (HIn.out _ HB2.out).2.2.2⟩
  | none =>
    have HE := hid0 hne
    clear hne
    go_upto_region 4 with (go_at_call 9; go_loud ((
    refine HNw.out.mono ?_
    rintro r w2 ⟨hb, hr⟩
    obtain ⟨hG, T, hi, bk, mp, rfl, ht⟩ : Good L ∧ ∃ T hi bk mp, r = .returned (.tuple #[.pointer (some ⟨T, 0, none⟩), .nilIface]) ∧ TrieAt w2 w1.heap.size hi T L bk mp := by
      rcases hr with ⟨k, hk, _⟩ | ⟨_, h1, h2⟩
      · rw [HE.out] at hk; cases hk
      · exact ⟨h1, h2⟩
    have HT := hid0 ht
    have HG := hid0 hG
    have HB2 : Hid (Below w0.heap.size w0 w2) := hid0 (HB1.out.trans (hb.mono HB1.out.size))
    clear hb hr HNw ht hG)))
    clear x0 x1 x2
    obtain ⟨x0, x1, x2⟩ := HC.out w2 HB2.out
    have HAl := hid0 (all_any l aW cW HT.out HG.out (HIn.out w2 HB2.out).2.1 HH.out.li (by omega) HT.out.hs (by have := HLL.out w2 HE.out; omega))
    have HCn := hid0 (cnt_all HG.out.nd HG.out.ne l)
    have HMm : Hid (∀ x ∈ allK L l l.length, ∃ (j s : Nat) (hj : j < L.length), x = ((j : Int), (s : Int), (s : Int) + ((L[j]).length : Int)) ∧ stdB L[j] l s = true ∧ s < l.length) := hid0 (all_mem l.length (Nat.le_refl _))
    have HOr := hid0 (all_ord L l l.length)
    have HLn8 := hid0 (allK_len HG.out.len l l.length)
    generalize allK L l l.length = LA at *
    go_upto_region 7 with (go_at_call 10; go_loud ((
      refine HAl.out.mono ?_
      rintro r w3 ⟨v, rfl, ho, hb⟩
      obtain ⟨a5, c5, rfl, hfa⟩ := ho.fa
      have HF3 := hid0 hfa
      have HB3 : Hid (Below w0.heap.size w0 w3) := hid0 (HB2.out.trans (hb.mono HB2.out.size))
      clear ho hb hfa HAl)))
    clear x0 x1 x2
    have hn8 : LA.length ≤ 3200000000 := by have := HLn8.out; omega
    have hL2 : L.length ≤ 2000 := HLL.out w2 HE.out
    have HXc : Hid (∀ V : World, Below w3.heap.size w3 V → V.cell? ⟨w.heap.size, 0, none⟩ = some (.slice aE L.length cE) ∧ V.cell? ⟨w.heap.size, 1, none⟩ = some (.slice aW l.length cW) ∧ V.cell? ⟨w.heap.size, 2, none⟩ = some (.int .i64 at')) := hid0 (fun V hV => HC.out V (HB3.out.trans (hV.mono HB3.out.size)))
    have HXi : Hid (∀ V : World, Below w3.heap.size w3 V → RwA V aE L ∧ IA V aW l ∧ Se3 V A ∧ Below w.heap.size w V) := hid0 (fun V hV => HIn.out V (HB3.out.trans (hV.mono HB3.out.size)))
    have HSe : Hid (∀ k, k ≤ L.length → ∀ a, a ≤ l.length → sumE (fun e => cntS e l l.length) (L.take k) ≤ 200000000000 ∧ ∀ e, cntS e l a ≤ 100000000) := hid0 (fun k hk a ha => by
      have h3 := sum_cnt l 100000000 hll (L.take k)
      rw [List.length_take, Nat.min_eq_left hk] at h3
      exact ⟨by omega, fun e => by have := cnt_le e l a; omega⟩)
    clear HLn8
    go_wp2
    go_loopw [6, 7] (fun n i wr => ∃ k : Nat, k ≤ L.length ∧ i = .int .i64 (k : Int) ∧ n = .int .i64 (sumE (fun e => cntS e l l.length) (L.take k) : Int) ∧ Hid (Below w3.heap.size w3 wr)) (fun _ i _ => L.length - (intOf i).toNat)
    case atStart => exact ⟨0, Nat.zero_le _, rfl, rfl, hid0 (Below.refl _ _)⟩
    case round =>
      obtain ⟨i, hi0, rfl, rfl, HBr⟩ := hrel
      obtain ⟨x0, x1, x2⟩ := HXc.out wr HBr.out
      by_cases hlt : i < L.length
      · have hkI : (i : Int) < (L.length : Int) := by omega
        have hkI0 : (0 : Int) ≤ (i : Int) := by omega
        have HSn : Hid (sumE (fun e => cntS e l l.length) (L.take (i + 1)) = sumE (fun e => cntS e l l.length) (L.take i) + cntS L[i] l l.length) := hid0 (by rw [show L.take (i + 1) = L.take i ++ [L[i]] by rw [List.take_add_one, List.getElem?_eq_getElem hlt]; rfl, sumE_snoc])
        have hb1 := (HSe.out i hi0 l.length (Nat.le_refl _)).1
        have HSc : Hid (∀ a, a ≤ l.length → cntS L[i] l a ≤ 100000000) := hid0 (fun a ha => (HSe.out i hi0 a ha).2 _)
        have HNe : Hid (L[i] ≠ [] ∧ L[i].length ≤ 32) := hid0 ⟨fun e0 => HG.out.ne (by rw [← e0]; exact List.getElem_mem hlt), HG.out.len _ (List.getElem_mem hlt)⟩
        have HRw : Hid (∀ V : World, Below w3.heap.size w3 V → ∃ b off, aE = some ⟨b, off, none⟩ ∧ ∃ a1 c1, V.cell? ⟨b, off + i, none⟩ = some (.slice a1 (L[i]).length c1) ∧ IA V a1 L[i]) := hid0 (fun V hV => by
          obtain ⟨b, off, e1, _, r⟩ := (HXi.out V hV).1.at' i hlt
          exact ⟨b, off, e1, r⟩)
        generalize L[i] = e at *
        generalize sumE (fun e => cntS e l l.length) (L.take i) = n0 at *
        obtain ⟨wq, hwq⟩ : ∃ wq, wq = wr := ⟨_, rfl⟩
        subst hwq
        go_wp2
        clear x0 x1 x2
        go_loopw [6, 8] (fun n a wr => ∃ k : Nat, k ≤ l.length ∧ a = .int .i64 (k : Int) ∧ n = .int .i64 ((n0 + cntS e l k : Nat) : Int) ∧ Hid (Below w3.heap.size w3 wr)) (fun _ a _ => l.length - (intOf a).toNat)
        case atStart => exact ⟨0, Nat.zero_le _, rfl, rfl, HBr⟩
        case round =>
          obtain ⟨k, hk, rfl, rfl, HBs⟩ := hrel
          obtain ⟨x0, x1, x2⟩ := HXc.out wr HBs.out
          by_cases hla : k < l.length
          · obtain ⟨bE, oE, haE, a1, c1, hc1, hia⟩ := HRw.out wr HBs.out
            subst haE
            have hlaI : (k : Int) < (l.length : Int) := by omega
            obtain ⟨bs, hbs⟩ : ∃ b, stdB e l k = b := ⟨_, rfl⟩
            have HSd : Hid (∀ q, Calls Tryd.prog 12 #[.slice a1 e.length c1, .slice aW l.length cW, .int .i64 (k : Int)] (wr.drewN q) fun r w' => r = .returned (.bool bs) ∧ ∃ m, w' = (wr.drewN q).drewN m) := hid0 (fun q => by
              rw [← hbs]
              exact stands_any e l a1 aW c1 cW k (wr.drewN q) ⟨hia.at'⟩ ⟨(HXi.out wr HBs.out).2.1.at'⟩ (by have := HNe.out.2; omega) (by omega) (by omega) HNe.out.1)
            have HCs : Hid (cntS e l (k + 1) = cntS e l k + if bs = true then 1 else 0) := hid0 (by rw [← hbs]; rfl)
            have hcb := HSc.out k hk
            obtain ⟨m0, hm0⟩ : ∃ m, n0 + cntS e l k = m := ⟨_, rfl⟩
            have hmb : m0 ≤ 201000000000 := by omega
            have HM0 := hid0 hm0
            rw [hm0]
            clear hbs hia hm0 hcb hb1
            go_wp2
            go_quiet ((go_at_call 12; exact Calls.quiet_of (HSd.out _)))
            cases bs with
            | true =>
              go_wp2
              go_roundw
              case rel => exact ⟨k + 1, hla, by go_num, by rw [HCs.out, if_pos rfl, ← Nat.add_assoc, HM0.out]; go_num, hid0 (below_drewN HBs.out _)⟩
              case measure => simp [intOf]; omega
            | false =>
              go_wp2
              go_roundw
              case rel => exact ⟨k + 1, hla, by go_num, by rw [HCs.out, if_neg (by simp), Nat.add_zero, HM0.out], hid0 (below_drewN HBs.out _)⟩
              case measure => simp [intOf]; omega
          · have hkL : ¬ (k : Int) < (l.length : Int) := by omega
            have hke : k = l.length := by omega
            have HSq : Hid (n0 + cntS e l k = sumE (fun e => cntS e l l.length) (L.take (i + 1))) := hid0 (by rw [HSn.out, hke])
            clear hke
            go_wp2
            go_roundw
            case rel => exact ⟨i + 1, hlt, by go_num, by rw [HSq.out], HBs⟩
            case measure => simp [intOf]; omega
      · have hkI : ¬ (i : Int) < (L.length : Int) := by omega
        have HNn : Hid (sumE (fun e => cntS e l l.length) (L.take i) = LA.length) := hid0 (by rw [List.take_of_length_le (by omega)]; exact HCn.out.symm)
        rw [HNn.out]
        clear HSe HCn HNn
        go_wp2
        go_loopw [9] (fun j wr => ∃ k : Nat, k ≤ LA.length ∧ j = .int .i64 (k : Int) ∧ Hid (Below w3.heap.size w3 wr)) (fun j _ => LA.length - (intOf j).toNat)
        case atStart => exact ⟨0, Nat.zero_le _, rfl, HBr⟩
        case round =>
          clear x0 x1 x2
          obtain ⟨k, hk, rfl, HBs⟩ := hrel
          by_cases hlk : k < LA.length
          · have hkL : (k : Int) < (LA.length : Int) := by omega
            have hkL0 : (0 : Int) ≤ (k : Int) := by omega
            have HFw : Hid (FA wr a5 LA) := hid0 (HF3.out.past HBs.out)
            obtain ⟨j, s, hj, hx, hst, hsl⟩ := HMm.out LA[k] (List.getElem_mem hlk)
            obtain ⟨b5, o5, ha5, hb5, d0, d1, d2⟩ := HFw.out.at' k hlk
            rw [hx] at d0 d1 d2
            dsimp only at d0 d1 d2
            have HX := hid0 hx
            subst ha5
            obtain ⟨bE, oE, haE, hbE, a1, c1, hc1, hia⟩ := (HXi.out wr HBs.out).1.at' j hj
            subst haE
            have HNe : Hid (L[j] ≠ [] ∧ L[j].length ≤ 32) := hid0 ⟨fun e0 => HG.out.ne (by rw [← e0]; exact List.getElem_mem hj), HG.out.len _ (List.getElem_mem hj)⟩
            have HIa := hid0 hia
            have HSt := hid0 hst
            generalize L[j] = e at *
            obtain ⟨m, hm⟩ : ∃ m, m = s + e.length := ⟨_, rfl⟩
            have hmI : (s : Int) + (e.length : Int) = (m : Int) := by omega
            have hmB : m ≤ 100000100 := by have := HNe.out.2; omega
            rw [hmI] at d2
            clear hx hst hia hm
            go_upto_region 20 with (fail)
            obtain ⟨W2, hW2⟩ : ∃ W, wr.alloc (.cells #[.int .i64 (j : Int), .int .i64 (s : Int), .int .i64 (m : Int)] 35) = W := ⟨_, rfl⟩
            rw [hW2]
            have hbw : Below wr.heap.size wr W2 := by rw [← hW2]; exact (Below.refl _ _).alloc (Nat.le_refl _) _
            have hrow : W2.heap[wr.heap.size]? = some (.cells #[.int .i64 (j : Int), .int .i64 (s : Int), .int .i64 (m : Int)] 35 (0, 0)) := by rw [← hW2]; exact heap_alloc_new _ _
            have g0 : W2.cell? ⟨wr.heap.size, 0, none⟩ = some (.int .i64 (j : Int)) := by rw [cell_of_row _ _ _ _ _ _ hrow]; rfl
            have g1 : W2.cell? ⟨wr.heap.size, 1, none⟩ = some (.int .i64 (s : Int)) := by rw [cell_of_row _ _ _ _ _ _ hrow]; rfl
            have g2 : W2.cell? ⟨wr.heap.size, 2, none⟩ = some (.int .i64 (m : Int)) := by rw [cell_of_row _ _ _ _ _ _ hrow]; rfl
            have HB2' : Hid (Below w3.heap.size w3 W2) := hid0 (HBs.out.trans (hbw.mono HBs.out.size))
            have e1 := (hbw.cell (p := ⟨bE, oE + j, none⟩) hbE).trans hc1
            have HFq : Hid (FA W2 (some ⟨b5, o5, none⟩) LA) := hid0 (HFw.out.past hbw)
            have HIq : Hid (IA W2 a1 e) := hid0 (HIa.out.past hbw)
            clear d0 d1 d2 hc1 hrow hbw hbE hb5 HFw HIa
            generalize wr.heap.size = P at *
            clear hW2
            obtain ⟨x0, x1, x2⟩ := HXc.out W2 HB2'.out
            have HSd : Hid (∀ q, Calls Tryd.prog 12 #[.slice a1 e.length c1, .slice aW l.length cW, .int .i64 (s : Int)] (W2.drewN q) fun r w' => r = .returned (.bool true) ∧ ∃ m, w' = (W2.drewN q).drewN m) := hid0 (fun q => by
              rw [← HSt.out]
              exact stands_any e l a1 aW c1 cW s (W2.drewN q) ⟨HIq.out.at'⟩ ⟨(HXi.out W2 HB2'.out).2.1.at'⟩ (by have := HNe.out.2; omega) (by omega) (by omega) HNe.out.1)
            have hj0 : ¬ (j : Int) < 0 := by omega
            have hj1 : ¬ (j : Int) ≥ (L.length : Int) := by omega
            have hjI : (j : Int) < (L.length : Int) := by omega
            have hjp : (0 : Int) ≤ (j : Int) := by omega
            go_quiet ((go_at_call 12; exact Calls.quiet_of (HSd.out _)))
            have HBq : Hid (∀ q, Below w3.heap.size w3 (W2.drewN q)) := hid0 (fun q => below_drewN HB2'.out q)
            clear HSd e1 x0 x1 x2 g0
            cases k with
            | zero =>
              go_wp2
              go_quiet ((fail))
              go_wp2
              go_roundw
              case rel => exact ⟨1, hlk, by go_num, hid0 (HBq.out _)⟩
              case measure => simp [intOf]; omega
            | succ k' =>
              obtain ⟨j', s', hj', hx', hst', hsl'⟩ := HMm.out LA[k'] (List.getElem_mem (by omega))
              have HOd : Hid (LA[k'].2.2 < LA[k' + 1].2.2 ∨ LA[k'].2.2 = LA[k' + 1].2.2 ∧ LA[k'].2.1 < LA[k' + 1].2.1) := hid0 (List.pairwise_iff_getElem.1 HOr.out k' (k' + 1) (by omega) hlk (by omega))
              obtain ⟨b6, o6, h6, _, _, d1, d2⟩ := HFq.out.at' k' (by omega)
              injection h6 with h6
              injection h6 with h7 h8
              subst h7 h8
              rw [hx'] at d1 d2
              dsimp only at d1 d2
              have hel' := HG.out.len _ (List.getElem_mem hj')
              obtain ⟨m', hm'⟩ : ∃ m', m' = s' + L[j'].length := ⟨_, rfl⟩
              have hmI' : (s' : Int) + (L[j'].length : Int) = (m' : Int) := by omega
              rw [hmI'] at d2
              have HOq : Hid ((m' : Int) < (m : Int) ∨ (m' : Int) = (m : Int) ∧ (s' : Int) < (s : Int)) := hid0 (by
                have h := HOd.out
                rw [hx', HX.out] at h
                dsimp only at h
                rw [hmI', hmI] at h
                exact h)
              obtain ⟨kk, hkk⟩ : ∃ kk, kk = k' + 1 := ⟨_, rfl⟩
              have hkI2 : ((k' + 1 : Nat) : Int) - 1 = (k' : Int) := by omega
              have hkI3 : ((k' + 1 : Nat) : Int) > 0 := by omega
              have hkI4 : (k' : Int) < (LA.length : Int) := by omega
              have hkI5 : (0 : Int) ≤ (k' : Int) := by omega
              clear hx' hmI' hm' hel' HOd hst' hj'
              rw [← hkk] at hkI2 hkI3 hlk hk hkL hkL0 ⊢
              clear hkk
              have hwk : IntKind.i64.wrap (k' : Int) = (k' : Int) := by simp [IntKind.wrap, IntKind.bits, IntKind.signed]; omega
              have hkN : 0 < kk := by omega
              have hkD : decide (0 < kk) = true := decide_eq_true hkN
              have hkE : decide ((0 : Int) < (kk : Int)) = true := decide_eq_true (by omega)
              by_cases hlm : (m' : Int) < (m : Int)
              · have h1 : ¬ (m' : Int) > (m : Int) := by omega
                have h3 : decide ((m : Int) < (m' : Int)) = false := decide_eq_false h1
                have h2 : ((m' : Int) == (m : Int)) = false := by simp; omega
                have h4 : ¬ m < m' := by omega
                have h5 : decide (m < m') = false := decide_eq_false h4
                have h6 : ¬ m' = m := by omega
                have h7 : decide (m' = m) = false := decide_eq_false h6
                have h8 : (m' == m) = false := by simp; omega
                have h9 : ¬ m' > m := h4
                have h10 : decide (m' > m) = false := decide_eq_false h4
                have h11 : decide ((m' : Int) > (m : Int)) = false := decide_eq_false h1
                clear hlm
                go_wp2
                go_quiet ((fail))
                go_wp2
                go_roundw
                case rel => exact ⟨kk + 1, hlk, by go_num, hid0 (HBq.out _)⟩
                case measure => simp [intOf]; omega
              · obtain ⟨hme, hss⟩ : m' = m ∧ ¬ (s' : Int) ≥ (s : Int) := by
                  rcases HOq.out with h | ⟨h, h2⟩
                  · exact absurd h hlm
                  · exact ⟨by omega, by omega⟩
                subst hme
                clear hlm
                have h3 : decide ((s : Int) ≤ (s' : Int)) = false := decide_eq_false hss
                have h4 : decide ((m' : Int) < (m' : Int)) = false := decide_eq_false (by omega)
                have h5 : ((m' : Int) == (m' : Int)) = true := by simp
                go_wp2
                go_quiet ((fail))
                go_wp2
                go_roundw
                case rel => exact ⟨kk + 1, hlk, by go_num, hid0 (HBq.out _)⟩
                case measure => simp [intOf]; omega
          · have hkL : ¬ (k : Int) < (LA.length : Int) := by omega
            have hke : k = LA.length := by omega
            go_wp2
            go_ret
            exact ⟨rfl, (HXi.out _ HBs.out).2.2.2⟩
end Go.Proofs.YtamgjdgnlcoapaaDoor
namespace Go.Proofs.YtamgjdgnlcoapaaDoor
open Go.RowKit Go.Shelf Go.Lib Go.Maps
/-- Stands the entry there? At any place. -/
def stI (e l : List Int) (t : Int) : Bool := decide (0 ≤ t) && stdB e l t.toNat
theorem stI_iff {e l : List Int} {t : Int} : stI e l t = true ↔ 0 ≤ t ∧ stdB e l t.toNat = true := by simp [stI]
theorem lpK_none {E : List (List Int)} {l : List Int} : ∀ {k : Nat}, lpK E l k = none → ∀ m, m < k → l.take (m + 1) ∉ E
  | 0, _, m, h => absurd h (Nat.not_lt_zero m)
  | k + 1, h, m, hm => by
    rw [lpK] at h
    split at h
    · cases h
    · rename_i hn
      by_cases e : m = k
      · rw [e]; exact hn
      · exact lpK_none h m (by omega)
theorem lpK_some {E : List (List Int)} {l e : List Int} : ∀ {k : Nat}, lpK E l k = some e → e ∈ E ∧ ∃ m, m < k ∧ e = l.take (m + 1) ∧ ∀ m', m < m' → m' < k → l.take (m' + 1) ∉ E
  | 0, h => by cases h
  | k + 1, h => by
    rw [lpK] at h
    split at h
    · rename_i hn
      injection h with h
      subst h
      exact ⟨hn, k, by omega, rfl, fun m' h1 h2 => by omega⟩
    · rename_i hn
      obtain ⟨h1, m, h2, h3, h4⟩ := lpK_some h
      refine ⟨h1, m, by omega, h3, fun m' h5 h6 => ?_⟩
      by_cases e : m' = k
      · rw [e]; exact hn
      · exact h4 m' h5 (by omega)
/-- The longest entry that stands there. -/
def LonS (E : List (List Int)) (l : List Int) (t : Int) : Option (List Int) → Prop
  | none => ∀ e ∈ E, stI e l t = false
  | some e => e ∈ E ∧ stI e l t = true ∧ ∀ e' ∈ E, stI e' l t = true → e'.length ≤ e.length
theorem lng_lon {E : List (List Int)} (h0 : [] ∉ E) (l : List Int) (t : Int) : LonS E l t (lngO E l t) := by
  have hf : ∀ e ∈ E, stI e l t = true → 0 ≤ t ∧ t < (l.length : Int) ∧ ∃ m, e.length = m + 1 ∧ m < l.length - t.toNat ∧ (l.drop t.toNat).take (m + 1) = e := fun e he hs => by
    obtain ⟨h1, h2⟩ := stI_iff.1 hs
    have hne : e ≠ [] := fun e0 => h0 (by rw [← e0]; exact he)
    have h3 := std_len h2 hne
    have h4 : 0 < e.length := List.length_pos_iff.2 hne
    have h5 := of_decide_eq_true h2
    refine ⟨h1, by omega, e.length - 1, by omega, by omega, ?_⟩
    rw [show e.length - 1 + 1 = e.length by omega]
    exact h5
  unfold lngO
  split
  · intro e he
    cases hs : stI e l t with
    | false => rfl
    | true => have := hf e he hs; omega
  · cases hl : lpK E (l.drop t.toNat) (l.length - t.toNat) with
    | none =>
      intro e he
      cases hs : stI e l t with
      | false => rfl
      | true =>
        obtain ⟨_, _, m, _, h3, h4⟩ := hf e he hs
        exact absurd (by rw [h4]; exact he) (lpK_none hl m h3)
    | some e =>
      obtain ⟨h1, m, h2, h3, h4⟩ := lpK_some hl
      have hle : e.length = m + 1 := by rw [h3, List.length_take, List.length_drop]; omega
      refine ⟨h1, stI_iff.2 ⟨by omega, decide_eq_true (by rw [hle]; exact h3.symm)⟩, fun e' he' hs' => ?_⟩
      obtain ⟨_, _, m', h5, h6, h7⟩ := hf e' he' hs'
      by_cases hq : m < m'
      · exact absurd (by rw [h7]; exact he') (h4 m' hq h6)
      · omega
/-- The longest entry that ends there. -/
def EndS (E : List (List Int)) (l : List Int) (t : Int) : Option (List Int) → Prop
  | none => ∀ e ∈ E, (e.length : Int) ≤ t → t ≤ (l.length : Int) → stI e l (t - (e.length : Int)) = false
  | some e => e ∈ E ∧ (e.length : Int) ≤ t ∧ t ≤ (l.length : Int) ∧ stI e l (t - (e.length : Int)) = true ∧ ∀ e' ∈ E, (e'.length : Int) ≤ t → stI e' l (t - (e'.length : Int)) = true → e'.length ≤ e.length
theorem end_end {E : List (List Int)} (h0 : [] ∉ E) (l : List Int) (t : Int) : EndS E l t (endO E l t) := by
  have hp : ∀ e ∈ E, 0 < e.length := fun e he => List.length_pos_iff.2 (fun e0 => h0 (by rw [← e0]; exact he))
  unfold endO
  split
  · intro e he h1 h2
    have := hp e he
    omega
  · rename_i hn
    obtain ⟨k, hk, hkl⟩ : ∃ k : Nat, t = (k : Int) + 1 ∧ k < l.length := ⟨t.toNat - 1, by omega, by omega⟩
    have htn : t.toNat = k + 1 := by omega
    rw [htn]
    have hi : ∀ e ∈ E, (e.length : Int) ≤ t → (stI e l (t - (e.length : Int)) = true ↔ e <:+ l.take (k + 1)) := fun e he hle => by
      rw [stI_iff, show (t - (e.length : Int)).toNat = k + 1 - e.length by omega, std_suffix hkl (by omega)]
      exact ⟨fun h => h.2, fun h => ⟨by omega, h⟩⟩
    cases hh : (endsF E (l.take (k + 1))).head? with
    | none =>
      intro e he h1 h2
      cases hs : stI e l (t - (e.length : Int)) with
      | false => rfl
      | true =>
        have := ends_of he ((hi e he h1).1 hs) (List.length_pos_iff.1 (hp e he))
        rw [List.head?_eq_none_iff.1 hh] at this
        cases this
    | some e =>
      obtain ⟨h1, h2, h3⟩ := ends_head_mem hh
      have h4 := h2.length_le
      rw [List.length_take] at h4
      refine ⟨h1, by omega, by omega, (hi e h1 (by omega)).2 h2, fun e' he' h5 h6 => ?_⟩
      have h7 := ends_of he' ((hi e' he' h5).1 h6) (List.length_pos_iff.1 (hp e' he'))
      have h8 := ends_dec E (l.take (k + 1))
      cases hq : endsF E (l.take (k + 1)) with
      | nil => rw [hq] at h7; cases h7
      | cons y r =>
        rw [hq] at hh h7 h8
        injection hh with hh
        subst hh
        rcases List.mem_cons.1 h7 with h9 | h9
        · rw [h9]; exact Nat.le_refl _
        · exact Nat.le_of_lt (List.rel_of_pairwise_cons h8 h9)
theorem all_grow {E : List (List Int)} {l : List Int} {k : Nat} : ∀ K, k < K → ∀ x ∈ (endsF E (l.take (k + 1))).map (fdF E k), x ∈ allK E l K
  | 0, h, _, _ => absurd h (Nat.not_lt_zero k)
  | K + 1, h, x, hx => by
    rw [allK]
    by_cases e : k = K
    · subst e; exact List.mem_append.2 (.inr hx)
    · exact List.mem_append.2 (.inl (all_grow K (by omega) x hx))
theorem all_has {E : List (List Int)} {l e : List Int} {s : Nat} (he : e ∈ E) (hne : e ≠ []) (hs : stdB e l s = true) : ((numF E e : Int), (s : Int), (s : Int) + (e.length : Int)) ∈ allK E l l.length := by
  have h1 := std_len hs hne
  have h2 : 0 < e.length := List.length_pos_iff.2 hne
  obtain ⟨k, hk⟩ : ∃ k, k + 1 = s + e.length := ⟨s + e.length - 1, by omega⟩
  refine all_grow (k := k) _ (by omega) _ (List.mem_map.2 ⟨e, ends_of he ((std_suffix (by omega) (by omega)).1 (by rw [show k + 1 - e.length = s by omega]; exact hs)) hne, ?_⟩)
  refine Prod.ext rfl (Prod.ext ?_ ?_)
  · show (k : Int) + 1 - (e.length : Int) = (s : Int)
    omega
  · show (k : Int) + 1 = (s : Int) + (e.length : Int)
    omega
/-- The last of the first k that begins at t. -/
def LastI (LA : List Fd) (t : Int) (k : Nat) (n : Int) : Prop :=
  (n = -1 ∧ ∀ i (_ : i < LA.length), i < k → LA[i].2.1 ≠ t) ∨ ∃ i, ∃ _ : i < LA.length, i < k ∧ LA[i].2.1 = t ∧ n = LA[i].1 ∧ ∀ i' (_ : i' < LA.length), i < i' → i' < k → LA[i'].2.1 ≠ t
/-- The first of the first k that ends at t. -/
def FirstI (LA : List Fd) (t : Int) (k : Nat) (n : Int) : Prop :=
  (n = -1 ∧ ∀ i (_ : i < LA.length), i < k → LA[i].2.2 ≠ t) ∨ ∃ i, ∃ _ : i < LA.length, i < k ∧ LA[i].2.2 = t ∧ n = LA[i].1 ∧ ∀ i' (_ : i' < LA.length), i' < i → LA[i'].2.2 ≠ t
theorem LastI.zero (LA : List Fd) (t : Int) : LastI LA t 0 (-1) := .inl ⟨rfl, fun _ _ h => absurd h (Nat.not_lt_zero _)⟩
theorem FirstI.zero (LA : List Fd) (t : Int) : FirstI LA t 0 (-1) := .inl ⟨rfl, fun _ _ h => absurd h (Nat.not_lt_zero _)⟩
theorem LastI.hit {LA : List Fd} {t : Int} {k : Nat} (hk : k < LA.length) (h : LA[k].2.1 = t) : LastI LA t (k + 1) LA[k].1 :=
  .inr ⟨k, hk, by omega, h, rfl, fun i' _ h1 h2 => by omega⟩
theorem LastI.miss {LA : List Fd} {t : Int} {k : Nat} {n : Int} (hk : k < LA.length) (hi : LastI LA t k n) (h : LA[k].2.1 ≠ t) : LastI LA t (k + 1) n := by
  have hq : ∀ i (_ : i < LA.length), ¬ i < k → i < k + 1 → LA[i].2.1 ≠ t := fun i h1 h2 h3 => by
    have e : i = k := by omega
    subst e
    exact h
  rcases hi with ⟨h1, h2⟩ | ⟨i, h1, h2, h3, h4, h5⟩
  · exact .inl ⟨h1, fun i h3 h4 => if h5 : i < k then h2 i h3 h5 else hq i h3 h5 h4⟩
  · exact .inr ⟨i, h1, by omega, h3, h4, fun i' h6 h7 h8 => if h9 : i' < k then h5 i' h6 h7 h9 else hq i' h6 h9 h8⟩
theorem FirstI.hit {LA : List Fd} {t : Int} {k : Nat} {n : Int} (hp : ∀ x ∈ LA, 0 ≤ x.1) (hk : k < LA.length) (hi : FirstI LA t k n) (hn : n < 0) (h : LA[k].2.2 = t) : FirstI LA t (k + 1) LA[k].1 := by
  rcases hi with ⟨_, h2⟩ | ⟨i, h1, _, _, h4, _⟩
  · exact .inr ⟨k, hk, by omega, h, rfl, fun i' h3 h4 => h2 i' h3 h4⟩
  · have := hp _ (List.getElem_mem h1)
    omega
theorem FirstI.miss {LA : List Fd} {t : Int} {k : Nat} {n : Int} (hi : FirstI LA t k n) (h : ¬ n < 0 ∨ ∀ hk : k < LA.length, LA[k].2.2 ≠ t) : FirstI LA t (k + 1) n := by
  rcases hi with ⟨h1, h2⟩ | ⟨i, h1, h2, h3, h4, h5⟩
  · refine .inl ⟨h1, fun i h3 h4 => ?_⟩
    by_cases h5 : i < k
    · exact h2 i h3 h5
    · have e : i = k := by omega
      subst e
      rcases h with h | h
      · omega
      · exact h h3
  · exact .inr ⟨i, h1, by omega, h3, h4, h5⟩
/-- What an answer says, -1 for none. -/
def orM (E : List (List Int)) : Option (List Int) → Int
  | none => -1
  | some e => (numF E e : Int)
theorem last_end {E : List (List Int)} (h0 : [] ∉ E) (l : List Int) (t : Int) {n : Int} (h : LastI (allK E l l.length) t (allK E l l.length).length n) : n = orM E (lngO E l t) := by
  have hL := lng_lon h0 l t
  have hM := all_mem (E := E) (l := l) l.length (Nat.le_refl _)
  have hO := all_ord E l l.length
  have hH := fun e s (he : e ∈ E) => all_has (l := l) (s := s) he (fun e0 => h0 (by rw [← e0]; exact he))
  generalize allK E l l.length = LA at *
  have hx : ∀ i (hi : i < LA.length), LA[i].2.1 = t → ∃ e ∈ E, stI e l t = true ∧ LA[i].2.2 = t + (e.length : Int) := fun i hi ht => by
    obtain ⟨j, s, hj, h1, h2, _⟩ := hM _ (List.getElem_mem hi)
    rw [h1] at ht ⊢
    dsimp only at ht ⊢
    subst ht
    exact ⟨E[j], List.getElem_mem hj, stI_iff.2 ⟨by omega, h2⟩, rfl⟩
  cases ho : lngO E l t with
  | none =>
    rw [ho] at hL
    rcases h with ⟨h1, _⟩ | ⟨i, h1, _, h3, _, _⟩
    · exact h1
    · obtain ⟨e, he, hs, _⟩ := hx i h1 h3
      rw [hL e he] at hs
      cases hs
  | some e =>
    rw [ho] at hL
    obtain ⟨he, hs, hm⟩ := hL
    obtain ⟨ht0, hs'⟩ := stI_iff.1 hs
    obtain ⟨i0, hi0, hq⟩ := List.mem_iff_getElem.1 (hH e t.toNat he hs')
    have e1 : LA[i0].1 = (numF E e : Int) := by rw [hq]
    have e2 : LA[i0].2.1 = t := by rw [hq]; show ((t.toNat : Nat) : Int) = t; omega
    have e3 : LA[i0].2.2 = t + (e.length : Int) := by rw [hq]; show ((t.toNat : Nat) : Int) + _ = _; omega
    rcases h with ⟨_, h2⟩ | ⟨i, h1, _, h3, h4, h5⟩
    · exact absurd e2 (h2 i0 hi0 hi0)
    · rcases Nat.lt_trichotomy i i0 with hlt | heq | hgt
      · exact absurd e2 (h5 i0 hi0 hlt hi0)
      · subst heq; rw [h4, e1]; rfl
      · obtain ⟨e', he', hs2, h6⟩ := hx i h1 h3
        have h7 := hm e' he' hs2
        have h8 := List.pairwise_iff_getElem.1 hO i0 i hi0 h1 hgt
        omega
theorem first_end {E : List (List Int)} (h0 : [] ∉ E) (l : List Int) (t : Int) {n : Int} (h : FirstI (allK E l l.length) t (allK E l l.length).length n) : n = orM E (endO E l t) := by
  have hL := end_end h0 l t
  have hM := all_mem (E := E) (l := l) l.length (Nat.le_refl _)
  have hO := all_ord E l l.length
  have hH := fun e s (he : e ∈ E) => all_has (l := l) (s := s) he (fun e0 => h0 (by rw [← e0]; exact he))
  generalize allK E l l.length = LA at *
  have hx : ∀ i (hi : i < LA.length), LA[i].2.2 = t → ∃ e ∈ E, (e.length : Int) ≤ t ∧ t ≤ (l.length : Int) ∧ stI e l (t - (e.length : Int)) = true ∧ LA[i].2.1 = t - (e.length : Int) := fun i hi ht => by
    obtain ⟨j, s, hj, h1, h2, _⟩ := hM _ (List.getElem_mem hi)
    rw [h1] at ht ⊢
    dsimp only at ht ⊢
    have hne : E[j] ≠ [] := fun e0 => h0 (by rw [← e0]; exact List.getElem_mem hj)
    have h3 := std_len h2 hne
    exact ⟨E[j], List.getElem_mem hj, by omega, by omega, stI_iff.2 ⟨by omega, by rw [show (t - (E[j].length : Int)).toNat = s by omega]; exact h2⟩, by omega⟩
  cases ho : endO E l t with
  | none =>
    rw [ho] at hL
    rcases h with ⟨h1, _⟩ | ⟨i, h1, _, h3, _, _⟩
    · exact h1
    · obtain ⟨e, he, hl, hl2, hs, _⟩ := hx i h1 h3
      rw [hL e he hl hl2] at hs
      cases hs
  | some e =>
    rw [ho] at hL
    obtain ⟨he, hl, hl2, hs, hm⟩ := hL
    obtain ⟨ht0, hs'⟩ := stI_iff.1 hs
    obtain ⟨i0, hi0, hq⟩ := List.mem_iff_getElem.1 (hH e (t - (e.length : Int)).toNat he hs')
    have e1 : LA[i0].1 = (numF E e : Int) := by rw [hq]
    have e2 : LA[i0].2.1 = t - (e.length : Int) := by rw [hq]; show (((t - (e.length : Int)).toNat : Nat) : Int) = _; omega
    have e3 : LA[i0].2.2 = t := by rw [hq]; show (((t - (e.length : Int)).toNat : Nat) : Int) + _ = _; omega
    rcases h with ⟨_, h2⟩ | ⟨i, h1, _, h3, h4, h5⟩
    · exact absurd e3 (h2 i0 hi0 hi0)
    · rcases Nat.lt_trichotomy i i0 with hlt | heq | hgt
      · obtain ⟨e', he', hl', _, hs2, h6⟩ := hx i h1 h3
        have h7 := hm e' he' hl' hs2
        have h8 := List.pairwise_iff_getElem.1 hO i i0 h1 hi0 hlt
        omega
      · subst heq; rw [h4, e1]; rfl
      · exact absurd e3 (h5 i0 hi0 hgt)
end Go.Proofs.YtamgjdgnlcoapaaDoor
namespace Go.Proofs.YtamgjdgnlcoapaaDoor
open Go.RowKit Go.Shelf Go.Lib Go.Maps
set_option maxRecDepth 10000 in
set_option maxHeartbeats 800000 in
theorem standsI (e l : List Int) (ae al : Option Addr) (ce cl : Nat) (t : Int) (w : World) (he : IA w ae e) (hl : IA w al l) (h1 : e.length ≤ 1000000000) (h2 : l.length ≤ 1000000000) (hne : e ≠ []) :
    Calls Tryd.prog 12 #[.slice ae e.length ce, .slice al l.length cl, .int .i64 t] w fun r w' => r = .returned (.bool (stI e l t)) ∧ ∃ q, w' = w.drewN q := by
  have hw0 : IntKind.i64.wrap ((l.length : Int) - (e.length : Int)) = (l.length : Int) - (e.length : Int) := by simp [IntKind.wrap, IntKind.bits, IntKind.signed]; omega
  by_cases h0 : t < 0
  · have hr : stI e l t = false := by simp [stI]; omega
    rw [hr]
    clear hr hne he hl
    go_enter Tryd.func12, Tryd.ntmps12
    go_wp2
    go_ret
    exact ⟨rfl, 0, rfl⟩
  · by_cases hgt : t > (l.length : Int) - (e.length : Int)
    · have hr : stI e l t = false := by
        cases hq : stI e l t with
        | false => rfl
        | true =>
          obtain ⟨h3, h4⟩ := stI_iff.1 hq
          have := std_len h4 hne
          omega
      rw [hr]
      clear hr hne he hl
      go_enter Tryd.func12, Tryd.ntmps12
      go_wp2
      go_ret
      exact ⟨rfl, 0, rfl⟩
    · obtain ⟨a, rfl⟩ : ∃ a : Nat, t = (a : Int) := ⟨t.toNat, by omega⟩
      rw [show stI e l (a : Int) = stdB e l a by simp [stI]]
      exact stands_any e l ae al ce cl a w he hl h1 h2 (by omega) hne
end Go.Proofs.YtamgjdgnlcoapaaDoor
