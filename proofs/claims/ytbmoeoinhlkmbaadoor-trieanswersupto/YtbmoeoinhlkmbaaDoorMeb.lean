/-
  TrHW, TrIM, TrIW, TrJW, TrKW, TrLW, TrMW, TrOW, RdM, ExTk, TrPM.
-/
import Derived.Test.YtbmoeoinhlkmbaaDoorMea
import Derived.Sort.OwnSorted
import Derived.Deep.Cut
import Derived.RangeFuncNested
import Derived.RangeFuncBound
import Derived.RangeFuncCalls
import Derived.RangeFuncLeaves
import Derived.RangeFuncBox
import Derived.OwnWalkIn
import Derived.TacticsInMore
import Derived.LoopNIn
import Derived.LoopIn
import Derived.Sort.LoopGhostIn
import Derived.Test.YtbmoeoinhlkmbaaDoorProg
import Derived.WalkKit
import Derived.Deep.RegionHeld3
namespace Go.Proofs.YtbmoeoinhlkmbaaDoor
open Go.RowKit Go.Shelf Go.Lib Go.Maps Go.Sort
theorem ptrElem_shape (v : Value) (y : DataW Unit × List MemPlace) (h : ptrElem v = some y) : ∃ o : Option Nat, v = ptr o := by
  obtain ⟨o, h1, _⟩ := ptrElem_inv h
  exact ⟨o, h1⟩
theorem grown_set (w : World) (b k : Nat) (v : Value) : w.grownBy (w.setCell ⟨b, k, none⟩ v) (some b) := ⟨rfl, rfl, rfl, by simp [World.setCell], fun i _ hi => setCell_block_ne (fun e => hi (by rw [e]))⟩
theorem OwnP.keep {w w' : World} {base hi : Nat} {bk : List Int → Nat} {v : Value} {ps : List (List Int)} (h : OwnP w base bk v ps) (hh : hi ≤ base) (hb : ∀ k, hi ≤ k → w'.heap[k]? = w.heap[k]?) : OwnP w' base bk v ps := own_blk h (fun k e => hb k (Nat.le_trans hh (World.ownsRow.lt h k e).1))
theorem lev_len {E ps : List (List Int)} {d : Nat} (h : Lev (begB E) d ps) : ps.length ≤ E.length + 1 := by
  cases d with
  | zero =>
    have := nodup_len (m := [[]]) h.nd (fun p hp => by rw [List.length_eq_zero_iff.1 (h.of' p hp).2]; exact .head _)
    simp at this
    omega
  | succ d =>
    have := level_len h.nd h.of'
    omega
set_option maxRecDepth 10000 in
set_option maxHeartbeats 1600000 in
theorem link_any {w : World} {lo hi T N : Nat} {E : List (List Int)} {bk : List Int → Nat} {mp : List Int → Option Nat} (h : Bt w lo hi T N (begB E) E bk mp) (hn : [] ∉ E) (hl : ∀ e ∈ E, e.length ≤ 32) (hI : ∀ p c, begB E (p ++ [c]) = true → inI c) (hE : E.length ≤ 2000) (_hN : N ≤ 1000000) :
    Calls Tryd.prog 20 #[.pointer (some ⟨T, 0, none⟩)] w fun e w' => (∃ v, e = .returned v) ∧ Tr w' lo hi T N (begB E) bk mp (whE E) (enE E) (fun q => (shF (begB E) q).map bk) (fun q => (inF E q).map bk) ∧ Only w w' (fun b => lo ≤ b ∧ b < hi) := by
  obtain ⟨i0, hi0, hz0, hz1, hz2⟩ := info_parts infoPtr
  have HH : Hid (Lk w w lo hi T N E bk mp 0 []) := hid0 ⟨by
    rw [lnk_zero (f := fun q => (shF (begB E) q).map bk) rfl, lnk_zero (f := fun q => (inF E q).map bk) rfl]
    exact h, Only.refl _ _⟩
  have HR : Hid (bk [] = T) := hid0 (Tr.rb h)
  have HW : Hid (hi ≤ w.heap.size) := hid0 (Tr.hs h)
  have HI := hid0 hI
  have HL : Hid (∀ q, begB E q = true → q.length ≤ 32) := hid0 (fun q hq => begB_len hl hq)
  have HO : Hid (OwnP (w.alloc (.cells #[.pointer (some ⟨T, 0, none⟩)] 52)) w.heap.size bk (.slice (some ⟨w.heap.size, 0, none⟩) 1 1) [[]]) := hid0 (by
    refine ⟨rfl, .inr ⟨w.heap.size, 1, #[.pointer (some ⟨T, 0, none⟩)], rfl, Nat.le_refl _, heap_alloc_new _ _, Nat.le_refl _, by unfold maxLen; omega, rfl, ?_⟩⟩
    have := Tr.rb h
    simp [this])
  have HN := hid0 hn
  clear h hn hl hI
  go_enter Tryd.func20, Tryd.ntmps20
  go_wp2
  go_loopg [2] 40 (fun k v wr => ∃ (d : Nat) (ps : List (List Int)), Hid (k + d = 40) ∧ Hid (Lev (begB E) d ps) ∧ Hid (OwnP wr w.heap.size bk v ps) ∧ Hid (Lk w wr lo hi T N E bk mp d []))
  case atStart => exact ⟨0, [[]], hid0 rfl, hid0 (lev_zero (begB_nil E)), HO, hid0 (HH.out.past ((Below.refl _ _).alloc (Nat.le_refl _) _))⟩
  case round =>
    obtain ⟨d, ps, HK, HV, HP, HT⟩ := hrel
    obtain ⟨a0, cap0, rfl⟩ := HP.out.form
    clear HO HH
    by_cases hps : ps.length = 0
    · have hq : ¬ (ps.length : Int) > 0 := by omega
      have he : ps = [] := List.length_eq_zero_iff.1 hps
      have HE : Hid (Tr wr lo hi T N (begB E) bk mp (whE E) (enE E) (fun q => (shF (begB E) q).map bk) (fun q => (inF E q).map bk) ∧ Only w wr (fun b => lo ≤ b ∧ b < hi)) := hid0 ⟨HT.out.done (by rw [← he]; exact HV.out), HT.out.on⟩
      clear hps he HP
      go_wp2
      go_returns
      exact ⟨⟨_, rfl⟩, HE.out⟩
    · obtain ⟨g, cap, e1, hg1, hg2, hcell⟩ := HP.out.at (by omega)
      injection e1 with e1 _ e2
      subst e1 e2
      have hq : (ps.length : Int) > 0 := by omega
      have HD : Hid (d ≤ 32) := hid0 (by
        obtain ⟨p, hp⟩ : ∃ p, p ∈ ps := List.exists_mem_of_length_pos (by omega)
        have := HV.out.of' p hp
        have h2 := HL.out p this.1
        omega)
      have HC := hid0 hcell
      have HG : Hid (w.heap.size ≤ g ∧ g < wr.heap.size) := hid0 ⟨hg1, hg2⟩
      have hpl := lev_len HV.out
      clear hcell hg1 hg2 hps
      obtain ⟨wz, hwz⟩ : ∃ wz, wz = wr := ⟨_, rfl⟩
      subst hwz
      go_wp2
      go_loopw [3, 17] (fun v i wr => ∃ (k : Nat) (qs : List (List Int)), k ≤ ps.length ∧ i = .int .i64 (k : Int) ∧ Hid (Mid (begB E) d ps k qs) ∧ Hid (OwnP wr wz.heap.size bk v qs) ∧ Hid (Lk w wr lo hi T N E bk mp d qs) ∧ Hid (Only wz wr (fun b => lo ≤ b ∧ b < hi))) (fun _ i _ => ps.length - (intOf i).toNat)
      case atStart => exact ⟨0, [], Nat.zero_le _, rfl, hid0 (mid_start _ _ _), hid0 (World.ownsRow_nil _ _ _ _), HT, hid0 (Only.refl _ _)⟩
      case round =>
        obtain ⟨k, qs, hk, rfl, HM, HQ, HT2, HZ⟩ := hrel
        by_cases hlt : k < ps.length
        · have hkI : (k : Int) < (ps.length : Int) := by omega
          have hkI0 : (0 : Int) ≤ (k : Int) := by omega
          have hcl : wr.cell? ⟨g, k, none⟩ = some (.pointer (some ⟨bk ps[k], 0, none⟩)) := (HZ.out.cell (p := ⟨g, k, none⟩) HG.out.2 (fun q => by have := HG.out; have := HW.out; have := q.2; simp only at this; omega)).trans (HC.out k hlt)
          have HPp := hid0 (HV.out.of' ps[k] (List.getElem_mem hlt))
          have HPn := hid0 (nodup_take HV.out.nd hlt)
          have HPe : Hid (∃ p, ps[k] = p) := hid0 ⟨_, rfl⟩
          obtain ⟨p, hpe⟩ : ∃ p, ps[k] = p := ⟨_, rfl⟩
          have HPq := hid0 hpe
          rw [hpe] at hcl HPp HPn
          clear hpe HPe
          have hc0 := (HT2.out.tr.nd p HPp.out.1).cells.1
          cases hm : mp p with
          | none =>
            rw [hm] at hc0
            have HM2 : Hid (Mid (begB E) d ps (k + 1) qs) := hid0 (mid3_end (mid3_start (left := fun _ => false) HM.out (fun c hc => by rw [HT2.out.tr.mn p HPp.out.1 hm c] at hc; cases hc)) (fun _ => rfl) hlt HPq.out)
            have hrg := run_range_nilMap (P := Tryd.prog) wr 51 3 52 Tryd.underlying51
            have hnx : ∀ ty, (Instr.next (.pointer (some ⟨wr.heap.size, 0, none⟩)) false ty).run Tryd.prog (wr.alloc (.mapIter none 0 #[] 0)) = _ := fun ty => run_next_nilMap wr ty 0 0 #[]
            have HT4 : Hid (Lk w (wr.alloc (.mapIter none 0 #[] 0)) lo hi T N E bk mp d qs) := hid0 (HT2.out.past ((Below.refl _ _).alloc (Nat.le_refl _) _))
            have HQ4 : Hid (OwnP (wr.alloc (.mapIter none 0 #[] 0)) wz.heap.size bk u3 qs) := hid0 (World.ownsRow.alloc HQ.out _)
            have HZ4 : Hid (Only wz (wr.alloc (.mapIter none 0 #[] 0)) (fun b => lo ≤ b ∧ b < hi)) := hid0 (HZ.out.trans (Only.alloc _ _ (fun _ => False)) (fun _ q => nomatch q))
            clear hm
            generalize bk p = bp at *
            go_wp2
            go_rounds 1
            go_roundw
            case rel => exact ⟨k + 1, qs, hlt, by go_num, HM2, HQ4, HT4, HZ4⟩
            case measure => simp [intOf]; omega
          | some m =>
            rw [hm] at hc0
            obtain ⟨D, hown, hf⟩ := HT2.out.tr.mm p m HPp.out.1 hm
            have HF := hid0 hf
            have HMl := hid0 (HT2.out.tr.ml p m HPp.out.1 hm)
            have HMn : Hid (∀ q, begB E q = true → m ≠ bk q) := hid0 (fun q hq => HT2.out.tr.mne HPp.out.1 hm hq)
            have HS3 : Hid (Mid3 (begB E) d ps k p (Maps.has D) qs) := hid0 (mid3_start HM.out (fun c hc => by
              rw [(HF.out c (HI.out p c hc)).1]
              simp [kidF, hc]))
            clear hm hf
            obtain ⟨wq, hwq⟩ : ∃ wq, wq = wr := ⟨_, rfl⟩
            subst hwq
            generalize hbp : bk p = bp at *
            have HBp := hid0 hbp
            clear hbp
            go_wp2_with (first
              | (at_range; refine wpList_range_own _ rfl _ 51 rfl 3 52 lawI Tryd.underlying51 _ m N _ rfl hown ?_; intro w0 hrg0 hg0 hs0)
              | fail)
            go_frame
            have HLk0 : Hid (Lk w w0 lo hi T N E bk mp d qs) := hid0 (HT2.out.grown hg0 (fun j e => nomatch e) HW.out)
            have HQ0 : Hid (OwnP w0 wz.heap.size bk u3 qs) := hid0 (own_blk HQ.out (fun k e => hg0.block k (World.ownsRow.lt HQ.out k e).2 (by simp)))
            have HZ0 : Hid (Only wz w0 (fun b => lo ≤ b ∧ b < hi)) := hid0 (HZ.out.trans (T := fun _ => False) ⟨hg0.os, hg0.tape, hg0.output, hg0.size, fun k hk _ => hg0.block k hk (by simp)⟩ (fun _ q => nomatch q))
            have HWq : Hid (wz.heap.size ≤ wq.heap.size ∧ w.heap.size ≤ wz.heap.size) := hid0 ⟨HZ.out.size, HT.out.on.size⟩
            clear hg0 hs0 hcl hc0 hown
            go_loopw [3] (fun v wy => ∃ (left : Lit → Bool) (cnt : Nat) (qs' : List (List Int)), wy.ranges Tryd.prog 3 ptrElem m wq.heap.size N D left cnt ∧ Hid (∀ z, left z = true → Maps.has D z = true) ∧ Hid (Mid3 (begB E) d ps k p left qs') ∧ Hid (OwnP wy wz.heap.size bk v qs') ∧ Hid (Lk w wy lo hi T N E bk mp d qs') ∧ Hid (Only wz wy (fun b => lo ≤ b ∧ b < hi))) (fun _ wy => wy.rangeLeft m wq.heap.size)
            case atStart => exact ⟨_, _, qs, hrg0, hid0 (fun _ h => h), HS3, HQ0, HLk0, HZ0⟩
            case round =>
              clear hrg0 HS3 HQ0 HLk0 HZ0 HQ HT2 HM HT HP
              obtain ⟨left, cnt, qs', hrg, HLf, HM3, HQ3, HT3, HZ3⟩ := hrel
              go_wp2_with (first
                | (at_next; refine wpList_next_ranges _ rfl _ rfl 3 lawI ptrElem (fun x : Int => .int .i64 x) ptr (fun key kl hk => by obtain ⟨x, hx, _⟩ := Maps.keyOf_int_inv Tryd.underlying3 hk; exact ⟨x, hx⟩) ptrElem_shape m wq.heap.size N _ _ _ rfl hrg ?_ ?_)
                | fail)
              · intro hc0 hl0
                have HM4 : Hid (Mid (begB E) d ps (k + 1) qs') := hid0 (mid3_end HM3.out hl0 hlt HPq.out)
                clear hrg hc0 hl0
                go_wp2
                go_roundw
                case rel => exact ⟨k + 1, qs', hlt, by go_num, HM4, HQ3, HT3, HZ3⟩
                case measure => simp [intOf]; omega
              · intro x o kl yd yp w2 cnt2 hkey hlk hv hat hrg2 hlt2 hg2 hs2 hen
                obtain ⟨x', ex, rfl, hxw⟩ := Maps.keyOf_int_inv Tryd.underlying3 hkey
                obtain rfl : x = x' := by injection ex
                have hfx := HF.out x hxw
                have hS : begB E (p ++ [x]) = true := by
                  have h1 := HLf.out _ hlk
                  rw [show Lit.int .i64 x = keyI x from rfl, hfx.1] at h1
                  cases hq2 : begB E (p ++ [x]) with
                  | true => rfl
                  | false => simp [kidF, hq2] at h1
                obtain ⟨o', eo, ey⟩ := ptrElem_inv hv
                have hoo : o' = some (bk (p ++ [x])) := by
                  have h1 := hat .nil
                  rw [show Lit.int .i64 x = keyI x from rfl, hfx.2] at h1
                  injection ey with ey _
                  rw [ey] at h1
                  have h2 := optD_inj h1
                  rw [← h2]
                  simp [kidF, hS]
                rw [eo, hoo, ptr_some] at hen ⊢
                have HT4 : Hid (Lk w w2 lo hi T N E bk mp d qs') := hid0 (HT3.out.grown hg2 (fun j e => by cases e; have := HWq.out; omega) HW.out)
                have HQ4 : Hid (OwnP w2 wz.heap.size bk u3 qs') := hid0 (World.ownsRow.kept HQ3.out hg2 (Or.inr (row_ne_iter HQ3.out hrg).symm))
                have HZ4 : Hid (Only wz w2 (fun b => lo ≤ b ∧ b < hi)) := hid0 (HZ3.out.trans (T := fun b => wz.heap.size ≤ b) ⟨hg2.os, hg2.tape, hg2.output, hg2.size, fun k hk hn => hg2.block k hk (fun e => hn (by cases e; exact HWq.out.1))⟩ (fun _ q => .inr q))
                have HKW := hid0 (HT4.out.kid HN.out hS HPp.out.2)
                have HNm : Hid (m ≠ bk (p ++ [x])) := hid0 (HMn.out _ hS)
                have HM5 := hid0 (mid3_step HM3.out HPn.out hlk hS HPp.out.2)
                have HLe : Hid (qs'.length ≤ E.length) := hid0 (level_len HM3.out.nd HM3.out.of')
                have c4 := (HT4.out.tr.nd p HPp.out.1).cells.2.2.2.2.1
                rw [show lnk (Ld d qs') (fun q => (shF (begB E) q).map bk) p = (shF (begB E) p).map bk by simp only [lnk, Ld_low (Nat.le_of_eq HPp.out.2), if_true], HBp.out] at c4
                have HST := hid0 (step_any (shF (begB E) p) x d HT4.out.tr hxw (fun q hq hqd => by simp only [lnk, Ld_low hqd, if_true]) (fun q hq => ⟨(sh_ok HT4.out.tr.rt hq).1, Nat.le_trans (sh_ok HT4.out.tr.rt hq).2 (Nat.le_of_eq HPp.out.2)⟩))
                have HLf2 : Hid (∀ z, (fun z => left z && !z.sameKey (keyI x)) z = true → Maps.has D z = true) := hid0 (fun z hz => HLf.out z (by simp only [Bool.and_eq_true] at hz; exact hz.1))
                have HW2 : Hid (wq.heap.size < w2.heap.size) := hid0 hrg2.lt
                clear hfx hS hkey ex hv hat eo ey hoo hg2 hs2 hxw hlk HT3 HQ3 HZ3 HM3 HT4
                obtain ⟨v4, hv4⟩ : ∃ v4, ptr ((shF (begB E) p).map bk) = v4 := ⟨_, rfl⟩
                rw [hv4] at c4 HST
                clear hv4
                generalize bk (stpF (begB E) (shF (begB E) p) x) = bs at *
                generalize ptr ((inF E (stpF (begB E) (shF (begB E) p) x)).map bk) = vI at *
                generalize decide (stpF (begB E) (shF (begB E) p) x ∈ E) = bw at *
                generalize hbq : bk (p ++ [x]) = bq at *
                have HBq := hid0 hbq
                clear hbq
                have HLo : Hid (lo ≤ bq ∧ bq < hi) := hid0 HKW.out.lo'
                obtain ⟨oI, hoI⟩ := HKW.out.sp
                subst hoI
                rw [show ptr oI = .pointer (oI.map fun b => ⟨b, 0, none⟩) from rfl] at HKW
                generalize (oI.map fun b => (⟨b, 0, none⟩ : Addr)) = aI at *
                obtain ⟨u4, k4⟩ := HKW.out.q4
                obtain ⟨u5, k5⟩ := HKW.out.q5
                have f4 := HKW.out.f4
                have f5 := HKW.out.f5
                have s5 := HKW.out.s5
                have s2 := HKW.out.s2
                have hne := HKW.out.ne
                have hne2 : bs ≠ bq := fun e => hne e.symm
                have nm : some m ≠ some bq := fun e => by injection e with e; exact HNm.out e
                have nr : some wq.heap.size ≠ some bq := fun e => by injection e with e; have := HLo.out; have := HWq.out; have := HW.out; omega
                cases bw with
                | false =>
                  have HT5 : Hid (Lk w ((w2.setCell ⟨bq, 4, none⟩ (.pointer (some ⟨bs, 0, none⟩))).setCell ⟨bq, 5, none⟩ (.pointer aI)) lo hi T N E bk mp d (qs' ++ [p ++ [x]])) := hid0 (HKW.out.no rfl)
                  have HQ5 : Hid (OwnP ((w2.setCell ⟨bq, 4, none⟩ (.pointer (some ⟨bs, 0, none⟩))).setCell ⟨bq, 5, none⟩ (.pointer aI)) wz.heap.size bk u3 qs') := hid0 (HQ4.out.keep (hi := hi) (by have := HWq.out; have := HW.out; omega) (fun k hk => by rw [setCell_block_ne (by have := HLo.out; omega), setCell_block_ne (by have := HLo.out; omega)]))
                  have HZ5 : Hid (Only wz ((w2.setCell ⟨bq, 4, none⟩ (.pointer (some ⟨bs, 0, none⟩))).setCell ⟨bq, 5, none⟩ (.pointer aI)) (fun b => lo ≤ b ∧ b < hi)) := hid0 (HZ4.out.trans ((Only.setCell _ _ _ _).trans (Only.setCell _ _ _ _) (fun i hi => .inl hi)) (fun i hi => .inl (by rw [hi]; exact HLo.out)))
                  have hrg5 : (((w2.setCell ⟨bq, 4, none⟩ (.pointer (some ⟨bs, 0, none⟩))).setCell ⟨bq, 5, none⟩ (.pointer aI))).ranges Tryd.prog 3 ptrElem m wq.heap.size N D (fun z => left z && !z.sameKey (keyI x)) cnt2 := (hrg2.kept (grown_set _ _ _ _) nm nr).kept (grown_set _ _ _ _) nm nr
                  have HR6 : Hid (OwnP (((w2.setCell ⟨bq, 4, none⟩ (.pointer (some ⟨bs, 0, none⟩))).setCell ⟨bq, 5, none⟩ (.pointer aI)).alloc (.cells #[.pointer (some ⟨bq, 0, none⟩)] 52)) wz.heap.size bk u3 qs') := hid0 (World.ownsRow.alloc HQ5.out _)
                  have HN6 : Hid (∀ j u, [Value.pointer (some ⟨bq, 0, none⟩)][j]? = some u → (((w2.setCell ⟨bq, 4, none⟩ (.pointer (some ⟨bs, 0, none⟩))).setCell ⟨bq, 5, none⟩ (.pointer aI)).alloc (.cells #[.pointer (some ⟨bq, 0, none⟩)] 52)).cell? ((⟨w2.heap.size, 0, none⟩ : Addr).add j) = some u) := hid0 (by
                    have h := cell_one_new ((w2.setCell ⟨bq, 4, none⟩ (.pointer (some ⟨bs, 0, none⟩))).setCell ⟨bq, 5, none⟩ (.pointer aI)) (.pointer (some ⟨bq, 0, none⟩)) 52
                    rw [show (((w2.setCell ⟨bq, 4, none⟩ (.pointer (some ⟨bs, 0, none⟩))).setCell ⟨bq, 5, none⟩ (.pointer aI))).heap.size = w2.heap.size by simp [World.setCell]] at h
                    exact h)
                  have hle := HLe.out
                  have hszz := HZ4.out.size
                  clear hrg2 HQ5
                  go_wp2_with (first
                    | (go_at_call 22; go_loud ((
                        refine HST.out.mono ?_
                        rintro e w3 ⟨rfl, hw⟩
                        have hw := hw.symm
                        subst hw)))
                    | (at_builtin; go_loud ((
                        refine wpList_append_own _ rfl _ _ 67 rfl wz.heap.size 52 i0 (.pointer none) 1 8 Tryd.underlying67 hi0 hz0 hz1 hz2 rfl (by decide) u3 qs'.length (qs'.map fun p => Value.pointer (some ⟨bk p, 0, none⟩)) rfl HR6.out ⟨w2.heap.size, 0, none⟩ 1 1 [.pointer (some ⟨bq, 0, none⟩)] rfl rfl HN6.out (by simp [Value.oneCell']) (by unfold maxLen; omega) (by omega) (by simp; omega) ?_
                        intro v' w3 hown' hg3 hnil3
                        go_frame)))
                    | fail)
                  have hrg6 := (hrg5.alloc (.cells #[.pointer (some ⟨bq, 0, none⟩)] 52)).kept hg3 (row_ne_low HR6.out (by have := HMl.out; have := HWq.out; have := HW.out; omega)) (row_ne_iter HR6.out (hrg5.alloc _))
                  go_roundw
                  case rel => exact ⟨_, cnt2, qs' ++ [p ++ [x]], hrg6, HLf2, HM5, hid0 (by unfold OwnP; rw [List.map_append, List.length_append]; simp only [List.map_cons, List.map_nil, HBq.out, List.length_cons, List.length_nil, Nat.zero_add]; exact hown'), hid0 ((HT5.out.past ((Below.refl _ _).alloc (Nat.le_refl _) _)).grown hg3 (fun j e => by have := (World.ownsRow.lt HR6.out j e).1; have := HWq.out; omega) HW.out), hid0 ((HZ5.out.trans (Only.alloc _ _ (fun _ => False)) (fun _ q => nomatch q)).trans (T := fun b => wz.heap.size ≤ b) ⟨hg3.os, hg3.tape, hg3.output, hg3.size, fun k hk hn => hg3.block k hk (fun e => hn (World.ownsRow.lt HR6.out k e.symm).1)⟩ (fun _ q => .inr q))⟩
                  case measure => rw [hrg6.left_eq, hrg.left_eq]; exact hlt2
                | true =>
                  have HT5 : Hid (Lk w (((w2.setCell ⟨bq, 4, none⟩ (.pointer (some ⟨bs, 0, none⟩))).setCell ⟨bq, 5, none⟩ (.pointer aI)).setCell ⟨bq, 5, none⟩ (.pointer (some ⟨bs, 0, none⟩))) lo hi T N E bk mp d (qs' ++ [p ++ [x]])) := hid0 (HKW.out.yes rfl)
                  have HQ5 : Hid (OwnP (((w2.setCell ⟨bq, 4, none⟩ (.pointer (some ⟨bs, 0, none⟩))).setCell ⟨bq, 5, none⟩ (.pointer aI)).setCell ⟨bq, 5, none⟩ (.pointer (some ⟨bs, 0, none⟩))) wz.heap.size bk u3 qs') := hid0 (HQ4.out.keep (hi := hi) (by have := HWq.out; have := HW.out; omega) (fun k hk => by rw [setCell_block_ne (by have := HLo.out; omega), setCell_block_ne (by have := HLo.out; omega), setCell_block_ne (by have := HLo.out; omega)]))
                  have HZ5 : Hid (Only wz (((w2.setCell ⟨bq, 4, none⟩ (.pointer (some ⟨bs, 0, none⟩))).setCell ⟨bq, 5, none⟩ (.pointer aI)).setCell ⟨bq, 5, none⟩ (.pointer (some ⟨bs, 0, none⟩))) (fun b => lo ≤ b ∧ b < hi)) := hid0 (HZ4.out.trans (((Only.setCell _ _ _ _).trans (Only.setCell _ _ _ _) (fun i hi => .inl hi)).trans (Only.setCell _ _ _ _) (fun i hi => .inl hi)) (fun i hi => .inl (by rw [hi]; exact HLo.out)))
                  have hrg5 : ((((w2.setCell ⟨bq, 4, none⟩ (.pointer (some ⟨bs, 0, none⟩))).setCell ⟨bq, 5, none⟩ (.pointer aI)).setCell ⟨bq, 5, none⟩ (.pointer (some ⟨bs, 0, none⟩)))).ranges Tryd.prog 3 ptrElem m wq.heap.size N D (fun z => left z && !z.sameKey (keyI x)) cnt2 := ((hrg2.kept (grown_set _ _ _ _) nm nr).kept (grown_set _ _ _ _) nm nr).kept (grown_set _ _ _ _) nm nr
                  have HR6 : Hid (OwnP ((((w2.setCell ⟨bq, 4, none⟩ (.pointer (some ⟨bs, 0, none⟩))).setCell ⟨bq, 5, none⟩ (.pointer aI)).setCell ⟨bq, 5, none⟩ (.pointer (some ⟨bs, 0, none⟩))).alloc (.cells #[.pointer (some ⟨bq, 0, none⟩)] 52)) wz.heap.size bk u3 qs') := hid0 (World.ownsRow.alloc HQ5.out _)
                  have HN6 : Hid (∀ j u, [Value.pointer (some ⟨bq, 0, none⟩)][j]? = some u → ((((w2.setCell ⟨bq, 4, none⟩ (.pointer (some ⟨bs, 0, none⟩))).setCell ⟨bq, 5, none⟩ (.pointer aI)).setCell ⟨bq, 5, none⟩ (.pointer (some ⟨bs, 0, none⟩))).alloc (.cells #[.pointer (some ⟨bq, 0, none⟩)] 52)).cell? ((⟨w2.heap.size, 0, none⟩ : Addr).add j) = some u) := hid0 (by
                    have h := cell_one_new (((w2.setCell ⟨bq, 4, none⟩ (.pointer (some ⟨bs, 0, none⟩))).setCell ⟨bq, 5, none⟩ (.pointer aI)).setCell ⟨bq, 5, none⟩ (.pointer (some ⟨bs, 0, none⟩))) (.pointer (some ⟨bq, 0, none⟩)) 52
                    rw [show ((((w2.setCell ⟨bq, 4, none⟩ (.pointer (some ⟨bs, 0, none⟩))).setCell ⟨bq, 5, none⟩ (.pointer aI)).setCell ⟨bq, 5, none⟩ (.pointer (some ⟨bs, 0, none⟩)))).heap.size = w2.heap.size by simp [World.setCell]] at h
                    exact h)
                  have hle := HLe.out
                  have hszz := HZ4.out.size
                  clear hrg2 HQ5
                  go_wp2_with (first
                    | (go_at_call 22; go_loud ((
                        refine HST.out.mono ?_
                        rintro e w3 ⟨rfl, hw⟩
                        have hw := hw.symm
                        subst hw)))
                    | (at_builtin; go_loud ((
                        refine wpList_append_own _ rfl _ _ 67 rfl wz.heap.size 52 i0 (.pointer none) 1 8 Tryd.underlying67 hi0 hz0 hz1 hz2 rfl (by decide) u3 qs'.length (qs'.map fun p => Value.pointer (some ⟨bk p, 0, none⟩)) rfl HR6.out ⟨w2.heap.size, 0, none⟩ 1 1 [.pointer (some ⟨bq, 0, none⟩)] rfl rfl HN6.out (by simp [Value.oneCell']) (by unfold maxLen; omega) (by omega) (by simp; omega) ?_
                        intro v' w3 hown' hg3 hnil3
                        go_frame)))
                    | fail)
                  have hrg6 := (hrg5.alloc (.cells #[.pointer (some ⟨bq, 0, none⟩)] 52)).kept hg3 (row_ne_low HR6.out (by have := HMl.out; have := HWq.out; have := HW.out; omega)) (row_ne_iter HR6.out (hrg5.alloc _))
                  go_roundw
                  case rel => exact ⟨_, cnt2, qs' ++ [p ++ [x]], hrg6, HLf2, HM5, hid0 (by unfold OwnP; rw [List.map_append, List.length_append]; simp only [List.map_cons, List.map_nil, HBq.out, List.length_cons, List.length_nil, Nat.zero_add]; exact hown'), hid0 ((HT5.out.past ((Below.refl _ _).alloc (Nat.le_refl _) _)).grown hg3 (fun j e => by have := (World.ownsRow.lt HR6.out j e).1; have := HWq.out; omega) HW.out), hid0 ((HZ5.out.trans (Only.alloc _ _ (fun _ => False)) (fun _ q => nomatch q)).trans (T := fun b => wz.heap.size ≤ b) ⟨hg3.os, hg3.tape, hg3.output, hg3.size, fun k hk hn => hg3.block k hk (fun e => hn (World.ownsRow.lt HR6.out k e.symm).1)⟩ (fun _ q => .inr q))⟩
                  case measure => rw [hrg6.left_eq, hrg.left_eq]; exact hlt2
        · have hkI : ¬ (k : Int) < (ps.length : Int) := by omega
          have HN2 : Hid (Lev (begB E) (d + 1) qs) := hid0 (mid_end HT2.out.tr.cl (by have := HM.out; rw [show k = ps.length by omega] at this; exact this) HV.out)
          go_wp2
          go_roundg (40 - (d + 1))
          case measure => have := HK.out; have := HD.out; omega
          case rel => exact ⟨d + 1, qs, hid0 (by have := HD.out; omega), HN2, hid0 (owns_lower HQ.out (by have := HG.out; omega)), hid0 (HT2.out.next HN2.out)⟩
end Go.Proofs.YtbmoeoinhlkmbaaDoor
namespace Go.Proofs.YtbmoeoinhlkmbaaDoor
open Go.RowKit Go.Shelf Go.Lib Go.Maps
/-- The first refusal of entries, those ahead of them being good. -/
def nwK (dn : List (List Int)) : List (List Int) → Option Nat
  | [] => none
  | e :: r =>
    match chkN e with
    | some k => some k
    | none => if e ∈ dn then some 4 else nwK (dn ++ [e]) r
def newE (L : List (List Int)) : Option Nat := if L.length > 2000 then some 2 else nwK [] L
theorem nsB_in {c : Int} (h : nsB c = false) : inI c := by
  simp [nsB] at h
  simp [inI, Lit.wf, IntKind.min, IntKind.max, IntKind.bits, IntKind.signed]
  omega
theorem chkN_none {e : List Int} (h : chkN e = none) : e ≠ [] ∧ e.length ≤ 32 ∧ ∀ c ∈ e, inI c := by
  unfold chkN at h
  split at h
  · cases h
  · rename_i h1
    split at h
    · cases h
    · rename_i h2
      simp only [Bool.or_eq_true, not_or, Bool.not_eq_true] at h1
      refine ⟨fun e0 => by rw [e0] at h1; simp at h1, by omega, fun c hc => nsB_in ?_⟩
      cases hq : nsB c with
      | false => rfl
      | true => rw [List.any_eq_true.2 ⟨c, hc, hq⟩] at h1; cases h1.2
/-- Entries that may be one trie's. -/
structure Good (E : List (List Int)) : Prop where
  chk : ∀ e ∈ E, chkN e = none
  nd : E.Nodup
section
variable {E : List (List Int)}
theorem Good.ne (h : Good E) : [] ∉ E := fun hm => (chkN_none (h.chk _ hm)).1 rfl
theorem Good.len (h : Good E) : ∀ e ∈ E, e.length ≤ 32 := fun e he => (chkN_none (h.chk e he)).2.1
theorem Good.inI (h : Good E) : ∀ p c, begB E (p ++ [c]) = true → inI c := fun p c hc => by
  rcases begB_iff.1 hc with hq | ⟨e, he, hp⟩
  · simp at hq
  · exact (chkN_none (h.chk e he)).2.2 c (hp.subset (by simp))
theorem good_nil : Good [] := ⟨(fun _ h => nomatch h), List.nodup_nil⟩
theorem Good.snoc (h : Good E) {e : List Int} (hc : chkN e = none) (he : e ∉ E) : Good (E ++ [e]) := ⟨fun x hx => by
  rcases List.mem_append.1 hx with hx | hx
  · exact h.chk x hx
  · rw [List.mem_singleton.1 hx]; exact hc, List.nodup_append.2 ⟨h.nd, by simp, fun a ha b hb e1 => he (by rw [List.mem_singleton.1 hb] at e1; rw [← e1]; exact ha)⟩⟩
end
theorem nwK_step {L : List (List Int)} {k : Nat} (hk : k < L.length) : nwK (L.take k) (L.drop k) = match chkN L[k] with
    | some j => some j
    | none => if L[k] ∈ L.take k then some 4 else nwK (L.take (k + 1)) (L.drop (k + 1)) := by
  rw [List.drop_eq_getElem_cons hk, nwK, show L.take (k + 1) = L.take k ++ [L[k]] by rw [List.take_add_one, List.getElem?_eq_getElem hk]; rfl]
/-- A trie of entries. -/
def TrieAt (w : World) (lo hi T : Nat) (E : List (List Int)) (bk : List Int → Nat) (mp : List Int → Option Nat) : Prop := Tr w lo hi T (szK E E.length) (begB E) bk mp (whE E) (enE E) (fun q => (shF (begB E) q).map bk) (fun q => (inF E q).map bk)
/-- What New answers. -/
def NewR (w : World) (L : List (List Int)) (A : Nat → Addr) (r : Ending) (w' : World) : Prop :=
  Below w.heap.size w w' ∧ ((∃ k, newE L = some k ∧ r = .returned (.tuple #[.pointer none, .iface 70 (.pointer (some (A k)))])) ∨ (newE L = none ∧ Good L ∧ ∃ T hi bk mp, r = .returned (.tuple #[.pointer (some ⟨T, 0, none⟩), .nilIface]) ∧ TrieAt w' w.heap.size hi T L bk mp))
theorem bt_new (w : World) : Bt (w.alloc (.cells #[.map none, .int .i64 0, .bool false, .int .i64 0, .pointer none, .pointer none, .int .i64 0] 56)) w.heap.size (w.heap.size + 1) w.heap.size 0 (begB []) [] (fun _ => w.heap.size) (fun _ => none) := by
  have hb : ∀ q, begB [] q = true → q = [] := fun q hq => by
    rcases begB_iff.1 hq with h | ⟨e, he, _⟩
    · exact h
    · cases he
  exact {
    rt := rfl
    rb := rfl
    cl := fun p c h => begB_front h
    nd := fun p hp => by
      rw [hb p hp]
      exact ⟨[.int .i64 0], _, heap_alloc_new _ _⟩
    lh := fun p _ => ⟨Nat.le_refl _, Nat.lt_succ_self _⟩
    inj := fun p q hp hq _ => by rw [hb p hp, hb q hq]
    mm := fun p m _ h => by cases h
    ml := fun p m _ h => by cases h
    mi := fun p q m _ _ h => by cases h
    mn := fun p hp _ c => by
      cases hq : begB [] (p ++ [c]) with
      | false => rfl
      | true =>
        have := hb _ hq
        simp at this
    be := by
      rw [cell_of_row _ _ _ _ _ _ (heap_alloc_new _ _)]
      rfl
    hs := by simp }
theorem szK_take {L : List (List Int)} {k : Nat} (hk : k < L.length) : szK L (k + 1) = szK L k + newC (L.take k) L[k] L[k].length := by
  simp only [szK, List.getD_eq_getElem?_getD, List.getElem?_eq_getElem hk, Option.getD_some]
theorem szK_front (L : List (List Int)) (k j : Nat) (h : j ≤ k) : szK (L.take k) j = szK L j := by
  induction j with
  | zero => rfl
  | succ j ih =>
    simp only [szK]
    rw [ih (by omega), List.take_take, Nat.min_eq_left (by omega), List.getD_eq_getElem?_getD, List.getElem?_take_of_lt (by omega), List.getD_eq_getElem?_getD]
end Go.Proofs.YtbmoeoinhlkmbaaDoor
namespace Go.Proofs.YtbmoeoinhlkmbaaDoor
open Go.RowKit Go.Shelf Go.Lib Go.Maps
set_option maxRecDepth 10000 in
set_option maxHeartbeats 1600000 in
theorem new_any (A : Nat → Addr) (L : List (List Int)) (a : Option Addr) (ca : Nat) (w : World) (ha : RwA w a L) (hs : Se3 w A) (hl : ∀ e ∈ L, e.length ≤ 1125899906842624) :
    Calls Tryd.prog 6 #[.slice a L.length ca] w fun r w' => NewR w L A r w' := by
  by_cases h2 : (L.length : Int) > 2000
  · have s2 := hs.c2
    have HR : Hid (∀ n, NewR w L A (.returned (.tuple #[.pointer none, .iface 70 (.pointer (some (A 2)))])) (w.drewN n)) := hid0 (fun n => ⟨⟨rfl, rfl, rfl, Nat.le_refl _, fun _ _ => rfl⟩, .inl ⟨2, by unfold newE; rw [if_pos (by omega)], rfl⟩⟩)
    clear ha hs hl
    go_enter Tryd.func6, Tryd.ntmps6
    go_upto_region 2 with (fail)
    go_quiet (fail)
    go_wp2
    go_returns
    exact HR.out _
  · have HA := hid0 ha
    have HS := hid0 hs
    have HL := hid0 hl
    have hL2 : L.length ≤ 2000 := by omega
    have HB0 := hid0 (bt_new w)
    have HNE : Hid (nwK [] L = newE L) := hid0 (by unfold newE; rw [if_neg (by omega)])
    clear ha hs hl
    go_enter Tryd.func6, Tryd.ntmps6
    go_wp2
    go_loopw [17] (fun i wr => ∃ (k hi : Nat) (bk : List Int → Nat) (mp : List Int → Option Nat), k ≤ L.length ∧ i = .int .i64 (k : Int) ∧ Hid (Bt wr w.heap.size hi w.heap.size (szK L k) (begB (L.take k)) (L.take k) bk mp) ∧ Hid (Good (L.take k)) ∧ Hid (nwK (L.take k) (L.drop k) = newE L) ∧ Hid (Below w.heap.size w wr)) (fun i _ => L.length - (intOf i).toNat)
    case atStart => exact ⟨0, _, _, _, Nat.zero_le _, rfl, HB0, hid0 good_nil, HNE, hid0 ((Below.refl _ _).alloc (Nat.le_refl _) _)⟩
    case round =>
      obtain ⟨k, hi, bk, mp, hk, rfl, HB, HG, HE, HW⟩ := hrel
      clear HB0 HNE
      by_cases hlt : k < L.length
      · obtain ⟨b, off, rfl, hbl, a1, c1, hc1, hia⟩ := (HA.out.past HW.out).at' k hlt
        have hkI : (k : Int) < (L.length : Int) := by omega
        have hkI0 : (0 : Int) ≤ (k : Int) := by omega
        have HSt := hid0 (nwK_step hlt)
        have HTk : Hid (L.take (k + 1) = L.take k ++ [L[k]]) := hid0 (by rw [List.take_add_one, List.getElem?_eq_getElem hlt]; rfl)
        have HZ := hid0 (szK_take hlt)
        have HC := hid0 (checkEntry_any A L[k] a1 c1 wr (HL.out _ (List.getElem_mem hlt)) hia (HS.out.past HW.out))
        have HI := hid0 hia
        have HN : Hid (szK L k ≤ 900000) := hid0 (by
          have h1 := szK_le HG.out.len k
          rw [szK_front L k k (Nat.le_refl _)] at h1
          omega)
        have HIw : Hid (∀ V : World, Below w.heap.size wr V → IA V a1 L[k]) := hid0 (fun V hV => by
          obtain ⟨b', off', e', _, a1', c1', hc1', hia'⟩ := (HA.out.past (HW.out.trans hV)).at' k hlt
          injection e' with e'
          injection e' with e1 e2
          subst e1 e2
          obtain ⟨b2, off2, e2, hb2, a2, c2, hc2, hia2⟩ := HA.out.at' k hlt
          injection e2 with e2
          injection e2 with e1 e2
          subst e1 e2
          have hx1 := ((HW.out.trans hV).cell (p := ⟨b, off + k, none⟩) hb2).trans hc2
          have hx2 := (HW.out.cell (p := ⟨b, off + k, none⟩) hb2).trans hc2
          rw [hc1'] at hx1
          rw [hc1] at hx2
          injection hx1 with hx1
          injection hx2 with hx2
          injection hx1 with hx1
          injection hx2 with hx2
          rw [hx2, ← hx1]
          exact hia')
        clear hia
        have HLe : Hid ((L.take k).length = k) := hid0 (by rw [List.length_take]; omega)
        generalize L[k] = e at *
        cases hq : chkN e with
        | some j =>
          rw [hq, show erO A (some j) = .iface 70 (.pointer (some (A j))) from rfl] at HC
          have HR : Hid (NewR w L A (.returned (.tuple #[.pointer none, .iface 70 (.pointer (some (A j)))])) wr) := hid0 ⟨HW.out, .inl ⟨j, by rw [← HE.out, HSt.out, hq], rfl⟩⟩
          clear hq HB HI HIw HTk HZ HN HLe HG HSt HE
          go_wp2_with (first
            | (go_at_call 18; go_loud ((
                refine HC.out.mono ?_
                rintro r w1 ⟨rfl, hw⟩
                have hw := hw.symm
                subst hw)))
            | fail)
          go_returns
          exact HR.out
        | none =>
          rw [hq, show erO A none = .nilIface from rfl] at HC
          have HAd : Hid (Calls Tryd.prog 19 #[.pointer (some ⟨w.heap.size, 0, none⟩), .int .i64 (k : Int), .slice a1 e.length c1] wr fun r w' => AddR wr w.heap.size w.heap.size (szK L k) (L.take k) e A r w') := hid0 (by
            have h := add_any (E := L.take k) A e a1 c1 HB.out HIw.out (fun V hV => HS.out.past (HW.out.trans hV)) (chkN_none hq).2.2 (chkN_none hq).2.1 HN.out
            rw [HLe.out] at h
            exact h)
          by_cases he : e ∈ L.take k
          · have HR : Hid (∀ V : World, Below w.heap.size wr V → NewR w L A (.returned (.tuple #[.pointer none, .iface 70 (.pointer (some (A 4)))])) V) := hid0 (fun V hV => ⟨HW.out.trans hV, .inl ⟨4, by rw [← HE.out, HSt.out, hq]; simp only [if_pos he], rfl⟩⟩)
            have HEe := hid0 he
            clear hq HB HI HIw HTk HZ HN HLe HG HSt HE he
            go_wp2_with (first
              | (go_at_call 18; go_loud ((
                  refine HC.out.mono ?_
                  rintro r w1 ⟨rfl, hw⟩
                  have hw := hw.symm
                  subst hw)))
              | (go_at_call 19; go_loud ((
                  refine HAd.out.mono ?_
                  rintro r w1 ⟨hb1, hr1⟩
                  have HB1 := hid0 hb1
                  have hr2 : r = .returned (.iface 70 (.pointer (some (A 4)))) := by
                    rcases hr1 with ⟨_, h⟩ | ⟨h, _⟩
                    · exact h
                    · exact absurd HEe.out h
                  subst hr2
                  clear hb1 hr1)))
              | fail)
            go_returns
            exact HR.out _ HB1.out
          · have HEe := hid0 he
            have HG2 : Hid (Good (L.take (k + 1))) := hid0 (by rw [HTk.out]; exact HG.out.snoc hq he)
            have HE2 : Hid (nwK (L.take (k + 1)) (L.drop (k + 1)) = newE L) := hid0 (by
              have h := HSt.out
              rw [hq] at h
              simp only [if_neg he] at h
              rw [← h]
              exact HE.out)
            clear hq HB HI HIw HN HLe HG HSt HE he
            go_wp2_with (first
              | (go_at_call 18; go_loud ((
                  refine HC.out.mono ?_
                  rintro r w1 ⟨rfl, hw⟩
                  have hw := hw.symm
                  subst hw)))
              | (go_at_call 19; go_loud ((
                  refine HAd.out.mono ?_
                  rintro r w1 ⟨hb1, hr1⟩
                  have HB1 := hid0 hb1
                  obtain ⟨hr2, bk2, mp2, hbt⟩ : r = .returned .nilIface ∧ ∃ bk mp, Bt w1 w.heap.size w1.heap.size w.heap.size (szK L k + newC (L.take k) e e.length) (begB (L.take k ++ [e])) (L.take k ++ [e]) bk mp := by
                    rcases hr1 with ⟨h, _⟩ | ⟨_, h⟩
                    · exact absurd h HEe.out
                    · exact h
                  have HBt := hid0 hbt
                  subst hr2
                  clear hb1 hr1 hbt)))
              | fail)
            go_roundw
            case rel => exact ⟨k + 1, _, bk2, mp2, hlt, by go_num, hid0 (by rw [HTk.out, HZ.out]; exact HBt.out), HG2, HE2, hid0 (HW.out.trans HB1.out)⟩
            case measure => simp [intOf]; omega
      · have hkI : ¬ (k : Int) < (L.length : Int) := by omega
        have hke : k = L.length := by omega
        have HG3 : Hid (Good L) := hid0 (by have h := HG.out; rw [hke, List.take_length] at h; exact h)
        have HB3 : Hid (Bt wr w.heap.size hi w.heap.size (szK L L.length) (begB L) L bk mp) := hid0 (by have h := HB.out; rw [hke, List.take_length] at h; exact h)
        have HE3 : Hid (newE L = none) := hid0 (by rw [← HE.out, hke, List.drop_length]; rfl)
        have HLk := hid0 (link_any HB3.out HG3.out.ne HG3.out.len HG3.out.inI hL2 (by have := szK_le HG3.out.len L.length; omega))
        have HLo : Hid (w.heap.size ≤ wr.heap.size) := hid0 HW.out.size
        clear hke HB HG HE
        go_wp2_with (first
          | (go_at_call 20; go_loud ((
              refine HLk.out.mono ?_
              rintro r w1 ⟨⟨v1, rfl⟩, ht1, ho1⟩
              have HT1 := hid0 ht1
              have HO1 := hid0 ho1
              clear ht1 ho1)))
          | fail)
        go_returns
        exact ⟨HW.out.trans (HO1.out.below HLo.out (fun i hi => hi.1)), .inr ⟨HE3.out, HG3.out, w.heap.size, hi, bk, mp, rfl, HT1.out⟩⟩
end Go.Proofs.YtbmoeoinhlkmbaaDoor
namespace Go.Proofs.YtbmoeoinhlkmbaaDoor
open Go.RowKit Go.Shelf Go.Lib Go.Maps
attribute [local go_sem] Oper.semAt_some
/-- What the links lead through, from a node or none on. -/
def endsO (E : List (List Int)) : Option (List Int) → List (List Int)
  | none => []
  | some q => q :: endsF E q.tail
theorem endsO_in {E : List (List Int)} (p : List Int) : endsO E (inF E p) = endsF E p.tail := by
  unfold inF
  cases h : endsF E p.tail with
  | nil => rfl
  | cons e r =>
    show e :: endsF E e.tail = e :: r
    rw [ends_cons h]
theorem inF_mem {E : List (List Int)} {p q : List Int} (h : inF E p = some q) : q ∈ E := (ends_head_mem h).1
theorem endsF_in {E : List (List Int)} (hn : [] ∉ E) (p : List Int) : endsF E p = endsO E (if p ∈ E then some p else inF E p) := by
  rw [ends_self hn]
  split
  · rfl
  · rw [endsO_in]
theorem ptrNe_some (a : Addr) (w : World) : (binOp .neq 52 (.pointer (some a)) (.pointer none)).run Tryd.prog w = .ok (.bool true) w := by
  first
    | rfl
    | kernel_rfl
    | (go_simp; done)
    | simp [go_sem]
theorem ptrNe_none (w : World) : (binOp .neq 52 (.pointer none) (.pointer none)).run Tryd.prog w = .ok (.bool false) w := by
  first
    | rfl
    | kernel_rfl
    | (go_simp; done)
    | simp [go_sem]
theorem in_less (E : List (List Int)) {q : List Int} (hq : q ≠ []) : hiO (inF E q) < hiO (some q) := by
  cases h : inF E q with
  | none => simp [hiO]
  | some r =>
    have := suffix_tail_len (ends_head_mem h).2.1 hq
    simp only [hiO]
    omega
set_option maxRecDepth 100000 in
set_option maxHeartbeats 1000000 in
theorem ending_in {lo hi T : Nat} {E : List (List Int)} {bk : List Int → Nat} {mp : List Int → Option Nat} (n : Nat) (_hn : 1 ≤ n) (l : Nat) (p : List Int) (hp : begB E p = true) (hE : [] ∉ E) (J : List (List Int) → World → Prop) (w : World)
    (hJs : ∀ pre A, J pre A → TrieAt A lo hi T E bk mp)
    (hY : ∀ pre x A, J pre A → x ∈ E → (∃ r, pre ++ x :: r = endsF E p) → YieldAt Fence.wide (n - 1) Tryd.prog l #[.pointer (some ⟨bk x, 0, none⟩)] A fun e A' => e = .returned (.bool true) ∧ J (pre ++ [x]) A')
    (h0 : J [] w) :
    CallsIn Fence.wide n Tryd.prog 23 #[.pointer (some ⟨bk p, 0, none⟩), .func (.yield l) #[] #[]] w fun e w' => (∃ v, e = .returned v) ∧ J (endsF E p) w' := by
  have HJs := hid0 hJs
  have HY := hid0 hY
  have H0 := hid0 h0
  have HP := hid0 hp
  have HE := hid0 (endsF_in hE p)
  have hT := (Tr.nd (hJs _ _ h0) p hp).cells
  have c2 := hT.2.2.1
  have c5 := hT.2.2.2.2.2
  have HNE : Hid (∀ q, q ∈ E → q ≠ []) := hid0 (fun q hq e => hE (by rw [← e]; exact hq))
  clear hJs hY h0 hp hT hE
  obtain ⟨o0, ho0⟩ : ∃ o0 : Option (List Int), o0 = if p ∈ E then some p else inF E p := ⟨_, rfl⟩
  have HO0 := hid0 ho0
  refine callsIn_of_wp Tryd.func23 rfl trivial ?_ rfl
  simp only [Tryd.ntmps23, List.size_toArray, List.length_cons, List.length_nil, Nat.reduceAdd, Nat.reduceSub, Array.replicate_succ, Array.replicate_zero, List.push_toArray, List.append_toArray, List.nil_append, List.cons_append]
  cases hw : whE E p with
  | true =>
    rw [hw] at c2
    have hpe : p ∈ E := of_decide_eq_true hw
    rw [if_pos hpe] at ho0
    have HS : Hid (ptr (o0.map bk) = .pointer (some ⟨bk p, 0, none⟩)) := hid0 (by rw [ho0]; rfl)
    have HM0 : Hid (∀ q, o0 = some q → q ∈ E) := hid0 (fun q hq => by rw [ho0] at hq; injection hq with hq; rw [← hq]; exact hpe)
    clear hw hpe ho0
    have q1 := ptrNe_some
    have q2 := ptrNe_none
    gi_wp2
    gi_loopg [0] (hiO o0) (fun k v wr => ∃ (o : Option (List Int)) (pre : List (List Int)), v = ptr (o.map bk) ∧ Hid (hiO o = k) ∧ Hid (∀ q, o = some q → q ∈ E) ∧ Hid (pre ++ endsO E o = endsF E p) ∧ Hid (J pre wr))
    case atStart => exact ⟨o0, [], HS.out.symm, hid0 rfl, HM0, hid0 (by rw [List.nil_append, HE.out, HO0.out]), H0⟩
    case round =>
      obtain ⟨o, pre, hv, HK, HM, HQ, HJ⟩ := hrel
      cases o with
      | none =>
        replace hv : u0 = .pointer none := hv
        subst hv
        have HF : Hid (J (endsF E p) wr) := hid0 (by rw [← HQ.out]; simpa [endsO] using HJ.out)
        gi_wp2
        go_end0
        exact ⟨⟨_, rfl⟩, HF.out⟩
      | some q =>
        replace hv : u0 = .pointer (some ⟨bk q, 0, none⟩) := hv
        subst hv
        have hqE := HM.out q rfl
        obtain ⟨fn, tmps, assign, body, hy, hR⟩ := HY.out pre q wr HJ.out hqE ⟨_, HQ.out⟩
        have HRd := hid0 hR
        clear hR hqE
        gi_wp2
        refine HRd.out.mono ?_
        rintro e W3 ⟨rfl, hJ3⟩
        have HJ3 := hid0 hJ3
        have d5 := (Tr.nd (HJs.out _ _ hJ3) q (begB_mem (HM.out q rfl))).cells.2.2.2.2.2
        obtain ⟨v5, hv5⟩ : ∃ v5, ptr (Option.map bk (inF E q)) = v5 := ⟨_, rfl⟩
        rw [hv5] at d5
        have HV5 := hid0 hv5
        clear hJ3 hv5 hy HRd
        gi_wp2
        go_roundg (hiO (inF E q))
        case measure => rw [← HK.out]; exact in_less E (HNE.out q (HM.out q rfl))
        case rel => exact ⟨inF E q, pre ++ [q], HV5.out.symm, hid0 rfl, hid0 (fun r hr => inF_mem hr), hid0 (by rw [endsO_in, List.append_assoc]; exact HQ.out), HJ3⟩
  | false =>
    rw [hw] at c2
    have hpe : p ∉ E := of_decide_eq_false hw
    rw [if_neg hpe] at ho0
    obtain ⟨v0, hv0⟩ : ∃ v0, ptr (Option.map bk (inF E p)) = v0 := ⟨_, rfl⟩
    rw [hv0] at c5
    have HS : Hid (ptr (o0.map bk) = v0) := hid0 (by rw [ho0, hv0])
    have HM0 : Hid (∀ q, o0 = some q → q ∈ E) := hid0 (fun q hq => by rw [ho0] at hq; exact inF_mem hq)
    clear hw hpe ho0 hv0
    have q1 := ptrNe_some
    have q2 := ptrNe_none
    gi_wp2
    gi_loopg [0] (hiO o0) (fun k v wr => ∃ (o : Option (List Int)) (pre : List (List Int)), v = ptr (o.map bk) ∧ Hid (hiO o = k) ∧ Hid (∀ q, o = some q → q ∈ E) ∧ Hid (pre ++ endsO E o = endsF E p) ∧ Hid (J pre wr))
    case atStart => exact ⟨o0, [], HS.out.symm, hid0 rfl, HM0, hid0 (by rw [List.nil_append, HE.out, HO0.out]), H0⟩
    case round =>
      obtain ⟨o, pre, hv, HK, HM, HQ, HJ⟩ := hrel
      cases o with
      | none =>
        replace hv : u0 = .pointer none := hv
        subst hv
        have HF : Hid (J (endsF E p) wr) := hid0 (by rw [← HQ.out]; simpa [endsO] using HJ.out)
        gi_wp2
        go_end0
        exact ⟨⟨_, rfl⟩, HF.out⟩
      | some q =>
        replace hv : u0 = .pointer (some ⟨bk q, 0, none⟩) := hv
        subst hv
        have hqE := HM.out q rfl
        obtain ⟨fn, tmps, assign, body, hy, hR⟩ := HY.out pre q wr HJ.out hqE ⟨_, HQ.out⟩
        have HRd := hid0 hR
        clear hR hqE
        gi_wp2
        refine HRd.out.mono ?_
        rintro e W3 ⟨rfl, hJ3⟩
        have HJ3 := hid0 hJ3
        have d5 := (Tr.nd (HJs.out _ _ hJ3) q (begB_mem (HM.out q rfl))).cells.2.2.2.2.2
        obtain ⟨v5, hv5⟩ : ∃ v5, ptr (Option.map bk (inF E q)) = v5 := ⟨_, rfl⟩
        rw [hv5] at d5
        have HV5 := hid0 hv5
        clear hJ3 hv5 hy HRd
        gi_wp2
        go_roundg (hiO (inF E q))
        case measure => rw [← HK.out]; exact in_less E (HNE.out q (HM.out q rfl))
        case rel => exact ⟨inF E q, pre ++ [q], HV5.out.symm, hid0 rfl, hid0 (fun r hr => inF_mem hr), hid0 (by rw [endsO_in, List.append_assoc]; exact HQ.out), HJ3⟩
end Go.Proofs.YtbmoeoinhlkmbaaDoor
namespace Go.Proofs.YtbmoeoinhlkmbaaDoor
open Go.RowKit Go.Shelf Go.Lib Go.Maps
attribute [local go_sem] Oper.semAt_some
theorem Only.putObj (w : World) (l : Nat) (o : Obj) (S : Nat → Prop) (hl : S l) : Only w (w.putObj l o) S :=
  ⟨rfl, rfl, rfl, by simp, fun k _ hs => World.putObj_heap_other (fun e => hs (e ▸ hl))⟩
theorem Only.ofNew {w w' : World} (h : Below w.heap.size w w') (S : Nat → Prop) : Only w w' S := Only.ofBelow h S (fun i h1 h2 => by omega)
abbrev markD (d : Nat) : Deferred := { target := .collected d, args := #[] }
theorem wpIn_rangeEnds {lo hi T : Nat} {E : List (List Int)} {bk : List Int → Nat} {mp : List Int → Option Nat} {gop : Operand} {ps : Array Tmp} {assign body : Code} {Q : Exit → Act → World → Prop} {a : Act} {w : World} (n : Nat) (hn : 2 ≤ n) (p : List Int) (hp : begB E p = true) (hE : [] ∉ E)
    (hg : a.eval gop = .func (.func 23) #[.pointer (some ⟨bk p, 0, none⟩)] #[]) (hps : ps.size = 1)
    (J : List (List Int) → World → Prop) (hJk : ∀ pre A B, J pre A → Only A B (fun k => k = w.heap.size ∨ k = w.heap.size + 1) → J pre B) (hJs : ∀ pre A, J pre A → TrieAt A lo hi T E bk mp) (h0 : J [] w) (act : List Int → Act)
    (hassign : ∀ (l : Nat) (x : List Int) (W : World) (K : Act → World → Prop), K (act x) W → assign.wpIn (Fence.wide.inRound l) (n - 1 - 1) Tryd.prog (Exit.then K (fun _ _ _ => False)) { tmps := (ps.zip #[Value.pointer (some ⟨bk x, 0, none⟩)]).foldl (fun t (p, v) => t.setIfInBounds p v) a.tmps, defers := [] } W)
    (hbody : ∀ (l : Nat) (pre : List (List Int)) (x : List Int) (W : World), J pre W → x ∈ E → (∃ r, pre ++ x :: r = endsF E p) → w.heap.size + 2 ≤ W.heap.size → (W.heap[w.heap.size]? = some (.deferred (some [])) ∧ ∃ rc, W.heap[w.heap.size + 1]? = some (.loop rc)) → body.wpIn (Fence.wide.inRound l) (n - 1 - 1) Tryd.prog (fun e _ W' => e = .normal ∧ J (pre ++ [x]) W' ∧ Only W W' (fun k => k ≠ w.heap.size ∧ k ≠ w.heap.size + 1)) (act x) W)
    (hdone : ∀ W, J (endsF E p) W → W.heap[w.heap.size]? = some (.deferred (some [])) → Q .normal { a with defers := markD w.heap.size :: a.defers } W) :
    (Code.rangeFunc gop ps assign body).wpIn Fence.wide n Tryd.prog Q a w := by
  refine wpIn_rangeFunc ?_
  intro fn hfn
  obtain ⟨rec, hrec⟩ : ∃ rec : LoopState → Loop, rec = fun st => { state := st, pending := none, fn, tmps := a.tmps, params := ps, assign, body, defers := w.heap.size } := ⟨_, rfl⟩
  obtain ⟨W1, hW1⟩ : ∃ W1, (w.alloc (.deferred (some []))).alloc (.loop (rec .ready)) = W1 := ⟨_, rfl⟩
  have hs1 : W1.heap.size = w.heap.size + 2 := by rw [← hW1]; simp
  have hL1 : W1.heap[w.heap.size + 1]? = some (.loop (rec .ready)) := by
    rw [← hW1]; have := World.alloc_heap_new (w.alloc (.deferred (some []))) (.loop (rec .ready)); rwa [World.size_alloc] at this
  have hD1 : W1.heap[w.heap.size]? = some (.deferred (some [])) := by
    rw [← hW1]; exact (Below.heap_alloc _ _ _ (by simp)).trans (World.alloc_heap_new w _)
  have hb1 : Below w.heap.size w W1 := by rw [← hW1]; exact ((Below.refl _ w).alloc (Nat.le_refl _) _).alloc (by simp) _
  have hJ1 : J [] W1 := hJk _ _ _ h0 (Only.ofNew hb1 _)
  refine ⟨w.heap.size + 1, [{ target := .collected w.heap.size, args := #[] }], W1, { target := .fn (.func 23) #[], args := #[.pointer (some ⟨bk p, 0, none⟩), .func (.yield (w.heap.size + 1)) #[] #[]] }, W1, 23,
    #[.pointer (some ⟨bk p, 0, none⟩), .func (.yield (w.heap.size + 1)) #[] #[]], W1, ?_, ?_, ?_, ?_, fun _ => by omega, ?_⟩
  · rw [← hW1, hrec]; exact run_enterLoop_outer _ _ _ _ _
  · simp only [resolve, hg]
    simp [go_sem]
  · intro f' hf'; simp [Target.leads] at hf'; subst hf'; trivial
  · simp [invoke, go_sem]
  · refine (ending_in (n - 1) (by omega) (w.heap.size + 1) p hp hE
      (fun pre W => J pre W ∧ W.heap[w.heap.size + 1]? = some (.loop (rec .ready)) ∧ W.heap[w.heap.size]? = some (.deferred (some [])))
      W1 (fun pre A h => hJs pre A h.1) ?_ ⟨hJ1, hL1, hD1⟩).mono ?_
    · rintro pre x W ⟨hi, hl, hk⟩ hx hnx
      have hlt : w.heap.size + 1 < W.heap.size := (Array.getElem?_eq_some_iff.1 hl).1
      have hy := run_yield (P := Tryd.prog) (args := #[Value.pointer (some ⟨bk x, 0, none⟩)]) hl (by rw [hrec]; simp [hps])
      rw [hrec] at hy
      refine ⟨fn, _, assign, body, hy, roundIn_of_wpIn hfn (hassign _ x W _ ?_)⟩
      refine ⟨_, run_beginRound hl (by rw [hrec]), ?_⟩
      have hl2 : (W.putObj (w.heap.size + 1) (.loop { rec .ready with state := .busy })).heap[w.heap.size + 1]? = some (.loop { rec .ready with state := .busy }) := World.putObj_heap_same hlt
      have hk2 : (W.putObj (w.heap.size + 1) (.loop { rec .ready with state := .busy })).heap[w.heap.size]? = some (.deferred (some [])) := (World.putObj_heap_other (by omega)).trans hk
      refine wpIn_mono (hbody _ pre x _ (hJk _ _ _ hi (Only.putObj _ _ _ _ (.inr rfl))) hx hnx (by simp; omega) ⟨hk2, _, hl2⟩) ?_
      rintro e a3 W3 ⟨rfl, hj3, ho3⟩
      have hl3 := (ho3.block (w.heap.size + 1) (Array.getElem?_eq_some_iff.1 hl2).1 (fun q => q.2 rfl)).trans hl2
      have hk3 := (ho3.block w.heap.size (Array.getElem?_eq_some_iff.1 hk2).1 (fun q => q.1 rfl)).trans hk2
      have hr := run_endRound (P := Tryd.prog) none hl3
      rw [hrec] at hr
      refine ⟨_, _, hr, rfl, hJk _ _ _ hj3 (Only.putObj _ _ _ _ (.inr rfl)), ?_, (World.putObj_heap_other (by omega)).trans hk3⟩
      rw [hrec]
      exact World.putObj_heap_same (Array.getElem?_eq_some_iff.1 hl3).1
    · rintro e W2 ⟨⟨v, rfl⟩, hj, hl, hk⟩
      have hr := run_endLoop (P := Tryd.prog) hl (by rw [hrec]; simp)
      rw [hrec] at hr
      exact ⟨none, _, hr, hdone _ (hJk _ _ _ hj (Only.putObj _ _ _ _ (.inr rfl))) ((World.putObj_heap_other (by omega)).trans hk)⟩
set_option maxRecDepth 100000 in
set_option maxHeartbeats 1000000 in
theorem ending_first {lo hi T : Nat} {E : List (List Int)} {bk : List Int → Nat} {mp : List Int → Option Nat} (n : Nat) (_hn : 1 ≤ n) (l : Nat) (p x : List Int) (r : List (List Int)) (hp : begB E p = true) (hE : [] ∉ E) (hx : endsF E p = x :: r) (F : World → Prop) (w : World)
    (hT : TrieAt w lo hi T E bk mp) (hY : YieldAt Fence.wide (n - 1) Tryd.prog l #[.pointer (some ⟨bk x, 0, none⟩)] w fun e A' => e = .returned (.bool false) ∧ F A') :
    CallsIn Fence.wide n Tryd.prog 23 #[.pointer (some ⟨bk p, 0, none⟩), .func (.yield l) #[] #[]] w fun e w' => (∃ v, e = .returned v) ∧ F w' := by
  have HY := hid0 hY
  have hc := (Tr.nd hT p hp).cells
  have c2 := hc.2.2.1
  have c5 := hc.2.2.2.2.2
  rw [endsF_in hE p] at hx
  have q1 := ptrNe_some
  clear hT hY hc hp
  refine callsIn_of_wp Tryd.func23 rfl trivial ?_ rfl
  simp only [Tryd.ntmps23, List.size_toArray, List.length_cons, List.length_nil, Nat.reduceAdd, Nat.reduceSub, Array.replicate_succ, Array.replicate_zero, List.push_toArray, List.append_toArray, List.nil_append, List.cons_append]
  cases hw : whE E p with
  | true =>
    rw [hw] at c2
    have hpe : p ∈ E := of_decide_eq_true hw
    rw [if_pos hpe] at hx
    injection hx with hx _
    subst hx
    clear hw hpe
    gi_wp2
    gi_loopg [0] 1 (fun _ v wr => v = .pointer (some ⟨bk p, 0, none⟩) ∧ wr = w)
    case atStart => exact ⟨rfl, rfl⟩
    case round =>
      obtain ⟨rfl, rfl⟩ := hrel
      obtain ⟨fn, tmps, assign, body, hy, hR⟩ := HY.out
      have HRd := hid0 hR
      clear hR HY
      gi_wp2
      refine HRd.out.mono ?_
      rintro e W3 ⟨rfl, hF3⟩
      have HF := hid0 hF3
      clear hF3 hy HRd
      gi_wp2
      refine bodyPost_ret (results_none rfl _ _ _) rfl ?_
      exact ⟨⟨_, rfl⟩, HF.out⟩
  | false =>
    rw [hw] at c2
    have hpe : p ∉ E := of_decide_eq_false hw
    rw [if_neg hpe] at hx
    have hin : inF E p = some x := by
      cases h : inF E p with
      | none => rw [h] at hx; cases hx
      | some q =>
        rw [h] at hx
        injection hx with hx _
        rw [hx]
    rw [hin, show ptr (Option.map bk (some x)) = .pointer (some ⟨bk x, 0, none⟩) from rfl] at c5
    clear hw hpe hx hin
    gi_wp2
    gi_loopg [0] 1 (fun _ v wr => v = .pointer (some ⟨bk x, 0, none⟩) ∧ wr = w)
    case atStart => exact ⟨rfl, rfl⟩
    case round =>
      obtain ⟨rfl, rfl⟩ := hrel
      obtain ⟨fn, tmps, assign, body, hy, hR⟩ := HY.out
      have HRd := hid0 hR
      clear hR HY
      gi_wp2
      refine HRd.out.mono ?_
      rintro e W3 ⟨rfl, hF3⟩
      have HF := hid0 hF3
      clear hF3 hy HRd
      gi_wp2
      refine bodyPost_ret (results_none rfl _ _ _) rfl ?_
      exact ⟨⟨_, rfl⟩, HF.out⟩
end Go.Proofs.YtbmoeoinhlkmbaaDoor
namespace Go.Proofs.YtbmoeoinhlkmbaaDoor
open Go.RowKit Go.Shelf Go.Lib Go.Maps
attribute [local go_sem] Oper.semAt_some
theorem wpIn_rangeFirst {lo hi T : Nat} {E : List (List Int)} {bk : List Int → Nat} {mp : List Int → Option Nat} {gop : Operand} {ps : Array Tmp} {assign body : Code} {Q : Exit → Act → World → Prop} {a : Act} {w : World} (n : Nat) (hn : 2 ≤ n) (p x : List Int) (r : List (List Int)) (hx : endsF E p = x :: r) (hp : begB E p = true) (hE : [] ∉ E)
    (hg : a.eval gop = .func (.func 23) #[.pointer (some ⟨bk p, 0, none⟩)] #[]) (hps : ps.size = 1)
    (F : World → Prop) (hFk : ∀ A B, F A → Only A B (fun k => k = w.heap.size ∨ k = w.heap.size + 1) → F B) (hT : TrieAt w lo hi T E bk mp) (act : Act)
    (hassign : ∀ (l : Nat) (W : World) (K : Act → World → Prop), K act W → assign.wpIn (Fence.wide.inRound l) (n - 1 - 1) Tryd.prog (Exit.then K (fun _ _ _ => False)) { tmps := (ps.zip #[Value.pointer (some ⟨bk x, 0, none⟩)]).foldl (fun t (p, v) => t.setIfInBounds p v) a.tmps, defers := [] } W)
    (hbody : ∀ (l : Nat) (W : World), Only w W (fun k => k = w.heap.size ∨ k = w.heap.size + 1) → w.heap.size + 2 ≤ W.heap.size → body.wpIn (Fence.wide.inRound l) (n - 1 - 1) Tryd.prog (fun e _ W' => e = .ret ∧ F W' ∧ Only W W' (fun k => k ≠ w.heap.size ∧ k ≠ w.heap.size + 1)) act W)
    (hdone : ∀ W, F W → W.heap[w.heap.size]? = some (.deferred (some [])) → Q .ret { a with defers := markD w.heap.size :: a.defers } W) :
    (Code.rangeFunc gop ps assign body).wpIn Fence.wide n Tryd.prog Q a w := by
  refine wpIn_rangeFunc ?_
  intro fn hfn
  obtain ⟨rec, hrec⟩ : ∃ rec : LoopState → Loop, rec = fun st => { state := st, pending := none, fn, tmps := a.tmps, params := ps, assign, body, defers := w.heap.size } := ⟨_, rfl⟩
  obtain ⟨W1, hW1⟩ : ∃ W1, (w.alloc (.deferred (some []))).alloc (.loop (rec .ready)) = W1 := ⟨_, rfl⟩
  have hs1 : W1.heap.size = w.heap.size + 2 := by rw [← hW1]; simp
  have hL1 : W1.heap[w.heap.size + 1]? = some (.loop (rec .ready)) := by
    rw [← hW1]; have := World.alloc_heap_new (w.alloc (.deferred (some []))) (.loop (rec .ready)); rwa [World.size_alloc] at this
  have hD1 : W1.heap[w.heap.size]? = some (.deferred (some [])) := by
    rw [← hW1]; exact (Below.heap_alloc _ _ _ (by simp)).trans (World.alloc_heap_new w _)
  have hb1 : Below w.heap.size w W1 := by rw [← hW1]; exact ((Below.refl _ w).alloc (Nat.le_refl _) _).alloc (by simp) _
  have ho1 : Only w W1 (fun k => k = w.heap.size ∨ k = w.heap.size + 1) := Only.ofNew hb1 _
  refine ⟨w.heap.size + 1, [{ target := .collected w.heap.size, args := #[] }], W1, { target := .fn (.func 23) #[], args := #[.pointer (some ⟨bk p, 0, none⟩), .func (.yield (w.heap.size + 1)) #[] #[]] }, W1, 23,
    #[.pointer (some ⟨bk p, 0, none⟩), .func (.yield (w.heap.size + 1)) #[] #[]], W1, ?_, ?_, ?_, ?_, fun _ => by omega, ?_⟩
  · rw [← hW1, hrec]; exact run_enterLoop_outer _ _ _ _ _
  · simp only [resolve, hg]
    simp [go_sem]
  · intro f' hf'; simp [Target.leads] at hf'; subst hf'; trivial
  · simp [invoke, go_sem]
  · refine (ending_first (n - 1) (by omega) (w.heap.size + 1) p x r hp hE hx
      (fun W => F W ∧ (∃ rc, W.heap[w.heap.size + 1]? = some (.loop rc) ∧ rc.state = .done ∧ rc.pending = some .ret) ∧ W.heap[w.heap.size]? = some (.deferred (some [])))
      W1 (Tr.past hT hb1) ?_).mono ?_
    · have hlt : w.heap.size + 1 < W1.heap.size := by omega
      have hy := run_yield (P := Tryd.prog) (args := #[Value.pointer (some ⟨bk x, 0, none⟩)]) hL1 (by rw [hrec]; simp [hps])
      rw [hrec] at hy
      refine ⟨fn, _, assign, body, hy, roundIn_of_wpIn hfn (hassign _ W1 _ ?_)⟩
      refine ⟨_, run_beginRound hL1 (by rw [hrec]), ?_⟩
      have hl2 : (W1.putObj (w.heap.size + 1) (.loop { rec .ready with state := .busy })).heap[w.heap.size + 1]? = some (.loop { rec .ready with state := .busy }) := World.putObj_heap_same hlt
      have hk2 : (W1.putObj (w.heap.size + 1) (.loop { rec .ready with state := .busy })).heap[w.heap.size]? = some (.deferred (some [])) := (World.putObj_heap_other (by omega)).trans hD1
      refine wpIn_mono (hbody _ _ (ho1.trans (Only.putObj _ _ _ (fun k => k = w.heap.size ∨ k = w.heap.size + 1) (.inr rfl)) (fun i hi => .inl hi)) (by simp; omega)) ?_
      rintro e a3 W3 ⟨rfl, hj3, ho3⟩
      have hl3 := (ho3.block (w.heap.size + 1) (Array.getElem?_eq_some_iff.1 hl2).1 (fun q => q.2 rfl)).trans hl2
      have hk3 := (ho3.block w.heap.size (Array.getElem?_eq_some_iff.1 hk2).1 (fun q => q.1 rfl)).trans hk2
      have hr := run_endRound (P := Tryd.prog) (some .ret) hl3
      refine ⟨_, _, hr, rfl, hFk _ _ hj3 (Only.putObj _ _ _ _ (.inr rfl)), ⟨_, World.putObj_heap_same (Array.getElem?_eq_some_iff.1 hl3).1, rfl, rfl⟩, (World.putObj_heap_other (by omega)).trans hk3⟩
    · rintro e W2 ⟨⟨v, rfl⟩, hj, ⟨rc, hl, hst, hpd⟩, hk⟩
      have hr := run_endLoop (P := Tryd.prog) hl (by rw [hst]; simp)
      rw [hpd] at hr
      exact ⟨some .ret, _, hr, wpIn_ret (hdone _ (hFk _ _ hj (Only.putObj _ _ _ _ (.inr rfl))) ((World.putObj_heap_other (by omega)).trans hk))⟩
/-- An activation in whose slots p and q a node is put. -/
def actP (a : Act) (p q b : Nat) : Act := { tmps := (a.tmps.setIfInBounds p (.pointer (some ⟨b, 0, none⟩))).setIfInBounds q (.pointer (some ⟨b, 0, none⟩)), defers := [] }
theorem wpIn_rangeEnds' {lo hi T : Nat} {E : List (List Int)} {bk : List Int → Nat} {mp : List Int → Option Nat} {gop : Operand} {s : Tmp} {assign body : Code} {Q : Exit → Act → World → Prop} {a : Act} {w : World} (q n : Nat) (hn : 2 ≤ n) (p : List Int) (hp : begB E p = true) (hE : [] ∉ E)
    (hg : a.eval gop = .func (.func 23) #[.pointer (some ⟨bk p, 0, none⟩)] #[])
    (J : List (List Int) → World → Prop) (hJk : ∀ pre A B, J pre A → Only A B (fun k => k = w.heap.size ∨ k = w.heap.size + 1) → J pre B) (hJs : ∀ pre A, J pre A → TrieAt A lo hi T E bk mp) (h0 : J [] w)
    (hassign : ∀ (l b : Nat) (W : World) (K : Act → World → Prop), K (actP a s q b) W → assign.wpIn (Fence.wide.inRound l) (n - 1 - 1) Tryd.prog (Exit.then K (fun _ _ _ => False)) { tmps := a.tmps.setIfInBounds s (.pointer (some ⟨b, 0, none⟩)), defers := [] } W)
    (hbody : ∀ (l : Nat) (pre : List (List Int)) (x : List Int) (W : World), J pre W → x ∈ E → (∃ r, pre ++ x :: r = endsF E p) → w.heap.size + 2 ≤ W.heap.size → (W.heap[w.heap.size]? = some (.deferred (some [])) ∧ ∃ rc, W.heap[w.heap.size + 1]? = some (.loop rc)) → body.wpIn (Fence.wide.inRound l) (n - 1 - 1) Tryd.prog (fun e _ W' => e = .normal ∧ J (pre ++ [x]) W' ∧ Only W W' (fun k => k ≠ w.heap.size ∧ k ≠ w.heap.size + 1)) (actP a s q (bk x)) W)
    (hdone : ∀ W, J (endsF E p) W → W.heap[w.heap.size]? = some (.deferred (some [])) → Q .normal { a with defers := markD w.heap.size :: a.defers } W) :
    (Code.rangeFunc gop #[s] assign body).wpIn Fence.wide n Tryd.prog Q a w :=
  wpIn_rangeEnds n hn p hp hE hg rfl J hJk hJs h0 (fun x => actP a s q (bk x)) (fun l x W K hK => by simpa using hassign l (bk x) W K hK) hbody hdone
theorem wpIn_rangeFirst' {lo hi T : Nat} {E : List (List Int)} {bk : List Int → Nat} {mp : List Int → Option Nat} {gop : Operand} {s : Tmp} {assign body : Code} {Q : Exit → Act → World → Prop} {a : Act} {w : World} (q n : Nat) (hn : 2 ≤ n) (p x : List Int) (r : List (List Int)) (hx : endsF E p = x :: r) (hp : begB E p = true) (hE : [] ∉ E)
    (hg : a.eval gop = .func (.func 23) #[.pointer (some ⟨bk p, 0, none⟩)] #[])
    (F : World → Prop) (hFk : ∀ A B, F A → Only A B (fun k => k = w.heap.size ∨ k = w.heap.size + 1) → F B) (hT : TrieAt w lo hi T E bk mp)
    (hassign : ∀ (l b : Nat) (W : World) (K : Act → World → Prop), K (actP a s q b) W → assign.wpIn (Fence.wide.inRound l) (n - 1 - 1) Tryd.prog (Exit.then K (fun _ _ _ => False)) { tmps := a.tmps.setIfInBounds s (.pointer (some ⟨b, 0, none⟩)), defers := [] } W)
    (hbody : ∀ (l : Nat) (W : World), Only w W (fun k => k = w.heap.size ∨ k = w.heap.size + 1) → w.heap.size + 2 ≤ W.heap.size → body.wpIn (Fence.wide.inRound l) (n - 1 - 1) Tryd.prog (fun e _ W' => e = .ret ∧ F W' ∧ Only W W' (fun k => k ≠ w.heap.size ∧ k ≠ w.heap.size + 1)) (actP a s q (bk x)) W)
    (hdone : ∀ W, F W → W.heap[w.heap.size]? = some (.deferred (some [])) → Q .ret { a with defers := markD w.heap.size :: a.defers } W) :
    (Code.rangeFunc gop #[s] assign body).wpIn Fence.wide n Tryd.prog Q a w :=
  wpIn_rangeFirst n hn p x r hx hp hE hg rfl F hFk hT (actP a s q (bk x)) (fun l W K hK => by simpa using hassign l (bk x) W K hK) hbody hdone
/-- A frame that leaves with marks of loops: their blocks are shut. -/
theorem leaves_marks {n : Nat} {fn : Func} {tmps : Array Value} {R : Ending → World → Prop} (B : Nat) : ∀ (ds : List Nat) (w : World), (∀ d ∈ ds, B ≤ d ∧ w.heap[d]? = some (.deferred (some []))) → ds.Nodup →
    (∀ W, Only w W (fun k => k ∈ ds) → LeavesInM Fence.wide n Tryd.prog fn tmps R [] .returning W) → LeavesInM Fence.wide n Tryd.prog fn tmps R (ds.map markD) .returning w
  | [], w, _, _, h => h w (Only.refl _ _)
  | d :: ds, w, hd, hn, h => by
    obtain ⟨hdn, hn'⟩ := List.nodup_cons.1 hn
    refine ⟨by simp, .inl ⟨d, _, rfl, run_takeDeferred (hd d (.head _)).2, ?_⟩⟩
    refine leaves_marks B ds _ (fun x hx => ⟨(hd x (.tail _ hx)).1, (World.putObj_heap_other (fun e => hdn (by rw [← e]; exact hx))).trans (hd x (.tail _ hx)).2⟩) hn' (fun W hW => h W ?_)
    exact (Only.putObj w d _ (fun k => k ∈ d :: ds) (.head _)).trans hW (fun i hi => .inl (.tail _ hi))
end Go.Proofs.YtbmoeoinhlkmbaaDoor
namespace Go.Proofs.YtbmoeoinhlkmbaaDoor
open Go.RowKit Go.Shelf Go.Lib Go.Maps
/-- The longest beginning of a list, of up to so many numbers, that is an entry. -/
def lpK (E : List (List Int)) (l : List Int) : Nat → Option (List Int)
  | 0 => none
  | k + 1 => if l.take (k + 1) ∈ E then some (l.take (k + 1)) else lpK E l k
def onN (E : List (List Int)) : Option (List Int) → Int
  | none => 0
  | some e => (numF E e : Int)
theorem lpK_stop {E : List (List Int)} {l : List Int} {k : Nat} (h : begB E (l.take (k + 1)) = false) : ∀ d, lpK E l (k + d) = lpK E l k
  | 0 => rfl
  | d + 1 => by
    have hn : l.take (k + d + 1) ∉ E := fun hm => by
      have : begB E (l.take (k + 1)) = true := begB_iff.2 (.inr ⟨_, hm, by rw [show l.take (k + 1) = (l.take (k + d + 1)).take (k + 1) by rw [List.take_take, Nat.min_eq_left (by omega)]]; exact List.take_prefix _ _⟩)
      rw [this] at h
      cases h
    rw [show k + (d + 1) = (k + d) + 1 by omega, lpK, if_neg hn]
    exact lpK_stop h d
/-- What Longest says. -/
def lngO (E : List (List Int)) (l : List Int) (at' : Int) : Option (List Int) := if at' < 0 ∨ at' ≥ (l.length : Int) then none else lpK E (l.drop at'.toNat) (l.length - at'.toNat)
theorem size_any {w : World} {lo hi T : Nat} {E : List (List Int)} {bk : List Int → Nat} {mp : List Int → Option Nat} (h : TrieAt w lo hi T E bk mp) (hN : szK E E.length ≤ 1000000) :
    Calls Tryd.prog 29 #[.pointer (some ⟨T, 0, none⟩)] w fun e w' => e = .returned (.int .i64 ((szK E E.length : Int) + 1)) ∧ w' = w := by
  have hb := h.be
  clear h
  generalize szK E E.length = N at *
  go_enter Tryd.func29, Tryd.ntmps29
  go_wp2
  go_ret
  exact ⟨rfl, rfl⟩
set_option maxRecDepth 10000 in
set_option maxHeartbeats 1000000 in
theorem longest_any {w : World} {lo hi T : Nat} {E : List (List Int)} {bk : List Int → Nat} {mp : List Int → Option Nat} (l : List Int) (a : Option Addr) (ca : Nat) (at' : Int) (h : TrieAt w lo hi T E bk mp) (ha : IA w a l) (hI : ∀ c ∈ l, inI c) (hl : l.length ≤ 1125899906842624) (hc : l.length ≤ ca) (hat : inI at') :
    Calls Tryd.prog 27 #[.pointer (some ⟨T, 0, none⟩), .slice a l.length ca, .int .i64 at'] w fun e w' => e = .returned (.tuple #[.int .i64 (onN E (lngO E l at')), .bool (lngO E l at').isSome]) ∧ w' = w := by
  by_cases h1 : at' < 0
  · have hr : lngO E l at' = none := by simp [lngO, h1]
    rw [hr]
    clear h ha hI hr hat
    go_enter Tryd.func27, Tryd.ntmps27
    go_wp2
    go_returns
    exact ⟨rfl, rfl⟩
  · by_cases h2 : at' ≥ (l.length : Int)
    · have hr : lngO E l at' = none := by simp [lngO, h2]
      rw [hr]
      clear h ha hI hr hat
      go_enter Tryd.func27, Tryd.ntmps27
      go_wp2
      go_returns
      exact ⟨rfl, rfl⟩
    · obtain ⟨m, rfl⟩ : ∃ m : Nat, at' = (m : Int) := ⟨at'.toNat, by omega⟩
      have hm : m < l.length := by omega
      have hr : lngO E l (m : Int) = lpK E (l.drop m) (l.length - m) := by
        unfold lngO
        rw [if_neg (by omega)]
        simp
      rw [hr]
      obtain ⟨b, off, rfl, _, _⟩ := ha.at' m hm
      have HT := hid0 h
      have HA : Hid (∀ k (hk : k < (l.drop m).length), w.cell? ⟨b, off + m + k, none⟩ = some (.int .i64 (l.drop m)[k])) := hid0 (fun k hk => by
        rw [List.length_drop] at hk
        obtain ⟨b2, off2, e2, _, hc2⟩ := ha.at' (m + k) (by omega)
        injection e2 with e2
        injection e2 with e3 e4
        subst e3 e4
        rw [show off + m + k = off + (m + k) by omega, hc2, List.getElem_drop])
      have HI : Hid (∀ c ∈ l.drop m, inI c) := hid0 (fun c hc => hI c (List.mem_of_mem_drop hc))
      have HRb := hid0 h.rb
      have hnc : ¬ ca = m := by omega
      have hmI : (m : Int) < (l.length : Int) := by omega
      have hmI0 : (0 : Int) ≤ (m : Int) := by omega
      have hmc : (m : Int) ≤ (ca : Int) := by omega
      have hdl : (l.drop m).length = l.length - m := List.length_drop
      have HDl := hid0 hdl
      have hlm : ((l.length : Int) - (m : Int)) = ((l.length - m : Nat) : Int) := by omega
      clear h ha hI hr hat hdl
      go_enter Tryd.func27, Tryd.ntmps27
      go_wp2
      go_loopw [8, 9, 10, 28] (fun v8 v9 v10 i wr => ∃ (k bq : Nat), k ≤ l.length - m ∧ i = .int .i64 (k : Int) ∧ v8 = .int .i64 (onN E (lpK E (l.drop m) k)) ∧ v9 = .bool (lpK E (l.drop m) k).isSome ∧ v10 = .pointer (some ⟨bq, 0, none⟩) ∧ Hid (bq = bk ((l.drop m).take k)) ∧ Hid (begB E ((l.drop m).take k) = true) ∧ wr = w) (fun _ _ _ i _ => l.length - m - (intOf i).toNat)
      case atStart => exact ⟨0, T, Nat.zero_le _, rfl, rfl, rfl, rfl, hid0 (by rw [List.take_zero]; exact HRb.out.symm), hid0 (by rw [List.take_zero]; rfl), rfl⟩
      case round =>
        obtain ⟨k, bq, hk, rfl, rfl, rfl, rfl, HBq, HBg, rfl⟩ := hrel
        by_cases hlt : k < l.length - m
        · have hkI : (k : Int) < ((l.length - m : Nat) : Int) := by omega
          have hkI0 : (0 : Int) ≤ (k : Int) := by omega
          have hkd : k < (l.drop m).length := by rw [HDl.out]; exact hlt
          have hce := HA.out k hkd
          have HIc := hid0 (HI.out _ (List.getElem_mem hkd))
          have HTs := hid0 (take_snoc hkd)
          have HLp : Hid (lpK E (l.drop m) (k + 1) = if (l.drop m).take (k + 1) ∈ E then some ((l.drop m).take (k + 1)) else lpK E (l.drop m) k) := hid0 rfl
          have HSt : Hid (begB E ((l.drop m).take (k + 1)) = false → lpK E (l.drop m) (l.length - m) = lpK E (l.drop m) k) := hid0 (fun hq => by have := lpK_stop hq (l.length - m - k); rw [show k + (l.length - m - k) = l.length - m by omega] at this; exact this)
          have hlook := HT.out.look HBg.out HIc.out
          have c0 := (Tr.nd HT.out _ HBg.out).cells.1
          rw [← HBq.out] at c0
          generalize (l.drop m)[k] = c at *
          generalize mp ((l.drop m).take k) = mq at *
          have HK : Hid (kidF (begB E) bk ((l.drop m).take k) c = if begB E ((l.drop m).take (k + 1)) = true then some (bk ((l.drop m).take (k + 1))) else none) := hid0 (by unfold kidF; rw [HTs.out])
          rw [HK.out] at hlook
          cases hb2 : begB E ((l.drop m).take (k + 1)) with
          | false =>
            rw [hb2, if_neg Bool.false_ne_true, ptr_none] at hlook
            have HR : Hid (lpK E (l.drop m) (l.length - m) = lpK E (l.drop m) k) := hid0 (HSt.out hb2)
            clear hb2
            go_wp2
            go_returns
            exact ⟨by rw [HR.out]; rfl, rfl⟩
          | true =>
            rw [hb2, if_pos rfl, ptr_some] at hlook
            have HB2 := hid0 hb2
            have d2 := (Tr.nd HT.out _ hb2).cells.2.2.1
            have d3 := (Tr.nd HT.out _ hb2).cells.2.2.2.1
            obtain ⟨b2, hbe⟩ : ∃ b2, bk ((l.drop m).take (k + 1)) = b2 := ⟨_, rfl⟩
            have HBe := hid0 hbe
            rw [hbe] at hlook d2 d3
            clear hb2 hbe
            by_cases he : (l.drop m).take (k + 1) ∈ E
            · rw [show whE E ((l.drop m).take (k + 1)) = true from decide_eq_true he] at d2
              rw [show enE E ((l.drop m).take (k + 1)) = (numF E ((l.drop m).take (k + 1)) : Int) from if_pos he] at d3
              have HL2 : Hid (lpK E (l.drop m) (k + 1) = some ((l.drop m).take (k + 1))) := hid0 (by rw [HLp.out, if_pos he])
              clear he
              go_wp2
              go_roundw
              case rel => exact ⟨k + 1, b2, hlt, by go_num, by rw [HL2.out]; rfl, by rw [HL2.out]; rfl, rfl, hid0 HBe.out.symm, HB2, trivial⟩
              case measure => simp [intOf]; omega
            · rw [show whE E ((l.drop m).take (k + 1)) = false from decide_eq_false he] at d2
              have HL2 : Hid (lpK E (l.drop m) (k + 1) = lpK E (l.drop m) k) := hid0 (by rw [HLp.out, if_neg he])
              clear he d3
              go_wp2
              go_roundw
              case rel => exact ⟨k + 1, b2, hlt, by go_num, by rw [HL2.out], by rw [HL2.out], rfl, hid0 HBe.out.symm, HB2, trivial⟩
              case measure => simp [intOf]; omega
        · have hkI : ¬ (k : Int) < ((l.length - m : Nat) : Int) := by omega
          have hke : k = l.length - m := by omega
          have HR : Hid (lpK E (l.drop m) (l.length - m) = lpK E (l.drop m) k) := hid0 (by rw [hke])
          clear hke
          go_wp2
          go_returns
          exact ⟨by rw [HR.out]; rfl, rfl⟩
end Go.Proofs.YtbmoeoinhlkmbaaDoor
namespace Go.Proofs.YtbmoeoinhlkmbaaDoor
open Go.RowKit Go.Shelf Go.Lib Go.Maps
attribute [local go_sem] Oper.semAt_some
theorem ends_drop {E : List (List Int)} (h : ∀ e ∈ E, e.length ≤ 32) (l : List Int) : endsF E (l.drop (l.length - 32)) = endsF E l := by
  induction l with
  | nil => rfl
  | cons x xs ih =>
    by_cases hl : (x :: xs).length ≤ 32
    · rw [show (x :: xs).length - 32 = 0 by omega]; rfl
    · have hn : (x :: xs) ∉ E := fun hm => hl (h _ hm)
      have e1 : (x :: xs).length - 32 = (xs.length - 32) + 1 := by simp only [List.length_cons] at *; omega
      rw [e1, List.drop_succ_cons, ih]
      simp [endsF, hn]
/-- What Ending says. -/
def endO (E : List (List Int)) (l : List Int) (at' : Int) : Option (List Int) := if at' ≤ 0 ∨ at' > (l.length : Int) then none else (endsF E (l.take at'.toNat)).head?
theorem setCell_self {w : World} {g i : Nat} {cs : Array Value} {t : TypeId} {v : Value} (hg : w.heap[g]? = some (.cells cs t (0, 0))) (h : cs.setIfInBounds i v = cs) : w.setCell ⟨g, i, none⟩ v = w := by
  have h1 : (w.setCell ⟨g, i, none⟩ v).heap = w.heap := by
    apply Array.ext_getElem?
    intro k
    by_cases e : k = g
    · subst e
      rw [heap_setCell_same _ _ _ _ _ _ hg, h, hg]
    · exact setCell_block_ne e
  show { w with heap := (w.setCell ⟨g, i, none⟩ v).heap } = w
  rw [h1]
theorem end_res {tmps : Array Value} {w : World} {b6 b7 : Nat} {z : Int} {b : Bool} (h6 : tmps.getD 6 undef = .pointer (some ⟨b6, 0, none⟩)) (h7 : tmps.getD 7 undef = .pointer (some ⟨b7, 0, none⟩)) (c6 : w.cell? ⟨b6, 0, none⟩ = some (.int .i64 z)) (c7 : w.cell? ⟨b7, 0, none⟩ = some (.bool b)) :
    (results Tryd.f28 tmps).run Tryd.prog w = .ok (.tuple #[.int .i64 z, .bool b]) w := by
  have h6' : tmps[6]?.getD undef = .pointer (some ⟨b6, 0, none⟩) := by simpa using h6
  have h7' : tmps[7]?.getD undef = .pointer (some ⟨b7, 0, none⟩) := by simpa using h7
  simp [results, h6', h7', asAddr, go_sem, c6, c7]
set_option maxRecDepth 100000 in
set_option maxHeartbeats 1000000 in
theorem ending_any {w : World} {lo hi T : Nat} {E : List (List Int)} {bk : List Int → Nat} {mp : List Int → Option Nat} (l : List Int) (a : Option Addr) (ca : Nat) (at' : Int) (h : TrieAt w lo hi T E bk mp) (hG : Good E) (ha : IA w a l) (hI : ∀ c ∈ l, inI c) (hl : l.length ≤ 1125899906842624) (hc : l.length ≤ ca) (hat : inI at') :
    Calls Tryd.prog 28 #[.pointer (some ⟨T, 0, none⟩), .slice a l.length ca, .int .i64 at'] w fun e w' => e = .returned (.tuple #[.int .i64 (onN E (endO E l at')), .bool (endO E l at').isSome]) ∧ Below w.heap.size w w' := by
  have HBw : Hid (Below w.heap.size w ((w.alloc (.cells #[.int .i64 0] 3)).alloc (.cells #[.bool false] 4))) := hid0 (((Below.refl _ _).alloc (Nat.le_refl _) _).alloc (by simp) _)
  have HC7 : Hid (((w.alloc (.cells #[.int .i64 0] 3)).alloc (.cells #[.bool false] 4)).cell? ⟨w.heap.size + 1, 0, none⟩ = some (.bool false)) := hid0 (by
    have h := cell_one_new (w.alloc (.cells #[.int .i64 0] 3)) (.bool false) 4 0 _ rfl
    rw [Addr.add_lit, World.size_alloc] at h
    exact h)
  have HC6 : Hid (((w.alloc (.cells #[.int .i64 0] 3)).alloc (.cells #[.bool false] 4)).cell? ⟨w.heap.size, 0, none⟩ = some (.int .i64 0)) := hid0 (by
    rw [World.cell?_of_block (w := w.alloc (.cells #[.int .i64 0] 3)) (Below.heap_alloc _ _ _ (by simp))]
    have h := cell_one_new w (.int .i64 0) 3 0 _ rfl
    rw [Addr.add_lit] at h
    exact h)
  by_cases h1 : at' ≤ 0
  · have hr : endO E l at' = none := by simp [endO, h1]
    rw [hr]
    clear h ha hI hr hat
    refine (callsIn_wide (n := 8)).1 ?_
    refine callsIn_of_wp_marks Tryd.func28 rfl trivial ?_ rfl
    simp only [Tryd.ntmps28, List.size_toArray, List.length_cons, List.length_nil, Nat.reduceAdd, Nat.reduceSub, Array.replicate_succ, Array.replicate_zero, List.push_toArray, List.append_toArray, List.nil_append, List.cons_append]
    gi_wp2
    refine ⟨_, end_res rfl rfl HC6.out HC7.out, ?_⟩
    exact ⟨rfl, HBw.out⟩
  · by_cases h2 : at' > (l.length : Int)
    · have hr : endO E l at' = none := by simp [endO, h2]
      rw [hr]
      clear h ha hI hr hat
      refine (callsIn_wide (n := 8)).1 ?_
      refine callsIn_of_wp_marks Tryd.func28 rfl trivial ?_ rfl
      simp only [Tryd.ntmps28, List.size_toArray, List.length_cons, List.length_nil, Nat.reduceAdd, Nat.reduceSub, Array.replicate_succ, Array.replicate_zero, List.push_toArray, List.append_toArray, List.nil_append, List.cons_append]
      gi_wp2
      refine ⟨_, end_res rfl rfl HC6.out HC7.out, ?_⟩
      exact ⟨rfl, HBw.out⟩
    · obtain ⟨m, rfl⟩ : ∃ m : Nat, at' = (m : Int) := ⟨at'.toNat, by omega⟩
      have hm : m ≤ l.length := by omega
      have hm0 : 0 < m := by omega
      have hr : endO E l (m : Int) = (endsF E ((l.take m).drop (m - 32))).head? := by
        unfold endO
        rw [if_neg (by omega)]
        have hd := ends_drop hG.len (l.take m)
        rw [List.length_take, Nat.min_eq_left hm] at hd
        rw [hd]
        simp
      rw [hr]
      obtain ⟨b, off, rfl, _, _⟩ := ha.at' 0 (by omega)
      obtain ⟨w0, hw0⟩ : ∃ w0, w0 = ((w.alloc (.cells #[.int .i64 0] 3)).alloc (.cells #[.bool false] 4)) := ⟨_, rfl⟩
      have HT : Hid (TrieAt w0 lo hi T E bk mp) := hid0 (by rw [hw0]; exact Tr.past h HBw.out)
      obtain ⟨j, hj⟩ : ∃ j, j = m - 32 := ⟨_, rfl⟩
      obtain ⟨pc, hpc⟩ : ∃ pc, pc = (l.take m).drop (m - 32) := ⟨_, rfl⟩
      have hpl : pc.length = m - j := by rw [hpc, hj, List.length_drop, List.length_take]; omega
      have HA : Hid (∀ k (hk : k < pc.length), w0.cell? ⟨b, off + j + k, none⟩ = some (.int .i64 pc[k])) := hid0 (fun k hk => by
        rw [hpl] at hk
        obtain ⟨b2, off2, e2, _, hc2⟩ := (ha.past HBw.out).at' (j + k) (by omega)
        injection e2 with e2
        injection e2 with e3 e4
        subst e3 e4
        rw [← hw0] at hc2
        rw [show off + j + k = off + (j + k) by omega, hc2]
        simp only [hpc, List.getElem_drop, List.getElem_take, hj])
      have HI : Hid (∀ c ∈ pc, inI c) := hid0 (fun c hc => hI c (List.mem_of_mem_take (List.mem_of_mem_drop (by rw [hpc] at hc; exact hc))))
      have HRb := hid0 h.rb
      have HG := hid0 hG
      rw [← hpc]
      have HPl := hid0 hpl
      have hjm : j < m := by omega
      have hmI : (m : Int) ≤ (l.length : Int) := by omega
      have H60 : Hid (w0.cell? ⟨w.heap.size, 0, none⟩ = some (.int .i64 0)) := hid0 (by rw [hw0]; exact HC6.out)
      have H70 : Hid (w0.cell? ⟨w.heap.size + 1, 0, none⟩ = some (.bool false)) := hid0 (by rw [hw0]; exact HC7.out)
      have HF6 : Hid (w0.heap[w.heap.size]? = some (.cells #[.int .i64 0] 3 (0, 0))) := hid0 (by rw [hw0]; exact (Below.heap_alloc _ _ _ (by simp)).trans (heap_alloc_new _ _))
      have HF7 : Hid (w0.heap[w.heap.size + 1]? = some (.cells #[.bool false] 4 (0, 0))) := hid0 (by rw [hw0]; have h := heap_alloc_new (w.alloc (.cells #[.int .i64 0] 3)) (.cells #[.bool false] 4); rw [World.size_alloc] at h; exact h)
      have HB0 : Hid (Below w.heap.size w w0) := hid0 (by rw [hw0]; exact HBw.out)
      have HS0 : Hid (w0.heap.size = w.heap.size + 2) := hid0 (by rw [hw0]; simp)
      have HEn := hid0 (ends_lsf (P := begB E) (fun _ he => begB_mem he) pc)
      have HLo : Hid (w.heap.size ≤ w.heap.size ∧ hi ≤ w.heap.size) := hid0 ⟨Nat.le_refl _, h.hs⟩
      have hfold := hw0.symm
      clear h ha hI hr hat hpc hpl hG hw0
      by_cases h32 : m ≤ 32
      · have hj0 : j = 0 := by omega
        clear hj
        subst hj0
        have HA : Hid (∀ k (hk : k < pc.length), w0.cell? ⟨b, off + k, none⟩ = some (.int .i64 pc[k])) := hid0 (fun k hk => by have := HA.out k hk; rw [Nat.add_zero] at this; exact this)
        rw [Nat.sub_zero] at HPl
        have h32I : (m : Int) ≤ 32 := by omega
        refine (callsIn_wide (n := 8)).1 ?_
        refine callsIn_of_wp_marks Tryd.func28 rfl trivial ?_ rfl
        simp only [Tryd.ntmps28, List.size_toArray, List.length_cons, List.length_nil, Nat.reduceAdd, Nat.reduceSub, Array.replicate_succ, Array.replicate_zero, List.push_toArray, List.append_toArray, List.nil_append, List.cons_append]
        gi_wp2
        gi_loopw [8, 30] (fun v i wr => ∃ (k bq : Nat), k ≤ m ∧ i = .int .i64 (k : Int) ∧ v = .pointer (some ⟨bq, 0, none⟩) ∧ Hid (bq = bk (lsf (begB E) (pc.take k))) ∧ wr = w0) (fun _ i _ => m - (intOf i).toNat)
        case atStart => exact ⟨0, T, Nat.zero_le _, rfl, rfl, hid0 (by rw [List.take_zero]; exact HRb.out.symm), rfl⟩
        case round =>
          obtain ⟨k, bq, hk, rfl, rfl, HBq, rfl⟩ := hrel
          by_cases hlt : k < m
          · have hkI : (k : Int) < ((m : Nat) : Int) := by omega
            have hkI0 : (0 : Int) ≤ (k : Int) := by omega
            have hkd : k < pc.length := by have := HPl.out; omega
            have hce := HA.out k hkd
            have HTs := hid0 (take_snoc hkd)
            have HST : Hid (Calls Tryd.prog 22 #[.pointer (some ⟨T, 0, none⟩), .pointer (some ⟨bq, 0, none⟩), .int .i64 pc[k]] wr fun e w' => e = .returned (.pointer (some ⟨bk (lsf (begB E) (pc.take (k + 1))), 0, none⟩)) ∧ w' = wr) := hid0 (by
              have h := step_any (some (lsf (begB E) (pc.take k))) pc[k] (lsf (begB E) (pc.take k)).length HT.out (HI.out _ (List.getElem_mem hkd)) (fun _ _ _ => rfl) (fun p hp => by injection hp with hp; rw [← hp]; exact ⟨lsf_ok (begB_nil E) _, Nat.le_refl _⟩)
              rw [show ptr (Option.map bk (some (lsf (begB E) (pc.take k)))) = .pointer (some ⟨bk (lsf (begB E) (pc.take k)), 0, none⟩) from rfl, ← HBq.out] at h
              rw [HTs.out, lsf_snoc (fun _ _ => begB_front)]
              exact h)
            generalize pc[k] = c at *
            generalize hbn : bk (lsf (begB E) (pc.take (k + 1))) = b2 at *
            have HBn := hid0 hbn
            clear hbn
            gi_wp2_with (refine ⟨trivial, ?_⟩; gi_at_call 22; refine (callsIn_wide.2 HST.out).mono ?_; rintro e w1 ⟨rfl, hw⟩; have hw := hw.symm; subst hw)
            go_roundw
            case rel => exact ⟨k + 1, b2, hlt, by go_num, rfl, hid0 HBn.out.symm, trivial⟩
            case measure => simp [intOf]; omega
          · have hkI : ¬ (k : Int) < ((m : Nat) : Int) := by omega
            have HBe : Hid (bq = bk (lsf (begB E) pc)) := hid0 (by have h := HBq.out; rw [List.take_of_length_le (by have := HPl.out; omega)] at h; exact h)
            clear HBq HA HI hfold
            gi_wp2
            have hbe := HBe.out
            subst hbe
            have HOn : Hid (∀ W, Only wr W (fun k => k = wr.heap.size ∨ k = wr.heap.size + 1) → TrieAt W lo hi T E bk mp ∧ Below w.heap.size w W ∧ W.heap[w.heap.size]? = some (.cells #[.int .i64 0] 3 (0, 0)) ∧ W.heap[w.heap.size + 1]? = some (.cells #[.bool false] 4 (0, 0))) := hid0 (fun W hW => by
              have hs := HS0.out
              refine ⟨Tr.keep HT.out hW.size (fun k _ hk => hW.block k (Nat.lt_of_lt_of_le hk HT.out.hs) (by have := HLo.out; omega)), HB0.out.trans (hW.below (by omega) (by omega)), (hW.block _ (by omega) (by omega)).trans HF6.out, (hW.block _ (by omega) (by omega)).trans HF7.out⟩)
            have HEn2 := HEn
            clear HBe H60 H70 HF6 HF7 HRb
            cases he : endsF E pc with
            | nil =>
              rw [he] at HEn2
              refine wpIn_rangeEnds' 11 8 (by omega) (lsf (begB E) pc) (lsf_ok (begB_nil E) _) HG.out.ne rfl (fun pre W => pre = [] ∧ Only wr W (fun k => k = wr.heap.size ∨ k = wr.heap.size + 1)) ?keep (fun pre A h => (HOn.out A h.2).1) ⟨rfl, Only.refl _ _⟩ ?assign ?body ?done
              case keep => exact fun pre A B h1 h2 => ⟨h1.1, h1.2.trans h2 (fun i hi => .inl hi)⟩
              case assign =>
                intro l b W K hK
                simp only [actP, List.setIfInBounds_toArray, List.set_cons_succ, List.set_cons_zero] at hK ⊢
                gi_wp2
                exact hK
              case body =>
                rintro l pre x W ⟨rfl, _⟩ _ ⟨r, hr⟩ _ _
                rw [HEn2.out] at hr
                cases hr
              case done =>
                rintro W ⟨_, hW⟩ hk
                obtain ⟨-, hb, r6, r7⟩ := HOn.out W hW
                have c6 : W.cell? ⟨w.heap.size, 0, none⟩ = some (.int .i64 0) := by rw [cell_of_row _ _ _ _ _ _ r6]; rfl
                have c7 : W.cell? ⟨w.heap.size + 1, 0, none⟩ = some (.bool false) := by rw [cell_of_row _ _ _ _ _ _ r7]; rfl
                have f6 : W.frozen? ⟨w.heap.size, 0, none⟩ = false := by simp [World.frozen?, r6]
                have f7 : W.frozen? ⟨w.heap.size + 1, 0, none⟩ = false := by simp [World.frozen?, r7]
                have e6 : W.setCell ⟨w.heap.size, 0, none⟩ (.int .i64 0) = W := setCell_self r6 rfl
                have e7 : W.setCell ⟨w.heap.size + 1, 0, none⟩ (.bool false) = W := setCell_self r7 rfl
                have HK := hid0 hk
                have HB9 := hid0 hb
                clear hk hb hW r6 r7
                have HP : Hid (Only W (W.putObj wr.heap.size (.deferred none)) (fun k => k = wr.heap.size)) := hid0 (Only.putObj _ _ _ _ rfl)
                have hs := HS0.out
                have C6 : Hid ((W.putObj wr.heap.size (.deferred none)).cell? ⟨w.heap.size, 0, none⟩ = some (.int .i64 0)) := hid0 ((HP.out.cell (p := ⟨w.heap.size, 0, none⟩) (World.block_lt_of_cell? _ _ c6) (by show ¬ w.heap.size = _; omega)).trans c6)
                have C7 : Hid ((W.putObj wr.heap.size (.deferred none)).cell? ⟨w.heap.size + 1, 0, none⟩ = some (.bool false)) := hid0 ((HP.out.cell (p := ⟨w.heap.size + 1, 0, none⟩) (World.block_lt_of_cell? _ _ c7) (by show ¬ w.heap.size + 1 = _; omega)).trans c7)
                have HB10 : Hid (Below w.heap.size w (W.putObj wr.heap.size (.deferred none))) := hid0 (HB9.out.trans (HP.out.below HB9.out.size (by omega)))
                clear hs
                gi_wp2
                refine ⟨by simp, .inl ⟨_, _, rfl, run_takeDeferred HK.out, ?_⟩⟩
                refine ⟨_, end_res rfl rfl C6.out C7.out, ?_⟩
                exact ⟨by rw [he]; rfl, HB10.out⟩
            | cons x r =>
              rw [he] at HEn2
              refine wpIn_rangeFirst' 11 8 (by omega) (lsf (begB E) pc) x r HEn2.out (lsf_ok (begB_nil E) _) HG.out.ne rfl (fun W => W.cell? ⟨w.heap.size, 0, none⟩ = some (.int .i64 (numF E x : Int)) ∧ W.cell? ⟨w.heap.size + 1, 0, none⟩ = some (.bool true) ∧ Below w.heap.size w W) ?keep HT.out ?assign ?body ?done
              case keep =>
                rintro A B ⟨h1, h2, h3⟩ ho
                have hs := HS0.out
                refine ⟨(ho.cell (p := ⟨w.heap.size, 0, none⟩) (World.block_lt_of_cell? _ _ h1) (by show ¬ (w.heap.size = _ ∨ w.heap.size = _); omega)).trans h1, (ho.cell (p := ⟨w.heap.size + 1, 0, none⟩) (World.block_lt_of_cell? _ _ h2) (by show ¬ (w.heap.size + 1 = _ ∨ w.heap.size + 1 = _); omega)).trans h2, h3.trans (ho.below h3.size (by omega))⟩
              case assign =>
                intro l b W K hK
                simp only [actP, List.setIfInBounds_toArray, List.set_cons_succ, List.set_cons_zero] at hK ⊢
                gi_wp2
                exact hK
              case body =>
                intro l W hW hsz
                simp only [actP, List.setIfInBounds_toArray, List.set_cons_succ, List.set_cons_zero]
                obtain ⟨ht, hb, r6, r7⟩ := HOn.out W hW
                have hxE : x ∈ E := (ends_mem (q := pc) (by rw [he]; exact .head _)).1
                have n3 := (Tr.nd ht x (begB_mem hxE)).cells.2.2.2.1
                rw [show enE E x = (numF E x : Int) from if_pos hxE] at n3
                have c6 : W.cell? ⟨w.heap.size, 0, none⟩ = some (.int .i64 0) := by rw [cell_of_row _ _ _ _ _ _ r6]; rfl
                have c7 : W.cell? ⟨w.heap.size + 1, 0, none⟩ = some (.bool false) := by rw [cell_of_row _ _ _ _ _ _ r7]; rfl
                have f6 : W.frozen? ⟨w.heap.size, 0, none⟩ = false := by simp [World.frozen?, r6]
                have f7 : W.frozen? ⟨w.heap.size + 1, 0, none⟩ = false := by simp [World.frozen?, r7]
                have hs := HS0.out
                have HR : Hid ((((W.setCell ⟨w.heap.size, 0, none⟩ (.int .i64 (numF E x : Int))).setCell ⟨w.heap.size + 1, 0, none⟩ (.bool true)).cell? ⟨w.heap.size, 0, none⟩ = some (.int .i64 (numF E x : Int)) ∧ ((W.setCell ⟨w.heap.size, 0, none⟩ (.int .i64 (numF E x : Int))).setCell ⟨w.heap.size + 1, 0, none⟩ (.bool true)).cell? ⟨w.heap.size + 1, 0, none⟩ = some (.bool true) ∧ Below w.heap.size w ((W.setCell ⟨w.heap.size, 0, none⟩ (.int .i64 (numF E x : Int))).setCell ⟨w.heap.size + 1, 0, none⟩ (.bool true))) ∧ Only W ((W.setCell ⟨w.heap.size, 0, none⟩ (.int .i64 (numF E x : Int))).setCell ⟨w.heap.size + 1, 0, none⟩ (.bool true)) (fun k => k ≠ wr.heap.size ∧ k ≠ wr.heap.size + 1)) := hid0 (by
                  refine ⟨⟨?_, ?_, ?_⟩, ?_⟩
                  · rw [World.cell?_setCell_other _ _ _ _ (fun e => by injection e with e; omega)]
                    exact World.cell?_setCell_same _ _ _ c6
                  · have c7' : (W.setCell ⟨w.heap.size, 0, none⟩ (.int .i64 (numF E x : Int))).cell? ⟨w.heap.size + 1, 0, none⟩ = some (.bool false) := by
                      rw [World.cell?_setCell_other _ _ _ _ (fun e => by injection e with e; omega)]
                      exact c7
                    exact World.cell?_setCell_same _ _ _ c7'
                  · exact (hb.setCell (p := ⟨w.heap.size, 0, none⟩) (Nat.le_refl _) _).setCell (p := ⟨w.heap.size + 1, 0, none⟩) (Nat.le_succ _) _
                  · exact ((Only.setCell _ _ _ _).mono (fun i hi => by omega)).trans (T := fun k => k ≠ wr.heap.size ∧ k ≠ wr.heap.size + 1) ((Only.setCell _ _ _ _).mono (fun i hi => by omega)) (fun i hi => .inl hi))
                clear ht hb r6 r7 hxE hs hW
                gi_wp2
                exact ⟨HR.out.1.2.2, HR.out.2⟩
              case done =>
                rintro W ⟨h1, h2, h3⟩ hk
                have hs := HS0.out
                have HP : Only W (W.putObj wr.heap.size (.deferred none)) (fun k => k = wr.heap.size) := Only.putObj _ _ _ _ rfl
                refine ⟨by simp, .inl ⟨_, _, rfl, run_takeDeferred hk, ?_⟩⟩
                refine ⟨_, end_res rfl rfl ((HP.cell (p := ⟨w.heap.size, 0, none⟩) (World.block_lt_of_cell? _ _ h1) (by show ¬ w.heap.size = _; omega)).trans h1) ((HP.cell (p := ⟨w.heap.size + 1, 0, none⟩) (World.block_lt_of_cell? _ _ h2) (by show ¬ w.heap.size + 1 = _; omega)).trans h2), ?_⟩
                exact ⟨by rw [he]; rfl, h3.trans (HP.below h3.size (by omega))⟩
      · have hmj : (m : Int) - 32 = (j : Int) := by omega
        have hj0 : (0 : Int) < (j : Int) := by omega
        have hjc : ¬ ca = j := by omega
        clear hj h32
        refine (callsIn_wide (n := 8)).1 ?_
        refine callsIn_of_wp_marks Tryd.func28 rfl trivial ?_ rfl
        simp only [Tryd.ntmps28, List.size_toArray, List.length_cons, List.length_nil, Nat.reduceAdd, Nat.reduceSub, Array.replicate_succ, Array.replicate_zero, List.push_toArray, List.append_toArray, List.nil_append, List.cons_append]
        gi_wp2
        gi_loopw [8, 30] (fun v i wr => ∃ (k bq : Nat), k ≤ m - j ∧ i = .int .i64 (k : Int) ∧ v = .pointer (some ⟨bq, 0, none⟩) ∧ Hid (bq = bk (lsf (begB E) (pc.take k))) ∧ wr = w0) (fun _ i _ => m - j - (intOf i).toNat)
        case atStart => exact ⟨0, T, Nat.zero_le _, rfl, rfl, hid0 (by rw [List.take_zero]; exact HRb.out.symm), rfl⟩
        case round =>
          obtain ⟨k, bq, hk, rfl, rfl, HBq, rfl⟩ := hrel
          by_cases hlt : k < m - j
          · have hkI : (k : Int) < ((m - j : Nat) : Int) := by omega
            have hkI0 : (0 : Int) ≤ (k : Int) := by omega
            have hkd : k < pc.length := by have := HPl.out; omega
            have hce := HA.out k hkd
            have HTs := hid0 (take_snoc hkd)
            have HST : Hid (Calls Tryd.prog 22 #[.pointer (some ⟨T, 0, none⟩), .pointer (some ⟨bq, 0, none⟩), .int .i64 pc[k]] wr fun e w' => e = .returned (.pointer (some ⟨bk (lsf (begB E) (pc.take (k + 1))), 0, none⟩)) ∧ w' = wr) := hid0 (by
              have h := step_any (some (lsf (begB E) (pc.take k))) pc[k] (lsf (begB E) (pc.take k)).length HT.out (HI.out _ (List.getElem_mem hkd)) (fun _ _ _ => rfl) (fun p hp => by injection hp with hp; rw [← hp]; exact ⟨lsf_ok (begB_nil E) _, Nat.le_refl _⟩)
              rw [show ptr (Option.map bk (some (lsf (begB E) (pc.take k)))) = .pointer (some ⟨bk (lsf (begB E) (pc.take k)), 0, none⟩) from rfl, ← HBq.out] at h
              rw [HTs.out, lsf_snoc (fun _ _ => begB_front)]
              exact h)
            generalize pc[k] = c at *
            generalize hbn : bk (lsf (begB E) (pc.take (k + 1))) = b2 at *
            have HBn := hid0 hbn
            clear hbn
            gi_wp2_with (refine ⟨trivial, ?_⟩; gi_at_call 22; refine (callsIn_wide.2 HST.out).mono ?_; rintro e w1 ⟨rfl, hw⟩; have hw := hw.symm; subst hw)
            go_roundw
            case rel => exact ⟨k + 1, b2, hlt, by go_num, rfl, hid0 HBn.out.symm, trivial⟩
            case measure => simp [intOf]; omega
          · have hkI : ¬ (k : Int) < ((m - j : Nat) : Int) := by omega
            have HBe : Hid (bq = bk (lsf (begB E) pc)) := hid0 (by have h := HBq.out; rw [List.take_of_length_le (by have := HPl.out; omega)] at h; exact h)
            clear HBq HA HI hfold
            gi_wp2
            have hbe := HBe.out
            subst hbe
            have HOn : Hid (∀ W, Only wr W (fun k => k = wr.heap.size ∨ k = wr.heap.size + 1) → TrieAt W lo hi T E bk mp ∧ Below w.heap.size w W ∧ W.heap[w.heap.size]? = some (.cells #[.int .i64 0] 3 (0, 0)) ∧ W.heap[w.heap.size + 1]? = some (.cells #[.bool false] 4 (0, 0))) := hid0 (fun W hW => by
              have hs := HS0.out
              refine ⟨Tr.keep HT.out hW.size (fun k _ hk => hW.block k (Nat.lt_of_lt_of_le hk HT.out.hs) (by have := HLo.out; omega)), HB0.out.trans (hW.below (by omega) (by omega)), (hW.block _ (by omega) (by omega)).trans HF6.out, (hW.block _ (by omega) (by omega)).trans HF7.out⟩)
            have HEn2 := HEn
            clear HBe H60 H70 HF6 HF7 HRb
            cases he : endsF E pc with
            | nil =>
              rw [he] at HEn2
              refine wpIn_rangeEnds' 11 8 (by omega) (lsf (begB E) pc) (lsf_ok (begB_nil E) _) HG.out.ne rfl (fun pre W => pre = [] ∧ Only wr W (fun k => k = wr.heap.size ∨ k = wr.heap.size + 1)) ?keep (fun pre A h => (HOn.out A h.2).1) ⟨rfl, Only.refl _ _⟩ ?assign ?body ?done
              case keep => exact fun pre A B h1 h2 => ⟨h1.1, h1.2.trans h2 (fun i hi => .inl hi)⟩
              case assign =>
                intro l b W K hK
                simp only [actP, List.setIfInBounds_toArray, List.set_cons_succ, List.set_cons_zero] at hK ⊢
                gi_wp2
                exact hK
              case body =>
                rintro l pre x W ⟨rfl, _⟩ _ ⟨r, hr⟩ _ _
                rw [HEn2.out] at hr
                cases hr
              case done =>
                rintro W ⟨_, hW⟩ hk
                obtain ⟨-, hb, r6, r7⟩ := HOn.out W hW
                have c6 : W.cell? ⟨w.heap.size, 0, none⟩ = some (.int .i64 0) := by rw [cell_of_row _ _ _ _ _ _ r6]; rfl
                have c7 : W.cell? ⟨w.heap.size + 1, 0, none⟩ = some (.bool false) := by rw [cell_of_row _ _ _ _ _ _ r7]; rfl
                have f6 : W.frozen? ⟨w.heap.size, 0, none⟩ = false := by simp [World.frozen?, r6]
                have f7 : W.frozen? ⟨w.heap.size + 1, 0, none⟩ = false := by simp [World.frozen?, r7]
                have e6 : W.setCell ⟨w.heap.size, 0, none⟩ (.int .i64 0) = W := setCell_self r6 rfl
                have e7 : W.setCell ⟨w.heap.size + 1, 0, none⟩ (.bool false) = W := setCell_self r7 rfl
                have HK := hid0 hk
                have HB9 := hid0 hb
                clear hk hb hW r6 r7
                have HP : Hid (Only W (W.putObj wr.heap.size (.deferred none)) (fun k => k = wr.heap.size)) := hid0 (Only.putObj _ _ _ _ rfl)
                have hs := HS0.out
                have C6 : Hid ((W.putObj wr.heap.size (.deferred none)).cell? ⟨w.heap.size, 0, none⟩ = some (.int .i64 0)) := hid0 ((HP.out.cell (p := ⟨w.heap.size, 0, none⟩) (World.block_lt_of_cell? _ _ c6) (by show ¬ w.heap.size = _; omega)).trans c6)
                have C7 : Hid ((W.putObj wr.heap.size (.deferred none)).cell? ⟨w.heap.size + 1, 0, none⟩ = some (.bool false)) := hid0 ((HP.out.cell (p := ⟨w.heap.size + 1, 0, none⟩) (World.block_lt_of_cell? _ _ c7) (by show ¬ w.heap.size + 1 = _; omega)).trans c7)
                have HB10 : Hid (Below w.heap.size w (W.putObj wr.heap.size (.deferred none))) := hid0 (HB9.out.trans (HP.out.below HB9.out.size (by omega)))
                clear hs
                gi_wp2
                refine ⟨by simp, .inl ⟨_, _, rfl, run_takeDeferred HK.out, ?_⟩⟩
                refine ⟨_, end_res rfl rfl C6.out C7.out, ?_⟩
                exact ⟨by rw [he]; rfl, HB10.out⟩
            | cons x r =>
              rw [he] at HEn2
              refine wpIn_rangeFirst' 11 8 (by omega) (lsf (begB E) pc) x r HEn2.out (lsf_ok (begB_nil E) _) HG.out.ne rfl (fun W => W.cell? ⟨w.heap.size, 0, none⟩ = some (.int .i64 (numF E x : Int)) ∧ W.cell? ⟨w.heap.size + 1, 0, none⟩ = some (.bool true) ∧ Below w.heap.size w W) ?keep HT.out ?assign ?body ?done
              case keep =>
                rintro A B ⟨h1, h2, h3⟩ ho
                have hs := HS0.out
                refine ⟨(ho.cell (p := ⟨w.heap.size, 0, none⟩) (World.block_lt_of_cell? _ _ h1) (by show ¬ (w.heap.size = _ ∨ w.heap.size = _); omega)).trans h1, (ho.cell (p := ⟨w.heap.size + 1, 0, none⟩) (World.block_lt_of_cell? _ _ h2) (by show ¬ (w.heap.size + 1 = _ ∨ w.heap.size + 1 = _); omega)).trans h2, h3.trans (ho.below h3.size (by omega))⟩
              case assign =>
                intro l b W K hK
                simp only [actP, List.setIfInBounds_toArray, List.set_cons_succ, List.set_cons_zero] at hK ⊢
                gi_wp2
                exact hK
              case body =>
                intro l W hW hsz
                simp only [actP, List.setIfInBounds_toArray, List.set_cons_succ, List.set_cons_zero]
                obtain ⟨ht, hb, r6, r7⟩ := HOn.out W hW
                have hxE : x ∈ E := (ends_mem (q := pc) (by rw [he]; exact .head _)).1
                have n3 := (Tr.nd ht x (begB_mem hxE)).cells.2.2.2.1
                rw [show enE E x = (numF E x : Int) from if_pos hxE] at n3
                have c6 : W.cell? ⟨w.heap.size, 0, none⟩ = some (.int .i64 0) := by rw [cell_of_row _ _ _ _ _ _ r6]; rfl
                have c7 : W.cell? ⟨w.heap.size + 1, 0, none⟩ = some (.bool false) := by rw [cell_of_row _ _ _ _ _ _ r7]; rfl
                have f6 : W.frozen? ⟨w.heap.size, 0, none⟩ = false := by simp [World.frozen?, r6]
                have f7 : W.frozen? ⟨w.heap.size + 1, 0, none⟩ = false := by simp [World.frozen?, r7]
                have hs := HS0.out
                have HR : Hid ((((W.setCell ⟨w.heap.size, 0, none⟩ (.int .i64 (numF E x : Int))).setCell ⟨w.heap.size + 1, 0, none⟩ (.bool true)).cell? ⟨w.heap.size, 0, none⟩ = some (.int .i64 (numF E x : Int)) ∧ ((W.setCell ⟨w.heap.size, 0, none⟩ (.int .i64 (numF E x : Int))).setCell ⟨w.heap.size + 1, 0, none⟩ (.bool true)).cell? ⟨w.heap.size + 1, 0, none⟩ = some (.bool true) ∧ Below w.heap.size w ((W.setCell ⟨w.heap.size, 0, none⟩ (.int .i64 (numF E x : Int))).setCell ⟨w.heap.size + 1, 0, none⟩ (.bool true))) ∧ Only W ((W.setCell ⟨w.heap.size, 0, none⟩ (.int .i64 (numF E x : Int))).setCell ⟨w.heap.size + 1, 0, none⟩ (.bool true)) (fun k => k ≠ wr.heap.size ∧ k ≠ wr.heap.size + 1)) := hid0 (by
                  refine ⟨⟨?_, ?_, ?_⟩, ?_⟩
                  · rw [World.cell?_setCell_other _ _ _ _ (fun e => by injection e with e; omega)]
                    exact World.cell?_setCell_same _ _ _ c6
                  · have c7' : (W.setCell ⟨w.heap.size, 0, none⟩ (.int .i64 (numF E x : Int))).cell? ⟨w.heap.size + 1, 0, none⟩ = some (.bool false) := by
                      rw [World.cell?_setCell_other _ _ _ _ (fun e => by injection e with e; omega)]
                      exact c7
                    exact World.cell?_setCell_same _ _ _ c7'
                  · exact (hb.setCell (p := ⟨w.heap.size, 0, none⟩) (Nat.le_refl _) _).setCell (p := ⟨w.heap.size + 1, 0, none⟩) (Nat.le_succ _) _
                  · exact ((Only.setCell _ _ _ _).mono (fun i hi => by omega)).trans (T := fun k => k ≠ wr.heap.size ∧ k ≠ wr.heap.size + 1) ((Only.setCell _ _ _ _).mono (fun i hi => by omega)) (fun i hi => .inl hi))
                clear ht hb r6 r7 hxE hs hW
                gi_wp2
                exact ⟨HR.out.1.2.2, HR.out.2⟩
              case done =>
                rintro W ⟨h1, h2, h3⟩ hk
                have hs := HS0.out
                have HP : Only W (W.putObj wr.heap.size (.deferred none)) (fun k => k = wr.heap.size) := Only.putObj _ _ _ _ rfl
                refine ⟨by simp, .inl ⟨_, _, rfl, run_takeDeferred hk, ?_⟩⟩
                refine ⟨_, end_res rfl rfl ((HP.cell (p := ⟨w.heap.size, 0, none⟩) (World.block_lt_of_cell? _ _ h1) (by show ¬ w.heap.size = _; omega)).trans h1) ((HP.cell (p := ⟨w.heap.size + 1, 0, none⟩) (World.block_lt_of_cell? _ _ h2) (by show ¬ w.heap.size + 1 = _; omega)).trans h2), ?_⟩
                exact ⟨by rw [he]; rfl, h3.trans (HP.below h3.size (by omega))⟩
end Go.Proofs.YtbmoeoinhlkmbaaDoor
namespace Go.Proofs.YtbmoeoinhlkmbaaDoor
open Go.RowKit
/-- The post Q at an ordinary end, and at no other. -/
def NormO (Q : Exit → Act → World → Prop) : Exit → Act → World → Prop
  | .normal, a, w => Q .normal a w
  | _, _, _ => False
theorem NormO.normal {Q : Exit → Act → World → Prop} {a : Act} {w : World} (h : Q .normal a w) : NormO Q .normal a w := h
theorem NormO.imp {Q : Exit → Act → World → Prop} : ∀ (e : Exit) (a : Act) (w : World), NormO Q e a w → Q e a w := fun e a w h => by
  cases e <;> first | exact h | exact (h : False).elim
theorem NormO.shut {Q : Exit → Act → World → Prop} : ¬ LetsOut (NormO Q) := fun ⟨_, _, h⟩ => h
def noDefer (ops : Array Oper) : Bool := ops.toList.all fun o => match o.op with
  | .defer _ => false
  | _ => true
theorem noDefer_at {ops : Array Oper} (h : noDefer ops = true) {i : Nat} {o : Oper} (ho : ops[i]? = some o) : ∀ c, o.op ≠ .defer c := fun c e => by
  have h1 := List.all_eq_true.1 h o (by rw [← Array.getElem?_toList] at ho; exact List.mem_of_getElem? ho)
  rw [e] at h1
  cases h1
theorem wpOpIn_of {P : Program} {ops : Array Oper} {Q : Exit → Act → World → Prop} {i n l : Nat} {K K' : Act → World → Prop} {a : Act} {w : World} (hno : ¬ LetsOut Q) (hd : noDefer ops = true)
    (hK : ∀ a w, K a w → K' a w) (h : wpOp P ops Q i K a w) : wpOpIn (Fence.wide.inRound l) n P ops Q i K' a w := by
  unfold wpOp at h
  unfold wpOpIn
  cases ho : ops[i]? with
  | none =>
    simp only [ho] at h ⊢
    exact hK _ _ h
  | some o =>
    simp only [ho] at h ⊢
    by_cases hw : Region.wanted o (yielded ops a.tmps) = true
    · simp only [hw, if_true] at h ⊢
      rcases h with h | ⟨_, h⟩
      · refine ⟨fun _ _ => trivial, ?_⟩
        rw [Fence.inRound_round, Oper.semAt_some l _ o (noDefer_at hd ho)]
        unfold Oper.wp at h
        generalize (execOp a.eval o).run P w = r at *
        cases r with
        | ok x w' =>
          cases x <;> simp only [Oper.upon, Oper.uponIn] at h ⊢
          case value => exact hK _ _ h
          case skip => exact hK _ _ h
          case defer => exact hK _ _ h
          case enter f args =>
            refine ⟨fun e => (by cases e), CallsIn.inRound l (callsIn_wide.2 (Calls.mono h fun e w'' he => ?_))⟩
            cases e with
            | returned v => exact hK _ _ he
            | panicked c => exact he
            | outgrown => exact he
          case row row args => exact ⟨fun e => (by cases e), fun c cs _ => let ⟨v, w'', r, s⟩ := h c cs; ⟨v, w'', hK _ _ r, stepsIn_wide.2 s⟩⟩
        | halt x w' => cases x <;> simp only [Oper.upon, Oper.uponIn] at h ⊢ <;> exact h
      · exact (hno h).elim
    · simp only [hw] at h ⊢
      exact ⟨fun _ _ => trivial, hK _ _ h⟩
theorem wpAnyIn_of {P : Program} {ops : Array Oper} {Q : Exit → Act → World → Prop} {S : World → Prop} {n l : Nat} {md : Region.Mode} (hno : ¬ LetsOut Q) (hd : noDefer ops = true) : ∀ (fuel : Nat) (listed : Array Bool) (a : Act) (w : World),
    wpAnyH P md ops Q S fuel listed a w → wpAnyIn (Fence.wide.inRound l) n P md ops Q fuel listed a w
  | 0, _, _, _, h => h
  | fuel + 1, _, _, _, h => ⟨h.1, fun i hi => wpOpIn_of hno hd (fun a' w' h' => wpAnyIn_of hno hd fuel _ a' w' h'.2) (h.2 i hi)⟩
/-- The beginning, inside a round. -/
theorem wpIn_region_round {P : Program} {id : Nat} {ops : Array Oper} {Q : Exit → Act → World → Prop} {S : World → Prop} {n l : Nat} {a : Act} {w : World} (hm : P.follows .mixedOrders = true) (hd : noDefer ops = true) (hS : S w.drew)
    (h : S w.drew → wpAnyH P .any ops (NormO Q) S ops.size (Array.replicate ops.size false) a w.drew) : (Code.region id ops true).wpIn (Fence.wide.inRound l) n P Q a w :=
  wpIn_mono (wpIn_region_any hm (wpAnyIn_of NormO.shut hd _ _ _ _ (h hS))) NormO.imp
end Go.Proofs.YtbmoeoinhlkmbaaDoor
namespace Go.Proofs.YtbmoeoinhlkmbaaDoor
open Go.RowKit
section
variable {P : Program} {ops : Array Oper} {Q : Exit → Act → World → Prop} {md : Region.Mode} {S : World → Prop}
/-- An operation that yields a value is taken first. -/
theorem tkV {i : Nat} {oi : Oper} {d : Option Tmp} {v : Value} {fuel : Nat} {listed : Array Bool} {a : Act} {w : World} (hi : ops[i]? = some oi)
    (hs : Region.noSelect ops = true) (hf : Region.free md ops listed i = true) (hr : (Region.ready md ops listed).contains i = true) (hd : oi.dst = d)
    (hQ : ∀ c a w, Q (.panic c) (a.put d v) w → Q (.panic c) a w) (hw : Region.wanted oi (yielded ops a.tmps) = true) (hv : ∀ w, S w → (execOp a.eval oi).run P w = .ok (.value v) w) (hS : S w)
    (h : wpAnyH P md ops Q S fuel (listed.setIfInBounds i true) (a.put d v) w) : wpAnyH P md ops Q S (fuel + 1) listed a w := by
  subst hd
  exact wpAnyH_take hi hs hf hr hQ (.inl ⟨hw, hv⟩) hS h
/-- One that is not wanted. -/
theorem tkU {i : Nat} {oi : Oper} {d : Option Tmp} {fuel : Nat} {listed : Array Bool} {a : Act} {w : World} (hi : ops[i]? = some oi)
    (hs : Region.noSelect ops = true) (hf : Region.free md ops listed i = true) (hr : (Region.ready md ops listed).contains i = true) (hd : oi.dst = d)
    (hQ : ∀ c a w, Q (.panic c) (a.put d undef) w → Q (.panic c) a w) (hw : Region.wanted oi (yielded ops a.tmps) = false) (hS : S w)
    (h : wpAnyH P md ops Q S fuel (listed.setIfInBounds i true) (a.put d undef) w) : wpAnyH P md ops Q S (fuel + 1) listed a w := by
  subst hd
  exact wpAnyH_take hi hs hf hr hQ (.inr ⟨hw, rfl⟩) hS h
end
end Go.Proofs.YtbmoeoinhlkmbaaDoor
namespace Go.Proofs.YtbmoeoinhlkmbaaDoor
open Go.RowKit Go.Shelf Go.Lib Go.Maps
abbrev Fd := Int × Int × Int
def fdF (E : List (List Int)) (i : Nat) (e : List Int) : Fd := ((numF E e : Int), (i : Int) + 1 - (e.length : Int), (i : Int) + 1)
/-- What All tells of the first k ends. -/
def allK (E : List (List Int)) (l : List Int) : Nat → List Fd
  | 0 => []
  | k + 1 => allK E l k ++ (endsF E (l.take (k + 1))).map (fdF E k)
def cellsF (L : List Fd) : List Value := L.flatMap fun f => [.int .i64 f.1, .int .i64 f.2.1, .int .i64 f.2.2]
theorem cellsF_snoc (L : List Fd) (f : Fd) : cellsF (L ++ [f]) = cellsF L ++ [.int .i64 f.1, .int .i64 f.2.1, .int .i64 f.2.2] := by simp [cellsF]
def OwnF (w : World) (base : Nat) (v : Value) (L : List Fd) : Prop := w.ownsRow base 35 3 v L.length (cellsF L)
theorem infoF : (Tryd.prog.info? 35).map (fun i => (i.zero, i.size, i.bytes)) = some (some (.agg #[.int .i64 0, .int .i64 0, .int .i64 0]), 3, 24) := by kernel_rfl
theorem ends_le (E : List (List Int)) (q : List Int) : (endsF E q).length ≤ q.length := by
  induction q with
  | nil => exact Nat.le_refl _
  | cons x xs ih =>
    unfold endsF
    split <;> simp only [List.length_cons] <;> omega
theorem ends_32 {E : List (List Int)} (h : ∀ e ∈ E, e.length ≤ 32) (q : List Int) : (endsF E q).length ≤ 32 := by
  rw [← ends_drop h]
  have := ends_le E (q.drop (q.length - 32))
  rw [List.length_drop] at this
  omega
theorem allK_len {E : List (List Int)} (h : ∀ e ∈ E, e.length ≤ 32) (l : List Int) : ∀ k, (allK E l k).length ≤ 32 * k
  | 0 => Nat.le_refl _
  | k + 1 => by
    have h1 := allK_len h l k
    have h2 := ends_32 h (l.take (k + 1))
    rw [allK, List.length_append, List.length_map]
    omega
/-- What All holds: the box of what was found, the box of the place. -/
structure AJ (w W : World) (lo hi T : Nat) (E : List (List Int)) (bk : List Int → Nat) (mp : List Int → Option Nat) (v : Value) (L : List Fd) : Prop where
  box : W.heap[w.heap.size]? = some (.cells #[v] 36 (0, 0))
  own : OwnF W (w.heap.size + 1) v L
  tr : TrieAt W lo hi T E bk mp
  bel : Below w.heap.size w W
  hi' : hi ≤ w.heap.size
section
variable {w W W' : World} {lo hi T : Nat} {E : List (List Int)} {bk : List Int → Nat} {mp : List Int → Option Nat} {v : Value} {L : List Fd}
theorem AJ.lt (h : AJ w W lo hi T E bk mp v L) : w.heap.size < W.heap.size := (Array.getElem?_eq_some_iff.1 h.box).1
theorem AJ.only (h : AJ w W lo hi T E bk mp v L) {S : Nat → Prop} (ho : Only W W' S) (hs : ∀ k, S k → w.heap.size < k) (hv : ∀ g, v.ownBlock = some g → ¬ S g) : AJ w W' lo hi T E bk mp v L where
  box := (ho.block _ h.lt (fun q => by have := hs _ q; omega)).trans h.box
  own := own_blk h.own (fun k e => ho.block k (World.ownsRow.lt h.own k e).2 (hv k e))
  tr := Tr.keep h.tr ho.size (fun k _ hk => ho.block k (Nat.lt_of_lt_of_le hk h.tr.hs) (fun q => by have := hs _ q; have := h.hi'; omega))
  bel := h.bel.trans (ho.below (Nat.le_of_lt h.lt) (fun i hi => Nat.le_of_lt (hs i hi)))
  hi' := h.hi'
theorem AJ.past (h : AJ w W lo hi T E bk mp v L) (hb : Below W.heap.size W W') : AJ w W' lo hi T E bk mp v L := h.only (S := fun _ => False) ⟨hb.os, hb.tape, hb.output, hb.size, fun k hk _ => hb.block k hk⟩ (fun _ q => nomatch q) (fun _ _ q => q)
theorem AJ.form (h : AJ w W lo hi T E bk mp v L) : ∃ a cap, v = .slice a L.length cap := by
  rcases h.own.2 with ⟨h1, h2⟩ | ⟨g, cap, cur, rfl, _⟩
  · exact ⟨none, 0, by rw [h1, h2]⟩
  · exact ⟨_, cap, rfl⟩
/-- A row's block holds founds. -/
theorem AJ.row (h : AJ w W lo hi T E bk mp v L) {g : Nat} (hg : v.ownBlock = some g) : ∃ cur fr, W.heap[g]? = some (.cells cur 35 fr) := by
  rcases h.own.2 with ⟨rfl, _⟩ | ⟨g', cap, cur, rfl, _, hr, _⟩
  · cases hg
  · injection hg with hg
    subst hg
    exact ⟨cur, _, hr⟩
/-- One more is put behind. -/
theorem AJ.snoc (h : AJ w W lo hi T E bk mp v L) {W1 W2 : World} {v2 : Value} {f : Fd} (hb : Below W.heap.size W W1) (hg : W1.grownBy W2 v.ownBlock) (hown : W2.ownsRow (w.heap.size + 1) 35 3 v2 (L.length + 1) (cellsF L ++ [.int .i64 f.1, .int .i64 f.2.1, .int .i64 f.2.2])) : AJ w (W2.setCell ⟨w.heap.size, 0, none⟩ v2) lo hi T E bk mp v2 (L ++ [f]) ∧ Only W (W2.setCell ⟨w.heap.size, 0, none⟩ v2) (fun k => k = w.heap.size ∨ v.ownBlock = some k) ∧ W2.cell? ⟨w.heap.size, 0, none⟩ = some v ∧ W2.frozen? ⟨w.heap.size, 0, none⟩ = false := by
  have hbase : ∀ g, v.ownBlock = some g → w.heap.size + 1 ≤ g := fun g e => (World.ownsRow.lt h.own g e).1
  have hlt := h.lt
  have ho1 : Only W W2 (fun k => v.ownBlock = some k) := (Only.ofNew hb (fun k => v.ownBlock = some k)).trans (T := fun k => v.ownBlock = some k) ⟨hg.os, hg.tape, hg.output, hg.size, fun k hk hn => hg.block k hk (fun e => hn e.symm)⟩ (fun i hi => .inl hi)
  have hbox : W2.heap[w.heap.size]? = some (.cells #[v] 36 (0, 0)) := (ho1.block _ hlt (fun e => by have := hbase _ e; omega)).trans h.box
  have ho2 : Only W (W2.setCell ⟨w.heap.size, 0, none⟩ v2) (fun k => k = w.heap.size ∨ v.ownBlock = some k) := (ho1.mono (fun i hi => .inr hi)).trans ((Only.setCell _ _ _ _).mono (fun i hi => .inl hi)) (fun i hi => .inl hi)
  refine ⟨⟨?_, ?_, ?_, ?_, h.hi'⟩, ho2, by rw [cell_of_row _ _ _ _ _ _ hbox]; rfl, by simp [World.frozen?, hbox]⟩
  · exact (heap_setCell_same _ _ 0 _ _ _ hbox).trans (by simp)
  · unfold OwnF
    rw [cellsF_snoc, List.length_append]
    exact own_blk hown (fun k e => setCell_block_ne (by have := (World.ownsRow.lt hown k e).1; omega))
  · exact Tr.keep h.tr ho2.size (fun k _ hk => ho2.block k (Nat.lt_of_lt_of_le hk h.tr.hs) (by
      have := h.hi'
      rintro (e | e)
      · omega
      · have := hbase _ e; omega))
  · exact h.bel.trans (ho2.below (Nat.le_of_lt hlt) (by
      rintro i (e | e)
      · omega
      · have := hbase _ e; omega))
end
end Go.Proofs.YtbmoeoinhlkmbaaDoor
