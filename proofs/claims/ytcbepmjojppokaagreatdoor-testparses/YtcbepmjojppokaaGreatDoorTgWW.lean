/-
  strings.Lines and its function: the lines of a text, one behind the other (stage 23).
-/
import Derived.Test.YtcbepmjojppokaaGreatDoorTgVM
import Derived.RangeFuncNested
import Derived.RangeFuncBound
import Derived.RangeFuncCalls
import Derived.RangeFuncLeaves
import Derived.RangeFuncBox
import Derived.OwnWalkIn
import Derived.TacticsInMore
import Derived.LoopNIn
import Derived.LoopIn
import Derived.Shelf.RegionOpen
import Derived.Maps.OwnIn
import Derived.BigRegion
import Derived.ControlIn
namespace Go.Proofs.YtcbepmjojppokaaGreatDoor
open Go.RowKit Go.Shelf
attribute [local go_sem] Oper.semAt_some
theorem lines_in0 (n : Nat) (s : ByteArray) (w : World) :
    CallsIn Fence.wide n Tryz.prog 25 #[.string s] w fun e w' => e = .returned (.func (.func 43) #[] #[.pointer (some ⟨w.heap.size, 0, none⟩)]) ∧ w' = w.alloc (.cells #[.string s] 9) := by
  refine callsIn_of_wp Tryz.func25 rfl trivial ?_ rfl
  simp only [Tryz.ntmps25, List.size_toArray, List.length_cons, List.length_nil, Nat.reduceAdd, Nat.reduceSub, Array.replicate_succ, Array.replicate_zero, List.push_toArray, List.append_toArray, List.nil_append, List.cons_append]
  gi_wp2
  go_ret
  exact ⟨rfl, rfl⟩
theorem index10_any (l : By) (w : World) : Calls Tryz.prog 44 #[.string (rd l), .int .u8 10] w fun e w' => e = .returned (.int .i64 (Lib.indexByte l 10)) ∧ w' = w :=
  Any.strings_IndexByte Tryz.lays137 (rd l) 10 w
/-- The box with the rest of the text. -/
def LBox (g : Nat) (s : By) (W : World) : Prop := W.heap[g]? = some (.cells #[.string (rd s)] 9 (0, 0))
def boxLen (g : Nat) (W : World) : Nat := match W.cell? ⟨g, 0, none⟩ with | some (.string b) => b.size | _ => 0
theorem boxLen_of {g : Nat} {s : By} {W : World} (h : LBox g s W) : boxLen g W = s.length := by
  unfold boxLen
  rw [cell_of_row W g 0 _ _ _ h]
  exact rd_size s
set_option maxRecDepth 100000 in
set_option maxHeartbeats 6400000 in
theorem lines1_in (n : Nat) (_hn : 1 ≤ n) (l g : Nat) (s : By) (hs : s.length ≤ 1048576) (ok : List By → Bool) (J : List By → World → Prop) (w : World)
    (hJb : ∀ pre A B, J pre A → Below A.heap.size A B → J pre B) (hJg : ∀ pre A v, J pre A → J pre (A.setCell ⟨g, 0, none⟩ v))
    (hY : ∀ pre x A, J pre A → ok pre = true → (∃ r, pre ++ x :: r = rawL s) → YieldAt Fence.wide (n - 1) Tryz.prog l #[.string (rd x)] A fun e A' => e = .returned (.bool (ok (pre ++ [x]))) ∧ J (pre ++ [x]) A' ∧ A'.heap[g]? = A.heap[g]?)
    (h0 : J [] w) (hok : ok [] = true) (hg : LBox g s w) :
    CallsIn Fence.wide n Tryz.prog 43 #[.func (.yield l) #[] #[], .pointer (some ⟨g, 0, none⟩)] w fun e w' => (∃ v, e = .returned v) ∧ ∃ pre, J pre w' ∧ (∃ r, pre ++ r = rawL s) ∧ (ok pre = true → pre = rawL s) := by
  have HJb := hid0 hJb
  have HJg := hid0 hJg
  have HYy : Hid (∀ pre x A (v : Bool), ok (pre ++ [x]) = v → J pre A → ok pre = true → (∃ r, pre ++ x :: r = rawL s) → YieldAt Fence.wide (n - 1) Tryz.prog l #[.string (rd x)] A fun e A' => e = .returned (.bool v) ∧ J (pre ++ [x]) A' ∧ A'.heap[g]? = A.heap[g]?) := hid0 (fun pre x A v hv h1 h2 h3 => by rw [← hv]; exact hY pre x A h1 h2 h3)
  have HJ0 := hid0 h0
  have HOk := hid0 hok
  have HG := hid0 hg
  have HS := hid0 hs
  clear hJb hJg hY h0 hok hg hs
  refine callsIn_of_wp Tryz.func43 rfl trivial ?_ rfl
  simp only [Tryz.ntmps43, List.size_toArray, List.length_cons, List.length_nil, Nat.reduceAdd, Nat.reduceSub, Array.replicate_succ, Array.replicate_zero, List.push_toArray, List.append_toArray, List.nil_append, List.cons_append]
  gi_wp2
  gi_loopw [3, 4] (fun _ _ wr => ∃ (pre : List By) (r : By), Hid (LBox g r wr) ∧ r.length ≤ s.length ∧ Hid (J pre wr) ∧ Hid (pre ++ rawL r = rawL s) ∧ Hid (ok pre = true)) (fun _ _ wr => boxLen g wr)
  case atStart => exact ⟨[], s, HG, Nat.le_refl _, HJ0, hid0 rfl, HOk⟩
  case round =>
    clear HJ0 HOk HG
    obtain ⟨pre, r, HG, hrl, HJ, HE, HO⟩ := hrel
    have hS := HS.out
    have c0 : wr.cell? ⟨g, 0, none⟩ = some (.string (rd r)) := by rw [cell_of_row wr g 0 _ _ _ HG.out]; rfl
    have f0 : wr.frozen? ⟨g, 0, none⟩ = false := frozen_of_row wr g _ _ _ HG.out
    have hrs : (rd r).size = r.length := rd_size r
    by_cases hr0 : r = []
    · subst hr0
      have hz : ¬ (((rd []).size : Nat) : Int) > 0 := by rw [hrs]; simp
      generalize rd [] = S at *
      gi_wp2
      go_end0
      exact ⟨⟨_, rfl⟩, pre, HJ.out, ⟨[], by have h := HE.out; rw [raw_nil] at h; exact h⟩, fun _ => by have h := HE.out; rw [raw_nil, List.append_nil] at h; exact h⟩
    · have hpos : 0 < r.length := by cases r with | nil => exact absurd rfl hr0 | cons c r => simp
      have hz : (((rd r).size : Nat) : Int) > 0 := by rw [hrs]; omega
      have HIx := hid0 (fun W => index10_any r W)
      by_cases hk : (r.takeWhile not10).length < r.length
      · obtain ⟨k, hkk⟩ : ∃ k, k = (r.takeWhile not10).length := ⟨_, rfl⟩
        have HRc := hid0 (raw_cut r k hkk.symm (by omega))
        rw [idx10, if_pos hk, ← hkk] at HIx
        have hkI0 : (0 : Int) ≤ (k : Int) := by omega
        have hk1 : (0 : Int) ≤ (k : Int) + 1 := by omega
        have hk2 : (k : Int) + 1 ≤ (((rd r).size : Nat) : Int) := by rw [hrs]; omega
        have hX1 : (rd r).extract 0 (k + 1) = rd (r.take (k + 1)) := str_eq4 (extract_take4 (rd r) (k + 1))
        have hX2 : (rd r).extract (k + 1) (rd r).size = rd (r.drop (k + 1)) := str_eq4 (extract_drop4 (rd r) (k + 1))
        have hdl : (r.drop (k + 1)).length < r.length := by rw [List.length_drop]; omega
        obtain ⟨v, hv⟩ : ∃ v, ok (pre ++ [r.take (k + 1)]) = v := ⟨_, rfl⟩
        have HYx := hid0 (fun A (hA : J pre A) => HYy.out pre (r.take (k + 1)) A v hv hA HO.out ⟨rawL (r.drop (k + 1)), by rw [← HRc.out]; exact HE.out⟩)
        have HE2 : Hid ((pre ++ [r.take (k + 1)]) ++ rawL (r.drop (k + 1)) = rawL s) := hid0 (by rw [← HE.out, HRc.out]; simp)
        generalize hq1 : r.take (k + 1) = x at *
        generalize hq2 : r.drop (k + 1) = r2 at *
        have HLx := hid0 hdl
        have hsw : IntKind.i64.wrap ((k : Int) + 1) = (k : Int) + 1 := by rw [IntKind.wrap_i64]; omega
        generalize rd r = S at *
        clear hkk hk hdl hq1 hq2 hrs HRc HS
        gi_wp2_with (first
          | (refine ⟨trivial, ?_⟩; gi_at_call 44; refine (callsIn_wide.2 (HIx.out _)).mono ?_; rintro e w2 ⟨rfl, hw2⟩; subst hw2)
          | fail)
        refine wpIn_wide.2 ?_
        go_region
        have HJ3 := hid0 (HJb.out _ _ _ (HJg.out _ _ (.string (rd r2)) HJ.out) ((Below.refl _ (w2.setCell ⟨g, 0, none⟩ (.string (rd r2)))).drew))
        have HG3 : Hid (LBox g r2 (w2.setCell ⟨g, 0, none⟩ (.string (rd r2))).drew) := hid0 (heap_setCell_same w2 g 0 _ _ (.string (rd r2)) HG.out)
        generalize (w2.setCell ⟨g, 0, none⟩ (.string (rd r2))).drew = W3 at *
        obtain ⟨fn, tmps, assign, body, hy, hR⟩ := HYx.out W3 HJ3.out
        have HRd := hid0 hR
        have HBL := hid0 (boxLen_of HG.out)
        clear hR HYx HJ HIx c0 f0 HE HG
        gi_wp2
        clear hy
        refine HRd.out.mono ?_
        rintro e W4 ⟨rfl, hJ4, hb4⟩
        have HJ4 := hid0 hJ4
        have HG4 : Hid (LBox g r2 W4) := hid0 (hb4.trans HG3.out)
        clear hJ4 hb4
        cases v with
        | true =>
          have HO4 := hid0 hv
          clear hv
          gi_wp2
          go_roundw
          case rel => exact ⟨pre ++ [x], r2, HG4, by have := HLx.out; omega, HJ4, HE2, HO4⟩
          case measure => rw [boxLen_of HG4.out, HBL.out]; exact HLx.out
        | false =>
          have HO4 := hid0 hv
          clear hv
          gi_wp2
          refine bodyPost_ret (results_none rfl _ _ _) rfl ?_
          exact ⟨⟨_, rfl⟩, pre ++ [x], HJ4.out, ⟨rawL r2, HE2.out⟩, fun h => by rw [HO4.out] at h; cases h⟩
      · have HRc := hid0 (raw_end r hk hr0)
        rw [idx10, if_neg hk] at HIx
        obtain ⟨v, hv⟩ : ∃ v, ok (pre ++ [r]) = v := ⟨_, rfl⟩
        have HYx := hid0 (fun A (hA : J pre A) => HYy.out pre r A v hv hA HO.out ⟨[], by rw [← HE.out, HRc.out]⟩)
        have HE2 : Hid ((pre ++ [r]) ++ rawL [] = rawL s) := hid0 (by rw [← HE.out, HRc.out, raw_nil, List.append_nil])
        have hJ3 := HJg.out _ _ (.string ⟨#[]⟩) HJ.out
        have HJ3 := hid0 hJ3
        have HG3 : Hid (LBox g [] (wr.setCell ⟨g, 0, none⟩ (.string ⟨#[]⟩))) := hid0 (heap_setCell_same wr g 0 _ _ (.string ⟨#[]⟩) HG.out)
        obtain ⟨fn, tmps, assign, body, hy, hR⟩ := HYx.out (wr.setCell ⟨g, 0, none⟩ (.string ⟨#[]⟩)) HJ3.out
        have HRd := hid0 hR
        have HBL := hid0 (boxLen_of HG.out)
        have HPo := hid0 hpos
        generalize rd r = S at *
        clear hJ3 hR HYx HJ HE HG hk hrs HRc HS hpos hr0
        gi_wp2_with (first
          | (refine ⟨trivial, ?_⟩; gi_at_call 44; refine (callsIn_wide.2 (HIx.out _)).mono ?_; rintro e w2 ⟨rfl, hw2⟩; subst hw2)
          | fail)
        clear hy
        refine HRd.out.mono ?_
        rintro e W4 ⟨rfl, hJ4, hb4⟩
        have HJ4 := hid0 hJ4
        have HG4 : Hid (LBox g [] W4) := hid0 (hb4.trans HG3.out)
        clear hJ4 hb4
        cases v with
        | true =>
          have HO4 := hid0 hv
          clear hv
          gi_wp2
          go_roundw
          case rel => exact ⟨pre ++ [r], [], HG4, Nat.zero_le _, HJ4, HE2, HO4⟩
          case measure => rw [boxLen_of HG4.out, HBL.out]; exact HPo.out
        | false =>
          have HO4 := hid0 hv
          clear hv
          gi_wp2
          refine bodyPost_ret (results_none rfl _ _ _) rfl ?_
          exact ⟨⟨_, rfl⟩, pre ++ [r], HJ4.out, ⟨rawL [], HE2.out⟩, fun h => by rw [HO4.out] at h; cases h⟩
end Go.Proofs.YtcbepmjojppokaaGreatDoor
