/-
  The walk of caesuraref3.put.
-/
import Derived.Test.YtnkllhihdjjmnaaDoorRgW
import Derived.Test.YtnkllhihdjjmnaaDoorRefM
import Derived.Test.YtnkllhihdjjmnaaDoorEdgeLW
import Derived.Test.YtnkllhihdjjmnaaDoorWalkW
namespace Go.Proofs.YtnkllhihdjjmnaaDoor
open Go.RowKit
set_option maxRecDepth 10000 in
set_option maxHeartbeats 400000 in
theorem put_any (l : List (Int × Int)) (xl xh : Int) (a : Option Addr) (cap : Nat) (hl : l.length ≤ 50000000) (w : World) (ha : RA w a l) :
    Calls Tryd.prog 60 #[.slice a l.length cap, .agg #[.int .i64 xl, .int .i64 xh]] w fun e w' => ∃ v, e = .returned v ∧ OwnR w' w.heap.size v (putL l (xl, xh)) ∧ Below w.heap.size w w' := by
  obtain ⟨i0, hi, hz0, hz1, hz2⟩ := info_parts infoRange
  have HA := hidE ha
  have M1 : Hid True := trivial
  clear ha
  go_enter Tryd.func60, Tryd.ntmps60
  go_wp2
  generalize hW0 : w.alloc (.cells #[.int .i64 xl, .int .i64 xh] 35) = W0
  have hz : W0.heap.size = w.heap.size + 1 := by rw [← hW0]; simp
  have HX : Hid (∀ wr, Below (w.heap.size + 1) W0 wr → wr.cell? ⟨w.heap.size, 0, none⟩ = some (.int .i64 xl) ∧ wr.cell? ⟨w.heap.size, 1, none⟩ = some (.int .i64 xh) ∧ Below w.heap.size w wr) := fun wr hb => by
    have hw : Below w.heap.size w W0 := by rw [← hW0]; exact (Below.refl _ w).alloc (Nat.le_refl _) _
    refine ⟨(hb.cell (p := ⟨w.heap.size, 0, none⟩) (Nat.lt_succ_self _)).trans (by rw [← hW0]; simp), (hb.cell (p := ⟨w.heap.size, 1, none⟩) (Nat.lt_succ_self _)).trans (by rw [← hW0]; simp), hw.trans (hb.mono (Nat.le_succ _))⟩
  clear hW0
  have hpl := putL_len l (xl, xh)
  go_loopw [5, 6, 7] (fun v d i wr => ∃ (k : Nat) (dn : Bool) (o : List (Int × Int)), k ≤ l.length ∧ i = .int .i64 (k : Int) ∧ d = .bool dn ∧ OwnR wr (w.heap.size + 1) v o ∧ o ++ (if dn then l.drop k else putL (l.drop k) (xl, xh)) = putL l (xl, xh) ∧ Below (w.heap.size + 1) W0 wr) (fun _ _ i _ => l.length - (intOf i).toNat)
  case atStart => exact ⟨0, false, [], Nat.zero_le _, rfl, rfl, OwnR.nil _ _, rfl, Below.refl _ _⟩
  case round =>
    obtain ⟨k, dn, o, hk, rfl, rfl, hown, heq, hB⟩ := hrel
    have HO := hidE hown
    have HQ := hidE heq
    have hol : o.length ≤ l.length + 1 := by have := congrArg List.length heq; rw [List.length_append, hpl] at this; omega
    obtain ⟨x0, x1, hB0⟩ := HX.out wr hB
    have hs := hB.size
    clear hown heq
    by_cases hlt : k < l.length
    · obtain ⟨b1, o1, rfl, d0, d1⟩ := (HA.out.later hB0).at' k hlt
      have HD := hidE (List.drop_eq_getElem_cons hlt)
      have HAw := hidE (fun wr' (hb : Below w.heap.size w wr') => (HA.out.later hb).at' k hlt)
      generalize l[k] = r at *
      obtain ⟨lo, hi'⟩ := r
      simp only at d0 d1
      have hO2 : wr.ownsRow (w.heap.size + 1) 35 2 u5 o.length (cellsR o) := HO.out
      have HOO := hidE hO2
      clear hO2
      cases dn with
      | true =>
        go_wp2
        go_big_quiet (fail)
        have HOq : Hid ((wr.drewN nq).ownsRow (w.heap.size + 1) 35 2 u5 o.length (cellsR o)) := HOO.out
        have hBq := below_drewN hB nq
        have hsq := hBq.size
        have dq0 : (wr.drewN nq).cell? ⟨b1, o1 + k * 2, none⟩ = some (.int .i64 lo) := d0
        have dq1 : (wr.drewN nq).cell? ⟨b1, o1 + k * 2 + 1, none⟩ = some (.int .i64 hi') := d1
        have xq0 : (wr.drewN nq).cell? ⟨w.heap.size, 0, none⟩ = some (.int .i64 xl) := x0
        have xq1 : (wr.drewN nq).cell? ⟨w.heap.size, 1, none⟩ = some (.int .i64 xh) := x1
        generalize wr.drewN nq = wq at *
        clear d0 d1 x0 x1 HO HOO hB hB0 hs
        go_wp2_with (at_builtin; refine wpList_append_own _ rfl _ _ 22 rfl (w.heap.size + 1) 35 i0 (.agg #[.int .i64 0, .int .i64 0]) 2 16 Tryd.underlying22 hi hz0 hz1 hz2 rfl (by decide) _ _ _ rfl (HOq.out.alloc _) ⟨wq.heap.size, 0, none⟩ 1 1 [.int .i64 lo, .int .i64 hi'] rfl rfl (cell2_new _ _ _ _) (by simp [Value.oneCell']) (by unfold maxLen; omega) (by omega) (by simp; omega) ?_; intro v1 w1 hown' hgrow _; have R := ownR_snoc (w := W0) (r := (lo, hi')) rfl (show OwnR wq _ _ o from HOq.out) (by simpa using hown') hgrow rfl hBq (by omega); have HR_w1 := hidE R; clear hown' hgrow R)
        go_roundw
        case rel => exact ⟨k + 1, true, o ++ [(lo, hi')], by omega, by go_num, rfl, HR_w1.out.1, by rw [← HQ.out, HD.out]; simp, HR_w1.out.2⟩
        case measure => simp [intOf]; omega
      | false =>
        by_cases hgt : xl < lo
        · have hgt' : decide (xl < lo) = true := decide_eq_true hgt
          go_wp2
          go_big_quiet (fail)
          have HOq : Hid ((wr.drewN nq).ownsRow (w.heap.size + 1) 35 2 u5 o.length (cellsR o)) := HOO.out
          have hBq := below_drewN hB nq
          have hsq := hBq.size
          have dq0 : (wr.drewN nq).cell? ⟨b1, o1 + k * 2, none⟩ = some (.int .i64 lo) := d0
          have dq1 : (wr.drewN nq).cell? ⟨b1, o1 + k * 2 + 1, none⟩ = some (.int .i64 hi') := d1
          have xq0 : (wr.drewN nq).cell? ⟨w.heap.size, 0, none⟩ = some (.int .i64 xl) := x0
          have xq1 : (wr.drewN nq).cell? ⟨w.heap.size, 1, none⟩ = some (.int .i64 xh) := x1
          generalize wr.drewN nq = wq at *
          clear d0 d1 x0 x1 HO HOO hB hB0 hs
          go_wp2_with (first
            | (at_builtin; clear M1; refine wpList_append_own _ rfl _ _ 22 rfl (w.heap.size + 1) 35 i0 (.agg #[.int .i64 0, .int .i64 0]) 2 16 Tryd.underlying22 hi hz0 hz1 hz2 rfl (by decide) _ _ _ rfl (HOq.out.alloc _) ⟨wq.heap.size, 0, none⟩ 1 1 [.int .i64 xl, .int .i64 xh] rfl rfl (cell2_new _ _ _ _) (by simp [Value.oneCell']) (by unfold maxLen; omega) (by omega) (by simp; omega) ?_; intro v1 w1 hown' hgrow _; have R := ownR_snoc (w := W0) (r := (xl, xh)) rfl (show OwnR wq _ _ o from HOq.out) (by simpa using hown') hgrow rfl hBq (by omega); have HR1 := hidE R; have hs1 := R.2.size; obtain ⟨_, _, hB1⟩ := HX.out w1 R.2; obtain ⟨b2, o2, he, d2, d3⟩ := HAw.out w1 hB1; have HO1 : Hid (w1.ownsRow (w.heap.size + 1) 35 2 v1 (o.length + 1) (cellsR (o ++ [(xl, xh)]))) := (by have := R.1; unfold OwnR at this; rw [List.length_append] at this; exact this); simp only [Option.some.injEq, Addr.mk.injEq, and_true] at he; obtain ⟨he1, he2⟩ := he; subst he1 he2; clear hown' hgrow R)
            | (at_builtin; refine wpList_append_own _ rfl _ _ 22 rfl (w.heap.size + 1) 35 i0 (.agg #[.int .i64 0, .int .i64 0]) 2 16 Tryd.underlying22 hi hz0 hz1 hz2 rfl (by decide) _ _ _ rfl (HO1.out.alloc _) ⟨w1.heap.size, 0, none⟩ 1 1 [.int .i64 lo, .int .i64 hi'] rfl rfl (cell2_new _ _ _ _) (by simp [Value.oneCell']) (by unfold maxLen; omega) (by omega) (by simp; omega) ?_; intro v2 w2 hown' hgrow _; have R := ownR_snoc (w := W0) (l := o ++ [(xl, xh)]) (r := (lo, hi')) (n := o.length + 1) (by simp) HR1.out.1 (by simpa using hown') hgrow rfl HR1.out.2 (by omega); have HR2 := hidE R; clear hown' hgrow R)
            | fail)
          go_roundw
          case rel => exact ⟨k + 1, true, o ++ [(xl, xh)] ++ [(lo, hi')], by omega, by go_num, rfl, HR2.out.1, by rw [← HQ.out, HD.out]; simp [putL, hgt], HR2.out.2⟩
          case measure => simp [intOf]; omega
        · have hgt' : decide (xl < lo) = false := decide_eq_false hgt
          go_wp2
          go_big_quiet (fail)
          have HOq : Hid ((wr.drewN nq).ownsRow (w.heap.size + 1) 35 2 u5 o.length (cellsR o)) := HOO.out
          have hBq := below_drewN hB nq
          have hsq := hBq.size
          have dq0 : (wr.drewN nq).cell? ⟨b1, o1 + k * 2, none⟩ = some (.int .i64 lo) := d0
          have dq1 : (wr.drewN nq).cell? ⟨b1, o1 + k * 2 + 1, none⟩ = some (.int .i64 hi') := d1
          have xq0 : (wr.drewN nq).cell? ⟨w.heap.size, 0, none⟩ = some (.int .i64 xl) := x0
          have xq1 : (wr.drewN nq).cell? ⟨w.heap.size, 1, none⟩ = some (.int .i64 xh) := x1
          generalize wr.drewN nq = wq at *
          clear d0 d1 x0 x1 HO HOO hB hB0 hs
          go_wp2_with (at_builtin; refine wpList_append_own _ rfl _ _ 22 rfl (w.heap.size + 1) 35 i0 (.agg #[.int .i64 0, .int .i64 0]) 2 16 Tryd.underlying22 hi hz0 hz1 hz2 rfl (by decide) _ _ _ rfl (HOq.out.alloc _) ⟨wq.heap.size, 0, none⟩ 1 1 [.int .i64 lo, .int .i64 hi'] rfl rfl (cell2_new _ _ _ _) (by simp [Value.oneCell']) (by unfold maxLen; omega) (by omega) (by simp; omega) ?_; intro v1 w1 hown' hgrow _; have R := ownR_snoc (w := W0) (r := (lo, hi')) rfl (show OwnR wq _ _ o from HOq.out) (by simpa using hown') hgrow rfl hBq (by omega); have HR_w1 := hidE R; clear hown' hgrow R)
          go_roundw
          case rel => exact ⟨k + 1, false, o ++ [(lo, hi')], by omega, by go_num, rfl, HR_w1.out.1, by { rw [← HQ.out, HD.out]; simp [putL]; intro h; omega }, HR_w1.out.2⟩
          case measure => simp [intOf]; omega
    · have hki : ¬ (k : Int) < (l.length : Int) := by omega
      have hdr : l.drop k = [] := List.drop_eq_nil_of_le (by omega)
      have hO2 : wr.ownsRow (w.heap.size + 1) 35 2 u5 o.length (cellsR o) := HO.out
      have HOO := hidE hO2
      have HDR := hidE hdr
      clear hO2 hdr
      cases dn with
      | true =>
        go_wp2
        go_ret
        refine ⟨_, rfl, ?_, hB0⟩
        have := HQ.out
        rw [HDR.out] at this
        rw [← this]
        simpa using HO.out.base (Nat.le_succ _)
      | false =>
        go_wp2_with (at_builtin; refine wpList_append_own _ rfl _ _ 22 rfl (w.heap.size + 1) 35 i0 (.agg #[.int .i64 0, .int .i64 0]) 2 16 Tryd.underlying22 hi hz0 hz1 hz2 rfl (by decide) _ _ _ rfl (HOO.out.alloc _) ⟨wr.heap.size, 0, none⟩ 1 1 [.int .i64 xl, .int .i64 xh] rfl rfl (cell2_new _ _ _ _) (by simp [Value.oneCell']) (by unfold maxLen; omega) (by omega) (by simp; omega) ?_; intro v1 w1 hown' hgrow _; have R := ownR_snoc (w := W0) (r := (xl, xh)) rfl HO.out (by simpa using hown') hgrow rfl hB (by omega); have HR1 := hidE R; clear hown' hgrow R)
        go_ret
        refine ⟨_, rfl, ?_, (HX.out _ HR1.out.2).2.2⟩
        have := HQ.out
        rw [HDR.out] at this
        rw [← this]
        simpa [putL] using HR1.out.1.base (Nat.le_succ _)
end Go.Proofs.YtnkllhihdjjmnaaDoor
