/-
  The walk of caesuraref3.ordered.
-/
import Derived.Test.YtnkllhihdjjmnaaDoorPutW
namespace Go.Proofs.YtnkllhihdjjmnaaDoor
open Go.RowKit
set_option maxRecDepth 10000 in
set_option maxHeartbeats 400000 in
theorem ordered_any (l : List (Int × Int)) (a : Option Addr) (cap : Nat) (hl : l.length ≤ 50000000) (w : World) (ha : RA w a l) :
    Calls Tryd.prog 56 #[.slice a l.length cap] w fun e w' => ∃ v o, e = .returned v ∧ OwnR w' w.heap.size v o ∧ Ris o ∧ o.Perm l ∧ Below w.heap.size w w' := by
  obtain ⟨i0, hi, hz0, hz1, hz2⟩ := info_parts infoRange
  have HA := hidE ha
  clear ha
  go_enter Tryd.func56, Tryd.ntmps56
  go_wp2
  go_loopw [3, 4] (fun v i wr => ∃ (k : Nat) (o : List (Int × Int)), k ≤ l.length ∧ i = .int .i64 (k : Int) ∧ OwnR wr w.heap.size v o ∧ Ris o ∧ o.Perm (l.take k) ∧ Below w.heap.size w wr) (fun _ i _ => l.length - (intOf i).toNat)
  case atStart => exact ⟨0, [], Nat.zero_le _, rfl, OwnR.nil _ _, List.Pairwise.nil, List.Perm.refl _, Below.refl _ _⟩
  case round =>
    obtain ⟨k, o, hk, rfl, hown, hris, hperm, hB⟩ := hrel
    have HO := hidE hown
    have HQ := hidE (And.intro hris hperm)
    have hol : o.length = k := by rw [hperm.length_eq, List.length_take]; omega
    have hs := hB.size
    clear hown hris hperm
    by_cases hlt : k < l.length
    · obtain ⟨b1, o1, rfl, d0, d1⟩ := (HA.out.later hB).at' k hlt
      have HD := hidE (List.take_succ_eq_append_getElem hlt)
      generalize l[k] = r at *
      obtain ⟨lo, hi'⟩ := r
      simp only at d0 d1
      obtain ⟨a', c', rfl, hra⟩ := HO.out.ra
      have HRA := hidE hra
      clear hra
      rcases List.eq_nil_or_concat o with ho0 | ⟨ini, ⟨ll, lh⟩, hoc⟩
      · have HE := hidE ho0
        have hol0 : o.length = 0 := by rw [ho0]; rfl
        rw [hol0] at HO ⊢
        have HL := hidE hol0
        clear ho0 hol0 hol
        go_wp2
        go_big_quiet (fail)
        have HOq : Hid (OwnR (wr.drewN nq) w.heap.size (.slice a' 0 c') o) := HO.out
        have hBq := below_drewN hB nq
        have hsq := hBq.size
        have dq0 : (wr.drewN nq).cell? ⟨b1, o1 + k * 2, none⟩ = some (.int .i64 lo) := d0
        have dq1 : (wr.drewN nq).cell? ⟨b1, o1 + k * 2 + 1, none⟩ = some (.int .i64 hi') := d1
        have HRq : Hid (RA (wr.drewN nq) a' o) := HRA.out.later (below_drewN (Below.refl _ wr) nq)
        generalize wr.drewN nq = wq at *
        clear d0 d1 HO hB hs HRA
        have HOO : Hid (wq.ownsRow w.heap.size 35 2 (.slice a' 0 c') 0 (cellsR o)) := (by have := HOq.out; unfold OwnR at this; rw [HL.out] at this; exact this)
        go_wp2_with (at_builtin; refine wpList_append_own _ rfl _ _ 22 rfl w.heap.size 35 i0 (.agg #[.int .i64 0, .int .i64 0]) 2 16 Tryd.underlying22 hi hz0 hz1 hz2 rfl (by decide) _ (0) (cellsR o) rfl (HOO.out.alloc _) ⟨wq.heap.size, 0, none⟩ 1 1 [.int .i64 lo, .int .i64 hi'] rfl rfl (cell2_new _ _ _ _) (by simp [Value.oneCell']) (by unfold maxLen; omega) (by omega) (by simp; omega) ?_; intro v1 w1 hown' hgrow _; have R := ownR_snoc (w := w) (l := o) (r := (lo, hi')) HL.out.symm HOq.out (by simpa using hown') hgrow rfl hBq (Nat.le_refl _); have HR1 := hidE R; clear hown' hgrow R)
        go_roundw
        case rel => exact ⟨k + 1, o ++ [(lo, hi')], by omega, by go_num, HR1.out.1, ris_snoc HQ.out.1 (fun y hy => by rw [HE.out] at hy; cases hy), by rw [HD.out]; exact HQ.out.2.append_right _, HR1.out.2⟩
        case measure => simp [intOf]; omega
      · have hlen : o.length = ini.length + 1 := by rw [hoc]; simp
        have hk1 : k = ini.length + 1 := by omega
        obtain ⟨g, of', rfl, e0, e9⟩ := HRA.out.at' ini.length (by omega)
        clear e9
        have hge : o[ini.length]'(by omega) = (ll, lh) := by simp [hoc]
        rw [hge] at e0
        simp only at e0
        have HE := hidE hoc
        have HP := put_any o lo hi' (some ⟨g, of', none⟩) c' (by omega)
        rw [hlen] at HO HP ⊢
        have HL := hidE hlen
        have HPP := hidE HP
        have hil : ini.length + 1 ≤ 50000000 := by omega
        clear hlen hol HP hge hoc
        generalize ini.length = m at *
        clear hk1
        have hm0 : ((m : Int) + 1 == 0) = false := by rw [beq_eq_false_iff_ne]; omega
        by_cases hle : ll ≤ lo
        · have hle' : decide (ll ≤ lo) = true := decide_eq_true hle
          go_wp2
          go_big_quiet (fail)
          have HOq : Hid (OwnR (wr.drewN nq) w.heap.size (.slice (some ⟨g, of', none⟩) (m + 1) c') o) := HO.out
          have hBq := below_drewN hB nq
          have hsq := hBq.size
          have dq0 : (wr.drewN nq).cell? ⟨b1, o1 + k * 2, none⟩ = some (.int .i64 lo) := d0
          have dq1 : (wr.drewN nq).cell? ⟨b1, o1 + k * 2 + 1, none⟩ = some (.int .i64 hi') := d1
          have HRq : Hid (RA (wr.drewN nq) (some ⟨g, of', none⟩) o) := HRA.out.later (below_drewN (Below.refl _ wr) nq)
          generalize wr.drewN nq = wq at *
          clear e0 d0 d1 HO hB hs HRA
          have HOO : Hid (wq.ownsRow w.heap.size 35 2 (.slice (some ⟨g, of', none⟩) (m + 1) c') (m + 1) (cellsR o)) := (by have := HOq.out; unfold OwnR at this; rw [HL.out] at this; exact this)
          go_wp2_with (at_builtin; refine wpList_append_own _ rfl _ _ 22 rfl w.heap.size 35 i0 (.agg #[.int .i64 0, .int .i64 0]) 2 16 Tryd.underlying22 hi hz0 hz1 hz2 rfl (by decide) _ (m + 1) (cellsR o) rfl (HOO.out.alloc _) ⟨wq.heap.size, 0, none⟩ 1 1 [.int .i64 lo, .int .i64 hi'] rfl rfl (cell2_new _ _ _ _) (by simp [Value.oneCell']) (by unfold maxLen; omega) (by omega) (by simp; omega) ?_; intro v1 w1 hown' hgrow _; have R := ownR_snoc (w := w) (l := o) (r := (lo, hi')) HL.out.symm HOq.out (by simpa using hown') hgrow rfl hBq (Nat.le_refl _); have HR1 := hidE R; clear hown' hgrow R)
          go_roundw
          case rel => exact ⟨k + 1, o ++ [(lo, hi')], by omega, by go_num, HR1.out.1, ris_snoc HQ.out.1 (fun y hy => by have h1 := HQ.out.1; rw [HE.out, List.concat_eq_append] at h1 hy; have := ris_last h1 y hy; simp only at this ⊢; omega), by rw [HD.out]; exact HQ.out.2.append_right _, HR1.out.2⟩
          case measure => simp [intOf]; omega
        · have hle' : decide (ll ≤ lo) = false := decide_eq_false hle
          go_wp2
          go_big_quiet (fail)
          have HOq : Hid (OwnR (wr.drewN nq) w.heap.size (.slice (some ⟨g, of', none⟩) (m + 1) c') o) := HO.out
          have hBq := below_drewN hB nq
          have hsq := hBq.size
          have dq0 : (wr.drewN nq).cell? ⟨b1, o1 + k * 2, none⟩ = some (.int .i64 lo) := d0
          have dq1 : (wr.drewN nq).cell? ⟨b1, o1 + k * 2 + 1, none⟩ = some (.int .i64 hi') := d1
          have HRq : Hid (RA (wr.drewN nq) (some ⟨g, of', none⟩) o) := HRA.out.later (below_drewN (Below.refl _ wr) nq)
          generalize wr.drewN nq = wq at *
          clear e0 d0 d1 HO hB hs HRA
          go_wp2_with (go_at_call 60; refine (HPP.out _ HRq.out).mono ?_; rintro e w1 ⟨v1, rfl, ho1, hb1⟩; have HR1 := hidE ho1; have HB1 := hidE (hBq.trans (hb1.mono hsq)); clear ho1 hb1)
          go_roundw
          case rel => exact ⟨k + 1, putL o (lo, hi'), by omega, by go_num, HR1.out.base hsq, putL_ris _ HQ.out.1, by rw [HD.out]; exact (putL_perm o (lo, hi')).trans ((List.Perm.cons _ HQ.out.2).trans (List.perm_append_singleton _ _).symm), HB1.out⟩
          case measure => simp [intOf]; omega
    · have hki : ¬ (k : Int) < (l.length : Int) := by omega
      go_wp2
      go_ret
      refine ⟨_, rfl, o, HO.out, HQ.out.1, ?_, hB⟩
      have := HQ.out.2
      rwa [List.take_of_length_le (by omega)] at this
end Go.Proofs.YtnkllhihdjjmnaaDoor
