/-
  The walk of caesuraref3.normal.
-/
import Derived.Test.YtnkllhihdjjmnaaDoorOrdW
import Derived.Test.YtnkllhihdjjmnaaDoorWalkM
import Derived.Laws.OwnMore
namespace Go.Proofs.YtnkllhihdjjmnaaDoor
open Go.RowKit
theorem OwnR.full {w : World} {base : Nat} {v : Value} {l : List (Int × Int)} (h : OwnR w base v l) (hp : 0 < l.length) : ∃ g cap, v = .slice (some ⟨g, 0, none⟩) l.length cap ∧ base ≤ g := by
  rcases h.2 with ⟨_, hn⟩ | ⟨g, cap, cur, hv, hg, _⟩
  · omega
  · exact ⟨g, cap, hv, hg⟩
theorem cells_set (ini : List (Int × Int)) (a b c : Int) : (cellsR (ini ++ [(a, b)])).set (ini.length * 2 + 1) (.int .i64 c) = cellsR (ini ++ [(a, c)]) := by
  rw [cellsR_append, cellsR_append, List.set_append_right _ _ (by rw [cellsR_length]; omega), cellsR_length]
  rw [show ini.length * 2 + 1 - ini.length * 2 = 1 by omega]
  rfl
theorem OwnR.lengthen {w : World} {base g cap m : Nat} {ini : List (Int × Int)} {a b : Int} (hm : m = ini.length) (h : OwnR w base (.slice (some ⟨g, 0, none⟩) (m + 1) cap) (ini ++ [(a, b)])) (c : Int) :
    OwnR (w.setCell ⟨g, m * 2 + 1, none⟩ (.int .i64 c)) base (.slice (some ⟨g, 0, none⟩) (m + 1) cap) (ini ++ [(a, c)]) := by
  subst hm
  have h0 : w.ownsRow base 35 2 (.slice (some ⟨g, 0, none⟩) (ini.length + 1) cap) (ini.length + 1) (cellsR (ini ++ [(a, b)])) := by
    have := h
    unfold OwnR at this
    rw [List.length_append] at this
    exact this
  have := (World.ownsRow.stored h0 (ini.length * 2 + 1) (.int .i64 c)).1
  rw [cells_set] at this
  unfold OwnR
  rw [List.length_append]
  exact this
set_option maxRecDepth 10000 in
set_option maxHeartbeats 400000 in
theorem refNormal_any (l : List (Int × Int)) (a : Option Addr) (cap : Nat) (hl : l.length ≤ 50000000) (hm : mayL l = true) (w : World) (ha : RA w a l) :
    Calls Tryd.prog 47 #[.slice a l.length cap] w fun e w' => ∃ v o, e = .returned v ∧ OwnR w' w.heap.size v o ∧ NormF 0 o ∧ (∀ p, pts o p = pts l p) ∧ Below w.heap.size w w' := by
  obtain ⟨i0, hi, hz0, hz1, hz2⟩ := info_parts infoRange
  have HD := hidE (ordered_any l a cap hl w ha)
  clear ha
  go_enter Tryd.func47, Tryd.ntmps47
  go_wp2_with (go_at_call 56; refine HD.out.mono ?_; rintro e w1 ⟨v1, q, rfl, ho1, hris, hperm, hb1⟩; obtain ⟨aq, cq, rfl, hrq⟩ := ho1.ra)
  have hql : q.length = l.length := hperm.length_eq
  have hqm := may_perm hperm hm
  have HB1 := hidE hb1
  have hs1 := hb1.size
  have HRQ := hidE hrq
  have HPQ := hidE (fun p => pts_perm hperm p)
  have HRI := hidE hris
  have HMQ := hidE (fun k (h : k < q.length) => List.all_eq_true.1 hqm _ (List.getElem_mem h))
  have hqb : q.length ≤ 50000000 := by omega
  clear ho1 hris hperm hb1 hrq hqm HD hql
  go_loopw [4, 5] (fun v i wr => ∃ (k : Nat) (o : List (Int × Int)), k ≤ q.length ∧ i = .int .i64 (k : Int) ∧ OwnR wr w1.heap.size v o ∧ Joined (q.take k) o ∧ (∀ x ∈ o, ∀ r ∈ q.drop k, x.1 ≤ r.1) ∧ Below w1.heap.size w1 wr) (fun _ i _ => q.length - (intOf i).toNat)
  case atStart => exact ⟨0, [], Nat.zero_le _, rfl, OwnR.nil _ _, Joined.start, fun x hx => (by cases hx), Below.refl _ _⟩
  case round =>
    obtain ⟨k, o, hk, rfl, hown, hj, hlow, hB⟩ := hrel
    have HO := hidE hown
    have HJ := hidE hj
    have hol := (norm_len hj.norm (Int.le_refl 0)).1
    have HLW := hidE hlow
    have hs := hB.size
    clear hown hj hlow
    by_cases hlt : k < q.length
    · obtain ⟨b1, o1, rfl, d0, d1⟩ := (HRQ.out.later hB).at' k hlt
      have HT := hidE (List.take_succ_eq_append_getElem hlt)
      have hmr := HMQ.out k hlt
      have HDR := hidE (List.drop_eq_getElem_cons hlt)
      have HRS : Hid (∀ r ∈ q.drop (k + 1), q[k].1 ≤ r.1) := fun r hr => by
        have h := HRI.out
        unfold Ris at h
        have h2 : (q.drop k).Pairwise (fun x y => x.1 ≤ y.1) := h.sublist (List.drop_sublist k q)
        rw [List.drop_eq_getElem_cons hlt] at h2
        exact (List.pairwise_cons.1 h2).1 r hr
      generalize q[k] = r at *
      obtain ⟨lo, hi'⟩ := r
      simp only at d0 d1
      have hmb := (mayR_iff _).1 hmr
      have HMR := hidE hmr
      simp only at hmb
      clear hmr
      rcases List.eq_nil_or_concat o with ho0 | ⟨ini, ⟨ll, lh⟩, hoc⟩
      · subst ho0
        obtain ⟨a', c', rfl, _⟩ := HO.out.ra
        have HOO : Hid (wr.ownsRow w1.heap.size 35 2 (.slice a' 0 c') 0 (cellsR [])) := HO.out
        rw [List.length_nil] at HO ⊢
        go_wp2
        go_big_quiet (fail)
        have HOq : Hid ((wr.drewN nq).ownsRow w1.heap.size 35 2 (.slice a' 0 c') (0) (cellsR ([]))) := HOO.out
        have HOr : Hid (OwnR (wr.drewN nq) w1.heap.size (.slice a' 0 c') []) := HO.out
        have hBq := below_drewN hB nq
        have hsq := hBq.size
        have dq0 : (wr.drewN nq).cell? ⟨b1, o1 + k * 2, none⟩ = some (.int .i64 lo) := d0
        have dq1 : (wr.drewN nq).cell? ⟨b1, o1 + k * 2 + 1, none⟩ = some (.int .i64 hi') := d1
        generalize wr.drewN nq = wq at *
        clear d0 d1 HO hB hs
        go_wp2_with (at_builtin; go_loud (refine wpList_append_own _ rfl _ _ 22 rfl w1.heap.size 35 i0 (.agg #[.int .i64 0, .int .i64 0]) 2 16 Tryd.underlying22 hi hz0 hz1 hz2 rfl (by decide) _ (0) (cellsR ([])) rfl (HOq.out.alloc _) ⟨wq.heap.size, 0, none⟩ 1 1 [.int .i64 lo, .int .i64 hi'] rfl rfl (cell2_new _ _ _ _) (by simp [Value.oneCell']) (by unfold maxLen; omega) (by omega) (by simp; omega) ?_; intro v1 w2 hown' hgrow _; have R := ownR_snoc (w := w1) (l := []) (r := (lo, hi')) (n := 0) rfl HOr.out (by simpa using hown') hgrow rfl hBq (Nat.le_refl _); have HR1 := hidE R; clear hown' hgrow R))
        go_roundw
        case rel => exact ⟨k + 1, [(lo, hi')], by omega, by go_num, HR1.out.1, by rw [HT.out]; exact HJ.out.first HMR.out, fun x hx r hr => (by have hx' : x = (lo, hi') := (by simpa using hx); rw [hx']; exact HRS.out r hr), HR1.out.2⟩
        case measure => simp [intOf]; omega
      · rw [List.concat_eq_append] at hoc
        subst hoc
        have hlow1 := HLW.out (ll, lh) (by simp) (lo, hi') (by rw [HDR.out]; simp)
        simp only at hlow1
        have hnb := norm_mem HJ.out.norm (ll, lh) (by simp)
        simp only at hnb
        obtain ⟨g, c', rfl, hg⟩ := HO.out.full (by simp)
        have hO2 : wr.ownsRow w1.heap.size 35 2 (.slice (some ⟨g, 0, none⟩) (ini ++ [(ll, lh)]).length c') (ini ++ [(ll, lh)]).length (cellsR (ini ++ [(ll, lh)])) := HO.out
        have hca := cellsR_at (ini ++ [(ll, lh)]) ini.length (by simp)
        have e0 := World.ownsRow.cellAt hO2 (ini.length * 2) (by rw [List.length_append, List.length_cons, List.length_nil]; omega)
        have e1 := World.ownsRow.cellAt hO2 (ini.length * 2 + 1) (by rw [List.length_append, List.length_cons, List.length_nil]; omega)
        have f1 := World.ownsRow.frozenAt hO2 (ini.length * 2 + 1)
        rw [hca.1] at e0
        rw [hca.2] at e1
        simp only [List.getElem_append_right (Nat.le_refl _), Nat.sub_self, List.getElem_cons_zero] at e0 e1
        have hlen : (ini ++ [(ll, lh)]).length = ini.length + 1 := by simp
        rw [hlen] at HO hO2 hol ⊢
        have HOO := hidE hO2
        have hmm : ∃ m, m = ini.length := ⟨_, rfl⟩
        obtain ⟨m, hmm⟩ := hmm
        rw [← hmm] at HO hol e0 e1 f1 HOO ⊢
        have HMM := hidE hmm
        have hm0 : ((m : Int) + 1 == 0) = false := by rw [beq_eq_false_iff_ne]; omega
        have hol2 : (m : Int) + 1 ≤ 1114112 := by omega
        clear hmm hca hO2 hlen hol
        clear hm0
        by_cases hle : lo ≤ lh + 1
        · have hle' : decide (lo ≤ lh + 1) = true := decide_eq_true hle
          by_cases hgt : lh < hi'
          · have hgt' : decide (lh < hi') = true := decide_eq_true hgt
            go_wp2
            go_big_quiet (fail)
            go_wp2
            go_big_quiet (fail)
            go_wp2
            go_roundw
            case rel => exact ⟨k + 1, ini ++ [(ll, hi')], by omega, by go_num, OwnR.lengthen (w := wr.drewN _) HMM.out HO.out hi', by rw [HT.out]; exact HJ.out.longer HMR.out hlow1 hle hgt, fun x hx r hr => (by rcases List.mem_append.1 hx with hx | hx; exact HLW.out x (by simp [hx]) r (by rw [HDR.out]; simp [hr]); have hx' : x = (ll, hi') := (by simpa using hx); rw [hx']; exact HLW.out (ll, lh) (by simp) r (by rw [HDR.out]; simp [hr])), (below_drewN hB _).setCell (p := ⟨g, m * 2 + 1, none⟩) hg _⟩
            case measure => simp [intOf]; omega
          · have hgt' : decide (lh < hi') = false := decide_eq_false hgt
            go_wp2
            go_big_quiet (fail)
            go_wp2
            go_big_quiet (fail)
            go_wp2
            go_roundw
            case rel => exact ⟨k + 1, ini ++ [(ll, lh)], by omega, by go_num, HO.out, by rw [HT.out]; exact HJ.out.within hlow1 (by simp only; omega), fun x hx r hr => HLW.out x hx r (by rw [HDR.out]; simp [hr]), below_drewN hB _⟩
            case measure => simp [intOf]; omega
        · have hle' : decide (lo ≤ lh + 1) = false := decide_eq_false hle
          go_wp2
          go_big_quiet (fail)
          have HOq : Hid ((wr.drewN nq).ownsRow w1.heap.size 35 2 (.slice (some ⟨g, 0, none⟩) (m + 1) c') (m + 1) (cellsR (ini ++ [(ll, lh)]))) := HOO.out
          have HOr : Hid (OwnR (wr.drewN nq) w1.heap.size (.slice (some ⟨g, 0, none⟩) (m + 1) c') (ini ++ [(ll, lh)])) := HO.out
          have hBq := below_drewN hB nq
          have hsq := hBq.size
          have dq0 : (wr.drewN nq).cell? ⟨b1, o1 + k * 2, none⟩ = some (.int .i64 lo) := d0
          have dq1 : (wr.drewN nq).cell? ⟨b1, o1 + k * 2 + 1, none⟩ = some (.int .i64 hi') := d1
          generalize wr.drewN nq = wq at *
          clear e0 e1 f1 d0 d1 HO hB hs
          go_wp2_with (at_builtin; refine wpList_append_own _ rfl _ _ 22 rfl w1.heap.size 35 i0 (.agg #[.int .i64 0, .int .i64 0]) 2 16 Tryd.underlying22 hi hz0 hz1 hz2 rfl (by decide) _ (m + 1) (cellsR (ini ++ [(ll, lh)])) rfl (HOq.out.alloc _) ⟨wq.heap.size, 0, none⟩ 1 1 [.int .i64 lo, .int .i64 hi'] rfl rfl (cell2_new _ _ _ _) (by simp [Value.oneCell']) (by unfold maxLen; omega) (by omega) (by simp; omega) ?_; intro v1 w2 hown' hgrow _; have R := ownR_snoc (w := w1) (l := ini ++ [(ll, lh)]) (r := (lo, hi')) (n := m + 1) (by rw [HMM.out]; simp) HOr.out (by simpa using hown') hgrow rfl hBq (Nat.le_refl _); have HR1 := hidE R; clear hown' hgrow R)
          go_roundw
          case rel => exact ⟨k + 1, ini ++ [(ll, lh)] ++ [(lo, hi')], by omega, by go_num, HR1.out.1, by rw [HT.out]; exact HJ.out.apart HMR.out (by simp only; omega), fun x hx r hr => (by rcases List.mem_append.1 hx with hx | hx; exact HLW.out x hx r (by rw [HDR.out]; simp [hr]); have hx' : x = (lo, hi') := (by simpa using hx); rw [hx']; exact HRS.out r hr), HR1.out.2⟩
          case measure => simp [intOf]; omega
    · have hki : ¬ (k : Int) < (q.length : Int) := by omega
      go_wp2
      go_ret
      refine ⟨_, rfl, o, HO.out.base hs1, HJ.out.norm, fun p => ?_, HB1.out.trans (hB.mono hs1)⟩
      have := HJ.out.same p
      rw [List.take_of_length_le (by omega)] at this
      rw [this]
      exact HPQ.out p
end Go.Proofs.YtnkllhihdjjmnaaDoor
