/-
  The pieces of the short file: a function that calls at each (stage 23; written by TfJW.py).
-/
import Derived.Test.YtcbepmjojppokaaGreatDoorTpIW
import Derived.RangeFuncNested
import Derived.RangeFuncBound
import Derived.RangeFuncCalls
import Derived.RangeFuncLeaves
import Derived.RangeFuncBox
import Derived.OwnWalkIn
import Derived.TacticsInMore
import Derived.LoopNIn
import Derived.LoopIn
import Derived.Shelf.RegionOpen
namespace Go.Proofs.YtcbepmjojppokaaGreatDoor.Tp
open Go.RowKit Go.Shelf
attribute [local go_sem] Oper.semAt_some
/-- All cells but those of the types T stay. -/
structure Kc (T : List TypeId) (w w' : World) : Prop where
  size : w.heap.size ≤ w'.heap.size
  keep : ∀ (i : Nat) (c : Array Value) (t : TypeId) (z : Nat × Nat), w.heap[i]? = some (Obj.cells c t z) → t ∉ T → w'.heap[i]? = some (Obj.cells c t z)
theorem Kc.refl (T : List TypeId) (w : World) : Kc T w w := ⟨Nat.le_refl _, fun _ _ _ _ h _ => h⟩
theorem Kc.trans {T : List TypeId} {a b c : World} (h : Kc T a b) (k : Kc T b c) : Kc T a c := ⟨Nat.le_trans h.size k.size, fun i cs t z hi ht => k.keep i cs t z (h.keep i cs t z hi ht) ht⟩
theorem Kc.below {T : List TypeId} {w w' : World} (h : Below w.heap.size w w') : Kc T w w' := ⟨h.size, fun i _ _ _ hi _ => (h.block i (Array.getElem?_eq_some_iff.1 hi).1).trans hi⟩
/-- What a round of shortFile may write: the results, the builder, its bytes. -/
def tyS : List TypeId := [9, 24, 85, 5]
theorem case_tyS : 50 ∉ tyS := by decide
theorem drew_below (w : World) : Below w.heap.size w w.drew := (Below.refl _ w).drew
theorem row_on {w : World} {b : Nat} {o : Obj} (h : w.heap[b]? = some o) : ∀ V, Below w.heap.size w V → V.heap[b]? = some o := fun _ hV => (hV.block _ (Array.getElem?_eq_some_iff.1 h).1).trans h
set_option maxRecDepth 100000 in
set_option maxHeartbeats 6400000 in
theorem pieces1_in (n : Nat) (_hn : 1 ≤ n) (l g : Nat) (C : List Cs) (a : Option Addr) (cap : Nat) (w0 : World) (hl : C.length ≤ 20000) (hP : ∀ x ∈ C, x.1.length ≤ 20000000 ∧ x.2.length ≤ 1000000000) (hok : okC C = true) (hC : CsA w0 a C) (hT : TabAt 20 Lib.deBruijn64tab w0)
    (J : List (List UInt8) → World → Prop) (w : World)
    (hJs : ∀ pre A, J pre A → Below w0.heap.size w0 A ∧ A.heap[g]? = some (.cells #[.slice a C.length cap] 22 (0, 0)))
    (hJb : ∀ pre A B, J pre A → Below A.heap.size A B → J pre B)
    (hY : ∀ pre x A, J pre A → okP pre = true → (∃ r, pre ++ x :: r = pcs C C.length) → YieldAt Fence.wide (n - 1) Tryz.prog l #[.string ⟨x.toArray⟩] A fun e A' => e = .returned (.bool (okP (pre ++ [x]))) ∧ J (pre ++ [x]) A' ∧ Kc tyS A A')
    (h0 : J [] w) :
    CallsIn Fence.wide n Tryz.prog 55 #[.func (.yield l) #[] #[], .pointer (some ⟨g, 0, none⟩)] w fun e w' => (∃ v, e = .returned v) ∧ ∃ pre, J pre w' ∧ (∃ r, pre ++ r = pcs C C.length) ∧ (okP pre = true → pre = pcs C C.length) := by
  have Hf0 : Hid (∀ f : FuncId, Option.none = some f → Fence.wide.fn f) := hid0 (fun _ _ => trivial)
  have Hf2 : Hid (Fence.wide.fn 56) := hid0 trivial
  have HJs := hid0 hJs
  have HJb := hid0 hJb
  have HYy : Hid (∀ pre x A (v : Bool), okP (pre ++ [x]) = v → J pre A → okP pre = true → (∃ r, pre ++ x :: r = pcs C C.length) → YieldAt Fence.wide (n - 1) Tryz.prog l #[.string ⟨x.toArray⟩] A fun e A' => e = .returned (.bool v) ∧ J (pre ++ [x]) A' ∧ Kc tyS A A') := hid0 (fun pre x A v hv h1 h2 h3 => by rw [← hv]; exact hY pre x A h1 h2 h3)
  have HPm := hid0 hP
  have HOk := hid0 hok
  have HC := hid0 hC
  have HT := hid0 hT
  have HJ0 := hid0 h0
  have x0 : w.cell? ⟨g, 0, none⟩ = some (.slice a C.length cap) := by rw [cell_of_row _ _ _ _ _ _ (hJs _ _ h0).2]; rfl
  obtain ⟨N, hN⟩ : ∃ N, N = C.length := ⟨_, rfl⟩
  have HN := hid0 hN
  have HJ00 : Hid (J (pcs C 0) w) := HJ0
  have HO00 : Hid (okP (pcs C 0) = true) := hid0 rfl
  rw [← hN] at hl x0
  clear hJs hJb hY h0 hP hok hC hT hN HJ0
  refine callsIn_of_wp Tryz.func55 rfl trivial ?_ rfl
  simp only [Tryz.ntmps55, List.size_toArray, List.length_cons, List.length_nil, Nat.reduceAdd, Nat.reduceSub, Array.replicate_succ, Array.replicate_zero, List.push_toArray, List.append_toArray, List.nil_append, List.cons_append]
  gi_wp2
  clear x0
  gi_loopw [3, 4, 5, 6, 9] (fun _ _ _ _ i wr => ∃ k : Nat, k ≤ N ∧ i = .int .i64 (k : Int) ∧ Hid (J (pcs C k) wr) ∧ Hid (okP (pcs C k) = true)) (fun _ _ _ _ i _ => N - (intOf i).toNat)
  case atStart => exact ⟨0, Nat.zero_le _, rfl, HJ00, HO00⟩
  case round =>
    clear HJ00 HO00
    obtain ⟨k, hk, rfl, HJ, HO⟩ := hrel
    by_cases hlt : k < N
    · have hkI : (k : Int) < (N : Int) := by omega
      have hkI0 : (0 : Int) ≤ (k : Int) := by omega
      have hkr : k < C.length := by rw [← HN.out]; exact hlt
      have HKr := hid0 hkr
      obtain ⟨P, B, b, off, aP, aB, cP1, cB1, hx, ea, hbl, d0, d1, i1, i2⟩ := HC.out.get k hkr
      have hbr := (HJs.out _ _ HJ.out).1
      have y0 : wr.cell? ⟨b, off + k * 2, none⟩ = some (.slice aP P.length cP1) := (hbr.cell (p := ⟨b, off + k * 2, none⟩) hbl).trans d0
      have y1 : wr.cell? ⟨b, off + k * 2 + 1, none⟩ = some (.slice aB B.length cB1) := (hbr.cell (p := ⟨b, off + k * 2 + 1, none⟩) hbl).trans d1
      have HI : Hid (∀ V, Below w0.heap.size w0 V → IA V aP P ∧ IA V aB B) := hid0 (fun V hV => ⟨i1.past hV, i2.past hV⟩)
      have hmc := okC_at HOk.out k hkr
      rw [hx] at hmc
      have HMc := hid0 hmc
      have HcP : Hid (cP C k = P) := hid0 (by rw [cP_at hkr, hx])
      have HcB : Hid (cB C k = B) := hid0 (by rw [cB_at hkr, hx])
      have hpl : P.length ≤ 20000000 := by have := (HPm.out _ (List.getElem_mem hkr)).1; rw [hx] at this; exact this
      have hbl2 : B.length ≤ 1000000000 := by have := (HPm.out _ (List.getElem_mem hkr)).2; rw [hx] at this; exact this
      have HMk : Hid (∀ (i : Nat) (V : World), Below w0.heap.size w0 V → Calls Tryz.prog 56 #[.agg #[.slice aP P.length cP1, .slice aB B.length cB1], .int .i64 (i : Int)] V fun e w' => e = .returned (.string ⟨(mkF B i).toArray⟩) ∧ Below V.heap.size V w') := hid0 (fun i V hV => mark_any B _ aB cB1 i _ V hbl2 (mayC_rise hmc) (i2.past hV))
      obtain ⟨W1, hW1⟩ : ∃ W1, W1 = wr.alloc (.cells #[.slice aP P.length cP1, .slice aB B.length cB1] 50) := ⟨_, rfl⟩
      have hb1 : Below wr.heap.size wr W1 := by rw [hW1]; exact (Below.refl _ _).alloc (Nat.le_refl _) _
      have HR1 : Hid (W1.heap[wr.heap.size]? = some (.cells #[.slice aP P.length cP1, .slice aB B.length cB1] 50 (0, 0))) := hid0 (by rw [hW1]; exact heap_alloc_new wr _)
      have HJ1 : Hid (J (pcs C k) W1) := hid0 (HJb.out _ _ _ HJ.out hb1)
      have HRB : Hid (∀ V : World, V.heap[wr.heap.size]? = some (.cells #[.slice aP P.length cP1, .slice aB B.length cB1] 50 (0, 0)) → V.cell? ⟨wr.heap.size, 0, none⟩ = some (.slice aP P.length cP1) ∧ V.cell? ⟨wr.heap.size, 1, none⟩ = some (.slice aB B.length cB1)) := hid0 (fun V hV => ⟨by rw [cell_of_row _ _ _ _ _ _ hV]; rfl, by rw [cell_of_row _ _ _ _ _ _ hV]; rfl⟩)
      obtain ⟨m, hm⟩ : ∃ m, m = P.length := ⟨_, rfl⟩
      obtain ⟨mB, hmB⟩ : ∃ mB, mB = B.length := ⟨_, rfl⟩
      have HMl := hid0 hm
      rw [← hm] at y0 HMk hpl HR1 HRB hW1
      rw [← hmB] at y1 HMk HR1 HRB hW1
      have hfold := hW1.symm
      subst ea
      clear hbr d0 d1 i1 i2 hx hmc hkr hb1 hW1 HJ hm hmB hbl2
      obtain ⟨x0, x1⟩ := HRB.out W1 HR1.out
      by_cases h0 : 0 < k
      · have h0I : (k : Int) > 0 := by omega
        have hsp := pc_sep HKr.out h0
        have HSp := hid0 hsp
        clear hsp
        cases ok1 : okP (pcs C k ++ [[10]]) with
        | false =>
          obtain ⟨fn1, tmps1, assign1, body1, hy1, hR1⟩ := HYy.out _ _ W1 false ok1 HJ1.out HO.out HSp.out.1
          have HRd1 := hid0 hR1
          have HOF := hid0 ok1
          clear hR1 ok1
          gi_wp2
          refine HRd1.out.mono ?_
          rintro e W3 ⟨rfl, hj3, _⟩
          have HJ3 := hid0 hj3
          clear hj3 hy1 HRd1
          gi_wp2_with (first | (with_reducible refine And.intro Hf0.out ?_) | (with_reducible refine And.intro Hf2.out ?_) | fail)
          refine bodyPost_ret (results_none rfl _ _ _) rfl ?_
          exact ⟨⟨_, rfl⟩, _, HJ3.out, (by obtain ⟨r, hr⟩ := HSp.out.1; exact ⟨r, by rw [← hr]; simp⟩), fun h => by rw [HOF.out] at h; cases h⟩
        | true =>
          obtain ⟨fn1, tmps1, assign1, body1, hy1, hR1⟩ := HYy.out _ _ W1 true ok1 HJ1.out HO.out HSp.out.1
          have HRd1 := hid0 hR1
          have HO1 := hid0 ok1
          clear hR1 ok1
          gi_wp2
          refine HRd1.out.mono ?_
          rintro e W3 ⟨rfl, hj3, hk3⟩
          have HJ3 := hid0 hj3
          have HRm : Hid (W3.heap[wr.heap.size]? = some (.cells #[.slice aP m cP1, .slice aB mB cB1] 50 (0, 0))) := hid0 (hk3.keep _ _ _ _ HR1.out case_tyS)
          clear hj3 hk3 hy1 HRd1 x0 x1 hfold
          obtain ⟨x0, x1⟩ := HRB.out W3 HRm.out
          have HJm : Hid (J (pcs C k ++ sepP k) W3) := hid0 (by rw [HSp.out.2]; exact HJ3.out)
          have HOm : Hid (okP (pcs C k ++ sepP k) = true) := hid0 (by rw [HSp.out.2]; exact HO1.out)
          have HBm := hid0 (HJs.out _ _ HJm.out).1
          have HMm := hid0 (HMk.out 0 W3 HBm.out)
          have HY2 : Hid (∀ (v : Bool), okP ((pcs C k ++ sepP k) ++ [mkF B 0]) = v → ∀ V, Below W3.heap.size W3 V → YieldAt Fence.wide (n - 1) Tryz.prog l #[.string ⟨(mkF B 0).toArray⟩] V fun e A' => e = .returned (.bool v) ∧ J (pcJ C k 0) A' ∧ Kc tyS V A') := hid0 (fun v hv V hV => by
            have h := pc_mark HKr.out
            rw [HcB.out] at h
            rw [← h.2]
            exact HYy.out _ _ V v hv (HJb.out _ _ _ HJm.out hV) HOm.out h.1)
          have HOK : Hid (okP ((pcs C k ++ sepP k) ++ [mkF B 0]) = okP (pcJ C k 0)) := hid0 (by have h := (pc_mark HKr.out).2; rw [HcB.out] at h; rw [h])
          cases ok2 : okP ((pcs C k ++ sepP k) ++ [mkF B 0]) with
          | false =>
            have HYv := hid0 (HY2.out false ok2)
            have HOF : Hid (okP (pcJ C k 0) = false) := hid0 (by rw [← HOK.out]; exact ok2)
            clear ok2 HY2 HOK
            gi_wp2_with (first | (with_reducible refine And.intro Hf0.out ?_) | (with_reducible refine And.intro Hf2.out ?_) | (gi_at_call 56; refine (callsIn_wide.2 HMm.out).mono ?_; rintro e w4 ⟨rfl, hb4⟩; obtain ⟨fn2, tmps2, assign2, body2, hy2, hR2⟩ := HYv.out w4 hb4; have HRd2 := hid0 hR2; clear hR2) | fail)
            refine HRd2.out.mono ?_
            rintro e W5 ⟨rfl, hj5, _⟩
            have HJ5 := hid0 hj5
            clear hj5 hy2 HRd2
            gi_wp2
            refine bodyPost_ret (results_none rfl _ _ _) rfl ?_
            exact ⟨⟨_, rfl⟩, _, HJ5.out, pcJ_pre HKr.out (Nat.zero_le _), fun h => by rw [HOF.out] at h; cases h⟩
          | true =>
            have HYv := hid0 (HY2.out true ok2)
            have HOT : Hid (okP (pcJ C k 0) = true) := hid0 (by rw [← HOK.out]; exact ok2)
            clear ok2 HY2 HOK
            gi_wp2_with (first | (with_reducible refine And.intro Hf0.out ?_) | (with_reducible refine And.intro Hf2.out ?_) | (gi_at_call 56; refine (callsIn_wide.2 HMm.out).mono ?_; rintro e w4 ⟨rfl, hb4⟩; obtain ⟨fn2, tmps2, assign2, body2, hy2, hR2⟩ := HYv.out w4 hb4; have HRd2 := hid0 hR2; have HB4 := hid0 hb4; clear hR2) | fail)
            refine HRd2.out.mono ?_
            rintro e W5 ⟨rfl, hj5, hk5⟩
            have HJ5 := hid0 hj5
            have HR5 : Hid (W5.heap[wr.heap.size]? = some (.cells #[.slice aP m cP1, .slice aB mB cB1] 50 (0, 0))) := hid0 (hk5.keep _ _ _ _ ((HB4.out.block _ (Array.getElem?_eq_some_iff.1 HRm.out).1).trans HRm.out) case_tyS)
            clear hj5 hk5 hy2 HRd2 HB4 x0 x1
            obtain ⟨x0, x1⟩ := HRB.out W5 HR5.out
            gi_wp2
            clear x0 x1
            gi_loopw [5, 6, 31] (fun _ _ i wq => ∃ j : Nat, j ≤ m ∧ i = .int .i64 (j : Int) ∧ Hid (J (pcJ C k j) wq) ∧ Hid (okP (pcJ C k j) = true) ∧ Hid (wq.heap[wr.heap.size]? = some (.cells #[.slice aP m cP1, .slice aB mB cB1] 50 (0, 0)))) (fun _ _ i _ => m - (intOf i).toNat)
            case atStart => exact ⟨0, Nat.zero_le _, rfl, HJ5, HOT, HR5⟩
            case round =>
              clear HJ5 HOT HR5
              obtain ⟨j, hj, rfl, HJj, HOj, HRj⟩ := hrel
              obtain ⟨wq, hwq⟩ : ∃ wq, wq = wr := ⟨_, rfl⟩
              subst hwq
              by_cases hjl : j < m
              · have hjI : (j : Int) < (m : Int) := by omega
                have hjI0 : (0 : Int) ≤ (j : Int) := by omega
                have hjr : j < P.length := by rw [← HMl.out]; exact hjl
                have hbq := (HJs.out _ _ HJj.out).1
                obtain ⟨iP, iB⟩ := HI.out wq hbq
                obtain ⟨bp, op, ep, _, dp⟩ := iP.at' j hjr
                have hp := mayC_pt HMc.out j hjr
                obtain ⟨xv, hxv⟩ : ∃ xv, xv = P[j] := ⟨_, rfl⟩
                rw [← hxv] at dp hp
                obtain ⟨z, hz⟩ : ∃ z : Nat, xv = (z : Int) := ⟨xv.toNat, by omega⟩
                have hz2 : z ≤ 1114111 := by omega
                have hgd : (cP C k).getD j 0 = (z : Int) := by
                  rw [HcP.out, List.getD_eq_getElem?_getD, List.getElem?_eq_getElem hjr, ← hz, hxv]
                  rfl
                have hpp := pc_point HKr.out (j := j) (by rw [HcP.out]; exact hjr)
                rw [hgd, HcB.out, show ((z : Nat) : Int).toNat = z from rfl] at hpp
                obtain ⟨X, hX⟩ : ∃ X, X = [32] ++ hx z ++ [32] ++ mkF B (j + 1) := ⟨_, rfl⟩
                rw [← hX] at hpp
                have hXX : (⟨#[32]⟩ : ByteArray) ++ ⟨(hx z).toArray⟩ ++ ⟨#[32]⟩ ++ ⟨(mkF B (j + 1)).toArray⟩ = ⟨X.toArray⟩ := by rw [lit1, app_arrT, app_arrT, app_arrT, hX]
                have hDg : ∀ V, Below wq.heap.size wq V → Calls Tryz.prog 57 #[.int .i64 (z : Int)] V fun e w' => e = .returned (.string ⟨(hx z).toArray⟩) ∧ Below wq.heap.size wq w' := fun V hV => by
                  have hb0 : Below w0.heap.size w0 V := hbq.trans (hV.mono hbq.size)
                  exact (digits_any z hz2 V (fun i hi => (hb0.cell (p := ⟨20, i, none⟩) (World.block_lt_of_cell? w0 _ (HT.out i hi))).trans (HT.out i hi))).mono (fun e w' h => ⟨h.1, Below.later hV h.2⟩)
                have hM2 : ∀ V, Below wq.heap.size wq V → Calls Tryz.prog 56 #[.agg #[.slice aP m cP1, .slice aB mB cB1], .int .i64 ((j : Int) + 1)] V fun e w' => e = .returned (.string ⟨(mkF B (j + 1)).toArray⟩) ∧ Below wq.heap.size wq w' := fun V hV => by
                  have h := HMk.out (j + 1) V (hbq.trans (hV.mono hbq.size))
                  rw [show ((j + 1 : Nat) : Int) = (j : Int) + 1 from by omega] at h
                  exact h.mono (fun e w' h => ⟨h.1, Below.later hV h.2⟩)
                have hY3 : ∀ v, okP (pcJ C k j ++ [X]) = v → ∀ V, Below wq.heap.size wq V → YieldAt Fence.wide (n - 1) Tryz.prog l #[.string ((⟨#[32]⟩ : ByteArray) ++ ⟨(hx z).toArray⟩ ++ ⟨#[32]⟩ ++ ⟨(mkF B (j + 1)).toArray⟩)] V fun e A' => e = .returned (.bool v) ∧ J (pcJ C k (j + 1)) A' ∧ Kc tyS V A' := fun v hv V hV => by
                  rw [hXX, ← hpp.2]
                  exact HYy.out _ X V v hv (HJb.out _ _ _ HJj.out hV) HOj.out hpp.1
                have HOK3 : Hid (okP (pcJ C k j ++ [X]) = okP (pcJ C k (j + 1))) := hid0 (by rw [hpp.2])
                have HPre : Hid (∃ r, pcJ C k (j + 1) ++ r = pcs C C.length) := hid0 (pcJ_pre HKr.out (by rw [HcP.out]; exact hjr))
                have hH6 : (⟨(hx z).toArray⟩ : ByteArray).size ≤ 6 := by rw [strT]; exact hx_len6 z
                have hM6 : (⟨(mkF B (j + 1)).toArray⟩ : ByteArray).size ≤ 2 := by rw [strT, mkF_len]; exact Nat.le_refl _
                generalize (⟨(hx z).toArray⟩ : ByteArray) = H at *
                generalize (⟨(mkF B (j + 1)).toArray⟩ : ByteArray) = M at *
                have g1 : ¬ 9223372036854775807 < 1 + H.size := by omega
                have g2 : ¬ 9223372036854775807 < 1 + H.size + 1 := by omega
                have g3 : ¬ 9223372036854775807 < 1 + H.size + 1 + M.size := by omega
                have hwj : IntKind.i64.wrap ((j : Int) + 1) = (j : Int) + 1 := by rw [IntKind.wrap_i64]; omega
                have HDg := hid0 hDg
                have HM2 := hid0 hM2
                have HDr := hid0 (drew_below wq)
                have HRr := hid0 (row_on HRj.out)
                obtain ⟨x0, x1⟩ := HRB.out wq HRj.out
                have hf1 : Fence.wide.fn 57 := trivial
                have hf2 : Fence.wide.fn 56 := trivial
                have hmx : Tryz.prog.follows .mixedOrders = true := by kernel_rfl
                subst hz
                subst ep
                clear hbq iP iB hp hxv hgd hpp hX hXX hDg hM2 hjr HRj HJj
                cases ok3 : okP (pcJ C k j ++ [X]) with
                | false =>
                  have HY3 := hid0 (hY3 false ok3)
                  have HOF : Hid (okP (pcJ C k (j + 1)) = false) := hid0 (by rw [← HOK3.out]; exact ok3)
                  clear hY3 ok3 HOK3
                  gi_wp2
                  gi_region_with_o (first
                    | (gi_at_call 57; go_loud (((first | with_reducible refine (callsIn_wide.2 (HDg.out _ hbm1)).mono ?_ | with_reducible refine (callsIn_wide.2 (HDg.out _ HDr.out)).mono ?_); rintro e w2 ⟨rfl, hbd⟩; obtain ⟨z0, z1⟩ := HRB.out w2 (HRr.out w2 hbd); obtain ⟨fn3, tmps3, assign3, body3, hy3, hR3⟩ := HY3.out w2 hbd; have HRd3 := hid0 hR3; have HRw := hid0 (HRr.out w2 hbd); clear hR3)))
                    | (gi_at_call 56; go_loud (((first | with_reducible refine (callsIn_wide.2 (HM2.out _ hbd)).mono ?_ | with_reducible refine (callsIn_wide.2 (HM2.out _ HDr.out)).mono ?_); rintro e w3 ⟨rfl, hbm1⟩; obtain ⟨z0, z1⟩ := HRB.out w3 (HRr.out w3 hbm1); obtain ⟨fn3, tmps3, assign3, body3, hy3, hR3⟩ := HY3.out w3 hbm1; have HRd3 := hid0 hR3; have HRw := hid0 (HRr.out w3 hbm1); clear hR3)))
                    | (with_reducible refine HRd3.out.mono ?_; rintro e W5 ⟨rfl, hj5, hk5⟩; have HJ5 := hid0 hj5; have HR5 := hid0 (hk5.keep _ _ _ _ HRw.out case_tyS); clear hj5 hk5)
                    | fail)
                  all_goals
                    gi_wp2
                    refine bodyPost_ret (results_none rfl _ _ _) rfl ?_
                    exact ⟨⟨_, rfl⟩, _, HJ5.out, HPre.out, fun h => by rw [HOF.out] at h; cases h⟩
                | true =>
                  have HY3 := hid0 (hY3 true ok3)
                  have HOT : Hid (okP (pcJ C k (j + 1)) = true) := hid0 (by rw [← HOK3.out]; exact ok3)
                  clear hY3 ok3 HOK3
                  gi_wp2
                  gi_region_with_o (first
                    | (gi_at_call 57; go_loud (((first | with_reducible refine (callsIn_wide.2 (HDg.out _ hbm1)).mono ?_ | with_reducible refine (callsIn_wide.2 (HDg.out _ HDr.out)).mono ?_); rintro e w2 ⟨rfl, hbd⟩; obtain ⟨z0, z1⟩ := HRB.out w2 (HRr.out w2 hbd); obtain ⟨fn3, tmps3, assign3, body3, hy3, hR3⟩ := HY3.out w2 hbd; have HRd3 := hid0 hR3; have HRw := hid0 (HRr.out w2 hbd); clear hR3)))
                    | (gi_at_call 56; go_loud (((first | with_reducible refine (callsIn_wide.2 (HM2.out _ hbd)).mono ?_ | with_reducible refine (callsIn_wide.2 (HM2.out _ HDr.out)).mono ?_); rintro e w3 ⟨rfl, hbm1⟩; obtain ⟨z0, z1⟩ := HRB.out w3 (HRr.out w3 hbm1); obtain ⟨fn3, tmps3, assign3, body3, hy3, hR3⟩ := HY3.out w3 hbm1; have HRd3 := hid0 hR3; have HRw := hid0 (HRr.out w3 hbm1); clear hR3)))
                    | (with_reducible refine HRd3.out.mono ?_; rintro e W5 ⟨rfl, hj5, hk5⟩; have HJ5 := hid0 hj5; have HR5 := hid0 (hk5.keep _ _ _ _ HRw.out case_tyS); clear hj5 hk5)
                    | fail)
                  all_goals
                    gi_wp2
                    go_roundw
                    case rel => exact ⟨j + 1, by omega, by go_num, HJ5, HOT, HR5⟩
                    case measure => simp [intOf]; omega
              · have hjI : ¬ (j : Int) < (m : Int) := by omega
                have hjm : j = (cP C k).length := by rw [HcP.out]; have := HMl.out; omega
                have HJn : Hid (J (pcs C (k + 1)) wq) := hid0 (by rw [← pcJ_end, ← hjm]; exact HJj.out)
                have HOn : Hid (okP (pcs C (k + 1)) = true) := hid0 (by rw [← pcJ_end, ← hjm]; exact HOj.out)
                clear HJj HOj
                gi_wp2
                go_roundw
                case rel => exact ⟨k + 1, by omega, by go_num, HJn, HOn⟩
                case measure => simp [intOf]; omega
      · have h0I : ¬ (k : Int) > 0 := by omega
        have HRm := HR1
        have hs0 : pcs C k ++ sepP k = pcs C k := by unfold sepP; rw [if_pos (by omega), List.append_nil]
        have HS0 := hid0 hs0
        clear hs0
        have HJm : Hid (J (pcs C k ++ sepP k) W1) := hid0 (by rw [HS0.out]; exact HJ1.out)
        have HOm : Hid (okP (pcs C k ++ sepP k) = true) := hid0 (by rw [HS0.out]; exact HO.out)
        have HBm := hid0 (HJs.out _ _ HJm.out).1
        have HMm := hid0 (HMk.out 0 W1 HBm.out)
        have HY2 : Hid (∀ (v : Bool), okP ((pcs C k ++ sepP k) ++ [mkF B 0]) = v → ∀ V, Below W1.heap.size W1 V → YieldAt Fence.wide (n - 1) Tryz.prog l #[.string ⟨(mkF B 0).toArray⟩] V fun e A' => e = .returned (.bool v) ∧ J (pcJ C k 0) A' ∧ Kc tyS V A') := hid0 (fun v hv V hV => by
          have h := pc_mark HKr.out
          rw [HcB.out] at h
          rw [← h.2]
          exact HYy.out _ _ V v hv (HJb.out _ _ _ HJm.out hV) HOm.out h.1)
        have HOK : Hid (okP ((pcs C k ++ sepP k) ++ [mkF B 0]) = okP (pcJ C k 0)) := hid0 (by have h := (pc_mark HKr.out).2; rw [HcB.out] at h; rw [h])
        cases ok2 : okP ((pcs C k ++ sepP k) ++ [mkF B 0]) with
        | false =>
          have HYv := hid0 (HY2.out false ok2)
          have HOF : Hid (okP (pcJ C k 0) = false) := hid0 (by rw [← HOK.out]; exact ok2)
          clear ok2 HY2 HOK
          gi_wp2_with (first | (with_reducible refine And.intro Hf0.out ?_) | (with_reducible refine And.intro Hf2.out ?_) | (gi_at_call 56; refine (callsIn_wide.2 HMm.out).mono ?_; rintro e w4 ⟨rfl, hb4⟩; obtain ⟨fn2, tmps2, assign2, body2, hy2, hR2⟩ := HYv.out w4 hb4; have HRd2 := hid0 hR2; clear hR2) | fail)
          refine HRd2.out.mono ?_
          rintro e W5 ⟨rfl, hj5, _⟩
          have HJ5 := hid0 hj5
          clear hj5 hy2 HRd2
          gi_wp2
          refine bodyPost_ret (results_none rfl _ _ _) rfl ?_
          exact ⟨⟨_, rfl⟩, _, HJ5.out, pcJ_pre HKr.out (Nat.zero_le _), fun h => by rw [HOF.out] at h; cases h⟩
        | true =>
          have HYv := hid0 (HY2.out true ok2)
          have HOT : Hid (okP (pcJ C k 0) = true) := hid0 (by rw [← HOK.out]; exact ok2)
          clear ok2 HY2 HOK
          gi_wp2_with (first | (with_reducible refine And.intro Hf0.out ?_) | (with_reducible refine And.intro Hf2.out ?_) | (gi_at_call 56; refine (callsIn_wide.2 HMm.out).mono ?_; rintro e w4 ⟨rfl, hb4⟩; obtain ⟨fn2, tmps2, assign2, body2, hy2, hR2⟩ := HYv.out w4 hb4; have HRd2 := hid0 hR2; have HB4 := hid0 hb4; clear hR2) | fail)
          refine HRd2.out.mono ?_
          rintro e W5 ⟨rfl, hj5, hk5⟩
          have HJ5 := hid0 hj5
          have HR5 : Hid (W5.heap[wr.heap.size]? = some (.cells #[.slice aP m cP1, .slice aB mB cB1] 50 (0, 0))) := hid0 (hk5.keep _ _ _ _ ((HB4.out.block _ (Array.getElem?_eq_some_iff.1 HRm.out).1).trans HRm.out) case_tyS)
          clear hj5 hk5 hy2 HRd2 HB4 x0 x1
          obtain ⟨x0, x1⟩ := HRB.out W5 HR5.out
          gi_wp2
          clear x0 x1
          gi_loopw [5, 6, 31] (fun _ _ i wq => ∃ j : Nat, j ≤ m ∧ i = .int .i64 (j : Int) ∧ Hid (J (pcJ C k j) wq) ∧ Hid (okP (pcJ C k j) = true) ∧ Hid (wq.heap[wr.heap.size]? = some (.cells #[.slice aP m cP1, .slice aB mB cB1] 50 (0, 0)))) (fun _ _ i _ => m - (intOf i).toNat)
          case atStart => exact ⟨0, Nat.zero_le _, rfl, HJ5, HOT, HR5⟩
          case round =>
            clear HJ5 HOT HR5
            obtain ⟨j, hj, rfl, HJj, HOj, HRj⟩ := hrel
            obtain ⟨wq, hwq⟩ : ∃ wq, wq = wr := ⟨_, rfl⟩
            subst hwq
            by_cases hjl : j < m
            · have hjI : (j : Int) < (m : Int) := by omega
              have hjI0 : (0 : Int) ≤ (j : Int) := by omega
              have hjr : j < P.length := by rw [← HMl.out]; exact hjl
              have hbq := (HJs.out _ _ HJj.out).1
              obtain ⟨iP, iB⟩ := HI.out wq hbq
              obtain ⟨bp, op, ep, _, dp⟩ := iP.at' j hjr
              have hp := mayC_pt HMc.out j hjr
              obtain ⟨xv, hxv⟩ : ∃ xv, xv = P[j] := ⟨_, rfl⟩
              rw [← hxv] at dp hp
              obtain ⟨z, hz⟩ : ∃ z : Nat, xv = (z : Int) := ⟨xv.toNat, by omega⟩
              have hz2 : z ≤ 1114111 := by omega
              have hgd : (cP C k).getD j 0 = (z : Int) := by
                rw [HcP.out, List.getD_eq_getElem?_getD, List.getElem?_eq_getElem hjr, ← hz, hxv]
                rfl
              have hpp := pc_point HKr.out (j := j) (by rw [HcP.out]; exact hjr)
              rw [hgd, HcB.out, show ((z : Nat) : Int).toNat = z from rfl] at hpp
              obtain ⟨X, hX⟩ : ∃ X, X = [32] ++ hx z ++ [32] ++ mkF B (j + 1) := ⟨_, rfl⟩
              rw [← hX] at hpp
              have hXX : (⟨#[32]⟩ : ByteArray) ++ ⟨(hx z).toArray⟩ ++ ⟨#[32]⟩ ++ ⟨(mkF B (j + 1)).toArray⟩ = ⟨X.toArray⟩ := by rw [lit1, app_arrT, app_arrT, app_arrT, hX]
              have hDg : ∀ V, Below wq.heap.size wq V → Calls Tryz.prog 57 #[.int .i64 (z : Int)] V fun e w' => e = .returned (.string ⟨(hx z).toArray⟩) ∧ Below wq.heap.size wq w' := fun V hV => by
                have hb0 : Below w0.heap.size w0 V := hbq.trans (hV.mono hbq.size)
                exact (digits_any z hz2 V (fun i hi => (hb0.cell (p := ⟨20, i, none⟩) (World.block_lt_of_cell? w0 _ (HT.out i hi))).trans (HT.out i hi))).mono (fun e w' h => ⟨h.1, Below.later hV h.2⟩)
              have hM2 : ∀ V, Below wq.heap.size wq V → Calls Tryz.prog 56 #[.agg #[.slice aP m cP1, .slice aB mB cB1], .int .i64 ((j : Int) + 1)] V fun e w' => e = .returned (.string ⟨(mkF B (j + 1)).toArray⟩) ∧ Below wq.heap.size wq w' := fun V hV => by
                have h := HMk.out (j + 1) V (hbq.trans (hV.mono hbq.size))
                rw [show ((j + 1 : Nat) : Int) = (j : Int) + 1 from by omega] at h
                exact h.mono (fun e w' h => ⟨h.1, Below.later hV h.2⟩)
              have hY3 : ∀ v, okP (pcJ C k j ++ [X]) = v → ∀ V, Below wq.heap.size wq V → YieldAt Fence.wide (n - 1) Tryz.prog l #[.string ((⟨#[32]⟩ : ByteArray) ++ ⟨(hx z).toArray⟩ ++ ⟨#[32]⟩ ++ ⟨(mkF B (j + 1)).toArray⟩)] V fun e A' => e = .returned (.bool v) ∧ J (pcJ C k (j + 1)) A' ∧ Kc tyS V A' := fun v hv V hV => by
                rw [hXX, ← hpp.2]
                exact HYy.out _ X V v hv (HJb.out _ _ _ HJj.out hV) HOj.out hpp.1
              have HOK3 : Hid (okP (pcJ C k j ++ [X]) = okP (pcJ C k (j + 1))) := hid0 (by rw [hpp.2])
              have HPre : Hid (∃ r, pcJ C k (j + 1) ++ r = pcs C C.length) := hid0 (pcJ_pre HKr.out (by rw [HcP.out]; exact hjr))
              have hH6 : (⟨(hx z).toArray⟩ : ByteArray).size ≤ 6 := by rw [strT]; exact hx_len6 z
              have hM6 : (⟨(mkF B (j + 1)).toArray⟩ : ByteArray).size ≤ 2 := by rw [strT, mkF_len]; exact Nat.le_refl _
              generalize (⟨(hx z).toArray⟩ : ByteArray) = H at *
              generalize (⟨(mkF B (j + 1)).toArray⟩ : ByteArray) = M at *
              have g1 : ¬ 9223372036854775807 < 1 + H.size := by omega
              have g2 : ¬ 9223372036854775807 < 1 + H.size + 1 := by omega
              have g3 : ¬ 9223372036854775807 < 1 + H.size + 1 + M.size := by omega
              have hwj : IntKind.i64.wrap ((j : Int) + 1) = (j : Int) + 1 := by rw [IntKind.wrap_i64]; omega
              have HDg := hid0 hDg
              have HM2 := hid0 hM2
              have HDr := hid0 (drew_below wq)
              have HRr := hid0 (row_on HRj.out)
              obtain ⟨x0, x1⟩ := HRB.out wq HRj.out
              have hf1 : Fence.wide.fn 57 := trivial
              have hf2 : Fence.wide.fn 56 := trivial
              have hmx : Tryz.prog.follows .mixedOrders = true := by kernel_rfl
              subst hz
              subst ep
              clear hbq iP iB hp hxv hgd hpp hX hXX hDg hM2 hjr HRj HJj
              cases ok3 : okP (pcJ C k j ++ [X]) with
              | false =>
                have HY3 := hid0 (hY3 false ok3)
                have HOF : Hid (okP (pcJ C k (j + 1)) = false) := hid0 (by rw [← HOK3.out]; exact ok3)
                clear hY3 ok3 HOK3
                gi_wp2
                gi_region_with_o (first
                  | (gi_at_call 57; go_loud (((first | with_reducible refine (callsIn_wide.2 (HDg.out _ hbm1)).mono ?_ | with_reducible refine (callsIn_wide.2 (HDg.out _ HDr.out)).mono ?_); rintro e w2 ⟨rfl, hbd⟩; obtain ⟨z0, z1⟩ := HRB.out w2 (HRr.out w2 hbd); obtain ⟨fn3, tmps3, assign3, body3, hy3, hR3⟩ := HY3.out w2 hbd; have HRd3 := hid0 hR3; have HRw := hid0 (HRr.out w2 hbd); clear hR3)))
                  | (gi_at_call 56; go_loud (((first | with_reducible refine (callsIn_wide.2 (HM2.out _ hbd)).mono ?_ | with_reducible refine (callsIn_wide.2 (HM2.out _ HDr.out)).mono ?_); rintro e w3 ⟨rfl, hbm1⟩; obtain ⟨z0, z1⟩ := HRB.out w3 (HRr.out w3 hbm1); obtain ⟨fn3, tmps3, assign3, body3, hy3, hR3⟩ := HY3.out w3 hbm1; have HRd3 := hid0 hR3; have HRw := hid0 (HRr.out w3 hbm1); clear hR3)))
                  | (with_reducible refine HRd3.out.mono ?_; rintro e W5 ⟨rfl, hj5, hk5⟩; have HJ5 := hid0 hj5; have HR5 := hid0 (hk5.keep _ _ _ _ HRw.out case_tyS); clear hj5 hk5)
                  | fail)
                all_goals
                  gi_wp2
                  refine bodyPost_ret (results_none rfl _ _ _) rfl ?_
                  exact ⟨⟨_, rfl⟩, _, HJ5.out, HPre.out, fun h => by rw [HOF.out] at h; cases h⟩
              | true =>
                have HY3 := hid0 (hY3 true ok3)
                have HOT : Hid (okP (pcJ C k (j + 1)) = true) := hid0 (by rw [← HOK3.out]; exact ok3)
                clear hY3 ok3 HOK3
                gi_wp2
                gi_region_with_o (first
                  | (gi_at_call 57; go_loud (((first | with_reducible refine (callsIn_wide.2 (HDg.out _ hbm1)).mono ?_ | with_reducible refine (callsIn_wide.2 (HDg.out _ HDr.out)).mono ?_); rintro e w2 ⟨rfl, hbd⟩; obtain ⟨z0, z1⟩ := HRB.out w2 (HRr.out w2 hbd); obtain ⟨fn3, tmps3, assign3, body3, hy3, hR3⟩ := HY3.out w2 hbd; have HRd3 := hid0 hR3; have HRw := hid0 (HRr.out w2 hbd); clear hR3)))
                  | (gi_at_call 56; go_loud (((first | with_reducible refine (callsIn_wide.2 (HM2.out _ hbd)).mono ?_ | with_reducible refine (callsIn_wide.2 (HM2.out _ HDr.out)).mono ?_); rintro e w3 ⟨rfl, hbm1⟩; obtain ⟨z0, z1⟩ := HRB.out w3 (HRr.out w3 hbm1); obtain ⟨fn3, tmps3, assign3, body3, hy3, hR3⟩ := HY3.out w3 hbm1; have HRd3 := hid0 hR3; have HRw := hid0 (HRr.out w3 hbm1); clear hR3)))
                  | (with_reducible refine HRd3.out.mono ?_; rintro e W5 ⟨rfl, hj5, hk5⟩; have HJ5 := hid0 hj5; have HR5 := hid0 (hk5.keep _ _ _ _ HRw.out case_tyS); clear hj5 hk5)
                  | fail)
                all_goals
                  gi_wp2
                  go_roundw
                  case rel => exact ⟨j + 1, by omega, by go_num, HJ5, HOT, HR5⟩
                  case measure => simp [intOf]; omega
            · have hjI : ¬ (j : Int) < (m : Int) := by omega
              have hjm : j = (cP C k).length := by rw [HcP.out]; have := HMl.out; omega
              have HJn : Hid (J (pcs C (k + 1)) wq) := hid0 (by rw [← pcJ_end, ← hjm]; exact HJj.out)
              have HOn : Hid (okP (pcs C (k + 1)) = true) := hid0 (by rw [← pcJ_end, ← hjm]; exact HOj.out)
              clear HJj HOj
              gi_wp2
              go_roundw
              case rel => exact ⟨k + 1, by omega, by go_num, HJn, HOn⟩
              case measure => simp [intOf]; omega
    · have hkI : ¬ (k : Int) < (N : Int) := by omega
      have hkn : k = C.length := by have := HN.out; omega
      have HJn : Hid (J (pcs C C.length) wr) := hid0 (by rw [← hkn]; exact HJ.out)
      clear HJ HO
      gi_wp2
      go_end0
      exact ⟨⟨_, rfl⟩, _, HJn.out, ⟨[], List.append_nil _⟩, fun _ => rfl⟩
end Go.Proofs.YtcbepmjojppokaaGreatDoor.Tp
