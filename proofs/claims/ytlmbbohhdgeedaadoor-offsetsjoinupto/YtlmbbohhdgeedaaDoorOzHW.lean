/-
  The walks of what the document's maps are asked.
-/
import Derived.Test.YtlmbbohhdgeedaaDoorOzGW
namespace Go.Proofs.YtlmbbohhdgeedaaDoor
open Go.RowKit
/-- Two numbers in a box of a pair: what Unit, Byte and the others answer. -/
theorem mapC {w : World} {B : Nat} {L : List Pl} (h : MapAt w B L) : ∃ a cap, w.cell? ⟨B, 0, none⟩ = some (.slice a L.length cap) ∧ PlA w a L := h
set_option maxRecDepth 10000 in
set_option maxHeartbeats 800000 in
theorem refEdge_any (L : List Pl) (hL : L.length ≤ 10000000) (B : Nat) (x : Int) (w : World) (hM : MapAt w B L) :
    Calls Tryd.prog 51 #[.pointer (some ⟨B, 0, none⟩), .int .i64 x] w fun e w' => e = .returned (.tuple #[plV (getP (hit (sgB x) L)), .int .i64 (numP (hit (sgB x) L))]) ∧ Below w.heap.size w w' := by
  obtain ⟨o, ho⟩ : ∃ o, o = hit (sgB x) L := ⟨_, rfl⟩
  have HO := hid ho
  obtain ⟨a, cap, hc, hA⟩ := hM
  have hBl : B < w.heap.size := World.block_lt_of_cell? w _ hc
  have hb1 : Below w.heap.size w (w.alloc (.cells #[.int .i64 0, .int .i64 0, .int .i64 0, .int .i64 0, .int .i64 0] 72)) := (Below.refl _ _).alloc (Nat.le_refl _) _
  have HA := hid (hA.later hb1)
  have hc1 := (hb1.cell (p := ⟨B, 0, none⟩) hBl).trans hc
  have HB := hid hb1
  have HW := hid (heap_alloc_new w (.cells #[.int .i64 0, .int .i64 0, .int .i64 0, .int .i64 0, .int .i64 0] 72))
  obtain ⟨w1, hw1⟩ : ∃ w1, w1 = w.alloc (.cells #[.int .i64 0, .int .i64 0, .int .i64 0, .int .i64 0, .int .i64 0] 72) := ⟨_, rfl⟩
  rw [← hw1] at HA hc1 HB HW
  have hfold := hw1.symm
  obtain ⟨⟨z0, z1, z2, z3, z4⟩, f0, f1, f2, f3, f4⟩ := row5 HW.out
  clear hA hb1 hw1 hc
  rw [← ho]
  clear ho
  go_enter Tryd.func51, Tryd.ntmps51
  go_wp2
  try rw [hfold]
  clear hfold
  go_loop [6] (fun i => ∃ k : Nat, k ≤ L.length ∧ i = .int .i64 (k : Int) ∧ Hid (hit (sgB x) L = (L.drop k).find? (fun p => sgB x p == 0))) (fun i => L.length - (intOf i).toNat)
  case atStart => exact ⟨0, Nat.zero_le _, rfl, hid rfl⟩
  case round =>
    obtain ⟨k, hk, rfl, HF⟩ := hrel
    by_cases hlt : k < L.length
    · obtain ⟨b1, o1, rfl, d0, d1, d2, d3, d4⟩ := HA.out.at' k hlt
      have HU := hid (hit_drop (sgB x) L k hlt)
      have HZ : Hid (sgB x L[k] = 0 ↔ (L[k].b : Int) = x) := hid (cmpI_zero _ _)
      generalize L[k] = P at *
      have hki : (k : Int) < (L.length : Int) := by omega
      by_cases hq : (P.b : Int) = x
      · have HV : Hid (o = some P) := hid (by rw [HO.out, HF.out, HU.out, if_pos (HZ.out.2 hq)])
        have hqb : ((P.b : Int) == x) = true := by simpa using hq
        obtain ⟨pb, pu, pw, pl, pc⟩ := P
        simp only at d0 d1 d2 d3 d4 hqb hq
        clear HF HU HZ hq
        go_wp2
        (try simp only [Exit.inBlock, Exit.then])
        refine bodyPost_ret (ret_row rfl _ _ w.heap.size 72 _ _ _ rfl (set5n _ _ _ _ _ HW.out) Tryd.underlying72 rfl (by kernel_rfl) rfl) rfl ?_
        exact ⟨by rw [HV.out]; rfl, by have hb := HB.out; go_grown⟩
      · have HV : Hid (hit (sgB x) L = (L.drop (k + 1)).find? (fun p => sgB x p == 0)) := hid (by rw [HF.out, HU.out, if_neg (fun h => hq (HZ.out.1 h))])
        have hqb : ((P.b : Int) == x) = false := by simpa using hq
        clear HF HU HZ hq
        go_wp2
        go_round
        case rel => exact ⟨k + 1, by omega, by go_num, hid HV.out⟩
        case measure => simp [intOf]; omega
    · have HV : Hid (o = none) := hid (by rw [HO.out, HF.out, List.drop_of_length_le (by omega)]; rfl)
      have hki : ¬ (k : Int) < (L.length : Int) := by omega
      go_wp2
      (try simp only [Exit.inBlock, Exit.then])
      refine bodyPost_ret (ret_row rfl _ _ w.heap.size 72 _ _ _ rfl (set5n _ _ _ _ _ HW.out) Tryd.underlying72 rfl (by kernel_rfl) rfl) rfl ?_
      exact ⟨by rw [HV.out]; rfl, by have hb := HB.out; go_grown⟩

set_option maxRecDepth 10000 in
set_option maxHeartbeats 800000 in
theorem refNarrow_any (L : List Pl) (hL : L.length ≤ 10000000) (B : Nat) (x : Int) (w : World) (hM : MapAt w B L) :
    Calls Tryd.prog 39 #[.pointer (some ⟨B, 0, none⟩), .int .i64 x] w fun e w' => e = .returned (.tuple #[.int .i64 ((getP (hit (sgW x) L)).b : Int), .int .i64 (numP (hit (sgW x) L))]) ∧ w' = w := by
  obtain ⟨a, cap, hc1, hA⟩ := hM
  have HA := hid hA
  obtain ⟨o, ho⟩ : ∃ o, o = hit (sgW x) L := ⟨_, rfl⟩
  have HO := hid ho
  clear hA
  rw [← ho]
  clear ho
  go_enter Tryd.func39, Tryd.ntmps39
  go_wp2
  go_loop [6] (fun i => ∃ k : Nat, k ≤ L.length ∧ i = .int .i64 (k : Int) ∧ Hid (hit (sgW x) L = (L.drop k).find? (fun p => sgW x p == 0))) (fun i => L.length - (intOf i).toNat)
  case atStart => exact ⟨0, Nat.zero_le _, rfl, hid rfl⟩
  case round =>
    obtain ⟨k, hk, rfl, HF⟩ := hrel
    by_cases hlt : k < L.length
    · obtain ⟨b1, o1, rfl, d0, d1, d2, d3, d4⟩ := HA.out.at' k hlt
      have HU := hid (hit_drop (sgW x) L k hlt)
      have HZ : Hid (sgW x L[k] = 0 ↔ (L[k].w : Int) = x) := hid (cmpI_zero _ _)
      generalize L[k] = P at *
      have hki : (k : Int) < (L.length : Int) := by omega
      by_cases hq : (P.w : Int) = x
      · have HV : Hid (o = some P) := hid (by rw [HO.out, HF.out, HU.out, if_pos (HZ.out.2 hq)])
        have hqb : ((P.w : Int) == x) = true := by simpa using hq
        clear HF HU HZ hq
        go_wp2
        go_ret2
        exact ⟨by rw [HV.out]; rfl, rfl⟩
      · have HV : Hid (hit (sgW x) L = (L.drop (k + 1)).find? (fun p => sgW x p == 0)) := hid (by rw [HF.out, HU.out, if_neg (fun h => hq (HZ.out.1 h))])
        have hqb : ((P.w : Int) == x) = false := by simpa using hq
        clear HF HU HZ hq
        go_wp2
        go_round
        case rel => exact ⟨k + 1, by omega, by go_num, hid HV.out⟩
        case measure => simp [intOf]; omega
    · have HV : Hid (o = none) := hid (by rw [HO.out, HF.out, List.drop_of_length_le (by omega)]; rfl)
      have hki : ¬ (k : Int) < (L.length : Int) := by omega
      go_wp2
      go_ret2
      exact ⟨by rw [HV.out]; rfl, rfl⟩
set_option maxRecDepth 10000 in
set_option maxHeartbeats 800000 in
theorem refAt_any (L : List Pl) (hL : L.length ≤ 10000000) (B : Nat) (x y : Int) (w : World) (hM : MapAt w B L) :
    Calls Tryd.prog 41 #[.pointer (some ⟨B, 0, none⟩), .int .i64 x, .int .i64 y] w fun e w' => e = .returned (.tuple #[.int .i64 ((getP (hit (sgL x y) L)).b : Int), .int .i64 (numP (hit (sgL x y) L))]) ∧ w' = w := by
  obtain ⟨a, cap, hc1, hA⟩ := hM
  have HA := hid hA
  obtain ⟨o, ho⟩ : ∃ o, o = hit (sgL x y) L := ⟨_, rfl⟩
  have HO := hid ho
  clear hA
  rw [← ho]
  clear ho
  go_enter Tryd.func41, Tryd.ntmps41
  go_wp2
  go_loop [8] (fun i => ∃ k : Nat, k ≤ L.length ∧ i = .int .i64 (k : Int) ∧ Hid (hit (sgL x y) L = (L.drop k).find? (fun p => sgL x y p == 0))) (fun i => L.length - (intOf i).toNat)
  case atStart => exact ⟨0, Nat.zero_le _, rfl, hid rfl⟩
  case round =>
    obtain ⟨k, hk, rfl, HF⟩ := hrel
    by_cases hlt : k < L.length
    · obtain ⟨b1, o1, rfl, d0, d1, d2, d3, d4⟩ := HA.out.at' k hlt
      have HU := hid (hit_drop (sgL x y) L k hlt)
      have HZ := hid (sgL_zero x y L[k])
      generalize L[k] = P at *
      have hki : (k : Int) < (L.length : Int) := by omega
      by_cases hq : (P.l : Int) = x
      · have hqb : ((P.l : Int) == x) = true := by simpa using hq
        by_cases hq2 : (P.c : Int) = y
        · have HV : Hid (o = some P) := hid (by rw [HO.out, HF.out, HU.out, if_pos (HZ.out.2 ⟨hq, hq2⟩)])
          have hqc : ((P.c : Int) == y) = true := by simpa using hq2
          clear HF HU HZ hq hq2
          go_wp2
          go_ret2
          exact ⟨by rw [HV.out]; rfl, rfl⟩
        · have HV : Hid (hit (sgL x y) L = (L.drop (k + 1)).find? (fun p => sgL x y p == 0)) := hid (by rw [HF.out, HU.out, if_neg (fun h => hq2 (HZ.out.1 h).2)])
          have hqc : ((P.c : Int) == y) = false := by simpa using hq2
          clear HF HU HZ hq hq2
          go_wp2
          go_round
          case rel => exact ⟨k + 1, by omega, by go_num, hid HV.out⟩
          case measure => simp [intOf]; omega
      · have HV : Hid (hit (sgL x y) L = (L.drop (k + 1)).find? (fun p => sgL x y p == 0)) := hid (by rw [HF.out, HU.out, if_neg (fun h => hq (HZ.out.1 h).1)])
        have hqb : ((P.l : Int) == x) = false := by simpa using hq
        clear HF HU HZ hq
        go_wp2
        go_round
        case rel => exact ⟨k + 1, by omega, by go_num, hid HV.out⟩
        case measure => simp [intOf]; omega
    · have HV : Hid (o = none) := hid (by rw [HO.out, HF.out, List.drop_of_length_le (by omega)]; rfl)
      have hki : ¬ (k : Int) < (L.length : Int) := by omega
      go_wp2
      go_ret2
      exact ⟨by rw [HV.out]; rfl, rfl⟩

set_option maxRecDepth 10000 in
set_option maxHeartbeats 800000 in
theorem refByte_any (l : List UInt8) (_hL : (allP l).length ≤ 10000000) (B : Nat) (x : Int) (w : World) (hM : MapAt w B (allP l)) :
    Calls Tryd.prog 36 #[.pointer (some ⟨B, 0, none⟩), .int .i64 x] w fun e w' => e = .returned (.tuple #[.int .i64 ((getP (hit (sgU x) (allP l))).b : Int), .int .i64 (numP (hit (sgU x) (allP l)))]) ∧ w' = w := by
  obtain ⟨a, cap, hc1, hA⟩ := hM
  by_cases h0 : x < 0
  · have HV := hid (hitU_none l x (.inl h0))
    generalize allP l = L at *
    generalize hit (sgU x) L = o at *
    go_enter Tryd.func36, Tryd.ntmps36
    go_wp2
    go_ret2
    exact ⟨by rw [HV.out]; rfl, rfl⟩
  · by_cases h1 : ((allP l).length : Int) ≤ x
    · have HV := hid (hitU_none l x (.inr h1))
      generalize allP l = L at *
      generalize hit (sgU x) L = o at *
      go_enter Tryd.func36, Tryd.ntmps36
      go_wp2
      go_ret2
      exact ⟨by rw [HV.out]; rfl, rfl⟩
    · obtain ⟨k, rfl⟩ : ∃ k : Nat, x = (k : Int) := ⟨x.toNat, by omega⟩
      have hk : k < (allP l).length := by omega
      obtain ⟨b1, o1, rfl, d0, d1, d2, d3, d4⟩ := hA.at' k hk
      have HV := hid (hitU_at l k hk)
      generalize allP l = L at *
      generalize hit (sgU (k : Int)) L = o at *
      generalize L[k] = P at *
      go_enter Tryd.func36, Tryd.ntmps36
      go_wp2
      go_ret2
      exact ⟨by rw [HV.out]; rfl, rfl⟩

set_option maxRecDepth 10000 in
set_option maxHeartbeats 400000 in
theorem refUnit_any (L : List Pl) (hL : L.length ≤ 10000000) (B : Nat) (x : Int) (w : World) (hM : MapAt w B L) :
    Calls Tryd.prog 35 #[.pointer (some ⟨B, 0, none⟩), .int .i64 x] w fun e w' => e = .returned (.tuple #[.int .i64 ((getP (hit (sgB x) L)).u : Int), .int .i64 (numP (hit (sgB x) L))]) ∧ Below w.heap.size w w' := by
  have HE := hid (refEdge_any L hL B x w hM)
  clear hM
  generalize hit (sgB x) L = o at *
  generalize numP o = n at *
  generalize getP o = P at *
  obtain ⟨pb, pu, pw, pl, pc⟩ := P
  unfold plV at HE
  simp only at HE
  go_enter Tryd.func35, Tryd.ntmps35
  go_wp2_with (first
    | (go_at_call 51; refine HE.out.mono ?_; rintro e w1 ⟨rfl, hb⟩; have hsz := hb.size)
    | fail)
  go_ret2
  exact ⟨rfl, by go_grown⟩

set_option maxRecDepth 10000 in
set_option maxHeartbeats 400000 in
theorem refWide_any (L : List Pl) (hL : L.length ≤ 10000000) (B : Nat) (x : Int) (w : World) (hM : MapAt w B L) :
    Calls Tryd.prog 38 #[.pointer (some ⟨B, 0, none⟩), .int .i64 x] w fun e w' => e = .returned (.tuple #[.int .i64 ((getP (hit (sgB x) L)).w : Int), .int .i64 (numP (hit (sgB x) L))]) ∧ Below w.heap.size w w' := by
  have HE := hid (refEdge_any L hL B x w hM)
  clear hM
  generalize hit (sgB x) L = o at *
  generalize numP o = n at *
  generalize getP o = P at *
  obtain ⟨pb, pu, pw, pl, pc⟩ := P
  unfold plV at HE
  simp only at HE
  go_enter Tryd.func38, Tryd.ntmps38
  go_wp2_with (first
    | (go_at_call 51; refine HE.out.mono ?_; rintro e w1 ⟨rfl, hb⟩; have hsz := hb.size)
    | fail)
  go_ret2
  exact ⟨rfl, by go_grown⟩

set_option maxRecDepth 10000 in
set_option maxHeartbeats 400000 in
theorem refLine_any (L : List Pl) (hL : L.length ≤ 10000000) (B : Nat) (x : Int) (w : World) (hM : MapAt w B L) :
    Calls Tryd.prog 40 #[.pointer (some ⟨B, 0, none⟩), .int .i64 x] w fun e w' => e = .returned (.tuple #[.int .i64 ((getP (hit (sgB x) L)).l : Int), .int .i64 ((getP (hit (sgB x) L)).c : Int), .int .i64 (numP (hit (sgB x) L))]) ∧ Below w.heap.size w w' := by
  have HE := hid (refEdge_any L hL B x w hM)
  clear hM
  generalize hit (sgB x) L = o at *
  generalize numP o = n at *
  generalize getP o = P at *
  obtain ⟨pb, pu, pw, pl, pc⟩ := P
  unfold plV at HE
  simp only at HE
  go_enter Tryd.func40, Tryd.ntmps40
  go_wp2_with (first
    | (go_at_call 51; refine HE.out.mono ?_; rintro e w1 ⟨rfl, hb⟩; have hsz := hb.size)
    | fail)
  go_quiet (fail)
  all_goals go_wp2
  all_goals
    go_ret3
    exact ⟨rfl, belowDN (hb.alloc hsz _) _⟩
end Go.Proofs.YtlmbbohhdgeedaaDoor
