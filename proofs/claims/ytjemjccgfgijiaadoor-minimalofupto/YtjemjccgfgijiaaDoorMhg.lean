/-
  MiJW, MiKW, MiLM, MiLW, MiMW, MiQW, MkFW, MkCW, MiFW.
-/
import Derived.Test.YtjemjccgfgijiaaDoorMhf
import Derived.Laws.MakeOwn
import Derived.Test.YtjemjccgfgijiaaDoorMhe
import Derived.Test.YtjemjccgfgijiaaDoorMha
import Derived.Test.YtjemjccgfgijiaaDoorMhc
namespace Go.Proofs.YtjemjccgfgijiaaDoor
open Go.RowKit Go.Shelf
set_option maxRecDepth 100000 in
theorem make_ints (n : Nat) (w : World) (hn : n ≤ 100000000000) : ∃ w', (Instr.makeSlice 25 (.int .i64 (n : Int)) (.int .i64 (n : Int))).run Tryd.prog w = .ok (.slice (some ⟨w.heap.size, 0, none⟩) n n) w' ∧ Ov w' w.heap.size n (fun _ => 0) ∧ w'.heap.size = w.heap.size + 1 ∧ Below w.heap.size w w' := by
  obtain ⟨i, hi, hz0, hz1, hz2⟩ := info_parts infoInt
  have hr := run_make (P := Tryd.prog) w 25 3 i (.int .i64 0) Tryd.underlying25 hi hz0 .i64 .i64 n n (by omega) (by omega) (by rw [hz2]; omega) (by omega)
  have e2 : ((n : Int)).toNat = n := Int.toNat_natCast n
  simp only [e2, hz1] at hr
  refine ⟨_, hr, ⟨?_⟩, by simp, (Below.refl _ _).alloc (Nat.le_refl _) _⟩
  refine (heap_alloc_new w _).trans ?_
  congr 2
  apply Array.ext
  · rw [size_madeCells]; simp [ovF]
  · intro k h1 h2
    simp [madeCells, ovF, Value.cells, Nat.mod_one]
theorem Ov.congr {W : World} {G n : Nat} {p q : Nat → Nat} (h : Ov W G n p) (e : ∀ s, s < n → p s = q s) : Ov W G n q := ⟨by
  have : ovF n p = ovF n q := by
    unfold ovF
    exact List.map_congr_left (fun s hs => by rw [e s (List.mem_range.1 hs)])
  rw [← this]
  exact h.blk⟩
set_option maxRecDepth 10000 in
set_option maxHeartbeats 1600000 in
theorem newWalk_any (s0 s1 : Int) (aN aO aM aP : Option Addr) (na nb nO nP cN cO cM cP : Nat) (w : World) (hbig : na + nb ≤ 100000000000) :
    Calls Tryd.prog 37 #[.agg #[.int .i64 s0, .slice aN na cN, .slice aO nO cO], .agg #[.int .i64 s1, .slice aM nb cM, .slice aP nP cP]] w fun e w' => ∃ X, e = .returned (.pointer (some ⟨X, 0, none⟩)) ∧ (∃ G B, Wk w' w.heap.size X G B (na + nb) (.int .i64 s0) (.slice aN na cN) (.slice aO nO cO) (.int .i64 s1) (.slice aM nb cM) (.slice aP nP cP) (.slice none 0 0) (fun s => s) []) ∧ Below w.heap.size w w' := by
  obtain ⟨w0, hw0⟩ : ∃ w0, w0 = (w.alloc (.cells #[.int .i64 s0, .slice aN na cN, .slice aO nO cO] 24)).alloc (.cells #[.int .i64 s1, .slice aM nb cM, .slice aP nP cP] 24) := ⟨_, rfl⟩
  have hB0 : Below w.heap.size w w0 := by rw [hw0]; exact ((Below.refl _ _).alloc (Nat.le_refl _) _).alloc (by simp) _
  have hsz0 : w0.heap.size = w.heap.size + 1 + 1 := by rw [hw0]; simp
  have hb0 : w0.heap[w.heap.size + 1]? = some (.cells #[.int .i64 s1, .slice aM nb cM, .slice aP nP cP] 24 (0, 0)) := by
    have h := heap_alloc_new (w.alloc (.cells #[.int .i64 s0, .slice aN na cN, .slice aO nO cO] 24)) (.cells #[.int .i64 s1, .slice aM nb cM, .slice aP nP cP] 24)
    rw [← hw0] at h
    simpa using h
  have ha0 : w0.heap[w.heap.size]? = some (.cells #[.int .i64 s0, .slice aN na cN, .slice aO nO cO] 24 (0, 0)) := by
    rw [hw0, Below.heap_alloc _ _ _ (by simp)]
    exact heap_alloc_new w _
  have HSt : Hid (∀ V : World, Below w0.drew.heap.size w0.drew V → V.cell? ⟨w.heap.size, 0, none⟩ = some (.int .i64 s0) ∧ V.cell? ⟨w.heap.size, 1, none⟩ = some (.slice aN na cN) ∧ V.cell? ⟨w.heap.size, 2, none⟩ = some (.slice aO nO cO) ∧ V.cell? ⟨w.heap.size + 1, 0, none⟩ = some (.int .i64 s1) ∧ V.cell? ⟨w.heap.size + 1, 1, none⟩ = some (.slice aM nb cM) ∧ V.cell? ⟨w.heap.size + 1, 2, none⟩ = some (.slice aP nP cP)) := hid0 (fun V hV => by
    have h1 := (hV.block w.heap.size (by show w.heap.size < w0.heap.size; omega)).trans ha0
    have h2 := (hV.block (w.heap.size + 1) (by show w.heap.size + 1 < w0.heap.size; omega)).trans hb0
    refine ⟨?_, ?_, ?_, ?_, ?_, ?_⟩
    · rw [cell_of_row _ _ _ _ _ _ h1]; rfl
    · rw [cell_of_row _ _ _ _ _ _ h1]; rfl
    · rw [cell_of_row _ _ _ _ _ _ h1]; rfl
    · rw [cell_of_row _ _ _ _ _ _ h2]; rfl
    · rw [cell_of_row _ _ _ _ _ _ h2]; rfl
    · rw [cell_of_row _ _ _ _ _ _ h2]; rfl)
  obtain ⟨n, hn⟩ : ∃ n, n = na + nb := ⟨_, rfl⟩
  have hnI : (na : Int) + (nb : Int) = (n : Int) := by omega
  have hnW : IntKind.i64.wrap (n : Int) = (n : Int) := by simp [IntKind.wrap, IntKind.bits, IntKind.signed]; omega
  have hnb : n ≤ 100000000000 := by omega
  rw [← hn]
  have HB0 := hid0 hB0
  have HZ0 := hid0 hsz0
  have hfold := hw0.symm
  clear hw0 hB0 hsz0 hb0 ha0 hn hbig
  go_enter Tryd.func37, Tryd.ntmps37
  go_wp2
  refine wp_region_noPanic ?_
  refine wp_region_held_drew (S := (fun V => V.cell? ⟨w.heap.size, 0, none⟩ = some (.int .i64 s0) ∧ V.cell? ⟨w.heap.size, 1, none⟩ = some (.slice aN na cN) ∧ V.cell? ⟨w.heap.size, 2, none⟩ = some (.slice aO nO cO) ∧ V.cell? ⟨w.heap.size + 1, 0, none⟩ = some (.int .i64 s1) ∧ V.cell? ⟨w.heap.size + 1, 1, none⟩ = some (.slice aM nb cM) ∧ V.cell? ⟨w.heap.size + 1, 2, none⟩ = some (.slice aP nP cP))) (by kernel_rfl) ?_ (fun hHeld => ?_)
  · exact HSt.out w0.drew (Below.refl _ _)
  refine tkV (i := 0) (d := some 7) (v := ?_) rfl (by kernel_rfl) (by kernel_rfl) (by kernel_rfl) rfl (fun _ _ _ h => h) (by rfl) ?_ (by assumption) ?_
  rotate_left
  · (intro w hSw; (try dsimp only at hSw); (try simp only [List.getElem_toArray, List.getElem_cons_zero]); go_simp; try with_reducible rfl)
  try simp only [Act.put, List.setIfInBounds_toArray, List.set_cons_zero, List.set_cons_succ]
  refine tkV (i := 1) (d := some 8) (v := ?_) rfl (by kernel_rfl) (by kernel_rfl) (by kernel_rfl) rfl (fun _ _ _ h => h) (by rfl) ?_ (by assumption) ?_
  rotate_left
  · (intro w hSw; (try dsimp only at hSw); (try simp only [List.getElem_toArray, List.getElem_cons_zero, List.getElem_cons_succ]); go_simp; try with_reducible rfl)
  try simp only [Act.put, List.setIfInBounds_toArray, List.set_cons_zero, List.set_cons_succ]
  refine tkV (i := 2) (d := some 9) (v := ?_) rfl (by kernel_rfl) (by kernel_rfl) (by kernel_rfl) rfl (fun _ _ _ h => h) (by rfl) ?_ (by assumption) ?_
  rotate_left
  · (intro w hSw; (try dsimp only at hSw); (try simp only [List.getElem_toArray, List.getElem_cons_zero, List.getElem_cons_succ]); go_simp; try with_reducible rfl)
  try simp only [Act.put, List.setIfInBounds_toArray, List.set_cons_zero, List.set_cons_succ]
  refine tkV (i := 3) (d := some 10) (v := ?_) rfl (by kernel_rfl) (by kernel_rfl) (by kernel_rfl) rfl (fun _ _ _ h => h) (by rfl) ?_ (by assumption) ?_
  rotate_left
  · (intro w hSw; (try dsimp only at hSw); (try simp only [List.getElem_toArray, List.getElem_cons_zero, List.getElem_cons_succ]); go_simp; try with_reducible rfl)
  try simp only [Act.put, List.setIfInBounds_toArray, List.set_cons_zero, List.set_cons_succ]
  refine tkV (i := 4) (d := some 11) (v := ?_) rfl (by kernel_rfl) (by kernel_rfl) (by kernel_rfl) rfl (fun _ _ _ h => h) (by rfl) ?_ (by assumption) ?_
  rotate_left
  · (intro w hSw; (try dsimp only at hSw); (try simp only [List.getElem_toArray, List.getElem_cons_zero, List.getElem_cons_succ]); go_simp; try with_reducible rfl)
  try simp only [Act.put, List.setIfInBounds_toArray, List.set_cons_zero, List.set_cons_succ]
  refine tkV (i := 5) (d := some 12) (v := ?_) rfl (by kernel_rfl) (by kernel_rfl) (by kernel_rfl) rfl (fun _ _ _ h => h) (by rfl) ?_ (by assumption) ?_
  rotate_left
  · (intro w hSw; (try dsimp only at hSw); (try simp only [List.getElem_toArray, List.getElem_cons_zero, List.getElem_cons_succ]); go_simp; try with_reducible rfl)
  try simp only [Act.put, List.setIfInBounds_toArray, List.set_cons_zero, List.set_cons_succ]
  refine tkV (i := 6) (d := some 13) (v := ?_) rfl (by kernel_rfl) (by kernel_rfl) (by kernel_rfl) rfl (fun _ _ _ h => h) (by rfl) ?_ (by assumption) ?_
  rotate_left
  · (intro w hSw; (try dsimp only at hSw); (try simp only [List.getElem_toArray, List.getElem_cons_zero, List.getElem_cons_succ]); go_simp; try with_reducible rfl)
  try simp only [Act.put, List.setIfInBounds_toArray, List.set_cons_zero, List.set_cons_succ]
  refine tkV (i := 7) (d := some 14) (v := ?_) rfl (by kernel_rfl) (by kernel_rfl) (by kernel_rfl) rfl (fun _ _ _ h => h) (by rfl) ?_ (by assumption) ?_
  rotate_left
  · (intro w hSw; (try dsimp only at hSw); (try simp only [List.getElem_toArray, List.getElem_cons_zero, List.getElem_cons_succ]); go_simp; try with_reducible rfl)
  try simp only [Act.put, List.setIfInBounds_toArray, List.set_cons_zero, List.set_cons_succ]
  refine tkV (i := 8) (d := some 15) (v := ?_) rfl (by kernel_rfl) (by kernel_rfl) (by kernel_rfl) rfl (fun _ _ _ h => h) (by rfl) ?_ (by assumption) ?_
  rotate_left
  · (intro w hSw; (try dsimp only at hSw); (try simp only [List.getElem_toArray, List.getElem_cons_zero, List.getElem_cons_succ]); go_simp; try with_reducible rfl)
  try simp only [Act.put, List.setIfInBounds_toArray, List.set_cons_zero, List.set_cons_succ]
  refine wpAnyH_ready (rs := [9]) (by kernel_rfl) (by simp) (AllReadyH.cons rfl (fun K hK => ?_) AllReadyH.nil)
  try simp only [List.getElem_toArray, List.getElem_cons_zero, List.getElem_cons_succ]
  obtain ⟨w1, hrun, hov1, hsz1, hb1⟩ := make_ints n w0.drew hnb
  go_simp
  have HS1 := hid0 (HSt.out w1 hb1)
  have HO1 := hid0 hov1
  have HZ1 := hid0 hsz1
  have HB1 := hid0 hb1
  clear hrun hov1 hsz1 hb1
  refine hK.out _ _ ?_ (fun hHeld9 => ?_)
  · exact HS1.out
  clear hK K
  (try simp only [Act.put]); (try simp only [List.setIfInBounds_toArray]); (try simp only [List.set_cons_succ]); (try simp only [List.set_cons_zero])
  refine tkV (i := 10) (d := some 17) (v := ?_) rfl (by kernel_rfl) (by kernel_rfl) (by kernel_rfl) rfl (fun _ _ _ h => h) (by rfl) ?_ (by assumption) ?_
  rotate_left
  · (intro w hSw; (try dsimp only at hSw); (try simp only [List.getElem_toArray, List.getElem_cons_zero, List.getElem_cons_succ]); go_simp; try with_reducible rfl)
  try simp only [Act.put, List.setIfInBounds_toArray, List.set_cons_zero, List.set_cons_succ]
  refine wpAnyH_ready (rs := [11]) (by kernel_rfl) (by simp) (AllReadyH.cons rfl (fun K hK => ?_) AllReadyH.nil)
  try simp only [List.getElem_toArray, List.getElem_cons_zero, List.getElem_cons_succ]
  obtain ⟨w2, hw2⟩ : ∃ w2, w2 = w1.alloc (.cells #[.int .i64 s0, .slice aN na cN, .slice aO nO cO, .int .i64 s1, .slice aM nb cM, .slice aP nP cP, .slice none 0 0, .slice (some ⟨w0.heap.size, 0, none⟩) n n] 89) := ⟨_, rfl⟩
  have hf2 := hw2.symm
  have HB2 : Hid (Below w1.heap.size w1 w2) := hid0 (by rw [hw2]; exact (Below.refl _ _).alloc (Nat.le_refl _) _)
  have HX2 : Hid (w2.heap[w1.heap.size]? = some (.cells #[.int .i64 s0, .slice aN na cN, .slice aO nO cO, .int .i64 s1, .slice aM nb cM, .slice aP nP cP, .slice none 0 0, .slice (some ⟨w0.heap.size, 0, none⟩) n n] 89 (0, 0))) := hid0 (by rw [hw2]; exact heap_alloc_new w1 _)
  have HS2 := hid0 (HSt.out w2 (HB1.out.trans (HB2.out.mono HB1.out.size)))
  clear hw2
  go_simp
  refine hK.out _ _ ?_ (fun hHeld11 => ?_)
  · exact HS2.out
  clear hK K
  (try simp only [Act.put]); (try simp only [List.setIfInBounds_toArray]); (try simp only [List.set_cons_succ]); (try simp only [List.set_cons_zero])
  refine tkV (i := 12) (d := some 5) (v := ?_) rfl (by kernel_rfl) (by kernel_rfl) (by kernel_rfl) rfl (fun _ _ _ h => h) (by rfl) ?_ (by assumption) ?_
  rotate_left
  · (intro w hSw; (try dsimp only at hSw); (try simp only [List.getElem_toArray, List.getElem_cons_zero, List.getElem_cons_succ]); go_simp; try with_reducible rfl)
  try simp only [Act.put, List.setIfInBounds_toArray, List.set_cons_zero, List.set_cons_succ]
  refine wpAnyH_done (by kernel_rfl) ?_ _
  refine NoPanic.normal ?_
  have hz1 : w1.heap.size = w0.heap.size + 1 := HZ1.out
  have hz0 := HZ0.out
  have hk2 : Wk w2 w.heap.size w1.heap.size w0.heap.size (w1.heap.size + 1) n (.int .i64 s0) (.slice aN na cN) (.slice aO nO cO) (.int .i64 s1) (.slice aM nb cM) (.slice aP nP cP) (.slice none 0 0) (fun _ => 0) [] :=
    ⟨HX2.out, (HO1.out.keep (HB2.out.block _ (by show w0.heap.size < w1.heap.size; omega))), World.ownsRow_nil _ _ _ _, by omega, by omega, by omega, (Array.getElem?_eq_some_iff.1 HX2.out).1, by omega, by omega⟩
  have HK2 := hid0 hk2
  have HBw : Hid (Below w.heap.size w w2) := hid0 (by
    have h1 : Below w.heap.size w w1 := (show Below w.heap.size w w0.drew from ⟨HB0.out.os, HB0.out.tape, HB0.out.output, HB0.out.size, HB0.out.block⟩).trans ((HB1.out.mono (by show w.heap.size ≤ w0.heap.size; omega)))
    exact h1.trans (HB2.out.mono (by omega)))
  obtain ⟨_, _, _, _, _, _, _, x7⟩ := hk2.cell
  have hXG : ¬ w1.heap.size = w0.heap.size := by omega
  have hlG : w.heap.size ≤ w0.heap.size := by omega
  generalize w1.heap.size = X at *
  generalize w0.heap.size = G at *
  clear hk2 hz1 hz0 HSt HB0 HZ0 hfold HS1 HO1 HZ1 HB1 hf2 HB2 HX2 HS2 hHeld hHeld9 hHeld11
  go_wp2
  go_loopw [24] (fun i wr => ∃ k : Nat, k ≤ n ∧ i = .int .i64 (k : Int) ∧ Hid (Wk wr w.heap.size X G (X + 1) n (.int .i64 s0) (.slice aN na cN) (.slice aO nO cO) (.int .i64 s1) (.slice aM nb cM) (.slice aP nP cP) (.slice none 0 0) (fun s => if s < k then s else 0) []) ∧ Hid (Below w.heap.size w wr)) (fun i _ => n - (intOf i).toNat)
  case atStart => exact ⟨0, Nat.zero_le _, rfl, HK2, HBw⟩
  case round =>
    obtain ⟨k, hk, rfl, HK, HB⟩ := hrel
    obtain ⟨_, _, _, _, _, _, _, y7⟩ := HK.out.cell
    by_cases hlt : k < n
    · have hkI : (k : Int) < (n : Int) := by omega
      have hkI0 : (0 : Int) ≤ (k : Int) := by omega
      have fz := HK.out.ov.frozen k
      have cz := HK.out.ov.cell hlt
      obtain ⟨w3, hw3⟩ : ∃ w3, w3 = wr.setCell ⟨G, k, none⟩ (.int .i64 (k : Int)) := ⟨_, rfl⟩
      have ho3 : Oth1 wr w3 G := by rw [hw3]; exact Oth1.setCell _ _ _ _
      have HK3 := hid0 (HK.out.over ho3 ((by rw [hw3]; exact HK.out.ov.put k : Ov w3 G n (putF (fun s => if s < k then s else 0) k k)).congr (q := fun s => if s < k + 1 then s else 0) (fun s hs => by
        unfold putF
        by_cases e : s = k
        · subst e; rw [if_pos rfl, if_pos (by omega)]
        · rw [if_neg e]
          show (if s < k then s else 0) = _
          by_cases e2 : s < k
          · rw [if_pos e2, if_pos (by omega)]
          · rw [if_neg e2, if_neg (by omega)])))
      have HB3 : Hid (Below w.heap.size w w3) := hid0 (HB.out.trans (ho3.below hlG))
      have hfold3 := hw3.symm
      clear hw3 ho3
      go_wp2
      go_roundw
      case rel => exact ⟨k + 1, by omega, by go_num, HK3, HB3⟩
      case measure => simp [intOf]; omega
    · have hkI : ¬ (k : Int) < (n : Int) := by omega
      have HKe : Hid (Wk wr w.heap.size X G (X + 1) n (.int .i64 s0) (.slice aN na cN) (.slice aO nO cO) (.int .i64 s1) (.slice aM nb cM) (.slice aP nP cP) (.slice none 0 0) (fun s => s) []) := hid0 (HK.out.over (Oth1.refl _ _) (HK.out.ov.congr (fun s hs => by rw [if_pos (by omega)])))
      go_wp2
      go_ret
      exact ⟨X, rfl, ⟨G, X + 1, HKe.out⟩, HB.out⟩
end Go.Proofs.YtjemjccgfgijiaaDoor
namespace Go.Proofs.YtjemjccgfgijiaaDoor
open Go.RowKit Go.Shelf
set_option maxRecDepth 10000 in
set_option maxHeartbeats 500000 in
theorem wordTo_any (T : Two) (l : List Mt) (Wd : Nat → List Nat) (lo X G B n i : Nat) (v0 v1 v2 v3 v4 v5 vm : Value) (p : Nat → Nat) (w : World) (hm : Met T l Wd) (hl : l.length ≤ 100000000000) (hk : Wk w lo X G B n v0 v1 v2 v3 v4 v5 vm p l) (hil : i < l.length) :
    Calls Tryd.prog 39 #[.pointer (some ⟨X, 0, none⟩), .int .i64 (i : Int)] w fun e w' => ∃ v, e = .returned v ∧ OwnI w' w.heap.size v (nums (Wd i)) ∧ Below w.heap.size w w' := by
  obtain ⟨i0, hi, hz0, hz1, hz2⟩ := info_parts infoInt
  have HK := hid0 hk
  have HM := hid0 hm
  obtain ⟨am, cm, rfl, _⟩ := hk.form
  clear hk hm
  go_enter Tryd.func39, Tryd.ntmps39
  go_wp2
  go_loopw [1, 5] (fun k v wr => ∃ (j : Nat) (acc : List Nat), j ≤ i ∧ acc.length + j ≤ i ∧ k = .int .i64 (j : Int) ∧ Hid (Wd i = Wd j ++ acc.reverse) ∧ Hid (OwnI wr w.heap.size v (nums acc)) ∧ Hid (Below w.heap.size w wr)) (fun k _ _ => (intOf k).toNat)
  case atStart => exact ⟨i, [], Nat.le_refl _, by simp, rfl, hid0 (by simp), hid0 (World.ownsRow_nil _ _ _ _), hid0 (Below.refl _ _)⟩
  case round =>
    obtain ⟨j, acc, hj, hacc, rfl, HW, HO, HB⟩ := hrel
    have hjl : j < l.length := by omega
    have hjI : (j : Int) < (l.length : Int) := by omega
    have hjI0 : (0 : Int) ≤ (j : Int) := by omega
    have hsz := HB.out.size
    have hln : (nums acc).length ≤ 100000000000 := by unfold nums; rw [List.length_map]; omega
    obtain ⟨_, _, _, _, _, _, x6, _⟩ := (HK.out.past HB.out).cell
    by_cases h0 : j = 0
    · have HE : Hid (nums acc.reverse = nums (Wd i)) := hid0 (by rw [HW.out, h0, HM.out.z.1]; rfl)
      have HN : Hid ((nums acc).reverse = nums (Wd i)) := hid0 (by rw [← HE.out]; unfold nums; rw [List.map_reverse])
      have hj0 : ¬ (j : Int) > 0 := by omega
      clear h0 hjI hjl
      obtain ⟨av, cv, ev, _⟩ := HO.out.ia
      subst ev
      have HC := hid0 (reverseI_any (nums acc) _ w.heap.size wr hln HO.out)
      generalize nums acc = Y at *
      go_wp2_with (go_at_call 61; refine HC.out.mono ?_; rintro e w2 ⟨rfl, ho2, hb2⟩; have HO2 := hid0 ho2; have HB2 := hid0 hb2; clear ho2 hb2)
      go_ret
      exact ⟨_, rfl, by rw [← HN.out]; exact HO2.out, HB.out.trans HB2.out⟩
    · have hj0 : (j : Int) > 0 := by omega
      obtain ⟨s1, s2, s3, _, _⟩ := HM.out.st j (by omega) hjl
      have HW2 : Hid (Wd i = Wd (l.getD j default).fr ++ (acc ++ [(l.getD j default).sy]).reverse) := hid0 (by rw [HW.out, s3, List.reverse_append, List.append_assoc]; rfl)
      have HN : Hid (nums (acc ++ [(l.getD j default).sy]) = nums acc ++ [((l.getD j default).sy : Int)]) := hid0 (by unfold nums; rw [List.map_append]; rfl)
      have HD5 : Hid (∀ V : World, Below w.heap.size w V → V.cell? ⟨X, 6, none⟩ = some (.slice am l.length cm) ∧ ∃ g, am = some ⟨g, 0, none⟩ ∧ V.cell? ⟨g, j * 4 + 2, none⟩ = some (.int .i64 ((l.getD j default).fr : Int)) ∧ V.cell? ⟨g, j * 4 + 3, none⟩ = some (.int .i64 ((l.getD j default).sy : Int))) := hid0 (fun V hV => by
        have hk := HK.out.past hV
        obtain ⟨a', c', e', hc⟩ := hk.form
        cases e'
        obtain ⟨_, _, _, _, _, _, y6, _⟩ := hk.cell
        obtain ⟨g, eg, _, _, q2, q3⟩ := hc j hjl
        exact ⟨y6, g, eg, q2, q3⟩)
      obtain ⟨y6, g, rfl, d2, d3⟩ := HD5.out wr HB.out
      obtain ⟨av, cv, ev, _⟩ := HO.out.ia
      subst ev
      generalize (l.getD j default).fr = f at *
      generalize (l.getD j default).sy = y at *
      generalize hX : nums acc = Xs at *
      clear h0 s2 s3
      go_wp2_with (at_builtin; go_loud ((
        refine wpList_append_own_at _ rfl _ _ 25 rfl w.heap.size 3 i0 (.int .i64 0) 1 8 Tryd.underlying25 hi hz0 hz1 hz2 rfl (by decide) _ Xs.length (Xs.map (Value.int .i64)) rfl (World.ownsRow.alloc HO.out _) ⟨wr.heap.size, 0, none⟩ 1 1 [.int .i64 (y : Int)] rfl rfl (cell_one_new _ _ _) (by simp [Value.oneCell']) (by unfold maxLen; omega) (by omega) (by simp; omega) ?_
        intro v2 w3 hown2 hgrow2 _ _
        have R := ownI_snoc rfl HO.out hown2 hgrow2 HB.out (Nat.le_refl _)
        have HO3 := hid0 R.1
        have HB3 := hid0 R.2
        obtain ⟨av2, cv2, ev2, _⟩ := R.1.ia
        rw [List.length_append, List.length_singleton] at ev2
        subst ev2
        obtain ⟨z6, g', eg, d5, _⟩ := HD5.out _ R.2
        cases eg
        clear R hown2 hgrow2)))
      go_roundw
      case rel => exact ⟨f, acc ++ [y], by omega, by rw [List.length_append, List.length_singleton]; omega, rfl, HW2, hid0 (by rw [HN.out]; exact HO3.out), HB3⟩
      case measure => simpa [intOf] using s1
end Go.Proofs.YtjemjccgfgijiaaDoor
namespace Go.Proofs.YtjemjccgfgijiaaDoor
open Go.RowKit Go.Shelf
/-- The rows of a machine, as they lie below. -/
structure MaA (w : World) (aN aO : Option Addr) (N O : List (List Int)) : Prop where
  n : RwA w aN N
  o : RwA w aO O
theorem MaA.past {w w' : World} {aN aO : Option Addr} {N O : List (List Int)} (h : MaA w aN aO N O) (hb : Below w.heap.size w w') : MaA w' aN aO N O := ⟨h.n.past hb, h.o.past hb⟩
/-- The queue, or nothing: they never part. -/
def Inv (T : Two) (l : List Mt) (Wd : Nat → List Nat) (i : Nat) : Prop := (l = [] ∧ i = 0 ∧ ∀ z, ¬ T.dis T.sa T.sb z) ∨ (Que T l Wd i 0 ∧ i ≤ l.length)
theorem Inv.le {T : Two} {l : List Mt} {Wd : Nat → List Nat} {i : Nat} (h : Inv T l Wd i) : i ≤ l.length := by
  rcases h with ⟨rfl, rfl, _⟩ | h
  · exact Nat.le_refl _
  · exact h.2
theorem Inv.none {T : Two} {l : List Mt} {Wd : Nat → List Nat} {i : Nat} (h : Inv T l Wd i) (hi : i = l.length) : ∀ z, T.ok z → ¬ T.dis T.sa T.sb z := by
  rcases h with ⟨_, _, h⟩ | h
  · exact fun z _ => h z
  · subst hi; exact h.1.none
theorem Inv.que {T : Two} {l : List Mt} {Wd : Nat → List Nat} {i : Nat} (h : Inv T l Wd i) (hi : i < l.length) : Que T l Wd i 0 := by
  rcases h with ⟨rfl, _, _⟩ | h
  · exact absurd hi (Nat.not_lt_zero _)
  · exact h.1
/-- What firstUnlike leaves. -/
def FuR (T : Two) (lo X G B n : Nat) (v0 v1 v2 v3 v4 v5 : Value) (w : World) (e : Ending) (w' : World) : Prop :=
  (∃ i p vm l Wd, e = .returned (.tuple #[.int .i64 ((i : Nat) : Int), .bool true]) ∧ Wk w' lo X G B n v0 v1 v2 v3 v4 v5 vm p l ∧ Met T l Wd ∧ i < l.length ∧ l.length ≤ n ∧ T.Best (Wd i) ∧ Below lo w w') ∨
  (e = .returned (.tuple #[.int .i64 0, .bool false]) ∧ (∀ z, T.ok z → ¬ T.dis T.sa T.sb z) ∧ Below lo w w')
/-- All of it at a meeting and a symbol. -/
structure Fst (T : Two) (na nb lo X G B : Nat) (v0 v1 v2 v3 v4 v5 : Value) (wb W : World) (l : List Mt) : Prop where
  at' : ∃ p rt d vm, Wk W lo X G B (na + nb) v0 v1 v2 v3 v4 v5 vm p l ∧ Lg T na nb p rt d l
  bel : Below lo wb W
theorem Fst.len {T : Two} {na nb lo X G B : Nat} {v0 v1 v2 v3 v4 v5 : Value} {wb W : World} {l : List Mt} (h : Fst T na nb lo X G B v0 v1 v2 v3 v4 v5 wb W l) (hn : 0 < na) : l.length < na + nb := by
  obtain ⟨p, rt, d, vm, _, hg⟩ := h.at'
  have h1 := hg.rc
  have h2 := rootsF_pos hg.fr (by omega)
  omega
theorem Fst.past {T : Two} {na nb lo X G B : Nat} {v0 v1 v2 v3 v4 v5 : Value} {wb W W' : World} {l : List Mt} (h : Fst T na nb lo X G B v0 v1 v2 v3 v4 v5 wb W l) (hl : lo ≤ W.heap.size) (hb : Below W.heap.size W W') : Fst T na nb lo X G B v0 v1 v2 v3 v4 v5 wb W' l := by
  obtain ⟨p, rt, d, vm, hk, hg⟩ := h.at'
  exact ⟨⟨p, rt, d, vm, hk.past hb, hg⟩, h.bel.trans (hb.mono hl)⟩
theorem Fst.low {T : Two} {na nb lo X G B : Nat} {v0 v1 v2 v3 v4 v5 : Value} {wb W : World} {l : List Mt} (h : Fst T na nb lo X G B v0 v1 v2 v3 v4 v5 wb W l) : lo ≤ W.heap.size := by
  obtain ⟨p, rt, d, vm, hk, hg⟩ := h.at'
  have := hk.lx; have := hk.xb; have := hk.bs; omega
theorem fst_meet {T : Two} {na nb lo X G B : Nat} {v0 v1 v2 v3 v4 v5 : Value} {wb W W' : World} {l : List Mt} {x : Mt} (hb : Below lo wb W) (h : MeetR T na nb lo X G B v0 v1 v2 v3 v4 v5 l x W W') : ∃ l', Fst T na nb lo X G B v0 v1 v2 v3 v4 v5 wb W' l' ∧ ((l' = l ∧ ∀ v, T.dis x.a x.b v → ∃ k, k < l.length ∧ T.dis (l.getD k default).a (l.getD k default).b v) ∨ l' = l ++ [x]) := by
  obtain ⟨p, rt, d, l', vm, h1, h2, h3, h4⟩ := h
  exact ⟨l', ⟨⟨p, rt, d, vm, h1, h2⟩, hb.trans h4⟩, h3⟩
theorem fst_first {T : Two} {na nb lo X G B f s : Nat} {v0 v1 v2 v3 v4 v5 : Value} {wb W W' : World} (hb : Below lo wb W) (h : MeetR T na nb lo X G B v0 v1 v2 v3 v4 v5 [] ⟨T.sa, T.sb, f, s⟩ W W') : ∃ l' Wd, Fst T na nb lo X G B v0 v1 v2 v3 v4 v5 wb W' l' ∧ Inv T l' Wd 0 := by
  obtain ⟨l', h1, h2⟩ := fst_meet hb h
  refine ⟨l', fun _ => [], h1, ?_⟩
  rcases h2 with ⟨rfl, h2⟩ | rfl
  · refine .inl ⟨rfl, rfl, fun z hz => ?_⟩
    obtain ⟨k, hk, _⟩ := h2 z hz
    exact absurd hk (Nat.not_lt_zero _)
  · exact .inr ⟨Que.start T f s, Nat.zero_le _⟩
theorem que_meet {T : Two} {l l' : List Mt} {Wd : Nat → List Nat} {i c : Nat} {x : Mt} (hq : Que T l Wd i c) (hi : i < l.length) (hc : c < T.m) (hx : x = ⟨T.fa (l.getD i default).a c, T.fb (l.getD i default).b c, i, c⟩)
    (h : (l' = l ∧ ∀ v, T.dis x.a x.b v → ∃ k, k < l.length ∧ T.dis (l.getD k default).a (l.getD k default).b v) ∨ l' = l ++ [x]) : ∃ Wd', Que T l' Wd' i (c + 1) ∧ i < l'.length ∧ l'.getD i default = l.getD i default := by
  rcases h with ⟨rfl, h⟩ | rfl
  · subst hx
    exact ⟨Wd, hq.keep hi h, hi, rfl⟩
  · subst hx
    obtain ⟨W', h'⟩ := hq.push hi hc
    exact ⟨W', h', by rw [List.length_append]; omega, getD_snoc_old hi⟩
end Go.Proofs.YtjemjccgfgijiaaDoor
namespace Go.Proofs.YtjemjccgfgijiaaDoor
open Go.RowKit Go.Shelf
theorem getD_at {L : List (List Int)} {k : Nat} (h : k < L.length) : L.getD k [] = L[k] := by rw [List.getD_eq_getElem?_getD, List.getElem?_eq_getElem h]; rfl
set_option maxRecDepth 10000 in
set_option maxHeartbeats 3200000 in
theorem firstUnlike_any (m sa sb lo X G B cN cO cM cP : Nat) (N O N' O' : List (List Int)) (aN aO aM aP : Option Addr) (wb w : World) (hlo : lo = wb.heap.size) (ha : MaA wb aN aO N O) (hb : MaA wb aM aP N' O') (hma : May (sa : Int) N O m) (hmb : May (sb : Int) N' O' m)
    (hbig : N.length + N'.length ≤ 100000000000) (hm64 : m ≤ 100000000000) (hOr : ∀ r ∈ O, r.length ≤ 17592186044000) (hB : Below lo wb w) (hk : Wk w lo X G B (N.length + N'.length) (.int .i64 (sa : Int)) (.slice aN N.length cN) (.slice aO O.length cO) (.int .i64 (sb : Int)) (.slice aM N'.length cM) (.slice aP O'.length cP) (.slice none 0 0) (fun s => s) []) :
    Calls Tryd.prog 38 #[.pointer (some ⟨X, 0, none⟩)] w fun e w' => FuR (twoF m (sa : Int) (sb : Int) N O N' O') lo X G B (N.length + N'.length) (.int .i64 (sa : Int)) (.slice aN N.length cN) (.slice aO O.length cO) (.int .i64 (sb : Int)) (.slice aM N'.length cM) (.slice aP O'.length cP) wb e w' := by
  have hsa : sa < N.length := by have := hma.start; omega
  have hsb : sb < N'.length := by have := hmb.start; omega
  have hoa := hma.out
  have hob := hmb.out
  have HMa := hid0 hma
  have HMb := hid0 hmb
  have HA := hid0 ha
  have HA' := hid0 hb
  have HB := hid0 hB
  have HLo := hid0 hlo
  have HOr := hid0 hOr
  obtain ⟨T, hT⟩ : ∃ T, T = twoF m (sa : Int) (sb : Int) N O N' O' := ⟨_, rfl⟩
  have HT := hid0 hT
  have eTa : T.sa = sa := by rw [hT]; exact Int.toNat_natCast sa
  have eTb : T.sb = sb := by rw [hT]; exact Int.toNat_natCast sb
  have HM : Hid (Calls Tryd.prog 60 #[.pointer (some ⟨X, 0, none⟩), .agg #[.int .i64 (sa : Int), .int .i64 (sb : Int), .int .i64 0, .int .i64 0]] w.drew fun e w' => e = .returned (.tuple #[]) ∧ MeetR T N.length N'.length lo X G B (.int .i64 (sa : Int)) (.slice aN N.length cN) (.slice aO O.length cO) (.int .i64 (sb : Int)) (.slice aM N'.length cM) (.slice aP O'.length cP) [] ⟨T.sa, T.sb, 0, 0⟩ w w') := hid0 (by
    rw [eTa, eTb]
    have hd : Below w.heap.size w w.drew := ⟨rfl, rfl, rfl, Nat.le_refl _, fun _ _ => rfl⟩
    refine (meet_any T N.length N'.length lo X G B sa sb 0 0 cN _ _ _ _ _ _ aN _ (fun s => s) (fun _ => 0) [] w.drew hsa hsb hbig (hk.past hd) ⟨Frst.one _, Circ.one T _ _, by rw [rootsF_one]; simp, fun k hk => absurd hk (Nat.not_lt_zero _)⟩).mono ?_
    rintro e w' ⟨h1, p, rt, d, l', vm, h2, h3, h4, h5⟩
    exact ⟨h1, p, rt, d, l', vm, h2, h3, h4, (hd.mono (by have := hk.lx; have := hk.xb; have := hk.bs; omega)).trans h5⟩)
  obtain ⟨x0, _, _, x3, _⟩ := hk.cell
  rw [← hT]
  clear hk hB hlo ha hb hma hmb hOr hT eTa eTb
  go_enter Tryd.func38, Tryd.ntmps38
  go_wp2
  refine wp_region_noPanic ?_
  refine wp_region_held_drew (S := (fun V => V.cell? ⟨X, 0, none⟩ = some (.int .i64 (sa : Int)) ∧ V.cell? ⟨X, 3, none⟩ = some (.int .i64 (sb : Int)))) (by kernel_rfl) ?_ (fun hHeld => ?_)
  · exact ⟨x0, x3⟩
  refine tkV (i := 0) (d := some 9) (v := ?_) rfl (by kernel_rfl) (by kernel_rfl) (by kernel_rfl) rfl (fun _ _ _ h => h) (by rfl) ?_ (by assumption) ?_
  rotate_left
  · (intro w hSw; (try dsimp only at hSw); (try simp only [List.getElem_toArray, List.getElem_cons_zero]); go_simp; try with_reducible rfl)
  try simp only [Act.put, List.setIfInBounds_toArray, List.set_cons_zero, List.set_cons_succ]
  refine tkV (i := 1) (d := some 10) (v := ?_) rfl (by kernel_rfl) (by kernel_rfl) (by kernel_rfl) rfl (fun _ _ _ h => h) (by rfl) ?_ (by assumption) ?_
  rotate_left
  · (intro w hSw; (try dsimp only at hSw); (try simp only [List.getElem_toArray, List.getElem_cons_zero, List.getElem_cons_succ]); go_simp; try with_reducible rfl)
  try simp only [Act.put, List.setIfInBounds_toArray, List.set_cons_zero, List.set_cons_succ]
  refine tkV (i := 2) (d := some 11) (v := ?_) rfl (by kernel_rfl) (by kernel_rfl) (by kernel_rfl) rfl (fun _ _ _ h => h) (by rfl) ?_ (by assumption) ?_
  rotate_left
  · (intro w hSw; (try dsimp only at hSw); (try simp only [List.getElem_toArray, List.getElem_cons_zero, List.getElem_cons_succ]); go_simp; try with_reducible rfl)
  try simp only [Act.put, List.setIfInBounds_toArray, List.set_cons_zero, List.set_cons_succ]
  refine tkV (i := 3) (d := some 12) (v := ?_) rfl (by kernel_rfl) (by kernel_rfl) (by kernel_rfl) rfl (fun _ _ _ h => h) (by rfl) ?_ (by assumption) ?_
  rotate_left
  · (intro w hSw; (try dsimp only at hSw); (try simp only [List.getElem_toArray, List.getElem_cons_zero, List.getElem_cons_succ]); go_simp; try with_reducible rfl)
  try simp only [Act.put, List.setIfInBounds_toArray, List.set_cons_zero, List.set_cons_succ]
  refine tkV (i := 4) (d := some 13) (v := ?_) rfl (by kernel_rfl) (by kernel_rfl) (by kernel_rfl) rfl (fun _ _ _ h => h) (by rfl) ?_ (by assumption) ?_
  rotate_left
  · (intro w hSw; (try dsimp only at hSw); (try simp only [List.getElem_toArray, List.getElem_cons_zero, List.getElem_cons_succ]); go_simp; try with_reducible rfl)
  try simp only [Act.put, List.setIfInBounds_toArray, List.set_cons_zero, List.set_cons_succ]
  refine tkV (i := 5) (d := some 14) (v := ?_) rfl (by kernel_rfl) (by kernel_rfl) (by kernel_rfl) rfl (fun _ _ _ h => h) (by rfl) ?_ (by assumption) ?_
  rotate_left
  · (intro w hSw; (try dsimp only at hSw); (try simp only [List.getElem_toArray, List.getElem_cons_zero, List.getElem_cons_succ]); go_simp; try with_reducible rfl)
  try simp only [Act.put, List.setIfInBounds_toArray, List.set_cons_zero, List.set_cons_succ]
  refine tkV (i := 6) (d := some 15) (v := ?_) rfl (by kernel_rfl) (by kernel_rfl) (by kernel_rfl) rfl (fun _ _ _ h => h) (by rfl) ?_ (by assumption) ?_
  rotate_left
  · (intro w hSw; (try dsimp only at hSw); (try simp only [List.getElem_toArray, List.getElem_cons_zero, List.getElem_cons_succ]); go_simp; try with_reducible rfl)
  try simp only [Act.put, List.setIfInBounds_toArray, List.set_cons_zero, List.set_cons_succ]
  refine tkV (i := 7) (d := some 16) (v := ?_) rfl (by kernel_rfl) (by kernel_rfl) (by kernel_rfl) rfl (fun _ _ _ h => h) (by rfl) ?_ (by assumption) ?_
  rotate_left
  · (intro w hSw; (try dsimp only at hSw); (try simp only [List.getElem_toArray, List.getElem_cons_zero, List.getElem_cons_succ]); go_simp; try with_reducible rfl)
  try simp only [Act.put, List.setIfInBounds_toArray, List.set_cons_zero, List.set_cons_succ]
  refine tkV (i := 8) (d := some 17) (v := ?_) rfl (by kernel_rfl) (by kernel_rfl) (by kernel_rfl) rfl (fun _ _ _ h => h) (by rfl) ?_ (by assumption) ?_
  rotate_left
  · (intro w hSw; (try dsimp only at hSw); (try simp only [List.getElem_toArray, List.getElem_cons_zero, List.getElem_cons_succ]); go_simp; try with_reducible rfl)
  try simp only [Act.put, List.setIfInBounds_toArray, List.set_cons_zero, List.set_cons_succ]
  refine tkV (i := 9) (d := some 18) (v := ?_) rfl (by kernel_rfl) (by kernel_rfl) (by kernel_rfl) rfl (fun _ _ _ h => h) (by rfl) ?_ (by assumption) ?_
  rotate_left
  · (intro w hSw; (try dsimp only at hSw); (try simp only [List.getElem_toArray, List.getElem_cons_zero, List.getElem_cons_succ]); go_simp; try with_reducible rfl)
  try simp only [Act.put, List.setIfInBounds_toArray, List.set_cons_zero, List.set_cons_succ]
  refine tkV (i := 10) (d := some 19) (v := ?_) rfl (by kernel_rfl) (by kernel_rfl) (by kernel_rfl) rfl (fun _ _ _ h => h) (by rfl) ?_ (by assumption) ?_
  rotate_left
  · (intro w hSw; (try dsimp only at hSw); (try simp only [List.getElem_toArray, List.getElem_cons_zero, List.getElem_cons_succ]); go_simp; try with_reducible rfl)
  try simp only [Act.put, List.setIfInBounds_toArray, List.set_cons_zero, List.set_cons_succ]
  refine tkV (i := 11) (d := some 20) (v := ?_) rfl (by kernel_rfl) (by kernel_rfl) (by kernel_rfl) rfl (fun _ _ _ h => h) (by rfl) ?_ (by assumption) ?_
  rotate_left
  · (intro w hSw; (try dsimp only at hSw); (try simp only [List.getElem_toArray, List.getElem_cons_zero, List.getElem_cons_succ]); go_simp; try with_reducible rfl)
  try simp only [Act.put, List.setIfInBounds_toArray, List.set_cons_zero, List.set_cons_succ]
  refine wpAnyH_ready (rs := [12]) (by kernel_rfl) (by simp) (AllReadyH.cons rfl (fun K hK => ?_) AllReadyH.nil)
  try simp only [List.getElem_toArray, List.getElem_cons_zero, List.getElem_cons_succ]
  go_simp
  refine HM.out.mono ?_
  rintro e w1 ⟨rfl, hr1⟩
  obtain ⟨l1, Wd1, hf1, hi1⟩ := fst_first HB.out hr1
  have HF1 := hid0 hf1
  have HI1 := hid0 hi1
  have HS1 : Hid (w1.cell? ⟨X, 0, none⟩ = some (.int .i64 (sa : Int)) ∧ w1.cell? ⟨X, 3, none⟩ = some (.int .i64 (sb : Int))) := hid0 (by obtain ⟨_, _, _, _, hk, _⟩ := hf1.at'; obtain ⟨q0, _, _, q3, _⟩ := hk.cell; exact ⟨q0, q3⟩)
  clear hf1 hi1 hr1
  go_wp2_with fail
  refine hK.out _ _ ?_ (fun hHeld12 => ?_)
  · exact HS1.out
  clear hK K
  (try simp only [Act.put]); (try simp only [List.setIfInBounds_toArray]); (try simp only [List.set_cons_succ]); (try simp only [List.set_cons_zero])
  refine wpAnyH_done (by kernel_rfl) ?_ _
  refine NoPanic.normal ?_
  obtain ⟨z0, z1, z2, z3, z4, z5, z7⟩ : w1.cell? ⟨X, 0, none⟩ = some (.int .i64 (sa : Int)) ∧ w1.cell? ⟨X, 1, none⟩ = some (.slice aN N.length cN) ∧ w1.cell? ⟨X, 2, none⟩ = some (.slice aO O.length cO) ∧ w1.cell? ⟨X, 3, none⟩ = some (.int .i64 (sb : Int)) ∧ w1.cell? ⟨X, 4, none⟩ = some (.slice aM N'.length cM) ∧ w1.cell? ⟨X, 5, none⟩ = some (.slice aP O'.length cP) ∧ w1.cell? ⟨X, 7, none⟩ = some (.slice (some ⟨G, 0, none⟩) (N.length + N'.length) (N.length + N'.length)) := by
    obtain ⟨_, _, _, _, hk, _⟩ := HF1.out.at'
    obtain ⟨q0, q1, q2, q3, q4, q5, _, q7⟩ := hk.cell
    exact ⟨q0, q1, q2, q3, q4, q5, q7⟩
  clear hHeld hHeld12 HS1 HM HB x0 x3
  go_wp2
  clear z0 z1 z2 z3 z4 z5 z7
  go_loopw [27] (fun i wr => ∃ (k : Nat) (l : List Mt) (Wd : Nat → List Nat), k < N.length + N'.length ∧ i = .int .i64 (k : Int) ∧ Hid (Fst T N.length N'.length lo X G B (.int .i64 (sa : Int)) (.slice aN N.length cN) (.slice aO O.length cO) (.int .i64 (sb : Int)) (.slice aM N'.length cM) (.slice aP O'.length cP) wb wr l) ∧ Hid (Inv T l Wd k)) (fun i _ => N.length + N'.length - (intOf i).toNat)
  case atStart => exact ⟨0, l1, Wd1, by omega, rfl, HF1, HI1⟩
  case round =>
    clear HF1 HI1
    obtain ⟨wo, hwo⟩ : ∃ wo, wo = wr := ⟨_, rfl⟩
    subst hwo
    obtain ⟨i, l, Wd, hin, rfl, HF, HI⟩ := hrel
    have hiI : (i : Int) < ((N.length + N'.length : Nat) : Int) := by omega
    have hiI0 : (0 : Int) ≤ (i : Int) := by omega
    obtain ⟨p, rt, d, vm, hk, hg⟩ := HF.out.at'
    obtain ⟨am, cm, rfl, hform⟩ := hk.form
    obtain ⟨x0, x1, x2, x3, x4, x5, x6, x7⟩ := hk.cell
    have hll := HF.out.len (by omega)
    have hlw := HF.out.low
    by_cases hil : i < l.length
    · have hne : ¬ (i : Int) = (l.length : Int) := by omega
      have hilI : (i : Int) < (l.length : Int) := by omega
      obtain ⟨g, rfl, d0, d1, d2, d3⟩ := hform i hil
      obtain ⟨hxa, hxb⟩ := hg.inm i hil
      have HQ := hid0 (HI.out.que hil)
      obtain ⟨xa, exa⟩ : ∃ xa, xa = (l.getD i default).a := ⟨_, rfl⟩
      obtain ⟨xb, exb⟩ : ∃ xb, xb = (l.getD i default).b := ⟨_, rfl⟩
      have HXa := hid0 exa
      have HXb := hid0 exb
      rw [← exa] at d0 hxa
      rw [← exb] at d1 hxb
      generalize (l.getD i default).fr = fr at *
      generalize (l.getD i default).sy = sy at *
      obtain ⟨w4, hw4⟩ : ∃ w4, w4 = wo.alloc (.cells #[.int .i64 (xa : Int), .int .i64 (xb : Int), .int .i64 (fr : Int), .int .i64 (sy : Int)] 92) := ⟨_, rfl⟩
      have hB4 : Below wo.heap.size wo w4 := by rw [hw4]; exact (Below.refl _ _).alloc (Nat.le_refl _) _
      have hY4 : w4.heap[wo.heap.size]? = some (.cells #[.int .i64 (xa : Int), .int .i64 (xb : Int), .int .i64 (fr : Int), .int .i64 (sy : Int)] 92 (0, 0)) := by rw [hw4]; exact heap_alloc_new wo _
      have hk4 := hk.past hB4
      have hxO : xa < O.length := by omega
      have hxP : xb < O'.length := by omega
      have hbw : Below wb.heap.size wb wo := by rw [← HLo.out]; exact HF.out.bel
      have HMA4 := hid0 ((HA.out.past hbw).past hB4)
      have HMB4 := hid0 ((HA'.out.past hbw).past hB4)
      obtain ⟨bO, oO, rfl, _, a1, c1, e1, ia1⟩ := HMA4.out.o.at' xa hxO
      obtain ⟨bP, oP, rfl, _, a2, c2, e2, ia2⟩ := HMB4.out.o.at' xb hxP
      obtain ⟨ra, hra⟩ : ∃ ra, ra = O[xa] := ⟨_, rfl⟩
      obtain ⟨rb, hrb⟩ : ∃ rb, rb = O'[xb] := ⟨_, rfl⟩
      rw [← hra] at e1 ia1
      rw [← hrb] at e2 ia2
      have hral : ra.length ≤ 17592186044000 := HOr.out _ (by rw [hra]; exact List.getElem_mem _)
      have HS7 : Hid (∀ V : World, Below w4.heap.size w4 V → V.cell? ⟨X, 2, none⟩ = some (.slice (some ⟨bO, oO, none⟩) O.length cO) ∧ V.cell? ⟨X, 5, none⟩ = some (.slice (some ⟨bP, oP, none⟩) O'.length cP) ∧ V.cell? ⟨wo.heap.size, 0, none⟩ = some (.int .i64 (xa : Int)) ∧ V.cell? ⟨wo.heap.size, 1, none⟩ = some (.int .i64 (xb : Int)) ∧ V.cell? ⟨bO, oO + xa, none⟩ = some (.slice a1 ra.length c1) ∧ V.cell? ⟨bP, oP + xb, none⟩ = some (.slice a2 rb.length c2)) := hid0 (fun V hV => by
        obtain ⟨_, _, q2, _, _, q5, _⟩ := (hk4.past hV).cell
        have hy := (hV.block _ (Array.getElem?_eq_some_iff.1 hY4).1).trans hY4
        exact ⟨q2, q5, by rw [cell_of_row _ _ _ _ _ _ hy]; rfl, by rw [cell_of_row _ _ _ _ _ _ hy]; rfl, (hV.cell (p := ⟨bO, oO + xa, none⟩) (World.block_lt_of_cell? _ _ e1)).trans e1, (hV.cell (p := ⟨bP, oP + xb, none⟩) (World.block_lt_of_cell? _ _ e2)).trans e2⟩)
      have HEq : Hid (∀ V : World, Below w4.heap.size w4 V → Calls Tryd.prog 59 #[.slice a1 ra.length c1, .slice a2 rb.length c2] V fun e w' => e = .returned (.bool (decide (ra = rb))) ∧ ∃ n, w' = V.drewN n) := hid0 (fun V hV => equal_any ra rb a1 a2 c1 c2 V hral (ia1.past hV) (ia2.past hV))
      have hy0 : w4.cell? ⟨wo.heap.size, 0, none⟩ = some (.int .i64 (xa : Int)) := by rw [cell_of_row _ _ _ _ _ _ hY4]; rfl
      have hy1 : w4.cell? ⟨wo.heap.size, 1, none⟩ = some (.int .i64 (xb : Int)) := by rw [cell_of_row _ _ _ _ _ _ hY4]; rfl
      have hxOI : (xa : Int) < (O.length : Int) := by omega
      have hxPI : (xb : Int) < (O'.length : Int) := by omega
      have hxNI : (xa : Int) < (N.length : Int) := by omega
      have hxMI : (xb : Int) < (N'.length : Int) := by omega
      have hxa0 : (0 : Int) ≤ (xa : Int) := by omega
      have hxb0 : (0 : Int) ≤ (xb : Int) := by omega
      have HF4 := hid0 (HF.out.past hlw hB4)
      have HK4 := hid0 hk4
      have HTa : Hid (T.ta (l.getD i default).a = ra) := hid0 (by rw [← HXa.out, HT.out, hra]; exact getD_at hxO)
      have HTb : Hid (T.tb (l.getD i default).b = rb) := hid0 (by rw [← HXb.out, HT.out, hrb]; exact getD_at hxP)
      have HG := hid0 hg
      clear hk hk4 hg hform exa exb hbw hra hrb hoa hob
      have HW4 := hid0 hw4
      clear hw4 hB4 hY4 ia1 ia2
      by_cases hab : ra = rb
      · have HEq2 : Hid (∀ V : World, Below w4.heap.size w4 V → Calls Tryd.prog 59 #[.slice a1 ra.length c1, .slice a2 rb.length c2] V fun e w' => e = .returned (.bool true) ∧ ∃ n, w' = V.drewN n) := hid0 (fun V hV => by have h := HEq.out V hV; rw [decide_eq_true hab] at h; exact h)
        have HAb := hid0 hab
        clear HEq hab
        go_wp2
        rw [← HW4.out]
        refine wp_region_noPanic ?_
        refine wp_region_held_drew (S := (fun V => V.cell? ⟨X, 2, none⟩ = some (.slice (some ⟨bO, oO, none⟩) O.length cO) ∧ V.cell? ⟨X, 5, none⟩ = some (.slice (some ⟨bP, oP, none⟩) O'.length cP) ∧ V.cell? ⟨wo.heap.size, 0, none⟩ = some (.int .i64 (xa : Int)) ∧ V.cell? ⟨wo.heap.size, 1, none⟩ = some (.int .i64 (xb : Int)) ∧ V.cell? ⟨bO, oO + xa, none⟩ = some (.slice a1 ra.length c1) ∧ V.cell? ⟨bP, oP + xb, none⟩ = some (.slice a2 rb.length c2))) (by kernel_rfl) ?_ (fun hHeld => ?_)
        · exact HS7.out _ ⟨rfl, rfl, rfl, Nat.le_refl _, fun _ _ => rfl⟩
        refine tkV (i := 0) (d := some 44) (v := ?_) rfl (by kernel_rfl) (by kernel_rfl) (by kernel_rfl) rfl (fun _ _ _ h => h) (by rfl) ?_ (by assumption) ?_
        rotate_left
        · (intro w hSw; (try dsimp only at hSw); (try simp only [List.getElem_toArray, List.getElem_cons_zero]); go_simp; try with_reducible rfl)
        try simp only [Act.put, List.setIfInBounds_toArray, List.set_cons_zero, List.set_cons_succ]
        refine tkV (i := 1) (d := some 45) (v := ?_) rfl (by kernel_rfl) (by kernel_rfl) (by kernel_rfl) rfl (fun _ _ _ h => h) (by rfl) ?_ (by assumption) ?_
        rotate_left
        · (intro w hSw; (try dsimp only at hSw); (try simp only [List.getElem_toArray, List.getElem_cons_zero, List.getElem_cons_succ]); go_simp; try with_reducible rfl)
        try simp only [Act.put, List.setIfInBounds_toArray, List.set_cons_zero, List.set_cons_succ]
        refine tkV (i := 2) (d := some 46) (v := ?_) rfl (by kernel_rfl) (by kernel_rfl) (by kernel_rfl) rfl (fun _ _ _ h => h) (by rfl) ?_ (by assumption) ?_
        rotate_left
        · (intro w hSw; (try dsimp only at hSw); (try simp only [List.getElem_toArray, List.getElem_cons_zero, List.getElem_cons_succ]); go_simp; try with_reducible rfl)
        try simp only [Act.put, List.setIfInBounds_toArray, List.set_cons_zero, List.set_cons_succ]
        refine tkV (i := 3) (d := some 47) (v := ?_) rfl (by kernel_rfl) (by kernel_rfl) (by kernel_rfl) rfl (fun _ _ _ h => h) (by rfl) ?_ (by assumption) ?_
        rotate_left
        · (intro w hSw; (try dsimp only at hSw); (try simp only [List.getElem_toArray, List.getElem_cons_zero, List.getElem_cons_succ]); go_simp; try with_reducible rfl)
        try simp only [Act.put, List.setIfInBounds_toArray, List.set_cons_zero, List.set_cons_succ]
        refine tkV (i := 4) (d := some 48) (v := ?_) rfl (by kernel_rfl) (by kernel_rfl) (by kernel_rfl) rfl (fun _ _ _ h => h) (by rfl) ?_ (by assumption) ?_
        rotate_left
        · (intro w hSw; (try dsimp only at hSw); (try simp only [List.getElem_toArray, List.getElem_cons_zero, List.getElem_cons_succ]); go_simp; try with_reducible rfl)
        try simp only [Act.put, List.setIfInBounds_toArray, List.set_cons_zero, List.set_cons_succ]
        refine tkV (i := 5) (d := some 49) (v := ?_) rfl (by kernel_rfl) (by kernel_rfl) (by kernel_rfl) rfl (fun _ _ _ h => h) (by rfl) ?_ (by assumption) ?_
        rotate_left
        · (intro w hSw; (try dsimp only at hSw); (try simp only [List.getElem_toArray, List.getElem_cons_zero, List.getElem_cons_succ]); go_simp; try with_reducible rfl)
        try simp only [Act.put, List.setIfInBounds_toArray, List.set_cons_zero, List.set_cons_succ]
        refine tkV (i := 6) (d := some 50) (v := ?_) rfl (by kernel_rfl) (by kernel_rfl) (by kernel_rfl) rfl (fun _ _ _ h => h) (by rfl) ?_ (by assumption) ?_
        rotate_left
        · (intro w hSw; (try dsimp only at hSw); (try simp only [List.getElem_toArray, List.getElem_cons_zero, List.getElem_cons_succ]); go_simp; try with_reducible rfl)
        try simp only [Act.put, List.setIfInBounds_toArray, List.set_cons_zero, List.set_cons_succ]
        refine tkV (i := 7) (d := some 51) (v := ?_) rfl (by kernel_rfl) (by kernel_rfl) (by kernel_rfl) rfl (fun _ _ _ h => h) (by rfl) ?_ (by assumption) ?_
        rotate_left
        · (intro w hSw; (try dsimp only at hSw); (try simp only [List.getElem_toArray, List.getElem_cons_zero, List.getElem_cons_succ]); go_simp; try with_reducible rfl)
        try simp only [Act.put, List.setIfInBounds_toArray, List.set_cons_zero, List.set_cons_succ]
        refine tkV (i := 8) (d := some 52) (v := ?_) rfl (by kernel_rfl) (by kernel_rfl) (by kernel_rfl) rfl (fun _ _ _ h => h) (by rfl) ?_ (by assumption) ?_
        rotate_left
        · (intro w hSw; (try dsimp only at hSw); (try simp only [List.getElem_toArray, List.getElem_cons_zero, List.getElem_cons_succ]); go_simp; try with_reducible rfl)
        try simp only [Act.put, List.setIfInBounds_toArray, List.set_cons_zero, List.set_cons_succ]
        refine tkV (i := 9) (d := some 53) (v := ?_) rfl (by kernel_rfl) (by kernel_rfl) (by kernel_rfl) rfl (fun _ _ _ h => h) (by rfl) ?_ (by assumption) ?_
        rotate_left
        · (intro w hSw; (try dsimp only at hSw); (try simp only [List.getElem_toArray, List.getElem_cons_zero, List.getElem_cons_succ]); go_simp; try with_reducible rfl)
        try simp only [Act.put, List.setIfInBounds_toArray, List.set_cons_zero, List.set_cons_succ]
        refine tkV (i := 10) (d := some 54) (v := ?_) rfl (by kernel_rfl) (by kernel_rfl) (by kernel_rfl) rfl (fun _ _ _ h => h) (by rfl) ?_ (by assumption) ?_
        rotate_left
        · (intro w hSw; (try dsimp only at hSw); (try simp only [List.getElem_toArray, List.getElem_cons_zero, List.getElem_cons_succ]); go_simp; try with_reducible rfl)
        try simp only [Act.put, List.setIfInBounds_toArray, List.set_cons_zero, List.set_cons_succ]
        refine tkV (i := 11) (d := some 55) (v := ?_) rfl (by kernel_rfl) (by kernel_rfl) (by kernel_rfl) rfl (fun _ _ _ h => h) (by rfl) ?_ (by assumption) ?_
        rotate_left
        · (intro w hSw; (try dsimp only at hSw); (try simp only [List.getElem_toArray, List.getElem_cons_zero, List.getElem_cons_succ]); go_simp; try with_reducible rfl)
        try simp only [Act.put, List.setIfInBounds_toArray, List.set_cons_zero, List.set_cons_succ]
        refine tkV (i := 12) (d := some 56) (v := ?_) rfl (by kernel_rfl) (by kernel_rfl) (by kernel_rfl) rfl (fun _ _ _ h => h) (by rfl) ?_ (by assumption) ?_
        rotate_left
        · (intro w hSw; (try dsimp only at hSw); (try simp only [List.getElem_toArray, List.getElem_cons_zero, List.getElem_cons_succ]); go_simp; try with_reducible rfl)
        try simp only [Act.put, List.setIfInBounds_toArray, List.set_cons_zero, List.set_cons_succ]
        refine tkV (i := 13) (d := some 57) (v := ?_) rfl (by kernel_rfl) (by kernel_rfl) (by kernel_rfl) rfl (fun _ _ _ h => h) (by rfl) ?_ (by assumption) ?_
        rotate_left
        · (intro w hSw; (try dsimp only at hSw); (try simp only [List.getElem_toArray, List.getElem_cons_zero, List.getElem_cons_succ]); go_simp; try with_reducible rfl)
        try simp only [Act.put, List.setIfInBounds_toArray, List.set_cons_zero, List.set_cons_succ]
        refine tkV (i := 14) (d := some 58) (v := ?_) rfl (by kernel_rfl) (by kernel_rfl) (by kernel_rfl) rfl (fun _ _ _ h => h) (by rfl) ?_ (by assumption) ?_
        rotate_left
        · (intro w hSw; (try dsimp only at hSw); (try simp only [List.getElem_toArray, List.getElem_cons_zero, List.getElem_cons_succ]); go_simp; try with_reducible rfl)
        try simp only [Act.put, List.setIfInBounds_toArray, List.set_cons_zero, List.set_cons_succ]
        refine tkV (i := 15) (d := some 59) (v := ?_) rfl (by kernel_rfl) (by kernel_rfl) (by kernel_rfl) rfl (fun _ _ _ h => h) (by rfl) ?_ (by assumption) ?_
        rotate_left
        · (intro w hSw; (try dsimp only at hSw); (try simp only [List.getElem_toArray, List.getElem_cons_zero, List.getElem_cons_succ]); go_simp; try with_reducible rfl)
        try simp only [Act.put, List.setIfInBounds_toArray, List.set_cons_zero, List.set_cons_succ]
        refine tkV (i := 16) (d := some 60) (v := ?_) rfl (by kernel_rfl) (by kernel_rfl) (by kernel_rfl) rfl (fun _ _ _ h => h) (by rfl) ?_ (by assumption) ?_
        rotate_left
        · (intro w hSw; (try dsimp only at hSw); (try simp only [List.getElem_toArray, List.getElem_cons_zero, List.getElem_cons_succ]); go_simp; try with_reducible rfl)
        try simp only [Act.put, List.setIfInBounds_toArray, List.set_cons_zero, List.set_cons_succ]
        refine tkV (i := 17) (d := some 61) (v := ?_) rfl (by kernel_rfl) (by kernel_rfl) (by kernel_rfl) rfl (fun _ _ _ h => h) (by rfl) ?_ (by assumption) ?_
        rotate_left
        · (intro w hSw; (try dsimp only at hSw); (try simp only [List.getElem_toArray, List.getElem_cons_zero, List.getElem_cons_succ]); go_simp; try with_reducible rfl)
        try simp only [Act.put, List.setIfInBounds_toArray, List.set_cons_zero, List.set_cons_succ]
        refine wpAnyH_ready (rs := [18]) (by kernel_rfl) (by simp) (AllReadyH.cons rfl (fun K hK => ?_) AllReadyH.nil)
        try simp only [List.getElem_toArray, List.getElem_cons_zero, List.getElem_cons_succ]
        go_simp
        refine (HEq2.out _ (by first | exact Below.refl _ _ | exact ⟨rfl, rfl, rfl, Nat.le_refl _, fun _ _ => rfl⟩)).mono ?_
        rintro e w5 ⟨rfl, nq, hw5⟩
        have HS5 := hid0 (HS7.out w5 (by rw [hw5]; exact ⟨rfl, rfl, rfl, Nat.le_refl _, fun _ _ => rfl⟩))
        have HB5 : Hid (Below w4.heap.size w4 w5) := hid0 (by rw [hw5]; exact ⟨rfl, rfl, rfl, Nat.le_refl _, fun _ _ => rfl⟩)
        clear hw5
        go_wp2_with fail
        refine hK.out _ _ ?_ (fun hHeld18 => ?_)
        · exact HS5.out
        clear hK K
        (try simp only [Act.put]); (try simp only [List.setIfInBounds_toArray]); (try simp only [List.set_cons_succ]); (try simp only [List.set_cons_zero])
        refine tkV (i := 19) (d := some 63) (v := ?_) rfl (by kernel_rfl) (by kernel_rfl) (by kernel_rfl) rfl (fun _ _ _ h => h) (by rfl) ?_ (by assumption) ?_
        rotate_left
        · (intro w hSw; (try dsimp only at hSw); (try simp only [List.getElem_toArray, List.getElem_cons_zero, List.getElem_cons_succ]); go_simp; try with_reducible rfl)
        try simp only [Act.put, List.setIfInBounds_toArray, List.set_cons_zero, List.set_cons_succ]
        refine wpAnyH_done (by kernel_rfl) ?_ _
        refine NoPanic.normal ?_
        obtain ⟨_, x1w, _, _, x4w, _, _, _⟩ := (HK4.out.past HB5.out).cell
        obtain ⟨_, _, y0w, y1w, _, _⟩ := HS7.out w5 HB5.out
        have HF5 := hid0 (HF4.out.past HF4.out.low HB5.out)
        have hbw5 : Below wb.heap.size wb w5 := by have := HF5.out.bel; rw [HLo.out] at this; exact this
        obtain ⟨bN, oN, rfl, hlN, a3, c3, e3b, ia3⟩ := HA.out.n.at' xa hxa
        obtain ⟨bM, oM, rfl, hlM, a4, c4, e4b, ia4⟩ := HA'.out.n.at' xb hxb
        have e3 := (hbw5.cell (p := ⟨bN, oN + xa, none⟩) hlN).trans e3b
        have e4 := (hbw5.cell (p := ⟨bM, oM + xb, none⟩) hlM).trans e4b
        clear e3b e4b hbw5
        have hl3 : N[xa].length = m := HMa.out.row _ (List.getElem_mem _)
        have hl4 : N'[xb].length = m := HMb.out.row _ (List.getElem_mem _)
        have HN3 : Hid (N[xa] = N.getD xa []) := hid0 (getD_at hxa).symm
        have HN4 : Hid (N'[xb] = N'.getD xb []) := hid0 (getD_at hxb).symm
        rw [hl3] at e3
        rw [hl4] at e4
        have HI3 := hid0 ia3
        have HI4 := hid0 ia4
        have HL3 := hid0 hl3
        have HL4 := hid0 hl4
        have HTm : Hid (T.m = m) := hid0 (by rw [HT.out]; rfl)
        have HTf : Hid (T.fa = nxF N ∧ T.fb = nxF N') := hid0 (by rw [HT.out]; exact ⟨rfl, rfl⟩)
        clear hHeld hHeld18 ia3 ia4 hl3 hl4 HS7 HEq2 HS5
        generalize hR3 : N[xa] = r3 at *
        generalize hR4 : N'[xb] = r4 at *
        clear hR3 hR4
        go_wp2
        go_quiet ((fail))
        go_wp2
        go_quiet ((fail))
        go_wp2
        go_loopw [84] (fun k wr => ∃ (c : Nat) (l2 : List Mt) (Wd2 : Nat → List Nat), c ≤ m ∧ k = .int .i64 (c : Int) ∧ Hid (Fst T N.length N'.length lo X G B (.int .i64 (sa : Int)) (.slice (some ⟨bN, oN, none⟩) N.length cN) (.slice (some ⟨bO, oO, none⟩) O.length cO) (.int .i64 (sb : Int)) (.slice (some ⟨bM, oM, none⟩) N'.length cM) (.slice (some ⟨bP, oP, none⟩) O'.length cP) wb wr l2) ∧ Hid (Que T l2 Wd2 i c) ∧ Hid (i < l2.length) ∧ Hid (l2.getD i default = l.getD i default)) (fun k _ => m - (intOf k).toNat)
        case atStart => exact ⟨0, l, Wd, Nat.zero_le _, rfl, hid0 (HF5.out.past HF5.out.low ⟨rfl, rfl, rfl, Nat.le_refl _, fun _ _ => rfl⟩), HQ, hid0 hil, hid0 rfl⟩
        case round =>
          obtain ⟨c, l2, Wd2, hc, rfl, HF2, HQ2, HL2, HE2⟩ := hrel
          by_cases hcm : c < m
          · have hcI : (c : Int) < (m : Int) := by omega
            have hcI0 : (0 : Int) ≤ (c : Int) := by omega
            have hbw : Below wb.heap.size wb wr := by have := HF2.out.bel; rw [HLo.out] at this; exact this
            obtain ⟨b5, o5, rfl, _, d5⟩ := (HI3.out.past hbw).at' c (by have := HL3.out; omega)
            obtain ⟨b6, o6, rfl, _, d6⟩ := (HI4.out.past hbw).at' c (by have := HL4.out; omega)
            obtain ⟨n1, n2, _⟩ := HMa.out.next hxa hcm
            obtain ⟨n3, n4, _⟩ := HMb.out.next hxb hcm
            obtain ⟨ya, hya⟩ : ∃ ya, ya = nxF N xa c := ⟨_, rfl⟩
            obtain ⟨yb, hyb⟩ : ∃ yb, yb = nxF N' xb c := ⟨_, rfl⟩
            rw [← hya] at n1 n2
            rw [← hyb] at n3 n4
            have v5 : r3[c]'(by have := HL3.out; omega) = (ya : Int) := by
              rw [← n2, ← HN3.out, List.getD_eq_getElem?_getD, List.getElem?_eq_getElem (by have := HL3.out; omega)]; rfl
            have v6 : r4[c]'(by have := HL4.out; omega) = (yb : Int) := by
              rw [← n4, ← HN4.out, List.getD_eq_getElem?_getD, List.getElem?_eq_getElem (by have := HL4.out; omega)]; rfl
            rw [v5] at d5
            rw [v6] at d6
            obtain ⟨p2, rt2, dd2, vm2, hk2, hg2⟩ := HF2.out.at'
            have HM2 := hid0 (meet_any T N.length N'.length lo X G B ya yb i c cN _ _ _ _ _ vm2 _ p2 rt2 dd2 l2 wr n1 n3 hbig hk2 hg2)
            have HXe : Hid ((⟨ya, yb, i, c⟩ : Mt) = ⟨T.fa (l2.getD i default).a c, T.fb (l2.getD i default).b c, i, c⟩) := hid0 (by rw [HE2.out, ← HXa.out, ← HXb.out, HTf.out.1, HTf.out.2, hya, hyb])
            have HCm : Hid (c < T.m) := hid0 (by rw [HTm.out]; exact hcm)
            clear hk2 hg2 hya hyb n2 n4 v5 v6 hbw
            go_wp2_with (go_at_call 60; go_loud ((
              refine HM2.out.mono ?_
              rintro e w7 ⟨rfl, hr7⟩
              obtain ⟨l3, hf3, hor⟩ := fst_meet HF2.out.bel hr7
              obtain ⟨Wd3, hq3, hi3, he3⟩ := que_meet HQ2.out HL2.out HCm.out HXe.out hor
              have HF3 := hid0 hf3
              have HQ3 := hid0 hq3
              have HL3' := hid0 hi3
              have HE3 := hid0 (he3.trans HE2.out)
              clear hr7 hf3 hor hq3 hi3 he3)))
            go_roundw
            case rel => exact ⟨c + 1, l3, Wd3, by omega, by go_num, HF3, HQ3, HL3', HE3⟩
            case measure => simp [intOf]; omega
          · have hcI : ¬ (c : Int) < (m : Int) := by omega
            obtain rfl : c = m := by omega
            have HInv : Hid (Inv T l2 Wd2 (i + 1)) := hid0 (.inr ⟨(by rw [HTm.out]; exact HQ2.out : Que T l2 Wd2 i T.m).next (by rw [HE2.out, HTa.out, HTb.out]; exact HAb.out), HL2.out⟩)
            have hn2 := HF2.out.len (by omega)
            have hl2 := HL2.out
            go_wp2
            go_roundw
            case rel => exact ⟨i + 1, l2, Wd2, by omega, by go_num, HF2, HInv⟩
            case measure => simp [intOf]; omega
      · have HEq2 : Hid (∀ V : World, Below w4.heap.size w4 V → Calls Tryd.prog 59 #[.slice a1 ra.length c1, .slice a2 rb.length c2] V fun e w' => e = .returned (.bool false) ∧ ∃ n, w' = V.drewN n) := hid0 (fun V hV => by have h := HEq.out V hV; rw [decide_eq_false hab] at h; exact h)
        have HAb := hid0 hab
        clear HEq hab
        go_wp2
        rw [← HW4.out]
        refine wp_region_noPanic ?_
        refine wp_region_held_drew (S := (fun V => V.cell? ⟨X, 2, none⟩ = some (.slice (some ⟨bO, oO, none⟩) O.length cO) ∧ V.cell? ⟨X, 5, none⟩ = some (.slice (some ⟨bP, oP, none⟩) O'.length cP) ∧ V.cell? ⟨wo.heap.size, 0, none⟩ = some (.int .i64 (xa : Int)) ∧ V.cell? ⟨wo.heap.size, 1, none⟩ = some (.int .i64 (xb : Int)) ∧ V.cell? ⟨bO, oO + xa, none⟩ = some (.slice a1 ra.length c1) ∧ V.cell? ⟨bP, oP + xb, none⟩ = some (.slice a2 rb.length c2))) (by kernel_rfl) ?_ (fun hHeld => ?_)
        · exact HS7.out _ ⟨rfl, rfl, rfl, Nat.le_refl _, fun _ _ => rfl⟩
        refine tkV (i := 0) (d := some 44) (v := ?_) rfl (by kernel_rfl) (by kernel_rfl) (by kernel_rfl) rfl (fun _ _ _ h => h) (by rfl) ?_ (by assumption) ?_
        rotate_left
        · (intro w hSw; (try dsimp only at hSw); (try simp only [List.getElem_toArray, List.getElem_cons_zero]); go_simp; try with_reducible rfl)
        try simp only [Act.put, List.setIfInBounds_toArray, List.set_cons_zero, List.set_cons_succ]
        refine tkV (i := 1) (d := some 45) (v := ?_) rfl (by kernel_rfl) (by kernel_rfl) (by kernel_rfl) rfl (fun _ _ _ h => h) (by rfl) ?_ (by assumption) ?_
        rotate_left
        · (intro w hSw; (try dsimp only at hSw); (try simp only [List.getElem_toArray, List.getElem_cons_zero, List.getElem_cons_succ]); go_simp; try with_reducible rfl)
        try simp only [Act.put, List.setIfInBounds_toArray, List.set_cons_zero, List.set_cons_succ]
        refine tkV (i := 2) (d := some 46) (v := ?_) rfl (by kernel_rfl) (by kernel_rfl) (by kernel_rfl) rfl (fun _ _ _ h => h) (by rfl) ?_ (by assumption) ?_
        rotate_left
        · (intro w hSw; (try dsimp only at hSw); (try simp only [List.getElem_toArray, List.getElem_cons_zero, List.getElem_cons_succ]); go_simp; try with_reducible rfl)
        try simp only [Act.put, List.setIfInBounds_toArray, List.set_cons_zero, List.set_cons_succ]
        refine tkV (i := 3) (d := some 47) (v := ?_) rfl (by kernel_rfl) (by kernel_rfl) (by kernel_rfl) rfl (fun _ _ _ h => h) (by rfl) ?_ (by assumption) ?_
        rotate_left
        · (intro w hSw; (try dsimp only at hSw); (try simp only [List.getElem_toArray, List.getElem_cons_zero, List.getElem_cons_succ]); go_simp; try with_reducible rfl)
        try simp only [Act.put, List.setIfInBounds_toArray, List.set_cons_zero, List.set_cons_succ]
        refine tkV (i := 4) (d := some 48) (v := ?_) rfl (by kernel_rfl) (by kernel_rfl) (by kernel_rfl) rfl (fun _ _ _ h => h) (by rfl) ?_ (by assumption) ?_
        rotate_left
        · (intro w hSw; (try dsimp only at hSw); (try simp only [List.getElem_toArray, List.getElem_cons_zero, List.getElem_cons_succ]); go_simp; try with_reducible rfl)
        try simp only [Act.put, List.setIfInBounds_toArray, List.set_cons_zero, List.set_cons_succ]
        refine tkV (i := 5) (d := some 49) (v := ?_) rfl (by kernel_rfl) (by kernel_rfl) (by kernel_rfl) rfl (fun _ _ _ h => h) (by rfl) ?_ (by assumption) ?_
        rotate_left
        · (intro w hSw; (try dsimp only at hSw); (try simp only [List.getElem_toArray, List.getElem_cons_zero, List.getElem_cons_succ]); go_simp; try with_reducible rfl)
        try simp only [Act.put, List.setIfInBounds_toArray, List.set_cons_zero, List.set_cons_succ]
        refine tkV (i := 6) (d := some 50) (v := ?_) rfl (by kernel_rfl) (by kernel_rfl) (by kernel_rfl) rfl (fun _ _ _ h => h) (by rfl) ?_ (by assumption) ?_
        rotate_left
        · (intro w hSw; (try dsimp only at hSw); (try simp only [List.getElem_toArray, List.getElem_cons_zero, List.getElem_cons_succ]); go_simp; try with_reducible rfl)
        try simp only [Act.put, List.setIfInBounds_toArray, List.set_cons_zero, List.set_cons_succ]
        refine tkV (i := 7) (d := some 51) (v := ?_) rfl (by kernel_rfl) (by kernel_rfl) (by kernel_rfl) rfl (fun _ _ _ h => h) (by rfl) ?_ (by assumption) ?_
        rotate_left
        · (intro w hSw; (try dsimp only at hSw); (try simp only [List.getElem_toArray, List.getElem_cons_zero, List.getElem_cons_succ]); go_simp; try with_reducible rfl)
        try simp only [Act.put, List.setIfInBounds_toArray, List.set_cons_zero, List.set_cons_succ]
        refine tkV (i := 8) (d := some 52) (v := ?_) rfl (by kernel_rfl) (by kernel_rfl) (by kernel_rfl) rfl (fun _ _ _ h => h) (by rfl) ?_ (by assumption) ?_
        rotate_left
        · (intro w hSw; (try dsimp only at hSw); (try simp only [List.getElem_toArray, List.getElem_cons_zero, List.getElem_cons_succ]); go_simp; try with_reducible rfl)
        try simp only [Act.put, List.setIfInBounds_toArray, List.set_cons_zero, List.set_cons_succ]
        refine tkV (i := 9) (d := some 53) (v := ?_) rfl (by kernel_rfl) (by kernel_rfl) (by kernel_rfl) rfl (fun _ _ _ h => h) (by rfl) ?_ (by assumption) ?_
        rotate_left
        · (intro w hSw; (try dsimp only at hSw); (try simp only [List.getElem_toArray, List.getElem_cons_zero, List.getElem_cons_succ]); go_simp; try with_reducible rfl)
        try simp only [Act.put, List.setIfInBounds_toArray, List.set_cons_zero, List.set_cons_succ]
        refine tkV (i := 10) (d := some 54) (v := ?_) rfl (by kernel_rfl) (by kernel_rfl) (by kernel_rfl) rfl (fun _ _ _ h => h) (by rfl) ?_ (by assumption) ?_
        rotate_left
        · (intro w hSw; (try dsimp only at hSw); (try simp only [List.getElem_toArray, List.getElem_cons_zero, List.getElem_cons_succ]); go_simp; try with_reducible rfl)
        try simp only [Act.put, List.setIfInBounds_toArray, List.set_cons_zero, List.set_cons_succ]
        refine tkV (i := 11) (d := some 55) (v := ?_) rfl (by kernel_rfl) (by kernel_rfl) (by kernel_rfl) rfl (fun _ _ _ h => h) (by rfl) ?_ (by assumption) ?_
        rotate_left
        · (intro w hSw; (try dsimp only at hSw); (try simp only [List.getElem_toArray, List.getElem_cons_zero, List.getElem_cons_succ]); go_simp; try with_reducible rfl)
        try simp only [Act.put, List.setIfInBounds_toArray, List.set_cons_zero, List.set_cons_succ]
        refine tkV (i := 12) (d := some 56) (v := ?_) rfl (by kernel_rfl) (by kernel_rfl) (by kernel_rfl) rfl (fun _ _ _ h => h) (by rfl) ?_ (by assumption) ?_
        rotate_left
        · (intro w hSw; (try dsimp only at hSw); (try simp only [List.getElem_toArray, List.getElem_cons_zero, List.getElem_cons_succ]); go_simp; try with_reducible rfl)
        try simp only [Act.put, List.setIfInBounds_toArray, List.set_cons_zero, List.set_cons_succ]
        refine tkV (i := 13) (d := some 57) (v := ?_) rfl (by kernel_rfl) (by kernel_rfl) (by kernel_rfl) rfl (fun _ _ _ h => h) (by rfl) ?_ (by assumption) ?_
        rotate_left
        · (intro w hSw; (try dsimp only at hSw); (try simp only [List.getElem_toArray, List.getElem_cons_zero, List.getElem_cons_succ]); go_simp; try with_reducible rfl)
        try simp only [Act.put, List.setIfInBounds_toArray, List.set_cons_zero, List.set_cons_succ]
        refine tkV (i := 14) (d := some 58) (v := ?_) rfl (by kernel_rfl) (by kernel_rfl) (by kernel_rfl) rfl (fun _ _ _ h => h) (by rfl) ?_ (by assumption) ?_
        rotate_left
        · (intro w hSw; (try dsimp only at hSw); (try simp only [List.getElem_toArray, List.getElem_cons_zero, List.getElem_cons_succ]); go_simp; try with_reducible rfl)
        try simp only [Act.put, List.setIfInBounds_toArray, List.set_cons_zero, List.set_cons_succ]
        refine tkV (i := 15) (d := some 59) (v := ?_) rfl (by kernel_rfl) (by kernel_rfl) (by kernel_rfl) rfl (fun _ _ _ h => h) (by rfl) ?_ (by assumption) ?_
        rotate_left
        · (intro w hSw; (try dsimp only at hSw); (try simp only [List.getElem_toArray, List.getElem_cons_zero, List.getElem_cons_succ]); go_simp; try with_reducible rfl)
        try simp only [Act.put, List.setIfInBounds_toArray, List.set_cons_zero, List.set_cons_succ]
        refine tkV (i := 16) (d := some 60) (v := ?_) rfl (by kernel_rfl) (by kernel_rfl) (by kernel_rfl) rfl (fun _ _ _ h => h) (by rfl) ?_ (by assumption) ?_
        rotate_left
        · (intro w hSw; (try dsimp only at hSw); (try simp only [List.getElem_toArray, List.getElem_cons_zero, List.getElem_cons_succ]); go_simp; try with_reducible rfl)
        try simp only [Act.put, List.setIfInBounds_toArray, List.set_cons_zero, List.set_cons_succ]
        refine tkV (i := 17) (d := some 61) (v := ?_) rfl (by kernel_rfl) (by kernel_rfl) (by kernel_rfl) rfl (fun _ _ _ h => h) (by rfl) ?_ (by assumption) ?_
        rotate_left
        · (intro w hSw; (try dsimp only at hSw); (try simp only [List.getElem_toArray, List.getElem_cons_zero, List.getElem_cons_succ]); go_simp; try with_reducible rfl)
        try simp only [Act.put, List.setIfInBounds_toArray, List.set_cons_zero, List.set_cons_succ]
        refine wpAnyH_ready (rs := [18]) (by kernel_rfl) (by simp) (AllReadyH.cons rfl (fun K hK => ?_) AllReadyH.nil)
        try simp only [List.getElem_toArray, List.getElem_cons_zero, List.getElem_cons_succ]
        go_simp
        refine (HEq2.out _ (by first | exact Below.refl _ _ | exact ⟨rfl, rfl, rfl, Nat.le_refl _, fun _ _ => rfl⟩)).mono ?_
        rintro e w5 ⟨rfl, nq, hw5⟩
        have HS5 := hid0 (HS7.out w5 (by rw [hw5]; exact ⟨rfl, rfl, rfl, Nat.le_refl _, fun _ _ => rfl⟩))
        have HB5 : Hid (Below w4.heap.size w4 w5) := hid0 (by rw [hw5]; exact ⟨rfl, rfl, rfl, Nat.le_refl _, fun _ _ => rfl⟩)
        clear hw5
        go_wp2_with fail
        refine hK.out _ _ ?_ (fun hHeld18 => ?_)
        · exact HS5.out
        clear hK K
        (try simp only [Act.put]); (try simp only [List.setIfInBounds_toArray]); (try simp only [List.set_cons_succ]); (try simp only [List.set_cons_zero])
        refine tkV (i := 19) (d := some 63) (v := ?_) rfl (by kernel_rfl) (by kernel_rfl) (by kernel_rfl) rfl (fun _ _ _ h => h) (by rfl) ?_ (by assumption) ?_
        rotate_left
        · (intro w hSw; (try dsimp only at hSw); (try simp only [List.getElem_toArray, List.getElem_cons_zero, List.getElem_cons_succ]); go_simp; try with_reducible rfl)
        try simp only [Act.put, List.setIfInBounds_toArray, List.set_cons_zero, List.set_cons_succ]
        refine wpAnyH_done (by kernel_rfl) ?_ _
        refine NoPanic.normal ?_
        have HFin : Hid (FuR T lo X G B (N.length + N'.length) (.int .i64 (sa : Int)) (.slice aN N.length cN) (.slice (some ⟨bO, oO, none⟩) O.length cO) (.int .i64 (sb : Int)) (.slice aM N'.length cM) (.slice (some ⟨bP, oP, none⟩) O'.length cP) wb (.returned (.tuple #[.int .i64 (i : Int), .bool true])) w5) := hid0 (.inl ⟨i, _, _, l, Wd, rfl, HK4.out.past HB5.out, HQ.out.met, hil, by omega, HQ.out.found hil (by rw [HTa.out, HTb.out]; exact HAb.out), (HF4.out.past HF4.out.low HB5.out).bel⟩)
        clear hHeld hHeld18 HS7 HEq2 HS5
        go_wp2
        go_returns
        exact HFin.out
    · have he : i = l.length := by have := HI.out.le; omega
      have heI : (i : Int) = (l.length : Int) := by omega
      have HFin : Hid (FuR T lo X G B (N.length + N'.length) (.int .i64 (sa : Int)) (.slice aN N.length cN) (.slice aO O.length cO) (.int .i64 (sb : Int)) (.slice aM N'.length cM) (.slice aP O'.length cP) wb (.returned (.tuple #[.int .i64 0, .bool false])) wo) := hid0 (.inr ⟨rfl, HI.out.none he, HF.out.bel⟩)
      clear hform he hk hg
      go_wp2
      go_returns
      exact HFin.out
end Go.Proofs.YtjemjccgfgijiaaDoor
namespace Go.Proofs.YtjemjccgfgijiaaDoor
open Go.RowKit Go.Shelf
def errQ (A : Nat → Addr) : Option (Option (List Nat)) → Value
  | none => .iface 135 (.pointer (some (A 0)))
  | some _ => .nilIface
/-- Where they part, told by the word. -/
theorem firstUnlike_some (m sa sb lo X G B cN cO cM cP : Nat) (N O N' O' : List (List Int)) (aN aO aM aP : Option Addr) (wb w : World) (u : List Nat) (hu : (twoF m (sa : Int) (sb : Int) N O N' O').Best u) (hlo : lo = wb.heap.size) (ha : MaA wb aN aO N O) (hb : MaA wb aM aP N' O') (hma : May (sa : Int) N O m) (hmb : May (sb : Int) N' O' m)
    (hbig : N.length + N'.length ≤ 100000000000) (hm64 : m ≤ 100000000000) (hOr : ∀ r ∈ O, r.length ≤ 17592186044000) (hB : Below lo wb w) (hk : Wk w lo X G B (N.length + N'.length) (.int .i64 (sa : Int)) (.slice aN N.length cN) (.slice aO O.length cO) (.int .i64 (sb : Int)) (.slice aM N'.length cM) (.slice aP O'.length cP) (.slice none 0 0) (fun s => s) []) :
    Calls Tryd.prog 38 #[.pointer (some ⟨X, 0, none⟩)] w fun e w' => ∃ i : Nat, e = .returned (.tuple #[.int .i64 (i : Int), .bool true]) ∧ (∃ p vm l Wd, Wk w' lo X G B (N.length + N'.length) (.int .i64 (sa : Int)) (.slice aN N.length cN) (.slice aO O.length cO) (.int .i64 (sb : Int)) (.slice aM N'.length cM) (.slice aP O'.length cP) vm p l ∧ Met (twoF m (sa : Int) (sb : Int) N O N' O') l Wd ∧ i < l.length ∧ l.length ≤ N.length + N'.length ∧ Wd i = u) ∧ Below lo wb w' := by
  refine (firstUnlike_any m sa sb lo X G B cN cO cM cP N O N' O' aN aO aM aP wb w hlo ha hb hma hmb hbig hm64 hOr hB hk).mono ?_
  intro e w' h
  rcases h with ⟨i, p, vm, l, Wd, h1, h2, h3, h4, h5, h6, h7⟩ | ⟨_, h, _⟩
  · exact ⟨i, h1, ⟨p, vm, l, Wd, h2, h3, h4, h5, h6.one hu⟩, h7⟩
  · exact absurd hu.dis (h u hu.ok)
theorem firstUnlike_none (m sa sb lo X G B cN cO cM cP : Nat) (N O N' O' : List (List Int)) (aN aO aM aP : Option Addr) (wb w : World) (hu : ∀ z, (twoF m (sa : Int) (sb : Int) N O N' O').ok z → ¬ (twoF m (sa : Int) (sb : Int) N O N' O').dis (twoF m (sa : Int) (sb : Int) N O N' O').sa (twoF m (sa : Int) (sb : Int) N O N' O').sb z) (hlo : lo = wb.heap.size) (ha : MaA wb aN aO N O) (hb : MaA wb aM aP N' O') (hma : May (sa : Int) N O m) (hmb : May (sb : Int) N' O' m)
    (hbig : N.length + N'.length ≤ 100000000000) (hm64 : m ≤ 100000000000) (hOr : ∀ r ∈ O, r.length ≤ 17592186044000) (hB : Below lo wb w) (hk : Wk w lo X G B (N.length + N'.length) (.int .i64 (sa : Int)) (.slice aN N.length cN) (.slice aO O.length cO) (.int .i64 (sb : Int)) (.slice aM N'.length cM) (.slice aP O'.length cP) (.slice none 0 0) (fun s => s) []) :
    Calls Tryd.prog 38 #[.pointer (some ⟨X, 0, none⟩)] w fun e w' => e = .returned (.tuple #[.int .i64 0, .bool false]) ∧ Below lo wb w' := by
  refine (firstUnlike_any m sa sb lo X G B cN cO cM cP N O N' O' aN aO aM aP wb w hlo ha hb hma hmb hbig hm64 hOr hB hk).mono ?_
  intro e w' h
  rcases h with ⟨i, p, vm, l, Wd, h1, h2, h3, h4, h5, h6, h7⟩ | ⟨h1, h, h2⟩
  · exact absurd h6.dis (hu _ h6.ok)
  · exact ⟨h1, h2⟩
/-- Lists of a machine are small. -/
structure Sml (N O : List (List Int)) : Prop where
  n : N.length ≤ 2200000
  nr : ∀ r ∈ N, r.length ≤ 2200000
  or : ∀ r ∈ O, r.length ≤ 2200000
theorem two_boxes (w : World) (a b : Array Value) (t : TypeId) : ∃ w0, (w.alloc (.cells a t)).alloc (.cells b t) = w0 ∧ Below w.heap.size w w0 ∧ w0.heap.size = w.heap.size + 1 + 1 ∧ w0.heap[w.heap.size]? = some (.cells a t (0, 0)) ∧ w0.heap[w.heap.size + 1]? = some (.cells b t (0, 0)) := by
  refine ⟨_, rfl, ((Below.refl _ _).alloc (Nat.le_refl _) _).alloc (by simp) _, by simp, ?_, ?_⟩
  · rw [Below.heap_alloc _ _ _ (by simp)]
    exact heap_alloc_new w _
  · have h := heap_alloc_new (w.alloc (.cells a t)) (.cells b t)
    simpa using h
theorem row3c {W : World} {X : Nat} {t : TypeId} {a b c : Value} (h : W.heap[X]? = some (.cells #[a, b, c] t (0, 0))) : W.cell? ⟨X, 0, none⟩ = some a ∧ W.cell? ⟨X, 1, none⟩ = some b ∧ W.cell? ⟨X, 2, none⟩ = some c :=
  ⟨by rw [cell_of_row _ _ _ _ _ _ h]; rfl, by rw [cell_of_row _ _ _ _ _ _ h]; rfl, by rw [cell_of_row _ _ _ _ _ _ h]; rfl⟩
set_option maxRecDepth 10000 in
set_option maxHeartbeats 1600000 in
theorem apart_any (A : Nat → Addr) (sa sb sy : Int) (N O N' O' : List (List Int)) (aN aO aM aP : Option Addr) (cN cO cM cP : Nat) (w : World) (hs : Sml N O) (hs' : Sml N' O') (ha : MaA w aN aO N O) (hb : MaA w aM aP N' O') (he : E1 w (A 0)) (res : Option (Option (List Nat))) (hr : ApR sa sb sy N O N' O' res) :
    Calls Tryd.prog 16 #[.agg #[.int .i64 sa, .slice aN N.length cN, .slice aO O.length cO], .agg #[.int .i64 sb, .slice aM N'.length cM, .slice aP O'.length cP], .int .i64 sy] w fun e w' => ∃ v, e = .returned (.tuple #[v, .bool (apB res), errQ A res]) ∧ OwnI w' w.heap.size v (apW res) ∧ (apW res).length ≤ 4400000 ∧ Below w.heap.size w w' := by
  obtain ⟨w0, hw0, hB0, hsz0, hA0, hM0⟩ := two_boxes w #[.int .i64 sa, .slice aN N.length cN, .slice aO O.length cO] #[.int .i64 sb, .slice aM N'.length cM, .slice aP O'.length cP] 24
  have HCl : Hid (∀ V : World, Below w0.heap.size w0 V → (V.cell? ⟨w.heap.size, 0, none⟩ = some (.int .i64 sa) ∧ V.cell? ⟨w.heap.size, 1, none⟩ = some (.slice aN N.length cN) ∧ V.cell? ⟨w.heap.size, 2, none⟩ = some (.slice aO O.length cO)) ∧ (V.cell? ⟨w.heap.size + 1, 0, none⟩ = some (.int .i64 sb) ∧ V.cell? ⟨w.heap.size + 1, 1, none⟩ = some (.slice aM N'.length cM) ∧ V.cell? ⟨w.heap.size + 1, 2, none⟩ = some (.slice aP O'.length cP))) := hid0 (fun V hV => ⟨row3c ((hV.block _ (by omega)).trans hA0), row3c ((hV.block _ (by omega)).trans hM0)⟩)
  have HAl : Hid (∀ V : World, Below w0.heap.size w0 V → MaA V aN aO N O ∧ MaA V aM aP N' O' ∧ E1 V (A 0) ∧ Below w.heap.size w V) := hid0 (fun V hV => by
    have h := hB0.trans (hV.mono (by omega))
    exact ⟨ha.past h, hb.past h, he.below h, h⟩)
  obtain ⟨⟨x0, x1, x2⟩, ⟨x3, x4, x5⟩⟩ := HCl.out w0 (Below.refl _ _)
  have HM1 := hid0 (mayBe_any sa sy N O aN aO cN cO w0 (by have := hs.n; omega) (fun r hr => by have := hs.nr r hr; omega) (fun r hr => by have := hs.or r hr; omega) (HAl.out w0 (Below.refl _ _)).1.n (HAl.out w0 (Below.refl _ _)).1.o)
  have HM2 : Hid (∀ V : World, Below w0.heap.size w0 V → Calls Tryd.prog 29 #[.agg #[.int .i64 sb, .slice aM N'.length cM, .slice aP O'.length cP], .int .i64 sy] V fun e w' => e = .returned (.bool (mayF sb N' O' sy)) ∧ Below V.heap.size V w') := hid0 (fun V hV => mayBe_any sb sy N' O' aM aP cM cP V (by have := hs'.n; omega) (fun r hr => by have := hs'.nr r hr; omega) (fun r hr => by have := hs'.or r hr; omega) (HAl.out V hV).2.1.n (HAl.out V hV).2.1.o)
  clear hB0 hA0 hM0 ha hb he
  have HZ0 := hid0 hsz0
  clear hsz0
  cases hr with
  | bad h =>
    cases hm1 : mayF sa N O sy with
    | false =>
      rw [hm1] at HM1
      clear h hm1
      go_enter Tryd.func16, Tryd.ntmps16
      go_wp2_with (go_at_call 29; refine HM1.out.mono ?_; rintro e w1 ⟨rfl, hb1⟩; have HB1 := hid0 hb1; have e0 := (HAl.out w1 hb1).2.2.1.c; clear hb1)
      go_quiet ((fail))
      go_wp2
      go_returns
      exact ⟨_, rfl, World.ownsRow_nil _ _ _ _, by simp [apW], below_drew' (HAl.out w1 HB1.out).2.2.2 _⟩
    | true =>
      have hm2 : mayF sb N' O' sy = false := by cases q : mayF sb N' O' sy with | false => rfl | true => exact (h hm1 q).elim
      rw [hm1] at HM1
      rw [hm2] at HM2
      clear h hm1 hm2
      go_enter Tryd.func16, Tryd.ntmps16
      go_wp2_with (first
        | (go_at_call 29; have hq := HB1.out; refine (HM2.out _ hq).mono ?_; rintro e w2 ⟨rfl, hb2⟩; have HB2 : Hid (Below w0.heap.size w0 w2) := hid0 (hq.trans (hb2.mono hq.size)); have e0 := (HAl.out w2 HB2.out).2.2.1.c; clear hb2 hq)
        | (go_at_call 29; refine HM1.out.mono ?_; rintro e w1 ⟨rfl, hb1⟩; have HB1 := hid0 hb1; obtain ⟨_, ⟨y3, y4, y5⟩⟩ := HCl.out w1 hb1; clear hb1 HM1))
      go_quiet ((fail))
      go_wp2
      go_returns
      exact ⟨_, rfl, World.ownsRow_nil _ _ _ _, by simp [apW], below_drew' (HAl.out w2 HB2.out).2.2.2 _⟩
  | good m r hm h1 h2 h3 h4 h =>
    subst hm
    rw [h1] at HM1
    rw [h2] at HM2
    obtain ⟨pa, rfl⟩ : ∃ pa : Nat, sa = (pa : Int) := ⟨sa.toNat, by have := h3.start; omega⟩
    obtain ⟨pb, rfl⟩ : ∃ pb : Nat, sb = (pb : Int) := ⟨sb.toNat, by have := h4.start; omega⟩
    have hm64 : m ≤ 100000000000 := by
      have h5 := h3.start
      have h6 : 0 < N.length := by omega
      have h7 := h3.row _ (List.getElem_mem h6)
      have h8 := hs.nr _ (List.getElem_mem h6)
      omega
    have HNw : Hid (∀ V : World, Below w0.heap.size w0 V → Calls Tryd.prog 37 #[.agg #[.int .i64 (pa : Int), .slice aN N.length cN, .slice aO O.length cO], .agg #[.int .i64 (pb : Int), .slice aM N'.length cM, .slice aP O'.length cP]] V fun e w' => ∃ X, e = .returned (.pointer (some ⟨X, 0, none⟩)) ∧ (∃ G B, Wk w' V.heap.size X G B (N.length + N'.length) (.int .i64 (pa : Int)) (.slice aN N.length cN) (.slice aO O.length cO) (.int .i64 (pb : Int)) (.slice aM N'.length cM) (.slice aP O'.length cP) (.slice none 0 0) (fun s => s) []) ∧ Below V.heap.size V w') := hid0 (fun V _ => newWalk_any (pa : Int) (pb : Int) aN aO aM aP N.length N'.length O.length O'.length cN cO cM cP V (by have := hs.n; have := hs'.n; omega))
    have hbig : N.length + N'.length ≤ 100000000000 := by have := hs.n; have := hs'.n; omega
    have hbg : N.length + N'.length ≤ 4400000 := by have := hs.n; have := hs'.n; omega
    have hOr : ∀ r ∈ O, r.length ≤ 17592186044000 := fun r hr => by have := hs.or r hr; omega
    cases r with
    | none =>
      have HFu : Hid (∀ (V V3 : World) (X G B : Nat), Below w0.heap.size w0 V → Below V.heap.size V V3 → Wk V3 V.heap.size X G B (N.length + N'.length) (.int .i64 (pa : Int)) (.slice aN N.length cN) (.slice aO O.length cO) (.int .i64 (pb : Int)) (.slice aM N'.length cM) (.slice aP O'.length cP) (.slice none 0 0) (fun s => s) [] → Calls Tryd.prog 38 #[.pointer (some ⟨X, 0, none⟩)] V3 fun e w' => e = .returned (.tuple #[.int .i64 0, .bool false]) ∧ Below V.heap.size V w') := hid0 (fun V V3 X G B hV hV3 hk => firstUnlike_none m pa pb V.heap.size X G B cN cO cM cP N O N' O' aN aO aM aP V V3 (h.none' rfl) rfl (HAl.out V hV).1 (HAl.out V hV).2.1 h3 h4 hbig hm64 hOr hV3 hk)
      clear h h1 h2 h3 h4 hs hs' hOr
      go_enter Tryd.func16, Tryd.ntmps16
      go_wp2_with (first
        | (go_at_call 29; have hq := HB1.out; refine (HM2.out _ hq).mono ?_; rintro e w2 ⟨rfl, hb2⟩; have HB2 : Hid (Below w0.heap.size w0 w2) := hid0 (hq.trans (hb2.mono hq.size)); obtain ⟨⟨z0, z1, z2⟩, ⟨z3, z4, z5⟩⟩ := HCl.out w2 HB2.out; clear hb2 hq)
        | (go_at_call 29; refine HM1.out.mono ?_; rintro e w1 ⟨rfl, hb1⟩; have HB1 := hid0 hb1; obtain ⟨_, ⟨y3, y4, y5⟩⟩ := HCl.out w1 hb1; clear hb1 HM1)
        | (go_at_call 37; go_loud ((
            refine (HNw.out w2 HB2.out).mono ?_
            rintro e w3 ⟨X, rfl, hk3, hb3⟩
            obtain ⟨G, B, hk3⟩ := hk3
            have HF3 := hid0 (HFu.out w2 w3 X G B HB2.out hb3 hk3)
            clear hk3 hb3)))
        | (go_at_call 38; go_loud ((
            refine HF3.out.mono ?_
            rintro e w4 ⟨rfl, hb4⟩
            have HB4 := hid0 hb4
            clear hb4))))
      go_returns
      exact ⟨_, rfl, World.ownsRow_nil _ _ _ _, by simp [apW], (HAl.out w2 HB2.out).2.2.2.trans (HB4.out.mono (HAl.out w2 HB2.out).2.2.2.size)⟩
    | some u =>
      have HFu : Hid (∀ (V V3 : World) (X G B : Nat), Below w0.heap.size w0 V → Below V.heap.size V V3 → Wk V3 V.heap.size X G B (N.length + N'.length) (.int .i64 (pa : Int)) (.slice aN N.length cN) (.slice aO O.length cO) (.int .i64 (pb : Int)) (.slice aM N'.length cM) (.slice aP O'.length cP) (.slice none 0 0) (fun s => s) [] → Calls Tryd.prog 38 #[.pointer (some ⟨X, 0, none⟩)] V3 fun e w' => ∃ i : Nat, e = .returned (.tuple #[.int .i64 (i : Int), .bool true]) ∧ (∃ p vm l Wd, Wk w' V.heap.size X G B (N.length + N'.length) (.int .i64 (pa : Int)) (.slice aN N.length cN) (.slice aO O.length cO) (.int .i64 (pb : Int)) (.slice aM N'.length cM) (.slice aP O'.length cP) vm p l ∧ Met (twoF m (pa : Int) (pb : Int) N O N' O') l Wd ∧ i < l.length ∧ l.length ≤ N.length + N'.length ∧ Wd i = u) ∧ Below V.heap.size V w') := hid0 (fun V V3 X G B hV hV3 hk => firstUnlike_some m pa pb V.heap.size X G B cN cO cM cP N O N' O' aN aO aM aP V V3 u (h.some' u rfl) rfl (HAl.out V hV).1 (HAl.out V hV).2.1 h3 h4 hbig hm64 hOr hV3 hk)
      have HWt : Hid (∀ (V4 : World) (lo X G B i : Nat) (p : Nat → Nat) (vm : Value) (l : List Mt) (Wd : Nat → List Nat), Wk V4 lo X G B (N.length + N'.length) (.int .i64 (pa : Int)) (.slice aN N.length cN) (.slice aO O.length cO) (.int .i64 (pb : Int)) (.slice aM N'.length cM) (.slice aP O'.length cP) vm p l → Met (twoF m (pa : Int) (pb : Int) N O N' O') l Wd → i < l.length → l.length ≤ N.length + N'.length → Wd i = u → Calls Tryd.prog 39 #[.pointer (some ⟨X, 0, none⟩), .int .i64 (i : Int)] V4 fun e w' => ∃ v, e = .returned v ∧ OwnI w' V4.heap.size v (nums u) ∧ Below V4.heap.size V4 w') := hid0 (fun V4 lo X G B i p vm l Wd hk hm hi hl e => by
        have hh := wordTo_any (twoF m (pa : Int) (pb : Int) N O N' O') l Wd lo X G B (N.length + N'.length) i _ _ _ _ _ _ vm p V4 hm (by omega) hk hi
        rw [e] at hh
        exact hh)
      clear h h1 h2 h3 h4 hs hs' hOr
      go_enter Tryd.func16, Tryd.ntmps16
      go_wp2_with (first
        | (go_at_call 29; have hq := HB1.out; refine (HM2.out _ hq).mono ?_; rintro e w2 ⟨rfl, hb2⟩; have HB2 : Hid (Below w0.heap.size w0 w2) := hid0 (hq.trans (hb2.mono hq.size)); obtain ⟨⟨z0, z1, z2⟩, ⟨z3, z4, z5⟩⟩ := HCl.out w2 HB2.out; clear hb2 hq)
        | (go_at_call 29; refine HM1.out.mono ?_; rintro e w1 ⟨rfl, hb1⟩; have HB1 := hid0 hb1; obtain ⟨_, ⟨y3, y4, y5⟩⟩ := HCl.out w1 hb1; clear hb1 HM1)
        | (go_at_call 37; go_loud ((
            refine (HNw.out w2 HB2.out).mono ?_
            rintro e w3 ⟨X, rfl, hk3, hb3⟩
            obtain ⟨G, B, hk3⟩ := hk3
            have HF3 := hid0 (HFu.out w2 w3 X G B HB2.out hb3 hk3)
            clear hk3 hb3)))
        | (go_at_call 38; go_loud ((
            refine HF3.out.mono ?_
            rintro e w4 ⟨i, rfl, hx4, hb4⟩
            obtain ⟨p4, vm4, l4, Wd4, k1, k2, k3, k4, k5⟩ := hx4
            have HW4 := hid0 (HWt.out w4 _ X G B i p4 vm4 l4 Wd4 k1 k2 k3 k4 k5)
            have HUl : Hid (u.length ≤ 4400000) := hid0 (by rw [← k5]; have := k2.len i k3; omega)
            have HB4 := hid0 hb4
            clear hb4 k1 k2 k3 k4 k5)))
        | (go_at_call 39; go_loud ((
            refine HW4.out.mono ?_
            rintro e w5 ⟨v, rfl, ho5, hb5⟩
            have HO5 := hid0 ho5
            have HB5 := hid0 hb5
            clear ho5 hb5))))
      have hl4 : Below w.heap.size w w4 := (HAl.out w2 HB2.out).2.2.2.trans (HB4.out.mono (HAl.out w2 HB2.out).2.2.2.size)
      go_returns
      exact ⟨_, rfl, owns_lower HO5.out hl4.size, by show (nums u).length ≤ 4400000; unfold nums; rw [List.length_map]; exact HUl.out, hl4.trans (HB5.out.mono hl4.size)⟩
end Go.Proofs.YtjemjccgfgijiaaDoor
namespace Go.Proofs.YtjemjccgfgijiaaDoor
open Go.RowKit Go.Shelf
theorem drew_more {w w' : World} {a b : Nat} (h : ∃ m, w' = (w.drewN (a + b)).drewN m) : ∃ n, w' = w.drewN (a + n) := by
  obtain ⟨m, hm⟩ := h
  exact ⟨b + m, by rw [hm, World.drewN_drewN, Nat.add_assoc]⟩
set_option maxRecDepth 10000 in
set_option maxHeartbeats 1600000 in
theorem sameRows (L : List (List Int)) (a b : Option Addr) (ca cb : Nat) (w : World) (hl : L.length ≤ 1000000000) (hr : ∀ r ∈ L, r.length ≤ 1000000000) (ha : RwA w a L) (hb : RwA w b L) :
    Calls Tryd.prog 35 #[.slice a L.length ca, .slice b L.length cb] w fun e w' => e = .returned (.bool true) ∧ ∃ n, w' = w.drewN n := by
  have HA := hid0 ha
  have HB := hid0 hb
  have HR := hid0 hr
  clear ha hb hr
  go_enter Tryd.func35, Tryd.ntmps35
  go_wp2
  go_loopw [5] (fun i wr => ∃ k : Nat, k ≤ L.length ∧ i = .int .i64 (k : Int) ∧ ∃ n, wr = w.drewN n) (fun i _ => L.length - (intOf i).toNat)
  case atStart => exact ⟨0, Nat.zero_le _, rfl, 0, rfl⟩
  case round =>
    obtain ⟨k, hk, rfl, nd, rfl⟩ := hrel
    by_cases hlt : k < L.length
    · obtain ⟨b1, o1, rfl, _, a1, c1, d1, i1⟩ := HA.out.at' k hlt
      obtain ⟨b2, o2, rfl, _, a2, c2, d2, i2⟩ := HB.out.at' k hlt
      have HS := hid0 (fun n => sameI L[k] a1 a2 c1 c2 (w.drewN n) (by have := HR.out _ (List.getElem_mem hlt); omega) ⟨i1.at'⟩ ⟨i2.at'⟩)
      clear i1 i2
      generalize L[k] = s at *
      have hkI : (k : Int) < (L.length : Int) := by omega
      have hkI0 : (0 : Int) ≤ (k : Int) := by omega
      go_wp2
      go_quiet ((go_at_call 12; exact (HS.out _).mono (fun _ _ h => ⟨h.1, drew_more h.2⟩)))
      go_wp2
      go_roundw
      case rel => exact ⟨k + 1, by omega, by go_num, _, rfl⟩
      case measure => simp [intOf]; omega
    · have hkI : ¬ (k : Int) < (L.length : Int) := by omega
      go_wp2
      go_ret
      exact ⟨rfl, nd, rfl⟩
set_option maxRecDepth 10000 in
set_option maxHeartbeats 1600000 in
theorem still_any (L : List (List Int)) (base G c cb : Nat) (b : Option Addr) (w : World) (hl : L.length ≤ 2200000) (hr : ∀ r ∈ L, r.length ≤ 2200000) (ht : Tz w base G c L) (hb : RwA w b L) :
    Calls Tryd.prog 43 #[.slice (some ⟨G, 0, none⟩) L.length c, .slice b L.length cb] w fun e w' => e = .returned (.bool true) ∧ ∃ n, w' = w.drewN n := by
  have HS := hid0 (sameRows L (some ⟨G, 0, none⟩) b c cb w (by omega) (fun r h => by have := hr r h; omega) ht.rwa hb)
  have hcap := ht.cap.1
  have HT := hid0 ht
  have HR := hid0 hr
  have hcapI : (L.length : Int) + 64 ≤ (c : Int) := by omega
  clear ht hb hr
  go_enter Tryd.func43, Tryd.ntmps43
  go_wp2_with (go_at_call 35; refine HS.out.mono ?_; rintro e w1 ⟨rfl, n1, hw1⟩; subst hw1)
  go_loopw [6] (fun i wr => ∃ k : Nat, k ≤ L.length ∧ i = .int .i64 (k : Int) ∧ ∃ n, wr = w.drewN n) (fun i _ => L.length - (intOf i).toNat)
  case atStart => exact ⟨0, Nat.zero_le _, rfl, n1, rfl⟩
  case round =>
    obtain ⟨k, hk, rfl, nd, rfl⟩ := hrel
    by_cases hlt : k < L.length
    · obtain ⟨g, cg, d1, hcg, _, hm, _⟩ := HT.out.row hlt
      have HM := hid0 hm
      have hsl := HR.out _ (List.getElem_mem hlt)
      generalize L[k] = s at *
      have hkI : (k : Int) < (L.length : Int) := by omega
      have hkI0 : (0 : Int) ≤ (k : Int) := by omega
      have hsum : IntKind.i64.wrap ((s.length : Int) + 64) = (s.length : Int) + 64 := by simp [IntKind.wrap, IntKind.bits, IntKind.signed]; omega
      have hcgI : (s.length : Int) + 64 ≤ (cg : Int) := by omega
      have hs0 : (0 : Int) ≤ (s.length : Int) + 64 := by omega
      clear hm
      go_wp2
      go_quiet ((fail))
      go_wp2
      go_loopw [8] (fun i wr => ∃ j : Nat, j ≤ 64 ∧ i = .int .i64 ((s.length : Int) + (j : Int)) ∧ ∃ n, wr = w.drewN n) (fun i _ => s.length + 64 - (intOf i).toNat)
      case atStart => exact ⟨0, Nat.zero_le _, by simp, _, rfl⟩
      case round =>
        obtain ⟨j, hj, rfl, ne, rfl⟩ := hrel
        by_cases hj64 : j < 64
        · have m1 := HM.out j hj64
          obtain ⟨p, hp⟩ : ∃ p, p = s.length + j := ⟨_, rfl⟩
          have hpI : (s.length : Int) + (j : Int) = (p : Int) := by omega
          rw [hpI]
          rw [← hp] at m1
          have hp1 : (p : Int) < (s.length : Int) + 64 := by omega
          have hp0 : (0 : Int) ≤ (p : Int) := by omega
          have hpn : p < s.length + 64 := by omega
          have HPe := hid0 hp
          clear hp hpI
          go_wp2
          go_roundw
          case rel => exact ⟨j + 1, by omega, by have := HPe.out; go_num, _, rfl⟩
          case measure => have := HPe.out; simp [intOf]; omega
        · obtain rfl : j = 64 := by omega
          have hjI : ¬ (s.length : Int) + ((64 : Nat) : Int) < (s.length : Int) + 64 := by omega
          have hjJ : ¬ (s.length : Int) + 64 < (s.length : Int) + 64 := by omega
          go_wp2
          go_roundw
          case rel => exact ⟨k + 1, by omega, by go_num, _, rfl⟩
          case measure => simp [intOf]; omega
    · have hkI : ¬ (k : Int) < (L.length : Int) := by omega
      have hsum : IntKind.i64.wrap ((L.length : Int) + 64) = (L.length : Int) + 64 := by simp [IntKind.wrap, IntKind.bits, IntKind.signed]; omega
      have hs0 : (0 : Int) ≤ (L.length : Int) + 64 := by omega
      go_wp2
      go_loopw [10] (fun i wr => ∃ j : Nat, j ≤ 64 ∧ i = .int .i64 ((L.length : Int) + (j : Int)) ∧ ∃ n, wr = w.drewN n) (fun i _ => L.length + 64 - (intOf i).toNat)
      case atStart => exact ⟨0, Nat.zero_le _, by simp, nd, rfl⟩
      case round =>
        obtain ⟨j, hj, rfl, ne, rfl⟩ := hrel
        by_cases hj64 : j < 64
        · obtain ⟨g, cg, m1, m2⟩ := HT.out.mark hj64
          obtain ⟨p, hp⟩ : ∃ p, p = L.length + j := ⟨_, rfl⟩
          have hpI : (L.length : Int) + (j : Int) = (p : Int) := by omega
          rw [hpI]
          rw [← hp] at m1
          have hp1 : (p : Int) < (L.length : Int) + 64 := by omega
          have hp0 : (0 : Int) ≤ (p : Int) := by omega
          have hpn : p < L.length + 64 := by omega
          have HPe := hid0 hp
          clear hp hpI
          go_wp2
          go_roundw
          case rel => exact ⟨j + 1, by omega, by have := HPe.out; go_num, _, rfl⟩
          case measure => have := HPe.out; simp [intOf]; omega
        · obtain rfl : j = 64 := by omega
          have hjJ : ¬ (L.length : Int) + 64 < (L.length : Int) + 64 := by omega
          go_wp2
          go_ret
          exact ⟨rfl, ne, rfl⟩
end Go.Proofs.YtjemjccgfgijiaaDoor
namespace Go.Proofs.YtjemjccgfgijiaaDoor
open Go.RowKit Go.Shelf
set_option maxRecDepth 10000 in
set_option maxHeartbeats 1600000 in
theorem sameMachine_any (s : Int) (N O : List (List Int)) (aN aO bN bO : Option Addr) (cN cO dN dO : Nat) (w : World) (hs : SmlO N O) (hol : O.length ≤ 2200000) (h1 : RwA w aN N) (h2 : RwA w aO O) (h3 : RwA w bN N) (h4 : RwA w bO O) :
    Calls Tryd.prog 14 #[.agg #[.int .i64 s, .slice aN N.length cN, .slice aO O.length cO], .agg #[.int .i64 s, .slice bN N.length dN, .slice bO O.length dO]] w fun e w' => e = .returned (.bool true) ∧ Below w.heap.size w w' := by
  obtain ⟨w0, hw0, hB0, hsz0, hA0, hM0⟩ := two_boxes w #[.int .i64 s, .slice aN N.length cN, .slice aO O.length cO] #[.int .i64 s, .slice bN N.length dN, .slice bO O.length dO] 24
  obtain ⟨x0, x1, x2⟩ := row3c hA0
  obtain ⟨x3, x4, x5⟩ := row3c hM0
  have hself : (s == s) = true := by simp
  have HS1 := hid0 (sameRows N aN bN cN dN w0 (by have := hs.n; omega) (fun r hr => by have := hs.nr r hr; omega) (h1.past hB0) (h3.past hB0))
  have HS2 : Hid (∀ q, Calls Tryd.prog 35 #[.slice aO O.length cO, .slice bO O.length dO] (w0.drewN q) fun e w' => e = .returned (.bool true) ∧ ∃ n, w' = (w0.drewN q).drewN n) := hid0 (fun q => by
    have hq : Below w0.heap.size w0 (w0.drewN q) := below_drew' (Below.refl _ _) q
    exact sameRows O aO bO cO dO (w0.drewN q) (by omega) (fun r hr => by have := hs.or r hr; omega) ((h2.past hB0).past hq) ((h4.past hB0).past hq))
  have HB0 := hid0 hB0
  have HZ := hid0 hsz0
  clear hB0 hsz0 hA0 hM0 h1 h2 h3 h4 hs
  go_enter Tryd.func14, Tryd.ntmps14
  go_wp2_with (first | (go_at_call 35; refine HS1.out.mono ?_; rintro e w3 ⟨rfl, n3, hw3⟩; subst hw3; clear HS1) | (go_at_call 35; refine (HS2.out n3).mono ?_; rintro e w4 ⟨rfl, n4, hw4⟩; rw [World.drewN_drewN] at hw4; subst hw4))
  go_ret
  exact ⟨rfl, below_drew' HB0.out _⟩
theorem ia_blk {W : World} {g : Nat} {t : TypeId} {L : List Int} (h : W.heap[g]? = some (.cells (L.map (Value.int .i64)).toArray t (0, 0))) : IA W (some ⟨g, 0, none⟩) L := ⟨fun k hk => ⟨g, 0, rfl, (Array.getElem?_eq_some_iff.1 h).1, by
  rw [Nat.zero_add, cell_of_row _ _ _ _ _ _ h]
  simp [hk]⟩⟩
theorem known_sml : SmlO kN kO := ⟨by decide, by decide, by decide, by decide, fun m h => by
  have := h [1, 1] (by decide)
  have e : m = 2 := by rw [← this]; rfl
  subst e
  decide⟩
/-- The machine that known lays. -/
theorem known_laid (w : World) : ∃ w1 w2 w3 w4 w5 w6 : World, w.alloc (.cells #[.int .i64 1, .int .i64 1] 3) = w1 ∧ w1.alloc (.cells #[.int .i64 0, .int .i64 2] 3) = w2 ∧ w2.alloc (.cells #[.int .i64 2, .int .i64 2] 3) = w3 ∧
    w3.alloc (.cells #[.slice (some ⟨w.heap.size, 0, none⟩) 2 2, .slice (some ⟨w1.heap.size, 0, none⟩) 2 2, .slice (some ⟨w2.heap.size, 0, none⟩) 2 2] 25) = w4 ∧ w4.alloc (.cells #[.int .i64 5] 3) = w5 ∧ w5.alloc (.cells #[.slice none 0 0, .slice none 0 0, .slice (some ⟨w4.heap.size, 0, none⟩) 1 1] 25) = w6 ∧
    Below w.heap.size w w6 ∧ RwA w6 (some ⟨w3.heap.size, 0, none⟩) kN ∧ RwA w6 (some ⟨w5.heap.size, 0, none⟩) kO := by
  refine ⟨_, _, _, _, _, _, rfl, rfl, rfl, rfl, rfl, rfl, ?_⟩
  generalize hw1 : w.alloc (.cells #[.int .i64 1, .int .i64 1] 3) = w1
  generalize hw2 : w1.alloc (.cells #[.int .i64 0, .int .i64 2] 3) = w2
  generalize hw3 : w2.alloc (.cells #[.int .i64 2, .int .i64 2] 3) = w3
  generalize hw4 : w3.alloc (.cells #[.slice (some ⟨w.heap.size, 0, none⟩) 2 2, .slice (some ⟨w1.heap.size, 0, none⟩) 2 2, .slice (some ⟨w2.heap.size, 0, none⟩) 2 2] 25) = w4
  generalize hw5 : w4.alloc (.cells #[.int .i64 5] 3) = w5
  generalize hw6 : w5.alloc (.cells #[.slice none 0 0, .slice none 0 0, .slice (some ⟨w4.heap.size, 0, none⟩) 1 1] 25) = w6
  have b1 : Below w.heap.size w w1 := by rw [← hw1]; exact below_alloc _ _
  have b2 : Below w1.heap.size w1 w2 := by rw [← hw2]; exact below_alloc _ _
  have b3 : Below w2.heap.size w2 w3 := by rw [← hw3]; exact below_alloc _ _
  have b4 : Below w3.heap.size w3 w4 := by rw [← hw4]; exact below_alloc _ _
  have b5 : Below w4.heap.size w4 w5 := by rw [← hw5]; exact below_alloc _ _
  have b6 : Below w5.heap.size w5 w6 := by rw [← hw6]; exact below_alloc _ _
  have c5 := Below.later b5 b6
  have c4 := Below.later b4 c5
  have c3 := Below.later b3 c4
  have c2 := Below.later b2 c3
  have n1 : w1.heap[w.heap.size]? = some (.cells #[.int .i64 1, .int .i64 1] 3 (0, 0)) := by rw [← hw1]; exact heap_alloc_new _ _
  have n2 : w2.heap[w1.heap.size]? = some (.cells #[.int .i64 0, .int .i64 2] 3 (0, 0)) := by rw [← hw2]; exact heap_alloc_new _ _
  have n3 : w3.heap[w2.heap.size]? = some (.cells #[.int .i64 2, .int .i64 2] 3 (0, 0)) := by rw [← hw3]; exact heap_alloc_new _ _
  have n4 : w4.heap[w3.heap.size]? = some (.cells #[.slice (some ⟨w.heap.size, 0, none⟩) 2 2, .slice (some ⟨w1.heap.size, 0, none⟩) 2 2, .slice (some ⟨w2.heap.size, 0, none⟩) 2 2] 25 (0, 0)) := by rw [← hw4]; exact heap_alloc_new _ _
  have n5 : w5.heap[w4.heap.size]? = some (.cells #[.int .i64 5] 3 (0, 0)) := by rw [← hw5]; exact heap_alloc_new _ _
  have n6 : w6.heap[w5.heap.size]? = some (.cells #[.slice none 0 0, .slice none 0 0, .slice (some ⟨w4.heap.size, 0, none⟩) 1 1] 25 (0, 0)) := by rw [← hw6]; exact heap_alloc_new _ _
  have m1 := (c2.block _ (Array.getElem?_eq_some_iff.1 n1).1).trans n1
  have m2 := (c3.block _ (Array.getElem?_eq_some_iff.1 n2).1).trans n2
  have m3 := (c4.block _ (Array.getElem?_eq_some_iff.1 n3).1).trans n3
  have m4 := (c5.block _ (Array.getElem?_eq_some_iff.1 n4).1).trans n4
  have m5 := (b6.block _ (Array.getElem?_eq_some_iff.1 n5).1).trans n5
  refine ⟨Below.later b1 c2, ⟨fun k hk => ⟨_, _, rfl, (Array.getElem?_eq_some_iff.1 m4).1, ?_⟩⟩, ⟨fun k hk => ⟨_, _, rfl, (Array.getElem?_eq_some_iff.1 n6).1, ?_⟩⟩⟩
  · rw [Nat.zero_add, cell_of_row _ _ _ _ _ _ m4]
    match k, hk with
    | 0, _ => exact ⟨_, _, rfl, ia_blk (L := [1, 1]) m1⟩
    | 1, _ => exact ⟨_, _, rfl, ia_blk (L := [0, 2]) m2⟩
    | 2, _ => exact ⟨_, _, rfl, ia_blk (L := [2, 2]) m3⟩
    | k + 3, hk => exact absurd hk (by simp [kN])
  · rw [Nat.zero_add, cell_of_row _ _ _ _ _ _ n6]
    match k, hk with
    | 0, _ => exact ⟨_, _, rfl, ⟨fun k hk => absurd hk (by simp [kO])⟩⟩
    | 1, _ => exact ⟨_, _, rfl, ⟨fun k hk => absurd hk (by simp [kO])⟩⟩
    | 2, _ => exact ⟨_, _, rfl, ia_blk (L := [5]) m5⟩
    | k + 3, hk => exact absurd hk (by simp [kO])
set_option maxRecDepth 10000 in
set_option maxHeartbeats 1600000 in
theorem known_any (x : Addr) (w : World) (he : E1 w x) : Calls Tryd.prog 8 #[] w fun e w' => e = .returned (.bool true) ∧ Below w.heap.size w w' := by
  obtain ⟨w1, w2, w3, w4, w5, w6, q1, q2, q3, q4, q5, q6, hB6, hN6, hO6⟩ := known_laid w
  have HOf := hid0 (of_sml 0 2 kN kO (some ⟨w3.heap.size, 0, none⟩) (some ⟨w5.heap.size, 0, none⟩) 3 3 w6 known_red.may known_sml hN6 hO6)
  have HB6 := hid0 hB6
  have HE := hid0 he
  clear hB6 hN6 hO6 he
  go_enter Tryd.func8, Tryd.ntmps8
  go_upto_region 2 with (go_at_call 10; go_loud ((refine HOf.out.mono ?_; rintro e w7 ⟨vN, vO, rfl, hof, hb7⟩; obtain ⟨N', O', aA, cA, aB, cB, rfl, rfl, qA, qB, hl⟩ := hof.rows; clear hof; obtain ⟨e1, e2⟩ := (Lst.self known_red).uniq hl; subst e1; subst e2; have HB7 := hid0 hb7; have HQ := hid0 (And.intro qA qB); clear qA qB hl hb7)))
  obtain ⟨w8, hw8⟩ : ∃ w8, w8 = w7.alloc (.cells #[.int .i64 0, .slice aA kN.length cA, .slice aB kO.length cB] 24) := ⟨_, rfl⟩
  obtain ⟨qA, qB⟩ := HQ.out
  have hB8 : Below w7.heap.size w7 w8 := by rw [hw8]; exact below_alloc _ _
  have hX8 : MBox w8 w7.heap.size 0 (.slice aA kN.length cA) (.slice aB kO.length cB) := by rw [hw8]; exact MBox.new _ _ _ _
  have hB68 : Below w6.heap.size w6 w8 := Below.later HB7.out hB8
  have HBF : Hid (Below w.heap.size w w8) := hid0 (Below.later HB6.out hB68)
  have HIs := hid0 (is_any x 0 2 kN kO aA aB cA cB w8 known_sml (qA.past hB8) (qB.past hB8) (HE.out.below HBF.out))
  rw [show isB 0 kN kO 2 = true from isB_yes known_red] at HIs
  obtain ⟨b, off, rfl, _, a2, c2, d2, i2⟩ := (qB.past hB8).at' 2 (by decide)
  have d2' : w8.cell? ⟨b, off + 2, none⟩ = some (.slice a2 1 c2) := d2
  obtain ⟨b2, off2, rfl, _, d3⟩ := i2.at' 0 (by decide)
  have d3' : w8.cell? ⟨b2, off2 + 0, none⟩ = some (.int .i64 5) := d3
  rw [Nat.add_zero] at d3'
  obtain ⟨z0, z1, z2⟩ := hX8.c
  rw [show kN.length = 3 from rfl] at z1 hw8 HIs
  rw [show kO.length = 3 from rfl] at z2 hw8 HIs
  have q8 := hw8.symm
  clear hw8 hX8 hB68 hB8 qA qB HQ q1 q2 q3 q4 q5 q6 d2 d3 i2
  simp only [show kN.length = 3 from rfl, show kO.length = 3 from rfl]
  go_wp2_with (go_at_call 15; refine HIs.out.mono ?_; rintro e w9 ⟨rfl, hb9⟩; have HB9 := hid0 (Below.later HBF.out hb9); clear hb9)
  go_ret
  exact ⟨rfl, HB9.out⟩
end Go.Proofs.YtjemjccgfgijiaaDoor
namespace Go.Proofs.YtjemjccgfgijiaaDoor
open Go.RowKit Go.Shelf
def pickN (k : Int) (n : Nat) : Nat := (if k.tmod n < 0 then k.tmod n + n else k.tmod n).toNat
theorem pickN_lt (k : Int) (n : Nat) (hn : 0 < n) : pickN k n < n := by
  have hm1 := Int.tmod_lt_of_pos k (b := (n : Int)) (by omega)
  have hm2 : -(n : Int) < k.tmod n := by
    have := Int.tmod_lt_of_pos (-k) (b := (n : Int)) (by omega)
    rw [Int.neg_tmod] at this
    omega
  unfold pickN
  split <;> omega
theorem pickN_self {k n : Nat} (h : k < n) : pickN (k : Int) n = k := by
  unfold pickN
  have e : (k : Int).tmod (n : Int) = (k : Int) := by
    rw [Int.tmod_eq_emod_of_nonneg (by omega), Int.emod_eq_of_lt (by omega) (by omega)]
  rw [e, if_neg (by omega)]
  omega
set_option maxRecDepth 10000 in
set_option maxHeartbeats 400000 in
theorem pick_at (k : Int) (n : Nat) (hn : 0 < n) (hn2 : n ≤ 4000000) (w : World) :
    Calls Tryd.prog 34 #[.int .i64 k, .int .i64 (n : Int)] w fun e w' => e = .returned (.int .i64 (pickN k n : Nat)) ∧ w' = w := by
  have hm1 := Int.tmod_lt_of_pos k (b := (n : Int)) (by omega)
  have hm2 : -(n : Int) < k.tmod n := by
    have := Int.tmod_lt_of_pos (-k) (b := (n : Int)) (by omega)
    rw [Int.neg_tmod] at this
    omega
  have hz : ((n : Int) == 0) = false := by simp; omega
  have hz2 : ¬ (n : Int) = 0 := by omega
  have hz3 : ¬ (n : Int) < 1 := by omega
  by_cases hneg : k.tmod n < 0
  · have HE : Hid (((pickN k n : Nat) : Int) = k.tmod n + n) := hid0 (by rw [pickN, if_pos hneg]; omega)
    go_enter Tryd.func34, Tryd.ntmps34
    go_wp2
    go_ret
    exact ⟨by rw [HE.out]; rfl, rfl⟩
  · have HE : Hid (((pickN k n : Nat) : Int) = k.tmod n) := hid0 (by rw [pickN, if_neg hneg]; omega)
    go_enter Tryd.func34, Tryd.ntmps34
    go_wp2
    go_ret
    exact ⟨by rw [HE.out]; rfl, rfl⟩
/-- A word brought below the number of symbols. -/
def pickW (m : Nat) (W : List Int) : List Nat := if m = 0 then [] else W.map (pickN · m)
theorem pickW_ok (m : Nat) (W : List Int) : okW m (pickW m W) := by
  unfold pickW
  split
  · exact okW.nil m
  · intro c hc
    obtain ⟨z, _, rfl⟩ := List.mem_map.1 hc
    exact pickN_lt z m (by omega)
theorem pickW_self {m : Nat} {u : List Nat} (h : ∀ c ∈ u, c < m) : pickW m (nums u) = u := by
  unfold pickW
  split
  · cases u with
    | nil => rfl
    | cons c l => have := h c List.mem_cons_self; omega
  · unfold nums
    rw [List.map_map]
    conv => rhs; rw [← List.map_id u]
    exact List.map_congr_left (fun c hc => by show pickN ((c : Nat) : Int) m = c; exact pickN_self (h c hc))
/-- The state behind the first k symbols. -/
def stW (N : List (List Int)) (s m : Nat) (W : List Int) (k : Nat) : Nat := runW (nxF N) s ((W.take k).map (pickN · m))
theorem stW_succ {N : List (List Int)} {s m : Nat} {W : List Int} {k : Nat} (h : k < W.length) : stW N s m W (k + 1) = nxF N (stW N s m W k) (pickN W[k] m) := by
  unfold stW
  rw [List.take_succ_eq_append_getElem h, List.map_append, runW_append]
  rfl
theorem May.runs {st : Int} {N O : List (List Int)} {m : Nat} (h : May st N O m) {s : Nat} (hs : s < N.length) (w : List Nat) (hw : okW m w) : runW (nxF N) s w < N.length := runW_in (fun _x _c hx hc => (h.next hx hc).1) w s hs hw
theorem stW_lt {st : Int} {N O : List (List Int)} {s m : Nat} (h : May st N O m) (hs : s < N.length) (hm : 0 < m) (W : List Int) (k : Nat) : stW N s m W k < N.length := h.runs hs _ (fun c hc => by
  obtain ⟨z, _, rfl⟩ := List.mem_map.1 hc
  exact pickN_lt z m hm)
theorem stW_end {N : List (List Int)} {s m : Nat} {W : List Int} {k : Nat} (hm : 0 < m) (h : W.length ≤ k) : stW N s m W k = runW (nxF N) s (pickW m W) := by
  unfold stW pickW
  rw [if_neg (by omega), List.take_of_length_le h]
/-- A slice that tells a list. -/
def Tells (w : World) (v : Value) (L : List Int) : Prop := ∃ a c, v = .slice a L.length c ∧ IA w a L
theorem rwa_at {w : World} {a : Option Addr} {L : List (List Int)} (h : RwA w a L) {k : Nat} (hk : k < L.length) : ∃ b off, a = some ⟨b, off, none⟩ ∧ ∃ a1 c1, w.cell? ⟨b, off + k, none⟩ = some (.slice a1 (outF L k).length c1) ∧ IA w a1 (outF L k) := by
  obtain ⟨b, off, e, _, a1, c1, h1, h2⟩ := h.at' k hk
  have e2 : outF L k = L[k] := by unfold outF; rw [List.getD_eq_getElem?_getD, List.getElem?_eq_getElem hk]; rfl
  rw [e2]
  exact ⟨b, off, e, a1, c1, h1, h2⟩
set_option maxRecDepth 10000 in
set_option maxHeartbeats 1600000 in
theorem told_any (s0 m : Nat) (st : Int) (N O : List (List Int)) (W : List Int) (aN aO aW : Option Addr) (cN cO cW : Nat) (w : World) (hm : May st N O m) (hs0 : s0 < N.length) (hmb : m ≤ 4000000) (_hnb : N.length ≤ 4000000) (hW : W.length ≤ 1000000000000) (ha : RwA w aN N) (hb : RwA w aO O) (hw : IA w aW W) :
    Calls Tryd.prog 13 #[.agg #[.int .i64 (s0 : Int), .slice aN N.length cN, .slice aO O.length cO], .int .i64 (m : Int), .slice aW W.length cW] w fun e w' => ∃ v, e = .returned v ∧ Tells w' v (outF O (runW (nxF N) s0 (pickW m W))) ∧ Below w.heap.size w w' := by
  obtain ⟨w0, hw0⟩ : ∃ w0, w0 = w.alloc (.cells #[.int .i64 (s0 : Int), .slice aN N.length cN, .slice aO O.length cO] 24) := ⟨_, rfl⟩
  have hB0 : Below w.heap.size w w0 := by rw [hw0]; exact (Below.refl _ _).alloc (Nat.le_refl _) _
  have hX0 : w0.heap[w.heap.size]? = some (.cells #[.int .i64 (s0 : Int), .slice aN N.length cN, .slice aO O.length cO] 24 (0, 0)) := by rw [hw0]; exact heap_alloc_new w _
  have HB0 := hid0 hB0
  have HA := hid0 (ha.past hB0)
  have HO := hid0 (hb.past hB0)
  have HW := hid0 (hw.past hB0)
  have x0 : w0.cell? ⟨w.heap.size, 0, none⟩ = some (.int .i64 (s0 : Int)) := by rw [cell_of_row _ _ _ _ _ _ hX0]; rfl
  have x1 : w0.cell? ⟨w.heap.size, 1, none⟩ = some (.slice aN N.length cN) := by rw [cell_of_row _ _ _ _ _ _ hX0]; rfl
  have x2 : w0.cell? ⟨w.heap.size, 2, none⟩ = some (.slice aO O.length cO) := by rw [cell_of_row _ _ _ _ _ _ hX0]; rfl
  have HM := hid0 hm
  have HS0 := hid0 hs0
  clear ha hb hw hB0 hX0 hm hs0
  have hfold := hw0.symm
  clear hw0
  go_enter Tryd.func13, Tryd.ntmps13
  go_wp2
  go_loopw [7, 8] (fun s i wr => ∃ k : Nat, k ≤ W.length ∧ i = .int .i64 (k : Int) ∧ (∃ n, wr = w0.drewN n) ∧ (∃ x : Nat, s = .int .i64 (x : Int) ∧ Hid (x < N.length ∧ (0 < m → x = stW N s0 m W k) ∧ (m = 0 → x = s0)))) (fun _ i _ => W.length - (intOf i).toNat)
  case atStart => exact ⟨0, Nat.zero_le _, rfl, ⟨0, rfl⟩, s0, rfl, hid0 ⟨HS0.out, fun _ => rfl, fun _ => rfl⟩⟩
  case round =>
    obtain ⟨k, hk, rfl, ⟨nd, rfl⟩, x, rfl, HX⟩ := hrel
    by_cases hlt : k < W.length ∧ 0 < m
    · have hkW := hlt.1
      have hm0 := hlt.2
      have hkI : (k : Int) < (W.length : Int) := by omega
      have hkI0 : (0 : Int) ≤ (k : Int) := by omega
      have hmI : (m : Int) > 0 := by omega
      obtain ⟨b3, o3, rfl, _, d3⟩ := HW.out.at' k hkW
      obtain ⟨b1, o1, rfl, a1, c1, d1, i1⟩ := rwa_at HA.out HX.out.1
      have hxI : (x : Int) < (N.length : Int) := by have := HX.out.1; omega
      have hxI0 : (0 : Int) ≤ (x : Int) := by omega
      have hp := pickN_lt W[k] m hm0
      have hnx := HM.out.next HX.out.1 hp
      have hnl : (outF N x).length = m := hnx.2.2
      have hpl : pickN W[k] m < (outF N x).length := by rw [hnl]; exact hp
      obtain ⟨b4, o4, rfl, _, d4⟩ := i1.at' _ hpl
      have d4' : w0.cell? ⟨b4, o4 + pickN W[k] m, none⟩ = some (.int .i64 (nxF N x (pickN W[k] m) : Nat)) := by
        rw [d4]
        have e : (outF N x)[pickN W[k] m] = (outF N x).getD (pickN W[k] m) 0 := by rw [List.getD_eq_getElem?_getD, List.getElem?_eq_getElem hpl]; rfl
        rw [e]
        have := hnx.2.1
        unfold outF
        rw [this]
      have HN : Hid (nxF N x (pickN W[k] m) < N.length ∧ (0 < m → nxF N x (pickN W[k] m) = stW N s0 m W (k + 1)) ∧ (m = 0 → nxF N x (pickN W[k] m) = s0)) := hid0 ⟨hnx.1, fun h => by rw [stW_succ hkW, HX.out.2.1 h], fun h => by omega⟩
      have HP := hid0 (fun V => pick_at W[k] m hm0 hmb V)
      have hpI : ((pickN W[k] m : Nat) : Int) < ((outF N x).length : Int) := by omega
      have hpI0 : (0 : Int) ≤ ((pickN W[k] m : Nat) : Int) := by omega
      clear hp hnx hnl hpl d4 i1 HX hlt
      generalize nxF N x (pickN W[k] m) = y at *
      generalize pickN W[k] m = p at *
      generalize (outF N x).length = ln at *
      go_wp2
      go_quiet ((go_at_call 34; exact (HP.out _).mono (fun _ _ h => ⟨h.1, _, h.2⟩)))
      go_wp2
      go_roundw
      case rel => exact ⟨k + 1, by omega, by go_num, ⟨_, rfl⟩, y, rfl, HN⟩
      case measure => simp [intOf]; omega
    · have HE : Hid (x = runW (nxF N) s0 (pickW m W)) := hid0 (by
        rcases Nat.eq_zero_or_pos m with e | e
        · rw [HX.out.2.2 e]
          unfold pickW
          rw [if_pos e]
          rfl
        · rw [HX.out.2.1 e]
          exact stW_end e (by omega))
      have hxO : x < O.length := by have := HX.out.1; have := HM.out.out; omega
      obtain ⟨b1, o1, rfl, a1, c1, d1, i1⟩ := rwa_at HO.out hxO
      have hxI : (x : Int) < (O.length : Int) := by omega
      have hxI0 : (0 : Int) ≤ (x : Int) := by omega
      have HI := hid0 i1
      clear i1
      by_cases hkW : k < W.length
      · have hkI : (k : Int) < (W.length : Int) := by omega
        have hmI : ¬ (m : Int) > 0 := by omega
        have hmI2 : (m : Int) ≤ 0 := by omega
        clear hlt
        go_wp2
        go_ret
        exact ⟨_, rfl, by rw [← HE.out]; exact ⟨_, _, rfl, HI.out.drewN _⟩, below_drew' HB0.out _⟩
      · have hkI : ¬ (k : Int) < (W.length : Int) := by omega
        clear hlt
        go_wp2
        go_ret
        exact ⟨_, rfl, by rw [← HE.out]; exact ⟨_, _, rfl, HI.out.drewN _⟩, below_drew' HB0.out _⟩
end Go.Proofs.YtjemjccgfgijiaaDoor
namespace Go.Proofs.YtjemjccgfgijiaaDoor
open Go.RowKit Go.Shelf
theorem all_dropI {n : Nat} {L : List Int} {k : Nat} (h : k < L.length) : (L.drop k).all (oneOf n) = (oneOf n L[k] && (L.drop (k + 1)).all (oneOf n)) := by
  rw [List.drop_eq_getElem_cons h, List.all_cons]
set_option maxRecDepth 10000 in
set_option maxHeartbeats 1600000 in
theorem refMayBe_any (st sy : Int) (N O : List (List Int)) (aN aO : Option Addr) (cN cO : Nat) (w : World) (hN : N.length ≤ 17592186043904) (hNr : ∀ r ∈ N, r.length ≤ 17592186043904) (hOr : ∀ r ∈ O, r.length ≤ 17592186043904) (ha : RwA w aN N) (hb : RwA w aO O) :
    Calls Tryd.prog 9 #[.agg #[.int .i64 st, .slice aN N.length cN, .slice aO O.length cO], .int .i64 sy] w fun e w' => e = .returned (.bool (mayF st N O sy)) ∧ Below w.heap.size w w' := by
  obtain ⟨w0, hw0⟩ : ∃ w0, w0 = w.alloc (.cells #[.int .i64 st, .slice aN N.length cN, .slice aO O.length cO] 24) := ⟨_, rfl⟩
  have hB0 : Below w.heap.size w w0 := by rw [hw0]; exact (Below.refl _ _).alloc (Nat.le_refl _) _
  have hX0 : w0.heap[w.heap.size]? = some (.cells #[.int .i64 st, .slice aN N.length cN, .slice aO O.length cO] 24 (0, 0)) := by rw [hw0]; exact heap_alloc_new w _
  have HB0 := hid0 hB0
  have HA := hid0 (ha.past hB0)
  have HB := hid0 (hb.past hB0)
  have x0 : w0.cell? ⟨w.heap.size, 0, none⟩ = some (.int .i64 st) := by rw [cell_of_row _ _ _ _ _ _ hX0]; rfl
  have x1 : w0.cell? ⟨w.heap.size, 1, none⟩ = some (.slice aN N.length cN) := by rw [cell_of_row _ _ _ _ _ _ hX0]; rfl
  have x2 : w0.cell? ⟨w.heap.size, 2, none⟩ = some (.slice aO O.length cO) := by rw [cell_of_row _ _ _ _ _ _ hX0]; rfl
  have HNr := hid0 hNr
  have HOr := hid0 hOr
  clear ha hb hB0 hX0 hNr hOr
  have hfold := hw0.symm
  clear hw0
  by_cases h1 : sy < 0
  case pos =>
    have HV : Hid (mayF st N O sy = false) := hid0 (by unfold mayF; rw [decide_eq_false (by omega)]; rfl)
    go_enter Tryd.func9, Tryd.ntmps9
    go_wp2
    go_ret
    exact ⟨by rw [HV.out]; rfl, HB0.out⟩
  by_cases h4 : (N.length : Int) < 1
  case pos =>
    have HV : Hid (mayF st N O sy = false) := hid0 (by unfold mayF; rw [(oneOf_not _ _).2 (fun q => by omega), Bool.and_false]; rfl)
    go_enter Tryd.func9, Tryd.ntmps9
    go_wp2
    go_ret
    exact ⟨by rw [HV.out]; rfl, HB0.out⟩
  by_cases h2 : (O.length : Int) = (N.length : Int)
  case neg =>
    have HV : Hid (mayF st N O sy = false) := hid0 (by unfold mayF; rw [decide_eq_false (p := O.length = N.length) (by omega), Bool.and_false]; rfl)
    go_enter Tryd.func9, Tryd.ntmps9
    go_wp2
    go_ret
    exact ⟨by rw [HV.out]; rfl, HB0.out⟩
  by_cases h5 : st < 0
  case pos =>
    have HV : Hid (mayF st N O sy = false) := hid0 (by unfold mayF; rw [(oneOf_not _ _).2 (fun q => by omega), Bool.and_false]; rfl)
    go_enter Tryd.func9, Tryd.ntmps9
    go_wp2
    go_ret
    exact ⟨by rw [HV.out]; rfl, HB0.out⟩
  by_cases h6 : st ≥ (N.length : Int)
  case pos =>
    have HV : Hid (mayF st N O sy = false) := hid0 (by unfold mayF; rw [(oneOf_not _ _).2 (fun q => by omega), Bool.and_false]; rfl)
    go_enter Tryd.func9, Tryd.ntmps9
    go_wp2
    go_ret
    exact ⟨by rw [HV.out]; rfl, HB0.out⟩
  have HL : Hid (O.length = N.length) := hid0 (by omega)
  have HV0 : Hid (mayF st N O sy = mayR N O sy 0) := hid0 (mayF_R (by omega) HL.out ((oneOf_iff _ _).2 ⟨by omega, by omega⟩))
  go_enter Tryd.func9, Tryd.ntmps9
  go_wp2
  go_loopw [6] (fun i wr => ∃ k : Nat, k ≤ N.length ∧ i = .int .i64 (k : Int) ∧ (∃ n, wr = w0.drewN n) ∧ Hid (mayR N O sy k = mayF st N O sy)) (fun i _ => N.length - (intOf i).toNat)
  case atStart => exact ⟨0, Nat.zero_le _, rfl, ⟨0, rfl⟩, hid0 HV0.out.symm⟩
  case round =>
    obtain ⟨k, hk, rfl, ⟨nd, rfl⟩, HD⟩ := hrel
    by_cases hlt : k < N.length
    · obtain ⟨b, off, rfl, _, a1, c1, d1, i1⟩ := HA.out.at' k hlt
      have hlO : k < O.length := by have := HL.out; omega
      obtain ⟨b2, off2, rfl, _, a2, c2, d2, i2⟩ := HB.out.at' k hlO
      have hkI : (k : Int) < (N.length : Int) := by omega
      have hkO : (k : Int) < (O.length : Int) := by omega
      have hkI0 : (0 : Int) ≤ (k : Int) := by omega
      have HS := hid0 (mayR_step (m := sy) hlt hlO)
      have hrl := HNr.out _ (List.getElem_mem hlt)
      have HI1 := hid0 i1
      have HC2 := hid0 (refRises_any O[k] a2 c2 (w0.drewN nd) (HOr.out _ (List.getElem_mem hlO)) (i2.past (below_drew' (Below.refl _ _) nd)))
      clear i1 i2
      generalize N[k] = r at *
      generalize O[k] = o at *
      by_cases g1 : (r.length : Int) = sy
      · cases g3 : upF 0 o with
        | false =>
          have HV : Hid (mayF st N O sy = false) := hid0 (by rw [← HD.out, HS.out, g3, Bool.and_false]; rfl)
          rw [g3] at HC2
          clear g3 HS HD
          go_wp2_with (go_at_call 28; refine HC2.out.mono ?_; rintro e w1 ⟨rfl, nq, hw⟩; rw [World.drewN_drewN] at hw; subst hw)
          go_ret
          exact ⟨by rw [HV.out]; rfl, below_drew' HB0.out _⟩
        | true =>
          rw [g3] at HC2
          have HS2 : Hid (mayF st N O sy = (r.all (oneOf N.length) && mayR N O sy (k + 1))) := hid0 (by rw [← HD.out, HS.out, g3, decide_eq_true g1, Bool.true_and, Bool.and_true])
          clear g3 HS HD
          go_wp2_with (go_at_call 28; refine HC2.out.mono ?_; rintro e w1 ⟨rfl, nq, hw⟩; rw [World.drewN_drewN] at hw; subst hw)
          go_loopw [8] (fun i wr => ∃ j : Nat, j ≤ r.length ∧ i = .int .i64 (j : Int) ∧ wr = w0.drewN (nd + nq) ∧ Hid ((r.drop j).all (oneOf N.length) = r.all (oneOf N.length))) (fun i _ => r.length - (intOf i).toNat)
          case atStart => exact ⟨0, Nat.zero_le _, rfl, rfl, hid0 rfl⟩
          case round =>
            obtain ⟨j, hj, rfl, rfl, HE⟩ := hrel
            by_cases hjl : j < r.length
            · obtain ⟨b3, off3, rfl, _, d3⟩ := HI1.out.at' j hjl
              have hjI : (j : Int) < (r.length : Int) := by omega
              have hjS : (j : Int) < sy := by omega
              have hjI0 : (0 : Int) ≤ (j : Int) := by omega
              have HT := hid0 (all_dropI (n := N.length) hjl)
              generalize r[j] = z at *
              by_cases q1 : z < 0
              · have HV : Hid (mayF st N O sy = false) := hid0 (by rw [HS2.out, ← HE.out, HT.out, (oneOf_not _ _).2 (fun q => by omega)]; rfl)
                clear HT HE
                go_wp2
                go_ret
                exact ⟨by rw [HV.out]; rfl, below_drew' HB0.out _⟩
              · by_cases q2 : z ≥ (N.length : Int)
                · have HV : Hid (mayF st N O sy = false) := hid0 (by rw [HS2.out, ← HE.out, HT.out, (oneOf_not _ _).2 (fun q => by omega)]; rfl)
                  clear HT HE
                  go_wp2
                  go_ret
                  exact ⟨by rw [HV.out]; rfl, below_drew' HB0.out _⟩
                · have HE2 : Hid ((r.drop (j + 1)).all (oneOf N.length) = r.all (oneOf N.length)) := hid0 (by rw [← HE.out, HT.out, (oneOf_iff _ _).2 ⟨by omega, by omega⟩, Bool.true_and])
                  clear HT HE
                  go_wp2
                  go_roundw
                  case rel => exact ⟨j + 1, by omega, by go_num, trivial, HE2⟩
                  case measure => simp [intOf]; omega
            · have hjS : ¬ (j : Int) < sy := by omega
              have HV : Hid (mayR N O sy (k + 1) = mayF st N O sy) := hid0 (by rw [HS2.out, ← HE.out, List.drop_eq_nil_of_le (by omega)]; rfl)
              clear HE
              go_wp2
              go_roundw
              case rel => exact ⟨k + 1, by omega, by go_num, ⟨_, rfl⟩, HV⟩
              case measure => simp [intOf]; omega
      · have HV : Hid (mayF st N O sy = false) := hid0 (by rw [← HD.out, HS.out, decide_eq_false g1]; rfl)
        clear HS HD
        cases g3 : upF 0 o with
        | false =>
          rw [g3] at HC2
          clear g3
          go_wp2_with (go_at_call 28; refine HC2.out.mono ?_; rintro e w1 ⟨rfl, nq, hw⟩; rw [World.drewN_drewN] at hw; subst hw)
          go_ret
          exact ⟨by rw [HV.out]; rfl, below_drew' HB0.out _⟩
        | true =>
          rw [g3] at HC2
          clear g3
          go_wp2_with (go_at_call 28; refine HC2.out.mono ?_; rintro e w1 ⟨rfl, nq, hw⟩; rw [World.drewN_drewN] at hw; subst hw)
          go_ret
          exact ⟨by rw [HV.out]; rfl, below_drew' HB0.out _⟩
    · have hkI : ¬ (k : Int) < (N.length : Int) := by omega
      have HV : Hid (mayF st N O sy = true) := hid0 (by rw [← HD.out]; exact mayR_end (by omega) (by have := HL.out; omega))
      clear HD
      go_wp2
      go_ret
      exact ⟨by rw [HV.out]; rfl, below_drew' HB0.out _⟩
end Go.Proofs.YtjemjccgfgijiaaDoor
