/-
  The walk of caesuralaw26.OffsetsPlay.
-/
import Derived.Test.YtlmbbohhdgeedaaDoorOzNW
namespace Go.Proofs.YtlmbbohhdgeedaaDoor
open Go.RowKit
set_option maxRecDepth 10000 in
set_option maxHeartbeats 3200000 in
theorem play_any (s : ByteArray) (a b : Int) (A : Nat → Addr) (hs : s.size ≤ 1048576) (w : World) (hT : SeqAt w) (hS : Sents w A) :
    Calls Tryd.prog 5 #[.agg #[.string s, .int .i64 a, .int .i64 b]] w fun e w' => e = .returned (.bool true) ∧ Below w.heap.size w w' := by
  have hLn : (allP s.data.toList).length ≤ 10000000 := by rw [allP_len]; have := units_le s; omega
  have hL0 : 0 < (allP s.data.toList).length := by rw [allP_len]; omega
  have hb1 : Below w.heap.size w (w.alloc (.cells #[.string s, .int .i64 a, .int .i64 b] 47)) := (Below.refl _ w).alloc (Nat.le_refl _) _
  have hr1 := heap_alloc_new w (.cells #[.string s, .int .i64 a, .int .i64 b] 47)
  have HN1 := hid (new_any s (by omega) _ (hT.later hb1))
  have HN2 := hid (fun W => refNew_any s (by omega) W)
  have HC1 := hid (fun B W h => countM_any (allP s.data.toList) hL0 hLn B W h)
  have HC2 := hid (fun B W h => refCount_any (allP s.data.toList) hL0 hLn B W h)
  have HO := hid (fun BM BR x y W h => one_any s.data.toList hLn BM BR x y A W h)
  have HP := hid (fun W => pick_any b (s.size + 3) (by omega) (by omega) W)
  have HS1 := hid (hS.below hb1)
  obtain ⟨w1, hw1⟩ : ∃ w1, w1 = w.alloc (.cells #[.string s, .int .i64 a, .int .i64 b] 47) := ⟨_, rfl⟩
  rw [← hw1] at hb1 hr1 HN1 HS1
  have hfold := hw1.symm
  have HB1 := hid hb1
  have HR1 := hid hr1
  have hlt := (Array.getElem?_eq_some_iff.1 hr1).1
  obtain ⟨⟨c0, c1, c2⟩, _⟩ := row3 hr1
  clear hw1 hb1 hr1 hS hT hLn hL0
  go_enter Tryd.func5, Tryd.ntmps5
  go_upto_region 9 with (first
    | (go_at_call 7; (try rw [hfold]); refine HN1.out.mono ?_; rintro e w2 ⟨BM, rfl, hbm, hm, hb2⟩; have HM := hid hm; have HB2 := hid hb2; have hr2 := (hb2.block _ hlt).trans HR1.out; obtain ⟨⟨c0, c1, c2⟩, _⟩ := row3 hr2; have hsz2 := hb2.size; clear hr2 hm hb2 hbm)
    | (go_at_call 18; refine (HN2.out _).mono ?_; rintro e w3 ⟨BR, rfl, hbr, hm, hb3⟩; have HI := hid (OneI.mk (HM.out.later hb3) hm (HS1.out.below (later2 HB2.out hb3))); have HB3 := hid (later2 HB2.out hb3); have hsz3 := HB3.out.size; clear hb3 hm hbr HM)
    | (go_at_call 15; refine (HC1.out _ _ HI.out.m).mono ?_; rintro e w4 ⟨rfl, hb4⟩; have HI4 := hid (HI.out.later hb4); have HB4 := hid (later2 HB3.out hb4); clear hb4)
    | (go_at_call 19; refine (HC2.out _ _ HI4.out.r).mono ?_; rintro e w5 ⟨rfl, hb5⟩; have HI5 := hid (HI4.out.later hb5); have HB5 := hid (later2 HB4.out hb5); clear hb5)
    | fail)
  have HW : Hid (∀ W, Below w5.heap.size w5 W → (W.cell? ⟨w.heap.size, 0, none⟩ = some (.string s) ∧ W.cell? ⟨w.heap.size, 1, none⟩ = some (.int .i64 a) ∧ W.cell? ⟨w.heap.size, 2, none⟩ = some (.int .i64 b)) ∧ OneI W BM BR s.data.toList A) := hid (fun W h => by
    have hr := ((later2 HB5.out h).block _ hlt).trans HR1.out
    exact ⟨(row3 hr).1, HI5.out.later h⟩)
  have HOne : Hid (∀ x y W, Below w5.heap.size w5 W → Calls Tryd.prog 20 #[.pointer (some ⟨BM, 0, none⟩), .pointer (some ⟨BR, 0, none⟩), .int .i64 x, .int .i64 y] W fun e w' => e = .returned (.bool true) ∧ Below w5.heap.size w5 w') := hid (fun x y W h => (HO.out BM BR x y W (HW.out W h).2).mono (fun e w' ⟨h1, h2⟩ => ⟨h1, later2 h h2⟩))
  have HEnd : Hid (∀ W, Below w5.heap.size w5 W → Below w.heap.size w W) := hid (fun W h => (HB1.out.trans ((later2 HB5.out h).mono HB1.out.size)))
  have hcast : ((s.size + 3 : Nat) : Int) = (s.size : Int) + 3 := by omega
  rw [hcast] at HP
  have h50 : Hid (Below w5.heap.size w5 w5) := hid (Below.refl _ _)
  clear c0 c1 c2 HI HI4 HI5 HB2 HB3 HB4 HO HC1 HC2 HN1 HN2 hfold HS1 hcast hsz2 hsz3
  go_upto_region 9 with (fail)
  go_wp2
  go_loopw [13] (fun i wr => ∃ j : Int, i = .int .i64 j ∧ -2 ≤ j ∧ j ≤ 300 ∧ Hid (Below w5.heap.size w5 wr)) (fun i _ => (301 - intOf i).toNat)
  case atStart => exact ⟨-2, rfl, by omega, by omega, h50⟩
  case round =>
    obtain ⟨j, rfl, hj1, hj2, HB⟩ := hrel
    obtain ⟨⟨c0, c1, c2⟩, _⟩ := HW.out _ HB.out
    by_cases hj : j ≤ (s.size : Int) + 2
    · by_cases hj3 : j < 300
      · go_wp2
        go_loopw [14] (fun i wx => ∃ q : Nat, i = .int .i64 (q : Int) ∧ q ≤ 3 ∧ Hid (Below w5.heap.size w5 wx)) (fun i _ => (3 - intOf i).toNat)
        case atStart => exact ⟨0, rfl, by omega, HB⟩
        case round =>
          obtain ⟨q, rfl, hq, HB6⟩ := hrel
          obtain ⟨⟨z0, z1, z2⟩, _⟩ := HW.out _ HB6.out
          clear c0 c1 c2
          by_cases hq3 : q < 3
          · go_wp2_with (first
              | (go_at_call 21; refine (HP.out _).mono ?_; rintro e w7 ⟨⟨r, hr, rfl⟩, rfl⟩)
              | (go_at_call 20; refine (HOne.out _ _ _ HB6.out).mono ?_; rintro e w8 ⟨rfl, hb8⟩; have HB8 := hid hb8; clear hb8)
              | fail)
            go_roundw
            case rel => exact ⟨q + 1, by go_num, by omega, HB8⟩
            case measure => simp [intOf]; omega
          · go_wp2
            go_roundw
            case rel => exact ⟨j + 1, rfl, by omega, by omega, HB6⟩
            case measure => simp [intOf]; omega
      · go_wp2_with (first
          | (go_at_call 20; refine (HOne.out _ _ _ (by first | exact HB8.out | exact HB.out)).mono ?_; rintro e w8 ⟨rfl, hb8⟩; have HB8 := hid hb8; obtain ⟨⟨c0, c1, c2⟩, _⟩ := HW.out _ hb8; clear hb8)
          | fail)
        go_ret
        exact ⟨rfl, HEnd.out _ HB8.out⟩
    · go_wp2_with (first
        | (go_at_call 20; refine (HOne.out _ _ _ (by first | exact HB8.out | exact HB.out)).mono ?_; rintro e w8 ⟨rfl, hb8⟩; have HB8 := hid hb8; obtain ⟨⟨c0, c1, c2⟩, _⟩ := HW.out _ hb8; clear hb8)
        | fail)
      go_ret
      exact ⟨rfl, HEnd.out _ HB8.out⟩
end Go.Proofs.YtlmbbohhdgeedaaDoor
