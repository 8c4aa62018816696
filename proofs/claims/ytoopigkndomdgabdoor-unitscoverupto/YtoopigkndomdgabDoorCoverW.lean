/-
  The walk of caesuralaw2.UnitsCover.
-/
import Derived.Test.YtoopigkndomdgabDoorCoverM
namespace Go.Proofs.YtoopigkndomdgabDoor
open Go.RowKit
theorem pa_one (W : World) (p : Int) : PA (W.alloc (.cells #[.int .i64 p] 3)) (some ⟨W.heap.size, 0, none⟩) [p] := ⟨fun k hk => by
  have : k = 0 := by simpa using hk
  subst this
  exact ⟨W.heap.size, 0, rfl, by rw [cell_of_row _ W.heap.size _ _ _ _ (heap_alloc_new W _)]; rfl⟩⟩
set_option maxRecDepth 10000 in
set_option maxHeartbeats 1600000 in
theorem cover_walk (s : ByteArray) (pe : Addr) (hs : s.size ≤ 1048576) (w : World) (hT : SeqAt w) (hE : w.cell? ⟨0, 0, none⟩ = some (.iface 71 (.pointer (some pe)))) :
    Calls Tryd.prog 3 #[.string s] w fun e w' => e = .returned (.bool true) ∧ Below w.heap.size w w' := by
  have HT := hid hT
  have HE := hid hE
  have hpe : 0 < w.heap.size := World.block_lt_of_cell? w _ hE
  have HNx := hid (fun x w hT => next_all s x (by omega) w hT)
  have HPv := hid (fun x w hT => prev_all s x (by omega) w hT)
  have HSp := hid (fun w hT => split_as s _ rfl (by omega) w hT)
  have hle := units_le s
  have hlen : s.data.toList.length = s.size := bsize s
  clear hT hE
  go_enter Tryd.func3, Tryd.ntmps3
  go_wp2_with (first
    | (go_at_call 6; refine (first_any _ HT.out).mono ?_; rintro e w1 ⟨rfl, hb1⟩; have HB1 := hid hb1; clear hb1)
    | (go_at_call 7; refine (HSp.out _ (HT.out.later HB1.out)).mono ?_; rintro e w2 ⟨g, cap, rfl, ho, hcap, hg, hgb, hb2⟩; have HO := hid ho; have HB2 := hid (HB1.out.trans (hb2.mono HB1.out.size)); clear ho hb2)
    | fail)
  go_loopw [5, 6] (fun t i wr => ∃ (j : Nat) (pre : List (Int × Nat × Nat)), j ≤ s.size ∧ i = .int .i64 (pre.length : Int) ∧ t = .int .i64 (j : Int) ∧ unitsOf s.data.toList = pre ++ unitsAt s.data.toList j ∧ clean s.data.toList j ∧ Below w2.heap.size w2 wr) (fun t _ _ => s.size - (intOf t).toNat)
  case atStart => exact ⟨0, [], Nat.zero_le _, rfl, rfl, rfl, clean_zero _, Below.refl _ _⟩
  case round =>
    obtain ⟨j, pre, hj, rfl, rfl, hpre, hcl, hbr⟩ := hrel
    have HPre := hid hpre
    have HCl := hid hcl
    have hsr := hbr.size
    clear hpre hcl
    by_cases hlt : j < s.size
    · have hjl : j < s.data.toList.length := by omega
      have hds := drop_size s.data.toList j hjl
      have hun := unitsAt_step s.data.toList j hjl
      have HNa := hid (next_at HCl.out hjl)
      have HPa := hid (prev_at HCl.out hjl)
      have HNo := hid (fun k h1 h2 => none_at (l := s.data.toList) (j := j) (k := k) hjl h1 h2)
      have hpl : pre.length < (unitsOf s.data.toList).length := by rw [HPre.out, hun]; simp
      have hget : (unitsOf s.data.toList)[pre.length]'hpl = ((uniOf (s.data.toList.drop j)).1, j, j + (uniOf (s.data.toList.drop j)).2) := by
        have e := congrArg (·[pre.length]?) HPre.out
        simp only [List.getElem?_eq_getElem hpl, hun] at e
        simpa using e
      obtain ⟨c0, c1, c2⟩ := (HO.out.later hbr).cell3 pre.length hpl
      rw [hget] at c0 c1 c2
      have HNext : Hid (unitsOf s.data.toList = (pre ++ [((uniOf (s.data.toList.drop j)).1, j, j + (uniOf (s.data.toList.drop j)).2)]) ++ unitsAt s.data.toList (j + (uniOf (s.data.toList.drop j)).2)) := by show _ = _; rw [HPre.out, hun]; simp
      have HCn := hid (clean_next HCl.out)
      rw [unitU] at HNa HPa
      have hbd : -1 ≤ (uniOf (s.data.toList.drop j)).1 ∧ (uniOf (s.data.toList.drop j)).1 ≤ 100000000 := by
        have := uni_bound s[j] (s.data.toList.drop (j + 1)); rw [← drop_cons s j hlt] at this; exact this
      have hgs : (∃ q m, goodOf (s.data.toList.drop j) = some (q, m)) ∨ goodOf (s.data.toList.drop j) = none := by
        cases h : goodOf (s.data.toList.drop j) with
        | none => exact .inr rfl
        | some q => exact .inl ⟨q.1, q.2, rfl⟩
      have hpi : (pre.length : Int) < ((unitsOf s.data.toList).length : Int) := by omega
      rcases hgs with ⟨q, m, hgood⟩ | hbad
      · have hu : uniOf (s.data.toList.drop j) = ((q : Int), m) := by rw [uniOf, hgood]
        obtain ⟨hsc, hen⟩ := good_says hgood
        rw [hu] at c0 c1 c2 HNext HCn HNa HPa hds hbd
        have hx : (⟨(encL q).toArray⟩ : ByteArray) = s.extract j (j + m) := by
          apply ByteArray.ext
          apply Array.toList_inj.1
          rw [extract_take, ← hen]
        have HEn : Hid (∀ W : World, W.cell? ⟨0, 0, none⟩ = some (.iface 71 (.pointer (some pe))) → 0 < W.heap.size → Calls Tryd.prog 8 #[.slice (some ⟨W.heap.size, 0, none⟩) 1 1] (W.alloc (.cells #[.int .i64 (q : Int)] 3)) fun e w' => e = .returned (.tuple #[.string (s.extract j (j + m)), .nilIface]) ∧ Below (W.heap.size + 1) (W.alloc (.cells #[.int .i64 (q : Int)] 3)) w') := by
          intro W hW hW2
          have h := encode_any [(q : Int)] (some ⟨W.heap.size, 0, none⟩) 1 pe (by simp) (W.alloc (.cells #[.int .i64 (q : Int)] 3)) (pa_one W (q : Int)) (((alloc_below W _).cell (p := ⟨0, 0, none⟩) hW2).trans hW)
          have ev : encVal [(q : Int)] (.iface 71 (.pointer (some pe))) = .tuple #[.string (s.extract j (j + m)), .nilIface] := by
            rw [encVal, List.all_cons, hsc, ← hx]
            simp [encAll]
          rw [ev, World.size_alloc] at h
          exact h
        have HUv : Hid ((uniOf (s.data.toList.drop j)).2 = m) := by show _ = _; rw [hu]
        have hqp : ¬ (q : Int) = -1 := by omega
        have hqb : ((q : Int) == -1) = false := by simp
        have hm0 : ¬ ((j : Int) + (m : Int) ≤ (j : Int)) := by omega
        have hm1 : ¬ ((s.size : Int) < (j : Int) + (m : Int)) := by omega
        have hm2 : ((j : Int) + (m : Int)).toNat = j + m := by omega
        have hm3 : (j : Int) ≤ (j : Int) + (m : Int) := by omega
        have hm4 : (j : Int) + (m : Int) ≤ (s.size : Int) := by omega
        have hj0 : (0 : Int) ≤ (j : Int) := by omega
        simp only [Int.natCast_add] at c2 HPa
        clear hun hget hu hgood hsc hen hx
        have HBr := hid (HB2.out.trans (hbr.mono HB2.out.size))
        have hEu : (wr.alloc (.cells #[.int .i64 (q : Int), .int .i64 (j : Int), .int .i64 ((j : Int) + (m : Int))] 26)).cell? ⟨0, 0, none⟩ = some (.iface 71 (.pointer (some pe))) := ((HBr.out.alloc HBr.out.size (.cells #[.int .i64 (q : Int), .int .i64 (j : Int), .int .i64 ((j : Int) + (m : Int))] 26)).cell (p := ⟨0, 0, none⟩) hpe).trans HE.out
        have hE0 := HEn.out (wr.alloc (.cells #[.int .i64 (q : Int), .int .i64 (j : Int), .int .i64 ((j : Int) + (m : Int))] 26)) hEu (by have := HBr.out.size; rw [World.size_alloc]; omega)
        rw [World.size_alloc] at hE0
        have HE0 := hid hE0
        clear hE0 hEu HEn
        have HN1 : Hid (∀ W, SeqAt W → Calls Tryd.prog 9 #[.string s, .int .i64 (j : Int)] W fun e w' => e = .returned (.tuple #[.agg #[.int .i64 (q : Int), .int .i64 (j : Int), .int .i64 ((j : Int) + (m : Int))], .bool true]) ∧ Below W.heap.size W w') := by
          intro W hW
          have h := HNx.out (j : Int) W hW
          rw [HNa.out] at h
          simpa [optVal, unitVal] using h
        have HP1 : Hid (∀ W, SeqAt W → Calls Tryd.prog 10 #[.string s, .int .i64 ((j : Int) + (m : Int))] W fun e w' => e = .returned (.tuple #[.agg #[.int .i64 (q : Int), .int .i64 (j : Int), .int .i64 ((j : Int) + (m : Int))], .bool true]) ∧ Below W.heap.size W w') := by
          intro W hW
          have h := HPv.out ((j : Int) + (m : Int)) W hW
          rw [HPa.out] at h
          simpa [optVal, unitVal] using h
        have HT2 := hid (HT.out.later HB2.out)
        go_wp2_with (first
          | (go_at_call 8; refine HE0.out.mono ?_; rintro e w5 ⟨rfl, hb5⟩; have HU5 : Hid (w5.heap[wr.heap.size]? = _) := (hb5.block wr.heap.size (by omega)).trans ((Below.heap_alloc _ _ _ (by simp)).trans (heap_alloc_new wr (.cells #[.int .i64 (q : Int), .int .i64 (j : Int), .int .i64 ((j : Int) + (m : Int))] 26))); have HB5 : Hid (Below w2.heap.size w2 w5) := (((hbr.alloc hbr.size _).alloc (by simp; omega) _)).trans (hb5.mono (by omega)); have h5 := hb5.size; obtain ⟨⟨u0, u1, u2⟩, _⟩ := row3 HU5.out; clear hb5)
          | (go_at_call 9; have hq := HN1.out; clear HN1; refine (hq _ (HT2.out.later HB5.out)).mono ?_; rintro e w6 ⟨rfl, hb6⟩; have HU6 := hid (Own3.later HU5.out hb6); have HB6 := hid (HB5.out.trans (hb6.mono HB5.out.size)); have hU6' := Own3.later HU6.out (alloc_below w6 (.cells #[.int .i64 (q : Int), .int .i64 (j : Int), .int .i64 ((j : Int) + (m : Int))] 26)); obtain ⟨⟨n0, n1, n2⟩, _⟩ := row3 hU6'; have HU6' := hid hU6'; clear hb6 hq u0 u1 u2 hU6')
          | (go_at_call 10; have hq := HP1.out; clear HP1; refine (hq _ (HT2.out.later (HB6.out.alloc HB6.out.size _))).mono ?_; rintro e w7 ⟨rfl, hb7⟩; have HU7 := hid (Own3.later HU6'.out hb7); have HV7 := hid (Own3.later (heap_alloc_new w6 (.cells #[.int .i64 (q : Int), .int .i64 (j : Int), .int .i64 ((j : Int) + (m : Int))] 26)) hb7); have HB7 : Hid (Below w2.heap.size w2 w7) := (HB6.out.alloc HB6.out.size _).trans (hb7.mono (by have := HB6.out.size; rw [World.size_alloc]; omega)); have hU7' := Own3.later HU7.out (alloc_below w7 (.cells #[.int .i64 (q : Int), .int .i64 (j : Int), .int .i64 ((j : Int) + (m : Int))] 26)); have hV7' := Own3.later HV7.out (alloc_below w7 (.cells #[.int .i64 (q : Int), .int .i64 (j : Int), .int .i64 ((j : Int) + (m : Int))] 26)); obtain ⟨⟨t0, t1, t2⟩, _⟩ := row3 hU7'; obtain ⟨⟨z0, z1, z2⟩, _⟩ := row3 hV7'; have HU7' := hid hU7'; clear hb7 hq n0 n1 n2 hU7' hV7')
          | fail)
        have HBx := hid (HB7.out.alloc HB7.out.size (.cells #[.int .i64 (q : Int), .int .i64 (j : Int), .int .i64 ((j : Int) + (m : Int))] 26))
        have HNo1 : Hid (∀ k : Nat, j < k → k < j + m → ∀ W, SeqAt W → Calls Tryd.prog 9 #[.string s, .int .i64 (k : Int)] W fun e w' => e = .returned (.tuple #[.agg #[.int .i64 0, .int .i64 0, .int .i64 0], .bool false]) ∧ Below W.heap.size W w') := by
          intro k h1 h2 W hW
          have h := HNx.out (k : Int) W hW
          rw [(HNo.out k h1 (by rw [HUv.out]; exact h2)).1] at h
          exact h
        have HNo2 : Hid (∀ k : Nat, j < k → k < j + m → ∀ W, SeqAt W → Calls Tryd.prog 10 #[.string s, .int .i64 (k : Int)] W fun e w' => e = .returned (.tuple #[.agg #[.int .i64 0, .int .i64 0, .int .i64 0], .bool false]) ∧ Below W.heap.size W w') := by
          intro k h1 h2 W hW
          have h := HPv.out (k : Int) W hW
          rw [(HNo.out k h1 (by rw [HUv.out]; exact h2)).2] at h
          exact h
        clear t0 t1 t2 z0 z1 z2 HV7 HU7 HU5 HU6 HU6'
        go_loopw [15] (fun i wx => ∃ k : Nat, j < k ∧ k ≤ j + m ∧ i = .int .i64 (k : Int) ∧ wx.heap[wr.heap.size]? = some (.cells #[.int .i64 (q : Int), .int .i64 (j : Int), .int .i64 ((j : Int) + (m : Int))] 26 (0, 0)) ∧ Below w2.heap.size w2 wx) (fun i _ => j + m - (intOf i).toNat)
        case atStart => exact ⟨j + 1, by omega, by omega, by go_num, HU7'.out, HBx.out⟩
        case round =>
          obtain ⟨k, hk1, hk2, rfl, hux, hbx⟩ := hrel
          obtain ⟨⟨_, _, x2⟩, _⟩ := row3 hux
          have HUx := hid hux
          have HBy := hid hbx
          clear hux hbx
          by_cases hkm : k < j + m
          · have hki : (k : Int) < (j : Int) + (m : Int) := by omega
            have HA1 := hid (HNo1.out k hk1 hkm)
            have HA2 := hid (HNo2.out k hk1 hkm)
            go_wp2_with (first
              | (go_at_call 9; refine (HA1.out _ (HT2.out.later HBy.out)).mono ?_; rintro e wy ⟨rfl, hby⟩; have HUy := hid (Own3.later HUx.out hby); have HBz := hid (HBy.out.trans (hby.mono HBy.out.size)); clear hby)
              | (go_at_call 10; refine (HA2.out _ (HT2.out.later (HBz.out.alloc HBz.out.size _))).mono ?_; rintro e wz ⟨rfl, hbz⟩; have HUz := hid (Own3.later (Own3.later HUy.out (alloc_below _ _)) hbz); have HBw : Hid (Below w2.heap.size w2 wz) := (HBz.out.alloc HBz.out.size _).trans (hbz.mono (by have := HBz.out.size; rw [World.size_alloc]; omega)); clear hbz)
              | fail)
            go_roundw
            case rel => exact ⟨k + 1, by omega, by omega, by go_num, Own3.later HUz.out (alloc_below _ _), HBw.out.alloc HBw.out.size _⟩
            case measure => simp [intOf]; omega
          · have hki : ¬ (k : Int) < (j : Int) + (m : Int) := by omega
            go_wp2
            go_roundw
            case rel => exact ⟨j + m, pre ++ [((q : Int), j, j + m)], by omega, by simp, by go_num, HNext.out, HCn.out, HBy.out⟩
            case measure => simp [intOf]; omega
      · have hu : uniOf (s.data.toList.drop j) = ((-1 : Int), 1) := by rw [uniOf, hbad]
        rw [hu] at c0 c1 c2 HNext HCn HNa HPa hds hbd
        have HEn : Hid (∀ W : World, W.cell? ⟨0, 0, none⟩ = some (.iface 71 (.pointer (some pe))) → 0 < W.heap.size → Calls Tryd.prog 8 #[.slice (some ⟨W.heap.size, 0, none⟩) 1 1] (W.alloc (.cells #[.int .i64 (-1 : Int)] 3)) fun e w' => e = .returned (.tuple #[.string ⟨#[]⟩, .iface 71 (.pointer (some pe))]) ∧ Below (W.heap.size + 1) (W.alloc (.cells #[.int .i64 (-1 : Int)] 3)) w') := by
          intro W hW hW2
          have h := encode_any [(-1 : Int)] (some ⟨W.heap.size, 0, none⟩) 1 pe (by simp) (W.alloc (.cells #[.int .i64 (-1 : Int)] 3)) (pa_one W (-1 : Int)) (((alloc_below W _).cell (p := ⟨0, 0, none⟩) hW2).trans hW)
          have ev : encVal [(-1 : Int)] (.iface 71 (.pointer (some pe))) = .tuple #[.string ⟨#[]⟩, .iface 71 (.pointer (some pe))] := by
            rfl
          rw [ev, World.size_alloc] at h
          exact h
        have HUv : Hid ((uniOf (s.data.toList.drop j)).2 = 1) := by show _ = _; rw [hu]
        have hqb : (((j : Int) + 1) == ((j : Int) + 1)) = true := by simp
        have hm0 : ¬ ((j : Int) + 1 ≤ (j : Int)) := by omega
        have hm1 : ¬ ((s.size : Int) < (j : Int) + 1) := by omega
        have hm2 : ((j : Int) + 1).toNat = j + 1 := by omega
        have hm4 : (j : Int) + 1 ≤ (s.size : Int) := by omega
        have hj0 : (0 : Int) ≤ (j : Int) := by omega
        rw [show ((j + 1 : Nat) : Int) = (j : Int) + 1 by omega] at c2 HPa
        clear hun hget hu hbad
        have HBr := hid (HB2.out.trans (hbr.mono HB2.out.size))
        have hEu : (wr.alloc (.cells #[.int .i64 (-1 : Int), .int .i64 (j : Int), .int .i64 ((j : Int) + 1)] 26)).cell? ⟨0, 0, none⟩ = some (.iface 71 (.pointer (some pe))) := ((HBr.out.alloc HBr.out.size (.cells #[.int .i64 (-1 : Int), .int .i64 (j : Int), .int .i64 ((j : Int) + 1)] 26)).cell (p := ⟨0, 0, none⟩) hpe).trans HE.out
        have hE0 := HEn.out (wr.alloc (.cells #[.int .i64 (-1 : Int), .int .i64 (j : Int), .int .i64 ((j : Int) + 1)] 26)) hEu (by have := HBr.out.size; rw [World.size_alloc]; omega)
        rw [World.size_alloc] at hE0
        have HE0 := hid hE0
        clear hE0 hEu HEn
        have HN1 : Hid (∀ W, SeqAt W → Calls Tryd.prog 9 #[.string s, .int .i64 (j : Int)] W fun e w' => e = .returned (.tuple #[.agg #[.int .i64 (-1 : Int), .int .i64 (j : Int), .int .i64 ((j : Int) + 1)], .bool true]) ∧ Below W.heap.size W w') := by
          intro W hW
          have h := HNx.out (j : Int) W hW
          rw [HNa.out] at h
          simpa [optVal, unitVal] using h
        have HP1 : Hid (∀ W, SeqAt W → Calls Tryd.prog 10 #[.string s, .int .i64 ((j : Int) + 1)] W fun e w' => e = .returned (.tuple #[.agg #[.int .i64 (-1 : Int), .int .i64 (j : Int), .int .i64 ((j : Int) + 1)], .bool true]) ∧ Below W.heap.size W w') := by
          intro W hW
          have h := HPv.out ((j : Int) + 1) W hW
          rw [HPa.out] at h
          simpa [optVal, unitVal] using h
        have HT2 := hid (HT.out.later HB2.out)
        go_wp2_with (first
          | (go_at_call 8; refine HE0.out.mono ?_; rintro e w5 ⟨rfl, hb5⟩; have HU5 : Hid (w5.heap[wr.heap.size]? = _) := (hb5.block wr.heap.size (by omega)).trans ((Below.heap_alloc _ _ _ (by simp)).trans (heap_alloc_new wr (.cells #[.int .i64 (-1 : Int), .int .i64 (j : Int), .int .i64 ((j : Int) + 1)] 26))); have HB5 : Hid (Below w2.heap.size w2 w5) := (((hbr.alloc hbr.size _).alloc (by simp; omega) _)).trans (hb5.mono (by omega)); have h5 := hb5.size; obtain ⟨⟨u0, u1, u2⟩, _⟩ := row3 HU5.out; clear hb5)
          | (go_at_call 9; have hq := HN1.out; clear HN1; refine (hq _ (HT2.out.later HB5.out)).mono ?_; rintro e w6 ⟨rfl, hb6⟩; have HU6 := hid (Own3.later HU5.out hb6); have HB6 := hid (HB5.out.trans (hb6.mono HB5.out.size)); have hU6' := Own3.later HU6.out (alloc_below w6 (.cells #[.int .i64 (-1 : Int), .int .i64 (j : Int), .int .i64 ((j : Int) + 1)] 26)); obtain ⟨⟨n0, n1, n2⟩, _⟩ := row3 hU6'; have HU6' := hid hU6'; clear hb6 hq u0 u1 u2 hU6')
          | (go_at_call 10; have hq := HP1.out; clear HP1; refine (hq _ (HT2.out.later (HB6.out.alloc HB6.out.size _))).mono ?_; rintro e w7 ⟨rfl, hb7⟩; have HU7 := hid (Own3.later HU6'.out hb7); have HV7 := hid (Own3.later (heap_alloc_new w6 (.cells #[.int .i64 (-1 : Int), .int .i64 (j : Int), .int .i64 ((j : Int) + 1)] 26)) hb7); have HB7 : Hid (Below w2.heap.size w2 w7) := (HB6.out.alloc HB6.out.size _).trans (hb7.mono (by have := HB6.out.size; rw [World.size_alloc]; omega)); have hU7' := Own3.later HU7.out (alloc_below w7 (.cells #[.int .i64 (-1 : Int), .int .i64 (j : Int), .int .i64 ((j : Int) + 1)] 26)); have hV7' := Own3.later HV7.out (alloc_below w7 (.cells #[.int .i64 (-1 : Int), .int .i64 (j : Int), .int .i64 ((j : Int) + 1)] 26)); obtain ⟨⟨t0, t1, t2⟩, _⟩ := row3 hU7'; obtain ⟨⟨z0, z1, z2⟩, _⟩ := row3 hV7'; have HU7' := hid hU7'; clear hb7 hq n0 n1 n2 hU7' hV7')
          | fail)
        have HBx := hid (HB7.out.alloc HB7.out.size (.cells #[.int .i64 (-1 : Int), .int .i64 (j : Int), .int .i64 ((j : Int) + 1)] 26))
        have HNo1 : Hid (∀ k : Nat, j < k → k < j + 1 → ∀ W, SeqAt W → Calls Tryd.prog 9 #[.string s, .int .i64 (k : Int)] W fun e w' => e = .returned (.tuple #[.agg #[.int .i64 0, .int .i64 0, .int .i64 0], .bool false]) ∧ Below W.heap.size W w') := by
          intro k h1 h2 W hW
          have h := HNx.out (k : Int) W hW
          rw [(HNo.out k h1 (by rw [HUv.out]; exact h2)).1] at h
          exact h
        have HNo2 : Hid (∀ k : Nat, j < k → k < j + 1 → ∀ W, SeqAt W → Calls Tryd.prog 10 #[.string s, .int .i64 (k : Int)] W fun e w' => e = .returned (.tuple #[.agg #[.int .i64 0, .int .i64 0, .int .i64 0], .bool false]) ∧ Below W.heap.size W w') := by
          intro k h1 h2 W hW
          have h := HPv.out (k : Int) W hW
          rw [(HNo.out k h1 (by rw [HUv.out]; exact h2)).2] at h
          exact h
        clear t0 t1 t2 z0 z1 z2 HV7 HU7 HU5 HU6 HU6'
        go_loopw [15] (fun i wx => ∃ k : Nat, j < k ∧ k ≤ j + 1 ∧ i = .int .i64 (k : Int) ∧ wx.heap[wr.heap.size]? = some (.cells #[.int .i64 (-1 : Int), .int .i64 (j : Int), .int .i64 ((j : Int) + 1)] 26 (0, 0)) ∧ Below w2.heap.size w2 wx) (fun i _ => j + 1 - (intOf i).toNat)
        case atStart => exact ⟨j + 1, by omega, by omega, by go_num, HU7'.out, HBx.out⟩
        case round =>
          obtain ⟨k, hk1, hk2, rfl, hux, hbx⟩ := hrel
          obtain ⟨⟨_, _, x2⟩, _⟩ := row3 hux
          have HUx := hid hux
          have HBy := hid hbx
          clear hux hbx
          by_cases hkm : k < j + 1
          · exfalso; omega
          · have hki : ¬ (k : Int) < (j : Int) + 1 := by omega
            go_wp2
            go_roundw
            case rel => exact ⟨j + 1, pre ++ [((-1 : Int), j, j + 1)], by omega, by simp, by go_num, HNext.out, HCn.out, HBy.out⟩
            case measure => simp [intOf]; omega
    · obtain rfl : j = s.size := by omega
      have hne := none_end s.data.toList
      rw [hlen] at hne
      have HZ1 : Hid (∀ W, SeqAt W → Calls Tryd.prog 9 #[.string s, .int .i64 (s.size : Int)] W fun e w' => e = .returned (.tuple #[.agg #[.int .i64 0, .int .i64 0, .int .i64 0], .bool false]) ∧ Below W.heap.size W w') := by
        intro W hW
        have h := HNx.out (s.size : Int) W hW
        rw [hne.1] at h
        exact h
      have HZ2 : Hid (∀ W, SeqAt W → Calls Tryd.prog 10 #[.string s, .int .i64 0] W fun e w' => e = .returned (.tuple #[.agg #[.int .i64 0, .int .i64 0, .int .i64 0], .bool false]) ∧ Below W.heap.size W w') := by
        intro W hW
        have h := HPv.out 0 W hW
        rw [hne.2] at h
        exact h
      have HLp : Hid ((pre.length : Int) = ((unitsOf s.data.toList).length : Int)) := by
        show _ = _
        have e := congrArg List.length HPre.out
        rw [unitsAt_end s.data.toList s.size (by omega), List.append_nil] at e
        omega
      have hpi : ¬ ((pre.length : Int) < ((unitsOf s.data.toList).length : Int)) := by rw [HLp.out]; omega
      have HBr := hid (HB2.out.trans (hbr.mono HB2.out.size))
      clear hne
      go_wp2_with (first
        | (go_at_call 9; refine (HZ1.out _ (HT.out.later HBr.out)).mono ?_; rintro e wy ⟨rfl, hby⟩; have HBz := hid (HBr.out.trans (hby.mono HBr.out.size)); clear hby)
        | (go_at_call 10; refine (HZ2.out _ (HT.out.later (HBz.out.alloc HBz.out.size _))).mono ?_; rintro e wz ⟨rfl, hbz⟩; have HBw : Hid (Below w.heap.size w wz) := (HBz.out.alloc HBz.out.size _).trans (hbz.mono (by have := HBz.out.size; rw [World.size_alloc]; omega)); clear hbz)
        | fail)
      go_ret
      exact ⟨by simp, HBw.out.alloc HBw.out.size _⟩
end Go.Proofs.YtoopigkndomdgabDoor
