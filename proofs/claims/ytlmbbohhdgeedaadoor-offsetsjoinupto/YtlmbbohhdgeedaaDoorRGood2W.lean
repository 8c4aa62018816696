/-
  The walk of caesuraref2.Good.
-/
import Derived.Test.YtlmbbohhdgeedaaDoorRGoodW
import Derived.Deep.RegionHeld3
namespace Go.Proofs.YtlmbbohhdgeedaaDoor
open Go.RowKit
/-- What the bytes behind a lead byte make of its point. -/
def ptL (l : List UInt8) (c0 : Int) : Nat → Int
  | 0 => c0
  | j + 1 => ptL l c0 j * 64 + ((l.getD (j + 1) 0).toNat : Int) - 128
def offL (n : Nat) : Int := if n = 2 then 192 else if n = 3 then 224 else if n = 4 then 240 else 0
/-- The point and the size of the well-formed sequence at the beginning, in the reference's way. -/
def refGood (l : List UInt8) : Option (Nat × Nat) := match l with
  | [] => none
  | a :: _ =>
    if sizeL a.toNat = 0 then none else if l.length < sizeL a.toNat then none
    else if scalarP (ptL l ((a.toNat : Int) - offL (sizeL a.toNat)) (sizeL a.toNat - 1)) = true ∧ encL (ptL l ((a.toNat : Int) - offL (sizeL a.toNat)) (sizeL a.toNat - 1)).toNat = l.take (sizeL a.toNat)
    then some ((ptL l ((a.toNat : Int) - offL (sizeL a.toNat)) (sizeL a.toNat - 1)).toNat, sizeL a.toNat) else none
def goodVal (o : Option (Nat × Nat)) : Value := match o with
  | none => .tuple #[.int .i64 0, .int .i64 0]
  | some (p, n) => .tuple #[.int .i64 p, .int .i64 n]
theorem size_le (c : Nat) : sizeL c ≤ 4 := by unfold sizeL; (repeat' split) <;> omega
theorem pt_bound (l : List UInt8) (c0 : Int) (h0 : -300 ≤ c0) (h1 : c0 ≤ 300) (j : Nat) (hj : j ≤ 3) : -100000000 ≤ ptL l c0 j ∧ ptL l c0 j ≤ 100000000 := by
  have a1 := (l.getD 1 0).toNat_lt
  have a2 := (l.getD 2 0).toNat_lt
  have a3 := (l.getD 3 0).toNat_lt
  obtain rfl | rfl | rfl | rfl : j = 0 ∨ j = 1 ∨ j = 2 ∨ j = 3 := by omega
  all_goals (simp only [ptL, Nat.zero_add, Nat.reduceAdd]; omega)
theorem off_bound (c n : Nat) (hc : c < 256) : -300 ≤ (c : Int) - offL n ∧ (c : Int) - offL n ≤ 300 := by unfold offL; (repeat' split) <;> omega
theorem getD_drop (s : ByteArray) (k j : Nat) (h : k + j < s.size) : (s.data.toList.drop k).getD j 0 = s[k + j] := by
  have h2 : k + j < s.data.toList.length := by simpa using h
  rw [List.getD_eq_getElem?_getD, List.getElem?_drop, List.getElem?_eq_getElem h2]
  rfl
theorem extract_take (s : ByteArray) (k n : Nat) : (s.extract k (k + n)).data.toList = (s.data.toList.drop k).take n := by
  simp [ByteArray.data_extract]
set_option maxRecDepth 10000 in
set_option maxHeartbeats 800000 in
theorem refGood_any (s : ByteArray) (k : Nat) (hk : k < s.size) (hs : s.size ≤ 140737488355328) (w : World) :
    Calls Tryd.prog 50 #[.string s, .int .i64 (k : Int)] w fun e w' => e = .returned (goodVal (refGood (s.data.toList.drop k))) ∧ Below w.heap.size w w' := by
  have HL : Hid (s.data.toList.drop k = s[k] :: s.data.toList.drop (k + 1)) := drop_cons s k hk
  have HLen : Hid ((s.data.toList.drop k).length = s.size - k) := by show _ = _; rw [List.length_drop, bsize]
  obtain ⟨n, hn⟩ : ∃ n, n = sizeL s[k].toNat := ⟨_, rfl⟩
  have hsz := fun w => refSize_any s[k] w
  rw [← hn] at hsz
  have hn4 := size_le s[k].toNat
  rw [← hn] at hn4
  by_cases h0 : n = 0
  · have HG : Hid (goodVal (refGood (s.data.toList.drop k)) = .tuple #[.int .i64 0, .int .i64 0]) := by show _ = _; rw [HL.out, refGood, if_pos (by rw [← hn]; exact h0)]; rfl
    clear hn
    subst h0
    clear HL HLen
    go_enter Tryd.func50, Tryd.ntmps50
    go_wp2_with (go_at_call 57; refine (hsz _).mono ?_; rintro e w' ⟨rfl, rfl⟩)
    go_ret2
    exact ⟨by rw [HG.out]; rfl, Below.refl _ _⟩
  · by_cases h1 : s.size < k + n
    · have HG : Hid (goodVal (refGood (s.data.toList.drop k)) = .tuple #[.int .i64 0, .int .i64 0]) := by
        show _ = _
        rw [HL.out, refGood, ← hn, if_neg h0, ← HL.out, HLen.out, if_pos (by omega)]; rfl
      clear HL HLen hn
      go_enter Tryd.func50, Tryd.ntmps50
      go_wp2_with (go_at_call 57; refine (hsz _).mono ?_; rintro e w' ⟨rfl, rfl⟩)
      go_ret2
      exact ⟨by rw [HG.out]; rfl, Below.refl _ _⟩
    · obtain ⟨l, hl⟩ : ∃ l, l = s.data.toList.drop k := ⟨_, rfl⟩
      obtain ⟨c0, hc0⟩ : ∃ c0 : Int, c0 = (s[k].toNat : Int) - offL n := ⟨_, rfl⟩
      have HG : Hid (goodVal (refGood (s.data.toList.drop k)) = goodVal (if scalarP (ptL l c0 (n - 1)) = true ∧ encL (ptL l c0 (n - 1)).toNat = l.take n then some ((ptL l c0 (n - 1)).toNat, n) else none)) := by
        show _ = _
        rw [HL.out, refGood, ← hn, if_neg h0, ← HL.out, HLen.out, if_neg (by omega), hc0, hl]
      have hld := fun w => refLead_any s[k] n (by omega) w
      have hob := off_bound s[k].toNat n s[k].toNat_lt
      have e0 : (s[k].toNat : Int) - (if n = 2 then 192 else if n = 3 then 224 else if n = 4 then 240 else 0) = c0 := hc0.symm
      rw [← hc0] at hob
      simp only [e0] at hld
      have HA : Hid (∀ j, (h : k + j < s.size) → l.getD j 0 = s[k + j]) := fun j hj => by rw [hl]; exact getD_drop s k j hj
      have HX : Hid ((s.extract k (k + n)).data.toList = l.take n) := by show _ = _; rw [hl]; exact extract_take s k n
      have hz : ((n : Int) == 0) = false := by simp; omega
      have hd : ¬ ((s.size : Int) < (k : Int) + (n : Int)) := by omega
      clear HL HLen hn e0 hc0 hl
      go_enter Tryd.func50, Tryd.ntmps50
      go_wp2_with (first
        | (go_at_call 57; refine (hsz _).mono ?_; rintro e w' ⟨rfl, rfl⟩)
        | (go_at_call 58; refine (hld _).mono ?_; rintro e w' ⟨rfl, rfl⟩)
        | fail)

      go_loop [7, 8] (fun p i => ∃ j : Nat, j + 1 ≤ n ∧ i = .int .i64 ((j : Int) + 1) ∧ p = .int .i64 (ptL l c0 j)) (fun _ i => 4 - (intOf i).toNat)
      case atStart => exact ⟨0, by omega, rfl, rfl⟩
      case round =>
        obtain ⟨j, hj, rfl, rfl⟩ := hrel
        by_cases hlt : j + 1 < n
        · have hb1 := pt_bound l c0 hob.1 hob.2 j (by omega)
          have HP : Hid (ptL l c0 (j + 1) = ptL l c0 j * 64 + (s[k + (j + 1)].toNat : Int) - 128) := by
            show _ = _
            rw [ptL, HA.out (j + 1) (by omega)]
          have hb2 := s[k + (j + 1)].toNat_lt
          clear HA HX HG hsz hld
          generalize ptL l c0 j = q at *
          go_wp2
          go_round
          case rel => exact ⟨j + 1, by omega, by go_num, by rw [HP.out]⟩
          case measure => simp [intOf]; omega
        · obtain rfl : n = j + 1 := by omega
          have e1 : j + 1 - 1 = j := by omega
          rw [e1] at HG
          have hb1 := pt_bound l c0 hob.1 hob.2 j (by omega)
          clear e1 hsz hld hob
          generalize ptL l c0 j = q at *
          have hsc := fun w => refScalar_any q w
          cases hq : scalarP q with
          | false =>
            rw [hq] at HG hsc
            have HN : Hid (goodVal (refGood (s.data.toList.drop k)) = .tuple #[.int .i64 0, .int .i64 0]) := by show _ = _; rw [HG.out, if_neg (by simp)]; rfl
            clear HG HX HA hq
            go_wp2_with (go_at_call 59; refine (hsc _).mono ?_; rintro e w1 ⟨rfl, rfl⟩)
            go_region
            all_goals go_wp2
            all_goals
              go_ret2
              exact ⟨by rw [HN.out]; rfl, by go_grown⟩
          | true =>
            have hq0 : 0 ≤ q ∧ q ≤ 1114111 := by
              simp only [scalarP, Bool.and_eq_true, decide_eq_true_eq] at hq
              exact hq.1
            obtain ⟨m, rfl⟩ : ∃ m : Nat, q = (m : Int) := ⟨q.toNat, by omega⟩
            rw [hq] at HG hsc
            have hone := fun w => refOne_any m w (by omega)
            by_cases he : (⟨(encL m).toArray⟩ : ByteArray) = s.extract k (k + (j + 1))
            · have HN : Hid (goodVal (refGood (s.data.toList.drop k)) = .tuple #[.int .i64 (m : Int), .int .i64 ((j + 1 : Nat) : Int)]) := by
                show _ = _
                rw [HG.out, if_pos ⟨rfl, by rw [← HX.out, ← he]; rfl⟩]; rfl
              clear HG HX HA hq
              go_wp2_with (go_at_call 59; refine (hsc _).mono ?_; rintro e w1 ⟨rfl, rfl⟩)
              have hd0 : (0 : Int) ≤ (k : Int) := by omega
              have hd1 : (k : Int) ≤ (k : Int) + ((j : Int) + 1) := by omega
              have hd2 : (k : Int) + ((j : Int) + 1) ≤ (s.size : Int) := by omega
              have hd3 : (0 : Int) ≤ (k : Int) + ((j : Int) + 1) := by omega
              have hw0 : IntKind.i64.wrap ((k : Int) + ((j : Int) + 1)) = (k : Int) + ((j : Int) + 1) := IntWalk.i64_in _ (by omega)
              have hw1 : wrap64 ((k : Int) + ((j : Int) + 1)) = (k : Int) + ((j : Int) + 1) := IntWalk.wrap64_in _ (by omega)
              have hd4 : ((k : Int) + ((j : Int) + 1)).toNat = k + (j + 1) := by omega
              go_region_held3 (fun _ => True) (trivial) ((first | (go_at_call 60; refine (hone _).mono ?_; rintro e w2 ⟨rfl, hB⟩)))
              all_goals go_wp2
              all_goals
                go_ret2
                exact ⟨by rw [HN.out]; rfl, by first | exact hB | exact ((Below.refl _ _).drew).trans hB | trace_state⟩
            · have HN : Hid (goodVal (refGood (s.data.toList.drop k)) = .tuple #[.int .i64 0, .int .i64 0]) := by
                show _ = _
                rw [HG.out, if_neg (fun h => he (by
                  have h2 := h.2
                  rw [← HX.out] at h2
                  apply ByteArray.ext
                  apply Array.toList_inj.1
                  exact h2))]; rfl
              have hne : (encL m == (s.extract k (k + (j + 1))).toList) = false := by
                rw [beq_eq_false_iff_ne]
                intro h2
                rw [ByteArray.toList_eq] at h2
                exact he (ByteArray.ext (Array.toList_inj.1 h2))
              clear HG HX HA hq
              go_wp2_with (go_at_call 59; refine (hsc _).mono ?_; rintro e w1 ⟨rfl, rfl⟩)
              have hd0 : (0 : Int) ≤ (k : Int) := by omega
              have hd1 : (k : Int) ≤ (k : Int) + ((j : Int) + 1) := by omega
              have hd2 : (k : Int) + ((j : Int) + 1) ≤ (s.size : Int) := by omega
              have hd3 : (0 : Int) ≤ (k : Int) + ((j : Int) + 1) := by omega
              have hw0 : IntKind.i64.wrap ((k : Int) + ((j : Int) + 1)) = (k : Int) + ((j : Int) + 1) := IntWalk.i64_in _ (by omega)
              have hw1 : wrap64 ((k : Int) + ((j : Int) + 1)) = (k : Int) + ((j : Int) + 1) := IntWalk.wrap64_in _ (by omega)
              have hd4 : ((k : Int) + ((j : Int) + 1)).toNat = k + (j + 1) := by omega
              go_region_held3 (fun _ => True) (trivial) ((first | (go_at_call 60; refine (hone _).mono ?_; rintro e w2 ⟨rfl, hB⟩)))
              all_goals go_wp2
              all_goals
                go_ret2
                exact ⟨by rw [HN.out]; rfl, by first | exact hB | exact ((Below.refl _ _).drew).trans hB | trace_state⟩
end Go.Proofs.YtlmbbohhdgeedaaDoor
