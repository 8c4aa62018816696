/-
  The walk of caesuralaw2.UnitsHeld.
-/
import Derived.Test.YtoopigkndomdgaaDoorFirstW
import Derived.Test.YtoopigkndomdgaaDoorHeldM
import Derived.Deep.QuietTactic
import Derived.BigQuiet
namespace Go.Proofs.YtoopigkndomdgaaDoor
open Go.RowKit
def endCells : Array Value := #[.string ⟨#[128]⟩, .string ⟨#[144]⟩, .string ⟨#[160]⟩, .string ⟨#[128, 128]⟩, .string ⟨#[144, 128]⟩, .string ⟨#[160, 128]⟩, .string ⟨#[128, 128, 128]⟩, .string ⟨#[144, 128, 128]⟩]
theorem end_cell (k : Nat) (hk : k < 8) : ∃ e : List UInt8, endsL[k]? = some e ∧ endCells[k]? = some (.string ⟨e.toArray⟩) ∧ e.length ≤ 3 := by
  obtain rfl | rfl | rfl | rfl | rfl | rfl | rfl | rfl : k = 0 ∨ k = 1 ∨ k = 2 ∨ k = 3 ∨ k = 4 ∨ k = 5 ∨ k = 6 ∨ k = 7 := by omega
  all_goals exact ⟨_, rfl, rfl, by decide⟩
theorem any_step (l : List (List UInt8)) (f : List UInt8 → Bool) (k : Nat) (e : List UInt8) (h : l[k]? = some e) : (l.take (k + 1)).any f = ((l.take k).any f || f e) := by
  obtain ⟨hk, he⟩ := List.getElem?_eq_some_iff.1 h
  rw [List.take_succ_eq_append_getElem hk, he, List.any_append]
  simp
/-- What Next answers at the place that Cut tells. -/
theorem next_held (A : ByteArray) (e : List UInt8) (hA : A.size ≤ 1048576) (he : e.length ≤ 3) (hc : cutOf A.data.toList ≠ 0) : ∃ (p : Int) (m : Nat), m ≤ 4 ∧ -1 ≤ p ∧ p ≤ 100000000 ∧ (∀ w, SeqAt w → Calls Tryd.prog 14 #[.string (A ++ ⟨e.toArray⟩), .int .i64 ((A.size : Int) - (cutOf A.data.toList : Int))] w fun r w' => r = .returned (.tuple #[.agg #[.int .i64 p, .int .i64 ((A.size : Int) - (cutOf A.data.toList : Int)), .int .i64 ((A.size : Int) - (cutOf A.data.toList : Int) + (m : Int))], .bool true]) ∧ Below w.heap.size w w') ∧
    endTest A.data.toList e = (p != -1 && ((A.size : Int) - (cutOf A.data.toList : Int) + (m : Int) == (A.size : Int) + (e.length : Int))) := by
  have hcl := cutOf_le A.data.toList
  rw [bsize] at hcl
  have hal : (A ++ ⟨e.toArray⟩ : ByteArray).data.toList = A.data.toList ++ e := by rw [app_list]
  have hsz : (A ++ ⟨e.toArray⟩ : ByteArray).size = A.size + e.length := by rw [str_size hal, List.length_append, bsize]
  have hz : ((A.size - cutOf A.data.toList : Nat) : Int) = (A.size : Int) - (cutOf A.data.toList : Int) := by omega
  have hedge := cut_edge A.data.toList e
  rw [bsize] at hedge
  have hnx := fun w hT => next_in (A ++ ⟨e.toArray⟩) (A.size - cutOf A.data.toList) (by omega) (by omega) w hT
  rw [hal, nextVal, hedge, if_pos rfl, unitVal] at hnx
  obtain ⟨a, r, hd⟩ : ∃ a r, (A.data.toList ++ e).drop (A.size - cutOf A.data.toList) = a :: r := by
    cases h : (A.data.toList ++ e).drop (A.size - cutOf A.data.toList) with
    | nil => have := congrArg List.length h; rw [List.length_drop, List.length_append, bsize] at this; simp at this; omega
    | cons a r => exact ⟨a, r, rfl⟩
  have hus := uni_size a r
  have hub := uni_bound a r
  rw [← hd] at hus hub
  refine ⟨(uniOf ((A.data.toList ++ e).drop (A.size - cutOf A.data.toList))).1, (uniOf ((A.data.toList ++ e).drop (A.size - cutOf A.data.toList))).2, hus.2.2, hub.1, hub.2, fun w hT => ?_, ?_⟩
  · have := hnx w hT
    simp only [Int.natCast_add, hz] at this
    exact this
  · rw [endTest, bsize, uniOf]
    cases hg : goodOf ((A.data.toList ++ e).drop (A.size - cutOf A.data.toList)) with
    | none => rfl
    | some q =>
      obtain ⟨p, m⟩ := q
      have e1 : ((p : Int) != -1) = true := by simp
      simp only [e1, Bool.true_and]
      rw [Bool.eq_iff_iff, beq_iff_eq, beq_iff_eq]
      omega
set_option maxRecDepth 10000 in
set_option maxHeartbeats 1600000 in
theorem held_walk (A : ByteArray) (hs : A.size ≤ 1048576) (w : World) (hT : SeqAt w) :
    Calls Tryd.prog 5 #[.string A] w fun e w' => e = .returned (.bool true) ∧ Below w.heap.size w w' := by
  have hc := cutOf_le A.data.toList
  rw [bsize] at hc
  have hcut := cut_any A (by omega) w hT
  have HT := hid hT
  by_cases h0 : cutOf A.data.toList = 0
  · rw [h0] at hcut
    have HC := hid hcut
    clear hcut hT
    go_enter Tryd.func5, Tryd.ntmps5
    go_wp2_with (first
      | (go_at_call 10; refine HC.out.mono ?_; rintro e w1 ⟨rfl, hb1⟩)
      | (go_at_call 9; refine (first_any _ (HT.out.later hb1)).mono ?_; rintro e w2 ⟨rfl, hb2⟩)
      | fail)
    go_ret
    exact ⟨rfl, hb1.trans (hb2.mono hb1.size)⟩
  · have HF := hid (held_found A.data.toList h0)
    have HNx := hid (fun e he => next_held A e hs he h0)
    have hE := units_end A.data.toList
    rw [bsize] at hE
    have hle := units_le A
    generalize cutOf A.data.toList = c at *
    have HS := hid (split_as A _ rfl (by omega))
    rw [hE] at HS
    rw [hE] at hle
    have hlen : (unitsOf (A.data.toList.take (A.size - c)) ++ badU (A.size - c) c).length = (unitsOf (A.data.toList.take (A.size - c))).length + c := by rw [List.length_append, badU_length]
    rw [hlen] at HS hle
    generalize unitsOf (A.data.toList.take (A.size - c)) = H at *
    have HC := hid hcut
    have i1 : ¬ ((c : Int) < 0) := by omega
    have i2 : ¬ ((A.size : Int) < (c : Int)) := by omega
    have i3 : ¬ (A.size < c) := by omega
    have i4 : ((c : Int) == 0) = false := by simpa using h0
    have i5 : (0 : Int) ≤ (c : Int) := by omega
    have i6 : (c : Int) ≤ (A.size : Int) := by omega
    have i7 : ¬ ((H.length : Int) + (c : Int) < (c : Int)) := by omega
    clear hcut hT hE hlen
    go_enter Tryd.func5, Tryd.ntmps5
    go_wp2_with (first
      | (go_at_call 10; refine HC.out.mono ?_; rintro e w1 ⟨rfl, hb1⟩)
      | (go_at_call 9; refine (first_any _ (HT.out.later hb1)).mono ?_; rintro e w2 ⟨rfl, hb2⟩)
      | fail)
    have HB2 := hid (hb1.trans (hb2.mono hb1.size))
    have HE := hid (heap_alloc_new w2 (.cells endCells 9))
    have hbA := (hid (HB2.out.alloc HB2.out.size (.cells endCells 9)))
    clear hb1 hb2
    go_loopw [7, 8] (fun f i wr => ∃ k : Nat, k ≤ 8 ∧ i = .int .i64 (k : Int) ∧ f = .bool ((endsL.take k).any (endTest A.data.toList)) ∧ wr.heap[w2.heap.size]? = some (.cells endCells 9 (0, 0)) ∧ Below w.heap.size w wr) (fun _ i _ => 8 - (intOf i).toNat)
    case atStart => exact ⟨0, by omega, rfl, rfl, HE.out, hbA.out⟩
    case round =>
      clear hbA HE
      obtain ⟨k, hk, rfl, rfl, hrow, hB⟩ := hrel
      have HR := hid hrow
      by_cases hk8 : k < 8
      · obtain ⟨e, he1, he2, he3⟩ := end_cell k hk8
        obtain ⟨p, m, hm4, hp1, hp2, hnx, het⟩ := HNx.out e he3
        have hcell : wr.cell? ⟨w2.heap.size, k, none⟩ = some (.string ⟨e.toArray⟩) := by rw [cell_of_row wr _ _ _ _ _ hrow]; exact he2
        have HA := hid (any_step endsL (endTest A.data.toList) k e he1)
        rw [het] at HA
        have HN := hid hnx
        have hesz : (⟨e.toArray⟩ : ByteArray).size = e.length := by simp [ByteArray.size]
        clear hnx het he1 he2 hrow
        generalize (endsL.take k).any (endTest A.data.toList) = b at *
        go_wp2_with (go_at_call 14; refine (HN.out _ (HT.out.later hB)).mono ?_; rintro r w3 ⟨rfl, hb3⟩)
        have HW := hid (hb3.alloc hb3.size (.cells #[.int .i64 p, .int .i64 ((A.size : Int) - (c : Int)), .int .i64 ((A.size : Int) - (c : Int) + (m : Int))] 30))
        have hcell' : (w3.alloc (.cells #[.int .i64 p, .int .i64 ((A.size : Int) - (c : Int)), .int .i64 ((A.size : Int) - (c : Int) + (m : Int))] 30)).cell? ⟨w2.heap.size, k, none⟩ = some (.string ⟨e.toArray⟩) := (HW.out.cell (p := ⟨w2.heap.size, k, none⟩) (Array.getElem?_eq_some_iff.1 HR.out).1).trans hcell
        clear hb3 hcell
        cases b with
        | true =>
          go_quiet ((fail))
          go_wp2
          go_roundw
          case rel => exact ⟨k + 1, by omega, by go_num, by rw [HA.out]; simp [], (HW.out.block _ (by have := (Array.getElem?_eq_some_iff.1 HR.out).1; omega)).trans HR.out, below_drewN (hB.trans (HW.out.mono hB.size)) _⟩
          case measure => simp [intOf]; omega
        | false =>
          by_cases hp : p = -1
          · subst hp
            go_quiet ((fail))
            go_wp2
            go_roundw
            case rel => exact ⟨k + 1, by omega, by go_num, by rw [HA.out]; simp [], (HW.out.block _ (by have := (Array.getElem?_eq_some_iff.1 HR.out).1; omega)).trans HR.out, below_drewN (hB.trans (HW.out.mono hB.size)) _⟩
            case measure => simp [intOf]; omega
          · have hpn : (p != -1) = true := by simpa using hp
            have hpn2 : ¬ p = -1 := hp
            by_cases hq : (A.size : Int) - (c : Int) + (m : Int) = (A.size : Int) + (e.length : Int)
            · have hqb : (((A.size : Int) - (c : Int) + (m : Int)) == ((A.size : Int) + (e.length : Int))) = true := by simpa using hq
              rw [hpn, hqb] at HA
              clear hq
              go_quiet ((fail))
              go_wp2
              go_roundw
              case rel => exact ⟨k + 1, by omega, by go_num, by rw [HA.out]; simp [], (HW.out.block _ (by have := (Array.getElem?_eq_some_iff.1 HR.out).1; omega)).trans HR.out, below_drewN (hB.trans (HW.out.mono hB.size)) _⟩
              case measure => simp [intOf]; omega
            · have hqb : (((A.size : Int) - (c : Int) + (m : Int)) == ((A.size : Int) + (e.length : Int))) = false := by simpa using hq
              rw [hpn, hqb] at HA
              clear hq
              go_quiet ((fail))
              go_wp2
              go_roundw
              case rel => exact ⟨k + 1, by omega, by go_num, by rw [HA.out]; simp [], (HW.out.block _ (by have := (Array.getElem?_eq_some_iff.1 HR.out).1; omega)).trans HR.out, below_drewN (hB.trans (HW.out.mono hB.size)) _⟩
              case measure => simp [intOf]; omega
      · obtain rfl : k = 8 := by omega
        have HX : Hid ((endsL.take 8).any (endTest A.data.toList) = true) := by show _ = _; rw [List.take_of_length_le (by decide)]; exact HF.out
        rw [HX.out]
        have HBr := hid hB
        clear HX HF HNx hrow HR
        go_wp2_with (go_at_call 11; refine (HS.out _ (HT.out.later HBr.out)).mono ?_; rintro e w4 ⟨g, cap, rfl, ho, hcap, hg, hgb, hb4⟩; have HO := hid ho; have HB4 := hid (HBr.out.trans (hb4.mono HBr.out.size)); clear ho hb4)
        go_loopw [12] (fun i wr => ∃ j q : Nat, j ≤ c ∧ i = .int .i64 (j : Int) ∧ wr = w4.drewN q) (fun i _ => c - (intOf i).toNat)
        case atStart => exact ⟨0, 0, Nat.zero_le _, rfl, rfl⟩
        case round =>
          obtain ⟨j, q, hj, rfl, rfl⟩ := hrel
          by_cases hjc : j < c
          · have hx : H.length + c - 1 - j < (H ++ badU (A.size - c) c).length := by rw [List.length_append, badU_length]; omega
            have c0 := (HO.out.cell3 (H.length + c - 1 - j) hx).1
            have hbad : (H ++ badU (A.size - c) c)[H.length + c - 1 - j].1 = -1 := by
              rw [List.getElem_append_right (by omega)]
              exact badU_bad _ _ _ (List.getElem_mem _)
            rw [hbad] at c0
            have hqe : (H.length : Int) + (c : Int) - 1 - (j : Int) = ((H.length + c - 1 - j : Nat) : Int) := by omega
            generalize hr : H.length + c - 1 - j = r at *
            have hri : (r : Int) < (H.length : Int) + (c : Int) := by omega
            have hji : (j : Int) < (c : Int) := by omega
            clear hx hbad
            go_wp2
            go_roundw
            case rel => exact ⟨j + 1, q, by omega, by go_num, rfl⟩
            case measure => simp [intOf]; omega
          · have hji : ¬ (j : Int) < (c : Int) := by omega
            go_wp2
            go_ret
            exact ⟨rfl, below_drewN HB4.out _⟩
end Go.Proofs.YtoopigkndomdgaaDoor
