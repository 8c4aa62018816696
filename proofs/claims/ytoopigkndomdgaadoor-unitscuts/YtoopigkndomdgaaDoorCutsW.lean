/-
  The walks of caesuraref2.Cut and caesuralaw2.UnitsCuts.
-/
import Derived.Test.YtoopigkndomdgaaDoorRBegW
namespace Go.Proofs.YtoopigkndomdgaaDoor
open Go.RowKit
theorem extract_drop (s : ByteArray) (k : Nat) : (s.extract k s.size).data.toList = s.data.toList.drop k := by
  have h : s.data.toList.length = s.size := bsize s
  rw [ByteArray.data_extract, Array.toList_extract, List.extract_eq_take_drop]
  apply List.take_of_length_le
  rw [List.length_drop, h]
  exact Nat.le_refl _
theorem hid {p : Prop} (h : p) : Hid p := h
set_option maxRecDepth 10000 in
set_option maxHeartbeats 800000 in
theorem refCut_any (s : ByteArray) (hs : s.size ≤ 140737488355328) (w : World) :
    Calls Tryd.prog 13 #[.string s] w fun e w' => e = .returned (.int .i64 (cutOf s.data.toList : Int)) ∧ Below w.heap.size w w' := by
  go_enter Tryd.func13, Tryd.ntmps13
  go_wp2
  go_loopw [3] (fun c wr => Below w.heap.size w wr ∧ ∃ n : Nat, n ≤ 3 ∧ c = .int .i64 (n : Int) ∧ cutOf s.data.toList = cutFrom s.data.toList (min n s.size)) (fun c _ => (intOf c).toNat)
  case atStart => exact ⟨Below.refl _ _, 3, by omega, rfl, by rw [cutOf, bsize]⟩
  case round =>
    obtain ⟨hB, n, hn3, rfl, hc⟩ := hrel
    have HC : Hid (cutOf s.data.toList = cutFrom s.data.toList (min n s.size)) := hc
    clear hc
    by_cases h0 : n = 0
    · subst h0
      go_wp2
      go_ret
      exact ⟨by rw [HC.out, Nat.zero_min]; rfl, hB⟩
    · obtain ⟨m, rfl⟩ : ∃ m, n = m + 1 := ⟨n - 1, by omega⟩
      by_cases hle : m + 1 ≤ s.size
      · rw [Nat.min_eq_left hle] at HC
        have HU : Hid (cutFrom s.data.toList (m + 1) = if beginsL (s.data.toList.drop (s.size - (m + 1))) then m + 1 else cutFrom s.data.toList m) := by show _ = _; rw [cutFrom, bsize]
        have hx := extract_drop s (s.size - (m + 1))
        have hxs : (s.extract (s.size - (m + 1)) s.size).size = m + 1 := by rw [str_eq hx, List.length_drop, bsize]; omega
        have hb := refBegins_any (s.extract (s.size - (m + 1)) s.size) (by omega) (by omega)
        rw [hx, refBegins_eq _ (by rw [List.length_drop, bsize]; omega)] at hb
        have hle' : (m : Int) + 1 ≤ (s.size : Int) := by omega
        cases hq : beginsL (s.data.toList.drop (s.size - (m + 1))) with
        | true =>
          rw [hq] at hb
          have HBg := hid hb
          have HN : Hid (cutOf s.data.toList = m + 1) := by show _ = _; rw [HC.out, HU.out, hq]; rfl
          clear hx hxs hb hq HU HC
          go_wp2_with (go_at_call 25; refine (HBg.out _).mono ?_; rintro e w2 ⟨rfl, hb2⟩)
          go_ret
          exact ⟨by rw [HN.out]; rfl, hB.trans (hb2.mono hB.size)⟩
        | false =>
          rw [hq] at hb
          have HBg := hid hb
          have HN : Hid (cutOf s.data.toList = cutFrom s.data.toList m) := by show _ = _; rw [HC.out, HU.out, hq]; rfl
          clear hx hxs hb hq HU HC
          go_wp2_with (go_at_call 25; refine (HBg.out _).mono ?_; rintro e w2 ⟨rfl, hb2⟩)
          go_roundw
          case rel => exact ⟨hB.trans (hb2.mono hB.size), m, by omega, rfl, by rw [Nat.min_eq_left (by omega)]; exact HN.out⟩
          case measure => simp [intOf]
      · have HN : Hid (cutOf s.data.toList = cutFrom s.data.toList (min m s.size)) := by show _ = _; rw [HC.out, Nat.min_eq_right (by omega), Nat.min_eq_right (by omega)]
        have hle' : ¬ ((m : Int) + 1 ≤ (s.size : Int)) := by omega
        clear HC
        go_wp2
        go_roundw
        case rel => exact ⟨hB, m, by omega, rfl, HN.out⟩
        case measure => simp [intOf]
set_option maxRecDepth 10000 in
set_option maxHeartbeats 800000 in
theorem cuts_walk (s : ByteArray) (hs : s.size ≤ 140737488355328) (w : World) (hT : SeqAt w) :
    Calls Tryd.prog 4 #[.string s] w fun e w' => e = .returned (.bool true) ∧ Below w.heap.size w w' := by
  have HC := hid (cut_any s hs w hT)
  have HR := hid (refCut_any s hs)
  have HB := hid (Below.refl w.heap.size w)
  clear hT
  go_enter Tryd.func4, Tryd.ntmps4
  go_wp2_with (first
    | (go_at_call 10; refine HC.out.mono ?_; rintro e w1 ⟨rfl, hb1⟩)
    | (go_at_call 13; refine (HR.out _).mono ?_; rintro e w2 ⟨rfl, hb2⟩)
    | fail)
  go_ret
  exact ⟨by simp, hb1.trans (hb2.mono hb1.size)⟩
end Go.Proofs.YtoopigkndomdgaaDoor
