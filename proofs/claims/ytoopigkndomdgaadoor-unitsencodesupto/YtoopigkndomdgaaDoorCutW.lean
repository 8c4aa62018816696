/-
  The walk of units.Cut.
-/
import Derived.Test.YtoopigkndomdgaaDoorBegunW
namespace Go.Proofs.YtoopigkndomdgaaDoor
open Go.RowKit
/-- Is it the beginning of a longer sequence? -/
def beginsL (l : List UInt8) : Bool := match begunOf l with
  | none => false
  | some (i, f) => f == l.length && decide (l.length < tSz i)
def cutFrom (l : List UInt8) : Nat → Nat
  | 0 => 0
  | n + 1 => if beginsL (l.drop (l.length - (n + 1))) then n + 1 else cutFrom l n
def cutOf (l : List UInt8) : Nat := cutFrom l (min 3 l.length)
theorem bsize (s : ByteArray) : s.data.toList.length = s.size := by simp
set_option maxRecDepth 10000 in
set_option maxHeartbeats 800000 in
theorem cut_any (s : ByteArray) (hs : s.size ≤ 140737488355328) (w : World) (hT : SeqAt w) :
    Calls Tryd.prog 10 #[.string s] w fun e w' => e = .returned (.int .i64 (cutOf s.data.toList : Int)) ∧ Below w.heap.size w w' := by
  have HT : Hid (SeqAt w) := hT
  clear hT
  have hmin : ∀ ts t w, (Builtin.min_ ts t #[.int .i64 3, .int .i64 (s.size : Int)]).run Tryd.prog w = .ok (.int .i64 ((min 3 s.size : Nat) : Int)) w := fun ts t w => by
    rw [run_min_int2]; split <;> (congr 2; omega)
  go_enter Tryd.func10, Tryd.ntmps10
  go_wp2
  clear hmin
  go_loopw [3] (fun c wr => Below w.heap.size w wr ∧ ∃ n : Nat, n ≤ 3 ∧ n ≤ s.size ∧ c = .int .i64 (n : Int) ∧ cutOf s.data.toList = cutFrom s.data.toList n) (fun c _ => (intOf c).toNat)
  case atStart => exact ⟨Below.refl _ _, min 3 s.size, by omega, by omega, rfl, by rw [cutOf, bsize]⟩
  case round =>
    obtain ⟨hB, n, hn3, hns, rfl, hc⟩ := hrel
    have HC : Hid (cutOf s.data.toList = cutFrom s.data.toList n) := hc
    clear hc
    by_cases h0 : n = 0
    · subst h0
      go_wp2
      go_ret
      exact ⟨by rw [HC.out]; rfl, hB⟩
    · obtain ⟨m, rfl⟩ : ∃ m, n = m + 1 := ⟨n - 1, by omega⟩
      have HU : Hid (cutFrom s.data.toList (m + 1) = if beginsL (s.data.toList.drop (s.size - (m + 1))) then m + 1 else cutFrom s.data.toList m) := by show _ = _; rw [cutFrom, bsize]
      have hm := begun_any s (s.size - (m + 1)) (by omega) hs wr (HT.out.later hB)
      have e : ((s.size - (m + 1) : Nat) : Int) = (s.size : Int) - ((m : Int) + 1) := by omega
      rw [e] at hm
      have HL : Hid ((s.data.toList.drop (s.size - (m + 1))).length = m + 1) := by show _ = _; rw [List.length_drop, bsize]; omega
      clear e
      cases hb : begunOf (s.data.toList.drop (s.size - (m + 1))) with
      | none =>
        rw [begunVal, hb] at hm
        have HN : Hid (cutOf s.data.toList = cutFrom s.data.toList m) := by show _ = _; rw [HC.out, HU.out, beginsL, hb]; rfl
        clear hb HU HC
        go_wp2_with (go_at_call 22; refine hm.mono ?_; rintro e w' ⟨rfl, hb⟩; have hB2 := hB.trans (hb.mono hB.size); simp only [noRow])
        go_roundw
        case rel => exact ⟨hB2.alloc hB2.size _, m, by omega, by omega, by go_num, HN.out⟩
        case measure => simp [intOf]
      | some q =>
        obtain ⟨i, f⟩ := q
        rw [begunVal, hb] at hm
        by_cases h1 : f = m + 1
        · by_cases h2 : m + 1 < tSz i
          · have HN : Hid (cutOf s.data.toList = m + 1) := by show _ = _; rw [HC.out, HU.out, beginsL, hb]; simp [h1, h2, HL.out]
            clear hb HU HC HL
            go_wp2_with (go_at_call 22; refine hm.mono ?_; rintro e w' ⟨rfl, hb⟩; have hB2 := hB.trans (hb.mono hB.size); simp only [rowVal])
            go_ret
            exact ⟨by rw [HN.out]; rfl, hB2.alloc hB2.size _⟩
          · have HN : Hid (cutOf s.data.toList = cutFrom s.data.toList m) := by show _ = _; rw [HC.out, HU.out, beginsL, hb]; simp [h2, HL.out]
            clear hb HU HC HL
            go_wp2_with (go_at_call 22; refine hm.mono ?_; rintro e w' ⟨rfl, hb⟩; have hB2 := hB.trans (hb.mono hB.size); simp only [rowVal])
            go_roundw
            case rel => exact ⟨hB2.alloc hB2.size _, m, by omega, by omega, by go_num, HN.out⟩
            case measure => simp [intOf]
        · have HN : Hid (cutOf s.data.toList = cutFrom s.data.toList m) := by show _ = _; rw [HC.out, HU.out, beginsL, hb]; simp [h1, HL.out]
          clear hb HU HC HL
          go_wp2_with (go_at_call 22; refine hm.mono ?_; rintro e w' ⟨rfl, hb⟩; have hB2 := hB.trans (hb.mono hB.size); simp only [rowVal])
          go_roundw
          case rel => exact ⟨hB2.alloc hB2.size _, m, by omega, by omega, by go_num, HN.out⟩
          case measure => simp [intOf]
end Go.Proofs.YtoopigkndomdgaaDoor
