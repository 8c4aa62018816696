/-
  The walks of units.wholeSize, units.isEdge, units.Next.
-/
import Derived.Test.YtlmbbohhdgeedaaDoorUListW
namespace Go.Proofs.YtlmbbohhdgeedaaDoor
open Go.RowKit
/-- How many bytes the well-formed sequence at the beginning has; 0: there is none. -/
def wszOf (l : List UInt8) : Nat := match goodOf l with
  | none => 0
  | some (_, m) => m
set_option maxRecDepth 10000 in
set_option maxHeartbeats 400000 in
theorem whole_any (s : ByteArray) (k : Nat) (hk : k < s.size) (hs : s.size ≤ 140737488355328) (w : World) (hT : SeqAt w) :
    Calls Tryd.prog 61 #[.string s, .int .i64 (k : Int)] w fun e w' => e = .returned (.int .i64 (wszOf (s.data.toList.drop k) : Int)) ∧ Below w.heap.size w w' := by
  have hm := begun_any s k hk hs w hT
  have hl := drop_cons s k hk
  clear hT
  cases hr : rowOf s[k].toNat with
  | none =>
    have HG : Hid (wszOf (s.data.toList.drop k) = 0) := by show _ = _; rw [hl, wszOf, good_none hr]
    rw [hl, begunVal, begun_none hr] at hm
    have HM := hid hm
    clear hl hr hm
    go_enter Tryd.func61, Tryd.ntmps61
    go_wp2_with (go_at_call 55; refine HM.out.mono ?_; rintro e w' ⟨rfl, hb⟩; simp only [noRow])
    go_ret
    exact ⟨by rw [HG.out]; rfl, hb.alloc hb.size _⟩
  | some i =>
    have hi9 := rowOf_lt hr
    have hsz4 := sz_pos i hi9
    obtain ⟨hl0, hl1, hl2, hl3, hl4, hl5⟩ := tab_lt i hi9
    rw [hl, begunVal, begun_some hr] at hm
    by_cases hf : fits (tLo2 i) (tHi2 i) (tSz i - 1) (s.data.toList.drop (k + 1)) + 1 < tSz i
    · have HG : Hid (wszOf (s.data.toList.drop k) = 0) := by show _ = _; rw [hl, wszOf, good_some hr, if_pos hf]
      generalize fits (tLo2 i) (tHi2 i) (tSz i - 1) (s.data.toList.drop (k + 1)) = f at *
      have HM := hid hm
      have hf2 : (f : Int) + 1 < (tSz i : Int) := by omega
      clear hl hr hm
      go_enter Tryd.func61, Tryd.ntmps61
      go_wp2_with (go_at_call 55; refine HM.out.mono ?_; rintro e w' ⟨rfl, hb⟩; simp only [rowVal])
      go_ret
      exact ⟨by rw [HG.out]; rfl, hb.alloc hb.size _⟩
    · have HG : Hid (wszOf (s.data.toList.drop k) = tSz i) := by show _ = _; rw [hl, wszOf, good_some hr, if_neg hf]
      generalize fits (tLo2 i) (tHi2 i) (tSz i - 1) (s.data.toList.drop (k + 1)) = f at *
      have HM := hid hm
      have hf2 : ¬ (f : Int) + 1 < (tSz i : Int) := by omega
      clear hl hr hm
      go_enter Tryd.func61, Tryd.ntmps61
      go_wp2_with (go_at_call 55; refine HM.out.mono ?_; rintro e w' ⟨rfl, hb⟩; simp only [rowVal])
      go_ret
      exact ⟨by rw [HG.out]; rfl, hb.alloc hb.size _⟩
/-- Does no sequence that begins at one of these places go over the place? -/
def edgeFrom (l : List UInt8) (k : Nat) : Nat → Nat → Bool
  | 0, _ => true
  | n + 1, j => if k < j + wszOf (l.drop j) then false else edgeFrom l k n (j + 1)
def edgeL (l : List UInt8) (k : Nat) : Bool := edgeFrom l k (k - (k - 3)) (k - 3)
theorem wsz_le (l : List UInt8) : wszOf l ≤ 4 := by
  unfold wszOf
  cases h : goodOf l with
  | none => simp
  | some q =>
    obtain ⟨p, m⟩ := q
    cases l with
    | nil => simp [goodOf, begunOf] at h
    | cons a r => have := uni_size a r; rw [uniOf, h] at this; simp only at this ⊢; omega
set_option maxRecDepth 10000 in
set_option maxHeartbeats 800000 in
theorem edge_in (s : ByteArray) (k : Nat) (hk : k ≤ s.size) (hs : s.size ≤ 140737488355328) (w : World) (hT : SeqAt w) :
    Calls Tryd.prog 53 #[.string s, .int .i64 (k : Int)] w fun e w' => e = .returned (.bool (edgeL s.data.toList k)) ∧ Below w.heap.size w w' := by
  have hmax : ∀ ts t w, (Builtin.max_ ts t #[.int .i64 0, .int .i64 ((k : Int) - 4 + 1)]).run Tryd.prog w = .ok (.int .i64 ((k - 3 : Nat) : Int)) w := fun ts t w => by
    rw [run_max_int2]; split <;> (congr 2; omega)
  have HT := hid hT
  have h0 : ¬ ((k : Int) < 0) := by omega
  have h1 : ¬ ((s.size : Int) < (k : Int)) := by omega
  clear hT
  go_enter Tryd.func53, Tryd.ntmps53
  go_wp2
  clear hmax
  go_loopw [5] (fun i wr => ∃ j : Nat, k - 3 ≤ j ∧ j ≤ k ∧ i = .int .i64 (j : Int) ∧ edgeL s.data.toList k = edgeFrom s.data.toList k (k - j) j ∧ Below w.heap.size w wr) (fun i _ => k - (intOf i).toNat)
  case atStart => exact ⟨k - 3, Nat.le_refl _, by omega, rfl, rfl, Below.refl _ _⟩
  case round =>
    obtain ⟨j, hj1, hj2, rfl, he, hB⟩ := hrel
    have HE := hid he
    clear he
    by_cases hlt : j < k
    · have HU : Hid (edgeFrom s.data.toList k (k - j) j = if k < j + wszOf (s.data.toList.drop j) then false else edgeFrom s.data.toList k (k - (j + 1)) (j + 1)) := by
        show _ = _
        rw [show k - j = (k - (j + 1)) + 1 by omega, edgeFrom]
      have HM := hid (whole_any s j (by omega) hs wr (HT.out.later hB))
      have hw4 := wsz_le (s.data.toList.drop j)
      generalize wszOf (s.data.toList.drop j) = m at *
      have hji : (j : Int) < (k : Int) := by omega
      by_cases hov : k < j + m
      · have HN : Hid (edgeL s.data.toList k = false) := by show _ = _; rw [HE.out, HU.out, if_pos hov]
        have hoi : (k : Int) < (j : Int) + (m : Int) := by omega
        clear HU HE
        go_wp2_with (go_at_call 61; refine HM.out.mono ?_; rintro e w' ⟨rfl, hb⟩)
        go_ret
        exact ⟨by rw [HN.out]; rfl, hB.trans (hb.mono hB.size)⟩
      · have HN : Hid (edgeL s.data.toList k = edgeFrom s.data.toList k (k - (j + 1)) (j + 1)) := by show _ = _; rw [HE.out, HU.out, if_neg hov]
        have hoi : ¬ (k : Int) < (j : Int) + (m : Int) := by omega
        clear HU HE
        go_wp2_with (go_at_call 61; refine HM.out.mono ?_; rintro e w' ⟨rfl, hb⟩)
        go_roundw
        case rel => exact ⟨j + 1, by omega, by omega, by go_num, HN.out, hB.trans (hb.mono hB.size)⟩
        case measure => simp [intOf]; omega
    · have HN : Hid (edgeL s.data.toList k = true) := by show _ = _; rw [HE.out, show k - j = 0 by omega, edgeFrom]
      have hji : ¬ (j : Int) < (k : Int) := by omega
      go_wp2
      go_ret
      exact ⟨by rw [HN.out]; rfl, hB⟩
set_option maxRecDepth 10000 in
set_option maxHeartbeats 400000 in
theorem edge_out (s : ByteArray) (k : Int) (hk : k < 0 ∨ (s.size : Int) < k) (w : World) :
    Calls Tryd.prog 53 #[.string s, .int .i64 k] w fun e w' => e = .returned (.bool false) ∧ w' = w := by
  rcases hk with h | h
  · go_enter Tryd.func53, Tryd.ntmps53
    go_wp2
    all_goals
      go_ret
      exact ⟨rfl, rfl⟩
  · go_enter Tryd.func53, Tryd.ntmps53
    go_wp2
    all_goals
      go_ret
      exact ⟨rfl, rfl⟩
def noUnit : Value := .agg #[.int .i64 0, .int .i64 0, .int .i64 0]
/-- What Next answers. -/
def nextVal (l : List UInt8) (k : Nat) : Value := if edgeL l k then .tuple #[unitVal (uniOf (l.drop k)).1 k (k + (uniOf (l.drop k)).2), .bool true] else .tuple #[noUnit, .bool false]
set_option maxRecDepth 10000 in
set_option maxHeartbeats 800000 in
theorem next_in (s : ByteArray) (k : Nat) (hk : k < s.size) (hs : s.size ≤ 140737488355328) (w : World) (hT : SeqAt w) :
    Calls Tryd.prog 42 #[.string s, .int .i64 (k : Int)] w fun e w' => e = .returned (nextVal s.data.toList k) ∧ Below w.heap.size w w' := by
  have HE := hid (fun w hT => edge_in s k (by omega) hs w hT)
  have HU := hid (fun w hT => unitAt_any s k hk hs w hT)
  have HT := hid hT
  have h1 : ¬ ((s.size : Int) ≤ (k : Int)) := by omega
  clear hT
  cases he : edgeL s.data.toList k with
  | false =>
    have HN : Hid (nextVal s.data.toList k = .tuple #[noUnit, .bool false]) := by show _ = _; rw [nextVal, he]; rfl
    rw [he] at HE
    clear HU he
    go_enter Tryd.func42, Tryd.ntmps42
    go_wp2_with (go_at_call 53; refine (HE.out _ (HT.out.later (by go_grown))).mono ?_; rintro e w' ⟨rfl, hb⟩; have HR : Hid (w'.heap[w.heap.size]? = _) := boxRow hb; obtain ⟨⟨c0, c1, c2⟩, f0, f1, f2⟩ := row3 HR.out; have hB : Below w.heap.size w w' := ((Below.refl _ _).alloc (Nat.le_refl _) _).trans (hb.mono (by simp)); have hsz := hB.size; clear hb)
    (try simp only [Exit.inBlock, Exit.then])
    refine bodyPost_ret (ret_row rfl _ _ w.heap.size 28 _ _ _ rfl (set3 _ _ _ HR.out) Tryd.underlying28 rfl (by kernel_rfl) rfl) rfl ?_
    exact ⟨by rw [HN.out]; rfl, by go_grown⟩
  | true =>
    have HN : Hid (nextVal s.data.toList k = .tuple #[unitVal (uniOf (s.data.toList.drop k)).1 k (k + (uniOf (s.data.toList.drop k)).2), .bool true]) := by show _ = _; rw [nextVal, he]; rfl
    rw [he] at HE
    generalize (uniOf (s.data.toList.drop k)).1 = p at *
    generalize (uniOf (s.data.toList.drop k)).2 = m at *
    clear he
    go_enter Tryd.func42, Tryd.ntmps42
    go_wp2_with (first
      | (go_at_call 53; refine (HE.out _ (HT.out.later (by go_grown))).mono ?_; rintro e w1 ⟨rfl, hb⟩; have HR1 : Hid (w1.heap[w.heap.size]? = _) := boxRow hb; have hB1 : Below w.heap.size w w1 := ((Below.refl _ _).alloc (Nat.le_refl _) _).trans (hb.mono (by simp)); clear hb)
      | (go_at_call 45; refine (HU.out _ (HT.out.later hB1)).mono ?_; rintro e w2 ⟨rfl, hb⟩; simp only [unitVal]; have HR : Hid (w2.heap[w.heap.size]? = _) := Own3.later HR1.out hb; obtain ⟨⟨c0, c1, c2⟩, f0, f1, f2⟩ := row3 HR.out; have hB : Below w.heap.size w w2 := hB1.trans (hb.mono hB1.size); have hsz := hB.size; clear hb)
      | fail)
    (try simp only [Exit.inBlock, Exit.then])
    refine bodyPost_ret (ret_row rfl _ _ w.heap.size 28 _ _ _ rfl (set3 _ _ _ HR.out) Tryd.underlying28 rfl (by kernel_rfl) rfl) rfl ?_
    exact ⟨by rw [HN.out]; rfl, by go_grown⟩
end Go.Proofs.YtlmbbohhdgeedaaDoor
