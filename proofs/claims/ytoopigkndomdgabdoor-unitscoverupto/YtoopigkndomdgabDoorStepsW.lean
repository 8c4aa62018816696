/-
  The walks of units.Prev, caesuraref2.Next, caesuraref2.Prev, caesurakit.Pick.
-/
import Derived.Test.YtoopigkndomdgabDoorNearM
namespace Go.Proofs.YtoopigkndomdgabDoor
open Go.RowKit
def optVal (o : Option (Int × Nat × Nat)) : Value := match o with
  | some u => .tuple #[unitVal u.1 u.2.1 u.2.2, .bool true]
  | none => .tuple #[noUnit, .bool false]
theorem nextVal_eq (l : List UInt8) (k : Nat) : nextVal l k = optVal (if edgeL l k then some (unitU l k) else none) := by
  unfold nextVal optVal
  split <;> rfl
set_option maxRecDepth 10000 in
set_option maxHeartbeats 400000 in
theorem next_out (s : ByteArray) (k : Int) (hk : k < 0 ∨ (s.size : Int) ≤ k) (w : World) :
    Calls Tryd.prog 9 #[.string s, .int .i64 k] w fun e w' => e = .returned (optVal none) ∧ Below w.heap.size w w' := by
  by_cases h : (s.size : Int) ≤ k
  · go_enter Tryd.func9, Tryd.ntmps9
    go_wp2
    go_returns
    exact ⟨rfl, by go_grown⟩
  · have HE := hid (fun w => edge_out s k (.inl (by omega)) w)
    go_enter Tryd.func9, Tryd.ntmps9
    go_wp2_with (go_at_call 22; refine (HE.out _).mono ?_; rintro e w1 ⟨rfl, rfl⟩)
    go_returns
    exact ⟨rfl, by go_grown⟩
set_option maxRecDepth 10000 in
set_option maxHeartbeats 400000 in
theorem prev_out (s : ByteArray) (k : Int) (hk : k ≤ 0 ∨ (s.size : Int) < k) (w : World) :
    Calls Tryd.prog 10 #[.string s, .int .i64 k] w fun e w' => e = .returned (optVal none) ∧ Below w.heap.size w w' := by
  by_cases h : k ≤ 0
  · go_enter Tryd.func10, Tryd.ntmps10
    go_wp2
    go_returns
    exact ⟨rfl, by go_grown⟩
  · have HE := hid (fun w => edge_out s k (.inr (by omega)) w)
    go_enter Tryd.func10, Tryd.ntmps10
    go_wp2_with (go_at_call 22; refine (HE.out _).mono ?_; rintro e w1 ⟨rfl, rfl⟩)
    go_returns
    exact ⟨rfl, by go_grown⟩
theorem prevFrom_lt (l : List UInt8) (k : Nat) (h0 : 0 < k) : ∀ n j, j + n ≤ k - 1 → prevFrom l k n j < k := by
  intro n
  induction n with
  | zero => intro j _; rw [prevFrom]; omega
  | succ n ih => intro j h; rw [prevFrom]; split; omega; exact ih _ (by omega)
set_option maxRecDepth 10000 in
set_option maxHeartbeats 1600000 in
theorem prev_in (s : ByteArray) (k : Nat) (h0 : 0 < k) (hk : k ≤ s.size) (hs : s.size ≤ 140737488355328) (w : World) (hT : SeqAt w) :
    Calls Tryd.prog 10 #[.string s, .int .i64 (k : Int)] w fun e w' => e = .returned (optVal (if edgeL s.data.toList k then some (unitU s.data.toList (prevL s.data.toList k)) else none)) ∧ Below w.heap.size w w' := by
  have hmax : ∀ ts t w, (Builtin.max_ ts t #[.int .i64 0, .int .i64 ((k : Int) - 4)]).run Tryd.prog w = .ok (.int .i64 ((k - 4 : Nat) : Int)) w := fun ts t w => by
    rw [run_max_int2]; split <;> (congr 2; omega)
  have HE := hid (fun w hT => edge_in s k hk hs w hT)
  have HT := hid hT
  have h1 : ¬ ((k : Int) ≤ 0) := by omega
  clear hT
  cases he : edgeL s.data.toList k with
  | false =>
    rw [he] at HE
    clear he hmax
    go_enter Tryd.func10, Tryd.ntmps10
    go_wp2_with (go_at_call 22; refine (HE.out _ (HT.out.later (by go_grown))).mono ?_; rintro e w' ⟨rfl, hb⟩; have HR : Hid (w'.heap[w.heap.size]? = _) := boxRow hb; obtain ⟨⟨c0, c1, c2⟩, f0, f1, f2⟩ := row3 HR.out; have hB : Below w.heap.size w w' := ((Below.refl _ _).alloc (Nat.le_refl _) _).trans (hb.mono (by simp)); have hsz := hB.size; clear hb)
    (try simp only [Exit.inBlock, Exit.then])
    refine bodyPost_ret (ret_row rfl _ _ w.heap.size 26 _ _ _ rfl (set3 _ _ _ HR.out) Tryd.underlying26 rfl (by kernel_rfl) rfl) rfl ?_
    exact ⟨rfl, by go_grown⟩
  | true =>
    rw [he] at HE
    clear he
    go_enter Tryd.func10, Tryd.ntmps10
    go_wp2_with (go_at_call 22; refine (HE.out _ (HT.out.later (by go_grown))).mono ?_; rintro e w1 ⟨rfl, hb⟩; have HR1 : Hid (w1.heap[w.heap.size]? = _) := boxRow hb; have hB1 : Below w.heap.size w w1 := ((Below.refl _ _).alloc (Nat.le_refl _) _).trans (hb.mono (by simp)); clear hb)
    clear hmax
    go_loopw [6] (fun i wr => ∃ j : Nat, k - 4 ≤ j ∧ j ≤ k - 1 ∧ i = .int .i64 (j : Int) ∧ prevL s.data.toList k = prevFrom s.data.toList k (k - 1 - j) j ∧ (wr.heap[w.heap.size]? = some (.cells #[.int .i64 0, .int .i64 0, .int .i64 0] 26 (0, 0)) ∧ Below w.heap.size w wr)) (fun i _ => k - (intOf i).toNat)
    case atStart => exact ⟨k - 4, Nat.le_refl _, by omega, rfl, rfl, HR1.out, hB1⟩
    case round =>
      clear HR1 hB1
      obtain ⟨j, hj1, hj2, rfl, hp, hrow, hB⟩ := hrel
      have HP := hid hp
      have HR1 := hid hrow
      clear hp hrow
      by_cases hlt : j < k - 1
      · have HU : Hid (prevFrom s.data.toList k (k - 1 - j) j = if j + wszOf (s.data.toList.drop j) = k then j else prevFrom s.data.toList k (k - 1 - (j + 1)) (j + 1)) := by
          show _ = _
          rw [show k - 1 - j = (k - 1 - (j + 1)) + 1 by omega, prevFrom]
        have HM := hid (whole_any s j (by omega) hs wr (HT.out.later hB))
        have hw4 := wsz_le (s.data.toList.drop j)
        have hji : (j : Int) < (k : Int) - 1 := by omega
        by_cases hov : j + wszOf (s.data.toList.drop j) = k
        · have HN : Hid (prevL s.data.toList k = j) := by show _ = _; rw [HP.out, HU.out, if_pos hov]
          have HUn := hid (fun w hT => unitAt_any s j (by omega) hs w hT)
          have HV : Hid (optVal (some (unitU s.data.toList (prevL s.data.toList k))) = .tuple #[unitVal (uniOf (s.data.toList.drop j)).1 j (j + (uniOf (s.data.toList.drop j)).2), .bool true]) := by show _ = _; rw [HN.out]; rfl
          generalize (uniOf (s.data.toList.drop j)).1 = p at *
          generalize (uniOf (s.data.toList.drop j)).2 = m at *
          generalize wszOf (s.data.toList.drop j) = z at *
          have hoi : (((j : Int) + (z : Int)) == (k : Int)) = true := by simp; omega
          clear HU HP hov
          go_wp2_with (first
            | (go_at_call 24; refine HM.out.mono ?_; rintro e w2 ⟨rfl, hb⟩; have HR2 := hid (Own3.later HR1.out hb); have hB2 := hB.trans (hb.mono hB.size); clear hb)
            | (go_at_call 23; refine (HUn.out _ (HT.out.later hB2)).mono ?_; rintro e w3 ⟨rfl, hb⟩; simp only [unitVal]; have HR3 := hid (Own3.later HR2.out hb); obtain ⟨⟨c0, c1, c2⟩, f0, f1, f2⟩ := row3 HR3.out; have hB3 := hB2.trans (hb.mono hB2.size); have hsz := hB3.size; clear hb)
            | fail)
          (try simp only [Exit.inBlock, Exit.then])
          refine bodyPost_ret (ret_row rfl _ _ w.heap.size 26 _ _ _ rfl (set3 _ _ _ HR3.out) Tryd.underlying26 rfl (by kernel_rfl) rfl) rfl ?_
          exact ⟨by first | (rw [HV.out]; rfl) | (rw [HV.out]; simp [unitVal]), by go_grown⟩
        · have HN : Hid (prevL s.data.toList k = prevFrom s.data.toList k (k - 1 - (j + 1)) (j + 1)) := by show _ = _; rw [HP.out, HU.out, if_neg hov]
          generalize wszOf (s.data.toList.drop j) = z at *
          have hoi : (((j : Int) + (z : Int)) == (k : Int)) = false := by simp; omega
          clear HU HP hov
          go_wp2_with (go_at_call 24; refine HM.out.mono ?_; rintro e w2 ⟨rfl, hb⟩; have HR2 := hid (Own3.later HR1.out hb); have hB2 := hB.trans (hb.mono hB.size); clear hb)
          go_roundw
          case rel => exact ⟨j + 1, by omega, by omega, by go_num, HN.out, HR2.out, hB2⟩
          case measure => simp [intOf]; omega
      · have HN : Hid (prevL s.data.toList k = k - 1) := by show _ = _; rw [HP.out, show k - 1 - j = 0 by omega, prevFrom]
        have HUn := hid (fun w hT => unitAt_any s (k - 1) (by omega) hs w hT)
        have HV : Hid (optVal (some (unitU s.data.toList (prevL s.data.toList k))) = .tuple #[unitVal (uniOf (s.data.toList.drop (k - 1))).1 (k - 1) (k - 1 + (uniOf (s.data.toList.drop (k - 1))).2), .bool true]) := by show _ = _; rw [HN.out]; rfl
        generalize (uniOf (s.data.toList.drop (k - 1))).1 = p at *
        generalize (uniOf (s.data.toList.drop (k - 1))).2 = m at *
        have hk1 : ((k - 1 : Nat) : Int) = (k : Int) - 1 := by omega
        rw [hk1] at HUn
        have hji : ¬ (j : Int) < (k : Int) - 1 := by omega
        have HK := hid hk1
        clear HP hk1
        go_wp2_with (go_at_call 23; refine (HUn.out _ (HT.out.later hB)).mono ?_; rintro e w3 ⟨rfl, hb⟩; simp only [unitVal]; have HR3 := hid (Own3.later HR1.out hb); obtain ⟨⟨c0, c1, c2⟩, f0, f1, f2⟩ := row3 HR3.out; have hB3 := hB.trans (hb.mono hB.size); have hsz := hB3.size; clear hb)
        (try simp only [Exit.inBlock, Exit.then])
        refine bodyPost_ret (ret_row rfl _ _ w.heap.size 26 _ _ _ rfl (set3 _ _ _ HR3.out) Tryd.underlying26 rfl (by kernel_rfl) rfl) rfl ?_
        exact ⟨by first | (rw [HV.out]; rfl) | (rw [HV.out]; simp [unitVal]), by go_grown⟩
end Go.Proofs.YtoopigkndomdgabDoor
