/-
  The walk of the document's entryFault.
-/
import Derived.Test.YtbdjnmbhphflbaaGreatDoorLc8W
namespace Go.Proofs.YtbdjnmbhphflbaaGreatDoor
open Go.RowKit Go.Shelf Go.Lib
/-- The document's number of a refusal. -/
def numO : Option Nat → Int
  | none => 0
  | some i => refNo i
/-- Units in memory. -/
structure UA (w : World) (a : Option Addr) (L : List (Int × Nat × Nat)) : Prop where
  at' : ∀ k (h : k < L.length), ∃ b off, a = some ⟨b, off, none⟩ ∧ w.cell? ⟨b, off + k * 3, none⟩ = some (.int .i64 L[k].1)
theorem cellsU_at (us : List (Int × Nat × Nat)) : ∀ (k : Nat) (h : k < us.length), (cellsU us)[k * 3]? = some (.int .i64 us[k].1) := by
  induction us with
  | nil => intro k h; simp at h
  | cons u us ih =>
    intro k h
    have e : cellsU (u :: us) = .int .i64 u.1 :: .int .i64 (u.2.1 : Int) :: .int .i64 (u.2.2 : Int) :: cellsU us := by simp [cellsU]
    cases k with
    | zero => rw [e]; simp
    | succ k =>
      rw [e, show (k + 1) * 3 = k * 3 + 1 + 1 + 1 by omega]
      simpa using ih k (by simpa using h)
theorem OwnU.ua {w : World} {base : Nat} {v : Value} {us : List (Int × Nat × Nat)} (h : OwnU w base v us) : ∃ a cap, v = .slice a us.length cap ∧ UA w a us := by
  have h0 := h
  rcases h.2 with ⟨rfl, hn⟩ | ⟨g, cap, cur, rfl, _⟩
  · have : us = [] := List.length_eq_zero_iff.1 hn
    subst this
    exact ⟨none, 0, rfl, ⟨fun k h => absurd h (Nat.not_lt_zero _)⟩⟩
  · refine ⟨_, cap, rfl, ⟨fun k hk => ⟨g, 0, rfl, ?_⟩⟩⟩
    rw [Nat.zero_add, World.ownsRow.cellAt h0 (k * 3) (by omega)]
    exact cellsU_at us k hk
theorem entF_one {l : List UInt8} (h : (unitsOf l).length = 0) : entF l = some 1 := by
  unfold entF
  rw [if_pos h]
  split <;> rfl
theorem entF_bad {l : List UInt8} {k : Nat} (h : k < (unitsOf l).length) (hb : (unitsOf l)[k].1 = -1) : entF l = some 1 := by
  unfold entF
  rw [if_pos (List.any_eq_true.2 ⟨_, List.getElem_mem h, by simp [hb]⟩)]
theorem entF_rest {l : List UInt8} (h0 : (unitsOf l).length ≠ 0) (hn : ∀ k (h : k < (unitsOf l).length), (unitsOf l)[k].1 ≠ -1) : entF l = if 32 < (unitsOf l).length then some 2 else none := by
  unfold entF
  rw [if_neg, if_neg h0]
  rw [List.any_eq_true]
  rintro ⟨u, hu, e⟩
  obtain ⟨k, hk, rfl⟩ := List.getElem_of_mem hu
  exact hn k hk (by simpa using e)
set_option maxRecDepth 10000 in
set_option maxHeartbeats 1600000 in
theorem refEntry_any (s : ByteArray) (hs : s.size ≤ 4194400) (w : World) :
    Calls Tryz.prog 63 #[.string s] w fun e w' => e = .returned (.int .i64 (numO (entF s.data.toList))) ∧ Below w.heap.size w w' := by
  have HS := hid0 (refSplit_any s hs w)
  have hll : s.data.toList.length = s.size := by simp
  have hul : (unitsOf s.data.toList).length ≤ s.data.toList.length := units_len _ _ 0 (Nat.le_refl _)
  have hlb : (unitsOf s.data.toList).length ≤ 4194400 := by omega
  have HE1 := hid0 (fun h => entF_one (l := s.data.toList) h)
  have HE2 := hid0 (fun k h hb => entF_bad (l := s.data.toList) (k := k) h hb)
  have HE3 := hid0 (fun h0 hn => entF_rest (l := s.data.toList) h0 hn)
  clear hll hul
  obtain ⟨N, hN⟩ : ∃ N, N = numO (entF s.data.toList) := ⟨_, rfl⟩
  have HN := hid0 hN
  rw [← hN]
  clear hN
  generalize unitsOf s.data.toList = us at *
  by_cases h0 : us.length = 0
  · have h0I : (us.length : Int) = 0 := by omega
    have HV : Hid (N = 2) := hid0 (by rw [HN.out, HE1.out h0]; rfl)
    clear HE1 HE2 HE3 HN
    go_enter Tryz.func63, Tryz.ntmps63
    go_wp2_with (first
      | (go_at_call 80; refine HS.out.mono ?_; rintro e w1 ⟨v, rfl, hown, hb1⟩; obtain ⟨a, cap, rfl, _⟩ := hown.ua; have HB1 := hid0 hb1; clear hb1 hown h0)
      | fail)
    go_ret
    exact ⟨by rw [HV.out]; rfl, HB1.out⟩
  · have h0I : ¬ (us.length : Int) = 0 := by omega
    go_enter Tryz.func63, Tryz.ntmps63
    go_wp2_with (first
      | (go_at_call 80; refine HS.out.mono ?_; rintro e w1 ⟨v, rfl, hown, hb1⟩; obtain ⟨a, cap, rfl, hua⟩ := hown.ua; have HB1 := hid0 hb1; have HUA := hid0 hua; clear hb1 hown hua HS)
      | fail)
    go_loop [4] (fun t => ∃ k : Nat, k ≤ us.length ∧ t = .int .i64 (k : Int) ∧ Hid (∀ j (h : j < us.length), j < k → us[j].1 ≠ -1)) (fun t => us.length - (intOf t).toNat)
    case atStart => exact ⟨0, Nat.zero_le _, rfl, hid0 (fun j _ h => absurd h (Nat.not_lt_zero _))⟩
    case round =>
      obtain ⟨k, hk, rfl, HK⟩ := hrel
      by_cases hlt : k < us.length
      · have hkI : (k : Int) < (us.length : Int) := by omega
        have hk0 : (0 : Int) ≤ (k : Int) := by omega
        obtain ⟨b, off, rfl, c0⟩ := HUA.out.at' k hlt
        by_cases hbad : us[k].1 = -1
        · have HV : Hid (N = 2) := hid0 (by rw [HN.out, HE2.out k hlt hbad]; rfl)
          rw [hbad] at c0
          clear HE1 HE2 HE3 HN HK
          go_wp2
          go_ret
          exact ⟨by rw [HV.out]; rfl, HB1.out⟩
        · have HK2 : Hid (∀ j (h : j < us.length), j < k + 1 → us[j].1 ≠ -1) := hid0 (fun j h hj => by
            by_cases e : j = k
            · subst e; exact hbad
            · exact HK.out j h (by omega))
          generalize us[k].1 = p at *
          go_wp2
          go_round
          case rel => exact ⟨k + 1, by omega, by go_num, HK2⟩
          case measure => simp [intOf]; omega
      · have hkI : ¬ (k : Int) < (us.length : Int) := by omega
        have HF := hid0 (HE3.out h0 (fun j h => HK.out j h (by omega)))
        clear HE1 HE2 HE3 HK HUA
        by_cases h3 : 32 < us.length
        · have h3I : (32 : Int) < (us.length : Int) := by omega
          have HV : Hid (N = 3) := hid0 (by rw [HN.out, HF.out, if_pos h3]; rfl)
          go_wp2
          go_ret
          exact ⟨by rw [HV.out]; rfl, HB1.out⟩
        · have h3I : ¬ (32 : Int) < (us.length : Int) := by omega
          have HV : Hid (N = 0) := hid0 (by rw [HN.out, HF.out, if_neg h3]; rfl)
          go_wp2
          go_ret
          exact ⟨by rw [HV.out]; rfl, HB1.out⟩
end Go.Proofs.YtbdjnmbhphflbaaGreatDoor
