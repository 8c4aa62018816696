/-
  The walks of caesuralaw2.scalar, caesuraref2.Points, caesuraref0.SameInts.
-/
import Derived.Test.YtoopigkndomdgabDoorBackM
import Derived.Test.YtoopigkndomdgabDoorSteps2W
namespace Go.Proofs.YtoopigkndomdgabDoor
open Go.RowKit
/-- A slice of numbers of the call's own. -/
def OwnI (w : World) (base : Nat) (v : Value) (ps : List Int) : Prop := w.ownsRow base 3 1 v ps.length (ps.map (Value.int .i64))
theorem infoInt : (Tryd.prog.info? 3).map (fun i => (i.zero, i.size, i.bytes)) = some (some (.int .i64 0), 1, 8) := by kernel_rfl
theorem OwnI.later {w w' : World} {base : Nat} {v : Value} {ps : List Int} (h : OwnI w base v ps) (hb : Below w.heap.size w w') : OwnI w' base v ps := by
  obtain ⟨h1, h2⟩ := h
  refine ⟨h1, ?_⟩
  rcases h2 with h2 | ⟨g, cap, cur, hv, hg, hh, r⟩
  · exact .inl h2
  · exact .inr ⟨g, cap, cur, hv, hg, (hb.block g (Array.getElem?_eq_some_iff.1 hh).1).trans hh, r⟩
theorem OwnI.pa {w : World} {base : Nat} {v : Value} {ps : List Int} (h : OwnI w base v ps) : ∃ a cap, v = .slice a ps.length cap ∧ PA w a ps := by
  have h0 := h
  rcases h.2 with ⟨rfl, hn⟩ | ⟨g, cap, cur, rfl, _⟩
  · have : ps = [] := List.length_eq_zero_iff.1 hn
    subst this
    exact ⟨none, 0, rfl, ⟨fun k h => absurd h (Nat.not_lt_zero _)⟩⟩
  · refine ⟨_, cap, rfl, ⟨fun k hk => ⟨g, 0, rfl, ?_⟩⟩⟩
    rw [Nat.zero_add, World.ownsRow.cellAt h0 k (by omega)]
    simp [hk]
theorem ownI_snoc {w wr w1 : World} {base : Nat} {v v' : Value} {ps : List Int} {p : Int} {o : Obj} (hown : OwnI wr base v ps)
    (hown' : w1.ownsRow base 3 1 v' (ps.length + 1) (ps.map (Value.int .i64) ++ [.int .i64 p])) (hgrow : (wr.alloc o).grownBy w1 v.ownBlock) (hbel : Below base w wr) (hb : base ≤ w.heap.size) :
    OwnI w1 base v' (ps ++ [p]) ∧ Below base w w1 := by
  have hsz := hbel.size
  refine ⟨?_, (hbel.alloc (by omega) o).grown hgrow (by simp; omega) (fun k hk => (World.ownsRow.lt hown k hk).1)⟩
  unfold OwnI
  rw [List.length_append, List.map_append]
  exact hown'
set_option maxRecDepth 10000 in
set_option maxHeartbeats 400000 in
theorem scalar_any (x : Int) (w : World) :
    Calls Tryd.prog 11 #[.int .i64 x] w fun e w' => (∃ m : Nat, scalarP (m : Int) = true ∧ e = .returned (.int .i64 (m : Int))) ∧ w' = w := by
  have HP := hid (pick_any x 1114112 (by omega) (by omega))
  rw [show ((1114112 : Nat) : Int) = 1114112 from rfl] at HP
  go_enter Tryd.func11, Tryd.ntmps11
  go_wp2_with (go_at_call 14; refine (HP.out _).mono ?_; rintro e w1 ⟨⟨r, hr, rfl⟩, rfl⟩)
  · go_ret
    refine ⟨⟨r - 55296, (scalar_iff _).2 (by omega), ?_⟩, rfl⟩
    have e : ((r - 55296 : Nat) : Int) = (r : Int) - 55296 := by omega
    rw [e]
    rfl
  · go_ret
    exact ⟨⟨r, (scalar_iff _).2 (by omega), rfl⟩, rfl⟩
  · go_ret
    exact ⟨⟨r, (scalar_iff _).2 (by omega), rfl⟩, rfl⟩
set_option maxRecDepth 10000 in
set_option maxHeartbeats 400000 in
theorem sameI_pa (ps : List Int) (a b : Option Addr) (ca cb : Nat) (w : World) (hl : ps.length ≤ 140737488355328) (ha : PA w a ps) (hb : PA w b ps) :
    Calls Tryd.prog 12 #[.slice a ps.length ca, .slice b ps.length cb] w fun e w' => e = .returned (.bool true) ∧ Below w.heap.size w w' := by
  have HA := hid ha
  have HB := hid hb
  clear ha hb
  go_enter Tryd.func12, Tryd.ntmps12
  go_wp2
  go_loopw [5] (fun i wr => ∃ k q : Nat, k ≤ ps.length ∧ i = .int .i64 (k : Int) ∧ wr = w.drewN q) (fun i _ => ps.length - (intOf i).toNat)
  case atStart => exact ⟨0, 0, Nat.zero_le _, rfl, rfl⟩
  case round =>
    obtain ⟨k, q, hk, rfl, rfl⟩ := hrel
    by_cases hlt : k < ps.length
    · obtain ⟨b1, o1, rfl, c0⟩ := HA.out.at' k hlt
      obtain ⟨b2, o2, rfl, d0⟩ := HB.out.at' k hlt
      generalize ps[k] = u at *
      clear HA HB
      go_wp2
      go_quiet ((fail))
      go_wp2
      go_roundw
      case rel => exact ⟨k + 1, _, hlt, by go_num, rfl⟩
      case measure => simp [intOf]; omega
    · have hk2 : ¬ (k : Int) < (ps.length : Int) := by omega
      clear HA HB
      go_wp2
      go_ret
      exact ⟨rfl, below_drewN (Below.refl _ _) q⟩
set_option maxRecDepth 10000 in
set_option maxHeartbeats 800000 in
theorem points_any (us : List (Int × Nat × Nat)) (v : Value) (hl : us.length ≤ 4194400) (w : World) (hu : UnitsAt w v us) (hlt : ∀ b off n c, v = .slice (some ⟨b, off, none⟩) n c → b < w.heap.size) :
    Calls Tryd.prog 13 #[v] w fun e w' => ∃ v', e = .returned v' ∧ OwnI w' w.heap.size v' (us.map (·.1)) ∧ Below w.heap.size w w' := by
  obtain ⟨i0, hi, hz0, hz1, hz2⟩ := info_parts infoInt
  obtain ⟨a, ca, rfl, hua⟩ := hu.ua
  have HA := hid hua
  clear hu hua
  go_enter Tryd.func13, Tryd.ntmps13
  go_wp2
  go_loopw [3, 4] (fun v i wr => ∃ k : Nat, k ≤ us.length ∧ i = .int .i64 (k : Int) ∧ OwnI wr w.heap.size v ((us.take k).map (·.1)) ∧ Below w.heap.size w wr) (fun _ i _ => us.length - (intOf i).toNat)
  case atStart => exact ⟨0, Nat.zero_le _, rfl, World.ownsRow_nil _ _ _ _, Below.refl _ _⟩
  case round =>
    obtain ⟨k, hk, rfl, hown, hB⟩ := hrel
    have HO := hid hown
    clear hown
    by_cases hk' : k < us.length
    · obtain ⟨b1, o1, rfl, c0, _, _⟩ := HA.out.at' k hk'
      have hbl := hlt _ _ _ _ rfl
      have hck := (hB.cell (p := ⟨b1, o1 + k * 3, none⟩) hbl).trans c0
      have HN : Hid ((us.take (k + 1)).map (·.1) = (us.take k).map (·.1) ++ [us[k].1]) := by show _ = _; rw [List.take_succ_eq_append_getElem hk', List.map_append]; rfl
      have hlen : ((us.take k).map (·.1)).length = k := by rw [List.length_map, List.length_take]; omega
      generalize us[k] = u at *
      have hki : (k : Int) < (us.length : Int) := by omega
      have hs := hB.size
      clear c0
      go_wp2_with (at_builtin; refine wpList_append_own _ rfl _ _ 31 rfl w.heap.size 3 i0 (.int .i64 0) 1 8 Tryd.underlying31 hi hz0 hz1 hz2 rfl (by decide) _ _ _ rfl (HO.out.alloc _) ⟨wr.heap.size, 0, none⟩ 1 1 [.int .i64 u.1] rfl rfl (cell_one_new _ _ _) (by simp [Value.oneCell']) (by rw [hlen]; unfold maxLen; omega) (by rw [hlen]; omega) (by simp; omega) ?_; intro v' w1 hown' hgrow _)
      have R := ownI_snoc HO.out hown' hgrow hB (Nat.le_refl _)
      rw [← HN.out] at R
      have HR := hid R
      clear R hown' hgrow
      go_wp2
      go_roundw
      case rel => exact ⟨k + 1, by omega, by go_num, HR.out.1, HR.out.2⟩
      case measure => simp [intOf]; omega
    · have hki : ¬ (k : Int) < (us.length : Int) := by omega
      go_wp2
      go_ret
      exact ⟨_, rfl, by have := HO.out; rw [List.take_of_length_le (by omega)] at this; exact this, hB⟩
end Go.Proofs.YtoopigkndomdgabDoor
