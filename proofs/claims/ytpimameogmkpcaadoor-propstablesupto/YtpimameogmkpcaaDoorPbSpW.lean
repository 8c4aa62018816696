/-
  The walks of caesurakit.Spoil, SpoilTexts, Ints; caesuraref0.SameStrings, SameInts; Table.Names.
-/
import Derived.Test.YtpimameogmkpcaaDoorPbMtW
namespace Go.Proofs.YtpimameogmkpcaaDoor
open Go.RowKit Go.Shelf
/-- Numbers in memory, each where it is asked. -/
structure IA (w : World) (a : Option Addr) (L : List Int) : Prop where
  at' : ∀ k (h : k < L.length), ∃ b off, a = some ⟨b, off, none⟩ ∧ b < w.heap.size ∧ w.cell? ⟨b, off + k, none⟩ = some (.int .i64 L[k])
theorem OwnI.ia {w : World} {base : Nat} {v : Value} {L : List Int} (h : OwnI w base v L) : ∃ a cap, v = .slice a L.length cap ∧ IA w a L := by
  have h0 := h
  rcases h.2 with ⟨rfl, hn⟩ | ⟨g, cap, cur, rfl, hg, hr, hc, _⟩
  · exact ⟨none, 0, by rw [hn], ⟨fun k hk => by omega⟩⟩
  · refine ⟨_, cap, rfl, ⟨fun k hk => ⟨g, 0, rfl, (World.ownsRow.lt h0 g rfl).2, ?_⟩⟩⟩
    have := World.ownsRow.cellAt h0 k (by omega)
    rw [Nat.zero_add, this]
    simp [hk]
set_option maxRecDepth 10000 in
set_option maxHeartbeats 800000 in
theorem spoilI (v : Value) (n lo : Nat) (xs : List Value) (w : World) (hn : 0 < n) (hl : n ≤ 1000000000) (hlo : lo ≤ w.heap.size) (hown : w.ownsRow lo 3 1 v n xs) :
    Calls Tryd.prog 14 #[v] w fun e w' => e = .returned (.int .i64 ((n + 64 : Nat) : Int)) ∧ Only w w' (fun k => v.ownBlock = some k) := by
  obtain ⟨i0, hi, hz0, hz1, hz2⟩ := info_parts infoInt
  obtain ⟨g, cap, rfl, _, _⟩ := World.ownsRow.form hown hn
  have HO0 := hid0 hown
  have HLO := hid0 hlo
  clear hown hlo
  go_enter Tryd.func14, Tryd.ntmps14
  go_wp2
  go_loopw [3] (fun i wr => ∃ k : Nat, k ≤ n ∧ i = .int .i64 (k : Int) ∧ Hid (∃ xs', wr.ownsRow lo 3 1 (.slice (some ⟨g, 0, none⟩) n cap) n xs') ∧ Hid (Only w wr (fun k => some g = some k))) (fun i _ => n - (intOf i).toNat)
  case atStart => exact ⟨0, Nat.zero_le _, rfl, hid0 ⟨xs, HO0.out⟩, hid0 (Only.refl _ _)⟩
  case round =>
    clear HO0
    obtain ⟨k, hk, rfl, HX, HY⟩ := hrel
    obtain ⟨ys, hys⟩ := HX.out
    by_cases hlt : k < n
    · have hkI : (k : Int) < (n : Int) := by omega
      have hkI0 : (0 : Int) ≤ (k : Int) := by omega
      have c0 : ∃ u, wr.cell? ⟨g, k, none⟩ = some u := by
        rw [World.ownsRow.cellAt hys k (by omega)]
        exact ⟨_, List.getElem?_eq_getElem (by rw [hys.1]; omega)⟩
      obtain ⟨u, c0⟩ := c0
      have f0 : wr.frozen? ⟨g, k, none⟩ = false := World.ownsRow.frozenAt hys k
      have HX2 : Hid (∃ xs', (wr.setCell ⟨g, k, none⟩ (.int .i64 (-77))).ownsRow lo 3 1 (.slice (some ⟨g, 0, none⟩) n cap) n xs') := hid0 ⟨_, (World.ownsRow.stored hys k (.int .i64 (-77))).1⟩
      have HY2 : Hid (Only w (wr.setCell ⟨g, k, none⟩ (.int .i64 (-77))) (fun k => some g = some k)) := hid0 (HY.out.trans (Only.setCell wr g k _) (fun i hi => .inl (by rw [hi])))
      clear hys HX HY
      go_wp2
      go_roundw
      case rel => exact ⟨k + 1, by omega, by go_num, HX2, HY2⟩
      case measure => simp [intOf]; omega
    · have hkI : ¬ (k : Int) < (n : Int) := by omega
      have HX0 := hid0 hys
      clear hys HX
      go_wp2
      go_loopw [4, 5] (fun v4 i wr => ∃ k : Nat, k ≤ 64 ∧ i = .int .i64 (k : Int) ∧ Hid (∃ xs', wr.ownsRow lo 3 1 v4 (n + k) xs') ∧ Hid (Only w wr (fun k => some g = some k)) ∧ Hid (∀ g', v4.ownBlock = some g' → some g = some g' ∨ w.heap.size ≤ g')) (fun _ i _ => 64 - (intOf i).toNat)
      case atStart => exact ⟨0, Nat.zero_le _, rfl, hid0 ⟨ys, HX0.out⟩, HY, hid0 (fun g' hg' => .inl hg')⟩
      case round =>
        clear HX0 HY
        obtain ⟨k2, hk2, rfl, HX, HY, HG⟩ := hrel
        obtain ⟨zs, hzs⟩ := HX.out
        obtain ⟨g4, cap4, rfl, _, _⟩ := World.ownsRow.form hzs (by omega)
        have HZ := hid0 hzs
        have hsz := HY.out.size
        have hLO := HLO.out
        clear hzs HX
        by_cases hlt2 : k2 < 64
        · have hkI2 : (k2 : Int) < 64 := by omega
          go_wp2_with (at_builtin; refine wpList_append_own_at _ (by rfl) _ _ 26 (by rfl) lo 3 i0 (.int .i64 0) 1 8 Tryd.underlying26 hi hz0 hz1 hz2 rfl (by decide) (.slice (some ⟨g4, 0, none⟩) (n + k2) cap4) (n + k2) zs (by rfl) (HZ.out.alloc _) ⟨wr.heap.size, 0, none⟩ 1 1 [.int .i64 (-77)] (by rfl) (by rfl) (cell_one_new _ _ _) (by simp [Value.oneCell']) (by unfold maxLen; omega) (by omega) (by simp; omega) ?_; intro v5 w5 hown5 hgrow5 _ hat5; have HO5 := hid0 hown5; have HG5 := hid0 hgrow5; have HA5 := hid0 hat5; clear hown5 hgrow5 hat5)
          have HX5 : Hid (∃ xs', w5.ownsRow lo 3 1 v5 (n + (k2 + 1)) xs') := hid0 ⟨_, by have h := HO5.out; rw [Nat.add_assoc] at h; exact h⟩
          have HY5 : Hid (Only w w5 (fun k => some g = some k)) := hid0 ((HY.out.trans (Only.alloc wr _ (fun _ => False)) (fun _ h => h.elim)).trans (Only.ofGrown HG5.out) (fun i hi => HG.out i hi))
          have HG6 : Hid (∀ g', v5.ownBlock = some g' → some g = some g' ∨ w.heap.size ≤ g') := hid0 (fun g' hg' => by
            rcases HA5.out with e | e
            · exact HG.out g' (e ▸ hg')
            · rw [e] at hg'
              have : wr.heap.size + 1 = g' := by simpa using hg'
              exact .inr (by omega))
          clear HO5 HG5 HA5 HZ HY HG
          go_wp2
          go_roundw
          case rel => exact ⟨k2 + 1, by omega, by go_num, HX5, HY5, HG6⟩
          case measure => simp [intOf]; omega
        · have hkI2 : ¬ (k2 : Int) < 64 := by omega
          obtain rfl : k2 = 64 := by omega
          go_wp2
          go_ret
          exact ⟨rfl, HY.out⟩
set_option maxRecDepth 10000 in
set_option maxHeartbeats 800000 in
theorem spoilS (v : Value) (n lo : Nat) (xs : List Value) (w : World) (hn : 0 < n) (hl : n ≤ 1000000000) (hlo : lo ≤ w.heap.size) (hown : w.ownsRow lo 9 1 v n xs) :
    Calls Tryd.prog 13 #[v] w fun e w' => e = .returned (.int .i64 ((n + 64 : Nat) : Int)) ∧ Only w w' (fun k => v.ownBlock = some k) := by
  obtain ⟨i0, hi, hz0, hz1, hz2⟩ := info_parts infoStr
  obtain ⟨g, cap, rfl, _, _⟩ := World.ownsRow.form hown hn
  have HO0 := hid0 hown
  have HLO := hid0 hlo
  clear hown hlo
  go_enter Tryd.func13, Tryd.ntmps13
  go_wp2
  go_loopw [3] (fun i wr => ∃ k : Nat, k ≤ n ∧ i = .int .i64 (k : Int) ∧ Hid (∃ xs', wr.ownsRow lo 9 1 (.slice (some ⟨g, 0, none⟩) n cap) n xs') ∧ Hid (Only w wr (fun k => some g = some k))) (fun i _ => n - (intOf i).toNat)
  case atStart => exact ⟨0, Nat.zero_le _, rfl, hid0 ⟨xs, HO0.out⟩, hid0 (Only.refl _ _)⟩
  case round =>
    clear HO0
    obtain ⟨k, hk, rfl, HX, HY⟩ := hrel
    obtain ⟨ys, hys⟩ := HX.out
    by_cases hlt : k < n
    · have hkI : (k : Int) < (n : Int) := by omega
      have hkI0 : (0 : Int) ≤ (k : Int) := by omega
      have c0 : ∃ u, wr.cell? ⟨g, k, none⟩ = some u := by
        rw [World.ownsRow.cellAt hys k (by omega)]
        exact ⟨_, List.getElem?_eq_getElem (by rw [hys.1]; omega)⟩
      obtain ⟨u, c0⟩ := c0
      have f0 : wr.frozen? ⟨g, k, none⟩ = false := World.ownsRow.frozenAt hys k
      have HX2 : Hid (∃ xs', (wr.setCell ⟨g, k, none⟩ (.string ⟨#[109, 97, 114, 107]⟩)).ownsRow lo 9 1 (.slice (some ⟨g, 0, none⟩) n cap) n xs') := hid0 ⟨_, (World.ownsRow.stored hys k (.string ⟨#[109, 97, 114, 107]⟩)).1⟩
      have HY2 : Hid (Only w (wr.setCell ⟨g, k, none⟩ (.string ⟨#[109, 97, 114, 107]⟩)) (fun k => some g = some k)) := hid0 (HY.out.trans (Only.setCell wr g k _) (fun i hi => .inl (by rw [hi])))
      clear hys HX HY
      go_wp2
      go_roundw
      case rel => exact ⟨k + 1, by omega, by go_num, HX2, HY2⟩
      case measure => simp [intOf]; omega
    · have hkI : ¬ (k : Int) < (n : Int) := by omega
      have HX0 := hid0 hys
      clear hys HX
      go_wp2
      go_loopw [4, 5] (fun v4 i wr => ∃ k : Nat, k ≤ 64 ∧ i = .int .i64 (k : Int) ∧ Hid (∃ xs', wr.ownsRow lo 9 1 v4 (n + k) xs') ∧ Hid (Only w wr (fun k => some g = some k)) ∧ Hid (∀ g', v4.ownBlock = some g' → some g = some g' ∨ w.heap.size ≤ g')) (fun _ i _ => 64 - (intOf i).toNat)
      case atStart => exact ⟨0, Nat.zero_le _, rfl, hid0 ⟨ys, HX0.out⟩, HY, hid0 (fun g' hg' => .inl hg')⟩
      case round =>
        clear HX0 HY
        obtain ⟨k2, hk2, rfl, HX, HY, HG⟩ := hrel
        obtain ⟨zs, hzs⟩ := HX.out
        obtain ⟨g4, cap4, rfl, _, _⟩ := World.ownsRow.form hzs (by omega)
        have HZ := hid0 hzs
        have hsz := HY.out.size
        have hLO := HLO.out
        clear hzs HX
        by_cases hlt2 : k2 < 64
        · have hkI2 : (k2 : Int) < 64 := by omega
          go_wp2_with (at_builtin; refine wpList_append_own_at _ (by rfl) _ _ 22 (by rfl) lo 9 i0 (.string ⟨#[]⟩) 1 16 Tryd.underlying22 hi hz0 hz1 hz2 rfl (by decide) (.slice (some ⟨g4, 0, none⟩) (n + k2) cap4) (n + k2) zs (by rfl) (HZ.out.alloc _) ⟨wr.heap.size, 0, none⟩ 1 1 [.string ⟨#[109, 97, 114, 107]⟩] (by rfl) (by rfl) (cell_one_new _ _ _) (by simp [Value.oneCell']) (by unfold maxLen; omega) (by omega) (by simp; omega) ?_; intro v5 w5 hown5 hgrow5 _ hat5; have HO5 := hid0 hown5; have HG5 := hid0 hgrow5; have HA5 := hid0 hat5; clear hown5 hgrow5 hat5)
          have HX5 : Hid (∃ xs', w5.ownsRow lo 9 1 v5 (n + (k2 + 1)) xs') := hid0 ⟨_, by have h := HO5.out; rw [Nat.add_assoc] at h; exact h⟩
          have HY5 : Hid (Only w w5 (fun k => some g = some k)) := hid0 ((HY.out.trans (Only.alloc wr _ (fun _ => False)) (fun _ h => h.elim)).trans (Only.ofGrown HG5.out) (fun i hi => HG.out i hi))
          have HG6 : Hid (∀ g', v5.ownBlock = some g' → some g = some g' ∨ w.heap.size ≤ g') := hid0 (fun g' hg' => by
            rcases HA5.out with e | e
            · exact HG.out g' (e ▸ hg')
            · rw [e] at hg'
              have : wr.heap.size + 1 = g' := by simpa using hg'
              exact .inr (by omega))
          clear HO5 HG5 HA5 HZ HY HG
          go_wp2
          go_roundw
          case rel => exact ⟨k2 + 1, by omega, by go_num, HX5, HY5, HG6⟩
          case measure => simp [intOf]; omega
        · have hkI2 : ¬ (k2 : Int) < 64 := by omega
          obtain rfl : k2 = 64 := by omega
          go_wp2
          go_ret
          exact ⟨rfl, HY.out⟩
set_option maxRecDepth 10000 in
set_option maxHeartbeats 800000 in
theorem sameS (l : List ByteArray) (a b : Option Addr) (ca cb : Nat) (w : World) (hl : l.length ≤ 1000000000) (ha : SA w a l) (hb : SA w b l) :
    Calls Tryd.prog 15 #[.slice a l.length ca, .slice b l.length cb] w fun e w' => e = .returned (.bool true) ∧ ∃ n, w' = w.drewN n := by
  have HA := hid0 ha
  have HB := hid0 hb
  clear ha hb
  go_enter Tryd.func15, Tryd.ntmps15
  go_wp2
  go_loopw [5] (fun i wr => ∃ k : Nat, k ≤ l.length ∧ i = .int .i64 (k : Int) ∧ ∃ n, wr = w.drewN n) (fun i _ => l.length - (intOf i).toNat)
  case atStart => exact ⟨0, Nat.zero_le _, rfl, 0, rfl⟩
  case round =>
    obtain ⟨k, hk, rfl, nd, rfl⟩ := hrel
    by_cases hlt : k < l.length
    · obtain ⟨b1, o1, rfl, _, d1⟩ := HA.out.at' k hlt
      obtain ⟨b2, o2, rfl, _, d2⟩ := HB.out.at' k hlt
      have hkI : (k : Int) < (l.length : Int) := by omega
      have hkI0 : (0 : Int) ≤ (k : Int) := by omega
      generalize l[k] = s at *
      have hself : (s.toList == s.toList) = true := by simp
      go_wp2
      go_quiet ((fail))
      go_wp2
      go_roundw
      case rel => exact ⟨k + 1, by omega, by go_num, _, rfl⟩
      case measure => simp [intOf]; omega
    · have hkI : ¬ (k : Int) < (l.length : Int) := by omega
      go_wp2
      go_ret
      exact ⟨rfl, nd, rfl⟩
set_option maxRecDepth 10000 in
set_option maxHeartbeats 800000 in
theorem sameI (l : List Int) (a b : Option Addr) (ca cb : Nat) (w : World) (hl : l.length ≤ 1000000000) (ha : IA w a l) (hb : IA w b l) :
    Calls Tryd.prog 16 #[.slice a l.length ca, .slice b l.length cb] w fun e w' => e = .returned (.bool true) ∧ ∃ n, w' = w.drewN n := by
  have HA := hid0 ha
  have HB := hid0 hb
  clear ha hb
  go_enter Tryd.func16, Tryd.ntmps16
  go_wp2
  go_loopw [5] (fun i wr => ∃ k : Nat, k ≤ l.length ∧ i = .int .i64 (k : Int) ∧ ∃ n, wr = w.drewN n) (fun i _ => l.length - (intOf i).toNat)
  case atStart => exact ⟨0, Nat.zero_le _, rfl, 0, rfl⟩
  case round =>
    obtain ⟨k, hk, rfl, nd, rfl⟩ := hrel
    by_cases hlt : k < l.length
    · obtain ⟨b1, o1, rfl, _, d1⟩ := HA.out.at' k hlt
      obtain ⟨b2, o2, rfl, _, d2⟩ := HB.out.at' k hlt
      have hkI : (k : Int) < (l.length : Int) := by omega
      have hkI0 : (0 : Int) ≤ (k : Int) := by omega
      generalize l[k] = s at *
      have hself : (s == s) = true := by simp
      go_wp2
      go_quiet ((fail))
      go_wp2
      go_roundw
      case rel => exact ⟨k + 1, by omega, by go_num, _, rfl⟩
      case measure => simp [intOf]; omega
    · have hkI : ¬ (k : Int) < (l.length : Int) := by omega
      go_wp2
      go_ret
      exact ⟨rfl, nd, rfl⟩
end Go.Proofs.YtpimameogmkpcaaDoor
