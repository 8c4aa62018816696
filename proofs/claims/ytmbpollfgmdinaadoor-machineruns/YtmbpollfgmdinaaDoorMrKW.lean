/-
  The walk of caesuralaw12's lone, of four lists.
-/
import Derived.Test.YtmbpollfgmdinaaDoorMrKM
namespace Go.Proofs.YtmbpollfgmdinaaDoor
open Go.RowKit Go.Shelf Go.Lib
set_option maxRecDepth 10000 in
set_option maxHeartbeats 3200000 in
theorem lone_any (g cap base : Nat) (ps : Lot) (w : World) (hbase : base ≤ w.heap.size) (hP : Pil4 w base (.slice (some ⟨g, 0, none⟩) 4 cap) ps []) (hl : ps.length = 4) (hs : ∀ x ∈ ps, x.2.length ≤ 17592186044000) :
    Calls Tryd.prog 10 #[.slice (some ⟨g, 0, none⟩) 4 cap] w fun e w' => e = .returned (.bool true) ∧ Below base w w' := by
  obtain ⟨i0, hi', hz0, hz1, hz2⟩ := info_parts infoInt
  have HST : Hid (St w base g cap 0 0 ps w) := hid0 ⟨hP, hl, hs, fun _ _ hj => absurd hj (Nat.not_lt_zero _), fun _ _ _ _ hm => absurd hm (Nat.not_lt_zero _), Below.refl _ _⟩
  clear hP hl hs
  go_enter Tryd.func10, Tryd.ntmps10
  go_wp2
  go_loopw [3] (fun i wr => ∃ (k : Nat) (qs : Lot), k ≤ 4 ∧ i = .int .i64 (k : Int) ∧ Hid (St w base g cap k 0 qs wr)) (fun i _ => 4 - (intOf i).toNat)
  case atStart => exact ⟨0, ps, by omega, rfl, HST⟩
  case round =>
    clear HST
    obtain ⟨i, qs, hi, rfl, HS⟩ := hrel
    by_cases hlt : i < 4
    · have hiz : (i : Int) < 4 := by omega
      go_wp2
      go_loopw [4] (fun j wr => ∃ (k : Nat) (qs : Lot), k ≤ 17592186044000 ∧ j = .int .i64 (k : Int) ∧ Hid (St w base g cap i k qs wr)) (fun j _ => 17592186044000 - (intOf j).toNat)
      case atStart => exact ⟨0, qs, by omega, rfl, HS⟩
      case round =>
        clear HS
        obtain ⟨k, qs, hk, rfl, HS⟩ := hrel
        obtain ⟨x, ax, cx, hx, hxv, hxc, hxl⟩ := HS.out.row hlt
        have HX := hid0 hx
        have HXV := hid0 hxv
        clear hx hxv
        have hi0 : (0 : Int) ≤ (i : Int) := by omega
        by_cases hkl : k < x.2.length
        · obtain ⟨g', rfl, hg', hne, ⟨u0, d0⟩, f0, hput⟩ := HS.out.put HX.out hkl HXV.out
          unfold mkI at hput
          have HPut := hid0 hput
          clear hput
          generalize x.2.length = n at *
          have hkz : (k : Int) < (n : Int) := by omega
          have hk0 : (0 : Int) ≤ (k : Int) := by omega
          go_wp2
          go_roundw
          case rel => exact ⟨k + 1, _, by omega, by go_num, HPut⟩
          case measure => simp [intOf]; omega
        · have HN2 := hid0 (HS.out.next HX.out (Nat.le_of_not_lt hkl))
          have hkz : ¬ (k : Int) < (x.2.length : Int) := by omega
          generalize x.2.length = n at *
          go_wp2
          go_roundw
          case rel => exact ⟨i + 1, _, by omega, by go_num, HN2⟩
          case measure => simp [intOf]; omega
    · have hiz : ¬ (i : Int) < 4 := by omega
      have hiI : (i : Int) = 4 := by omega
      have hi20 : i = 4 := by omega
      rw [hi20] at HS
      have HG := hid0 (HS.out.gr (Nat.le_trans hbase HS.out.bel.size))
      rw [hiI]
      clear HS hiz hlt hi hi20 hiI
      go_wp2
      go_loopw [5, 6] (fun t i wr => ∃ (k : Nat) (y : Int), k ≤ 4 ∧ i = .int .i64 (k : Int) ∧ t = .int .i64 y ∧ 64 * (k : Int) ≤ y ∧ y ≤ 17592186044100 * (k : Int) ∧ Hid (Gr w base g cap k qs wr)) (fun _ i _ => 4 - (intOf i).toNat)
      case atStart => exact ⟨0, 0, by omega, rfl, rfl, by omega, by omega, HG⟩
      case round =>
        clear HG
        obtain ⟨i, y, hi, rfl, rfl, hy1, hy2, HG⟩ := hrel
        by_cases hlt : i < 4
        · obtain ⟨x, ax, cx, hx, hxv, hxc, hxl, _, _⟩ := HG.out.next i hlt
          have hw0 := HG.out.start hx
          rw [hxv] at hw0
          have HW0 := hid0 hw0
          clear hw0 hxv hx HG
          have hiz : (i : Int) < 4 := by omega
          have hi0 : (0 : Int) ≤ (i : Int) := by omega
          go_wp2
          go_loopw [7, 8] (fun l j wr => ∃ (m : Nat) (lv : Value), m ≤ 64 ∧ j = .int .i64 (m : Int) ∧ lv = l ∧ Hid (Gw w base g cap i m x lv qs wr)) (fun _ j _ => 64 - (intOf j).toNat)
          case atStart => exact ⟨0, _, by omega, rfl, rfl, HW0⟩
          case round =>
            clear HW0 hxc
            obtain ⟨m, lv, hm, rfl, rfl, HW⟩ := hrel
            have hsW := HW.out.gr.big
            by_cases hml : m < 64
            · have hmz : (m : Int) < 64 := by omega
              go_wp2_with (at_builtin; go_loud (refine wpList_append_own_front _ rfl _ _ 25 rfl base 3 i0 (.int .i64 0) 1 8 Tryd.underlying25 hi' hz0 hz1 hz2 rfl (by decide) _ (x.2.length + m) (cellsI (x.2 ++ List.replicate m (-5))) rfl (World.ownsRow.alloc (HW.out.row rfl) _) ⟨wr.heap.size, 0, none⟩ 1 1 [.int .i64 (-5)] rfl rfl (cell_one_new _ _ _) (by simp [Value.oneCell']) (by unfold maxLen; omega) (by omega) (by simp; omega) ?_; intro v1 w1 hown' hgrow hat hfr; have HW1 := hid0 (HW.out.step rfl hown' hgrow hat hfr); clear hown' hgrow hat hfr))
              go_roundw
              case rel => exact ⟨m + 1, _, by omega, by go_num, rfl, HW1⟩
              case measure => simp [intOf]; omega
            · have hmz : ¬ (m : Int) < 64 := by omega
              have hm64 : m = 64 := by omega
              subst hm64
              obtain ⟨al, cl, rfl⟩ := HW.out.len
              have HG1 := hid0 HW.out.gr
              clear HW
              generalize x.2.length = n at *
              go_wp2
              go_roundw
              case rel => exact ⟨i + 1, y + (n + 64 : Nat), by omega, by go_num, by go_num, by omega, by omega, HG1⟩
              case measure => simp [intOf]; omega
        · have hiz : ¬ (i : Int) < 4 := by omega
          have hiI : (i : Int) = 4 := by omega
          have hi20 : i = 4 := by omega
          rw [hi20] at HG hy1 hy2
          rw [hiI]
          have HBl := hid0 HG.out.bel
          obtain ⟨wq, hwq⟩ : ∃ wq, wq = wr := ⟨_, rfl⟩
          subst hwq
          clear hi20 hiI hiz
          go_wp2
          go_loopw [9] (fun i w2 => ∃ k : Nat, k ≤ 4 ∧ i = .int .i64 (k : Int) ∧ ∃ q, w2 = wq.drewN q) (fun i _ => 4 - (intOf i).toNat)
          case atStart => exact ⟨0, by omega, rfl, 0, rfl⟩
          case round =>
            clear hlt hi
            obtain ⟨i, hi, rfl, q, rfl⟩ := hrel
            by_cases hlt : i < 4
            · have hiz : (i : Int) < 4 := by omega
              have hi0 : (0 : Int) ≤ (i : Int) := by omega
              obtain ⟨x, ax, cx, hx, hxv, hxc, hxl, hread, hall⟩ := HG.out.next i hlt
              have HR1 : Hid (∀ m, m < x.2.length → ∃ b off, ax = some ⟨b, off, none⟩ ∧ wq.cell? ⟨b, off + m, none⟩ = some (.int .i64 (-10 - (i : Int)))) := hid0 (fun m hm => by
                obtain ⟨b, off, e1, _, e2⟩ := hread.at' m hm
                rw [hall _ (List.getElem_mem hm)] at e2
                exact ⟨b, off, e1, e2⟩)
              clear hread hall hx hxv
              generalize x.2.length = n at *
              go_wp2
              go_loopw [10] (fun j w2 => ∃ m : Nat, m ≤ n ∧ j = .int .i64 (m : Int) ∧ ∃ q, w2 = wq.drewN q) (fun j _ => n - (intOf j).toNat)
              case atStart => exact ⟨0, by omega, rfl, _, rfl⟩
              case round =>
                obtain ⟨m, hm, rfl, q, rfl⟩ := hrel
                have hm0 : (0 : Int) ≤ (m : Int) := by omega
                by_cases hml : m < n
                · obtain ⟨b1, o1, rfl, d1⟩ := HR1.out m hml
                  have hmz : (m : Int) < (n : Int) := by omega
                  have hself : (-10 - (i : Int) == -10 - (i : Int)) = true := by simp
                  go_wp2
                  go_roundw
                  case rel => exact ⟨m + 1, by omega, by go_num, _, rfl⟩
                  case measure => simp [intOf]; omega
                · have hmz : ¬ (m : Int) < (n : Int) := by omega
                  go_wp2
                  go_roundw
                  case rel => exact ⟨i + 1, by omega, by go_num, _, rfl⟩
                  case measure => simp [intOf]; omega
            · have hiz : ¬ (i : Int) < 4 := by omega
              have hge : y ≥ 256 := by omega
              go_wp2
              go_ret
              exact ⟨rfl, below_drew' HBl.out _⟩
end Go.Proofs.YtmbpollfgmdinaaDoor
