/-
  The walks of caesuralaw0.refusals and caesuralaw0.Names.
-/
import Derived.Test.YtageiccempcbaabDoorSentW
import Derived.Deep.RegionHeld3
namespace Go.Proofs.YtageiccempcbaabDoor
open Go.RowKit
theorem Sents.drew {w : World} {A : Nat → Addr} (h : Sents w A) : Sents w.drew A := h.below ((Below.refl _ _).drew)
def elevenCells : Array Value := #[.int .i64 1, .int .i64 2, .int .i64 3, .int .i64 4, .int .i64 5, .int .i64 6, .int .i64 7, .int .i64 8, .int .i64 9, .int .i64 10, .int .i64 11]
theorem eleven_at (k : Nat) (hk : k < 11) : elevenCells[k]? = some (.int .i64 ((k : Int) + 1)) := by
  have h11 : k = 0 ∨ k = 1 ∨ k = 2 ∨ k = 3 ∨ k = 4 ∨ k = 5 ∨ k = 6 ∨ k = 7 ∨ k = 8 ∨ k = 9 ∨ k = 10 := by omega
  rcases h11 with rfl | rfl | rfl | rfl | rfl | rfl | rfl | rfl | rfl | rfl | rfl <;> rfl
set_option maxRecDepth 10000 in
set_option maxHeartbeats 3200000 in
theorem refusals_any (w : World) (A : Nat → Addr) (h : Sents w A) :
    Calls Tryd.prog 18 #[] w fun e w' => e = .returned (.bool true) ∧ Below w.heap.size w w' := by
  have d0 := h.c0
  have d1 := h.c1
  have d2 := h.c2
  have d3 := h.c3
  have d4 := h.c4
  have d5 := h.c5
  have d6 := h.c6
  have d7 := h.c7
  have d8 := h.c8
  have d9 := h.c9
  have d10 := h.c10
  have HD := hid1 h.drew
  clear h
  have r0 : refNo 0 = 1 := rfl
  have r1 : refNo 1 = 2 := rfl
  have r2 : refNo 2 = 3 := rfl
  have r3 : refNo 3 = 4 := rfl
  have r4 : refNo 4 = 5 := rfl
  have r5 : refNo 5 = 7 := rfl
  have r6 : refNo 6 = 6 := rfl
  have r7 : refNo 7 = 8 := rfl
  have r8 : refNo 8 = 9 := rfl
  have r9 : refNo 9 = 10 := rfl
  have r10 : refNo 10 = 11 := rfl
  go_enter Tryd.func18, Tryd.ntmps18
  go_wp2
  go_region_held3 (fun w' => w'.cell? ⟨6, 0, none⟩ = some (.iface 87 (.pointer (some (A 0)))) ∧ w'.cell? ⟨7, 0, none⟩ = some (.iface 87 (.pointer (some (A 1)))) ∧ w'.cell? ⟨4, 0, none⟩ = some (.iface 87 (.pointer (some (A 2)))) ∧ w'.cell? ⟨5, 0, none⟩ = some (.iface 87 (.pointer (some (A 3)))) ∧ w'.cell? ⟨8, 0, none⟩ = some (.iface 87 (.pointer (some (A 4)))) ∧ w'.cell? ⟨10, 0, none⟩ = some (.iface 87 (.pointer (some (A 5)))) ∧ w'.cell? ⟨9, 0, none⟩ = some (.iface 87 (.pointer (some (A 6)))) ∧ w'.cell? ⟨11, 0, none⟩ = some (.iface 87 (.pointer (some (A 7)))) ∧ w'.cell? ⟨12, 0, none⟩ = some (.iface 87 (.pointer (some (A 8)))) ∧ w'.cell? ⟨13, 0, none⟩ = some (.iface 87 (.pointer (some (A 9)))) ∧ w'.cell? ⟨14, 0, none⟩ = some (.iface 87 (.pointer (some (A 10))))) (first | go_keep)
    (first
    | (go_at_call 15; refine (kitNum_at _ A HD.out _ (by decide)).mono ?_; rintro e w1 ⟨rfl, hw1⟩; subst hw1))
  clear d0 r0 d1 r1 d2 r2 d3 r3 d4 r4 d5 r5 d6 r6 d7 r7 d8 r8 d9 r9 d10 r10
  go_wp2
  go_loopw [2] (fun i wr => ∃ k : Nat, k ≤ 11 ∧ i = .int .i64 k ∧ wr = (w.alloc (.cells elevenCells 3)).drew) (fun i _ => 11 - (intOf i).toNat)
  case atStart => exact ⟨0, Nat.zero_le _, rfl, rfl⟩
  case round =>
    obtain ⟨k, hk, rfl, rfl⟩ := hrel
    have hcell : k < 11 → ((w.alloc (.cells elevenCells 3)).drew).cell? ⟨w.heap.size, k, none⟩ = some (.int .i64 ((k : Int) + 1)) := fun hk => by
      show (w.alloc (.cells elevenCells 3)).cell? ⟨w.heap.size, k, none⟩ = _
      rw [cell_of_row _ w.heap.size k _ _ _ (heap_alloc_new w _)]
      exact eleven_at k hk
    by_cases hlt : k < 11
    · have hck := hcell hlt
      clear hcell
      go_wp2
      go_roundw
      case rel => exact ⟨k + 1, by omega, by go_num, by first | rfl | trivial⟩
      case measure => simp [intOf]; omega
    · clear hcell
      go_wp2_with (go_at_call 15; refine (kitNum_nil _).mono ?_; rintro e w1 ⟨rfl, rfl⟩)
      go_ret
      exact ⟨rfl, ((Below.refl _ _).alloc (Nat.le_refl _) _).drew⟩
/-- Two tables of one content. -/
structure Tabs (w : World) (L K : Nat → Int) : Prop where
  l1 : ∀ k, k < 25 → w.cell? ⟨0, k, none⟩ = some (.int .i64 (L k))
  l2 : ∀ k, k < 25 → w.cell? ⟨1, k, none⟩ = some (.int .i64 (L k))
  k1 : ∀ k, k < 11 → w.cell? ⟨2, k, none⟩ = some (.int .i64 (K k))
  k2 : ∀ k, k < 11 → w.cell? ⟨3, k, none⟩ = some (.int .i64 (K k))
theorem Tabs.below {w w' : World} {L K : Nat → Int} (h : Tabs w L K) (hb : Below w.heap.size w w') : Tabs w' L K where
  l1 := fun k hk => (hb.cell (p := ⟨0, k, none⟩) (World.block_lt_of_cell? w _ (h.l1 k hk))).trans (h.l1 k hk)
  l2 := fun k hk => (hb.cell (p := ⟨1, k, none⟩) (World.block_lt_of_cell? w _ (h.l2 k hk))).trans (h.l2 k hk)
  k1 := fun k hk => (hb.cell (p := ⟨2, k, none⟩) (World.block_lt_of_cell? w _ (h.k1 k hk))).trans (h.k1 k hk)
  k2 := fun k hk => (hb.cell (p := ⟨3, k, none⟩) (World.block_lt_of_cell? w _ (h.k2 k hk))).trans (h.k2 k hk)
set_option maxRecDepth 10000 in
set_option maxHeartbeats 800000 in
theorem names_walk (w : World) (A : Nat → Addr) (L K : Nat → Int) (h : Sents w A) (hT : Tabs w L K) :
    Calls Tryd.prog 4 #[] w fun e w' => e = .returned (.bool true) ∧ Below w.heap.size w w' := by
  have hR := refusals_any w A h
  clear h
  have HT := hid1 hT
  clear hT
  go_enter Tryd.func4, Tryd.ntmps4
  go_wp2_with (go_at_call 18; refine hR.mono ?_; rintro e w1 ⟨rfl, hb1⟩; have HB1 := hid1 hb1; have HT1 := hid1 (HT.out.below hb1); clear hb1)
  go_loopw [2] (fun i wr => ∃ k n : Nat, k ≤ 25 ∧ i = .int .i64 k ∧ wr = w1.drewN n) (fun i _ => 25 - (intOf i).toNat)
  case atStart => exact ⟨0, 0, Nat.zero_le _, rfl, rfl⟩
  case round =>
    obtain ⟨k, n, hk, rfl, rfl⟩ := hrel
    by_cases hlt : k < 25
    · have c1 := HT1.out.l1 k hlt
      have c2 := HT1.out.l2 k hlt
      have hkI : (k : Int) < 25 := by omega
      have hk0 : (0 : Int) ≤ (k : Int) := by omega
      go_wp2
      go_quiet ((fail))
      go_wp2
      go_roundw
      case rel => exact ⟨k + 1, _, by omega, by go_num, rfl⟩
      case measure => simp [intOf]; omega
    · go_wp2
      go_loopw [3] (fun i wr => ∃ k m : Nat, k ≤ 11 ∧ i = .int .i64 k ∧ wr = w1.drewN m) (fun i _ => 11 - (intOf i).toNat)
      case atStart => exact ⟨0, n, Nat.zero_le _, rfl, rfl⟩
      case round =>
        obtain ⟨j, m, hj, rfl, rfl⟩ := hrel
        by_cases hlj : j < 11
        · have c1 := HT1.out.k1 j hlj
          have c2 := HT1.out.k2 j hlj
          have hkI : (j : Int) < 11 := by omega
          have hk0 : (0 : Int) ≤ (j : Int) := by omega
          go_wp2
          go_quiet ((fail))
          go_wp2
          go_roundw
          case rel => exact ⟨j + 1, _, by omega, by go_num, rfl⟩
          case measure => simp [intOf]; omega
        · go_wp2
          go_ret
          exact ⟨rfl, below_drewN HB1.out _⟩
end Go.Proofs.YtageiccempcbaabDoor
