/-
  Other points and places in the same lists (stage 23).
-/
import Derived.Test.YtooeagpopncmgaaDoorTfRW
namespace Go.Proofs.YtooeagpopncmgaaDoor
open Go.RowKit Go.Shelf
/-- A row in which numbers stand. -/
def IntRow (W : World) (g n : Nat) : Prop := ∃ cs, W.heap[g]? = some (.cells cs 3 (0, 0)) ∧ ∀ k, k < n → ∃ z, cs[k]? = some (.int .i64 z)
/-- Cases of given lengths, whatever stands in their lists. -/
structure YC (W : World) (lo G : Nat) (C : List Cs) : Prop where
  row : ∃ cs, W.heap[G]? = some (.cells cs 36 (0, 0))
  at' : ∀ i (h : i < C.length), ∃ gP gB cP cB : Nat, W.cell? ⟨G, i * 2, none⟩ = some (.slice (some ⟨gP, 0, none⟩) C[i].1.length cP) ∧ W.cell? ⟨G, i * 2 + 1, none⟩ = some (.slice (some ⟨gB, 0, none⟩) C[i].2.length cB) ∧ IntRow W gP C[i].1.length ∧ IntRow W gB C[i].2.length ∧ lo ≤ gP ∧ lo ≤ gB
theorem IntRow.set {W : World} {g n : Nat} (h : IntRow W g n) (g' k : Nat) (z : Int) (hg : ∃ cs, W.heap[g']? = some (.cells cs 3 (0, 0))) : IntRow (W.setCell ⟨g', k, none⟩ (.int .i64 z)) g n := by
  obtain ⟨cs, hcs, hz⟩ := h
  by_cases e : g = g'
  · subst e
    refine ⟨_, heap_setCell_same W g k cs 3 (.int .i64 z) hcs, fun j hj => ?_⟩
    obtain ⟨y, hy⟩ := hz j hj
    rw [Array.getElem?_setIfInBounds]
    by_cases e2 : k = j
    · rw [if_pos e2]
      have : k < cs.size := by rw [e2]; exact (Array.getElem?_eq_some_iff.1 hy).1
      rw [if_pos this]
      exact ⟨z, rfl⟩
    · rw [if_neg e2]
      exact ⟨y, hy⟩
  · exact ⟨cs, (Below.heap_setCell W _ _ g e).trans hcs, hz⟩
theorem YC.set {W : World} {lo G : Nat} {C : List Cs} (h : YC W lo G C) (g k : Nat) (z : Int) (hg : ∃ cs, W.heap[g]? = some (.cells cs 3 (0, 0))) : YC (W.setCell ⟨g, k, none⟩ (.int .i64 z)) lo G C := by
  obtain ⟨cG, hG⟩ := h.row
  obtain ⟨cg, hgg⟩ := hg
  have hne : G ≠ g := fun e => by
    subst e
    rw [hG] at hgg
    injection hgg with hgg
    injection hgg with _ hgg
    exact absurd hgg (by decide)
  have hGG := Below.heap_setCell W ⟨g, k, none⟩ (.int .i64 z) G hne
  have hc : ∀ o, (W.setCell ⟨g, k, none⟩ (.int .i64 z)).cell? ⟨G, o, none⟩ = W.cell? ⟨G, o, none⟩ := fun o => World.cell?_of_block (w := W) (w' := W.setCell ⟨g, k, none⟩ (.int .i64 z)) (a := ⟨G, o, none⟩) hGG
  refine ⟨⟨cG, hGG.trans hG⟩, fun i hi => ?_⟩
  obtain ⟨gP, gB, cP, cB, y0, y1, y2, y3, y4, y5⟩ := h.at' i hi
  exact ⟨gP, gB, cP, cB, (hc _).trans y0, (hc _).trans y1, y2.set g k z ⟨cg, hgg⟩, y3.set g k z ⟨cg, hgg⟩, y4, y5⟩
theorem OwnI.row {W : World} {lo g c m : Nat} {L M : List Int} (h : OwnI W lo (.slice (some ⟨g, 0, none⟩) m c) (L ++ M)) : IntRow W g L.length ∧ lo ≤ g := by
  have hia := h.front
  have hlo := (World.ownsRow.lt h g rfl).1
  refine ⟨?_, hlo⟩
  rcases h.2 with ⟨e1, _⟩ | ⟨g', cap, cur, e1, _, hr, _⟩
  · cases e1
  · injection e1 with e1
    injection e1 with e1
    injection e1 with e1
    subst e1
    refine ⟨cur, hr, fun k hk => ?_⟩
    obtain ⟨b, off, e, _, hc⟩ := hia.at' k hk
    cases e
    rw [Nat.zero_add, cell_of_row _ _ _ _ _ _ hr] at hc
    exact ⟨_, hc⟩
theorem CK.yc {W : World} {lo G c : Nat} {C : List Cs} (h : CK W lo G c C) : YC W lo G C := ⟨h.row, fun i hi => by
  obtain ⟨gP, gB, cP, cB, y0, y1, y2, y3⟩ := h.at' i hi
  exact ⟨gP, gB, cP, cB, y0, y1, y2.row.1, y3.row.1, y2.row.2, y3.row.2⟩⟩
/-- What stands there. -/
def valI : Option Value → Int | some (.int _ z) => z | _ => 0
def rdI (W : World) (g n : Nat) : List Int := (List.range n).map fun k => valI (W.cell? ⟨g, k, none⟩)
theorem rdI_ia {W : World} {g n : Nat} (h : IntRow W g n) : IA W (some ⟨g, 0, none⟩) (rdI W g n) := ⟨fun k hk => by
  obtain ⟨cs, hcs, hz⟩ := h
  have hk' : k < n := by simpa [rdI] using hk
  obtain ⟨z, hzz⟩ := hz k hk'
  have hc : W.cell? ⟨g, k, none⟩ = some (.int .i64 z) := by rw [cell_of_row _ _ _ _ _ _ hcs]; exact hzz
  refine ⟨g, 0, rfl, (Array.getElem?_eq_some_iff.1 hcs).1, ?_⟩
  rw [Nat.zero_add, hc]
  simp [rdI, hc, valI]⟩
def rdS (W : World) : Option Value → List Int | some (.slice (some a) n _) => rdI W a.block n | _ => []
def rdC (W : World) (G n : Nat) : List Cs := (List.range n).map fun i => (rdS W (W.cell? ⟨G, i * 2, none⟩), rdS W (W.cell? ⟨G, i * 2 + 1, none⟩))
theorem YC.read {W : World} {lo G : Nat} {C : List Cs} (h : YC W lo G C) : ∃ C' : List Cs, C'.length = C.length ∧ (∀ i (h1 : i < C'.length) (h2 : i < C.length), C'[i].1.length = C[i].1.length ∧ C'[i].2.length = C[i].2.length) ∧ CsA W (some ⟨G, 0, none⟩) C' := by
  have hat : ∀ i (h1 : i < (rdC W G C.length).length) (h2 : i < C.length), ∃ gP gB cP cB : Nat, (rdC W G C.length)[i] = (rdI W gP C[i].1.length, rdI W gB C[i].2.length) ∧ W.cell? ⟨G, i * 2, none⟩ = some (.slice (some ⟨gP, 0, none⟩) C[i].1.length cP) ∧ W.cell? ⟨G, i * 2 + 1, none⟩ = some (.slice (some ⟨gB, 0, none⟩) C[i].2.length cB) ∧ IntRow W gP C[i].1.length ∧ IntRow W gB C[i].2.length := fun i h1 h2 => by
    obtain ⟨gP, gB, cP, cB, y0, y1, y2, y3, _⟩ := h.at' i h2
    exact ⟨gP, gB, cP, cB, by simp [rdC, y0, y1, rdS], y0, y1, y2, y3⟩
  have hll : ∀ g n, (rdI W g n).length = n := fun g n => by simp [rdI]
  refine ⟨rdC W G C.length, by simp [rdC], fun i h1 h2 => ?_, ⟨fun k hk => ?_⟩⟩
  · obtain ⟨gP, gB, cP, cB, e, _⟩ := hat i h1 h2
    rw [e]
    exact ⟨hll _ _, hll _ _⟩
  · have hk2 : k < C.length := by simpa [rdC] using hk
    obtain ⟨gP, gB, cP, cB, e, y0, y1, y2, y3⟩ := hat k hk hk2
    obtain ⟨cG, hG⟩ := h.row
    refine ⟨G, 0, some ⟨gP, 0, none⟩, some ⟨gB, 0, none⟩, cP, cB, rfl, (Array.getElem?_eq_some_iff.1 hG).1, ?_, ?_, ?_, ?_⟩
    · rw [e, Nat.zero_add, hll]; exact y0
    · rw [e, Nat.zero_add, hll]; exact y1
    · rw [e]; exact rdI_ia y2
    · rw [e]; exact rdI_ia y3
theorem IntRow.cell {W : World} {g n : Nat} (h : IntRow W g n) (k : Nat) (hk : k < n) : ∃ z, W.cell? ⟨g, k, none⟩ = some (.int .i64 z) ∧ W.frozen? ⟨g, k, none⟩ = false := by
  obtain ⟨cs, hcs, hz⟩ := h
  obtain ⟨z, hzz⟩ := hz k hk
  exact ⟨z, by rw [cell_of_row _ _ _ _ _ _ hcs]; exact hzz, frozen_of_row _ _ _ _ _ hcs⟩
set_option maxRecDepth 10000 in
set_option maxHeartbeats 3200000 in
theorem other_any (C : List Cs) (lo G c : Nat) (w : World) (hl : C.length ≤ 1000000000) (hP : ∀ x ∈ C, x.1.length ≤ 1000000000 ∧ x.2.length ≤ 1000000000) (hY : YC w lo G C) :
    Calls Tryd.prog 10 #[.slice (some ⟨G, 0, none⟩) C.length c] w fun e w' => (∃ v, e = .returned v) ∧ Hid (YC w' lo G C ∧ Below lo w w') := by
  have HPm := hid0 hP
  obtain ⟨n, hn⟩ : ∃ n, n = C.length := ⟨_, rfl⟩
  have HN := hid0 hn
  have HY := hid0 hY
  rw [← hn] at hl ⊢
  clear hn hP hY
  go_enter Tryd.func10, Tryd.ntmps10
  go_wp2
  go_loopw [2, 3, 4] (fun v _ _ wr => ∃ k : Nat, k ≤ n ∧ v = .int .i64 (k : Int) ∧ Hid (YC wr lo G C) ∧ Hid (Below lo w wr)) (fun v _ _ _ => n - (intOf v).toNat)
  case atStart => exact ⟨0, Nat.zero_le _, rfl, HY, hid0 (Below.refl _ _)⟩
  case round =>
    clear HY
    obtain ⟨k, hk, rfl, HY, HB⟩ := hrel
    obtain ⟨wo, hwo⟩ : ∃ wo, wo = wr := ⟨_, rfl⟩
    subst hwo
    by_cases hlt : k < n
    · have hkI : (k : Int) < (n : Int) := by omega
      have hkI0 : (0 : Int) ≤ (k : Int) := by omega
      have hkr : k < C.length := by rw [← HN.out]; exact hlt
      have hp := HPm.out _ (List.getElem_mem hkr)
      have HA : Hid (∀ V, YC V lo G C → ∃ gP gB cP cB : Nat, V.cell? ⟨G, k * 2, none⟩ = some (.slice (some ⟨gP, 0, none⟩) (C[k]'hkr).1.length cP) ∧ V.cell? ⟨G, k * 2 + 1, none⟩ = some (.slice (some ⟨gB, 0, none⟩) (C[k]'hkr).2.length cB) ∧ IntRow V gP (C[k]'hkr).1.length ∧ IntRow V gB (C[k]'hkr).2.length ∧ lo ≤ gP ∧ lo ≤ gB) := hid0 (fun V hV => hV.at' k hkr)
      obtain ⟨nP, hnP⟩ : ∃ nP, nP = (C[k]'hkr).1.length := ⟨_, rfl⟩
      obtain ⟨nB, hnB⟩ : ∃ nB, nB = (C[k]'hkr).2.length := ⟨_, rfl⟩
      rw [← hnP, ← hnB] at HA hp
      have hp1 := hp.1
      have hp2 := hp.2
      clear hnP hnB hp hkr
      go_wp2
      go_loopw [3] (fun q wy => ∃ j : Nat, j ≤ nP ∧ q = .int .i64 (j : Int) ∧ Hid (YC wy lo G C) ∧ Hid (Below lo w wy)) (fun q _ => nP - (intOf q).toNat)
      case atStart => exact ⟨0, by omega, rfl, HY, HB⟩
      case round =>
        clear HY HB
        obtain ⟨j, hj, rfl, HY, HB⟩ := hrel
        obtain ⟨gP, gB, cP, cB, y0, y1, y2, y3, y4, y5⟩ := HA.out _ HY.out
        by_cases hjl : j < nP
        · have hjI : (j : Int) < (nP : Int) := by omega
          have hjI0 : (0 : Int) ≤ (j : Int) := by omega
          obtain ⟨z, c1, c2⟩ := y2.cell j hjl
          have s1 : IntKind.i64.wrap ((k : Int) + (j : Int)) = (k : Int) + (j : Int) := by rw [IntKind.wrap_i64]; omega
          obtain ⟨r, hr⟩ : ∃ r : Nat, r = (k + j) % 50 := ⟨_, rfl⟩
          have hr50 : r < 50 := by omega
          have s2 : ((k : Int) + (j : Int)).tmod 50 = (r : Int) := by rw [hr]; rfl
          have s3 : IntKind.i64.wrap (65 + (r : Int)) = 65 + (r : Int) := by rw [IntKind.wrap_i64]; omega
          obtain ⟨cs, hcs, _⟩ := y2
          have HY2 := hid0 (HY.out.set gP j (65 + (r : Int)) ⟨cs, hcs⟩)
          have HB2 := hid0 (HB.out.setCell (p := ⟨gP, j, none⟩) y4 (.int .i64 (65 + (r : Int))))
          clear hr hcs y3
          go_wp2
          go_roundw
          case rel => exact ⟨j + 1, by omega, by go_num, HY2, HB2⟩
          case measure => simp [intOf]; omega
        · have hjI : ¬ (j : Int) < (nP : Int) := by omega
          clear y2 y3
          go_wp2
          clear y0 y1
          go_loopw [4] (fun q wy => ∃ j : Nat, j ≤ nB ∧ q = .int .i64 (j : Int) ∧ Hid (YC wy lo G C) ∧ Hid (Below lo w wy)) (fun q _ => nB - (intOf q).toNat)
          case atStart => exact ⟨0, by omega, rfl, HY, HB⟩
          case round =>
            clear HY HB
            obtain ⟨i, hi, rfl, HY, HB⟩ := hrel
            obtain ⟨gP, gB, cP, cB, y0, y1, y2, y3, y4, y5⟩ := HA.out _ HY.out
            by_cases hil : i < nB
            · have hiI : (i : Int) < (nB : Int) := by omega
              have hiI0 : (0 : Int) ≤ (i : Int) := by omega
              obtain ⟨z, c1, c2⟩ := y3.cell i hil
              obtain ⟨cs, hcs, _⟩ := y3
              have HY2 := hid0 (HY.out.set gB i (i : Int) ⟨cs, hcs⟩)
              have HB2 := hid0 (HB.out.setCell (p := ⟨gB, i, none⟩) y5 (.int .i64 (i : Int)))
              clear hcs y2
              go_wp2
              go_roundw
              case rel => exact ⟨i + 1, by omega, by go_num, HY2, HB2⟩
              case measure => simp [intOf]; omega
            · have hiI : ¬ (i : Int) < (nB : Int) := by omega
              clear y2 y3
              go_wp2
              go_roundw
              case rel => exact ⟨k + 1, by omega, by go_num, HY, HB⟩
              case measure => simp [intOf]; omega
    · have hkI : ¬ (k : Int) < (n : Int) := by omega
      have HF := hid0 (And.intro HY.out HB.out)
      go_wp2
      go_end0
      exact ⟨⟨_, rfl⟩, HF⟩
end Go.Proofs.YtooeagpopncmgaaDoor
