/-
  LeLW, Door, SentP, LaidQ, LeP.
-/
import Derived.Test.YtlnejmmhhmmomaaGreatDoorMrf
import Derived.Test.YtlnejmmhhmmomaaGreatDoorCards
import Derived.Test.YtlnejmmhhmmomaaGreatDoorTie
import Derived.WalkKit
import Derived.ProofKit
import Derived.OpenShut
import Derived.Deep.DeepHandedRow
import Derived.Lib.LaidTab
import Derived.Lib.SmallJoins
import Derived.Test.YtlnejmmhhmmomaaGreatDoorMra
import Derived.Stop.LaidErr
import Derived.Test.YtlnejmmhhmmomaaGreatDoorMrc
import Derived.Lib.LaidU8
import Derived.Shelf.Vars
import Derived.Lay
import Derived.LaidMore
import Derived.ChangeSlices
import Derived.Deep.Slices
namespace Go.Proofs.YtlnejmmhhmmomaaGreatDoor
open Go.RowKit Go.Shelf Go.Lib
set_option maxRecDepth 10000 in
set_option maxHeartbeats 3200000 in
theorem localeResolves_any (A : Nat → Addr) (L : List Sec) (a : Option Addr) (c : Nat) (t : ByteArray) (w : World) (hl : L.length ≤ 1000000) (hb0 : ∀ s ∈ L, s.ed.length ≤ 2000000) (hz : ∀ s ∈ L, ∀ e ∈ s.ed, e.2.size ≤ 4194400) (hE : Env A w) (ha : XB w a L) :
    Calls Tryz.prog 3 #[.agg #[.slice a L.length c, .string t]] w fun e w' => e = .returned (.bool true) ∧ Below w.heap.size w w' := by
  have hb : ∀ s ∈ L, s.ed.length ≤ 1000000000 := fun s hs => Nat.le_trans (hb0 s hs) (by decide)
  obtain ⟨r1, hr1⟩ := res_ex L t
  have HR1 := hid0 hr1
  have HBR := hid0 hb0
  clear hr1 hb0
  obtain ⟨w0, hw0⟩ : ∃ w0, w0 = w.alloc (.cells #[.slice a L.length c, .string t] 26) := ⟨_, rfl⟩
  have hs0 : w0.heap.size = w.heap.size + 1 := by rw [hw0]; simp
  have hB0 : Below w.heap.size w w0 := by rw [hw0]; exact (Below.refl _ _).alloc (Nat.le_refl _) _
  have hX0 : w0.heap[w.heap.size]? = some (.cells #[.slice a L.length c, .string t] 26 (0, 0)) := by rw [hw0]; exact heap_alloc_new w _
  have HX : Hid (∀ W, Below w0.heap.size w0 W → W.cell? ⟨w.heap.size, 0, none⟩ = some (.slice a L.length c) ∧ W.cell? ⟨w.heap.size, 1, none⟩ = some (.string t)) := hid0 (fun W hW => by
    have hr := (hW.block w.heap.size (by omega)).trans hX0
    exact ⟨by rw [cell_of_row _ _ _ _ _ _ hr]; rfl, by rw [cell_of_row _ _ _ _ _ _ hr]; rfl⟩)
  obtain ⟨x0, x1⟩ := HX.out w0 (Below.refl _ _)
  have HE : Hid (∀ W, Below w0.heap.size w0 W → Env A W) := hid0 (fun W hW => (hE.below hB0).below hW)
  have HXA : Hid (∀ W, Below w0.heap.size w0 W → XA W a L) := hid0 (fun W hW => ((ha.later hB0).later hW).xa)
  have HO := hid0 (own_any L a c w0 hl hb (ha.later hB0))
  have HBD := hid0 hb
  have HZD := hid0 hz
  have HBC : Hid (∀ s ∈ L, s.ed.length ≤ 140737488355328) := hid0 (fun s hs => Nat.le_trans (hb s hs) (by decide))
  have HZC : Hid (∀ s ∈ L, ∀ e ∈ s.ed, e.2.size ≤ 140737488355328) := hid0 (fun s hs e he => Nat.le_trans (hz s hs e he) (by decide))
  have HB0 := hid0 hB0
  have HS0 := hid0 hs0
  have hfold := hw0.symm
  clear hw0 hs0 hB0 hX0 hE ha hb hz
  have M0 : Hid True := trivial
  go_enter Tryz.func3, Tryz.ntmps3
  go_wp2_with (first
    | (go_at_call 5; clear M0
       refine HO.out.mono ?_
       rintro e w1 ⟨g, cap, S, rfl, hcap, hS, hG, hb1⟩
       obtain ⟨y0, y1⟩ := HX.out w1 hb1
       obtain ⟨wk, hwk⟩ : ∃ wk, wk = w1.alloc (.cells #[.slice (some ⟨g, 0, none⟩) L.length cap] 24) := ⟨_, rfl⟩
       have c1 : (w1.alloc (.cells #[.slice (some ⟨g, 0, none⟩) L.length cap] 24)).cell? ⟨w.heap.size, 1, none⟩ = some (.string t) := cell_al y1 _
       have hbk : Below w0.heap.size w0 wk := by rw [hwk]; exact hb1.alloc hb1.size _
       have hsk : wk.heap.size = w1.heap.size + 1 := by rw [hwk]; simp
       have hXk : wk.heap[w1.heap.size]? = some (.cells #[.slice (some ⟨g, 0, none⟩) L.length cap] 24 (0, 0)) := by rw [hwk]; exact heap_alloc_new w1 _
       have HT : Hid (∀ W : World, W.heap[w1.heap.size]? = wk.heap[w1.heap.size]? → W.cell? ⟨w1.heap.size, 0, none⟩ = some (.slice (some ⟨g, 0, none⟩) L.length cap)) := hid0 (fun W hW => bun_cell (hW.trans hXk))
       have HG : Hid (Giv wk w0.heap.size (.slice (some ⟨g, 0, none⟩) (L.length + 64) cap) S 64) := hid0 (hG.keep (fun q _ hq => by rw [hwk]; exact Below.heap_alloc w1 _ q hq))
       have HGl : Hid (w0.heap.size ≤ g ∧ g < w1.heap.size) := hid0 ⟨(World.ownsRow.lt hG.row g rfl).1, (World.ownsRow.lt hG.row g rfl).2⟩
       have HS := hid0 hS
       have HLT : Hid (∀ x ∈ S, x.blk < w1.heap.size) := hid0 (fun x hx => (World.ownsRow.lt (hG.ed x hx) x.blk rfl).2)
       have HSl : Hid (S.length = L.length) := hid0 (by have h := congrArg List.length hS; rw [List.length_map] at h; exact h)
       have HBK := hid0 hbk
       have HSK := hid0 hsk
       have HWK := hid0 hwk.symm
       have M1 : Hid True := trivial
       clear hG hS hb1 hwk hbk hsk hXk y0 y1)
    | (go_at_call 6; clear M1
       rw [HWK.out]
       have hE1 := HE.out wk HBK.out
       have hxa := HG.out.xa (by have := HSl.out; omega)
       rw [HS.out] at hxa
       refine (resolve_any A L (some ⟨g, 0, none⟩) cap t wk hl (by omega) HBD.out HZC.out hE1.mx hE1.tb hE1.sq hE1.se hxa).mono ?_
       rintro e w2 ⟨hgo, hb2⟩
       obtain ⟨v1, a1, k1, rfl, rfl, hs1, _⟩ := HR1.out.go _ _ _ _ hgo
       obtain ⟨y0, y1⟩ := HX.out w2 (Below.later HBK.out hb2)
       have t0 := HT.out w2 (hb2.block _ (by have := HSK.out; omega))
       have HB2 := hid0 hb2
       have HS1 := hid0 hs1
       have M2 : Hid True := trivial
       clear hb2 hgo hs1 c1 x0 x1 hfold hE1 hxa)
    | (go_at_call 7; clear M2
       refine (refResolve_any L a c t w2 hl HBR.out HZD.out (HXA.out w2 (Below.later HBK.out HB2.out))).mono ?_
       rintro e w3 ⟨hgo, hb3'⟩
       obtain ⟨a2, k2, rfl, hs2⟩ := HR1.out.ref _ _ hgo
       have hb3 := Below.later HB2.out hb3'
       obtain ⟨z0, z1⟩ := HX.out w3 (Below.later HBK.out hb3)
       have u0 := HT.out w3 (hb3.block _ (by have := HSK.out; omega))
       have HB3 := hid0 hb3
       have HS1' := hid0 (HS1.out.below hb3')
       have HS2 := hid0 hs2
       have M3 : Hid True := trivial
       clear hb3 hb3' hgo hs2 HB2 HS1 y0 y1 t0)
    | (go_at_call 8; clear M3
       refine (sameS (lstR r1) a1 a2 k1 k2 w3 (by have := HR1.out.le; omega) HS1'.out HS2.out).mono ?_
       rintro e w4 ⟨rfl, n4, rfl⟩
       have hb4 : Below wk.heap.size wk (w3.drewN n4) := below_drew' HB3.out n4
       obtain ⟨y0, y1⟩ := HX.out _ (Below.later HBK.out hb4)
       have t0 := HT.out _ (hb4.block _ (by have := HSK.out; omega))
       have HB4 := hid0 hb4
       have M4 : Hid True := trivial
       clear hb4 HB3 HS1' HS2 z0 z1 u0)
    | (go_at_call 9; clear M4
       refine (kept_any L S a c g cap w0.heap.size (w3.drewN n4) hl HBD.out hcap HS.out (HG.out.keep (fun q _ hq => HB4.out.block q hq)) (HXA.out _ (Below.later HBK.out HB4.out))).mono ?_
       rintro e w5 ⟨rfl, hb5'⟩
       have hb5 := Below.later HB4.out hb5'
       obtain ⟨z0, z1⟩ := HX.out w5 (Below.later HBK.out hb5)
       have u0 := HT.out w5 (hb5.block _ (by have := HSK.out; omega))
       have HB5 := hid0 hb5
       have M5 : Hid True := trivial
       clear hb5 hb5' HB4 y0 y1 t0)
    | (go_at_call 10; clear M5
       refine (num_r (HE.out w5 (Below.later HBK.out HB5.out)).se r1 HR1.out.lt).mono ?_
       rintro e w6 ⟨rfl, hw6⟩
       have hw6' := hw6.symm
       subst hw6'
       generalize numR r1 = nr at *
       have hnr : (nr != nr) = false := by simp
       have M6 : Hid True := trivial
       clear hw6))
  have HSt : Hid (S.map (·.s) = flS L 0 0) := hid0 (by rw [HS.out, flS_zero]; simp)
  have HG5 := hid0 (HG.out.keep (w' := w5) (fun q _ hq => HB5.out.block q hq))
  have HW5 := hid0 (Below.later HBK.out HB5.out)
  have HK5 : Hid (w5.heap[w1.heap.size]? = wk.heap[w1.heap.size]?) := hid0 (HB5.out.block _ (by have := HSK.out; omega))
  clear z0 z1 u0
  go_loopw [10] (fun i wr => ∃ (k : Nat) (S' : List SecAt), k ≤ L.length ∧ i = .int .i64 (k : Int) ∧ Hid (S'.map (·.s) = flS L k 0) ∧ Hid (S'.map SecAt.blk = S.map SecAt.blk) ∧ Hid (Giv wr w0.heap.size (.slice (some ⟨g, 0, none⟩) (L.length + 64) cap) S' 64) ∧ Hid (Below w0.heap.size w0 wr) ∧ Hid (wr.heap[w1.heap.size]? = wk.heap[w1.heap.size]?)) (fun i _ => L.length - (intOf i).toNat)
  case atStart => exact ⟨0, S, Nat.zero_le _, rfl, HSt, hid0 rfl, HG5, HW5, HK5⟩
  case round =>
    clear HSt HG5 HW5 HK5
    obtain ⟨k, S', hk, rfl, HSt, HBk, HGr, HWr, HKr⟩ := hrel
    have hSl : S'.length = L.length := by
      have h := congrArg List.length HSt.out
      rw [flS_zero] at h
      simp only [List.length_map, List.length_append, List.length_take, List.length_drop] at h
      omega
    have t0 := HT.out wr HKr.out
    obtain ⟨z0, z1⟩ := HX.out wr HWr.out
    by_cases hlt : k < L.length
    · have hkI : (k : Int) < (L.length : Int) := by omega
      have hkI0 : (0 : Int) ≤ (k : Int) := by omega
      have hkS : k < S'.length := by omega
      have p0 := HGr.out.secCell (by omega) k hkS
      have hkT : k < S.length := by have := HSl.out; omega
      have hedl : S'[k].s.ed.length = L[k].ed.length := by rw [flS_ed hlt HSt.out hkS]; simp only [flN_length]
      have hed2 := HBD.out L[k] (List.getElem_mem hlt)
      have hbk := blk_of HBk.out k hkS hkT
      obtain ⟨ck, hck⟩ : ∃ ck, ck = S'[k].cap := ⟨_, rfl⟩
      have HLk : Hid (S[k].blk < w1.heap.size) := hid0 (HLT.out S[k] (List.getElem_mem hkT))
      rw [hedl, hbk, ← hck] at p0
      obtain ⟨bk, hbk2⟩ : ∃ bk, bk = S[k].blk := ⟨_, rfl⟩
      have HBQ := hid0 hbk2
      rw [← hbk2] at p0 HLk
      obtain ⟨ne, hne⟩ : ∃ ne, ne = L[k].ed.length := ⟨_, rfl⟩
      have HNE := hid0 hne
      rw [← hne] at p0 hed2
      clear hedl hbk hck hne hbk2
      go_wp2
      go_loopw [12] (fun i wi => ∃ (j : Nat) (S2 : List SecAt), j ≤ ne ∧ i = .int .i64 (j : Int) ∧ Hid (S2.map (·.s) = flS L k j) ∧ Hid (S2.map SecAt.blk = S.map SecAt.blk) ∧ Hid (Giv wi w0.heap.size (.slice (some ⟨g, 0, none⟩) (L.length + 64) cap) S2 64) ∧ Hid (Below w0.heap.size w0 wi) ∧ Hid (wi.heap[w1.heap.size]? = wk.heap[w1.heap.size]?)) (fun i _ => ne - (intOf i).toNat)
      case atStart => exact ⟨0, S', Nat.zero_le _, rfl, HSt, HBk, HGr, HWr, HKr⟩
      case round =>
        clear HSt HBk HGr HWr HKr t0 z0 z1 p0 hSl hkS
        obtain ⟨j, S2, hj, rfl, HSt, HBk, HGr, HWr, HKr⟩ := hrel
        have hkS : k < S2.length := by
          have h := congrArg List.length HSt.out
          rw [flS_length L k j hlt, List.length_map] at h
          omega
        have t0 := HT.out wr HKr.out
        by_cases hjl : j < ne
        · have hjI : (j : Int) < (ne : Int) := by omega
          have hjI0 : (0 : Int) ≤ (j : Int) := by omega
          have hne := HNE.out
          have hj1 : j < L[k].ed.length := by omega
          have hj2 : j < S2[k].s.ed.length := by rw [flS_ed hlt HSt.out hkS]; simp only [flN_length]; exact hj1
          have hbk : S2[k].blk = bk := (blk_of HBk.out k hkS hkT).trans HBQ.out.symm
          obtain ⟨p0, p1⟩ := HGr.out.edCell k hkS j hj2
          have hgN := HGr.out.edSet k hkS j hj2 (!S2[k].s.ed[j].1)
          have HSN := hid0 (flS_step hlt hj1 HSt.out hkS hj2)
          have hlo := World.ownsRow.lt (HGr.out.ed S2[k] (List.getElem_mem hkS)) S2[k].blk rfl
          have hBN : Below w0.heap.size w0 (wr.setCell ⟨S2[k].blk, j * 2, none⟩ (.bool !S2[k].s.ed[j].1)) := HWr.out.setCell hlo.1 _
          have hnk : S2[k].blk ≠ w1.heap.size := by have := HLk.out; omega
          have hKN : (wr.setCell ⟨S2[k].blk, j * 2, none⟩ (.bool !S2[k].s.ed[j].1)).heap[w1.heap.size]? = wk.heap[w1.heap.size]? := (Below.heap_setCell wr _ _ w1.heap.size (by simp; omega)).trans HKr.out
          have HBN : Hid ((S2.set k (edA S2[k] (S2[k].s.ed.set j (!S2[k].s.ed[j].1, S2[k].s.ed[j].2)))).map SecAt.blk = S.map SecAt.blk) := hid0 ((blk_set k hkS (edA S2[k] (S2[k].s.ed.set j (!S2[k].s.ed[j].1, S2[k].s.ed[j].2))) rfl).trans HBk.out)
          rw [hbk] at p0 p1 hBN hKN hgN
          generalize S2[k].s.ed[j].1 = bb at *
          have HGN := hid0 hgN
          have HWN := hid0 hBN
          have HKN := hid0 hKN
          clear hgN hBN hKN hlo hnk hbk hne HSt HBk HGr HWr HKr
          go_wp2
          go_roundw
          case rel => exact ⟨j + 1, _, by omega, by go_num, HSN, HBN, HGN, HWN, HKN⟩
          case measure => simp [intOf]; omega
        · have hjI : ¬ (j : Int) < (ne : Int) := by omega
          obtain rfl : j = ne := by omega
          have HSN : Hid (S2.map (·.s) = flS L (k + 1) 0) := hid0 (by rw [HSt.out, HNE.out]; exact flS_full L k hlt)
          clear HSt
          go_wp2
          go_roundw
          case rel => exact ⟨k + 1, _, by omega, by go_num, HSN, HBk, HGr, HWr, HKr⟩
          case measure => simp [intOf]; omega
    · have hkI : ¬ (k : Int) < (L.length : Int) := by omega
      have hS' : S'.map (·.s) = L.map flp := by
        have h := HSt.out
        rw [flS_zero, List.take_of_length_le (by omega), List.drop_eq_nil_of_le (by omega), List.append_nil] at h
        exact h
      have hxa := HGr.out.xa (by omega)
      rw [hS'] at hxa
      have HXr := hid0 hxa
      have HLm : Hid ((L.map flp).length = L.length) := hid0 (by simp)
      have HBR' : Hid (∀ s ∈ L.map flp, s.ed.length ≤ 2000000) := hid0 (fun s hs => by obtain ⟨y, hy, rfl⟩ := List.mem_map.1 hs; simp only [flp, List.length_map]; exact HBR.out y hy)
      have HBD' : Hid (∀ s ∈ L.map flp, s.ed.length ≤ 1000000000) := hid0 (fun s hs => Nat.le_trans (HBR'.out s hs) (by decide))
      have HZD' : Hid (∀ s ∈ L.map flp, ∀ e ∈ s.ed, e.2.size ≤ 4194400) := hid0 (fun s hs e he => by obtain ⟨y, hy, rfl⟩ := List.mem_map.1 hs; simp only [flp] at he; obtain ⟨z, hz, rfl⟩ := List.mem_map.1 he; exact HZD.out y hy z hz)
      have HZC' : Hid (∀ s ∈ L.map flp, ∀ e ∈ s.ed, e.2.size ≤ 140737488355328) := hid0 (fun s hs e he => Nat.le_trans (HZD'.out s hs e he) (by decide))
      obtain ⟨r2, hr2⟩ := res_ex (L.map flp) t
      have HR2 := hid0 hr2
      have HC1 : Hid (Calls Tryz.prog 7 #[.agg #[.slice (some ⟨g, 0, none⟩) L.length cap], .string t] wr fun e w' => RefResolve w' (L.map flp) t e ∧ Below wr.heap.size wr w') := hid0 (by
        have h := refResolve_any (L.map flp) (some ⟨g, 0, none⟩) cap t wr (by rw [HLm.out]; exact hl) HBR'.out HZD'.out hxa
        rw [HLm.out] at h
        exact h)
      have HC2 : Hid (∀ W, Below wr.heap.size wr W → Calls Tryz.prog 6 #[.agg #[.slice (some ⟨g, 0, none⟩) L.length cap], .string t] W fun e w' => GoResolve A W.heap.size w' (L.map flp) t e ∧ Below W.heap.size W w') := hid0 (fun W hW => by
        have hE1 := HE.out W (Below.later HWr.out hW)
        have h := resolve_any A (L.map flp) (some ⟨g, 0, none⟩) cap t W (by rw [HLm.out]; exact hl) (by rw [HLm.out]; omega) HBD'.out HZC'.out hE1.mx hE1.tb hE1.sq hE1.se (HXr.out.later hW)
        rw [HLm.out] at h
        exact h)
      have HKl : Hid (w1.heap.size < wr.heap.size) := hid0 (World.block_lt_of_cell? wr _ t0)
      clear hS' hxa hSl HXr HSt HGr hr2
      generalize L.map flp = L2 at *
      have M7 : Hid True := trivial
      go_wp2_with (first
        | (go_at_call 7; clear M7
           refine HC1.out.mono ?_
           rintro e w7 ⟨hgo, hb7⟩
           obtain ⟨a3, k3, rfl, hs3⟩ := HR2.out.ref _ _ hgo
           obtain ⟨y0, y1⟩ := HX.out w7 (Below.later HWr.out hb7)
           have u0 := HT.out w7 ((hb7.block _ HKl.out).trans HKr.out)
           have HB7 := hid0 hb7
           have HS3 := hid0 hs3
           have M8 : Hid True := trivial
           clear hb7 hgo hs3 z0 z1 t0)
        | (go_at_call 6; clear M8
           refine (HC2.out w7 HB7.out).mono ?_
           rintro e w8 ⟨hgo, hb8'⟩
           obtain ⟨v4, a4, k4, rfl, rfl, hs4, _⟩ := HR2.out.go _ _ _ _ hgo
           have hb8 := Below.later HB7.out hb8'
           have HB8 := hid0 hb8
           have HS3' := hid0 (HS3.out.below hb8')
           have HS4 := hid0 hs4
           have M9 : Hid True := trivial
           clear hb8 hb8' hgo hs4 HS3 y0 y1 u0)
        | (go_at_call 8; clear M9
           refine (sameS (lstR r2) a4 a3 k4 k3 w8 (by have := HR2.out.le; omega) HS4.out HS3'.out).mono ?_
           rintro e w9 ⟨rfl, n9, rfl⟩
           have HB9 := hid0 (below_drew' (Below.later HWr.out HB8.out) n9)
           have MA : Hid True := trivial
           clear HS4 HS3')
        | (go_at_call 10; clear MA
           refine (num_r (HE.out _ HB9.out).se r2 HR2.out.lt).mono ?_
           rintro e wA ⟨rfl, hwA⟩
           have hwA' := hwA.symm
           subst hwA'
           generalize numR r2 = nr2 at *
           have hnr2 : (nr2 == nr2) = true := by simp
           have HBE := hid0 (Below.later HB0.out HB9.out)
           clear hwA))
      go_ret
      exact ⟨by simp, HBE.out⟩
end Go.Proofs.YtlnejmmhhmmomaaGreatDoor
namespace Go.Proofs.YtlnejmmhhmmomaaGreatDoor
open Go.ChangeShapes Go.WideShapes Go.ChangeAt Go.RowKit
theorem own : ownKnob Tryz.prog.godebug = none := by kernel_rfl
/-- The settled world, the listed variables holding what their initialisers lay. -/
def laidWorld (hold : World) : World := { hold with heap := (((((((((((((((((((((((((hold.heap.modify 0 fun | .cells _ t frozen => .cells #[.iface 185 (.pointer (some ⟨hold.heap.size + 0, 0, none⟩))] t frozen | o => o).modify 1 fun | .cells _ t frozen => .cells #[.iface 185 (.pointer (some ⟨hold.heap.size + 1, 0, none⟩))] t frozen | o => o).modify 2 fun | .cells _ t frozen => .cells #[.iface 185 (.pointer (some ⟨hold.heap.size + 2, 0, none⟩))] t frozen | o => o).modify 3 fun | .cells _ t frozen => .cells #[.iface 185 (.pointer (some ⟨hold.heap.size + 3, 0, none⟩))] t frozen | o => o).modify 4 fun | .cells _ t frozen => .cells #[.iface 185 (.pointer (some ⟨hold.heap.size + 4, 0, none⟩))] t frozen | o => o).modify 5 fun | .cells _ t frozen => .cells #[.iface 185 (.pointer (some ⟨hold.heap.size + 5, 0, none⟩))] t frozen | o => o).modify 6 fun | .cells _ t frozen => .cells #[.iface 185 (.pointer (some ⟨hold.heap.size + 6, 0, none⟩))] t frozen | o => o).modify 7 fun | .cells _ t frozen => .cells #[.iface 185 (.pointer (some ⟨hold.heap.size + 7, 0, none⟩))] t frozen | o => o).modify 8 fun | .cells _ t frozen => .cells #[.iface 185 (.pointer (some ⟨hold.heap.size + 8, 0, none⟩))] t frozen | o => o).modify 9 fun | .cells _ t frozen => .cells #[.iface 185 (.pointer (some ⟨hold.heap.size + 9, 0, none⟩))] t frozen | o => o).modify 10 fun | .cells _ t frozen => .cells #[.iface 185 (.pointer (some ⟨hold.heap.size + 10, 0, none⟩))] t frozen | o => o).modify 12 fun | .cells _ t frozen => .cells (Go.Pinned.utf8FirstZ.map fun n => Value.int .u8 (Int.ofNat n)).toArray t frozen | o => o).modify 13 fun | .cells _ t frozen => .cells #[.int .u8 128, .int .u8 191, .int .u8 160, .int .u8 191, .int .u8 128, .int .u8 159, .int .u8 144, .int .u8 191, .int .u8 128, .int .u8 143, .int .u8 0, .int .u8 0, .int .u8 0, .int .u8 0, .int .u8 0, .int .u8 0, .int .u8 0, .int .u8 0, .int .u8 0, .int .u8 0, .int .u8 0, .int .u8 0, .int .u8 0, .int .u8 0, .int .u8 0, .int .u8 0, .int .u8 0, .int .u8 0, .int .u8 0, .int .u8 0, .int .u8 0, .int .u8 0] t frozen | o => o).modify 15 fun | .cells _ t frozen => .cells #[.int .u8 0, .int .u8 127, .int .u8 0, .int .u8 0, .int .i64 1, .int .u8 0, .int .u8 194, .int .u8 223, .int .u8 128, .int .u8 191, .int .i64 2, .int .u8 192, .int .u8 224, .int .u8 224, .int .u8 160, .int .u8 191, .int .i64 3, .int .u8 224, .int .u8 225, .int .u8 236, .int .u8 128, .int .u8 191, .int .i64 3, .int .u8 224, .int .u8 237, .int .u8 237, .int .u8 128, .int .u8 159, .int .i64 3, .int .u8 224, .int .u8 238, .int .u8 239, .int .u8 128, .int .u8 191, .int .i64 3, .int .u8 224, .int .u8 240, .int .u8 240, .int .u8 144, .int .u8 191, .int .i64 4, .int .u8 240, .int .u8 241, .int .u8 243, .int .u8 128, .int .u8 191, .int .i64 4, .int .u8 240, .int .u8 244, .int .u8 244, .int .u8 128, .int .u8 143, .int .i64 4, .int .u8 240] t frozen | o => o).push (.cells #[.string ⟨#[97, 98, 111, 118, 101, 32, 97, 32, 108, 105, 109, 105, 116]⟩] 199)).push (.cells #[.string ⟨#[97, 32, 110, 117, 109, 98, 101, 114, 32, 111, 114, 32, 97, 110, 32, 97, 114, 103, 117, 109, 101, 110, 116, 32, 105, 115, 32, 111, 117, 116, 32, 111, 102, 32, 105, 116, 115, 32, 112, 108, 97, 99, 101]⟩] 199)).push (.cells #[.string ⟨#[97, 32, 116, 101, 120, 116, 32, 111, 114, 32, 98, 121, 116, 101, 115, 32, 116, 104, 97, 116, 32, 99, 97, 110, 110, 111, 116, 32, 98, 101, 32, 114, 101, 97, 100]⟩] 199)).push (.cells #[.string ⟨#[115, 111, 109, 101, 116, 104, 105, 110, 103, 32, 105, 115, 32, 109, 105, 115, 115, 105, 110, 103]⟩] 199)).push (.cells #[.string ⟨#[116, 104, 101, 114, 101, 32, 116, 119, 105, 99, 101]⟩] 199)).push (.cells #[.string ⟨#[110, 111, 116, 32, 105, 110, 32, 111, 114, 100, 101, 114]⟩] 199)).push (.cells #[.string ⟨#[110, 111, 116, 32, 116, 104, 101, 114, 101]⟩] 199)).push (.cells #[.string ⟨#[103, 111, 101, 115, 32, 114, 111, 117, 110, 100, 32, 105, 110, 32, 97, 32, 99, 105, 114, 99, 108, 101]⟩] 199)).push (.cells #[.string ⟨#[116, 104, 101, 32, 115, 117, 109, 32, 100, 111, 101, 115, 32, 110, 111, 116, 32, 102, 105, 116]⟩] 199)).push (.cells #[.string ⟨#[110, 111, 116, 32, 116, 104, 101, 32, 111, 110, 101, 32, 102, 111, 114, 109, 32, 116, 104, 97, 116, 32, 105, 115, 32, 119, 114, 105, 116, 116, 101, 110]⟩] 199)).push (.cells #[.string ⟨#[105, 116, 32, 104, 97, 115, 32, 101, 110, 100, 101, 100]⟩] 199)) }
set_option maxRecDepth 100000 in
theorem door_shaped (os : Os) (args : Array Value) : ((laidWorld (World.holding Tryz.prog os ⟨#[], #[], []⟩)).forCall (fun _ _ => 0) ⟨#[], args, []⟩).Shaped Tryz.prog :=
  World.shaped_of_RefB (by kernel_rfl) (by kernel_rfl)
/-- An input that fits, at a world that is written out. -/
theorem witness_row_shaped {H : Type} {enc : TypeId × Value → H} {C : Checked} {os : Os} {f : FuncId} {fn : Func} {s : OpenSpec} {conds : List PathCond} {apart : Bool} {laid : List (String × DataW Unit)} (w0 : World) (args : Array Value) (hos : w0.os = os)
    (hsh : (w0.forCall (fun _ _ => 0) ⟨#[], args, []⟩).Shaped C.prog)
    (hok : Input.okWideB C.prog (w0.forCall (fun _ _ => 0) ⟨#[], args, []⟩) f ⟨#[], args, []⟩ = true)
    (hrow : s.preRow enc C.prog fn conds apart laid (w0.forCall (fun _ _ => 0) ⟨#[], args, []⟩).memory args) :
    ∃ (w : World) (tape : Tape) (i : Input), w.os = os ∧ (w.forCall tape i).Shaped C.prog ∧ i.vars = [] ∧ Input.okWide C.prog (w.forCall tape i) .any w.heap.size f i ∧
      s.preRow enc C.prog fn conds apart laid (w.forCall tape i).memory i.args ∧ ({} : Assume).holds C.prog (lone (Frame.enter C.prog f i.args .normal) [] (w.forCall tape i)) :=
  ⟨w0, fun _ _ => 0, ⟨#[], args, []⟩, hos, hsh, (Input.okWide_of_okWideB (base := 0) hok).1, (Input.okWide_of_okWideB hok).2, hrow, by
    simp only [Assume.holds]
    exact ⟨by simp, by simp, by simp, by simp, by simp⟩⟩
theorem laidOut : laidOutB Tryz.prog = true := by kernel_rfl
set_option maxRecDepth 10000 in
/-- The frame of a law of one parameter that answers true, writes nothing that was there, and lists no variable among its readings. -/
theorem law_contract {H : Type} {enc : TypeId × Value → H} {f : FuncId} {fn : Func} {s : ChangeSpec} {t : TypeId} (hp : fn.params = #[t]) (hrt : fn.resultTypes = #[4]) (hvars : s.vars = [])
    (hfn : ∀ (K : Type) (d : DataW K), s.fn K [d] = { results := [.lit (.bool true)], args := [d] }) (hread : Tryz.prog.readableRec t = true) (hrow : t < Tryz.prog.types.size)
    (W : World) (base : Nat) (args : Array Value) (ds gs : List (DataW H)) (before : List MemPlace)
    (hval : ∀ (j : Nat) t v, fn.params[j]? = some t → args[j]? = some v → Value.okWide Tryz.prog W .any base t v)
    (hW : DataW.Whole enc Tryz.prog fn.params.toList s.vars false W args.toList ds gs before)
    (hsz : (DataW.weightsEach Tryz.prog (fn.params.toList ++ s.plain.varTypes Tryz.prog) (ds ++ gs)).all (· ≤ reachBytes) = true)
    (walk : ∀ (v : Value) (d : DataW H) (p : List MemPlace), Value.okWide Tryz.prog W .any base t v → DataW.Trod enc Tryz.prog W 0 (fun _ => true) true t v d p → (∀ x ∈ p, x.block < W.heap.size) → (∀ x ∈ d.weights Tryz.prog t, x ≤ reachBytes) → ds = [d] → gs = [] →
      Calls Tryz.prog f #[v] W fun e W' => e = .returned (.bool true) ∧ Below W.heap.size W W') :
    Calls Tryz.prog f args W fun e W' => ∃ v, e = .returned v ∧ s.post enc Tryz.prog fn false true false false W args v W' := by
  have hW' := hW
  obtain ⟨p, q, hA0, hV, rfl, hfz, hnd⟩ := hW
  have hA : DataW.TrodAll enc Tryz.prog W 0 (fun _ => true) true fn.params.toList args.toList ds p := hA0
  rw [hp] at hA hval hsz
  obtain ⟨v0, vs0, d0, ds0, p0, q0, hargs, rfl, rfl, h0, r0⟩ := trodAll_cons hA
  obtain ⟨rfl, rfl, rfl⟩ := trodAll_nil r0
  obtain rfl : args = #[v0] := by cases args; simp_all
  rw [hvars] at hV
  obtain ⟨rfl, rfl⟩ := trodVars_none hV
  have hlt : ∀ x ∈ p0, x.block < W.heap.size := fun x hx => by have := hW'.lt x (by simpa using hx); simpa using this
  have hw : ∀ x ∈ d0.weights Tryz.prog t, x ≤ reachBytes := fun x hx => by
    have := List.all_eq_true.1 hsz x (DataW.weights_mem_each (j := 0) (by simp) (by simp) x hx)
    simpa using this
  refine (walk v0 d0 p0 (hval 0 t v0 rfl rfl) h0 hlt hw rfl rfl).mono fun e W' ⟨he, hb⟩ => ?_
  subst he
  refine ⟨_, rfl, [d0], [], _, [], p0 ++ [], [], hW', ?_, ?_, ?_, hb.frame _, fun h => by cases h⟩
  · rw [hrt, show ([d0] ++ ([] : List (DataW H))) = [d0] from rfl, hfn]
    exact trodAll_cons_mk (shut_bool Tryz.underlying4 true) trodAll_mk0
  · rw [hp, show ([d0] ++ ([] : List (DataW H))) = [d0] from rfl, hfn]
    exact trodAll_cons_mk (Below.trod laidOut hread hrow h0 hb hlt) trodAll_mk0
  · rw [hvars, show ([d0] ++ ([] : List (DataW H))) = [d0] from rfl, hfn]
    rfl
set_option maxRecDepth 10000 in
/-- The same frame for a law without parameters. -/
theorem law_contract0 {H : Type} {enc : TypeId × Value → H} {f : FuncId} {fn : Func} {s : ChangeSpec} (hp : fn.params = #[]) (hrt : fn.resultTypes = #[4]) (hvars : s.vars = [])
    (hfn : ∀ (K : Type), s.fn K [] = { results := [.lit (.bool true)], args := [] })
    (W : World) (args : Array Value) (ds gs : List (DataW H)) (before : List MemPlace)
    (hW : DataW.Whole enc Tryz.prog fn.params.toList s.vars false W args.toList ds gs before)
    (walk : Calls Tryz.prog f #[] W fun e W' => e = .returned (.bool true) ∧ Below W.heap.size W W') :
    Calls Tryz.prog f args W fun e W' => ∃ v, e = .returned v ∧ s.post enc Tryz.prog fn false true false false W args v W' := by
  have hW' := hW
  obtain ⟨p, q, hA0, hV, rfl, hfz, hnd⟩ := hW
  have hA : DataW.TrodAll enc Tryz.prog W 0 (fun _ => true) true fn.params.toList args.toList ds p := hA0
  rw [hp] at hA
  obtain ⟨hargs, rfl, rfl⟩ := trodAll_nil hA
  obtain rfl : args = #[] := by cases args; simp_all
  rw [hvars] at hV
  obtain ⟨rfl, rfl⟩ := trodVars_none hV
  refine walk.mono fun e W' ⟨he, hb⟩ => ?_
  subst he
  refine ⟨_, rfl, [], [], _, [], [], [], hW', ?_, ?_, ?_, hb.frame _, fun h => by cases h⟩
  · rw [hrt, show (([] : List (DataW H)) ++ []) = [] from rfl, hfn]
    exact trodAll_cons_mk (shut_bool Tryz.underlying4 true) trodAll_mk0
  · rw [hp, show (([] : List (DataW H)) ++ []) = [] from rfl, hfn]
    exact trodAll_mk0
  · rw [hvars, show (([] : List (DataW H)) ++ []) = [] from rfl, hfn]
    rfl
end Go.Proofs.YtlnejmmhhmmomaaGreatDoor
namespace Go.Proofs.YtlnejmmhhmmomaaGreatDoor
open Go.ChangeShapes Go.WideShapes Go.ChangeAt Go.RowKit
theorem star : ("*" ++ "errors.errorString" : String) = "*errors.errorString" := by decide
theorem errRow (u : TypeId) (h : Tryz.prog.typeName? 3 u = some "*errors.errorString") : u = 185 :=
  typeName_ptr_named (nm := "errors.errorString") (by rw [star]; kernel_rfl) (by kernel_rfl) (by decide) u (by rw [star]; exact h)
theorem cellsErr : Tryz.prog.cellsOf 199 = 1 := by kernel_rfl
theorem cellsStr : Tryz.prog.cellsOf 9 = 1 := by kernel_rfl
/-- A listed refusal. -/
def sentRow (x : String × List UInt8) : String × DataW Unit := (x.1, .iface "*errors.errorString" (.ptr (.agg [.lit (.string x.2)])))
set_option maxRecDepth 10000 in
theorem sents_list {W : World} (rest : List (String × DataW Unit)) : ∀ (L : List (String × List UInt8)) (ps : List MemPlace),
    DataW.LaidVars Tryz.prog W (L.map sentRow ++ rest) ps → ps.Nodup →
    (∀ b off, MemPlace.cell b off ∈ ps → (∃ c t, W.heap[b]? = some (.cells c t (0, 0))) ∧ ∀ u v, W.cell? ⟨b, off, none⟩ = some (.iface u v) → Value.okWide Tryz.prog W .any 0 u v) →
    (∀ x ∈ L, ∀ g t, Tryz.prog.globalNamed x.1 = some g → (Tryz.prog.globals[g]?).map (·.type) = some t → t = 30) →
    ∃ xs : List Addr, xs.length = L.length ∧ xs.Nodup ∧ (∀ a ∈ xs, MemPlace.cell a.block a.off ∈ ps ∧ ∃ c t, W.heap[a.block]? = some (.cells c t (0, 0))) ∧
      ∀ i (h : i < L.length) g, Tryz.prog.globalNamed (L[i]).1 = some g → W.cell? ⟨g, 0, none⟩ = some (.iface 185 (.pointer (some (xs.getD i ⟨0, 0, none⟩)))) := by
  intro L
  induction L with
  | nil => intro ps _ _ _ _; exact ⟨[], rfl, List.nodup_nil, (fun a h => by cases h), fun i h => absurd h (Nat.not_lt_zero _)⟩
  | cons x L ih =>
    intro ps hl hnd hrows hty
    obtain ⟨g0, t0, cs0, f0, p0, q0, hg0, ht0, hv0, hd0, hl', rfl⟩ := hl
    obtain rfl := hty x List.mem_cons_self g0 t0 hg0 ht0
    obtain ⟨l0⟩ := cs0
    have ok0 : ∀ u v, l0 = [.iface u v] → Value.okWide Tryz.prog W .any 0 u v := fun u v e => by
      subst e
      exact (hrows g0 0 (by simp [MemPlace.row])).2 u v (by simpa using World.var?_cell hg0 hv0 0)
    obtain ⟨a, s, rfl, _, _, _, rfl⟩ := errorString_of_trod Tryz.underlying30 errRow Tryz.underlying185 Tryz.underlying199 rfl rfl Tryz.underlying9 cellsErr cellsStr hd0 ok0
    have hnd1 := List.nodup_append.1 hnd
    obtain ⟨xs, h1, h2, h3, h4⟩ := ih q0 hl' hnd1.2.1 (fun b off hb => hrows b off (List.mem_append_right _ hb)) (fun y hy => hty y (List.mem_cons_of_mem _ hy))
    have hmem : MemPlace.cell a.block a.off ∈ MemPlace.row ⟨g0, 0, none⟩ (#[Value.iface 185 (.pointer (some a))] : Array Value).size ++ MemPlace.row a 1 := by simp [MemPlace.row]
    refine ⟨a :: xs, by simp [h1], List.nodup_cons.2 ⟨fun hin => ?_, h2⟩, fun b hb => ?_, fun i hi g hg => ?_⟩
    · exact (hnd1.2.2 _ hmem _ (h3 a hin).1) rfl
    · rcases List.mem_cons.1 hb with rfl | hb
      · exact ⟨List.mem_append_left _ hmem, (hrows _ _ (List.mem_append_left _ hmem)).1⟩
      · exact ⟨List.mem_append_right _ (h3 b hb).1, (h3 b hb).2⟩
    · cases i with
      | zero =>
        have e : g = g0 := Option.some.inj (hg.symm.trans hg0)
        subst e
        simpa using World.var?_cell hg0 hv0 0
      | succ i => exact h4 i (by simpa using hi) g hg
/-- The text of a listed refusal. -/
def sentText : DataW Unit → List UInt8
  | .iface _ (.ptr (.agg [.lit (.string s)])) => s
  | _ => []
def sentList : List (String × List UInt8) := [("caesura/api.ErrArg", sentText Rows.laid_caesura_api_ErrArg), ("caesura/api.ErrText", sentText Rows.laid_caesura_api_ErrText), ("caesura/api.ErrMany", sentText Rows.laid_caesura_api_ErrMany), ("caesura/api.ErrShort", sentText Rows.laid_caesura_api_ErrShort), ("caesura/api.ErrTwice", sentText Rows.laid_caesura_api_ErrTwice), ("caesura/api.ErrLost", sentText Rows.laid_caesura_api_ErrLost), ("caesura/api.ErrOrder", sentText Rows.laid_caesura_api_ErrOrder), ("caesura/api.ErrCycle", sentText Rows.laid_caesura_api_ErrCycle), ("caesura/api.ErrSum", sentText Rows.laid_caesura_api_ErrSum), ("caesura/api.ErrForm", sentText Rows.laid_caesura_api_ErrForm), ("caesura/api.ErrEnd", sentText Rows.laid_caesura_api_ErrEnd)]
theorem sentTypes : ∀ x ∈ sentList, ∀ g t, Tryz.prog.globalNamed x.1 = some g → (Tryz.prog.globals[g]?).map (·.type) = some t → t = 30 := by
  have h : (sentList.all fun x => match Tryz.prog.globalNamed x.1 with | some g => (Tryz.prog.globals[g]?).map (·.type) == some 30 | none => true) = true := by kernel_rfl
  intro x hx g t hg ht
  have := List.all_eq_true.1 h x hx
  rw [hg] at this
  simp only [ht] at this
  simpa using this
theorem g_ErrArg : Tryz.prog.globalNamed "caesura/api.ErrArg" = some 1 := by kernel_rfl
theorem g_ErrText : Tryz.prog.globalNamed "caesura/api.ErrText" = some 2 := by kernel_rfl
theorem g_ErrMany : Tryz.prog.globalNamed "caesura/api.ErrMany" = some 0 := by kernel_rfl
theorem g_ErrShort : Tryz.prog.globalNamed "caesura/api.ErrShort" = some 3 := by kernel_rfl
theorem g_ErrTwice : Tryz.prog.globalNamed "caesura/api.ErrTwice" = some 4 := by kernel_rfl
theorem g_ErrLost : Tryz.prog.globalNamed "caesura/api.ErrLost" = some 6 := by kernel_rfl
theorem g_ErrOrder : Tryz.prog.globalNamed "caesura/api.ErrOrder" = some 5 := by kernel_rfl
theorem g_ErrCycle : Tryz.prog.globalNamed "caesura/api.ErrCycle" = some 7 := by kernel_rfl
theorem g_ErrSum : Tryz.prog.globalNamed "caesura/api.ErrSum" = some 8 := by kernel_rfl
theorem g_ErrForm : Tryz.prog.globalNamed "caesura/api.ErrForm" = some 9 := by kernel_rfl
theorem g_ErrEnd : Tryz.prog.globalNamed "caesura/api.ErrEnd" = some 10 := by kernel_rfl
theorem sents_of {W : World} {rest : List (String × DataW Unit)} (h : laidMet Tryz.prog (sentList.map sentRow ++ rest) W) : ∃ A, Sents W A := by
  obtain ⟨ps, hl, hnd, hrows⟩ := h
  obtain ⟨xs, h1, h2, h3, h4⟩ := sents_list rest sentList ps hl hnd hrows sentTypes
  have h11 : xs.length = 11 := h1
  refine ⟨fun i => xs.getD i ⟨0, 0, none⟩, h4 0 (by decide) _ g_ErrArg, h4 1 (by decide) _ g_ErrText, h4 2 (by decide) _ g_ErrMany, h4 3 (by decide) _ g_ErrShort, h4 4 (by decide) _ g_ErrTwice, h4 5 (by decide) _ g_ErrLost, h4 6 (by decide) _ g_ErrOrder, h4 7 (by decide) _ g_ErrCycle, h4 8 (by decide) _ g_ErrSum, h4 9 (by decide) _ g_ErrForm, h4 10 (by decide) _ g_ErrEnd, fun i j hi hj hij e => ?_, fun i hi => ?_⟩
  · have hi' : i < xs.length := by omega
    have hj' : j < xs.length := by omega
    simp only [List.getD_eq_getElem?_getD, List.getElem?_eq_getElem hi', List.getElem?_eq_getElem hj', Option.getD_some] at e
    exact hij ((List.getElem_inj h2).1 e)
  · have hi' : i < xs.length := by omega
    simp only [List.getD_eq_getElem?_getD, List.getElem?_eq_getElem hi', Option.getD_some]
    exact (h3 _ (List.getElem_mem hi')).2
end Go.Proofs.YtlnejmmhhmmomaaGreatDoor
namespace Go.Proofs.YtlnejmmhhmmomaaGreatDoor
open Go.ChangeShapes Go.WideShapes Go.ChangeAt Go.RowKit Go.Joins
theorem array_of {H : Type} {enc : TypeId × Value → H} {P : Program} {w : World} {base : Nat} {sp : Nat → Bool} {held : Bool} {fuel : Nat} {t e : TypeId} {n m : Nat} {cs : List Value} {ds : List (DataW H)} {p : List MemPlace}
    (ht : P.underlying t = some (.array n e)) (hce : P.cellsOf e = m) (h : DataW.trod enc P w base sp held fuel t cs = some (.agg ds, p)) (i : Nat) (hi : i < n) :
    ∃ fuel' d q, ds[i]? = some d ∧ DataW.trod enc P w base sp held fuel' e ((cs.drop (i * m)).take m) = some (d, q) := by
  cases fuel with
  | zero => simp [DataW.trod] at h
  | succ fuel =>
    simp only [DataW.trod, ht, hce] at h
    split at h
    · obtain ⟨xs, hm, hx⟩ := Option.map_eq_some_iff.1 h
      obtain ⟨b, hb, hf⟩ := Lib.mapM_at hm i i (by simp [hi])
      have hxs : xs.map (·.1) = ds := by
        have := congrArg Prod.fst hx
        simpa using this
      refine ⟨fuel, b.1, b.2, ?_, hf⟩
      rw [← hxs]
      simp [hb]
    · cases h
theorem struct_of {H : Type} {enc : TypeId × Value → H} {P : Program} {w : World} {base : Nat} {sp : Nat → Bool} {held : Bool} {fuel : Nat} {e : TypeId} {fs : Array Field} {cs : List Value} {ds : List (DataW H)} {p : List MemPlace}
    (he : P.underlying e = some (.struct fs)) (h : DataW.trod enc P w base sp held fuel e cs = some (.agg ds, p)) (k : Nat) (f : Field) (hk : fs.toList[k]? = some f) :
    ∃ fuel' d q, ds[k]? = some d ∧ DataW.trod enc P w base sp held fuel' f.type ((cs.drop f.offset).take (P.cellsOf f.type)) = some (d, q) := by
  cases fuel with
  | zero => simp [DataW.trod] at h
  | succ fuel =>
    simp only [DataW.trod, he] at h
    split at h
    · obtain ⟨xs, hm, hx⟩ := Option.map_eq_some_iff.1 h
      obtain ⟨b, hb, hf⟩ := Lib.mapM_at hm k f hk
      have hxs : xs.map (·.1) = ds := by
        have := congrArg Prod.fst hx
        simpa using this
      refine ⟨fuel, b.1, b.2, ?_, hf⟩
      rw [← hxs]
      simp [hb]
    · cases h
theorem gSeq : Tryz.prog.globalNamed "caesura/units.sequences" = some 15 := by kernel_rfl
theorem gSeqType : (Tryz.prog.globals[15]?).map (·.type) = some 175 := by kernel_rfl
theorem cellsRow : Tryz.prog.cellsOf 154 = 6 := by kernel_rfl
def rowLits {H : Type} (i : Nat) : List (DataW H) := [.lit (.int .u8 (tLo i)), .lit (.int .u8 (tHi i)), .lit (.int .u8 (tLo2 i)), .lit (.int .u8 (tHi2 i)), .lit (.int .i64 (tSz i)), .lit (.int .u8 (tMk i))]
theorem laid_rows : (Rows.laid_caesura_units_sequences : DataW Unit) = .agg ((List.range 9).map fun i => .agg (rowLits i)) := by rfl
theorem one_int {H : Type} {enc : TypeId × Value → H} {P : Program} {w : World} {base : Nat} {sp : Nat → Bool} {held : Bool} {fuel : Nat} {t : TypeId} {k : IntKind} {cs : List Value} {z : Int} {d : DataW H} {q : List MemPlace} (o : Nat)
    (ht : P.underlying t = some (.int k)) (hc : P.cellsOf t = 1) (h : DataW.trod enc P w base sp held fuel t ((cs.drop o).take (P.cellsOf t)) = some (d, q)) (hd : some d = some (.lit (.int k z))) : cs[o]? = some (.int k z) := by
  rw [hc] at h
  obtain ⟨z', hcs, e, _⟩ := DataW.trod_int ht h
  obtain rfl : d = _ := congrArg Prod.fst e
  simp only [Option.some.injEq, DataW.lit.injEq, Lit.int.injEq, true_and] at hd
  subst hd
  have := congrArg (·[0]?) hcs
  simpa [List.getElem?_take, List.getElem?_drop] using this
theorem seqAt_of {W : World} {rest : List (String × DataW Unit)} (h : laidMet Tryz.prog (("caesura/units.sequences", Rows.laid_caesura_units_sequences) :: rest) W) : SeqAt W := by
  obtain ⟨ps, ⟨g', t', cs, fuel, p, q, hg', ht', hvar, hd, _, _⟩, _⟩ := h
  obtain rfl := Option.some.inj (gSeq.symm.trans hg')
  obtain rfl := Option.some.inj (gSeqType.symm.trans ht')
  rw [laid_rows] at hd
  intro i hi k hk
  obtain ⟨f1, d1, q1, hd1, h1⟩ := array_of (m := 6) Tryz.underlying175 cellsRow hd i hi
  have e1 : d1 = .agg (rowLits i) := by simpa [hi] using hd1.symm
  subst e1
  have hc := World.var?_cell gSeq hvar (i * 6 + k)
  rw [hc]
  have key : ((cs.toList.drop (i * 6)).take 6)[k]? = (rowCells i)[k]? := by
    obtain rfl | rfl | rfl | rfl | rfl | rfl : k = 0 ∨ k = 1 ∨ k = 2 ∨ k = 3 ∨ k = 4 ∨ k = 5 := by omega
    · obtain ⟨f2, d2, q2, hd2, h2⟩ := struct_of Tryz.underlying154 h1 0 _ rfl
      exact one_int 0 Tryz.underlying5 (by kernel_rfl) h2 hd2.symm
    · obtain ⟨f2, d2, q2, hd2, h2⟩ := struct_of Tryz.underlying154 h1 1 _ rfl
      exact one_int 1 Tryz.underlying5 (by kernel_rfl) h2 hd2.symm
    · obtain ⟨f2, d2, q2, hd2, h2⟩ := struct_of Tryz.underlying154 h1 2 _ rfl
      exact one_int 2 Tryz.underlying5 (by kernel_rfl) h2 hd2.symm
    · obtain ⟨f2, d2, q2, hd2, h2⟩ := struct_of Tryz.underlying154 h1 3 _ rfl
      exact one_int 3 Tryz.underlying5 (by kernel_rfl) h2 hd2.symm
    · obtain ⟨f2, d2, q2, hd2, h2⟩ := struct_of Tryz.underlying154 h1 4 _ rfl
      exact one_int 4 Tryz.underlying3 (by kernel_rfl) h2 hd2.symm
    · obtain ⟨f2, d2, q2, hd2, h2⟩ := struct_of Tryz.underlying154 h1 5 _ rfl
      exact one_int 5 Tryz.underlying5 (by kernel_rfl) h2 hd2.symm
  rw [← key, List.getElem?_take, if_pos hk, List.getElem?_drop]
  simp
end Go.Proofs.YtlnejmmhhmmomaaGreatDoor
namespace Go.Proofs.YtlnejmmhhmmomaaGreatDoor
open Go.ChangeShapes Go.WideShapes Go.ChangeAt Go.RowKit Go.Joins
theorem laid_tail {P : Program} {w : World} {x : String × DataW Unit} {l : List (String × DataW Unit)} (h : laidMet P (x :: l) w) : laidMet P l w := by
  obtain ⟨ps, hl, hnd, hrows⟩ := h
  obtain ⟨g0, t0, cs0, f0, p0, q0, hg0, ht0, hv0, hd0, hl', rfl⟩ := hl
  exact ⟨q0, hl', (List.nodup_append.1 hnd).2.1, fun b off hb => hrows b off (List.mem_append_right _ hb)⟩
theorem first_data : (Rows.laid_unicode_utf8_first : DataW Unit) = Lib.firstData := by kernel_rfl
theorem accept_data : (Rows.laid_unicode_utf8_acceptRanges : DataW Unit) = Lib.acceptData := by kernel_rfl
theorem tb_of {W : World} (h3 : Lib.VarReads Tryz.prog W "unicode/utf8.first" Lib.firstData) (h4 : Lib.VarReads Tryz.prog W "unicode/utf8.acceptRanges" Lib.acceptData) : Tb W :=
  utf8Tabs_of_reads (ρ := Tryz.lays230_ren) { Tryz.lays230 with } ⟨by kernel_rfl, by kernel_rfl, by kernel_rfl, by kernel_rfl, by kernel_rfl, by kernel_rfl, by kernel_rfl⟩ h3 h4
theorem mx_of {W : World} (h : W.ShapedOpen Tryz.prog) : Mx W :=
  cell_of_shapedOpen_int (g := 11) (t := 3) (zero := #[.int .i64 0]) (k := .i64) h (of_decide_eq_true (by kernel_rfl)) (by kernel_rfl) rfl (by kernel_rfl) (by kernel_rfl) Tryz.underlying3
theorem cellsBool : Tryz.prog.cellsOf 4 = 1 := by kernel_rfl
theorem cellsEdit : Tryz.prog.cellsOf 42 = 2 := by kernel_rfl
theorem cellsEdits : Tryz.prog.cellsOf 38 = 1 := by kernel_rfl
theorem cellsSec : Tryz.prog.cellsOf 40 = 3 := by kernel_rfl
theorem cellsSecs : Tryz.prog.cellsOf 22 = 1 := by kernel_rfl
theorem cellsBundle : Tryz.prog.cellsOf 24 = 1 := by kernel_rfl
theorem cellsAsked : Tryz.prog.cellsOf 26 = 2 := by kernel_rfl
theorem lt_of_cell {W : World} {b o : Nat} {u : Value} (h : W.cell? ⟨b, o, none⟩ = some u) : b < W.heap.size := World.block_lt_of_cell? W _ h
theorem bulk_one {H : Type} (D : Nat → DataW H) (l : List Nat) (h : ∀ i ∈ l, 1 ≤ Rows.uptoBulk (D i)) : l.length ≤ Rows.uptoBulkAll (l.map D) := by
  induction l with
  | nil => simp
  | cons x r ih => rw [List.map_cons, Rows.uptoBulkAll, List.length_cons]; have h1 := h x (.head _); have := ih (fun i hi => h i (.tail _ hi)); omega
theorem bulk_mem {H : Type} (D : Nat → DataW H) (l : List Nat) (i : Nat) (h : i ∈ l) : Rows.uptoBulk (D i) ≤ Rows.uptoBulkAll (l.map D) := by
  induction l with
  | nil => cases h
  | cons x r ih =>
    rw [List.map_cons, Rows.uptoBulkAll]
    rcases List.mem_cons.1 h with rfl | h
    · omega
    · have := ih h; omega
theorem bulk_pos {H : Type} (d : DataW H) : 1 ≤ Rows.uptoBulk d := by
  cases d with
  | lit l => cases l <;> simp [Rows.uptoBulk]
  | _ => simp [Rows.uptoBulk]
theorem bulk_four {H : Type} (D : Nat → DataW H) (l : List Nat) (h : ∀ i ∈ l, 4 ≤ Rows.uptoBulk (D i)) : l.length * 4 ≤ Rows.uptoBulkAll (l.map D) := by
  induction l with
  | nil => simp
  | cons x r ih => rw [List.map_cons, Rows.uptoBulkAll, List.length_cons]; have h1 := h x (.head _); have := ih (fun i hi => h i (.tail _ hi)); omega
set_option maxRecDepth 100000 in
theorem open_edit {H : Type} {enc : TypeId × Value → H} {w : World} {base : Nat} {spare : Nat → Bool} {held : Bool} {n : Nat} {a : Addr} {i : Nat} {cs : List Value} {x : DataW H × List MemPlace}
    (h1 : w.cells? base (a.add (i * 2)) 2 = some cs) (h2 : DataW.trod enc Tryz.prog w base spare held n 42 cs = some x) :
    ∃ t : Bool × ByteArray, (i = 0 → a.spot = none) ∧ (a.spot = none → w.cell? ⟨a.block, a.off + i * 2, none⟩ = some (.bool t.1) ∧ w.cell? ⟨a.block, a.off + i * 2 + 1, none⟩ = some (.string t.2)) ∧ 1 ≤ Rows.uptoBulk x.1 ∧ t.2.size ≤ Rows.uptoBulk x.1 := by
  obtain ⟨_, hlen, hcell⟩ := World.cells?_some h1
  obtain ⟨xs, k, _, hx, _, hxl, hfs⟩ := DataW.trod_struct Tryz.underlying42 h2
  match cs, hlen with
  | [v0, v1], _ =>
    obtain ⟨y0, y1, rfl⟩ : ∃ y0 y1, xs = [y0, y1] := by
      match xs, hxl with
      | [y0, y1], _ => exact ⟨y0, y1, rfl⟩
    have f0 := hfs 0 _ rfl
    have f1 := hfs 1 _ rfl
    simp [cellsBool] at f0
    simp [cellsStr] at f1
    obtain ⟨m0, e0, _⟩ := DataW.trod_bool Tryz.underlying4 f0
    obtain ⟨m1, e1, rfl, _⟩ := DataW.trod_string Tryz.underlying9 f1
    simp only [List.cons.injEq, and_true] at e0 e1
    subst e0 e1
    have q0 := hcell 0 (by omega)
    have q1 := hcell 1 (by omega)
    rw [Deep.add_add] at q0 q1
    refine ⟨(m0, m1), fun hi => ?_, fun hsp => ?_, ?_, ?_⟩
    · subst hi
      exact World.cell?_spot q0
    · obtain ⟨ab, ao, asp⟩ := a
      simp only at hsp
      subst hsp
      rw [WideShapes.add_plain] at q0 q1
      exact ⟨by simpa using q0, by simpa [Nat.add_assoc] using q1⟩
    · rw [hx]; simp [Rows.uptoBulk]
    · rw [hx]; simp [Rows.uptoBulk, Rows.uptoBulkAll]; omega
/-- Edits that are read. -/
theorem open_edits {H : Type} {enc : TypeId × Value → H} {W : World} {n : Nat} {c : Value} {x : DataW H × List MemPlace} (h : DataW.trod enc Tryz.prog W 0 (fun _ => true) true n 38 [c] = some x) :
    ∃ (a : Option Addr) (S : List (Bool × ByteArray)) (cap : Nat), c = .slice a S.length cap ∧ EA W a S ∧ (a = none → cap = 0) ∧ S.length ≤ Rows.uptoBulk x.1 ∧ ∀ e ∈ S, e.2.size ≤ Rows.uptoBulk x.1 := by
  rcases Deep.open_slice Tryz.underlying38 h with ⟨h0, rfl⟩ | ⟨a, len, cap, m, n', D, Pl, hc, hb, hl, hm, hmm, rfl, hx⟩
  · simp only [List.cons.injEq, and_true] at h0
    exact ⟨none, [], 0, h0, ⟨fun k h => absurd h (Nat.not_lt_zero _)⟩, fun _ => rfl, by simp, fun e he => by cases he⟩
  · simp only [List.cons.injEq, and_true] at hc
    have hlm : len ≤ m := by rw [hmm]; split <;> omega
    rw [cellsEdit] at hx
    obtain ⟨T, hT⟩ := Deep.choose_lt (n := len) (fun i hi => by obtain ⟨cs, q1, q2⟩ := hx i (by omega); exact open_edit q1 q2)
    have hlen : ((List.range len).map T).length = len := by simp
    refine ⟨some a, (List.range len).map T, cap, by rw [hlen]; exact hc, ⟨fun k hk => ?_⟩, (fun e => nomatch e), ?_, fun e he => ?_⟩
    · rw [hlen] at hk
      have et : ((List.range len).map T)[k]'(by rw [hlen]; exact hk) = T k := by simp
      obtain ⟨_, p2, _⟩ := hT k hk
      have hsp := (hT 0 (by omega)).1 rfl
      obtain ⟨ab, ao, asp⟩ := a
      simp only at hsp
      subst hsp
      have p3 := p2 rfl
      refine ⟨ab, ao, rfl, lt_of_cell p3.1, ?_⟩
      rw [et]
      exact p3
    · have := bulk_one D (List.range len) (fun i hi => (hT i (by simpa using hi)).2.2.1)
      rw [hlen]
      simp only [Rows.uptoBulk]
      simp only [List.length_range] at this
      omega
    · obtain ⟨i, hi, rfl⟩ := List.mem_map.1 he
      have h1 : (T i).2.size ≤ Rows.uptoBulk (D i) := (hT i (by simpa using hi)).2.2.2
      have h2 := bulk_mem D (List.range len) i hi
      simp only [Rows.uptoBulk]
      omega
/-- A section that is read. -/
structure SecR where
  s : Sec
  a : Option Addr
  c : Nat
instance : Inhabited SecR := ⟨⟨⟨⟨#[]⟩, ⟨#[]⟩, []⟩, none, 0⟩⟩
set_option maxRecDepth 100000 in
theorem open_sec {H : Type} {enc : TypeId × Value → H} {w : World} {n : Nat} {a : Addr} {i : Nat} {cs : List Value} {x : DataW H × List MemPlace}
    (h1 : w.cells? 0 (a.add (i * 3)) 3 = some cs) (h2 : DataW.trod enc Tryz.prog w 0 (fun _ => true) true n 40 cs = some x) :
    ∃ t : SecR, (i = 0 → a.spot = none) ∧ (a.spot = none → w.cell? ⟨a.block, a.off + i * 3, none⟩ = some (.string t.s.loc) ∧ w.cell? ⟨a.block, a.off + i * 3 + 1, none⟩ = some (.string t.s.par) ∧ w.cell? ⟨a.block, a.off + i * 3 + 2, none⟩ = some (.slice t.a t.s.ed.length t.c)) ∧
      EA w t.a t.s.ed ∧ (t.a = none → t.c = 0) ∧ 4 ≤ Rows.uptoBulk x.1 ∧ t.s.ed.length ≤ Rows.uptoBulk x.1 ∧ ∀ e ∈ t.s.ed, e.2.size ≤ Rows.uptoBulk x.1 := by
  obtain ⟨_, hlen, hcell⟩ := World.cells?_some h1
  obtain ⟨xs, k, _, hx, _, hxl, hfs⟩ := DataW.trod_struct Tryz.underlying40 h2
  match cs, hlen with
  | [v0, v1, v2], _ =>
    obtain ⟨y0, y1, y2, rfl⟩ : ∃ y0 y1 y2, xs = [y0, y1, y2] := by
      match xs, hxl with
      | [y0, y1, y2], _ => exact ⟨y0, y1, y2, rfl⟩
    have f0 := hfs 0 _ rfl
    have f1 := hfs 1 _ rfl
    have f2 := hfs 2 _ rfl
    simp [cellsStr] at f0 f1
    simp [cellsEdits] at f2
    obtain ⟨m0, e0, _⟩ := DataW.trod_string Tryz.underlying9 f0
    obtain ⟨m1, e1, _⟩ := DataW.trod_string Tryz.underlying9 f1
    obtain ⟨ae, ed, ce, e2, hea, hnil, hb1, hb2⟩ := open_edits f2
    simp only [List.cons.injEq, and_true] at e0 e1
    subst e0 e1 e2
    have q0 := hcell 0 (by omega)
    have q1 := hcell 1 (by omega)
    have q2 := hcell 2 (by omega)
    rw [Deep.add_add] at q0 q1 q2
    have hbx : Rows.uptoBulk y2.1 ≤ Rows.uptoBulk x.1 := by rw [hx]; simp [Rows.uptoBulk, Rows.uptoBulkAll]; omega
    refine ⟨⟨⟨m0, m1, ed⟩, ae, ce⟩, fun hi => ?_, fun hsp => ?_, hea, hnil, ?_, Nat.le_trans hb1 hbx, fun e he => Nat.le_trans (hb2 e he) hbx⟩
    · subst hi
      exact World.cell?_spot q0
    · obtain ⟨ab, ao, asp⟩ := a
      simp only at hsp
      subst hsp
      rw [WideShapes.add_plain] at q0 q1 q2
      exact ⟨by simpa using q0, by simpa [Nat.add_assoc] using q1, by simpa [Nat.add_assoc] using q2⟩
    · have b0 := bulk_pos y0.1
      have b1 := bulk_pos y1.1
      have b2 := bulk_pos y2.1
      rw [hx]; simp [Rows.uptoBulk, Rows.uptoBulkAll]; omega
/-- Sections that are read. -/
theorem open_secs {H : Type} {enc : TypeId × Value → H} {W : World} {n : Nat} {c : Value} {x : DataW H × List MemPlace} (h : DataW.trod enc Tryz.prog W 0 (fun _ => true) true n 22 [c] = some x) :
    ∃ (a : Option Addr) (S : List Sec) (cap : Nat), c = .slice a S.length cap ∧ S.length ≤ cap ∧ XB W a S ∧ S.length * 4 ≤ Rows.uptoBulk x.1 ∧ (∀ s ∈ S, s.ed.length ≤ Rows.uptoBulk x.1) ∧ ∀ s ∈ S, ∀ e ∈ s.ed, e.2.size ≤ Rows.uptoBulk x.1 := by
  rcases Deep.open_slice Tryz.underlying22 h with ⟨h0, rfl⟩ | ⟨a, len, cap, m, n', D, Pl, hc, hb, hl, hm, hmm, rfl, hx⟩
  · simp only [List.cons.injEq, and_true] at h0
    exact ⟨none, [], 0, h0, Nat.le_refl _, ⟨fun k h => absurd h (Nat.not_lt_zero _)⟩, by simp, (fun s hs => by cases hs), (fun s hs => by cases hs)⟩
  · simp only [List.cons.injEq, and_true] at hc
    have hlm : len ≤ m := by rw [hmm]; split <;> omega
    rw [cellsSec] at hx
    obtain ⟨T, hT⟩ := Deep.choose_lt (n := len) (fun i hi => by obtain ⟨cs, q1, q2⟩ := hx i (by omega); exact open_sec q1 q2)
    have hlen : ((List.range len).map fun i => (T i).s).length = len := by simp
    refine ⟨some a, (List.range len).map fun i => (T i).s, cap, by rw [hlen]; exact hc, by rw [hlen]; omega, ⟨fun k hk => ?_⟩, ?_, fun s hs => ?_, fun s hs e he => ?_⟩
    · rw [hlen] at hk
      have et : ((List.range len).map fun i => (T i).s)[k]'(by rw [hlen]; exact hk) = (T k).s := by simp
      obtain ⟨_, p2, p4, p5, _⟩ := hT k hk
      have hsp := (hT 0 (by omega)).1 rfl
      obtain ⟨ab, ao, asp⟩ := a
      simp only at hsp
      subst hsp
      have p3 := p2 rfl
      refine ⟨ab, ao, (T k).a, (T k).c, rfl, lt_of_cell p3.1, ?_⟩
      rw [et]
      exact ⟨p3.1, p3.2.1, p3.2.2, p4, p5⟩
    · have := bulk_four D (List.range len) (fun i hi => (hT i (by simpa using hi)).2.2.2.2.1)
      rw [hlen]
      simp only [Rows.uptoBulk]
      simp only [List.length_range] at this
      omega
    · obtain ⟨i, hi, rfl⟩ := List.mem_map.1 hs
      have h1 : (T i).s.ed.length ≤ Rows.uptoBulk (D i) := (hT i (by simpa using hi)).2.2.2.2.2.1
      have h2 := bulk_mem D (List.range len) i hi
      simp only [Rows.uptoBulk]
      omega
    · obtain ⟨i, hi, rfl⟩ := List.mem_map.1 hs
      have h1 : e.2.size ≤ Rows.uptoBulk (D i) := (hT i (by simpa using hi)).2.2.2.2.2.2 e he
      have h2 := bulk_mem D (List.range len) i hi
      simp only [Rows.uptoBulk]
      omega
set_option maxRecDepth 100000 in
theorem open_asked {H : Type} {enc : TypeId × Value → H} {W : World} {base : Nat} {v : Value} {d : DataW H} {p : List MemPlace} (hv : Value.okWide Tryz.prog W .any base 26 v)
    (h0 : DataW.Trod enc Tryz.prog W 0 (fun _ => true) true 26 v d p) (hk : Rows.uptoSmall H ([d] ++ []) = true) :
    ∃ (a : Option Addr) (S : List Sec) (cap : Nat) (t : ByteArray), v = .agg #[.slice a S.length cap, .string t] ∧ S.length ≤ cap ∧ XB W a S ∧ S.length ≤ 1000000 ∧ (∀ s ∈ S, s.ed.length ≤ 1048576) ∧ (∀ s ∈ S, ∀ e ∈ s.ed, e.2.size ≤ 1048576) := by
  obtain ⟨fuel, hf⟩ := h0
  have hcs : ∃ cs, v = .agg cs := by
    simp only [Value.okWide, Tryz.underlying26] at hv
    obtain ⟨cs, h1, _⟩ := hv
    exact ⟨cs, h1⟩
  obtain ⟨cs, rfl⟩ := hcs
  obtain ⟨xs, n, _, hx, hlen, hxl, hfs⟩ := DataW.trod_struct Tryz.underlying26 hf
  rw [cellsAsked] at hlen
  obtain ⟨l⟩ := cs
  match l, hlen with
  | [c0, c1], _ =>
    obtain ⟨y0, y1, rfl⟩ : ∃ y0 y1, xs = [y0, y1] := by
      match xs, hxl with
      | [y0, y1], _ => exact ⟨y0, y1, rfl⟩
    have f0 := hfs 0 _ rfl
    have f1 := hfs 1 _ rfl
    simp [Value.cells, cellsBundle] at f0
    simp [Value.cells, cellsStr] at f1
    obtain ⟨zs, k, _, hz, _, hzl, hgs⟩ := DataW.trod_struct Tryz.underlying24 f0
    obtain ⟨z0, rfl⟩ : ∃ z0, zs = [z0] := by
      match zs, hzl with
      | [z0], _ => exact ⟨z0, rfl⟩
    have g0 := hgs 0 _ rfl
    simp [cellsSecs] at g0
    obtain ⟨a, S, cap, e0, hcp, hxb, hb1, hb2, hb3⟩ := open_secs g0
    obtain ⟨t, e1, _⟩ := DataW.trod_string Tryz.underlying9 f1
    simp only [List.cons.injEq, and_true] at e1
    subst e0 e1
    have hd : d = .agg [y0.1, y1.1] := by have := congrArg Prod.fst hx; simpa using this
    have hy : y0.1 = .agg [z0.1] := by rw [hz]; rfl
    have hs := of_decide_eq_true hk
    rw [hd, hy] at hs
    simp only [List.append_nil, Rows.uptoBulkAll, Rows.uptoBulk] at hs
    exact ⟨a, S, cap, t, rfl, hcp, hxb, by omega, fun s h => by have := hb2 s h; omega, fun s h e he => by have := hb3 s h e he; omega⟩
set_option maxRecDepth 100000 in
theorem localeResolves_walk {H : Type} (enc : TypeId × Value → H) (W : World) (base : Nat) (hL : laidMetH Tryz.prog Rows.localeResolvesUptoRow.laid W) (hSh : W.ShapedOpen Tryz.prog) (v : Value) (d : DataW H) (p : List MemPlace) (hv : Value.okWide Tryz.prog W .any base 26 v)
    (h0 : DataW.Trod enc Tryz.prog W 0 (fun _ => true) true 26 v d p) (_hlt : ∀ x ∈ p, x.block < W.heap.size) (_hw : ∀ x ∈ d.weights Tryz.prog 26, x ≤ reachBytes) (hk : Rows.uptoSmall H ([d] ++ []) = true) :
    Calls Tryz.prog 3 #[v] W fun e W' => e = .returned (.bool true) ∧ Below W.heap.size W W' := by
  obtain ⟨a, S, cap, t, rfl, _, hxb, hb1, hb2, hb3⟩ := open_asked hv h0 hk
  have hL0 : laidMet Tryz.prog Rows.localeResolvesUptoRow.laid W := hL
  obtain ⟨A, hA⟩ := sents_of (rest := [("caesura/units.sequences", Rows.laid_caesura_units_sequences), ("unicode.CaseRanges", Rows.laid_unicode_CaseRanges), ("unicode/utf8.first", Rows.laid_unicode_utf8_first)]) (laid_tail hL0)
  have hQ : SeqAt W := seqAt_of (laid_tail (laid_tail (laid_tail (laid_tail (laid_tail (laid_tail (laid_tail (laid_tail (laid_tail (laid_tail (laid_tail (laid_tail hL0))))))))))))
  have h3 := Lib.laidMet.reads hL0 (n := "unicode/utf8.first") (d := Rows.laid_unicode_utf8_first) (by simp [Rows.localeResolvesUptoRow])
  have h4 := Lib.laidMet.reads hL0 (n := "unicode/utf8.acceptRanges") (d := Rows.laid_unicode_utf8_acceptRanges) (by simp [Rows.localeResolvesUptoRow])
  rw [first_data] at h3
  rw [accept_data] at h4
  exact localeResolves_any A S a cap t W hb1 (fun s h => Nat.le_trans (hb2 s h) (by decide)) (fun s h e he => Nat.le_trans (hb3 s h e he) (by decide)) ⟨mx_of hSh, tb_of h3 h4, hQ, hA⟩ hxb
set_option maxRecDepth 100000 in
theorem localeResolves_lifted (os : Os) (started : os.Started) (H : Type) (enc : TypeId × Value → H) (F : Stop.Interp) :
    ReturnsInHanded {} Tryz.checked os 3 .any ((Rows.OpenSpec.upto Rows.localeResolvesSpec).preRow enc Tryz.prog Tryz.f3 Rows.localeResolvesUptoRow.domain false Rows.localeResolvesUptoRow.laid) (((Rows.OpenSpec.upto Rows.localeResolvesSpec).at F).post enc Tryz.prog Tryz.f3 false true false false) := by
  refine returnsInHanded_of_row (C := Tryz.checked) (s := Rows.OpenSpec.upto Rows.localeResolvesSpec) own started (by kernel_rfl) Tryz.func3
    (witness_row_shaped (enc := enc) (C := Tryz.checked) (World.laidAll Tryz.prog os Rows.localeResolvesUptoRow.laid) #[.agg #[.slice none 0 0, .string ByteArray.empty]] (World.laidAll_os _ _ _) (World.shaped_of_ZipB (by kernel_rfl) (by kernel_rfl)) (by kernel_rfl)
      (OpenSpec.preRow_of_cond 8 (x := ([.agg [.agg [.nil], .lit (.string [])]], [], [])) (by kernel_rfl) (by kernel_rfl) (fun k hk => by cases hk; kernel_rfl) (by kernel_rfl) (laidMet_laidAll _ (by kernel_rfl) (by kernel_rfl)))) ?_
  intro W base args ds gs before hval hW _ hcond hsz hL hSh _
  exact law_contract rfl rfl rfl (fun _ _ => rfl) (by kernel_rfl) (of_decide_eq_true (by kernel_rfl)) W base args ds gs before hval hW hsz (fun v d p hv h0 hlt hw e1 e2 => localeResolves_walk enc W base hL hSh v d p hv h0 hlt hw (by have := hcond _ rfl; rw [e1, e2] at this; exact this))
theorem localeResolves_said : Rows.LocaleResolvesUptoSaid :=
  OpenClaim.holds_of_cond 3 Tryz.f3 rfl rfl rfl rfl rfl rfl rfl ⟨rfl, rfl, rfl, rfl, rfl⟩ rfl rfl rfl rfl rfl (by kernel_rfl) Tryz.func3 (by kernel_rfl)
    (of_decide_eq_true (by kernel_rfl)) (by unfold Func.isWrapper; first | (rw [if_pos (by decide +kernel)]; kernel_rfl) | (rw [if_neg (by decide +kernel)]; exact ⟨rfl, rfl⟩))
    (fun os started H enc _ F => by rw [OpenClaim.pre_eq_preRow]; exact localeResolves_lifted os started H enc F)
theorem localeResolves_plain (f : FuncId) (fn : Func) (hf : Tryz.pinned.checked.prog.funcNamed "caesura/caesuralaw7.LocaleResolves" = some f) (hfn : Tryz.pinned.checked.prog.funcs[f]? = some fn) :
    true = Tryz.pinned.checked.prog.looks [] ∧ ∀ (j : Nat) t, fn.params[j]? = some t → Tryz.pinned.checked.prog.wantsStandIn t = false := by
  obtain rfl : f = 3 := Option.some.inj ((show Tryz.prog.funcNamed "caesura/caesuralaw7.LocaleResolves" = some 3 by kernel_rfl).symm.trans hf) |>.symm
  obtain rfl : fn = Tryz.f3 := (Option.some.inj (Tryz.func3.symm.trans hfn)).symm
  refine ⟨by kernel_rfl, fun j t ht => ?_⟩
  rw [Tryz.params3] at ht
  obtain rfl : t = 26 := by simpa using Array.mem_of_getElem? ht
  exact (show Tryz.prog.wantsStandIn 26 = false by kernel_rfl)
theorem localeResolves_card : Rows.LocaleResolvesUptoCardSaid :=
  Claim7.holds_tied_plain_at .later [] _ _ _ _ localeResolves_said (fun _ h => by cases h) (by kernel_rfl) (fun _ h => by cases h) localeResolvesUpto_row_tie rfl ⟨rfl, rfl⟩ (by kernel_rfl) rfl localeResolves_plain (by kernel_rfl)
end Go.Proofs.YtlnejmmhhmmomaaGreatDoor
