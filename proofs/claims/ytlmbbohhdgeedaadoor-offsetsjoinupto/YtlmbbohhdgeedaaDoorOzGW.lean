/-
  The walks of offsets.New, find.
-/
import Derived.Test.YtlmbbohhdgeedaaDoorOzFM
namespace Go.Proofs.YtlmbbohhdgeedaaDoor
open Go.RowKit
/-- A map in memory. -/
def MapAt (w : World) (B : Nat) (L : List Pl) : Prop := ∃ a cap, w.cell? ⟨B, 0, none⟩ = some (.slice a L.length cap) ∧ PlA w a L
theorem MapAt.later {w w' : World} {B : Nat} {L : List Pl} (h : MapAt w B L) (hb : Below w.heap.size w w') : MapAt w' B L := by
  obtain ⟨a, cap, h1, h2⟩ := h
  exact ⟨a, cap, (hb.cell (p := ⟨B, 0, none⟩) (World.block_lt_of_cell? w _ h1)).trans h1, h2.later hb⟩
set_option maxRecDepth 10000 in
set_option maxHeartbeats 400000 in
theorem new_any (s : ByteArray) (hs : s.size ≤ 4194400) (w : World) (hT : SeqAt w) :
    Calls Tryd.prog 7 #[.string s] w fun e w' => ∃ B, e = .returned (.pointer (some ⟨B, 0, none⟩)) ∧ w.heap.size ≤ B ∧ MapAt w' B (allP s.data.toList) ∧ Below w.heap.size w w' := by
  have HP := hid (placesOf_any s hs w hT)
  clear hT
  generalize allP s.data.toList = L at *
  go_enter Tryd.func7, Tryd.ntmps7
  go_wp2_with (first
    | (go_at_call 22; refine HP.out.mono ?_; rintro e w1 ⟨v, rfl, ho, hb⟩; obtain ⟨a, cap, rfl, hpa⟩ := ho.pa; have hsz := hb.size; have HA := hid hpa; have HB := hid hb; clear ho hpa hb)
    | fail)
  go_ret
  have hb2 : Below w1.heap.size w1 (w1.alloc (.cells #[.slice a L.length cap] 56)) := (Below.refl _ _).alloc (Nat.le_refl _) _
  exact ⟨_, rfl, hsz, ⟨a, cap, by simp, HA.out.later hb2⟩, HB.out.alloc hsz _⟩
set_option maxRecDepth 10000 in
set_option maxHeartbeats 1600000 in
theorem find_any (kf : FuncId) (cp : Array Value) (sg : Pl → Int) (L : List Pl) (hr : Rises sg L) (hL : L.length ≤ 10000000) (ekf : ∀ args w, (callFunc kf args).run Tryd.prog w = .ok (.enter kf args) w) (a : Option Addr) (cap : Nat) (pe : Addr) (w : World)
    (hA : PlA w a L) (hE : w.cell? ⟨0, 0, none⟩ = some (.iface 107 (.pointer (some pe))))
    (hcl : ∀ p W, Below w.heap.size w W → Calls Tryd.prog kf (#[plV p] ++ cp) W fun e w' => e = .returned (.int .i64 (sg p)) ∧ Below W.heap.size W w') :
    Calls Tryd.prog 26 #[.slice a L.length cap, .func (.func kf) #[] cp] w fun e w' => e = .returned (.tuple #[plV (getP (hit sg L)), errV pe (hit sg L)]) ∧ Below w.heap.size w w' := by
  have HR := hid hr
  have HA := hid hA
  have HE := hid hE
  have HC := hid hcl
  have hpos : 0 < w.heap.size := World.block_lt_of_cell? w _ hE
  clear hr hA hE hcl
  go_enter Tryd.func26, Tryd.ntmps26
  go_wp2
  go_loopw [6, 7] (fun i j wr => ∃ lo hi : Nat, lo ≤ hi ∧ hi ≤ L.length ∧ i = .int .i64 (lo : Int) ∧ j = .int .i64 (hi : Int) ∧ Hid (BS sg L lo hi) ∧ Hid (Below (w.heap.size + 1) (w.alloc (.cells #[.int .i64 0, .int .i64 0, .int .i64 0, .int .i64 0, .int .i64 0] 62)) wr)) (fun i j _ => (intOf j - intOf i).toNat)
  case atStart => exact ⟨0, L.length, Nat.zero_le _, Nat.le_refl _, rfl, rfl, hid (BS.start sg L), hid (Below.refl _ _)⟩
  case round =>
    obtain ⟨lo, hi, hle, hlen, rfl, rfl, HS, HB⟩ := hrel
    have hb1 : Below w.heap.size w (w.alloc (.cells #[.int .i64 0, .int .i64 0, .int .i64 0, .int .i64 0, .int .i64 0] 62)) := (Below.refl _ _).alloc (Nat.le_refl _) _
    have hb2 : Below w.heap.size w wr := hb1.trans (HB.out.mono (by omega))
    have hbn := heap_alloc_new w (.cells #[.int .i64 0, .int .i64 0, .int .i64 0, .int .i64 0, .int .i64 0] 62)
    have hw0 := (HB.out.block w.heap.size (by omega)).trans hbn
    have HW0 := hid hw0
    have HB2 := hid hb2
    have hwsz := hb2.size
    have hwlt := (Array.getElem?_eq_some_iff.1 hw0).1
    obtain ⟨⟨z0, z1, z2, z3, z4⟩, f0, f1, f2, f3, f4⟩ := row5 hw0
    clear hb1 hbn hb2 hw0
    by_cases hlt : lo < hi
    · obtain ⟨m, hm⟩ : ∃ m : Nat, m = lo + (hi - lo) / 2 := ⟨_, rfl⟩
      have hmI : (lo : Int) + ((hi : Int) - (lo : Int)) / 2 = (m : Int) := by omega
      have hm1 : lo ≤ m := by omega
      have hm2 : m < hi := by omega
      have hm3 : m < L.length := by omega
      go_upto_region 4 with (fail)
      first
        | rw [hmI]
        | rw [show (lo : Int) + ((hi - lo : Nat) : Int) / 2 = (m : Int) by omega]
      clear hmI hm
      obtain ⟨b1, o1, rfl, y0, y1, y2, y3, y4⟩ := HA.out.at' m hm3
      have d0 := (HB2.out.cell (p := ⟨b1, o1 + m * 5, none⟩) (World.block_lt_of_cell? w _ y0)).trans y0
      have d1 := (HB2.out.cell (p := ⟨b1, o1 + m * 5 + 1, none⟩) (World.block_lt_of_cell? w _ y1)).trans y1
      have d2 := (HB2.out.cell (p := ⟨b1, o1 + m * 5 + 2, none⟩) (World.block_lt_of_cell? w _ y2)).trans y2
      have d3 := (HB2.out.cell (p := ⟨b1, o1 + m * 5 + 3, none⟩) (World.block_lt_of_cell? w _ y3)).trans y3
      have d4 := (HB2.out.cell (p := ⟨b1, o1 + m * 5 + 4, none⟩) (World.block_lt_of_cell? w _ y4)).trans y4
      clear y0 y1 y2 y3 y4
      have HLow := hid (HS.out.lower HR.out hm1 hm2 hm3)
      have HUp := hid (HS.out.upper HR.out hm1 hm2 hm3)
      have HAt := hid (hit_at HR.out m hm3)
      have hmlen : (m : Int) < (L.length : Int) := by omega
      have HCm := hid (HC.out L[m])
      generalize L[m] = P at *
      obtain ⟨pb, pu, pw, pl, pc⟩ := P
      unfold plV at HCm
      simp only at d0 d1 d2 d3 d4 HCm
      generalize sg ⟨pb, pu, pw, pl, pc⟩ = sd at *
      rcases (by omega : sd < 0 ∨ 0 < sd ∨ sd = 0) with h | h | h
      · have HN := hid (HLow.out h)
        clear HLow HUp HAt
        go_wp2_with (first
          | (go_at_fn kf; refine (HCm.out _ HB2.out).mono ?_; rintro e w2 ⟨rfl, hb3⟩; have HB3 := hid hb3; clear hb3)
          | fail)
        go_roundw
        case rel => exact ⟨m + 1, hi, hm2, hlen, by go_num, rfl, hid HN.out, hid (HB.out.trans (HB3.out.mono (by omega)))⟩
        case measure => simp [intOf]; omega
      · have HN := hid (HUp.out h)
        have hn0 : ¬ sd < 0 := by omega
        clear HLow HUp HAt
        go_wp2_with (first
          | (go_at_fn kf; refine (HCm.out _ HB2.out).mono ?_; rintro e w2 ⟨rfl, hb3⟩; have HB3 := hid hb3; clear hb3)
          | fail)
        go_roundw
        case rel => exact ⟨lo, m, hm1, by omega, rfl, rfl, hid HN.out, hid (HB.out.trans (HB3.out.mono (by omega)))⟩
        case measure => simp [intOf]; omega
      · have HN := hid (HAt.out h)
        subst h
        clear HLow HUp HAt
        go_wp2_with (first
          | (go_at_fn kf; refine (HCm.out _ HB2.out).mono ?_; rintro e w2 ⟨rfl, hb3⟩; have HB3 := hid hb3; have HW2 := hid ((hb3.block _ hwlt).trans HW0.out); obtain ⟨⟨z0, z1, z2, z3, z4⟩, g0, g1, g2, g3, g4⟩ := row5 HW2.out; have e0 := (hb3.cell (p := ⟨b1, o1 + m * 5, none⟩) (World.block_lt_of_cell? wr _ d0)).trans d0; have e1 := (hb3.cell (p := ⟨b1, o1 + m * 5 + 1, none⟩) (World.block_lt_of_cell? wr _ d1)).trans d1; have e2 := (hb3.cell (p := ⟨b1, o1 + m * 5 + 2, none⟩) (World.block_lt_of_cell? wr _ d2)).trans d2; have e3 := (hb3.cell (p := ⟨b1, o1 + m * 5 + 3, none⟩) (World.block_lt_of_cell? wr _ d3)).trans d3; have e4 := (hb3.cell (p := ⟨b1, o1 + m * 5 + 4, none⟩) (World.block_lt_of_cell? wr _ d4)).trans d4; clear hb3)
          | fail)
        (try simp only [Exit.inBlock, Exit.then])
        refine bodyPost_ret (ret_row rfl _ _ w.heap.size 62 _ _ _ rfl (set5n _ _ _ _ _ HW2.out) Tryd.underlying62 rfl (by kernel_rfl) rfl) rfl ?_
        have hb := HB2.out.trans (HB3.out.mono hwsz)
        exact ⟨by rw [HN.out]; rfl, by go_grown⟩
    · have HV : Hid (hit sg L = none) := hid (HS.out.none hlt)
      have hev := (HB2.out.cell (p := ⟨0, 0, none⟩) hpos).trans HE.out
      have hposr : 0 < wr.heap.size := by omega
      clear HS HC HA HR
      go_wp2
      go_region
      all_goals go_wp2
      all_goals
        (try simp only [Exit.inBlock, Exit.then])
        refine bodyPost_ret (ret_row rfl _ _ w.heap.size 62 _ _ _ rfl ((Below.heap_alloc _ _ _ (by simpa using hwlt)).trans (set5n _ _ _ _ _ HW0.out)) Tryd.underlying62 rfl (by kernel_rfl) rfl) rfl ?_
        have hb := HB2.out
        exact ⟨by rw [HV.out]; rfl, by go_grown⟩
end Go.Proofs.YtlmbbohhdgeedaaDoor
