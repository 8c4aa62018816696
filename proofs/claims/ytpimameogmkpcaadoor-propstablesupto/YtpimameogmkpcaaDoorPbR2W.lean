/-
  The walk of caesuraref5.Fault. (PbR2W.py writes it.)
-/
import Derived.Test.YtpimameogmkpcaaDoorPbR1W
import Derived.Test.YtpimameogmkpcaaDoorPbNwW
namespace Go.Proofs.YtpimameogmkpcaaDoor
open Go.RowKit
theorem propF_eq (L : List ByteArray) (ss : List Sp) : propF L ss = match (if 62 < L.length then some 2 else nmF [] L) with | some e => some e | none => if 65536 < ss.length then some 2 else spF L.length none ss := by
  unfold propF
  split <;> rfl
theorem numO_ne (i : Nat) : ¬ numO (some i) = 0 := by
  show ¬ (if i = 6 then (6 : Int) else (i : Int) + 1) = 0
  split <;> omega
set_option maxRecDepth 10000 in
set_option maxHeartbeats 3200000 in
theorem refFault_any (L : List ByteArray) (l : List Sp) (aN a : Option Addr) (cN cap : Nat) (w : World) (hcN : L.length ≤ 1000000000) (hcap : l.length ≤ 1000000000)
    (hz : ∀ s ∈ L, s.size ≤ 1000000000000) (ha : SA w aN L) (hb : PA w a l) :
    Calls Tryd.prog 33 #[.agg #[.slice aN L.length cN, .slice a l.length cap]] w fun e w' => e = .returned (.int .i64 (numO (propF L l))) ∧ Below w.heap.size w w' := by
  obtain ⟨w0, hw0⟩ : ∃ w0, w0 = w.alloc (.cells #[.slice aN L.length cN, .slice a l.length cap] 25) := ⟨_, rfl⟩
  have hB0 : Below w.heap.size w w0 := by rw [hw0]; exact (Below.refl _ _).alloc (Nat.le_refl _) _
  have hX0 : w0.heap[w.heap.size]? = some (.cells #[.slice aN L.length cN, .slice a l.length cap] 25 (0, 0)) := by rw [hw0]; exact heap_alloc_new w _
  have hs0 : w0.heap.size = w.heap.size + 1 := by rw [hw0]; simp
  have HNM := hid0 (refNames_any L aN cN w0 hcN hz (ha.below hB0))
  have HS := hid0 (hb.below hB0)
  have HXW : Hid (∀ W, Below w0.heap.size w0 W → W.cell? ⟨w.heap.size, 0, none⟩ = some (.slice aN L.length cN) ∧ W.cell? ⟨w.heap.size, 1, none⟩ = some (.slice a l.length cap)) := hid0 (fun W hW => by
    have hr := (hW.block w.heap.size (by omega)).trans hX0
    exact ⟨by rw [cell_of_row _ _ _ _ _ _ hr]; rfl, by rw [cell_of_row _ _ _ _ _ _ hr]; rfl⟩)
  obtain ⟨y0, y1⟩ := HXW.out w0 (Below.refl _ _)
  have HB0 := hid0 hB0
  have HS0 := hid0 hs0
  have hfold := hw0.symm
  have HPF := hid0 (propF_eq L l)
  clear ha hb hz hB0 hw0 hX0 hs0
  generalize (if 62 < L.length then some 2 else nmF [] L) = q at HNM HPF
  cases q with
  | some i =>
    have hni := numO_ne i
    have HV : Hid (propF L l = some i) := hid0 HPF.out
    clear HPF
    obtain ⟨z, hq⟩ : ∃ z, numO (some i) = z := ⟨_, rfl⟩
    rw [hq] at hni HNM
    have HQ := hid0 hq
    clear hq
    go_enter Tryd.func33, Tryd.ntmps33
    go_wp2_with (go_at_call 45; refine HNM.out.mono ?_; rintro e w1 ⟨rfl, rfl⟩)
    go_ret
    exact ⟨by rw [HV.out, HQ.out]; rfl, HB0.out⟩
  | none =>
    rw [show numO none = 0 from rfl] at HNM
    by_cases hm : 65536 < l.length
    · have hmI : (65536 : Int) < (l.length : Int) := by omega
      have HV : Hid (propF L l = some 2) := hid0 (HPF.out.trans (if_pos hm))
      clear HPF
      go_enter Tryd.func33, Tryd.ntmps33
      go_wp2_with (go_at_call 45; refine HNM.out.mono ?_; rintro e w1 ⟨rfl, rfl⟩)
      go_ret
      exact ⟨by rw [HV.out]; rfl, HB0.out⟩
    have hmI : ¬ (65536 : Int) < (l.length : Int) := by omega
    have HP : Hid (propF L l = spF L.length none l) := hid0 (HPF.out.trans (if_neg hm))
    clear HPF
    go_enter Tryd.func33, Tryd.ntmps33
    go_wp2_with (go_at_call 45; refine HNM.out.mono ?_; rintro e w1 ⟨rfl, rfl⟩)
    clear y0 y1
    go_loopw [4] (fun i wr => ∃ k : Nat, k ≤ l.length ∧ i = .int .i64 (k : Int) ∧ Hid (spF L.length none l = spF L.length (prevH l k) (l.drop k)) ∧ Hid (Below w1.heap.size w1 wr)) (fun i _ => l.length - (intOf i).toNat)
    case atStart => exact ⟨0, Nat.zero_le _, rfl, hid0 (by simp [prevH]), hid0 (Below.refl _ _)⟩
    case round =>
      obtain ⟨k, hk, rfl, HN, HB⟩ := hrel
      have hbs := HB.out.size
      obtain ⟨y0, y1⟩ := HXW.out wr HB.out
      have hxw : w.heap.size < wr.heap.size := by have := HS0.out; omega
      clear hfold
      by_cases hlt : k < l.length
      · obtain ⟨b, off, rfl, hbw, c0, c1, c2⟩ := HS.out.at' k hlt
        have d0 := (HB.out.cell (p := ⟨b, off + k * 3, none⟩) hbw).trans c0
        have d1 := (HB.out.cell (p := ⟨b, off + k * 3 + 1, none⟩) hbw).trans c1
        have d2 := (HB.out.cell (p := ⟨b, off + k * 3 + 2, none⟩) hbw).trans c2
        have hkI : (k : Int) < (l.length : Int) := by omega
        have hkI0 : (0 : Int) ≤ (k : Int) := by omega
        have HF := hid0 (HN.out.trans (spF_at L.length l k hlt))
        have HB1 : Hid (Below w1.heap.size w1 (wr.alloc (.cells #[.int .i64 l[k].1, .int .i64 l[k].2.1, .int .i64 l[k].2.2] 38))) := hid0 (HB.out.alloc hbs _)
        have hbn : ¬ b = wr.heap.size := by omega
        have hxn : ¬ w.heap.size = wr.heap.size := by omega
        obtain ⟨s, hs⟩ : ∃ s, l[k] = s := ⟨_, rfl⟩
        rw [hs] at d0 d1 d2 HF HB1
        have HSK := hid0 hs
        obtain ⟨lo, hi', nm⟩ := s
        simp only at d0 d1 d2
        have x0 : (wr.alloc (.cells #[.int .i64 lo, .int .i64 hi', .int .i64 nm] 38)).cell? ⟨w.heap.size, 0, none⟩ = some (.slice aN L.length cN) := cell_alloc y0 _
        have x1 : (wr.alloc (.cells #[.int .i64 lo, .int .i64 hi', .int .i64 nm] 38)).cell? ⟨w.heap.size, 1, none⟩ = some (.slice (some ⟨b, off, none⟩) l.length cap) := cell_alloc y1 _
        have hkb : (k : Int) ≤ 1000000000 := by omega
        clear c0 c1 c2 HN hs
        by_cases t1 : lo < 0
        · have HV : Hid (spF L.length none l = some 0) := hid0 (by rw [HF.out, if_pos (by unfold spBad; simp only; omega)])
          clear HF
          go_wp2
          go_ret
          exact ⟨by rw [HP.out, HV.out]; rfl, Below.later HB0.out HB1.out⟩
        · skip
          by_cases t2 : 1114111 < hi'
          · have HV : Hid (spF L.length none l = some 0) := hid0 (by rw [HF.out, if_pos (by unfold spBad; simp only; omega)])
            clear HF
            go_wp2
            go_ret
            exact ⟨by rw [HP.out, HV.out]; rfl, Below.later HB0.out HB1.out⟩
          · skip
            by_cases t3 : hi' < lo
            · have HV : Hid (spF L.length none l = some 0) := hid0 (by rw [HF.out, if_pos (by unfold spBad; simp only; omega)])
              clear HF
              go_wp2
              go_ret
              exact ⟨by rw [HP.out, HV.out]; rfl, Below.later HB0.out HB1.out⟩
            · skip
              by_cases t4 : nm < 0
              · have HV : Hid (spF L.length none l = some 0) := hid0 (by rw [HF.out, if_pos (by unfold spBad; simp only; omega)])
                clear HF
                go_wp2
                go_ret
                exact ⟨by rw [HP.out, HV.out]; rfl, Below.later HB0.out HB1.out⟩
              · skip
                by_cases t5 : (L.length : Int) ≤ nm
                · have HV : Hid (spF L.length none l = some 0) := hid0 (by rw [HF.out, if_pos (by unfold spBad; simp only; omega)])
                  clear HF
                  go_wp2
                  go_ret
                  exact ⟨by rw [HP.out, HV.out]; rfl, Below.later HB0.out HB1.out⟩
                · skip
                  have HG : Hid (spF L.length none l = if (prevH l k).any (fun q => decide (lo ≤ q)) = true then some 6 else spF L.length (prevH l (k + 1)) (l.drop (k + 1))) := hid0 (by rw [HF.out, if_neg (by unfold spBad; simp only; omega)])
                  clear HF
                  rcases Nat.eq_zero_or_pos k with hk0 | hk0
                  · have hz0 : ¬ 0 < k := by omega
                    have HN2 : Hid (spF L.length none l = spF L.length (prevH l (k + 1)) (l.drop (k + 1))) := hid0 (by rw [HG.out, if_neg (by rw [prevH, if_pos hk0]; simp)])
                    have HB2 : Hid (∀ nq, Below w1.heap.size w1 ((wr.alloc (.cells #[.int .i64 lo, .int .i64 hi', .int .i64 nm] 38)).drewN nq)) := hid0 (fun nq => ⟨HB1.out.os, HB1.out.tape, HB1.out.output, HB1.out.size, HB1.out.block⟩)
                    clear HG hk0
                    go_wp2
                    go_quiet ((fail))
                    go_wp2
                    go_roundw
                    case rel => exact ⟨k + 1, by omega, by go_num, HN2, hid0 (HB2.out _)⟩
                    case measure => simp [intOf]; omega
                  · obtain ⟨m, hm2⟩ : ∃ m, k = m + 1 := ⟨k - 1, by omega⟩
                    have hsub : (k : Int) - 1 = (m : Int) := by omega
                    have hml : m < l.length := by omega
                    obtain ⟨b2, off2, eb, _, _, q1, _⟩ := HS.out.at' m hml
                    simp only [Option.some.injEq, Addr.mk.injEq, and_true] at eb
                    obtain ⟨rfl, rfl⟩ := eb
                    have dq := (HB.out.cell (p := ⟨b, off + m * 3 + 1, none⟩) hbw).trans q1
                    obtain ⟨ph, hph⟩ : ∃ ph, l[m].2.1 = ph := ⟨_, rfl⟩
                    rw [hph] at dq
                    have HPV : Hid (prevH l k = some ph) := hid0 (by rw [prevH, if_neg (by omega), hm2, Nat.add_sub_cancel, List.getElem?_eq_getElem hml]; simp [hph])
                    have hmI : (m : Int) < (l.length : Int) := by omega
                    have hmI0 : (0 : Int) ≤ (m : Int) := by omega
                    have hmW : IntKind.i64.wrap (m : Int) = (m : Int) := by simp [IntKind.wrap, IntKind.bits, IntKind.signed]; omega
                    clear hm2 hph q1
                    have HSW : Hid ((wr.alloc (.cells #[.int .i64 lo, .int .i64 hi', .int .i64 nm] 38)).cell? ⟨wr.heap.size, 0, none⟩ = some (.int .i64 lo) ∧ (wr.alloc (.cells #[.int .i64 lo, .int .i64 hi', .int .i64 nm] 38)).cell? ⟨b, off + m * 3 + 1, none⟩ = some (.int .i64 ph) ∧ (wr.alloc (.cells #[.int .i64 lo, .int .i64 hi', .int .i64 nm] 38)).cell? ⟨w.heap.size, 1, none⟩ = some (.slice (some ⟨b, off, none⟩) l.length cap)) := hid0 ⟨by rw [cell_of_row _ _ _ _ _ _ (heap_alloc_new wr _)]; rfl, cell_alloc dq _, x1⟩
                    by_cases t6 : lo ≤ ph
                    · have HV : Hid (spF L.length none l = some 6) := hid0 (by rw [HG.out, if_pos (by rw [HPV.out]; simpa using t6)])
                      clear HG
                      go_wp2
                      go_region_held3 (fun w' => w'.cell? ⟨wr.heap.size, 0, none⟩ = some (.int .i64 lo) ∧ w'.cell? ⟨b, off + m * 3 + 1, none⟩ = some (.int .i64 ph) ∧ w'.cell? ⟨w.heap.size, 1, none⟩ = some (.slice (some ⟨b, off, none⟩) l.length cap)) (go_keep) (fail)
                      go_wp2
                      go_ret
                      exact ⟨by rw [HP.out, HV.out]; rfl, Below.later HB0.out HB1.out.drew⟩
                    · have HN2 : Hid (spF L.length none l = spF L.length (prevH l (k + 1)) (l.drop (k + 1))) := hid0 (by rw [HG.out, if_neg (by rw [HPV.out]; simpa using t6)])
                      clear HG
                      go_wp2
                      go_region_held3 (fun w' => w'.cell? ⟨wr.heap.size, 0, none⟩ = some (.int .i64 lo) ∧ w'.cell? ⟨b, off + m * 3 + 1, none⟩ = some (.int .i64 ph) ∧ w'.cell? ⟨w.heap.size, 1, none⟩ = some (.slice (some ⟨b, off, none⟩) l.length cap)) (go_keep) (fail)
                      go_wp2
                      go_roundw
                      case rel => exact ⟨k + 1, by omega, by go_num, HN2, hid0 HB1.out.drew⟩
                      case measure => simp [intOf]; omega
      · have hkI : ¬ (k : Int) < (l.length : Int) := by omega
        have HV : Hid (spF L.length none l = none) := hid0 (by rw [HN.out, List.drop_of_length_le (by omega)]; rfl)
        go_wp2
        go_ret
        exact ⟨by rw [HP.out, HV.out]; rfl, Below.later HB0.out HB.out⟩
end Go.Proofs.YtpimameogmkpcaaDoor
