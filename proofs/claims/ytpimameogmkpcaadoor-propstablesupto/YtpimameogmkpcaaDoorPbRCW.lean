/-
  The walk of caesuraref5's block.
-/
import Derived.Test.YtpimameogmkpcaaDoorPbRBM
import Derived.Test.YtpimameogmkpcaaDoorPbR5W
import Derived.Test.YtpimameogmkpcaaDoorPbPtW
namespace Go.Proofs.YtpimameogmkpcaaDoor
open Go.RowKit Go.Shelf
set_option maxRecDepth 10000 in
set_option maxHeartbeats 3200000 in
theorem block_any (N : Int) (w : World) (lo U : Nat) (L : List ByteArray) (ss : List Sp) (vN vS : Value) (b i : Nat) (hs : ss.length ≤ 65536) (hR : Rise N ss) (hN : N ≤ 254) (hbb : b < 8704) (hi' : i ≤ ss.length)
    (h1 : ∀ s ∈ ss.take i, s.2.1 < 128 * (b : Int)) (h2 : ∀ (q : i < ss.length), 128 * (b : Int) ≤ ss[i].2.1) (h : RTab w lo U L ss vN vS) :
    Calls Tryd.prog 38 #[.pointer (some ⟨U, 0, none⟩), .int .i64 (b : Int), .int .i64 (i : Int)] w fun e w' => ∃ v, e = .returned v ∧ OwnQ w' w.heap.size v (pcs ss b) ∧ Below w.heap.size w w' := by
  obtain ⟨aS, cS, rfl, hpa, hpb, _⟩ := h.spans.pa
  have HR := hid0 hR
  have HT := hid0 h
  have HP := hid0 hpa
  have HPB := hid0 hpb
  have HO0 : Hid (OwnQ (w.alloc (.cells #[.int .i64 0, .int .i64 0] 88)) w.heap.size (.slice (some ⟨w.heap.size, 0, none⟩) 1 1) (pcs (ss.take i) b)) := hid0 (by
    rw [pcs_start ss b i h1]
    exact World.ownsRow_lit w #[.int .i64 0, .int .i64 0] 1 (Nat.le_refl _) (by unfold maxLen; omega) rfl)
  have HB0 : Hid (Below w.heap.size w (w.alloc (.cells #[.int .i64 0, .int .i64 0] 88))) := hid0 ((Below.refl _ _).alloc (Nat.le_refl _) _)
  have H2 := hid0 h2
  obtain ⟨B, hB⟩ : ∃ B : Int, 128 * (b : Int) = B := ⟨_, rfl⟩
  have hB0 : 0 ≤ B := by omega
  have hB1 : B ≤ 1114112 := by omega
  have hBw : IntKind.i64.wrap B = B := by simp [IntKind.wrap, IntKind.bits, IntKind.signed]; omega
  clear hR h hpa hpb h1 h2
  go_enter Tryd.func38, Tryd.ntmps38
  go_wp2
  go_loopw [2, 7] (fun iv v wr => ∃ k : Nat, k ≤ ss.length ∧ iv = .int .i64 (k : Int) ∧ Hid (∀ (q : k < ss.length), 128 * (b : Int) ≤ ss[k].2.1) ∧ Hid (OwnQ wr w.heap.size v (pcs (ss.take k) b)) ∧ Hid (Below w.heap.size w wr)) (fun iv _ _ => ss.length - (intOf iv).toNat)
  case atStart => exact ⟨i, hi', rfl, H2, HO0, HB0⟩
  case round =>
    obtain ⟨k, hk, rfl, HK, HO, HB⟩ := hrel
    clear H2 HO0 HB0
    have hbs := HB.out.size
    have y1 : wr.cell? ⟨U, 1, none⟩ = some (.slice aS ss.length cS) := by rw [cell_of_row _ _ _ _ _ _ (HT.out.below HB.out).row]; rfl
    by_cases hlt : k < ss.length
    · obtain ⟨b0, off, rfl, hbw, c0, c1, c2⟩ := HP.out.at' k hlt
      have d0 := (HB.out.cell (p := ⟨b0, off + k * 3, none⟩) hbw).trans c0
      have d1 := (HB.out.cell (p := ⟨b0, off + k * 3 + 1, none⟩) hbw).trans c1
      have d2 := (HB.out.cell (p := ⟨b0, off + k * 3 + 2, none⟩) hbw).trans c2
      have hkI : (k : Int) < (ss.length : Int) := by omega
      have hkI0 : (0 : Int) ≤ (k : Int) := by omega
      have hone := HR.out.one ss[k] (List.getElem_mem hlt)
      have hhi := HK.out hlt
      rw [hB] at hhi
      by_cases tlo : ss[k].1 < B + 128
      · have HST := hid0 (pcs_step HR.out b k hlt (by omega) (by omega))
        obtain ⟨f, hf⟩ := pcs_half HR.out b k hlt
        have HF := hid0 hf
        have HNX : Hid (∀ (q : k + 1 < ss.length), 128 * (b : Int) ≤ ss[k + 1].2.1) := hid0 (fun q => by
          have h1 := List.pairwise_iff_getElem.1 HR.out.two k (k + 1) hlt q (by omega)
          have h2 := (HR.out.one ss[k + 1] (List.getElem_mem q)).2.1
          omega)
        have HB1 : Hid (Below w.heap.size w (wr.alloc (.cells #[.int .i64 ss[k].1, .int .i64 ss[k].2.1, .int .i64 ss[k].2.2] 38))) := hid0 (HB.out.alloc hbs _)
        have HO1 : Hid (OwnQ (wr.alloc (.cells #[.int .i64 ss[k].1, .int .i64 ss[k].2.1, .int .i64 ss[k].2.2] 38)) w.heap.size u7 (pcs (ss.take k) b)) := hid0 (World.ownsRow.alloc HO.out _)
        rw [hB] at HST HF
        clear hf HK HO c0 c1 c2
        generalize ss[k] = s at *
        obtain ⟨a0, a1, a2⟩ := s
        simp only at d0 d1 d2 hone hhi tlo HST HF HB1 HO1
        obtain ⟨o1, o2, o3, o4, o5⟩ := hone
        obtain ⟨q0, hq0⟩ : ∃ q0, max (a0 - B) 0 = q0 := ⟨_, rfl⟩
        obtain ⟨q1, hq1⟩ : ∃ q1, min (a1 - B) 127 = q1 := ⟨_, rfl⟩
        rw [hq0, hq1] at HST
        rw [hq0] at HF
        have hmax : ∀ ts t w, (Builtin.max_ ts t #[.int .i64 (a0 - B), .int .i64 0]).run Tryd.prog w = .ok (.int .i64 q0) w := fun ts t w => by rw [run_max_int2, ← hq0]; (repeat' split) <;> first | rfl | omega | (congr 2; omega)
        have hmin : ∀ ts t w, (Builtin.min_ ts t #[.int .i64 (a1 - B), .int .i64 127]).run Tryd.prog w = .ok (.int .i64 q1) w := fun ts t w => by rw [run_min_int2, ← hq1]; (repeat' split) <;> first | rfl | omega | (congr 2; omega)
        have hw1 : IntKind.i64.wrap (a0 - B) = a0 - B := by simp [IntKind.wrap, IntKind.bits, IntKind.signed]; omega
        have hw2 : IntKind.i64.wrap (a1 - B) = a1 - B := by simp [IntKind.wrap, IntKind.bits, IntKind.signed]; omega
        have hw3 : IntKind.i64.wrap (B + 128) = B + 128 := by simp [IntKind.wrap, IntKind.bits, IntKind.signed]; omega
        have hw4 : IntKind.i64.wrap (q1 + 1) = q1 + 1 := by simp [IntKind.wrap, IntKind.bits, IntKind.signed]; omega
        have hw5 : IntKind.i64.wrap (a2 + 1) = a2 + 1 := by simp [IntKind.wrap, IntKind.bits, IntKind.signed]; omega
        have HSZ : Hid (w.heap.size ≤ (wr.alloc (.cells #[.int .i64 a0, .int .i64 a1, .int .i64 a2] 38)).heap.size) := hid0 (by simp; omega)
        have HP1 := hid0 (put_enc _ w.heap.size u7 (clsB (ss.take k) b) q0 (a2 + 1) HSZ.out HO1.out)
        have HP2 : Hid (∀ W v, w.heap.size ≤ W.heap.size → OwnQ W w.heap.size v (encN f 128) → Calls Tryd.prog 47 #[v, .agg #[.int .i64 (q1 + 1), .int .i64 0]] W fun e w' => ∃ v', e = .returned v' ∧ OwnQ w' w.heap.size v' (putF (encN f 128) (q1 + 1, 0)) ∧ Below w.heap.size W w') := hid0 (fun W v h1 h2 => put_enc W w.heap.size v f (q1 + 1) 0 h1 h2)
        clear hq0 hq1 hbw HSZ HO1
        have mk : Hid True := trivial
        go_wp2_with (first
          | (go_at_call 47; clear mk; refine HP1.out.mono ?_; rintro e w2 ⟨v2, rfl, ho2, hb2⟩; have HO2 := hid0 ho2; have HB2 := hid0 hb2; have M2 : Hid True := trivial; clear ho2 hb2 HP1)
          | (go_at_call 47; clear M2; refine (HP2.out w2 v2 (Nat.le_trans HB1.out.size HB2.out.size) (by rw [← HF.out]; exact HO2.out)).mono ?_; rintro e w3 ⟨v3, rfl, ho3, hb3⟩; have HO3 := hid0 ho3; have HB3 := hid0 hb3; clear ho3 hb3 HP2))
        go_roundw
        case rel => exact ⟨k + 1, by omega, by go_num, HNX, hid0 (by have h := HO3.out; rw [← HF.out, HST.out] at h; exact h), hid0 ((HB1.out.trans HB2.out).trans HB3.out)⟩
        case measure => simp [intOf]; omega
      · have HE : Hid (OwnQ wr w.heap.size u7 (pcs ss b)) := hid0 (by have h := HO.out; rw [pcs_end HR.out b k (fun q => by omega)] at h; exact h)
        have hw3 : IntKind.i64.wrap (B + 128) = B + 128 := by simp [IntKind.wrap, IntKind.bits, IntKind.signed]; omega
        go_wp2
        go_ret
        exact ⟨u7, rfl, HE.out, HB.out⟩
    · have hkI : ¬ (k : Int) < (ss.length : Int) := by omega
      have HE : Hid (OwnQ wr w.heap.size u7 (pcs ss b)) := hid0 (by have h := HO.out; rw [pcs_end HR.out b k (fun q => absurd q hlt)] at h; exact h)
      go_wp2
      go_ret
      exact ⟨u7, rfl, HE.out, HB.out⟩
end Go.Proofs.YtpimameogmkpcaaDoor
