/-
  ExTh3W, ExTh4W, ExTiW, ExTrM, ExTsM, ExUkW, Eh3W, ExSmW, ExUlW, Door, ExOpP, RvsP.
-/
import Derived.Test.YtolnoojbcbdfiaaDoorMof
import Derived.Test.YtolnoojbcbdfiaaDoorMoe
import Derived.Test.YtolnoojbcbdfiaaDoorMoa
import Derived.Test.YtolnoojbcbdfiaaDoorMod
import Derived.Test.YtolnoojbcbdfiaaDoorCards
import Derived.Test.YtolnoojbcbdfiaaDoorTie
import Derived.WalkKit
import Derived.ProofKit
import Derived.OpenShut
import Derived.Deep.DeepHandedRow
import Derived.Lib.LaidTab
import Derived.Lib.SmallJoins
import Derived.ChangeSlices
import Derived.Deep.Slices
import Derived.Stop.LaidErr
import Derived.Lib.LaidU8
import Derived.Shelf.Vars
import Derived.Lay
import Derived.LaidMore
namespace Go.Proofs.YtolnoojbcbdfiaaDoor
open Go.RowKit Go.Shelf
set_option maxRecDepth 10000 in
set_option maxHeartbeats 3200000 in
theorem tidy_row3 (n : Nat) (hn : n ≤ 4) (k : Int) (nt : Bool) (sN sP : Value) (L : List Ex) (c : Option Addr) (cc : Nat) (vs : Nat → EV) (w : World) (hne : 0 < L.length) (hkt : kindT k = 3) (hL : ∀ i, i < L.length → ∃ g off, c = some ⟨g, off, none⟩ ∧ Five w g (off + i * 5) (vs i)) (hR : ∀ i (h : i < L.length), ExIn w L[i] (vs i)) (ih : ∀ e, TidyP n e) :
    Calls Tryd.prog 5 #[.agg #[.int .i64 k, .bool nt, sN, sP, .slice c L.length cc], .int .i64 ((n + 1 : Nat) : Int)] w fun r w' => ExR w (nodeE 3 (flatT n 3 L 3)) r w' := by
  obtain ⟨W, hW⟩ : ∃ W, (w.alloc (.cells #[.int .i64 k, .bool nt, sN, sP, .slice c L.length cc] 28)).alloc (.cells #[.int .i64 0, .bool false, .slice none 0 0, .slice none 0 0, .slice none 0 0] 28) = W := ⟨_, rfl⟩
  obtain ⟨hr0, hr1, hb, hs⟩ := two_rows w _ _ _ _ _ _ _ _ _ _ _ W hW.symm
  obtain ⟨⟨x0, x1, x2, x3, x4⟩, _⟩ := rowE hr0
  have HR0 := hid0 hr0
  have HR1 := hid0 hr1
  have HB := hid0 hb
  have HS := hid0 hs
  have HL := hid0 hL
  have HRr := hid0 hR
  have HIH := hid0 ih
  clear hL hR ih
  obtain ⟨pk, hpk⟩ : ∃ pk, pk = pickN (IntKind.i64.wrap (k - 1)) 7 := ⟨_, rfl⟩
  obtain ⟨kq, hkq⟩ : ∃ kq, IntKind.i64.wrap (k - 1) = kq := ⟨_, rfl⟩
  have HPk := hid0 (fun V => pick_at kq 7 (by omega) (by omega) V)
  rw [← hkq, ← hpk] at HPk
  rw [hkq] at HPk
  have hpk2 : pk = 2 := by
    have : kindT k = 1 + pk := by rw [hpk]; rfl
    omega
  subst hpk2
  have hmI : ¬ ((L.length : Int) = 0) := by omega
  have hmB : ((L.length : Int) == 0) = false := by simp; intro e; rw [e] at hne; exact absurd hne (by simp)
  have hl0 : ¬ (((n + 1 : Nat) : Int) = 0) := by omega
  have hsub : IntKind.i64.wrap (((n + 1 : Nat) : Int) - 1) = (n : Int) := by simp [IntKind.wrap, IntKind.bits, IntKind.signed]; omega
  generalize ((n + 1 : Nat) : Int) = lv at *
  have hlB : (lv == 0) = false := by simpa using hl0
  have HI0 := hid0 (RowI.first W n 3 L)
  clear hb hs hr0 hr1 hpk hkt hne
  go_enter Tryd.func5, Tryd.ntmps5
  go_wp2_with (first
    | (go_at_call 19; refine (HPk.out _).mono ?_; rintro r w1 ⟨rfl, rfl⟩)
    | fail)
  clear hW x0 x1 x2 x3 x4
  go_loopw [6, 7, 8] (fun v i _ wr => ∃ (j : Nat), j ≤ 3 ∧ i = .int .i64 (j : Int) ∧ Hid (RowI w1 wr n 3 L j v)) (fun _ i _ _ => 3 - (intOf i).toNat)
  case atStart => exact ⟨0, Nat.zero_le _, rfl, HI0⟩
  case round =>
    clear HI0
    obtain ⟨j, hj, rfl, HI⟩ := hrel
    have HRw := hid0 ((HI.out.bel.block w.heap.size (by have := HS.out; omega)).trans HR0.out)
    obtain ⟨⟨x0, x1, x2, x3, x4⟩, _⟩ := rowE HRw.out
    by_cases hlt : j < L.length ∧ j < 3
    · have hjI : (j : Int) < (L.length : Int) := by omega
      have hj3 : (j : Int) < 3 := by omega
      have hjI0 : (0 : Int) ≤ (j : Int) := by omega
      obtain ⟨g, off, rfl, h5⟩ := HL.out j hlt.1
      obtain ⟨y0, y1, y2, y3, y4⟩ := h5.past (Below.later HB.out HI.out.bel |>.mono (Nat.le_refl _))
      have HT := hid0 (HIH.out L[j] wr (vs j) ((HRr.out j hlt.1).past (Below.later HB.out HI.out.bel)))
      have HFl : Hid (flatT n 3 L (j + 1) = flatT n 3 L j ++ gl 3 (tidyE n L[j])) := hid0 (flatT_succ n 3 L j hlt.1)
      have HPt := hid0 (parts_tidy hn L[j])
      have hvs : ∃ aw mw cw, u6 = .slice aw mw cw := by
        obtain ⟨ys, hp⟩ := HI.out.pe
        obtain ⟨aw, cw, e⟩ := hp.form
        exact ⟨aw, _, cw, e⟩
      obtain ⟨aw, mw, cw, rfl⟩ := hvs
      unfold EV.v at HT
      generalize vs j = y at *
      generalize L[j] = p at *
      obtain ⟨yk, yt, yn, yp, yr⟩ := y
      simp only [] at y0 y1 y2 y3 y4 HT
      have hlt2 := hlt.2
      clear h5 hlt
      go_wp2_with (first
        | (go_at_call 5
           refine HT.out.mono ?_
           rintro r w2 hr
           obtain ⟨k5, u5, a5, m5, c5, b5, n5, d5, g5, l5, z5, rfl, q1, q2⟩ := hr.shape
           obtain ⟨w3, hw3⟩ : ∃ w3, w2.alloc (.cells #[.int .i64 k5, .bool u5, .slice a5 m5 c5, .slice b5 n5 d5, .slice g5 l5 z5] 28) = w3 := ⟨_, rfl⟩
           have hb3 : Below w2.heap.size w2 w3 := by rw [← hw3]; exact (Below.refl _ _).alloc (Nat.le_refl _) _
           have hr3 : w3.heap[w2.heap.size]? = some (.cells #[.int .i64 k5, .bool u5, .slice a5 m5 c5, .slice b5 n5 d5, .slice g5 l5 z5] 28 (0, 0)) := by rw [← hw3]; exact heap_alloc_new w2 _
           have HAsk := hid0 (HI.out.ask hn hlt2 HPt.out q1 q2 hb3)
           unfold EV.v at HAsk
           simp only [] at HAsk
           obtain ⟨⟨c0, c1, c2, c3, c4⟩, _⟩ := rowE hr3
           clear hr q1 q2 hb3 hr3)
        | (go_at_call 8
           refine HAsk.out.mono ?_
           rintro r w4 ⟨v', rfl, hp4, hb4⟩
           have HN : Hid (RowI w1 w4 n 3 L (j + 1) v') := hid0 ⟨by rw [HFl.out]; exact hp4, hb4⟩
           clear hp4 hb4)
        | fail)
      go_roundw
      case rel => exact ⟨j + 1, by omega, by go_num, HN⟩
      case measure => simp [intOf]; omega
    · have HI3 : Hid (RowI w1 wr n 3 L 3 u6) := hid0 ⟨by
        have h := HI.out.pe
        have e : L.take j = L.take 3 := by
          rcases Nat.lt_or_ge j 3 with h3 | h3
          · rw [List.take_of_length_le (by omega), List.take_of_length_le (by omega)]
          · rw [show j = 3 by omega]
        unfold flatT at h ⊢
        rw [e] at h
        exact h, HI.out.bel⟩
      obtain ⟨hrw, a6, c6, rfl, h0, h1, h2⟩ := HI3.out.done hn HB.out HS.out HR1.out
      obtain ⟨⟨z0, z1, z2, z3, z4⟩, f0, f1, f2, f3, f4⟩ := rowE hrw
      have H0 := hid0 h0
      have H1 := hid0 h1
      have H2 := hid0 h2
      clear h0 h1 h2 hrw HI
      generalize hm : (flatT n 3 L 3).length = m at *
      clear hm
      rcases (show m = 0 ∨ m = 1 ∨ 2 ≤ m by omega) with rfl | rfl | hm2
      · obtain ⟨V, hV, hVr, hR⟩ := H0.out rfl
        have HR := hid0 hR
        have HVr := hid0 hVr
        unfold setE at hV
        have HV := hid0 hV
        clear hV hVr hR
        by_cases hA : j < L.length
        · have hjI : (j : Int) < (L.length : Int) := by omega
          have hj3 : ¬ (j : Int) < 3 := by omega
          go_wp2
          rw [← HV.out]
          obtain ⟨⟨k0, k1, k2, k3, k4⟩, _⟩ := rowE HVr.out
          exact bodyPost_ret (v := .agg #[.int .i64 1, .bool false, .slice none 0 0, .slice none 0 0, .slice none 0 0]) (by simp [results, Tryd.results5, go_sem, k0, k1, k2, k3, k4]) rfl HR.out
        · have hjI : ¬ (j : Int) < (L.length : Int) := by omega
          go_wp2
          rw [← HV.out]
          obtain ⟨⟨k0, k1, k2, k3, k4⟩, _⟩ := rowE HVr.out
          exact bodyPost_ret (v := .agg #[.int .i64 1, .bool false, .slice none 0 0, .slice none 0 0, .slice none 0 0]) (by simp [results, Tryd.results5, go_sem, k0, k1, k2, k3, k4]) rfl HR.out
      · obtain ⟨g, k5, u5, a5, m5, c5, b5, n5, d5, g5, l5, z5, rfl, h5, V, hV, hVr, hR⟩ := H1.out rfl
        obtain ⟨q0, q1, q2, q3, q4⟩ := h5
        simp only [Nat.zero_add] at q0 q1 q2 q3 q4
        have HR := hid0 hR
        have HVr := hid0 hVr
        unfold setE at hV
        have HV := hid0 hV
        clear hV hVr hR
        by_cases hA : j < L.length
        · have hjI : (j : Int) < (L.length : Int) := by omega
          have hj3 : ¬ (j : Int) < 3 := by omega
          go_wp2
          rw [← HV.out]
          obtain ⟨⟨k0, k1, k2, k3, k4⟩, _⟩ := rowE HVr.out
          exact bodyPost_ret (v := .agg #[.int .i64 k5, .bool u5, .slice a5 m5 c5, .slice b5 n5 d5, .slice g5 l5 z5]) (by simp [results, Tryd.results5, go_sem, k0, k1, k2, k3, k4]) rfl HR.out
        · have hjI : ¬ (j : Int) < (L.length : Int) := by omega
          go_wp2
          rw [← HV.out]
          obtain ⟨⟨k0, k1, k2, k3, k4⟩, _⟩ := rowE HVr.out
          exact bodyPost_ret (v := .agg #[.int .i64 k5, .bool u5, .slice a5 m5 c5, .slice b5 n5 d5, .slice g5 l5 z5]) (by simp [results, Tryd.results5, go_sem, k0, k1, k2, k3, k4]) rfl HR.out
      · obtain ⟨V, hV, hVr, hR⟩ := H2.out hm2
        have hm0 : ¬ ((m : Int) = 0) := by omega
        have hm1 : ¬ ((m : Int) = 1) := by omega
        have HR := hid0 hR
        have HVr := hid0 hVr
        unfold setE at hV
        have HV := hid0 hV
        clear hV hVr hR
        by_cases hA : j < L.length
        · have hjI : (j : Int) < (L.length : Int) := by omega
          have hj3 : ¬ (j : Int) < 3 := by omega
          go_wp2
          rw [← HV.out]
          obtain ⟨⟨k0, k1, k2, k3, k4⟩, _⟩ := rowE HVr.out
          exact bodyPost_ret (v := .agg #[.int .i64 3, .bool false, .slice none 0 0, .slice none 0 0, .slice a6 m c6]) (by simp [results, Tryd.results5, go_sem, k0, k1, k2, k3, k4]) rfl HR.out
        · have hjI : ¬ (j : Int) < (L.length : Int) := by omega
          go_wp2
          rw [← HV.out]
          obtain ⟨⟨k0, k1, k2, k3, k4⟩, _⟩ := rowE HVr.out
          exact bodyPost_ret (v := .agg #[.int .i64 3, .bool false, .slice none 0 0, .slice none 0 0, .slice a6 m c6]) (by simp [results, Tryd.results5, go_sem, k0, k1, k2, k3, k4]) rfl HR.out
end Go.Proofs.YtolnoojbcbdfiaaDoor
namespace Go.Proofs.YtolnoojbcbdfiaaDoor
open Go.RowKit Go.Shelf
set_option maxRecDepth 10000 in
set_option maxHeartbeats 3200000 in
theorem tidy_row4 (n : Nat) (hn : n ≤ 4) (k : Int) (nt : Bool) (sN sP : Value) (L : List Ex) (c : Option Addr) (cc : Nat) (vs : Nat → EV) (w : World) (hne : 0 < L.length) (hkt : kindT k = 4) (hL : ∀ i, i < L.length → ∃ g off, c = some ⟨g, off, none⟩ ∧ Five w g (off + i * 5) (vs i)) (hR : ∀ i (h : i < L.length), ExIn w L[i] (vs i)) (ih : ∀ e, TidyP n e) :
    Calls Tryd.prog 5 #[.agg #[.int .i64 k, .bool nt, sN, sP, .slice c L.length cc], .int .i64 ((n + 1 : Nat) : Int)] w fun r w' => ExR w (nodeE 4 (flatT n 4 L 3)) r w' := by
  obtain ⟨W, hW⟩ : ∃ W, (w.alloc (.cells #[.int .i64 k, .bool nt, sN, sP, .slice c L.length cc] 28)).alloc (.cells #[.int .i64 0, .bool false, .slice none 0 0, .slice none 0 0, .slice none 0 0] 28) = W := ⟨_, rfl⟩
  obtain ⟨hr0, hr1, hb, hs⟩ := two_rows w _ _ _ _ _ _ _ _ _ _ _ W hW.symm
  obtain ⟨⟨x0, x1, x2, x3, x4⟩, _⟩ := rowE hr0
  have HR0 := hid0 hr0
  have HR1 := hid0 hr1
  have HB := hid0 hb
  have HS := hid0 hs
  have HL := hid0 hL
  have HRr := hid0 hR
  have HIH := hid0 ih
  clear hL hR ih
  obtain ⟨pk, hpk⟩ : ∃ pk, pk = pickN (IntKind.i64.wrap (k - 1)) 7 := ⟨_, rfl⟩
  obtain ⟨kq, hkq⟩ : ∃ kq, IntKind.i64.wrap (k - 1) = kq := ⟨_, rfl⟩
  have HPk := hid0 (fun V => pick_at kq 7 (by omega) (by omega) V)
  rw [← hkq, ← hpk] at HPk
  rw [hkq] at HPk
  have hpk2 : pk = 3 := by
    have : kindT k = 1 + pk := by rw [hpk]; rfl
    omega
  subst hpk2
  have hmI : ¬ ((L.length : Int) = 0) := by omega
  have hmB : ((L.length : Int) == 0) = false := by simp; intro e; rw [e] at hne; exact absurd hne (by simp)
  have hl0 : ¬ (((n + 1 : Nat) : Int) = 0) := by omega
  have hsub : IntKind.i64.wrap (((n + 1 : Nat) : Int) - 1) = (n : Int) := by simp [IntKind.wrap, IntKind.bits, IntKind.signed]; omega
  generalize ((n + 1 : Nat) : Int) = lv at *
  have hlB : (lv == 0) = false := by simpa using hl0
  have HI0 := hid0 (RowI.first W n 4 L)
  clear hb hs hr0 hr1 hpk hkt hne
  go_enter Tryd.func5, Tryd.ntmps5
  go_wp2_with (first
    | (go_at_call 19; refine (HPk.out _).mono ?_; rintro r w1 ⟨rfl, rfl⟩)
    | fail)
  clear hW x0 x1 x2 x3 x4
  go_loopw [6, 7, 8] (fun v i _ wr => ∃ (j : Nat), j ≤ 3 ∧ i = .int .i64 (j : Int) ∧ Hid (RowI w1 wr n 4 L j v)) (fun _ i _ _ => 3 - (intOf i).toNat)
  case atStart => exact ⟨0, Nat.zero_le _, rfl, HI0⟩
  case round =>
    clear HI0
    obtain ⟨j, hj, rfl, HI⟩ := hrel
    have HRw := hid0 ((HI.out.bel.block w.heap.size (by have := HS.out; omega)).trans HR0.out)
    obtain ⟨⟨x0, x1, x2, x3, x4⟩, _⟩ := rowE HRw.out
    by_cases hlt : j < L.length ∧ j < 3
    · have hjI : (j : Int) < (L.length : Int) := by omega
      have hj3 : (j : Int) < 3 := by omega
      have hjI0 : (0 : Int) ≤ (j : Int) := by omega
      obtain ⟨g, off, rfl, h5⟩ := HL.out j hlt.1
      obtain ⟨y0, y1, y2, y3, y4⟩ := h5.past (Below.later HB.out HI.out.bel |>.mono (Nat.le_refl _))
      have HT := hid0 (HIH.out L[j] wr (vs j) ((HRr.out j hlt.1).past (Below.later HB.out HI.out.bel)))
      have HFl : Hid (flatT n 4 L (j + 1) = flatT n 4 L j ++ gl 4 (tidyE n L[j])) := hid0 (flatT_succ n 4 L j hlt.1)
      have HPt := hid0 (parts_tidy hn L[j])
      have hvs : ∃ aw mw cw, u6 = .slice aw mw cw := by
        obtain ⟨ys, hp⟩ := HI.out.pe
        obtain ⟨aw, cw, e⟩ := hp.form
        exact ⟨aw, _, cw, e⟩
      obtain ⟨aw, mw, cw, rfl⟩ := hvs
      unfold EV.v at HT
      generalize vs j = y at *
      generalize L[j] = p at *
      obtain ⟨yk, yt, yn, yp, yr⟩ := y
      simp only [] at y0 y1 y2 y3 y4 HT
      have hlt2 := hlt.2
      clear h5 hlt
      go_wp2_with (first
        | (go_at_call 5
           refine HT.out.mono ?_
           rintro r w2 hr
           obtain ⟨k5, u5, a5, m5, c5, b5, n5, d5, g5, l5, z5, rfl, q1, q2⟩ := hr.shape
           obtain ⟨w3, hw3⟩ : ∃ w3, w2.alloc (.cells #[.int .i64 k5, .bool u5, .slice a5 m5 c5, .slice b5 n5 d5, .slice g5 l5 z5] 28) = w3 := ⟨_, rfl⟩
           have hb3 : Below w2.heap.size w2 w3 := by rw [← hw3]; exact (Below.refl _ _).alloc (Nat.le_refl _) _
           have hr3 : w3.heap[w2.heap.size]? = some (.cells #[.int .i64 k5, .bool u5, .slice a5 m5 c5, .slice b5 n5 d5, .slice g5 l5 z5] 28 (0, 0)) := by rw [← hw3]; exact heap_alloc_new w2 _
           have HAsk := hid0 (HI.out.ask hn hlt2 HPt.out q1 q2 hb3)
           unfold EV.v at HAsk
           simp only [] at HAsk
           obtain ⟨⟨c0, c1, c2, c3, c4⟩, _⟩ := rowE hr3
           clear hr q1 q2 hb3 hr3)
        | (go_at_call 8
           refine HAsk.out.mono ?_
           rintro r w4 ⟨v', rfl, hp4, hb4⟩
           have HN : Hid (RowI w1 w4 n 4 L (j + 1) v') := hid0 ⟨by rw [HFl.out]; exact hp4, hb4⟩
           clear hp4 hb4)
        | fail)
      go_roundw
      case rel => exact ⟨j + 1, by omega, by go_num, HN⟩
      case measure => simp [intOf]; omega
    · have HI3 : Hid (RowI w1 wr n 4 L 3 u6) := hid0 ⟨by
        have h := HI.out.pe
        have e : L.take j = L.take 3 := by
          rcases Nat.lt_or_ge j 3 with h3 | h3
          · rw [List.take_of_length_le (by omega), List.take_of_length_le (by omega)]
          · rw [show j = 3 by omega]
        unfold flatT at h ⊢
        rw [e] at h
        exact h, HI.out.bel⟩
      obtain ⟨hrw, a6, c6, rfl, h0, h1, h2⟩ := HI3.out.done hn HB.out HS.out HR1.out
      obtain ⟨⟨z0, z1, z2, z3, z4⟩, f0, f1, f2, f3, f4⟩ := rowE hrw
      have H0 := hid0 h0
      have H1 := hid0 h1
      have H2 := hid0 h2
      clear h0 h1 h2 hrw HI
      generalize hm : (flatT n 4 L 3).length = m at *
      clear hm
      rcases (show m = 0 ∨ m = 1 ∨ 2 ≤ m by omega) with rfl | rfl | hm2
      · obtain ⟨V, hV, hVr, hR⟩ := H0.out rfl
        have HR := hid0 hR
        have HVr := hid0 hVr
        unfold setE at hV
        have HV := hid0 hV
        clear hV hVr hR
        by_cases hA : j < L.length
        · have hjI : (j : Int) < (L.length : Int) := by omega
          have hj3 : ¬ (j : Int) < 3 := by omega
          go_wp2
          rw [← HV.out]
          obtain ⟨⟨k0, k1, k2, k3, k4⟩, _⟩ := rowE HVr.out
          exact bodyPost_ret (v := .agg #[.int .i64 1, .bool false, .slice none 0 0, .slice none 0 0, .slice none 0 0]) (by simp [results, Tryd.results5, go_sem, k0, k1, k2, k3, k4]) rfl HR.out
        · have hjI : ¬ (j : Int) < (L.length : Int) := by omega
          go_wp2
          rw [← HV.out]
          obtain ⟨⟨k0, k1, k2, k3, k4⟩, _⟩ := rowE HVr.out
          exact bodyPost_ret (v := .agg #[.int .i64 1, .bool false, .slice none 0 0, .slice none 0 0, .slice none 0 0]) (by simp [results, Tryd.results5, go_sem, k0, k1, k2, k3, k4]) rfl HR.out
      · obtain ⟨g, k5, u5, a5, m5, c5, b5, n5, d5, g5, l5, z5, rfl, h5, V, hV, hVr, hR⟩ := H1.out rfl
        obtain ⟨q0, q1, q2, q3, q4⟩ := h5
        simp only [Nat.zero_add] at q0 q1 q2 q3 q4
        have HR := hid0 hR
        have HVr := hid0 hVr
        unfold setE at hV
        have HV := hid0 hV
        clear hV hVr hR
        by_cases hA : j < L.length
        · have hjI : (j : Int) < (L.length : Int) := by omega
          have hj3 : ¬ (j : Int) < 3 := by omega
          go_wp2
          rw [← HV.out]
          obtain ⟨⟨k0, k1, k2, k3, k4⟩, _⟩ := rowE HVr.out
          exact bodyPost_ret (v := .agg #[.int .i64 k5, .bool u5, .slice a5 m5 c5, .slice b5 n5 d5, .slice g5 l5 z5]) (by simp [results, Tryd.results5, go_sem, k0, k1, k2, k3, k4]) rfl HR.out
        · have hjI : ¬ (j : Int) < (L.length : Int) := by omega
          go_wp2
          rw [← HV.out]
          obtain ⟨⟨k0, k1, k2, k3, k4⟩, _⟩ := rowE HVr.out
          exact bodyPost_ret (v := .agg #[.int .i64 k5, .bool u5, .slice a5 m5 c5, .slice b5 n5 d5, .slice g5 l5 z5]) (by simp [results, Tryd.results5, go_sem, k0, k1, k2, k3, k4]) rfl HR.out
      · obtain ⟨V, hV, hVr, hR⟩ := H2.out hm2
        have hm0 : ¬ ((m : Int) = 0) := by omega
        have hm1 : ¬ ((m : Int) = 1) := by omega
        have HR := hid0 hR
        have HVr := hid0 hVr
        unfold setE at hV
        have HV := hid0 hV
        clear hV hVr hR
        by_cases hA : j < L.length
        · have hjI : (j : Int) < (L.length : Int) := by omega
          have hj3 : ¬ (j : Int) < 3 := by omega
          go_wp2
          rw [← HV.out]
          obtain ⟨⟨k0, k1, k2, k3, k4⟩, _⟩ := rowE HVr.out
          exact bodyPost_ret (v := .agg #[.int .i64 4, .bool false, .slice none 0 0, .slice none 0 0, .slice a6 m c6]) (by simp [results, Tryd.results5, go_sem, k0, k1, k2, k3, k4]) rfl HR.out
        · have hjI : ¬ (j : Int) < (L.length : Int) := by omega
          go_wp2
          rw [← HV.out]
          obtain ⟨⟨k0, k1, k2, k3, k4⟩, _⟩ := rowE HVr.out
          exact bodyPost_ret (v := .agg #[.int .i64 4, .bool false, .slice none 0 0, .slice none 0 0, .slice a6 m c6]) (by simp [results, Tryd.results5, go_sem, k0, k1, k2, k3, k4]) rfl HR.out
end Go.Proofs.YtolnoojbcbdfiaaDoor
namespace Go.Proofs.YtolnoojbcbdfiaaDoor
open Go.RowKit Go.Shelf
theorem tidy_any : ∀ (n : Nat), n ≤ 4 → ∀ e, TidyP n e
  | 0, _ => fun e W y h => by
    obtain ⟨k, nt, N, P, L⟩ := e
    obtain ⟨a, ca, b, cb, c, cc, rfl, hN, hP, _⟩ := h.shape
    exact tidy_leaf 0 k nt N P L.length a b c ca cb cc W hN hP (.inr rfl)
  | n + 1, hn => fun e W y h => by
    obtain ⟨k, nt, N, P, L⟩ := e
    obtain ⟨a, ca, b, cb, c, cc, rfl, hN, hP, vs, hL, hR⟩ := h.shape
    obtain rfl | ⟨p, M, rfl⟩ : L = [] ∨ ∃ p M, L = p :: M := by
      cases L with
      | nil => exact .inl rfl
      | cons p M => exact .inr ⟨p, M, rfl⟩
    · exact tidy_leaf (n + 1) k nt N P 0 a b c ca cb cc W hN hP (.inl rfl)
    · have ih := tidy_any n (by omega)
      by_cases h34 : kindT k = 3 ∨ kindT k = 4
      · have e : tidyE (n + 1) (.mk k nt N P (p :: M)) = nodeE (kindT k) (flatT n (kindT k) (p :: M) 3) := by
          unfold flatT
          rw [tidyE, if_pos h34]
        rw [e]
        rcases h34 with h | h
        · have h2 := tidy_row3 n (by omega) k nt (.slice a N.length ca) (.slice b P.length cb) (p :: M) c cc vs W (by simp) h hL hR ih
          rw [h]
          exact h2
        · have h2 := tidy_row4 n (by omega) k nt (.slice a N.length ca) (.slice b P.length cb) (p :: M) c cc vs W (by simp) h hL hR ih
          rw [h]
          exact h2
      · have e : tidyE (n + 1) (.mk k nt N P (p :: M)) = .mk (oneK (kindT k)) false [] [] [tidyE n p] := by
          rw [tidyE, if_neg h34]
        rw [e]
        obtain ⟨g, off, rfl, h5⟩ := hL 0 (by simp)
        exact tidy_one n (by omega) k nt (.slice a N.length ca) (.slice b P.length cb) g off (p :: M).length cc p (vs 0) W (by simp) h34 (by simpa using h5) (hR 0 (by simp)) (ih p)
end Go.Proofs.YtolnoojbcbdfiaaDoor
namespace Go.Proofs.YtolnoojbcbdfiaaDoor
open Go.RowKit Go.Shelf
theorem bool_ext {p q : Bool} (h : p = true ↔ q = true) : p = q := by
  cases p <;> cases q <;> simp_all
/-- Is a word cut, not ahead of its first unit, into two, up to a place? -/
noncomputable def moreB (a s : Ex) (l : List Kd) (j : Nat) : Bool := (List.range j).any fun i => decide (1 ≤ i) && hitB a s l i
theorem moreB_one (a s : Ex) (l : List Kd) : moreB a s l 1 = false := by
  unfold moreB
  simp
theorem moreB_succ (a s : Ex) (l : List Kd) (j : Nat) (hj : 1 ≤ j) : moreB a s l (j + 1) = (moreB a s l j || hitB a s l j) := by
  unfold moreB
  rw [List.range_succ, List.any_append]
  simp [hj]
section
variable {a b : Ex} (ha : WfE 4 a) (hb : WfE 4 b) (sa : a.size ≤ 40) (sb : b.size ≤ 40) (l : List Kd)
include ha sa
theorem ok_a : okE a = true := wf_ok ha (by omega) (by omega)
theorem ok_one (q : Int) (hq : q = 5 ∨ q = 6 ∨ q = 7) : okE (.mk q false [] [] [a]) = true := wf_ok (one_wf hq ha) (by omega) (by rw [one_size]; omega)
theorem eq_opt : mtB (.mk 7 false [] [] [a]) l = (mtB a l || ((l.length : Int) == 0)) := bool_ext (by
  rw [mtB_iff (ok_one ha sa 7 (by decide)), mt_opt, Bool.or_eq_true, mtB_iff (ok_a ha sa), beq_iff_eq]
  constructor
  · rintro (h | rfl)
    · exact .inl h
    · exact .inr rfl
  · rintro (h | h)
    · exact .inl h
    · exact .inr (List.length_eq_zero_iff.1 (by omega)))
theorem eq_star : mtB (.mk 5 false [] [] [a]) l = (((l.length : Int) == 0) || moreB a (.mk 5 false [] [] [a]) l (l.length + 1)) := bool_ext (by
  rw [mtB_iff (ok_one ha sa 5 (by decide)), mt_star, Bool.or_eq_true, beq_iff_eq]
  unfold moreB hitB
  rw [List.any_eq_true]
  constructor
  · rintro (rfl | ⟨i, h1, h2, h3, h4⟩)
    · exact .inl rfl
    · exact .inr ⟨i, List.mem_range.2 (by omega), by rw [Bool.and_eq_true, Bool.and_eq_true, mtB_iff (ok_a ha sa), mtB_iff (ok_one ha sa 5 (by decide))]; exact ⟨decide_eq_true h1, h3, h4⟩⟩
  · rintro (h | ⟨i, h1, h2⟩)
    · exact .inl (List.length_eq_zero_iff.1 (by omega))
    · rw [Bool.and_eq_true, Bool.and_eq_true, mtB_iff (ok_a ha sa), mtB_iff (ok_one ha sa 5 (by decide))] at h2
      exact .inr ⟨i, of_decide_eq_true h2.1, by have := List.mem_range.1 h1; omega, h2.2⟩)
theorem eq_plus : mtB (.mk 6 false [] [] [a]) l = splitB a (.mk 5 false [] [] [a]) l := bool_ext (by
  rw [mtB_iff (ok_one ha sa 6 (by decide)), mt_plus, splitB_iff (ok_a ha sa) (ok_one ha sa 5 (by decide))])
include hb sb
theorem eq_seq : mtB (nodeE 3 (gl 3 a ++ gl 3 b)) l = splitB a b l := bool_ext (by
  have hw : WfE 5 (nodeE 3 (gl 3 a ++ gl 3 b)) := node_wf (.inl rfl) (fun p hp => by
    rcases List.mem_append.1 hp with h | h
    · exact gl_fit (.inl rfl) ha p h
    · exact gl_fit (.inl rfl) hb p h)
  have hs : (nodeE 3 (gl 3 a ++ gl 3 b)).size ≤ 4000 := by
    have h1 := node_size 3 (gl 3 a ++ gl 3 b)
    rw [sizes_app] at h1
    have h2 := gl_size 3 a
    have h3 := gl_size 3 b
    omega
  rw [mtB_iff (wf_ok hw (by omega) hs), mt_two ha hb, splitB_iff (ok_a ha sa) (ok_a hb sb)])
omit sa sb hb in
theorem gl4_len : 1 ≤ (gl 4 a).length := by
  match a, ha with
  | .mk q nt N P L, h =>
    unfold gl
    split
    · rename_i hq
      have hq' : q = 4 := hq
      subst hq'
      have hf := h.2.1
      unfold formF at hf
      rw [if_neg (by decide), if_pos rfl] at hf
      simp only [Bool.and_eq_true, decide_eq_true_eq] at hf
      show 1 ≤ L.length
      omega
    · rw [if_neg (fun h => absurd h.1 (by decide))]
      simp
theorem eq_alt : mtB (.mk 4 false [] [] (gl 4 a ++ gl 4 b)) l = (mtB a l || mtB b l) := bool_ext (by
  have h2 : 2 ≤ (gl 4 a ++ gl 4 b).length := by
    rw [List.length_append]
    have h1 := gl4_len ha
    have h2 := gl4_len hb
    omega
  have hw : WfE 5 (nodeE 4 (gl 4 a ++ gl 4 b)) := node_wf (.inr rfl) (fun p hp => by
    rcases List.mem_append.1 hp with h | h
    · exact gl_fit (.inr rfl) ha p h
    · exact gl_fit (.inr rfl) hb p h)
  have hs : (nodeE 4 (gl 4 a ++ gl 4 b)).size ≤ 4000 := by
    have h1 := node_size 4 (gl 4 a ++ gl 4 b)
    rw [sizes_app] at h1
    have h2 := gl_size 4 a
    have h3 := gl_size 4 b
    omega
  rw [node_many 4 h2] at hw hs
  rw [mtB_iff (wf_ok hw (by omega) hs), mt_either, Bool.or_eq_true, mtB_iff (ok_a ha sa), mtB_iff (ok_a hb sb)])
end
theorem eq_set1 (nt : Bool) (N : List ByteArray) (P : List (Int × Int)) (u : Kd) : mtB (.mk 2 nt (nmK N 3) (ptK P) []) [u] = holdsF nt (nmK N 3) (ptK P) u.1 u.2 := bool_ext (by
  have hw := set_wf nt N P
  rw [mtB_iff (wf_ok hw.1 (by omega) (by omega)), mt_set]
  constructor
  · rintro ⟨v, e, h⟩
    cases e
    exact h
  · exact fun h => ⟨u, rfl, h⟩)
theorem eq_set0 (nt : Bool) (N : List ByteArray) (P : List (Int × Int)) (l : List Kd) (h : l.length ≠ 1) : mtB (.mk 2 nt (nmK N 3) (ptK P) []) l = false := mtB_no (fun hm => by
  obtain ⟨u, rfl, _⟩ := (mt_set _ _ _ _ _).1 hm
  exact h rfl)
/-- What tidy makes, as the law wants it. -/
theorem tidy3 (e : Ex) : WfE 4 (tidyE 3 e) ∧ (tidyE 3 e).size ≤ 40 := tidy_wf 3 e
end Go.Proofs.YtolnoojbcbdfiaaDoor
namespace Go.Proofs.YtolnoojbcbdfiaaDoor
open Go.RowKit Go.Shelf
theorem OwnU.wv {w : World} {lo : Nat} {v : Value} {l : List Kd} (h : OwnU w lo v l) : WV w v l := by
  obtain ⟨a, cap, e, hk⟩ := h.ka
  rcases h.2 with ⟨rfl, hn⟩ | ⟨g, c, cur, rfl, hg, hr, hc, _⟩
  · have : l = [] := List.length_eq_zero_iff.1 hn
    subst this
    exact .none
  · cases e
    exact .some g 0 _ l hc hk
theorem WV.ka {w : World} {a : Option Addr} {m c : Nat} {l : List Kd} (h : WV w (.slice a m c) l) : KA w w.heap.size a l := by
  obtain ⟨a', c', e, hk⟩ := h.form
  cases e
  exact hk
def tt (_ : Nat) : Prop := True
def R5 (W : World) (X : Nat) (x : EV) : Prop := W.heap[X]? = some (.cells #[x.k, x.t, x.n, x.p, x.r] 28 (0, 0))
theorem R5.past {W W' : World} {X : Nat} {x : EV} (h : R5 W X x) (hb : Below W.heap.size W W') : R5 W' X x := kept hb h
theorem ExIs.tt {w : World} {Q : Nat → Prop} {e : Ex} {x : EV} (h : ExIs w Q e x) : ExIs w tt e x := h.mono (fun _ _ _ => trivial)
theorem one_tt {w1 w2 : World} {t : Ex} {y : EV} (q : Int) (hy : ExIs w1 tt t y) (h2 : w1.alloc (.cells #[y.k, y.t, y.n, y.p, y.r] 28) = w2) :
    ExIs w2 tt (.mk q false [] [] [t]) ⟨.int .i64 q, .bool false, .slice none 0 0, .slice none 0 0, .slice (some ⟨w1.heap.size, 0, none⟩) 1 1⟩ :=
  (one_is (B := 0) 28 q (hy.mono (fun g _ _ => Nat.zero_le g)) (Nat.zero_le _) h2).tt
/-- What the law has at hand. -/
structure MW (w0 W : World) (A : Nat → Addr) (a b : Ex) (l : List Kd) (v : Value) (Ba Bb Bt Bs Bp Bo : Nat) (xa xb xt xs xp xo : EV) : Prop where
  bel : Below w0.heap.size w0 W
  e3 : E3 W A
  wv : WV W v l
  ia : ExIs W tt a xa
  ib : ExIs W tt b xb
  it : ExIs W tt (.mk 4 false [] [] (gl 4 a ++ gl 4 b)) xt
  is : ExIs W tt (.mk 5 false [] [] [a]) xs
  ip : ExIs W tt (.mk 6 false [] [] [a]) xp
  io : ExIs W tt (.mk 7 false [] [] [a]) xo
  ra : R5 W Ba xa
  rb : R5 W Bb xb
  rt : R5 W Bt xt
  rs : R5 W Bs xs
  rp : R5 W Bp xp
  ro : R5 W Bo xo
theorem MW.past {w0 W W' : World} {A : Nat → Addr} {a b : Ex} {l : List Kd} {v : Value} {Ba Bb Bt Bs Bp Bo : Nat} {xa xb xt xs xp xo : EV} (h : MW w0 W A a b l v Ba Bb Bt Bs Bp Bo xa xb xt xs xp xo) (k : Below W.heap.size W W') : MW w0 W' A a b l v Ba Bb Bt Bs Bp Bo xa xb xt xs xp xo :=
  ⟨Below.later h.bel k, h.e3.below k, h.wv.past k, h.ia.past k, h.ib.past k, h.it.past k, h.is.past k, h.ip.past k, h.io.past k, h.ra.past k, h.rb.past k, h.rt.past k, h.rs.past k, h.rp.past k, h.ro.past k⟩
def onV (q : Int) (b : Nat) : EV := ⟨.int .i64 q, .bool false, .slice none 0 0, .slice none 0 0, .slice (some ⟨b, 0, none⟩) 1 1⟩
theorem means_world {A : Nat → Addr} {a b : Ex} {l : List Kd} {v : Value} {Ba Bb : Nat} {xa xb xt : EV} (w0 w6 w7 w8 w9 w10 w11 w12 w13 : World)
    (bel : Below w0.heap.size w0 w6) (e3 : E3 w6 A) (wv : WV w6 v l) (ia : ExIs w6 tt a xa) (ib : ExIs w6 tt b xb) (it : ExIs w6 tt (.mk 4 false [] [] (gl 4 a ++ gl 4 b)) xt) (ra : R5 w6 Ba xa) (rb : R5 w6 Bb xb)
    (h7 : w6.alloc (.cells #[xt.k, xt.t, xt.n, xt.p, xt.r] 28) = w7)
    (h8 : w7.alloc (.cells #[xa.k, xa.t, xa.n, xa.p, xa.r] 28) = w8)
    (h9 : w8.alloc (.cells #[.int .i64 5, .bool false, .slice none 0 0, .slice none 0 0, .slice (some ⟨w7.heap.size, 0, none⟩) 1 1] 28) = w9)
    (h10 : w9.alloc (.cells #[xa.k, xa.t, xa.n, xa.p, xa.r] 28) = w10)
    (h11 : w10.alloc (.cells #[.int .i64 6, .bool false, .slice none 0 0, .slice none 0 0, .slice (some ⟨w9.heap.size, 0, none⟩) 1 1] 28) = w11)
    (h12 : w11.alloc (.cells #[xa.k, xa.t, xa.n, xa.p, xa.r] 28) = w12)
    (h13 : w12.alloc (.cells #[.int .i64 7, .bool false, .slice none 0 0, .slice none 0 0, .slice (some ⟨w11.heap.size, 0, none⟩) 1 1] 28) = w13) :
    R5 w7 Ba xa ∧ R5 w9 Ba xa ∧ R5 w11 Ba xa ∧ Below w6.heap.size w6 w13 ∧ MW w0 w13 A a b l v Ba Bb w6.heap.size w8.heap.size w10.heap.size w12.heap.size xa xb xt (onV 5 w7.heap.size) (onV 6 w9.heap.size) (onV 7 w11.heap.size) := by
  have is8 := fun (i : ExIs w7 tt a xa) => one_tt 5 i h8
  have is10 := fun (i : ExIs w9 tt a xa) => one_tt 6 i h10
  have is12 := fun (i : ExIs w11 tt a xa) => one_tt 7 i h12
  obtain ⟨b7, r7, s7⟩ := laid h7
  obtain ⟨b8, r8, s8⟩ := laid h8
  obtain ⟨b9, r9, s9⟩ := laid h9
  obtain ⟨b10, r10, s10⟩ := laid h10
  obtain ⟨b11, r11, s11⟩ := laid h11
  obtain ⟨b12, r12, s12⟩ := laid h12
  obtain ⟨b13, r13, s13⟩ := laid h13
  clear h7 h8 h9 h10 h11 h12 h13
  have c9 := Below.later b8 b9
  have c11 := Below.later b10 b11
  have c13 := Below.later b12 b13
  have d7 := Below.later (Below.later c9 c11) c13
  have d9 := Below.later c11 c13
  have d6 := Below.later b7 d7
  have i7 := ia.past b7
  have i9 := i7.past c9
  have i11 := i9.past c11
  exact ⟨ra.past b7, (ra.past b7).past c9, ((ra.past b7).past c9).past c11, d6, Below.later bel d6, e3.below d6, wv.past d6, ia.past d6, ib.past d6, it.past d6, ((is8 i7).past b9).past d9, ((is10 i9).past b11).past c13, (is12 i11).past b13, ra.past d6, rb.past d6, kept d7 r7, kept d9 r9, kept c13 r11, r13⟩
end Go.Proofs.YtolnoojbcbdfiaaDoor
namespace Go.Proofs.YtolnoojbcbdfiaaDoor
open Go.RowKit Go.Shelf
/-- What back leaves. -/
def BackR (w : World) (l : List Kd) (r : Ending) (w' : World) : Prop := ∃ v, r = .returned v ∧ OwnU w' w.heap.size v l.reverse ∧ Below w.heap.size w w'
set_option maxRecDepth 10000 in
set_option maxHeartbeats 1600000 in
theorem back_any (l : List Kd) (a : Option Addr) (ca : Nat) (w : World) (hl : l.length ≤ 12) (ha : KA w w.heap.size a l) :
    Calls Tryd.prog 17 #[.slice a l.length ca] w fun r w' => BackR w l r w' := by
  obtain ⟨i0, hi, hz0, hz1, hz2⟩ := info_parts infoU
  have HA := hid0 ha
  clear ha
  have hsub : IntKind.i64.wrap ((l.length : Int) - 1) = (l.length : Int) - 1 := by simp [IntKind.wrap, IntKind.bits, IntKind.signed]; omega
  go_enter Tryd.func17, Tryd.ntmps17
  go_wp2
  go_loopw [3, 4] (fun v i wr => ∃ (j : Nat), j ≤ l.length ∧ i = .int .i64 ((l.length : Int) - 1 - (j : Int)) ∧ Hid (OwnU wr w.heap.size v (l.reverse.take j)) ∧ Hid (Below w.heap.size w wr)) (fun _ i _ => ((intOf i) + 1).toNat)
  case atStart => exact ⟨0, Nat.zero_le _, by simp, hid0 (OwnU.nil _ _), hid0 (Below.refl _ _)⟩
  case round =>
    obtain ⟨j, hj, rfl, HO, HB⟩ := hrel
    by_cases hlt : j < l.length
    · obtain ⟨q, hq⟩ : ∃ q, q = l.length - 1 - j := ⟨_, rfl⟩
      have hqI : ((l.length : Int) - 1 - (j : Int)) = (q : Int) := by omega
      rw [hqI]
      have hql : q < l.length := by omega
      have hqI0 : (0 : Int) ≤ (q : Int) := by omega
      have hqI1 : (q : Int) < (l.length : Int) := by omega
      obtain ⟨b, off, rfl, hbw, hc0, hc1⟩ := HA.out.at' q hql
      have hd0 := (HB.out.cell (p := ⟨b, off + q * 2, none⟩) hbw).trans hc0
      have hd1 := (HB.out.cell (p := ⟨b, off + q * 2 + 1, none⟩) hbw).trans hc1
      have HTK : Hid (l.reverse.take (j + 1) = l.reverse.take j ++ [l[q]]) := hid0 (by
        have e : l.reverse[j]? = some l[q] := by
          rw [List.getElem?_reverse hlt, ← hq, List.getElem?_eq_getElem hql]
        rw [List.take_add_one, e]
        rfl)
      have HTL : Hid ((l.reverse.take j).length = j) := hid0 (by rw [List.length_take, List.length_reverse]; omega)
      have hvs : ∃ aw cw, u3 = .slice aw j cw := by
        obtain ⟨aw, cw, e, _⟩ := HO.out.ka
        rw [HTL.out] at e
        exact ⟨aw, cw, e⟩
      obtain ⟨aw, cw, rfl⟩ := hvs
      have HOk : Hid (wr.ownsRow w.heap.size 42 2 (.slice aw j cw) j (cellsU (l.reverse.take j))) := hid0 (by have ho := HO.out; unfold OwnU at ho; rw [HTL.out] at ho; exact ho)
      have hbs := HB.out.size
      have HQ := hid0 hq
      generalize l[q] = u1 at *
      obtain ⟨s1, p1⟩ := u1
      simp only [] at hd0 hd1
      clear hc0 hc1 hq hqI
      go_wp2_with (first
        | (at_builtin; go_loud ((
             refine wpList_append_own _ (by rfl) _ _ 29 (by rfl) w.heap.size 42 i0 (.agg #[.string ByteArray.empty, .int .i64 0]) 2 24 Tryd.underlying29 hi hz0 hz1 hz2 rfl (by decide) (.slice aw j cw) j (cellsU (l.reverse.take j)) (by rfl) (World.ownsRow.alloc HOk.out _) ⟨wr.heap.size, 0, none⟩ 1 1 (kuC (s1, p1)) (by rfl) (by rfl) (cellU_new wr _ _ _) (fun u hu => by unfold kuC at hu; simp only [List.mem_cons, List.not_mem_nil, or_false] at hu; rcases hu with rfl | rfl <;> rfl) (by unfold maxLen; omega) (by omega) (by simp; omega) ?_
             intro v4 w4 hown4 hgrow4 _
             have HO4 : Hid (OwnU w4 w.heap.size v4 (l.reverse.take (j + 1))) := hid0 (by rw [HTK.out]; exact OwnU.snoc (by rw [HTL.out]; exact hown4))
             have HB4 := hid0 ((HB.out.alloc hbs _).grown hgrow4 (by simp; omega) (fun q hq => (World.ownsRow.lt HOk.out q hq).1))
             clear hown4 hgrow4)))
        | fail)
      go_roundw
      case rel => exact ⟨j + 1, by omega, by have := HQ.out; go_num, HO4, HB4⟩
      case measure => have := HQ.out; simp [intOf]
    · have hjI : ¬ (0 : Int) ≤ (l.length : Int) - 1 - (j : Int) := by omega
      have HE : Hid (OwnU wr w.heap.size u3 l.reverse) := hid0 (by have h := HO.out; rw [List.take_of_length_le (by rw [List.length_reverse]; omega)] at h; exact h)
      go_wp2
      go_ret
      exact ⟨u3, rfl, HE.out, HB.out⟩
end Go.Proofs.YtolnoojbcbdfiaaDoor
namespace Go.Proofs.YtolnoojbcbdfiaaDoor
open Go.RowKit Go.Shelf
def markB : ByteArray := ⟨#[109, 97, 114, 107]⟩
set_option maxRecDepth 10000 in
set_option maxHeartbeats 800000 in
theorem sameS (l : List ByteArray) (a b : Option Addr) (ca cb : Nat) (w : World) (hl : l.length ≤ 8796093022208) (ha : SA w a l) (hb : SA w b l) :
    Calls Tryd.prog 39 #[.slice a l.length ca, .slice b l.length cb] w fun e w' => e = .returned (.bool true) ∧ ∃ n, w' = w.drewN n := by
  have HA := hid0 ha
  have HB := hid0 hb
  clear ha hb
  go_enter Tryd.func39, Tryd.ntmps39
  go_wp2
  go_loopw [5] (fun i wr => ∃ k : Nat, k ≤ l.length ∧ i = .int .i64 (k : Int) ∧ ∃ n, wr = w.drewN n) (fun i _ => l.length - (intOf i).toNat)
  case atStart => exact ⟨0, Nat.zero_le _, rfl, 0, rfl⟩
  case round =>
    obtain ⟨k, hk, rfl, nd, rfl⟩ := hrel
    by_cases hlt : k < l.length
    · obtain ⟨b1, o1, rfl, _, d1⟩ := HA.out.at' k hlt
      obtain ⟨b2, o2, rfl, _, d2⟩ := HB.out.at' k hlt
      have hkI : (k : Int) < (l.length : Int) := by omega
      have hkI0 : (0 : Int) ≤ (k : Int) := by omega
      generalize l[k] = s at *
      have hself : (s.toList == s.toList) = true := by simp
      go_wp2
      go_quiet ((fail))
      go_wp2
      go_roundw
      case rel => exact ⟨k + 1, by omega, by go_num, _, rfl⟩
      case measure => simp [intOf]; omega
    · have hkI : ¬ (k : Int) < (l.length : Int) := by omega
      go_wp2
      go_ret
      exact ⟨rfl, nd, rfl⟩
set_option maxRecDepth 10000 in
set_option maxHeartbeats 400000 in
theorem sameSet (nt : Bool) (L : List ByteArray) (l : List (Int × Int)) (a b c d : Option Addr) (ca cb cc cd : Nat) (w : World) (hL : L.length ≤ 8796093022208) (hl : l.length ≤ 8796093022208) (ha : SA w a L) (hb : RA w b l) (hc : SA w c L) (hd : RA w d l) :
    Calls Tryd.prog 27 #[.agg #[.bool nt, .slice a L.length ca, .slice b l.length cb], .agg #[.bool nt, .slice c L.length cc, .slice d l.length cd]] w fun e w' => e = .returned (.bool true) ∧ Below w.heap.size w w' := by
  obtain ⟨w0, hw0⟩ : ∃ w0, w0 = (w.alloc (.cells #[.bool nt, .slice a L.length ca, .slice b l.length cb] 25)).alloc (.cells #[.bool nt, .slice c L.length cc, .slice d l.length cd] 25) := ⟨_, rfl⟩
  have hs0 : w0.heap.size = w.heap.size + 2 := by rw [hw0]; simp
  have hB0 : Below w.heap.size w w0 := by rw [hw0]; exact ((Below.refl _ _).alloc (Nat.le_refl _) _).alloc (by simp) _
  have hX0 : w0.heap[w.heap.size]? = some (.cells #[.bool nt, .slice a L.length ca, .slice b l.length cb] 25 (0, 0)) := by
    rw [hw0]
    exact (Below.heap_alloc _ _ _ (by simp)).trans (heap_alloc_new w _)
  have hX1 : w0.heap[w.heap.size + 1]? = some (.cells #[.bool nt, .slice c L.length cc, .slice d l.length cd] 25 (0, 0)) := by
    rw [hw0]
    have h := heap_alloc_new (w.alloc (.cells #[.bool nt, .slice a L.length ca, .slice b l.length cb] 25)) (.cells #[.bool nt, .slice c L.length cc, .slice d l.length cd] 25)
    rw [show (w.alloc (.cells #[.bool nt, .slice a L.length ca, .slice b l.length cb] 25)).heap.size = w.heap.size + 1 by simp] at h
    exact h
  have x0 : w0.cell? ⟨w.heap.size, 1, none⟩ = some (.slice a L.length ca) := by rw [cell_of_row _ _ _ _ _ _ hX0]; rfl
  have x1 : w0.cell? ⟨w.heap.size, 2, none⟩ = some (.slice b l.length cb) := by rw [cell_of_row _ _ _ _ _ _ hX0]; rfl
  have x2 : w0.cell? ⟨w.heap.size + 1, 1, none⟩ = some (.slice c L.length cc) := by rw [cell_of_row _ _ _ _ _ _ hX1]; rfl
  have x3 : w0.cell? ⟨w.heap.size + 1, 2, none⟩ = some (.slice d l.length cd) := by rw [cell_of_row _ _ _ _ _ _ hX1]; rfl
  have x4 : w0.cell? ⟨w.heap.size, 0, none⟩ = some (.bool nt) := by rw [cell_of_row _ _ _ _ _ _ hX0]; rfl
  have x5 : w0.cell? ⟨w.heap.size + 1, 0, none⟩ = some (.bool nt) := by rw [cell_of_row _ _ _ _ _ _ hX1]; rfl
  have H1 := hid0 (sameS L a c ca cc w0 hL (ha.below hB0) (hc.below hB0))
  have HD : Hid (∀ n, Below w0.heap.size w0 (w0.drewN n)) := hid0 (fun n => ⟨rfl, rfl, rfl, Nat.le_refl _, fun _ _ => rfl⟩)
  have H2 : Hid (∀ n, Calls Tryd.prog 40 #[.slice b l.length cb, .slice d l.length cd] (w0.drewN n) fun e w' => e = .returned (.bool true) ∧ ∃ q, w' = (w0.drewN n).drewN q) := hid0 (fun n => sameR_eq l b d cb cd _ (by omega) ((hb.below hB0).below (HD.out n)) ((hd.below hB0).below (HD.out n)))
  have HB0 := hid0 hB0
  have hfold := hw0.symm
  have hnn : (nt == nt) = true := by simp
  clear ha hb hc hd hw0 hX0 hX1 hs0 hB0
  go_enter Tryd.func27, Tryd.ntmps27
  go_wp2_with (first
    | (go_at_call 39; refine H1.out.mono ?_; rintro e w1 ⟨rfl, n1, rfl⟩)
    | (go_at_call 40; refine (H2.out n1).mono ?_; rintro e w2 ⟨rfl, n2, rfl⟩))
  go_ret
  exact ⟨by simp, ⟨HB0.out.os, HB0.out.tape, HB0.out.output, HB0.out.size, HB0.out.block⟩⟩
end Go.Proofs.YtolnoojbcbdfiaaDoor
namespace Go.Proofs.YtolnoojbcbdfiaaDoor
open Go.RowKit Go.Shelf
def SameP (w : World) (e : Ex) (x : EV) : Prop := ∀ (W : World) (y : EV) (Q' : Nat → Prop), Below w.heap.size w W → ExIs W Q' e y → Calls Tryd.prog 15 #[x.v, y.v] W fun r w' => r = .returned (.bool true) ∧ Below W.heap.size W w'
set_option maxRecDepth 10000 in
set_option maxHeartbeats 3200000 in
theorem sameE {w : World} {Q : Nat → Prop} {e : Ex} {x : EV} (h : ExIs w Q e x) : SameP w e x := by
  induction h with
  | mk k nt N P L a ca b cb c cc vs hN hP lN lP lL hL hR ih =>
    intro W y Q' hWb hy
    obtain ⟨a2, ca2, b2, cb2, c2, cc2, rfl, hN2, hP2, _, _, _, ws, hL2, hR2⟩ := hy.shape
    obtain ⟨w0, hw0⟩ : ∃ w0, w0 = (W.alloc (.cells #[.int .i64 k, .bool nt, .slice a N.length ca, .slice b P.length cb, .slice c L.length cc] 28)).alloc (.cells #[.int .i64 k, .bool nt, .slice a2 N.length ca2, .slice b2 P.length cb2, .slice c2 L.length cc2] 28) := ⟨_, rfl⟩
    have hb0 : Below W.heap.size W w0 := by rw [hw0]; exact ((Below.refl _ _).alloc (Nat.le_refl _) _).alloc (by simp) _
    have hX0 : w0.heap[W.heap.size]? = some (.cells #[.int .i64 k, .bool nt, .slice a N.length ca, .slice b P.length cb, .slice c L.length cc] 28 (0, 0)) := by
      rw [hw0]
      exact (Below.heap_alloc _ _ _ (by simp)).trans (heap_alloc_new W _)
    have hX1 : w0.heap[W.heap.size + 1]? = some (.cells #[.int .i64 k, .bool nt, .slice a2 N.length ca2, .slice b2 P.length cb2, .slice c2 L.length cc2] 28 (0, 0)) := by
      rw [hw0]
      have h := heap_alloc_new (W.alloc (.cells #[.int .i64 k, .bool nt, .slice a N.length ca, .slice b P.length cb, .slice c L.length cc] 28)) (.cells #[.int .i64 k, .bool nt, .slice a2 N.length ca2, .slice b2 P.length cb2, .slice c2 L.length cc2] 28)
      simp only [World.size_alloc] at h
      exact h
    have HX : Hid (∀ V, Below w0.heap.size w0 V → (V.cell? ⟨W.heap.size, 0, none⟩ = some (.int .i64 k) ∧ V.cell? ⟨W.heap.size, 1, none⟩ = some (.bool nt) ∧ V.cell? ⟨W.heap.size, 2, none⟩ = some (.slice a N.length ca) ∧ V.cell? ⟨W.heap.size, 3, none⟩ = some (.slice b P.length cb) ∧ V.cell? ⟨W.heap.size, 4, none⟩ = some (.slice c L.length cc)) ∧
        V.cell? ⟨W.heap.size + 1, 0, none⟩ = some (.int .i64 k) ∧ V.cell? ⟨W.heap.size + 1, 1, none⟩ = some (.bool nt) ∧ V.cell? ⟨W.heap.size + 1, 2, none⟩ = some (.slice a2 N.length ca2) ∧ V.cell? ⟨W.heap.size + 1, 3, none⟩ = some (.slice b2 P.length cb2) ∧ V.cell? ⟨W.heap.size + 1, 4, none⟩ = some (.slice c2 L.length cc2)) := hid0 (fun V hV => by
      have p := (hV.block _ (lt_of_rowC hX0)).trans hX0
      have q := (hV.block _ (lt_of_rowC hX1)).trans hX1
      exact ⟨⟨by rw [cell_of_row _ _ _ _ _ _ p]; rfl, by rw [cell_of_row _ _ _ _ _ _ p]; rfl, by rw [cell_of_row _ _ _ _ _ _ p]; rfl, by rw [cell_of_row _ _ _ _ _ _ p]; rfl, by rw [cell_of_row _ _ _ _ _ _ p]; rfl⟩, by rw [cell_of_row _ _ _ _ _ _ q]; rfl, by rw [cell_of_row _ _ _ _ _ _ q]; rfl, by rw [cell_of_row _ _ _ _ _ _ q]; rfl, by rw [cell_of_row _ _ _ _ _ _ q]; rfl, by rw [cell_of_row _ _ _ _ _ _ q]; rfl⟩)
    have HSt := hid0 (sameSet nt N P a b a2 b2 ca cb ca2 cb2 w0 (by omega) (by omega) ((hN.sa.below hWb).below hb0) ((hP.ra.below hWb).below hb0) (hN2.sa.below hb0) (hP2.ra.below hb0))
    have HLx : Hid (LA w Q c L vs) := hid0 ⟨hL, hR⟩
    have HLy : Hid (LA W Q' c2 L ws) := hid0 ⟨hL2, hR2⟩
    have HIH := hid0 ih
    have HWb := hid0 hWb
    have HB0 := hid0 hb0
    obtain ⟨⟨x0, x1, x2, x3, x4⟩, y0, y1, y2, y3, y4⟩ := HX.out w0 (Below.refl _ _)
    have hf := hw0.symm
    unfold EV.v
    clear hy hN hP hL hR ih hN2 hP2 hL2 hR2 hw0 hb0 hX0 hX1 hWb
    go_enter Tryd.func15, Tryd.ntmps15
    go_wp2_with (go_at_call 27; refine HSt.out.mono ?_; rintro r w1 ⟨rfl, hb1⟩; obtain ⟨⟨u0, u1, u2, u3, u4⟩, v0, v1, v2, v3, v4⟩ := HX.out w1 hb1; have HB1 := hid0 hb1; clear hb1)
    clear x0 x1 x2 x3 x4 y0 y1 y2 y3 y4 u0 u1 u2 u3 u4 v0 v1 v2 v3 v4 hf
    go_loopw [6, 7] (fun i _ wr => ∃ m : Nat, m ≤ L.length ∧ i = .int .i64 (m : Int) ∧ Hid (Below w0.heap.size w0 wr)) (fun i _ _ => L.length - (intOf i).toNat)
    case atStart => exact ⟨0, Nat.zero_le _, rfl, HB1⟩
    case round =>
      clear HB1
      obtain ⟨m, hm, rfl, HB⟩ := hrel
      obtain ⟨⟨u0, u1, u2, u3, u4⟩, v0, v1, v2, v3, v4⟩ := HX.out wr HB.out
      clear u0 u1 u2 u3 v0 v1 v2 v3
      by_cases hlt : m < L.length
      · have hmI : (m : Int) < (L.length : Int) := by omega
        have hm0 : (0 : Int) ≤ (m : Int) := by omega
        have hbw := Below.later HWb.out (Below.later HB0.out HB.out)
        have hbW := Below.later HB0.out HB.out
        have hlx := HLx.out.keeps (Keeps.past hbw)
        have hly := HLy.out.keeps (Keeps.past hbW)
        obtain ⟨g1, o1, rfl, hg1, e0, e1, e2, e3, e4⟩ := hlx.at' m hlt
        obtain ⟨g2, o2, rfl, hg2, i0, i1, i2, i3, i4⟩ := hly.at' m hlt
        obtain ⟨f0, ⟨t5, f1⟩, ⟨a5, m5, c5, f2⟩, ⟨b5, n5, d5, f3⟩, ⟨g5, l5, z5, f4⟩⟩ := (hlx.is m hlt).form
        obtain ⟨h0, ⟨t6, h1⟩, ⟨a6, m6, c6, h2⟩, ⟨b6, n6, d6, h3⟩, ⟨g6, l6, z6, h4⟩⟩ := (hly.is m hlt).form
        have HCa : Hid (∀ V, Below w0.heap.size w0 V → Calls Tryd.prog 15 #[.agg #[.int .i64 L[m].kind, .bool t5, .slice a5 m5 c5, .slice b5 n5 d5, .slice g5 l5 z5], .agg #[.int .i64 L[m].kind, .bool t6, .slice a6 m6 c6, .slice b6 n6 d6, .slice g6 l6 z6]] V fun r w' => r = .returned (.bool true) ∧ Below V.heap.size V w') := hid0 (fun V hV => by
          have h := HIH.out m hlt V (ws m) Q' (Below.later HWb.out (Below.later HB0.out hV)) ((HLy.out.keeps (Keeps.past (Below.later HB0.out hV))).is m hlt)
          unfold EV.v at h
          rw [f0, f1, f2, f3, f4, h0, h1, h2, h3, h4] at h
          exact h)
        rw [f0] at e0
        rw [f1] at e1
        rw [f2] at e2
        rw [f3] at e3
        rw [f4] at e4
        rw [h0] at i0
        rw [h1] at i1
        rw [h2] at i2
        rw [h3] at i3
        rw [h4] at i4
        have HSo0 : Hid (∀ V, Below wr.heap.size wr V → Below w0.heap.size w0 V) := hid0 (fun V h => Below.later HB.out h)
        generalize L[m].kind = lk at *
        clear hlx hly f0 f1 f2 f3 f4 h0 h1 h2 h3 h4 hg1 hg2 hbw hbW
        have HSo : Hid (∀ V, Below wr.heap.size wr V → (fun V => V.cell? ⟨W.heap.size, 4, none⟩ = some (.slice (some ⟨g1, o1, none⟩) L.length cc) ∧ V.cell? ⟨W.heap.size + 1, 4, none⟩ = some (.slice (some ⟨g2, o2, none⟩) L.length cc2) ∧ V.cell? ⟨g1, o1 + m * 5, none⟩ = some (.int .i64 lk) ∧ V.cell? ⟨g1, o1 + m * 5 + 1, none⟩ = some (.bool t5) ∧ V.cell? ⟨g1, o1 + m * 5 + 2, none⟩ = some (.slice a5 m5 c5) ∧ V.cell? ⟨g1, o1 + m * 5 + 3, none⟩ = some (.slice b5 n5 d5) ∧ V.cell? ⟨g1, o1 + m * 5 + 4, none⟩ = some (.slice g5 l5 z5) ∧ V.cell? ⟨g2, o2 + m * 5, none⟩ = some (.int .i64 lk) ∧ V.cell? ⟨g2, o2 + m * 5 + 1, none⟩ = some (.bool t6) ∧ V.cell? ⟨g2, o2 + m * 5 + 2, none⟩ = some (.slice a6 m6 c6) ∧ V.cell? ⟨g2, o2 + m * 5 + 3, none⟩ = some (.slice b6 n6 d6) ∧ V.cell? ⟨g2, o2 + m * 5 + 4, none⟩ = some (.slice g6 l6 z6) ∧ Below w0.heap.size w0 V) V) := hid0 (fun V h => ⟨(h.cell (World.block_lt_of_cell? wr _ u4)).trans u4, (h.cell (World.block_lt_of_cell? wr _ v4)).trans v4, (h.cell (World.block_lt_of_cell? wr _ e0)).trans e0, (h.cell (World.block_lt_of_cell? wr _ e1)).trans e1, (h.cell (World.block_lt_of_cell? wr _ e2)).trans e2, (h.cell (World.block_lt_of_cell? wr _ e3)).trans e3, (h.cell (World.block_lt_of_cell? wr _ e4)).trans e4, (h.cell (World.block_lt_of_cell? wr _ i0)).trans i0, (h.cell (World.block_lt_of_cell? wr _ i1)).trans i1, (h.cell (World.block_lt_of_cell? wr _ i2)).trans i2, (h.cell (World.block_lt_of_cell? wr _ i3)).trans i3, (h.cell (World.block_lt_of_cell? wr _ i4)).trans i4, Below.later HB.out h⟩)
        go_wp2
        refine wp_region_held_drew (S := (fun V => V.cell? ⟨W.heap.size, 4, none⟩ = some (.slice (some ⟨g1, o1, none⟩) L.length cc) ∧ V.cell? ⟨W.heap.size + 1, 4, none⟩ = some (.slice (some ⟨g2, o2, none⟩) L.length cc2) ∧ V.cell? ⟨g1, o1 + m * 5, none⟩ = some (.int .i64 lk) ∧ V.cell? ⟨g1, o1 + m * 5 + 1, none⟩ = some (.bool t5) ∧ V.cell? ⟨g1, o1 + m * 5 + 2, none⟩ = some (.slice a5 m5 c5) ∧ V.cell? ⟨g1, o1 + m * 5 + 3, none⟩ = some (.slice b5 n5 d5) ∧ V.cell? ⟨g1, o1 + m * 5 + 4, none⟩ = some (.slice g5 l5 z5) ∧ V.cell? ⟨g2, o2 + m * 5, none⟩ = some (.int .i64 lk) ∧ V.cell? ⟨g2, o2 + m * 5 + 1, none⟩ = some (.bool t6) ∧ V.cell? ⟨g2, o2 + m * 5 + 2, none⟩ = some (.slice a6 m6 c6) ∧ V.cell? ⟨g2, o2 + m * 5 + 3, none⟩ = some (.slice b6 n6 d6) ∧ V.cell? ⟨g2, o2 + m * 5 + 4, none⟩ = some (.slice g6 l6 z6) ∧ Below w0.heap.size w0 V)) (by kernel_rfl) ?_ (fun hHeld => ?_)
        · exact HSo.out _ ((Below.refl _ wr).drew)
        have HBd := hid0 ((Below.refl wr.heap.size wr).drew)
        refine tkV (i := 0) (d := some 38) (v := ?_) rfl (by kernel_rfl) (by kernel_rfl) (by kernel_rfl) rfl (fun _ _ _ h => h) (by rfl) ?_ (by assumption) ?_
        rotate_left
        · (intro w hSw; (try dsimp only at hSw); (try simp only [List.getElem_toArray, List.getElem_cons_zero]); go_simp; try with_reducible rfl)
        simp only [Act.put, List.setIfInBounds_toArray, List.set_cons_zero, List.set_cons_succ]
        refine tkV (i := 1) (d := some 39) (v := ?_) rfl (by kernel_rfl) (by kernel_rfl) (by kernel_rfl) rfl (fun _ _ _ h => h) (by rfl) ?_ (by assumption) ?_
        rotate_left
        · (intro w hSw; (try dsimp only at hSw); (try simp only [List.getElem_toArray, List.getElem_cons_zero, List.getElem_cons_succ]); go_simp; try with_reducible rfl)
        simp only [Act.put, List.setIfInBounds_toArray, List.set_cons_zero, List.set_cons_succ]
        refine tkV (i := 2) (d := some 40) (v := ?_) rfl (by kernel_rfl) (by kernel_rfl) (by kernel_rfl) rfl (fun _ _ _ h => h) (by rfl) ?_ (by assumption) ?_
        rotate_left
        · (intro w hSw; (try dsimp only at hSw); (try simp only [List.getElem_toArray, List.getElem_cons_zero, List.getElem_cons_succ]); go_simp; try with_reducible rfl)
        simp only [Act.put, List.setIfInBounds_toArray, List.set_cons_zero, List.set_cons_succ]
        refine tkV (i := 3) (d := some 41) (v := ?_) rfl (by kernel_rfl) (by kernel_rfl) (by kernel_rfl) rfl (fun _ _ _ h => h) (by rfl) ?_ (by assumption) ?_
        rotate_left
        · (intro w hSw; (try dsimp only at hSw); (try simp only [List.getElem_toArray, List.getElem_cons_zero, List.getElem_cons_succ]); go_simp; try with_reducible rfl)
        simp only [Act.put, List.setIfInBounds_toArray, List.set_cons_zero, List.set_cons_succ]
        refine tkV (i := 4) (d := some 42) (v := ?_) rfl (by kernel_rfl) (by kernel_rfl) (by kernel_rfl) rfl (fun _ _ _ h => h) (by rfl) ?_ (by assumption) ?_
        rotate_left
        · (intro w hSw; (try dsimp only at hSw); (try simp only [List.getElem_toArray, List.getElem_cons_zero, List.getElem_cons_succ]); go_simp; try with_reducible rfl)
        simp only [Act.put, List.setIfInBounds_toArray, List.set_cons_zero, List.set_cons_succ]
        refine tkV (i := 5) (d := some 43) (v := ?_) rfl (by kernel_rfl) (by kernel_rfl) (by kernel_rfl) rfl (fun _ _ _ h => h) (by rfl) ?_ (by assumption) ?_
        rotate_left
        · (intro w hSw; (try dsimp only at hSw); (try simp only [List.getElem_toArray, List.getElem_cons_zero, List.getElem_cons_succ]); go_simp; try with_reducible rfl)
        simp only [Act.put, List.setIfInBounds_toArray, List.set_cons_zero, List.set_cons_succ]
        refine tkV (i := 6) (d := some 44) (v := ?_) rfl (by kernel_rfl) (by kernel_rfl) (by kernel_rfl) rfl (fun _ _ _ h => h) (by rfl) ?_ (by assumption) ?_
        rotate_left
        · (intro w hSw; (try dsimp only at hSw); (try simp only [List.getElem_toArray, List.getElem_cons_zero, List.getElem_cons_succ]); go_simp; try with_reducible rfl)
        simp only [Act.put, List.setIfInBounds_toArray, List.set_cons_zero, List.set_cons_succ]
        refine tkV (i := 7) (d := some 45) (v := ?_) rfl (by kernel_rfl) (by kernel_rfl) (by kernel_rfl) rfl (fun _ _ _ h => h) (by rfl) ?_ (by assumption) ?_
        rotate_left
        · (intro w hSw; (try dsimp only at hSw); (try simp only [List.getElem_toArray, List.getElem_cons_zero, List.getElem_cons_succ]); go_simp; try with_reducible rfl)
        simp only [Act.put, List.setIfInBounds_toArray, List.set_cons_zero, List.set_cons_succ]
        refine tkV (i := 8) (d := some 46) (v := ?_) rfl (by kernel_rfl) (by kernel_rfl) (by kernel_rfl) rfl (fun _ _ _ h => h) (by rfl) ?_ (by assumption) ?_
        rotate_left
        · (intro w hSw; (try dsimp only at hSw); (try simp only [List.getElem_toArray, List.getElem_cons_zero, List.getElem_cons_succ]); go_simp; try with_reducible rfl)
        simp only [Act.put, List.setIfInBounds_toArray, List.set_cons_zero, List.set_cons_succ]
        refine tkV (i := 9) (d := some 47) (v := ?_) rfl (by kernel_rfl) (by kernel_rfl) (by kernel_rfl) rfl (fun _ _ _ h => h) (by rfl) ?_ (by assumption) ?_
        rotate_left
        · (intro w hSw; (try dsimp only at hSw); (try simp only [List.getElem_toArray, List.getElem_cons_zero, List.getElem_cons_succ]); go_simp; try with_reducible rfl)
        simp only [Act.put, List.setIfInBounds_toArray, List.set_cons_zero, List.set_cons_succ]
        refine wpAnyH_ready (rs := [10]) (by kernel_rfl) (by simp) (AllReadyH.cons rfl (fun K hK => ?_) AllReadyH.nil)
        try simp only [List.getElem_toArray, List.getElem_cons_zero, List.getElem_cons_succ]
        go_simp
        go_split_ands
        refine (HCa.out _ (HSo0.out _ HBd.out)).mono ?_
        rintro r w6 ⟨rfl, hb6⟩
        have HB6 := hid0 (Below.later HBd.out hb6)
        clear hb6
        go_wp2_with fail
        refine hK.out _ _ ?_ (fun hHeld2 => ?_)
        · exact HSo.out _ HB6.out
        clear hK K
        (try simp only [Act.put]); (try simp only [List.setIfInBounds_toArray]); (try simp only [List.set_cons_succ]); (try simp only [List.set_cons_zero])
        refine wpAnyH_ready (rs := [11]) (by kernel_rfl) (by simp) (AllReadyH.cons rfl (fun K hK => ?_) AllReadyH.nil)
        try simp only [List.getElem_toArray, List.getElem_cons_zero, List.getElem_cons_succ]
        go_simp
        refine hK.out _ _ ?_ (fun hHeld3 => ?_)
        · exact HSo.out _ HB6.out
        clear hK K
        (try simp only [Act.put]); (try simp only [List.setIfInBounds_toArray]); (try simp only [List.set_cons_succ]); (try simp only [List.set_cons_zero])
        refine wpAnyH_done (by kernel_rfl) ?_ _
        try clear hHeld2
        try clear hHeld3
        clear HSo HBd HCa e0 e1 e2 e3 e4 i0 i1 i2 i3 i4
        go_wp2
        go_roundw
        case rel => exact ⟨m + 1, by omega, by go_num, hid0 (Below.later HB.out HB6.out)⟩
        case measure => simp [intOf]; omega
      · have hmI : ¬ (m : Int) < (L.length : Int) := by omega
        go_wp2
        go_ret
        exact ⟨rfl, Below.later HB0.out HB.out⟩
end Go.Proofs.YtolnoojbcbdfiaaDoor
namespace Go.Proofs.YtolnoojbcbdfiaaDoor
open Go.RowKit Go.Shelf
/-- What the law has at hand. -/
structure RW (w0 W : World) (A : Nat → Addr) (e : Ex) (l : List Kd) (v : Value) (Be Br : Nat) (xe xr : EV) : Prop where
  bel : Below w0.heap.size w0 W
  e3 : E3 W A
  wv : WV W v l
  ie : ExIs W tt e xe
  ir : ExIs W tt (revE e) xr
  re : R5 W Be xe
  rr : R5 W Br xr
theorem RW.past {w0 W W' : World} {A : Nat → Addr} {e : Ex} {l : List Kd} {v : Value} {Be Br : Nat} {xe xr : EV} (h : RW w0 W A e l v Be Br xe xr) (k : Below W.heap.size W W') : RW w0 W' A e l v Be Br xe xr :=
  ⟨Below.later h.bel k, h.e3.below k, h.wv.past k, h.ie.past k, h.ir.past k, h.re.past k, h.rr.past k⟩
theorem tidy4 (e : Ex) : WfE 5 (tidyE 4 e) ∧ (tidyE 4 e).size ≤ 121 := tidy_wf 4 e
theorem eq_rev {e : Ex} (h : WfE 5 e) (hs : e.size ≤ 121) (l : List Kd) : mtB (revE e) l.reverse = mtB e l := bool_ext (by
  rw [mtB_iff (wf_ok (wf_rev 5 e h) (by omega) (by rw [rev_size]; omega)), mtB_iff (wf_ok h (by omega) (by omega)), mt_rev_iff])
set_option maxRecDepth 10000 in
set_option maxHeartbeats 3200000 in
theorem exprReverse_any (eA : Ex) (xA : EV) (lw : List Kd) (aw : Option Addr) (cw : Nat) (A : Nat → Addr) (w : World) (hA : ExIn w eA xA) (hw : KA w w.heap.size aw lw) (hE : E3 w A) :
    Calls Tryd.prog 4 #[.agg #[xA.k, xA.t, xA.n, xA.p, xA.r, .slice aw lw.length cw]] w fun r w' => r = .returned (.bool true) ∧ Below w.heap.size w w' := by
  have HTA := hid0 (fun (V : World) (hV : Below w.heap.size w V) => tidy_any 4 (by omega) eA V xA (hA.past hV))
  have HWd := hid0 (fun (V : World) (hV : Below w.heap.size w V) => wordOf_any lw aw cw V ((hw.below hV).up hV.size))
  have HFi := hid0 (fun (V : World) (hV : Below w.heap.size w V) => first_any A V (hE.below hV))
  have HE := hid0 hE
  have HWa := hid0 (tidy4 eA)
  have HLe : Hid ((wordK lw).length ≤ 12) := hid0 (by unfold wordK; rw [List.length_map, List.length_take]; omega)
  unfold WordP at HWd
  generalize tidyE 4 eA = e at *
  generalize wordK lw = l at *
  obtain ⟨kA, tA, aA, mA, cA, bA, nA, dA, gA, lA, zA, rfl⟩ : ∃ k t a m c b n d g l z, xA = ⟨.int .i64 k, .bool t, .slice a m c, .slice b n d, .slice g l z⟩ := by
    cases hA with
    | mk k nt N P L a ca b cb c cc vs hN hP hL hR => exact ⟨_, _, _, _, _, _, _, _, _, _, _, rfl⟩
  unfold EV.v at HTA
  simp only [] at HTA ⊢
  clear hA hw hE
  have HOk := hid0 (wf_ok HWa.out.1 (by omega) (by have := HWa.out.2; omega))
  have HOr := hid0 (wf_ok (wf_rev 5 e HWa.out.1) (by omega) (by rw [rev_size]; have := HWa.out.2; omega))
  have HSm := hid0 (wf_small 5 e HWa.out.1)
  have HSr := hid0 (wf_small 5 (revE e) (wf_rev 5 e HWa.out.1))
  obtain ⟨wb, hwb⟩ : ∃ wb, w.alloc (.cells #[.int .i64 kA, .bool tA, .slice aA mA cA, .slice bA nA dA, .slice gA lA zA, .slice aw lw.length cw] 45) = wb := ⟨_, rfl⟩
  obtain ⟨hbb, hrb, hsb⟩ := laid hwb
  have HBb := hid0 hbb
  have HBox : Hid (∀ V, Below wb.heap.size wb V → V.cell? ⟨w.heap.size, 0, none⟩ = some (.int .i64 kA) ∧ V.cell? ⟨w.heap.size, 1, none⟩ = some (.bool tA) ∧ V.cell? ⟨w.heap.size, 2, none⟩ = some (.slice aA mA cA) ∧ V.cell? ⟨w.heap.size, 3, none⟩ = some (.slice bA nA dA) ∧ V.cell? ⟨w.heap.size, 4, none⟩ = some (.slice gA lA zA) ∧ V.cell? ⟨w.heap.size, 5, none⟩ = some (.slice aw lw.length cw)) := hid0 (fun V hV => by
    have hr := kept hV hrb
    refine ⟨?_, ?_, ?_, ?_, ?_, ?_⟩ <;> (rw [cell_of_row _ _ _ _ _ _ hr]; rfl))
  have hc0 := HBox.out wb (Below.refl _ _)
  clear hbb hrb hsb
  have HRv := hid0 (fun (V : World) (x : EV) (hx : ExIs V tt e x) (h3 : E3 V A) => reverse_any e x tt A V hx h3 HOk.out HSm.out)
  go_enter Tryd.func4, Tryd.ntmps4
  go_wp2_with (first
    | (go_at_call 14
       refine HCr.out.mono ?_
       rintro r w3 hr
       obtain ⟨k3, t3, a3, m3, c3, b3, n3, d3, g3, l3, z3, rfl, q1, q2⟩ := hr.shape
       obtain ⟨v3, hv3⟩ : ∃ v3, w3.alloc (.cells #[.int .i64 k3, .bool t3, .slice a3 m3 c3, .slice b3 n3 d3, .slice g3 l3 z3] 28) = v3 := ⟨_, rfl⟩
       obtain ⟨b3', r3', _⟩ := laid hv3
       have HM3 : Hid (RW wb v3 A e l (.slice av l.length cv) w1.heap.size w3.heap.size ⟨.int .i64 k1, .bool t1, .slice a1 m1 c1, .slice b1 n1 d1, .slice g1 l1 z1⟩ ⟨.int .i64 k3, .bool t3, .slice a3 m3 c3, .slice b3 n3 d3, .slice g3 l3 z3⟩) := hid0 ⟨Below.later (Below.later HB2.out q2) b3', (HE2.out.below q2).below b3', (HWv.out.past q2).past b3', (HIe2.out.past q2).past b3', (q1.past b3').tt, (HRe2.out.past q2).past b3', r3'⟩
       clear hr q1 q2 b3' r3')
    | (go_at_call 6
       refine (HWd.out _ (Below.later HBb.out HB1.out)).mono ?_
       rintro r w2 ⟨vw, rfl, q1, q2⟩
       have HB2 := hid0 (Below.later HB1.out q2)
       have hwv := q1.wv
       obtain ⟨av, cv, rfl, _⟩ := hwv.form
       have HWv := hid0 hwv
       have HIe2 := hid0 (HIe1.out.past q2)
       have HRe2 := hid0 (HRe1.out.past q2)
       have HE2 := hid0 (HE.out.below (Below.later HBb.out HB2.out))
       have HCr := hid0 (HRv.out w2 _ HIe2.out HE2.out)
       unfold EV.v at HCr
       simp only [] at HCr
       obtain ⟨⟨s0, s1, s2, s3, s4⟩, _⟩ := rowE HRe2.out
       clear q1 q2 hwv)
    | (go_at_call 5
       refine (HTA.out _ HBb.out).mono ?_
       rintro r w1 hr
       obtain ⟨k1, t1, a1, m1, c1, b1, n1, d1, g1, l1, z1, rfl, q1, q2⟩ := hr.shape
       obtain ⟨v1, hv1⟩ : ∃ v1, w1.alloc (.cells #[.int .i64 k1, .bool t1, .slice a1 m1 c1, .slice b1 n1 d1, .slice g1 l1 z1] 28) = v1 := ⟨_, rfl⟩
       obtain ⟨b1', r1', _⟩ := laid hv1
       have HB1 := hid0 (Below.later q2 b1')
       have HIe1 := hid0 ((q1.past b1').tt)
       have HRe1 : Hid (R5 v1 w1.heap.size ⟨.int .i64 k1, .bool t1, .slice a1 m1 c1, .slice b1 n1 d1, .slice g1 l1 z1⟩) := hid0 r1'
       have hc1 := HBox.out v1 HB1.out
       clear hr q1 q2 b1' r1')
    | fail)
  have HSk := hid0 (fun (V : World) (h : RW wb V A e l (.slice av l.length cv) w1.heap.size w3.heap.size ⟨.int .i64 k1, .bool t1, .slice a1 m1 c1, .slice b1 n1 d1, .slice g1 l1 z1⟩ ⟨.int .i64 k3, .bool t3, .slice a3 m3 c3, .slice b3 n3 d3, .slice g3 l3 z3⟩) => (show (V.cell? ⟨w1.heap.size, 0, none⟩ = some (.int .i64 k1) ∧ V.cell? ⟨w1.heap.size, 1, none⟩ = some (.bool t1) ∧ V.cell? ⟨w1.heap.size, 2, none⟩ = some (.slice a1 m1 c1) ∧ V.cell? ⟨w1.heap.size, 3, none⟩ = some (.slice b1 n1 d1) ∧ V.cell? ⟨w1.heap.size, 4, none⟩ = some (.slice g1 l1 z1)) ∧ V.cell? ⟨w3.heap.size, 0, none⟩ = some (.int .i64 k3) ∧ V.cell? ⟨w3.heap.size, 1, none⟩ = some (.bool t3) ∧ V.cell? ⟨w3.heap.size, 2, none⟩ = some (.slice a3 m3 c3) ∧ V.cell? ⟨w3.heap.size, 3, none⟩ = some (.slice b3 n3 d3) ∧ V.cell? ⟨w3.heap.size, 4, none⟩ = some (.slice g3 l3 z3) from ⟨(rowE h.re).1, (rowE h.rr).1⟩))
  have HRr := hid0 (fun (V : World) (h : RW wb V A e l (.slice av l.length cv) w1.heap.size w3.heap.size ⟨.int .i64 k1, .bool t1, .slice a1 m1 c1, .slice b1 n1 d1, .slice g1 l1 z1⟩ ⟨.int .i64 k3, .bool t3, .slice a3 m3 c3, .slice b3 n3 d3, .slice g3 l3 z3⟩) => reverse_any (revE e) _ tt A V h.ir h.e3 HOr.out HSr.out)
  have HCk := hid0 (fun (V : World) (h : RW wb V A e l (.slice av l.length cv) w1.heap.size w3.heap.size ⟨.int .i64 k1, .bool t1, .slice a1 m1 c1, .slice b1 n1 d1, .slice g1 l1 z1⟩ ⟨.int .i64 k3, .bool t3, .slice a3 m3 c3, .slice b3 n3 d3, .slice g3 l3 z3⟩) => check_any mayF e _ tt A V h.ie (allM_of h.ie) h.e3)
  have HMe := hid0 (fun (V : World) (h : RW wb V A e l (.slice av l.length cv) w1.heap.size w3.heap.size ⟨.int .i64 k1, .bool t1, .slice a1 m1 c1, .slice b1 n1 d1, .slice g1 l1 z1⟩ ⟨.int .i64 k3, .bool t3, .slice a3 m3 c3, .slice b3 n3 d3, .slice g3 l3 z3⟩) => match_at e _ tt l av cv A V (by have := HLe.out; omega) h.ie h.e3 h.wv.ka)
  have HBk := hid0 (fun (V : World) (h : RW wb V A e l (.slice av l.length cv) w1.heap.size w3.heap.size ⟨.int .i64 k1, .bool t1, .slice a1 m1 c1, .slice b1 n1 d1, .slice g1 l1 z1⟩ ⟨.int .i64 k3, .bool t3, .slice a3 m3 c3, .slice b3 n3 d3, .slice g3 l3 z3⟩) => back_any l av cv V HLe.out h.wv.ka)
  have HEm := hid0 (fun (V : World) (h : RW wb V A e l (.slice av l.length cv) w1.heap.size w3.heap.size ⟨.int .i64 k1, .bool t1, .slice a1 m1 c1, .slice b1 n1 d1, .slice g1 l1 z1⟩ ⟨.int .i64 k3, .bool t3, .slice a3 m3 c3, .slice b3 n3 d3, .slice g3 l3 z3⟩) => empty_any e _ tt A V h.ie h.e3)
  have HMn := hid0 (fun (V : World) (h : RW wb V A e l (.slice av l.length cv) w1.heap.size w3.heap.size ⟨.int .i64 k1, .bool t1, .slice a1 m1 c1, .slice b1 n1 d1, .slice g1 l1 z1⟩ ⟨.int .i64 k3, .bool t3, .slice a3 m3 c3, .slice b3 n3 d3, .slice g3 l3 z3⟩) => match_at e _ tt [] none 0 A V (by simp) h.ie h.e3 (KA.none _ _ _))
  have HMr := hid0 (fun (V : World) (h : RW wb V A e l (.slice av l.length cv) w1.heap.size w3.heap.size ⟨.int .i64 k1, .bool t1, .slice a1 m1 c1, .slice b1 n1 d1, .slice g1 l1 z1⟩ ⟨.int .i64 k3, .bool t3, .slice a3 m3 c3, .slice b3 n3 d3, .slice g3 l3 z3⟩) (ab : Option Addr) (cb : Nat) (hk : KA V V.heap.size ab l.reverse) => match_at (revE e) _ tt l.reverse ab cb A V (by rw [List.length_reverse]; have := HLe.out; omega) h.ir h.e3 hk)
  rw [errC_ok HOk.out] at HCk
  rw [eq_rev HWa.out.1 HWa.out.2, List.length_reverse] at HMr
  rw [List.length_nil] at HMn
  unfold BackR at HBk
  unfold EV.v at HRr HCk HMe HEm HMn HMr
  simp only [] at HRr HCk HMe HEm HMn HMr
  generalize mtB e l = p at *
  generalize mtB e [] = q at *
  have HMd := hid0 (HM3.out.past (Below.refl v3.heap.size v3).drew)
  have hsd := HSk.out _ HMd.out
  clear HTA HWd
  refine wp_region_noPanic ?_
  refine wp_region_held_drew (S := (fun V => (V.cell? ⟨w1.heap.size, 0, none⟩ = some (.int .i64 k1) ∧ V.cell? ⟨w1.heap.size, 1, none⟩ = some (.bool t1) ∧ V.cell? ⟨w1.heap.size, 2, none⟩ = some (.slice a1 m1 c1) ∧ V.cell? ⟨w1.heap.size, 3, none⟩ = some (.slice b1 n1 d1) ∧ V.cell? ⟨w1.heap.size, 4, none⟩ = some (.slice g1 l1 z1)) ∧ V.cell? ⟨w3.heap.size, 0, none⟩ = some (.int .i64 k3) ∧ V.cell? ⟨w3.heap.size, 1, none⟩ = some (.bool t3) ∧ V.cell? ⟨w3.heap.size, 2, none⟩ = some (.slice a3 m3 c3) ∧ V.cell? ⟨w3.heap.size, 3, none⟩ = some (.slice b3 n3 d3) ∧ V.cell? ⟨w3.heap.size, 4, none⟩ = some (.slice g3 l3 z3))) (by kernel_rfl) ?_ (fun hHeld => ?_)
  · exact hsd
  refine tkV (i := 0) (d := some 16) (v := ?_) rfl (by kernel_rfl) (by kernel_rfl) (by kernel_rfl) rfl (fun _ _ _ h => h) (by rfl) ?_ (by assumption) ?_
  rotate_left
  · (intro w hSw; (try dsimp only at hSw); (try simp only [List.getElem_toArray, List.getElem_cons_zero]); go_simp; try with_reducible rfl)
  try simp only [Act.put, List.setIfInBounds_toArray, List.set_cons_zero, List.set_cons_succ]
  refine tkV (i := 2) (d := some 18) (v := ?_) rfl (by kernel_rfl) (by kernel_rfl) (by kernel_rfl) rfl (fun _ _ _ h => h) (by rfl) ?_ (by assumption) ?_
  rotate_left
  · (intro w hSw; (try dsimp only at hSw); (try simp only [List.getElem_toArray, List.getElem_cons_zero, List.getElem_cons_succ]); go_simp; try with_reducible rfl)
  try simp only [Act.put, List.setIfInBounds_toArray, List.set_cons_zero, List.set_cons_succ]
  refine wpAnyH_ready (rs := [1]) (by kernel_rfl) (by simp) (AllReadyH.cons rfl (fun K hK => ?_) AllReadyH.nil)
  try simp only [List.getElem_toArray, List.getElem_cons_zero, List.getElem_cons_succ]
  go_simp
  refine (HRr.out _ HMd.out).mono ?_
  rintro r w4 hr
  obtain ⟨k4, t4, a4, m4, c4, b4, n4, d4, g4, l4, z4, rfl, q1, q2⟩ := hr.shape
  have HM4 := hid0 (HMd.out.past q2)
  have hs4 := HSk.out _ HM4.out
  rw [rev_rev] at q1
  have HC3 := hid0 (sameE q1 w4 _ tt (Below.refl _ _) HM4.out.ie)
  unfold EV.v at HC3
  simp only [] at HC3
  clear hr q1 q2
  go_wp2_with fail
  refine hK.out _ _ ?_ (fun hHeld1 => ?_)
  · exact hs4
  clear hK K
  (try simp only [Act.put]); (try simp only [List.setIfInBounds_toArray]); (try simp only [List.set_cons_succ]); (try simp only [List.set_cons_zero])
  refine wpAnyH_ready (rs := [3]) (by kernel_rfl) (by simp) (AllReadyH.cons rfl (fun K hK => ?_) AllReadyH.nil)
  try simp only [List.getElem_toArray, List.getElem_cons_zero, List.getElem_cons_succ]
  go_simp
  refine HC3.out.mono ?_
  rintro r w5 ⟨rfl, hb5⟩
  have HM5 := hid0 (HM4.out.past hb5)
  have hs5 := HSk.out _ HM5.out
  clear hb5
  go_wp2_with fail
  refine hK.out _ _ ?_ (fun hHeld3 => ?_)
  · exact hs5
  clear hK K
  (try simp only [Act.put]); (try simp only [List.setIfInBounds_toArray]); (try simp only [List.set_cons_succ]); (try simp only [List.set_cons_zero])
  refine tkV (i := 4) (d := some 6) (v := ?_) rfl (by kernel_rfl) (by kernel_rfl) (by kernel_rfl) rfl (fun _ _ _ h => h) (by rfl) ?_ (by assumption) ?_
  rotate_left
  · (intro w hSw; (try dsimp only at hSw); (try simp only [List.getElem_toArray, List.getElem_cons_zero, List.getElem_cons_succ]); go_simp; try with_reducible rfl)
  try simp only [Act.put, List.setIfInBounds_toArray, List.set_cons_zero, List.set_cons_succ]
  refine wpAnyH_done (by kernel_rfl) ?_ _
  refine NoPanic.normal ?_
  go_wp2_with (first
    | (go_at_call 7
       refine (HFi.out _ (Below.later HBb.out HM5.out.bel)).mono ?_
       rintro r w6 ⟨rfl, hb6⟩
       have HM6 := hid0 (HM5.out.past hb6)
       clear hb6)
    | fail)
  have HMx := hid0 (HM6.out.past (Below.refl w6.heap.size w6).drew)
  have hsx := HSk.out _ HMx.out
  refine wp_region_noPanic ?_
  refine wp_region_held_drew (S := (fun V => (V.cell? ⟨w1.heap.size, 0, none⟩ = some (.int .i64 k1) ∧ V.cell? ⟨w1.heap.size, 1, none⟩ = some (.bool t1) ∧ V.cell? ⟨w1.heap.size, 2, none⟩ = some (.slice a1 m1 c1) ∧ V.cell? ⟨w1.heap.size, 3, none⟩ = some (.slice b1 n1 d1) ∧ V.cell? ⟨w1.heap.size, 4, none⟩ = some (.slice g1 l1 z1)) ∧ V.cell? ⟨w3.heap.size, 0, none⟩ = some (.int .i64 k3) ∧ V.cell? ⟨w3.heap.size, 1, none⟩ = some (.bool t3) ∧ V.cell? ⟨w3.heap.size, 2, none⟩ = some (.slice a3 m3 c3) ∧ V.cell? ⟨w3.heap.size, 3, none⟩ = some (.slice b3 n3 d3) ∧ V.cell? ⟨w3.heap.size, 4, none⟩ = some (.slice g3 l3 z3))) (by kernel_rfl) ?_ (fun hHeld => ?_)
  · exact hsx
  refine tkV (i := 0) (d := some 21) (v := ?_) rfl (by kernel_rfl) (by kernel_rfl) (by kernel_rfl) rfl (fun _ _ _ h => h) (by rfl) ?_ (by assumption) ?_
  rotate_left
  · (intro w hSw; (try dsimp only at hSw); (try simp only [List.getElem_toArray, List.getElem_cons_zero]); go_simp; try with_reducible rfl)
  try simp only [Act.put, List.setIfInBounds_toArray, List.set_cons_zero, List.set_cons_succ]
  refine tkV (i := 1) (d := some 22) (v := ?_) rfl (by kernel_rfl) (by kernel_rfl) (by kernel_rfl) rfl (fun _ _ _ h => h) (by rfl) ?_ (by assumption) ?_
  rotate_left
  · (intro w hSw; (try dsimp only at hSw); (try simp only [List.getElem_toArray, List.getElem_cons_zero, List.getElem_cons_succ]); go_simp; try with_reducible rfl)
  try simp only [Act.put, List.setIfInBounds_toArray, List.set_cons_zero, List.set_cons_succ]
  refine tkV (i := 2) (d := some 23) (v := ?_) rfl (by kernel_rfl) (by kernel_rfl) (by kernel_rfl) rfl (fun _ _ _ h => h) (by rfl) ?_ (by assumption) ?_
  rotate_left
  · (intro w hSw; (try dsimp only at hSw); (try simp only [List.getElem_toArray, List.getElem_cons_zero, List.getElem_cons_succ]); go_simp; try with_reducible rfl)
  try simp only [Act.put, List.setIfInBounds_toArray, List.set_cons_zero, List.set_cons_succ]
  refine wpAnyH_ready (rs := [3]) (by kernel_rfl) (by simp) (AllReadyH.cons rfl (fun K hK => ?_) AllReadyH.nil)
  try simp only [List.getElem_toArray, List.getElem_cons_zero, List.getElem_cons_succ]
  go_simp
  refine (HCk.out _ HMx.out).mono ?_
  rintro r w7 ⟨rfl, hb7⟩
  have HM7 := hid0 (HMx.out.past hb7)
  have hs7 := HSk.out _ HM7.out
  clear hb7
  go_wp2_with fail
  refine hK.out _ _ ?_ (fun hHeld3 => ?_)
  · exact hs7
  clear hK K
  (try simp only [Act.put]); (try simp only [List.setIfInBounds_toArray]); (try simp only [List.set_cons_succ]); (try simp only [List.set_cons_zero])
  refine tkV (i := 4) (d := some 25) (v := ?_) rfl (by kernel_rfl) (by kernel_rfl) (by kernel_rfl) rfl (fun _ _ _ h => h) (by rfl) ?_ (by assumption) ?_
  rotate_left
  · (intro w hSw; (try dsimp only at hSw); (try simp only [List.getElem_toArray, List.getElem_cons_zero, List.getElem_cons_succ]); go_simp; try with_reducible rfl)
  try simp only [Act.put, List.setIfInBounds_toArray, List.set_cons_zero, List.set_cons_succ]
  refine tkV (i := 5) (d := some 26) (v := ?_) rfl (by kernel_rfl) (by kernel_rfl) (by kernel_rfl) rfl (fun _ _ _ h => h) (by rfl) ?_ (by assumption) ?_
  rotate_left
  · (intro w hSw; (try dsimp only at hSw); (try simp only [List.getElem_toArray, List.getElem_cons_zero, List.getElem_cons_succ]); go_simp; try with_reducible rfl)
  try simp only [Act.put, List.setIfInBounds_toArray, List.set_cons_zero, List.set_cons_succ]
  refine tkV (i := 6) (d := some 27) (v := ?_) rfl (by kernel_rfl) (by kernel_rfl) (by kernel_rfl) rfl (fun _ _ _ h => h) (by rfl) ?_ (by assumption) ?_
  rotate_left
  · (intro w hSw; (try dsimp only at hSw); (try simp only [List.getElem_toArray, List.getElem_cons_zero, List.getElem_cons_succ]); go_simp; try with_reducible rfl)
  try simp only [Act.put, List.setIfInBounds_toArray, List.set_cons_zero, List.set_cons_succ]
  refine tkV (i := 7) (d := some 28) (v := ?_) rfl (by kernel_rfl) (by kernel_rfl) (by kernel_rfl) rfl (fun _ _ _ h => h) (by rfl) ?_ (by assumption) ?_
  rotate_left
  · (intro w hSw; (try dsimp only at hSw); (try simp only [List.getElem_toArray, List.getElem_cons_zero, List.getElem_cons_succ]); go_simp; try with_reducible rfl)
  try simp only [Act.put, List.setIfInBounds_toArray, List.set_cons_zero, List.set_cons_succ]
  refine tkV (i := 8) (d := some 29) (v := ?_) rfl (by kernel_rfl) (by kernel_rfl) (by kernel_rfl) rfl (fun _ _ _ h => h) (by rfl) ?_ (by assumption) ?_
  rotate_left
  · (intro w hSw; (try dsimp only at hSw); (try simp only [List.getElem_toArray, List.getElem_cons_zero, List.getElem_cons_succ]); go_simp; try with_reducible rfl)
  try simp only [Act.put, List.setIfInBounds_toArray, List.set_cons_zero, List.set_cons_succ]
  refine tkV (i := 9) (d := some 30) (v := ?_) rfl (by kernel_rfl) (by kernel_rfl) (by kernel_rfl) rfl (fun _ _ _ h => h) (by rfl) ?_ (by assumption) ?_
  rotate_left
  · (intro w hSw; (try dsimp only at hSw); (try simp only [List.getElem_toArray, List.getElem_cons_zero, List.getElem_cons_succ]); go_simp; try with_reducible rfl)
  try simp only [Act.put, List.setIfInBounds_toArray, List.set_cons_zero, List.set_cons_succ]
  refine tkV (i := 10) (d := some 31) (v := ?_) rfl (by kernel_rfl) (by kernel_rfl) (by kernel_rfl) rfl (fun _ _ _ h => h) (by rfl) ?_ (by assumption) ?_
  rotate_left
  · (intro w hSw; (try dsimp only at hSw); (try simp only [List.getElem_toArray, List.getElem_cons_zero, List.getElem_cons_succ]); go_simp; try with_reducible rfl)
  try simp only [Act.put, List.setIfInBounds_toArray, List.set_cons_zero, List.set_cons_succ]
  refine tkV (i := 11) (d := some 32) (v := ?_) rfl (by kernel_rfl) (by kernel_rfl) (by kernel_rfl) rfl (fun _ _ _ h => h) (by rfl) ?_ (by assumption) ?_
  rotate_left
  · (intro w hSw; (try dsimp only at hSw); (try simp only [List.getElem_toArray, List.getElem_cons_zero, List.getElem_cons_succ]); go_simp; try with_reducible rfl)
  try simp only [Act.put, List.setIfInBounds_toArray, List.set_cons_zero, List.set_cons_succ]
  refine tkV (i := 13) (d := some 34) (v := ?_) rfl (by kernel_rfl) (by kernel_rfl) (by kernel_rfl) rfl (fun _ _ _ h => h) (by rfl) ?_ (by assumption) ?_
  rotate_left
  · (intro w hSw; (try dsimp only at hSw); (try simp only [List.getElem_toArray, List.getElem_cons_zero, List.getElem_cons_succ]); go_simp; try with_reducible rfl)
  try simp only [Act.put, List.setIfInBounds_toArray, List.set_cons_zero, List.set_cons_succ]
  refine tkV (i := 14) (d := some 35) (v := ?_) rfl (by kernel_rfl) (by kernel_rfl) (by kernel_rfl) rfl (fun _ _ _ h => h) (by rfl) ?_ (by assumption) ?_
  rotate_left
  · (intro w hSw; (try dsimp only at hSw); (try simp only [List.getElem_toArray, List.getElem_cons_zero, List.getElem_cons_succ]); go_simp; try with_reducible rfl)
  try simp only [Act.put, List.setIfInBounds_toArray, List.set_cons_zero, List.set_cons_succ]
  refine wpAnyH_ready (rs := [12]) (by kernel_rfl) (by simp) (AllReadyH.cons rfl (fun K hK => ?_) AllReadyH.nil)
  try simp only [List.getElem_toArray, List.getElem_cons_zero, List.getElem_cons_succ]
  go_simp
  refine (HMe.out _ HM7.out).mono ?_
  rintro r w8 ⟨rfl, hb8⟩
  have HM8 := hid0 (HM7.out.past hb8)
  have hs8 := HSk.out _ HM8.out
  clear hb8
  go_wp2_with fail
  refine hK.out _ _ ?_ (fun hHeld12 => ?_)
  · exact hs8
  clear hK K
  (try simp only [Act.put]); (try simp only [List.setIfInBounds_toArray]); (try simp only [List.set_cons_succ]); (try simp only [List.set_cons_zero])
  refine wpAnyH_ready (rs := [15]) (by kernel_rfl) (by simp) (AllReadyH.cons rfl (fun K hK => ?_) AllReadyH.nil)
  try simp only [List.getElem_toArray, List.getElem_cons_zero, List.getElem_cons_succ]
  go_simp
  refine (HBk.out _ HM8.out).mono ?_
  rintro r w9 ⟨vb, rfl, q1, q2⟩
  have HM9 := hid0 (HM8.out.past q2)
  have hs9 := HSk.out _ HM9.out
  have hwvb := q1.wv
  obtain ⟨ab, cb, rfl, hkb⟩ := hwvb.form
  have HC16 := hid0 (HMr.out _ HM9.out ab cb hkb)
  rw [List.length_reverse]
  clear q1 q2 hwvb hkb
  go_wp2_with fail
  refine hK.out _ _ ?_ (fun hHeld15 => ?_)
  · exact hs9
  clear hK K
  (try simp only [Act.put]); (try simp only [List.setIfInBounds_toArray]); (try simp only [List.set_cons_succ]); (try simp only [List.set_cons_zero])
  refine wpAnyH_ready (rs := [16]) (by kernel_rfl) (by simp) (AllReadyH.cons rfl (fun K hK => ?_) AllReadyH.nil)
  try simp only [List.getElem_toArray, List.getElem_cons_zero, List.getElem_cons_succ]
  go_simp
  refine HC16.out.mono ?_
  rintro r w10 ⟨rfl, hb10⟩
  have HM10 := hid0 (HM9.out.past hb10)
  have hs10 := HSk.out _ HM10.out
  clear hb10
  go_wp2_with fail
  refine hK.out _ _ ?_ (fun hHeld16 => ?_)
  · exact hs10
  clear hK K
  (try simp only [Act.put]); (try simp only [List.setIfInBounds_toArray]); (try simp only [List.set_cons_succ]); (try simp only [List.set_cons_zero])
  refine tkV (i := 17) (d := some 38) (v := .bool true) rfl (by kernel_rfl) (by kernel_rfl) (by kernel_rfl) rfl (fun _ _ _ h => h) (by rfl) ?_ (by assumption) ?_
  · (intro w hSw; (try dsimp only at hSw); (try simp only [List.getElem_toArray, List.getElem_cons_zero, List.getElem_cons_succ]); go_simp; try with_reducible rfl)
  try simp only [Act.put, List.setIfInBounds_toArray, List.set_cons_zero, List.set_cons_succ]
  refine tkV (i := 18) (d := some 39) (v := ?_) rfl (by kernel_rfl) (by kernel_rfl) (by kernel_rfl) rfl (fun _ _ _ h => h) (by rfl) ?_ (by assumption) ?_
  rotate_left
  · (intro w hSw; (try dsimp only at hSw); (try simp only [List.getElem_toArray, List.getElem_cons_zero, List.getElem_cons_succ]); go_simp; try with_reducible rfl)
  try simp only [Act.put, List.setIfInBounds_toArray, List.set_cons_zero, List.set_cons_succ]
  refine tkV (i := 19) (d := some 40) (v := ?_) rfl (by kernel_rfl) (by kernel_rfl) (by kernel_rfl) rfl (fun _ _ _ h => h) (by rfl) ?_ (by assumption) ?_
  rotate_left
  · (intro w hSw; (try dsimp only at hSw); (try simp only [List.getElem_toArray, List.getElem_cons_zero, List.getElem_cons_succ]); go_simp; try with_reducible rfl)
  try simp only [Act.put, List.setIfInBounds_toArray, List.set_cons_zero, List.set_cons_succ]
  refine tkV (i := 20) (d := some 41) (v := ?_) rfl (by kernel_rfl) (by kernel_rfl) (by kernel_rfl) rfl (fun _ _ _ h => h) (by rfl) ?_ (by assumption) ?_
  rotate_left
  · (intro w hSw; (try dsimp only at hSw); (try simp only [List.getElem_toArray, List.getElem_cons_zero, List.getElem_cons_succ]); go_simp; try with_reducible rfl)
  try simp only [Act.put, List.setIfInBounds_toArray, List.set_cons_zero, List.set_cons_succ]
  refine tkV (i := 22) (d := some 43) (v := ?_) rfl (by kernel_rfl) (by kernel_rfl) (by kernel_rfl) rfl (fun _ _ _ h => h) (by rfl) ?_ (by assumption) ?_
  rotate_left
  · (intro w hSw; (try dsimp only at hSw); (try simp only [List.getElem_toArray, List.getElem_cons_zero, List.getElem_cons_succ]); go_simp; try with_reducible rfl)
  try simp only [Act.put, List.setIfInBounds_toArray, List.set_cons_zero, List.set_cons_succ]
  refine wpAnyH_ready (rs := [21]) (by kernel_rfl) (by simp) (AllReadyH.cons rfl (fun K hK => ?_) AllReadyH.nil)
  try simp only [List.getElem_toArray, List.getElem_cons_zero, List.getElem_cons_succ]
  go_simp
  refine (HEm.out _ HM10.out).mono ?_
  rintro r w11 ⟨rfl, hb11⟩
  have HM11 := hid0 (HM10.out.past hb11)
  have hs11 := HSk.out _ HM11.out
  clear hb11
  go_wp2_with fail
  refine hK.out _ _ ?_ (fun hHeld21 => ?_)
  · exact hs11
  clear hK K
  (try simp only [Act.put]); (try simp only [List.setIfInBounds_toArray]); (try simp only [List.set_cons_succ]); (try simp only [List.set_cons_zero])
  refine wpAnyH_ready (rs := [23]) (by kernel_rfl) (by simp) (AllReadyH.cons rfl (fun K hK => ?_) AllReadyH.nil)
  try simp only [List.getElem_toArray, List.getElem_cons_zero, List.getElem_cons_succ]
  go_simp
  refine (HMn.out _ HM11.out).mono ?_
  rintro r w12 ⟨rfl, hb12⟩
  have HM12 := hid0 (HM11.out.past hb12)
  have hs12 := HSk.out _ HM12.out
  clear hb12
  go_wp2_with fail
  refine hK.out _ _ ?_ (fun hHeld23 => ?_)
  · exact hs12
  clear hK K
  (try simp only [Act.put]); (try simp only [List.setIfInBounds_toArray]); (try simp only [List.set_cons_succ]); (try simp only [List.set_cons_zero])
  refine tkV (i := 24) (d := some 45) (v := .bool true) rfl (by kernel_rfl) (by kernel_rfl) (by kernel_rfl) rfl (fun _ _ _ h => h) (by rfl) ?_ (by assumption) ?_
  · (intro w hSw; (try dsimp only at hSw); (try simp only [List.getElem_toArray, List.getElem_cons_zero, List.getElem_cons_succ]); go_simp; try with_reducible rfl)
  try simp only [Act.put, List.setIfInBounds_toArray, List.set_cons_zero, List.set_cons_succ]
  refine tkV (i := 25) (d := some 46) (v := ?_) rfl (by kernel_rfl) (by kernel_rfl) (by kernel_rfl) rfl (fun _ _ _ h => h) (by rfl) ?_ (by assumption) ?_
  rotate_left
  · (intro w hSw; (try dsimp only at hSw); (try simp only [List.getElem_toArray, List.getElem_cons_zero, List.getElem_cons_succ]); go_simp; try with_reducible rfl)
  try simp only [Act.put, List.setIfInBounds_toArray, List.set_cons_zero, List.set_cons_succ]
  refine tkV (i := 26) (d := some 2) (v := ?_) rfl (by kernel_rfl) (by kernel_rfl) (by kernel_rfl) rfl (fun _ _ _ h => h) (by rfl) ?_ (by assumption) ?_
  rotate_left
  · (intro w hSw; (try dsimp only at hSw); (try simp only [List.getElem_toArray, List.getElem_cons_zero, List.getElem_cons_succ]); go_simp; try with_reducible rfl)
  try simp only [Act.put, List.setIfInBounds_toArray, List.set_cons_zero, List.set_cons_succ]
  refine wpAnyH_done (by kernel_rfl) ?_ _
  refine NoPanic.normal ?_
  go_wp2
  go_ret
  exact ⟨rfl, Below.later HBb.out HM12.out.bel⟩
end Go.Proofs.YtolnoojbcbdfiaaDoor
namespace Go.Proofs.YtolnoojbcbdfiaaDoor
open Go.ChangeShapes Go.WideShapes Go.ChangeAt Go.RowKit
theorem own : ownKnob Tryd.prog.godebug = none := by kernel_rfl
/-- The settled world, the listed variables holding what their initialisers lay. -/
def laidWorld (hold : World) : World := { hold with heap := ((((((((hold.heap.modify 0 fun | .cells _ t frozen => .cells #[.iface 136 (.pointer (some ⟨hold.heap.size + 0, 0, none⟩))] t frozen | o => o).modify 1 fun | .cells _ t frozen => .cells #[.iface 136 (.pointer (some ⟨hold.heap.size + 1, 0, none⟩))] t frozen | o => o).modify 2 fun | .cells _ t frozen => .cells #[.iface 136 (.pointer (some ⟨hold.heap.size + 2, 0, none⟩))] t frozen | o => o).modify 4 fun | .cells _ t frozen => .cells (Go.Pinned.utf8FirstZ.map fun n => Value.int .u8 (Int.ofNat n)).toArray t frozen | o => o).modify 5 fun | .cells _ t frozen => .cells #[.int .u8 128, .int .u8 191, .int .u8 160, .int .u8 191, .int .u8 128, .int .u8 159, .int .u8 144, .int .u8 191, .int .u8 128, .int .u8 143, .int .u8 0, .int .u8 0, .int .u8 0, .int .u8 0, .int .u8 0, .int .u8 0, .int .u8 0, .int .u8 0, .int .u8 0, .int .u8 0, .int .u8 0, .int .u8 0, .int .u8 0, .int .u8 0, .int .u8 0, .int .u8 0, .int .u8 0, .int .u8 0, .int .u8 0, .int .u8 0, .int .u8 0, .int .u8 0] t frozen | o => o).push (.cells #[.string ⟨#[97, 98, 111, 118, 101, 32, 97, 32, 108, 105, 109, 105, 116]⟩] 153)).push (.cells #[.string ⟨#[97, 32, 110, 117, 109, 98, 101, 114, 32, 111, 114, 32, 97, 110, 32, 97, 114, 103, 117, 109, 101, 110, 116, 32, 105, 115, 32, 111, 117, 116, 32, 111, 102, 32, 105, 116, 115, 32, 112, 108, 97, 99, 101]⟩] 153)).push (.cells #[.string ⟨#[110, 111, 116, 32, 116, 104, 101, 32, 111, 110, 101, 32, 102, 111, 114, 109, 32, 116, 104, 97, 116, 32, 105, 115, 32, 119, 114, 105, 116, 116, 101, 110]⟩] 153)) }
set_option maxRecDepth 100000 in
theorem door_shaped (os : Os) (args : Array Value) : ((laidWorld (World.holding Tryd.prog os ⟨#[], #[], []⟩)).forCall (fun _ _ => 0) ⟨#[], args, []⟩).Shaped Tryd.prog :=
  World.shaped_of_RefB (by kernel_rfl) (by kernel_rfl)
/-- An input that fits, at a world that is written out. -/
theorem witness_row_shaped {H : Type} {enc : TypeId × Value → H} {C : Checked} {os : Os} {f : FuncId} {fn : Func} {s : OpenSpec} {conds : List PathCond} {apart : Bool} {laid : List (String × DataW Unit)} (w0 : World) (args : Array Value) (hos : w0.os = os)
    (hsh : (w0.forCall (fun _ _ => 0) ⟨#[], args, []⟩).Shaped C.prog)
    (hok : Input.okWideB C.prog (w0.forCall (fun _ _ => 0) ⟨#[], args, []⟩) f ⟨#[], args, []⟩ = true)
    (hrow : s.preRow enc C.prog fn conds apart laid (w0.forCall (fun _ _ => 0) ⟨#[], args, []⟩).memory args) :
    ∃ (w : World) (tape : Tape) (i : Input), w.os = os ∧ (w.forCall tape i).Shaped C.prog ∧ i.vars = [] ∧ Input.okWide C.prog (w.forCall tape i) .any w.heap.size f i ∧
      s.preRow enc C.prog fn conds apart laid (w.forCall tape i).memory i.args ∧ ({} : Assume).holds C.prog (lone (Frame.enter C.prog f i.args .normal) [] (w.forCall tape i)) :=
  ⟨w0, fun _ _ => 0, ⟨#[], args, []⟩, hos, hsh, (Input.okWide_of_okWideB (base := 0) hok).1, (Input.okWide_of_okWideB hok).2, hrow, by
    simp only [Assume.holds]
    exact ⟨by simp, by simp, by simp, by simp, by simp⟩⟩
theorem laidOut : laidOutB Tryd.prog = true := by kernel_rfl
set_option maxRecDepth 10000 in
/-- The frame of a law of one parameter that answers true, writes nothing that was there, and lists no variable among its readings. -/
theorem law_contract {H : Type} {enc : TypeId × Value → H} {f : FuncId} {fn : Func} {s : ChangeSpec} {t : TypeId} (hp : fn.params = #[t]) (hrt : fn.resultTypes = #[4]) (hvars : s.vars = [])
    (hfn : ∀ (K : Type) (d : DataW K), s.fn K [d] = { results := [.lit (.bool true)], args := [d] }) (hread : Tryd.prog.readableRec t = true) (hrow : t < Tryd.prog.types.size)
    (W : World) (base : Nat) (args : Array Value) (ds gs : List (DataW H)) (before : List MemPlace)
    (hval : ∀ (j : Nat) t v, fn.params[j]? = some t → args[j]? = some v → Value.okWide Tryd.prog W .any base t v)
    (hW : DataW.Whole enc Tryd.prog fn.params.toList s.vars false W args.toList ds gs before)
    (hsz : (DataW.weightsEach Tryd.prog (fn.params.toList ++ s.plain.varTypes Tryd.prog) (ds ++ gs)).all (· ≤ reachBytes) = true)
    (walk : ∀ (v : Value) (d : DataW H) (p : List MemPlace), Value.okWide Tryd.prog W .any base t v → DataW.Trod enc Tryd.prog W 0 (fun _ => true) true t v d p → (∀ x ∈ p, x.block < W.heap.size) → (∀ x ∈ d.weights Tryd.prog t, x ≤ reachBytes) → ds = [d] → gs = [] →
      Calls Tryd.prog f #[v] W fun e W' => e = .returned (.bool true) ∧ Below W.heap.size W W') :
    Calls Tryd.prog f args W fun e W' => ∃ v, e = .returned v ∧ s.post enc Tryd.prog fn false true false false W args v W' := by
  have hW' := hW
  obtain ⟨p, q, hA0, hV, rfl, hfz, hnd⟩ := hW
  have hA : DataW.TrodAll enc Tryd.prog W 0 (fun _ => true) true fn.params.toList args.toList ds p := hA0
  rw [hp] at hA hval hsz
  obtain ⟨v0, vs0, d0, ds0, p0, q0, hargs, rfl, rfl, h0, r0⟩ := trodAll_cons hA
  obtain ⟨rfl, rfl, rfl⟩ := trodAll_nil r0
  obtain rfl : args = #[v0] := by cases args; simp_all
  rw [hvars] at hV
  obtain ⟨rfl, rfl⟩ := trodVars_none hV
  have hlt : ∀ x ∈ p0, x.block < W.heap.size := fun x hx => by have := hW'.lt x (by simpa using hx); simpa using this
  have hw : ∀ x ∈ d0.weights Tryd.prog t, x ≤ reachBytes := fun x hx => by
    have := List.all_eq_true.1 hsz x (DataW.weights_mem_each (j := 0) (by simp) (by simp) x hx)
    simpa using this
  refine (walk v0 d0 p0 (hval 0 t v0 rfl rfl) h0 hlt hw rfl rfl).mono fun e W' ⟨he, hb⟩ => ?_
  subst he
  refine ⟨_, rfl, [d0], [], _, [], p0 ++ [], [], hW', ?_, ?_, ?_, hb.frame _, fun h => by cases h⟩
  · rw [hrt, show ([d0] ++ ([] : List (DataW H))) = [d0] from rfl, hfn]
    exact trodAll_cons_mk (shut_bool Tryd.underlying4 true) trodAll_mk0
  · rw [hp, show ([d0] ++ ([] : List (DataW H))) = [d0] from rfl, hfn]
    exact trodAll_cons_mk (Below.trod laidOut hread hrow h0 hb hlt) trodAll_mk0
  · rw [hvars, show ([d0] ++ ([] : List (DataW H))) = [d0] from rfl, hfn]
    rfl
set_option maxRecDepth 10000 in
/-- The same frame for a law without parameters. -/
theorem law_contract0 {H : Type} {enc : TypeId × Value → H} {f : FuncId} {fn : Func} {s : ChangeSpec} (hp : fn.params = #[]) (hrt : fn.resultTypes = #[4]) (hvars : s.vars = [])
    (hfn : ∀ (K : Type), s.fn K [] = { results := [.lit (.bool true)], args := [] })
    (W : World) (args : Array Value) (ds gs : List (DataW H)) (before : List MemPlace)
    (hW : DataW.Whole enc Tryd.prog fn.params.toList s.vars false W args.toList ds gs before)
    (walk : Calls Tryd.prog f #[] W fun e W' => e = .returned (.bool true) ∧ Below W.heap.size W W') :
    Calls Tryd.prog f args W fun e W' => ∃ v, e = .returned v ∧ s.post enc Tryd.prog fn false true false false W args v W' := by
  have hW' := hW
  obtain ⟨p, q, hA0, hV, rfl, hfz, hnd⟩ := hW
  have hA : DataW.TrodAll enc Tryd.prog W 0 (fun _ => true) true fn.params.toList args.toList ds p := hA0
  rw [hp] at hA
  obtain ⟨hargs, rfl, rfl⟩ := trodAll_nil hA
  obtain rfl : args = #[] := by cases args; simp_all
  rw [hvars] at hV
  obtain ⟨rfl, rfl⟩ := trodVars_none hV
  refine walk.mono fun e W' ⟨he, hb⟩ => ?_
  subst he
  refine ⟨_, rfl, [], [], _, [], [], [], hW', ?_, ?_, ?_, hb.frame _, fun h => by cases h⟩
  · rw [hrt, show (([] : List (DataW H)) ++ []) = [] from rfl, hfn]
    exact trodAll_cons_mk (shut_bool Tryd.underlying4 true) trodAll_mk0
  · rw [hp, show (([] : List (DataW H)) ++ []) = [] from rfl, hfn]
    exact trodAll_mk0
  · rw [hvars, show (([] : List (DataW H)) ++ []) = [] from rfl, hfn]
    rfl
end Go.Proofs.YtolnoojbcbdfiaaDoor
namespace Go.Proofs.YtolnoojbcbdfiaaDoor
open Go.ChangeShapes Go.WideShapes Go.ChangeAt Go.RowKit Go.Joins
theorem cellsStrX : Tryd.prog.cellsOf 9 = 1 := by kernel_rfl
theorem cellsIntX : Tryd.prog.cellsOf 3 = 1 := by kernel_rfl
theorem cellsBoolX : Tryd.prog.cellsOf 4 = 1 := by kernel_rfl
theorem cellsSetX : Tryd.prog.cellsOf 25 = 3 := by kernel_rfl
theorem cellsExprX : Tryd.prog.cellsOf 28 = 5 := by kernel_rfl
theorem cellsRangeX : Tryd.prog.cellsOf 56 = 2 := by kernel_rfl
theorem cellsKindX : Tryd.prog.cellsOf 42 = 2 := by kernel_rfl
theorem cellsStrsX : Tryd.prog.cellsOf 22 = 1 := by kernel_rfl
theorem cellsRangesX : Tryd.prog.cellsOf 23 = 1 := by kernel_rfl
theorem cellsExprsX : Tryd.prog.cellsOf 26 = 1 := by kernel_rfl
theorem cellsKindsX : Tryd.prog.cellsOf 29 = 1 := by kernel_rfl
/-- A slice that is read: the cells of each of its elements. -/
theorem open_rows {H : Type} {enc : TypeId × Value → H} {W : World} {t e : TypeId} {m : Nat} {n : Nat} {c : Value} {x : DataW H × List MemPlace} (ht : Tryd.prog.underlying t = some (.slice e)) (hm : Tryd.prog.cellsOf e = m) (hm0 : 0 < m)
    (h : DataW.trod enc Tryd.prog W 0 (fun _ => true) true n t [c] = some x) :
    c = .slice none 0 0 ∨ ∃ (a : Addr) (len cap k : Nat), n = k + 1 ∧ c = .slice (some a) len cap ∧ ∀ i, i < len → ∃ (cs : List Value) (y : DataW H × List MemPlace), cs.length = m ∧ a = ⟨a.block, a.off, none⟩ ∧ (∀ j, j < m → W.cell? ⟨a.block, a.off + i * m + j, none⟩ = cs[j]?) ∧ DataW.trod enc Tryd.prog W 0 (fun _ => true) true k e cs = some y := by
  rcases DataW.trod_slice ht h with ⟨h0, _⟩ | ⟨a, len, cap, elems, rest, k, hk, hc, _, hb, hl, hmx, hlen, hel, _, _⟩
  · simp only [List.cons.injEq, and_true] at h0
    exact .inl h0
  · simp only [List.cons.injEq, and_true] at hc
    rw [hm] at hel
    have key : ∀ i, i < len → ∃ cs y, W.cells? 0 (a.add (i * m)) m = some cs ∧ DataW.trod enc Tryd.prog W 0 (fun _ => true) true k e cs = some y := fun i hi => by
      have h1 := hel i hi
      rw [List.getElem?_eq_getElem (by omega), Option.bind_eq_some_iff] at h1
      obtain ⟨cs, h2, h3⟩ := h1
      exact ⟨cs, _, h2, h3⟩
    refine .inr ⟨a, len, cap, k, hk, hc, fun i hi => ?_⟩
    obtain ⟨cs, y, h1, h2⟩ := key i hi
    obtain ⟨cs0, y0, g1, _⟩ := key 0 (by omega)
    obtain ⟨_, hl0, hc0⟩ := World.cells?_some g1
    have hsp : a.spot = none := by
      have q := hc0 0 (by omega)
      rw [Deep.add_add, List.getElem?_eq_getElem (by omega)] at q
      exact World.cell?_spot (a := a.add 0) (by simpa using q)
    obtain ⟨_, hlc, hcc⟩ := World.cells?_some h1
    obtain ⟨ab, ao, asp⟩ := a
    simp only at hsp
    subst hsp
    refine ⟨cs, y, hlc, rfl, fun j hj => ?_, h2⟩
    have q := hcc j hj
    rw [Deep.add_add, WideShapes.add_plain] at q
    rw [Nat.add_assoc]
    exact q
theorem lt_of_cellX {W : World} {b o : Nat} {u : Value} (h : W.cell? ⟨b, o, none⟩ = some u) : b < W.heap.size := World.block_lt_of_cell? W _ h
/-- Names that are read. -/
theorem open_namesX {H : Type} {enc : TypeId × Value → H} {W : World} {n : Nat} {c : Value} {x : DataW H × List MemPlace} (h : DataW.trod enc Tryd.prog W 0 (fun _ => true) true n 22 [c] = some x) :
    ∃ (a : Option Addr) (N : List ByteArray) (cap : Nat), c = .slice a N.length cap ∧ SA W a N := by
  rcases open_rows Tryd.underlying22 cellsStrX (by omega) h with rfl | ⟨a, len, cap, k, _, rfl, hx⟩
  · exact ⟨none, [], 0, rfl, ⟨fun k h => absurd h (Nat.not_lt_zero _)⟩⟩
  · obtain ⟨T, hT⟩ := Deep.choose_lt (n := len) (p := fun i s => a = ⟨a.block, a.off, none⟩ ∧ W.cell? ⟨a.block, a.off + i, none⟩ = some (.string s)) (fun i hi => by
      obtain ⟨cs, y, h1, h2, h3, h4⟩ := hx i hi
      obtain ⟨s, e, _⟩ := DataW.trod_string Tryd.underlying9 h4
      have q := h3 0 (by omega)
      rw [e] at q
      exact ⟨s, h2, by simpa using q⟩)
    have hlen : ((List.range len).map T).length = len := by simp
    refine ⟨some a, (List.range len).map T, cap, by rw [hlen], ⟨fun k hk => ?_⟩⟩
    rw [hlen] at hk
    have et : ((List.range len).map T)[k]'(by rw [hlen]; exact hk) = T k := by simp
    obtain ⟨p1, p2⟩ := hT k hk
    rw [et]
    exact ⟨a.block, a.off, by rw [← p1], lt_of_cellX p2, p2⟩
set_option maxRecDepth 100000 in
/-- Ranges that are read. -/
theorem open_rangesX {H : Type} {enc : TypeId × Value → H} {W : World} {n : Nat} {c : Value} {x : DataW H × List MemPlace} (h : DataW.trod enc Tryd.prog W 0 (fun _ => true) true n 23 [c] = some x) :
    ∃ (a : Option Addr) (P : List (Int × Int)) (cap : Nat), c = .slice a P.length cap ∧ RA W a P := by
  rcases open_rows Tryd.underlying23 cellsRangeX (by omega) h with rfl | ⟨a, len, cap, k, _, rfl, hx⟩
  · exact ⟨none, [], 0, rfl, ⟨fun k h => absurd h (Nat.not_lt_zero _)⟩⟩
  · obtain ⟨T, hT⟩ := Deep.choose_lt (n := len) (p := fun i (s : Int × Int) => a = ⟨a.block, a.off, none⟩ ∧ W.cell? ⟨a.block, a.off + i * 2, none⟩ = some (.int .i64 s.1) ∧ W.cell? ⟨a.block, a.off + i * 2 + 1, none⟩ = some (.int .i64 s.2)) (fun i hi => by
      obtain ⟨cs, y, h1, h2, h3, h4⟩ := hx i hi
      obtain ⟨xs, k2, _, _, _, hxl, hfs⟩ := DataW.trod_struct Tryd.underlying56 h4
      match cs, h1 with
      | [v0, v1], _ =>
        obtain ⟨y0, y1, rfl⟩ : ∃ y0 y1, xs = [y0, y1] := by
          match xs, hxl with
          | [y0, y1], _ => exact ⟨y0, y1, rfl⟩
        have f0 := hfs 0 _ rfl
        have f1 := hfs 1 _ rfl
        simp [cellsIntX] at f0 f1
        obtain ⟨m0, e0, _⟩ := DataW.trod_int Tryd.underlying3 f0
        obtain ⟨m1, e1, _⟩ := DataW.trod_int Tryd.underlying3 f1
        simp only [List.cons.injEq, and_true] at e0 e1
        subst e0 e1
        exact ⟨(m0, m1), h2, h3 0 (by omega), h3 1 (by omega)⟩)
    have hlen : ((List.range len).map T).length = len := by simp
    refine ⟨some a, (List.range len).map T, cap, by rw [hlen], ⟨fun k hk => ?_⟩⟩
    rw [hlen] at hk
    have et : ((List.range len).map T)[k]'(by rw [hlen]; exact hk) = T k := by simp
    obtain ⟨p1, p2, p3⟩ := hT k hk
    rw [et]
    exact ⟨a.block, a.off, by rw [← p1], p2, p3⟩
set_option maxRecDepth 100000 in
/-- Units that are read. -/
theorem open_kindsX {H : Type} {enc : TypeId × Value → H} {W : World} {n : Nat} {c : Value} {x : DataW H × List MemPlace} (h : DataW.trod enc Tryd.prog W 0 (fun _ => true) true n 29 [c] = some x) :
    ∃ (a : Option Addr) (l : List Kd) (cap : Nat), c = .slice a l.length cap ∧ KA W W.heap.size a l := by
  rcases open_rows Tryd.underlying29 cellsKindX (by omega) h with rfl | ⟨a, len, cap, k, _, rfl, hx⟩
  · exact ⟨none, [], 0, rfl, ⟨fun k h => absurd h (Nat.not_lt_zero _)⟩⟩
  · obtain ⟨T, hT⟩ := Deep.choose_lt (n := len) (p := fun i (s : Kd) => a = ⟨a.block, a.off, none⟩ ∧ W.cell? ⟨a.block, a.off + i * 2, none⟩ = some (.string s.1) ∧ W.cell? ⟨a.block, a.off + i * 2 + 1, none⟩ = some (.int .i64 s.2)) (fun i hi => by
      obtain ⟨cs, y, h1, h2, h3, h4⟩ := hx i hi
      obtain ⟨xs, k2, _, _, _, hxl, hfs⟩ := DataW.trod_struct Tryd.underlying42 h4
      match cs, h1 with
      | [v0, v1], _ =>
        obtain ⟨y0, y1, rfl⟩ : ∃ y0 y1, xs = [y0, y1] := by
          match xs, hxl with
          | [y0, y1], _ => exact ⟨y0, y1, rfl⟩
        have f0 := hfs 0 _ rfl
        have f1 := hfs 1 _ rfl
        simp [cellsStrX] at f0
        simp [cellsIntX] at f1
        obtain ⟨m0, e0, _⟩ := DataW.trod_string Tryd.underlying9 f0
        obtain ⟨m1, e1, _⟩ := DataW.trod_int Tryd.underlying3 f1
        simp only [List.cons.injEq, and_true] at e0 e1
        subst e0 e1
        exact ⟨(m0, m1), h2, h3 0 (by omega), h3 1 (by omega)⟩)
    have hlen : ((List.range len).map T).length = len := by simp
    refine ⟨some a, (List.range len).map T, cap, by rw [hlen], ⟨fun k hk => ?_⟩⟩
    rw [hlen] at hk
    have et : ((List.range len).map T)[k]'(by rw [hlen]; exact hk) = T k := by simp
    obtain ⟨p1, p2, p3⟩ := hT k hk
    rw [et]
    exact ⟨a.block, a.off, by rw [← p1], lt_of_cellX p2, p2, p3⟩
instance : Inhabited (Ex × EV) := ⟨(.mk 0 false [] [] [], ⟨.nilIface, .nilIface, .nilIface, .nilIface, .nilIface⟩)⟩
set_option maxRecDepth 100000 in
/-- An expression that is read. -/
theorem open_expr {H : Type} {enc : TypeId × Value → H} {W : World} : ∀ (n : Nat) (cs : List Value) (x : DataW H × List MemPlace), DataW.trod enc Tryd.prog W 0 (fun _ => true) true n 28 cs = some x → ∃ t : Ex × EV, cs = evC t.2 ∧ ExIn W t.1 t.2 := by
  intro n
  induction n using Nat.strongRecOn with
  | _ n ih =>
    intro cs x h
    obtain ⟨xs, k, hk, _, hlen, hxl, hfs⟩ := DataW.trod_struct Tryd.underlying28 h
    rw [cellsExprX] at hlen
    match cs, hlen with
    | [v0, v1, v2, v3, v4], _ =>
      obtain ⟨y0, y1, y2, rfl⟩ : ∃ y0 y1 y2, xs = [y0, y1, y2] := by
        match xs, hxl with
        | [y0, y1, y2], _ => exact ⟨y0, y1, y2, rfl⟩
      have f0 := hfs 0 _ rfl
      have f1 := hfs 1 _ rfl
      have f2 := hfs 2 _ rfl
      simp [cellsIntX] at f0
      simp [cellsSetX] at f1
      simp [cellsExprsX] at f2
      obtain ⟨m0, e0, _⟩ := DataW.trod_int Tryd.underlying3 f0
      simp only [List.cons.injEq, and_true] at e0
      obtain ⟨zs, k1, _, _, _, hzl, hgs⟩ := DataW.trod_struct Tryd.underlying25 f1
      obtain ⟨z0, z1, z2, rfl⟩ : ∃ z0 z1 z2, zs = [z0, z1, z2] := by
        match zs, hzl with
        | [z0, z1, z2], _ => exact ⟨z0, z1, z2, rfl⟩
      have g0 := hgs 0 _ rfl
      have g1 := hgs 1 _ rfl
      have g2 := hgs 2 _ rfl
      simp [cellsBoolX] at g0
      simp [cellsStrsX] at g1
      simp [cellsRangesX] at g2
      obtain ⟨nt, e1, _⟩ := DataW.trod_bool Tryd.underlying4 g0
      simp only [List.cons.injEq, and_true] at e1
      obtain ⟨a, N, ca, rfl, hN⟩ := open_namesX g1
      obtain ⟨b, P, cb, rfl, hP⟩ := open_rangesX g2
      subst e0 e1
      rcases open_rows Tryd.underlying26 cellsExprX (by omega) f2 with rfl | ⟨c, len, cap, k2, hk2, rfl, hx⟩
      · exact ⟨(.mk m0 nt N P [], ⟨.int .i64 m0, .bool nt, .slice a N.length ca, .slice b P.length cb, .slice none 0 0⟩), rfl, .mk m0 nt N P [] a ca b cb none 0 (fun _ => ⟨.nilIface, .nilIface, .nilIface, .nilIface, .nilIface⟩) hN hP (fun i hi => absurd hi (Nat.not_lt_zero _)) (fun i hi => absurd hi (Nat.not_lt_zero _))⟩
      · obtain ⟨T, hT⟩ := Deep.choose_lt (n := len) (p := fun i (t : Ex × EV) => c = ⟨c.block, c.off, none⟩ ∧ Five W c.block (c.off + i * 5) t.2 ∧ ExIn W t.1 t.2) (fun i hi => by
          obtain ⟨cs, y, h1, h2, h3, h4⟩ := hx i hi
          obtain ⟨t, e, ht⟩ := ih k2 (by omega) cs y h4
          rw [e] at h3
          exact ⟨t, h2, ⟨h3 0 (by omega), h3 1 (by omega), h3 2 (by omega), h3 3 (by omega), h3 4 (by omega)⟩, ht⟩)
        have hlen2 : ((List.range len).map fun i => (T i).1).length = len := by simp
        refine ⟨(.mk m0 nt N P ((List.range len).map fun i => (T i).1), ⟨.int .i64 m0, .bool nt, .slice a N.length ca, .slice b P.length cb, .slice (some c) ((List.range len).map fun i => (T i).1).length cap⟩), by rw [hlen2]; rfl, .mk m0 nt N P _ a ca b cb (some c) cap (fun i => (T i).2) hN hP (fun i hi => ?_) (fun i hi => ?_)⟩
        · rw [hlen2] at hi
          obtain ⟨p1, p2, _⟩ := hT i hi
          exact ⟨c.block, c.off, by rw [← p1], p2⟩
        · have hi' : i < len := by rw [hlen2] at hi; exact hi
          have et : ((List.range len).map fun i => (T i).1)[i]'hi = (T i).1 := by simp
          rw [et]
          exact (hT i hi').2.2
end Go.Proofs.YtolnoojbcbdfiaaDoor
namespace Go.Proofs.YtolnoojbcbdfiaaDoor
open Go.ChangeShapes Go.WideShapes Go.ChangeAt Go.RowKit Go.Joins
theorem star : ("*" ++ "errors.errorString" : String) = "*errors.errorString" := by decide
theorem errRow (u : TypeId) (h : Tryd.prog.typeName? 3 u = some "*errors.errorString") : u = 136 :=
  typeName_ptr_named (nm := "errors.errorString") (by rw [star]; kernel_rfl) (by kernel_rfl) (by decide) u (by rw [star]; exact h)
theorem cellsErr : Tryd.prog.cellsOf 153 = 1 := by kernel_rfl
theorem cellsStr : Tryd.prog.cellsOf 9 = 1 := by kernel_rfl
theorem err_of {W : World} {n : String} {g : Nat} {text : List UInt8} {r : List (String × DataW Unit)} (h : laidMet Tryd.prog ((n, .iface "*errors.errorString" (.ptr (.agg [.lit (.string text)]))) :: r) W)
    (hg : Tryd.prog.globalNamed n = some g) (ht : (Tryd.prog.globals[g]?).map (·.type) = some 49) : ∃ a : Addr, W.cell? ⟨g, 0, none⟩ = some (.iface 136 (.pointer (some a))) := by
  obtain ⟨a, s, hv, _, _, _⟩ := laid_sentinel h hg ht Tryd.underlying49 errRow Tryd.underlying136 Tryd.underlying153 rfl rfl Tryd.underlying9 cellsErr cellsStr
  exact ⟨a, by simpa using World.var?_cell hg hv 0⟩
theorem laid_tail {P : Program} {w : World} {x : String × DataW Unit} {l : List (String × DataW Unit)} (h : laidMet P (x :: l) w) : laidMet P l w := by
  obtain ⟨ps, hl, hnd, hrows⟩ := h
  obtain ⟨g0, t0, cs0, f0, p0, q0, hg0, ht0, hv0, hd0, hl', rfl⟩ := hl
  exact ⟨q0, hl', (List.nodup_append.1 hnd).2.1, fun b off hb => hrows b off (List.mem_append_right _ hb)⟩
theorem cellsAskedX : Tryd.prog.cellsOf 45 = 6 := by kernel_rfl
set_option maxRecDepth 100000 in
theorem exprReverse_walk {H : Type} (enc : TypeId × Value → H) (W : World) (base : Nat) (hL : laidMetH Tryd.prog Rows.exprReverseRow.laid W) (v : Value) (d : DataW H) (p : List MemPlace) (hv : Value.okWide Tryd.prog W .any base 45 v)
    (h0 : DataW.Trod enc Tryd.prog W 0 (fun _ => true) true 45 v d p) (_hlt : ∀ x ∈ p, x.block < W.heap.size) (_hw : ∀ x ∈ d.weights Tryd.prog 45, x ≤ reachBytes) :
    Calls Tryd.prog 4 #[v] W fun e W' => e = .returned (.bool true) ∧ Below W.heap.size W W' := by
  obtain ⟨fuel, hf⟩ := h0
  have hcs : ∃ cs, v = .agg cs := by
    simp only [Value.okWide, Tryd.underlying45] at hv
    obtain ⟨cs, h1, _⟩ := hv
    exact ⟨cs, h1⟩
  obtain ⟨cs, rfl⟩ := hcs
  obtain ⟨xs, n, _, hx, hlen, hxl, hfs⟩ := DataW.trod_struct Tryd.underlying45 hf
  rw [cellsAskedX] at hlen
  obtain ⟨l⟩ := cs
  match l, hlen with
  | [c0, c1, c2, c3, c4, c5], _ =>
    obtain ⟨z0, z1, rfl⟩ : ∃ z0 z1, xs = [z0, z1] := by
      match xs, hxl with
      | [z0, z1], _ => exact ⟨z0, z1, rfl⟩
    have g0 := hfs 0 _ rfl
    have g1 := hfs 1 _ rfl
    simp [Value.cells, cellsExprX] at g0
    simp [Value.cells, cellsKindsX] at g1
    obtain ⟨⟨eA, xA⟩, q0, hA⟩ := open_expr _ _ _ g0
    obtain ⟨aw, lw, cw, rfl, hw⟩ := open_kindsX g1
    simp only [evC, List.cons.injEq, and_true] at q0
    obtain ⟨rfl, rfl, rfl, rfl, rfl⟩ := q0
    have hL0 : laidMet Tryd.prog Rows.exprReverseRow.laid W := hL
    have hL1 := laid_tail hL0
    have hL2 := laid_tail hL1
    have hL3 := laid_tail hL2
    obtain ⟨A1, h1⟩ := err_of hL1 (g := 1) (by kernel_rfl) (by kernel_rfl)
    obtain ⟨A0, h0⟩ := err_of hL2 (g := 0) (by kernel_rfl) (by kernel_rfl)
    obtain ⟨A2, h2⟩ := err_of hL3 (g := 2) (by kernel_rfl) (by kernel_rfl)
    exact exprReverse_any eA xA lw aw cw (fun i => match i with | 0 => A0 | 1 => A1 | _ => A2) W hA hw ⟨h0, h1, h2⟩
set_option maxRecDepth 100000 in
theorem exprReverse_lifted (os : Os) (started : os.Started) (H : Type) (enc : TypeId × Value → H) (F : Stop.Interp) :
    ReturnsInHanded {} Tryd.checked os 4 .any ((OpenSpec.ofChange Rows.exprReverseSpec).preRow enc Tryd.prog Tryd.f4 Rows.exprReverseRow.domain false Rows.exprReverseRow.laid) (((OpenSpec.ofChange Rows.exprReverseSpec).at F).post enc Tryd.prog Tryd.f4 false true false false) := by
  refine returnsInHanded_of_row (C := Tryd.checked) (s := OpenSpec.ofChange Rows.exprReverseSpec) own started (by kernel_rfl) Tryd.func4
    (witness_row_shaped (enc := enc) (C := Tryd.checked) (World.laidAll Tryd.prog os Rows.exprReverseRow.laid) #[.agg #[.int .i64 0, .bool false, .slice none 0 0, .slice none 0 0, .slice none 0 0, .slice none 0 0]] (World.laidAll_os _ _ _) (World.shaped_of_ZipB (by kernel_rfl) (by kernel_rfl)) (by kernel_rfl)
      (OpenSpec.preRow_of_cond 8 (x := ([.agg [.agg [.lit (.int .i64 0), .agg [.lit (.bool false), .nil, .nil], .nil], .nil]], [], [])) (by kernel_rfl) (by kernel_rfl) (fun k hk => by cases hk) (by kernel_rfl) (laidMet_laidAll _ (by kernel_rfl) (by kernel_rfl)))) ?_
  intro W base args ds gs before hval hW _ _ hsz hL _ _
  exact law_contract rfl rfl rfl (fun _ _ => rfl) (by kernel_rfl) (of_decide_eq_true (by kernel_rfl)) W base args ds gs before hval hW hsz (fun v d p hv h0 hlt hw _ _ => exprReverse_walk enc W base hL v d p hv h0 hlt hw )
theorem exprReverse_said : Rows.ExprReverseSaid :=
  OpenClaim.holds_of_cond 4 Tryd.f4 rfl rfl rfl rfl rfl rfl rfl ⟨rfl, rfl, rfl, rfl, rfl⟩ rfl rfl rfl rfl rfl (by kernel_rfl) Tryd.func4 (by kernel_rfl)
    (of_decide_eq_true (by kernel_rfl)) (by unfold Func.isWrapper; first | (rw [if_pos (by decide +kernel)]; kernel_rfl) | (rw [if_neg (by decide +kernel)]; exact ⟨rfl, rfl⟩))
    (fun os started H enc _ F => by rw [OpenClaim.pre_eq_preRow]; exact exprReverse_lifted os started H enc F)
theorem exprReverse_plain (f : FuncId) (fn : Func) (hf : Tryd.pinned.checked.prog.funcNamed "caesura/caesuralaw8.ExprReverse" = some f) (hfn : Tryd.pinned.checked.prog.funcs[f]? = some fn) :
    true = Tryd.pinned.checked.prog.looks [] ∧ ∀ (j : Nat) t, fn.params[j]? = some t → Tryd.pinned.checked.prog.wantsStandIn t = false := by
  obtain rfl : f = 4 := Option.some.inj ((show Tryd.prog.funcNamed "caesura/caesuralaw8.ExprReverse" = some 4 by kernel_rfl).symm.trans hf) |>.symm
  obtain rfl : fn = Tryd.f4 := (Option.some.inj (Tryd.func4.symm.trans hfn)).symm
  refine ⟨by kernel_rfl, fun j t ht => ?_⟩
  rw [Tryd.params4] at ht
  obtain rfl : t = 45 := by simpa using Array.mem_of_getElem? ht
  exact (show Tryd.prog.wantsStandIn 45 = false by kernel_rfl)
theorem exprReverse_card : Rows.ExprReverseCardSaid :=
  Claim7.holds_tied_plain_at .later [] _ _ _ _ exprReverse_said (fun _ h => by cases h) (by kernel_rfl) (fun _ h => by cases h) exprReverse_row_tie rfl ⟨rfl, rfl⟩ (by kernel_rfl) rfl exprReverse_plain (by kernel_rfl)
end Go.Proofs.YtolnoojbcbdfiaaDoor
