/-
  The walks of the document's section, parent, stands.
-/
import Derived.Test.YtbdjnmbhphflbaaGreatDoorLcCW
namespace Go.Proofs.YtbdjnmbhphflbaaGreatDoor
open Go.RowKit Go.Shelf Go.Lib
set_option maxRecDepth 10000 in
set_option maxHeartbeats 800000 in
theorem refSection_any (L : List Sec) (a : Option Addr) (c : Nat) (t : ByteArray) (w : World) (hl : L.length ≤ 1000000) (ha : XA w a L) :
    Calls Tryz.prog 43 #[.agg #[.slice a L.length c], .string t] w fun e w' => (∃ r : Int, e = .returned (.int .i64 r) ∧ IdxIs L t r) ∧ Below w.heap.size w w' := by
  obtain ⟨wa, hwa⟩ : ∃ wa, wa = w.alloc (.cells #[.slice a L.length c] 24) := ⟨_, rfl⟩
  have b0a : Below w.heap.size w wa := by rw [hwa]; exact (Below.refl _ _).alloc (Nat.le_refl _) _
  have r0 : wa.heap[w.heap.size]? = some (.cells #[.slice a L.length c] 24 (0, 0)) := by rw [hwa]; exact heap_alloc_new w _
  have x0 : wa.cell? ⟨w.heap.size, 0, none⟩ = some (.slice a L.length c) := by rw [cell_of_row _ _ _ _ _ _ r0]; rfl
  have HA := hid0 (ha.later b0a)
  have HB := hid0 b0a
  have hf1 := hwa.symm
  clear ha hwa b0a r0
  go_enter Tryz.func43, Tryz.ntmps43
  go_wp2
  go_loop [5] (fun v => ∃ k : Nat, k ≤ L.length ∧ v = .int .i64 (k : Int) ∧ Hid (∀ j (h : j < L.length), j < k → L[j].loc ≠ t)) (fun v => L.length - (intOf v).toNat)
  case atStart => exact ⟨0, Nat.zero_le _, rfl, hid0 (fun j _ h => absurd h (Nat.not_lt_zero _))⟩
  case round =>
    obtain ⟨k, hk, rfl, HK⟩ := hrel
    by_cases hlt : k < L.length
    · have hkI : (k : Int) < (L.length : Int) := by omega
      have hk0 : (0 : Int) ≤ (k : Int) := by omega
      obtain ⟨b, off, ae, ce, rfl, hbl, c0, c1, c2, _⟩ := HA.out.at' k hlt
      have hse := str_eq L[k].loc t
      by_cases e : L[k].loc = t
      · have HV : Hid (IdxIs L t (k : Int)) := hid0 (.inl ⟨k, hlt, rfl, e, HK.out⟩)
        rw [decide_eq_true e] at hse
        clear HK e
        generalize L[k].loc = m at *
        go_wp2
        go_ret
        exact ⟨⟨_, rfl, HV.out⟩, HB.out⟩
      · have HK2 : Hid (∀ j (h : j < L.length), j < k + 1 → L[j].loc ≠ t) := hid0 (fun j h hj => by
          by_cases q : j = k
          · subst q; exact e
          · exact HK.out j h (by omega))
        rw [decide_eq_false e] at hse
        clear HK e
        generalize L[k].loc = m at *
        go_wp2
        go_round
        case rel => exact ⟨k + 1, by omega, by go_num, HK2⟩
        case measure => simp [intOf]; omega
    · have hkI : ¬ (k : Int) < (L.length : Int) := by omega
      have HV : Hid (IdxIs L t (-1)) := hid0 (.inr ⟨rfl, fun j h => HK.out j h (by omega)⟩)
      clear HK
      go_wp2
      go_ret
      exact ⟨⟨-1, rfl, HV.out⟩, HB.out⟩
set_option maxRecDepth 10000 in
set_option maxHeartbeats 800000 in
theorem refParent_any (L : List Sec) (a : Option Addr) (c : Nat) (t : ByteArray) (w : World) (hl : L.length ≤ 1000000) (hs : t.size ≤ 1000000) (ha : XA w a L) :
    Calls Tryz.prog 40 #[.agg #[.slice a L.length c], .string t] w fun e w' => e = .returned (.string (parL L t)) ∧ Below w.heap.size w w' := by
  obtain ⟨wa, hwa⟩ : ∃ wa, wa = w.alloc (.cells #[.slice a L.length c] 24) := ⟨_, rfl⟩
  have b0a : Below w.heap.size w wa := by rw [hwa]; exact (Below.refl _ _).alloc (Nat.le_refl _) _
  have r0 : wa.heap[w.heap.size]? = some (.cells #[.slice a L.length c] 24 (0, 0)) := by rw [hwa]; exact heap_alloc_new w _
  have x0 : wa.cell? ⟨w.heap.size, 0, none⟩ = some (.slice a L.length c) := by rw [cell_of_row _ _ _ _ _ _ r0]; rfl
  obtain ⟨r, hr⟩ := idx_ex L t
  have HS : Hid (Calls Tryz.prog 43 #[.agg #[.slice a L.length c], .string t] wa fun e w' => e = .returned (.int .i64 r) ∧ Below wa.heap.size wa w') := hid0 ((refSection_any L a c t wa hl (ha.later b0a)).mono (fun e w' h => by
    obtain ⟨⟨r', h1, h2⟩, h3⟩ := h
    exact ⟨by rw [h1, idx_uniq h2 hr], h3⟩))
  have HX : Hid (∀ W, Below wa.heap.size wa W → W.cell? ⟨w.heap.size, 0, none⟩ = some (.slice a L.length c) ∧ XA W a L) := hid0 (fun W hW => by
    have q0 := (hW.block _ (Array.getElem?_eq_some_iff.1 r0).1).trans r0
    exact ⟨by rw [cell_of_row _ _ _ _ _ _ q0]; rfl, (ha.later b0a).later hW⟩)
  have HC := hid0 (fun W => refCut_any t hs W)
  have HB := hid0 b0a
  have hf1 := hwa.symm
  clear hwa b0a r0 hs
  obtain ⟨R, hR⟩ : ∃ R, R = parL L t := ⟨_, rfl⟩
  rw [← hR]
  unfold parL at hR
  rcases hr with ⟨k, hk, rfl, e, hn⟩ | ⟨rfl, hn⟩
  · rw [secOf_at hk e hn] at hR
    simp only at hR
    have hk0 : (0 : Int) ≤ (k : Int) := by omega
    have hkI : (k : Int) < (L.length : Int) := by omega
    obtain ⟨b, off, ae, ce, rfl, hbl, _, _, _, _⟩ := ha.at' k hk
    have HXC : Hid (∀ W, Below wa.heap.size wa W → W.cell? ⟨b, off + k * 3 + 1, none⟩ = some (.string L[k].par)) := hid0 (fun W hW => by
      obtain ⟨b', off', _, _, e0, _, _, q1, _⟩ := (HX.out W hW).2.at' k hk
      simp only [Option.some.injEq, Addr.mk.injEq, and_true] at e0
      obtain ⟨rfl, rfl⟩ := e0
      exact q1)
    clear ha hn e
    generalize L[k].par = p at *
    cases hp : (p.toList == []) with
    | true =>
      rw [hp] at hR
      simp only [if_true] at hR
      have HR := hid0 hR
      clear hR
      go_enter Tryz.func40, Tryz.ntmps40
      go_wp2_with (first
        | (go_at_call 43; refine HS.out.mono ?_; rintro e w1 ⟨rfl, hb1⟩; have HB1 := hid0 (Below.later HB.out hb1); have y0 := (HX.out w1 hb1).1; have y1 := HXC.out w1 hb1; clear hb1)
        | (go_at_call 65; refine (HC.out _).mono ?_; rintro e w2 ⟨rfl, rfl⟩)
        | fail)
      go_ret
      exact ⟨by rw [HR.out]; rfl, HB1.out⟩
    | false =>
      rw [hp] at hR
      simp only [Bool.false_eq_true, if_false] at hR
      have HR := hid0 hR
      clear hR
      go_enter Tryz.func40, Tryz.ntmps40
      go_wp2_with (first
        | (go_at_call 43; refine HS.out.mono ?_; rintro e w1 ⟨rfl, hb1⟩; have HB1 := hid0 (Below.later HB.out hb1); have y0 := (HX.out w1 hb1).1; have y1 := HXC.out w1 hb1; clear hb1)
        | fail)
      go_ret
      exact ⟨by rw [HR.out]; rfl, HB1.out⟩
  · rw [secOf_none hn] at hR
    simp only at hR
    have HR := hid0 hR
    clear hR ha hn
    go_enter Tryz.func40, Tryz.ntmps40
    go_wp2_with (first
      | (go_at_call 43; refine HS.out.mono ?_; rintro e w1 ⟨rfl, hb1⟩; have HB1 := hid0 (Below.later HB.out hb1); have y0 := (HX.out w1 hb1).1; clear hb1)
      | (go_at_call 65; refine (HC.out _).mono ?_; rintro e w2 ⟨rfl, rfl⟩)
      | fail)
    go_ret
    exact ⟨by rw [HR.out]; rfl, HB1.out⟩
theorem stands_hit (L : List ByteArray) (x : ByteArray) (k : Nat) (h : k < L.length) (e : L[k] = x) : Lib.containsS L x = true := by
  have h0 : ¬ Lib.idxOfS L x < 0 := by
    have key : ∀ (L : List ByteArray) (i k : Nat) (h : k < L.length), L[k] = x → ¬ Lib.idxFromS L x i < 0 := by
      intro L
      induction L with
      | nil => intro i k h; simp at h
      | cons z zs ih =>
        intro i k h e
        rw [Lib.idxFromS]
        by_cases q : z = x
        · rw [if_pos q]; omega
        · rw [if_neg q]
          cases k with
          | zero => exact absurd e q
          | succ k => exact ih (i + 1) k (by simpa using h) (by simpa using e)
    exact key L 0 k h e
  show decide (0 ≤ Lib.idxOfS L x) = true
  exact decide_eq_true (by omega)
theorem stands_miss (L : List ByteArray) (x : ByteArray) (h : ∀ k (h : k < L.length), L[k] ≠ x) : Lib.containsS L x = false := by
  have h0 : Lib.idxOfS L x = -1 := Lib.idxFromS_miss x L 0 (fun j hj => by
    have := h j hj
    simpa [List.getD, hj] using this)
  show decide (0 ≤ Lib.idxOfS L x) = false
  rw [h0]; rfl
set_option maxRecDepth 10000 in
set_option maxHeartbeats 800000 in
theorem stands_any (L : List ByteArray) (a : Option Addr) (cap : Nat) (x : ByteArray) (w : World) (hl : L.length ≤ 1000000) (ha : SA w a L) :
    Calls Tryz.prog 41 #[.slice a L.length cap, .string x] w fun e w' => e = .returned (.bool (Lib.containsS L x)) ∧ w' = w := by
  have HS := hid0 ha
  have HH := hid0 (stands_hit L x)
  have HM := hid0 (stands_miss L x)
  clear ha
  generalize Lib.containsS L x = q at *
  go_enter Tryz.func41, Tryz.ntmps41
  go_wp2
  go_loop [5] (fun v => ∃ k : Nat, k ≤ L.length ∧ v = .int .i64 (k : Int) ∧ Hid (∀ j (h : j < L.length), j < k → L[j] ≠ x)) (fun v => L.length - (intOf v).toNat)
  case atStart => exact ⟨0, Nat.zero_le _, rfl, hid0 (fun j _ h => absurd h (Nat.not_lt_zero _))⟩
  case round =>
    obtain ⟨k, hk, rfl, HK⟩ := hrel
    by_cases hlt : k < L.length
    · have hkI : (k : Int) < (L.length : Int) := by omega
      have hk0 : (0 : Int) ≤ (k : Int) := by omega
      obtain ⟨b, off, rfl, _, hc⟩ := HS.out.at' k hlt
      have hse := str_eq L[k] x
      by_cases e : L[k] = x
      · have HV : Hid (q = true) := hid0 (HH.out k hlt e)
        rw [decide_eq_true e] at hse
        clear HK e HH HM
        generalize L[k] = m at *
        go_wp2
        go_ret
        exact ⟨by rw [HV.out]; rfl, rfl⟩
      · have HK2 : Hid (∀ j (h : j < L.length), j < k + 1 → L[j] ≠ x) := hid0 (fun j h hj => by
          by_cases q : j = k
          · subst q; exact e
          · exact HK.out j h (by omega))
        rw [decide_eq_false e] at hse
        clear HK e
        generalize L[k] = m at *
        go_wp2
        go_round
        case rel => exact ⟨k + 1, by omega, by go_num, HK2⟩
        case measure => simp [intOf]; omega
    · have hkI : ¬ (k : Int) < (L.length : Int) := by omega
      have HV : Hid (q = false) := hid0 (HM.out (fun j h => HK.out j h (by omega)))
      clear HK HH HM
      go_wp2
      go_ret
      exact ⟨by rw [HV.out]; rfl, rfl⟩
end Go.Proofs.YtbdjnmbhphflbaaGreatDoor
