/-
  The walk of caesuralaw5's renewed.
-/
import Derived.Test.YtpimameogmkpcaaDoorPbR3W
import Derived.Test.YtpimameogmkpcaaDoorPbR6W
import Derived.Test.YtpimameogmkpcaaDoorPbR5W
import Derived.Test.YtpimameogmkpcaaDoorPbMmW
import Derived.Test.YtpimameogmkpcaaDoorSentW
namespace Go.Proofs.YtpimameogmkpcaaDoor
open Go.RowKit Go.Shelf
theorem nmF_few : ∀ (L seen : List ByteArray) (i : Nat), nmF seen L = some i → i = 0 ∨ i = 1 ∨ i = 4
  | [], _, i, h => by simp [nmF] at h
  | n :: r, seen, i, h => by
    rw [nmF] at h
    split at h
    · simp at h; omega
    · split at h
      · simp at h; omega
      · split at h
        · simp at h; omega
        · exact nmF_few r _ i h
theorem spF_few (N : Int) : ∀ (l : List Sp) (p : Option Int) (i : Nat), spF N p l = some i → i = 0 ∨ i = 6
  | [], _, i, h => by simp [spF] at h
  | s :: r, p, i, h => by
    rw [spF] at h
    split at h
    · simp at h; omega
    · split at h
      · simp at h; omega
      · exact spF_few N r _ i h
theorem propF_few' {L : List ByteArray} {ss : List Sp} {i : Nat} (h : propF L ss = some i) : i = 0 ∨ i = 1 ∨ i = 2 ∨ i = 4 ∨ i = 6 := by
  unfold propF at h
  split at h
  · simp at h; omega
  · cases hn : nmF [] L with
    | some e =>
      rw [hn] at h
      simp only [Option.some.injEq] at h
      have := nmF_few L [] e hn
      omega
    | none =>
      rw [hn] at h
      simp only at h
      split at h
      · simp at h; omega
      · have := spF_few _ _ _ _ h
        omega
theorem refNo_few {L : List ByteArray} {ss : List Sp} {i : Nat} (h : propF L ss = some i) : i < 11 ∧ refNo i = numO (some i) := by
  rcases propF_few' h with rfl | rfl | rfl | rfl | rfl <;> exact ⟨by decide, by decide⟩
theorem Sents.five {w : World} {A : Nat → Addr} (h : Sents w A) : Sent5 w A := ⟨h.c0, h.c1, h.c2, h.c4, h.c6⟩
theorem propF_rise {L : List ByteArray} {ss : List Sp} (h : propF L ss = none) : Rise L.length ss := by
  unfold propF at h
  split at h
  · cases h
  · cases hn : nmF [] L with
    | some e => rw [hn] at h; cases h
    | none =>
      rw [hn] at h
      simp only at h
      split at h
      · cases h
      · exact (rise_of ss none h).1
theorem refClass_tab (N : Int) (w : World) (lo U : Nat) (L : List ByteArray) (ss : List Sp) (vN vS : Value) (p : Int) (hs : ss.length ≤ 65536) (hR : Rise N ss) (hN : N ≤ 254) (h : RTab w lo U L ss vN vS) :
    Calls Tryd.prog 22 #[.pointer (some ⟨U, 0, none⟩), .int .i64 p] w fun e w' => e = .returned (.int .i64 (cls ss p)) ∧ w' = w := by
  obtain ⟨aS, cS, rfl, hpa, _, _⟩ := h.spans.pa
  exact refClass_any N w U ss aS cS p (by omega) hR hN (by rw [cell_of_row _ _ _ _ _ _ h.row]; rfl) hpa
set_option maxRecDepth 10000 in
set_option maxHeartbeats 1600000 in
theorem renewed_any (A : Nat → Addr) (L : List ByteArray) (ss : List Sp) (aN aS : Option Addr) (cN cS : Nat) (w : World) (hN : L.length ≤ cN) (hcN : L.length ≤ 1000000000) (hS : ss.length ≤ cS) (hcS : ss.length ≤ 1000000000) (hz : ∀ s ∈ L, s.size ≤ 1000000000000)
    (hnN : aN = none → cN = 0) (hnS : aS = none → cS = 0) (ha : SA w aN L) (hb : PA w aS ss) (hbs : ∀ p, aS = some p → p.block < w.heap.size) (he : Sents w A) :
    Calls Tryd.prog 20 #[.agg #[.slice aN L.length cN, .slice aS ss.length cS]] w fun e w' => e = .returned (.bool true) ∧ Below w.heap.size w w' := by
  obtain ⟨w0, hw0⟩ : ∃ w0, w0 = w.alloc (.cells #[.slice aN L.length cN, .slice aS ss.length cS] 25) := ⟨_, rfl⟩
  have hB0 : Below w.heap.size w w0 := by rw [hw0]; exact (Below.refl _ _).alloc (Nat.le_refl _) _
  have hX0 : w0.heap[w.heap.size]? = some (.cells #[.slice aN L.length cN, .slice aS ss.length cS] 25 (0, 0)) := by rw [hw0]; exact heap_alloc_new w _
  have hs0 : w0.heap.size = w.heap.size + 1 := by rw [hw0]; simp
  have HRN := hid0 (refNew_any L ss aN aS cN cS w0 hcN hcS hz hnN hnS (ha.below hB0) (hb.below hB0))
  have HXW : Hid (∀ W, Below w0.heap.size w0 W → W.cell? ⟨w.heap.size, 0, none⟩ = some (.slice aN L.length cN) ∧ W.cell? ⟨w.heap.size, 1, none⟩ = some (.slice aS ss.length cS)) := hid0 (fun W hW => by
    have hr := (hW.block w.heap.size (by omega)).trans hX0
    exact ⟨by rw [cell_of_row _ _ _ _ _ _ hr]; rfl, by rw [cell_of_row _ _ _ _ _ _ hr]; rfl⟩)
  have HE := hid0 (he.below hB0)
  have HNW : Hid (∀ W, Below w0.heap.size w0 W → Calls Tryd.prog 7 #[.agg #[.slice aN L.length cN, .slice aS ss.length cS]] W fun e w' => Newed A L ss W e w') := hid0 (fun W hW => new_any A L ss aN aS cN cS W hN hcN hS hcS hz ((ha.below hB0).below hW) ((hb.below hB0).below hW) (fun p hp => Nat.lt_of_lt_of_le (Nat.lt_of_lt_of_le (hbs p hp) hB0.size) hW.size) (he.five.later (Below.later hB0 hW)))
  obtain ⟨y0, y1⟩ := HXW.out w0 (Below.refl _ _)
  have HB0 := hid0 hB0
  have hfold := hw0.symm
  clear ha hb hbs he hB0 hw0 hX0 hs0 hz hnN hnS
  have mk : Hid True := trivial
  cases hpf : propF L ss with
  | some i =>
    obtain ⟨hi11, hrefn⟩ := refNo_few hpf
    have HR2 : Hid (Calls Tryd.prog 18 #[.agg #[.slice aN L.length cN, .slice aS ss.length cS]] w0 fun e w' => e = .returned (.tuple #[.pointer none, .int .i64 (refNo i)]) ∧ Below w0.heap.size w0 w') := hid0 (HRN.out.mono (fun e w' h => by
      rcases h with ⟨j, h1, h2, h3⟩ | ⟨h1, _⟩
      · rw [hpf] at h1; cases h1; exact ⟨by rw [h2, hrefn], h3⟩
      · rw [hpf] at h1; cases h1))
    have HN2 : Hid (∀ W, Below w0.heap.size w0 W → Calls Tryd.prog 7 #[.agg #[.slice aN L.length cN, .slice aS ss.length cS]] W fun e w' => e = .returned (.tuple #[.pointer none, .iface 96 (.pointer (some (A i)))]) ∧ Below w0.heap.size w0 w') := hid0 (fun W hW => (HNW.out W hW).mono (fun e w' h => by
      rcases h with ⟨j, h1, h2, h3⟩ | ⟨h1, _⟩
      · rw [hpf] at h1; cases h1; exact ⟨h2, Below.later hW h3⟩
      · rw [hpf] at h1; cases h1))
    have HNU : Hid (∀ W, Below w0.heap.size w0 W → Calls Tryd.prog 21 #[.iface 96 (.pointer (some (A i)))] W fun e w' => e = .returned (.int .i64 (refNo i)) ∧ w' = W) := hid0 (fun W hW => kitNum_at W A (HE.out.below hW) i hi11)
    clear hpf HNW HRN hrefn hi11
    generalize refNo i = q at *
    go_enter Tryd.func20, Tryd.ntmps20
    go_wp2_with (first
      | (clear mk; go_at_call 18; refine HR2.out.mono ?_; rintro e w1 ⟨rfl, hb1⟩; obtain ⟨y0, y1⟩ := HXW.out _ hb1; have HB1 := hid0 hb1; clear hb1 HR2)
      | (go_at_call 7; refine (HN2.out _ HB1.out).mono ?_; rintro e w2 ⟨rfl, hb2⟩; have HB2 := hid0 hb2; clear hb2)
      | (go_at_call 21; refine (HNU.out _ HB2.out).mono ?_; rintro e w3 ⟨rfl, rfl⟩))
    go_ret
    exact ⟨rfl, Below.later HB0.out HB2.out⟩
  | none =>
    have hfew := propF_few hpf
    have HR := hid0 (propF_rise hpf)
    have HR2 : Hid (Calls Tryd.prog 18 #[.agg #[.slice aN L.length cN, .slice aS ss.length cS]] w0 fun e w' => ∃ U vN vS, e = .returned (.tuple #[.pointer (some ⟨U, 0, none⟩), .int .i64 0]) ∧ RTab w' w0.heap.size U L ss vN vS ∧ Below w0.heap.size w0 w') := hid0 (HRN.out.mono (fun e w' h => by
      rcases h with ⟨j, h1, _⟩ | ⟨_, U, vN, vS, h2, h3, h4⟩
      · rw [hpf] at h1; cases h1
      · exact ⟨U, vN, vS, h2, h3, h4⟩))
    have HN2 : Hid (∀ W, Below w0.heap.size w0 W → Calls Tryd.prog 7 #[.agg #[.slice aN L.length cN, .slice aS ss.length cS]] W fun e w' => ∃ T c vN vB, e = .returned (.tuple #[.pointer (some ⟨T, 0, none⟩), .nilIface]) ∧ TabAt w' W.heap.size T (otherB :: L) ss c vN vB ∧ Below W.heap.size W w') := hid0 (fun W hW => (HNW.out W hW).mono (fun e w' h => by
      rcases h with ⟨j, h1, _⟩ | ⟨_, T, c, vN, vB, h2, h3, h4⟩
      · rw [hpf] at h1; cases h1
      · exact ⟨T, c, vN, vB, h2, h3, h4⟩))
    clear hpf HNW HRN
    go_enter Tryd.func20, Tryd.ntmps20
    go_wp2_with (first
      | (clear mk; go_at_call 18; refine HR2.out.mono ?_; rintro e w1 ⟨U, vM, vS, rfl, hu, hb1⟩; obtain ⟨y0, y1⟩ := HXW.out _ hb1; have HB1 := hid0 hb1; have HU1 := hid0 hu; clear hb1 HR2 hu)
      | (go_at_call 7; refine (HN2.out _ HB1.out).mono ?_; rintro e w2 ⟨T, c, vN, vB, rfl, ht, hb2⟩; have HT2 := hid0 ht; have HU2 := hid0 (HU1.out.below hb2); have HB2 := hid0 (Below.later HB1.out hb2); clear hb2 ht)
      | (go_at_call 21; refine (kitNum_nil _).mono ?_; rintro e w3 ⟨rfl, rfl⟩)
      | (go_at_call 8; refine (names_any _ _ T (otherB :: L) ss c vN vB (by simp) (by simp; omega) HT2.out).mono ?_; rintro e w4 ⟨vn, rfl, h1, h2⟩; have HO4 := hid0 h1; have HB24 := hid0 h2; have HB4 := hid0 (Below.later HB2.out h2); have HU4 := hid0 (HU2.out.below h2); have HT4 := hid0 (HT2.out.below h2); clear h1 h2)
      | (go_at_call 23; refine (refTabNames_any w4 _ U L ss vM vS (by omega) HU4.out).mono ?_; rintro e w5 ⟨vm, rfl, h1, h2⟩; obtain ⟨an, cn, rfl, sn, hjk1⟩ := (HO4.out.later h2).sa; obtain ⟨am, cm, rfl, sm, hjk2⟩ := h1.sa; have HSM := hid0 (sameS (otherB :: L) an am cn cm w5 (by simp; omega) sn sm); have HB5 := hid0 (Below.later HB4.out h2); have HU5 := hid0 (HU4.out.below h2); have HT5 := hid0 (HT4.out.below h2); clear h1 h2 hjk1 hjk2 sn sm)
      | (go_at_call 15; refine HSM.out.mono ?_; rintro e w6 ⟨rfl, nd, hw6⟩; have h6 : Below w5.heap.size w5 w6 := by { rw [hw6]; exact ⟨rfl, rfl, rfl, Nat.le_refl _, fun _ _ => rfl⟩ }; have HB6 := hid0 (Below.later HB5.out h6); have HU6 := hid0 (HU5.out.below h6); have HT6 := hid0 (HT5.out.below h6); clear h6 hw6; have M1 : Hid True := trivial)
      | (go_at_call 10; clear M1; refine (class_any L.length w6 _ T _ ss c vN vB 5 HR.out (by omega) (by omega) HT6.out).mono ?_; rintro e w7 ⟨rfl, h7⟩; have HB7 := hid0 (Below.later HB6.out h7); have HU7 := hid0 (HU6.out.below h7); have HT7 := hid0 (HT6.out.below h7); have M2 : Hid True := trivial; clear h7)
      | (go_at_call 22; clear M2; refine (refClass_tab L.length _ _ U L ss vM vS 5 (by omega) HR.out (by omega) HU7.out).mono ?_; rintro e w8 ⟨rfl, rfl⟩; have M3 : Hid True := trivial)
      | (go_at_call 10; clear M3; refine (class_any L.length _ _ T _ ss c vN vB 10 HR.out (by omega) (by omega) HT7.out).mono ?_; rintro e w9 ⟨rfl, h9⟩; have HB9 := hid0 (Below.later HB7.out h9); have HU9 := hid0 (HU7.out.below h9); have M4 : Hid True := trivial; clear h9)
      | (go_at_call 22; clear M4; refine (refClass_tab L.length _ _ U L ss vM vS 10 (by omega) HR.out (by omega) HU9.out).mono ?_; rintro e w10 ⟨rfl, rfl⟩))
    go_ret
    exact ⟨rfl, Below.later HB0.out HB9.out⟩
end Go.Proofs.YtpimameogmkpcaaDoor
