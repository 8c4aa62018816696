/-
  The walk of the document's Chain.
-/
import Derived.Test.YtbdjnmbhphflbaaGreatDoorLcDW
namespace Go.Proofs.YtbdjnmbhphflbaaGreatDoor
open Go.RowKit Go.Shelf Go.Lib
def RefChain (base : Nat) (w' : World) (r : CR) (e : Ending) : Prop := match r with
  | .ok l => ∃ v, e = .returned (.tuple #[v, .int .i64 0]) ∧ OwnS w' base v l
  | .bad i => e = .returned (.tuple #[.slice none 0 0, .int .i64 (refNo i)])
theorem firstN_some (f : Nat → Option Nat) (x : Nat) : ∀ (m i : Nat), firstN f i m = some x → ∃ j, f j = some x
  | 0, _, h => by simp [firstN] at h
  | m + 1, i, h => by
    rw [firstN] at h
    cases hx : f i with
    | some y => rw [hx] at h; exact ⟨i, by rw [hx]; exact h⟩
    | none => rw [hx] at h; exact firstN_some f x m (i + 1) h
theorem chkE_lt {L : List Sec} {i : Nat} (h : chkE entE L = some i) : i < 11 := by
  unfold chkE at h
  split at h
  · cases h; decide
  · obtain ⟨j, hj⟩ := firstN_some _ _ _ _ h
    unfold fSec at hj
    split at hj
    · rw [secE_eq] at hj
      split at hj
      · rename_i hp
        cases hj
        exact secP_lt hp
      · obtain ⟨k, hk⟩ := firstN_some _ _ _ _ hj
        unfold fE at hk
        split at hk
        · exact entF_lt hk
        · cases hk
    · cases hj
set_option maxRecDepth 10000 in
set_option maxHeartbeats 3200000 in
theorem refChain_any (L : List Sec) (a : Option Addr) (c : Nat) (t : ByteArray) (w : World) (hl : L.length ≤ 1000000) (hb : ∀ s ∈ L, s.ed.length ≤ 1000000000) (hz : ∀ s ∈ L, ∀ e ∈ s.ed, e.2.size ≤ 4194400) (ha : XA w a L) :
    Calls Tryz.prog 22 #[.agg #[.slice a L.length c], .string t] w fun e w' => RefChain w.heap.size w' (chainF L t) e ∧ Below w.heap.size w w' := by
  obtain ⟨w0, hw0⟩ : ∃ w0, w0 = w.alloc (.cells #[.slice a L.length c] 24) := ⟨_, rfl⟩
  have hB0 : Below w.heap.size w w0 := by rw [hw0]; exact (Below.refl _ _).alloc (Nat.le_refl _) _
  have hX0 : w0.heap[w.heap.size]? = some (.cells #[.slice a L.length c] 24 (0, 0)) := by rw [hw0]; exact heap_alloc_new w _
  have hs0 : w0.heap.size = w.heap.size + 1 := by rw [hw0]; simp
  have HXW : Hid (∀ W, Below w0.heap.size w0 W → W.cell? ⟨w.heap.size, 0, none⟩ = some (.slice a L.length c)) := hid0 (fun W hW => by
    have hr := (hW.block w.heap.size (by omega)).trans hX0
    rw [cell_of_row _ _ _ _ _ _ hr]; rfl)
  have HCk := hid0 (refCheck_any L a c w0 hl hb hz (ha.later hB0))
  have HCa := hid0 (fun W => refCanon_any t W)
  have HPo : Hid (∀ x W, Gd x → Below w0.heap.size w0 W → Calls Tryz.prog 40 #[.agg #[.slice a L.length c], .string x] W fun e w' => e = .returned (.string (parL L x)) ∧ Below W.heap.size W w') := hid0 (fun x W hx hW => refParent_any L a c x W hl (by have := hx.size; omega) ((ha.later hB0).later hW))
  have HB0 := hid0 hB0
  have x0 := HXW.out w0 (Below.refl _ _)
  have hfold := hw0.symm
  have hsz : w.heap.size ≤ w0.heap.size := by omega
  clear hw0 hB0 hX0 hs0 ha hb hz
  obtain ⟨R, hR⟩ : ∃ R, R = chainF L t := ⟨_, rfl⟩
  rw [← hR]
  unfold chainF at hR
  cases hk : chkE entE L with
  | some i =>
    have hne := refNo_ne i (chkE_lt hk)
    rw [hk] at hR HCk
    simp only [numO] at hR HCk
    subst hR
    clear hk HPo HCa
    show Calls _ _ _ _ fun e w' => e = .returned (.tuple #[.slice none 0 0, .int .i64 (refNo i)]) ∧ Below w.heap.size w w'
    generalize refNo i = ri at *
    go_enter Tryz.func22, Tryz.ntmps22
    go_wp2_with (first
      | (go_at_call 38; refine HCk.out.mono ?_; rintro e w1 ⟨rfl, hb1⟩; have HB1 := hid0 (Below.later HB0.out hb1); clear hb1)
      | fail)
    go_returns
    exact ⟨rfl, HB1.out⟩
  | none =>
    have HG := hid0 (fun (x : ByteArray) (hx : Gd x) => gd_par hk hx)
    rw [hk] at hR HCk
    simp only [numO] at hR HCk
    clear hk
    cases hq : tagF t.data.toList with
    | none =>
      rw [hq] at hR HCa
      simp only [canV] at hR HCa
      subst hR
      clear hq HPo HG
      go_enter Tryz.func22, Tryz.ntmps22
      go_wp2_with (first
        | (go_at_call 38; refine HCk.out.mono ?_; rintro e w1 ⟨rfl, hb1⟩; have HB1 := hid0 hb1; clear hb1)
        | (go_at_call 39; refine (HCa.out _).mono ?_; rintro e w2 ⟨rfl, hb2⟩; have HB2 := hid0 (Below.later HB0.out (Below.later HB1.out hb2)); clear hb2)
        | fail)
      go_returns
      exact ⟨rfl, HB2.out⟩
    | some x =>
      rw [hq] at hR HCa
      simp only [canV] at hR HCa
      have HGx := hid0 (gd_tag hq)
      have HR := hid0 hR
      obtain ⟨i0, hi, hz0, hz1, hz2⟩ := info_parts infoStr
      clear hq hR
      generalize strOf x = X at *
      go_enter Tryz.func22, Tryz.ntmps22
      go_wp2_with (first
        | (go_at_call 38; refine HCk.out.mono ?_; rintro e w1 ⟨rfl, hb1⟩; have HB1 := hid0 hb1; clear hb1)
        | (go_at_call 39; refine (HCa.out _).mono ?_; rintro e w2 ⟨rfl, hb2⟩; have HB2 := hid0 (Below.later HB1.out hb2); clear hb2)
        | fail)
      have HO0 : Hid (OwnS (w2.alloc (.cells #[.string X] 9)) w0.heap.size (.slice (some ⟨w2.heap.size, 0, none⟩) 1 1) [X]) := hid0 (by
        have h0 := World.ownsRow_lit (base := w0.heap.size) (e := 9) (size := 1) w2 #[.string X] 1 HB2.out.size (by unfold maxLen; omega) rfl
        simpa [OwnS, cellsS] using h0)
      have HB3 := hid0 (HB2.out.alloc HB2.out.size (.cells #[.string X] 9))
      go_loopw [7, 9, 10] (fun t7 v t10 wr => ∃ (f m : Nat) (ch : List ByteArray) (y : ByteArray), t7 = .string y ∧ t10 = .int .i64 (m : Int) ∧ ch.length = m + 1 ∧ ch.length + f = 18 ∧ m ≤ 15 ∧ Hid (R = chainGo L f ch y) ∧ Hid (Gd y) ∧ Hid (OwnS wr w0.heap.size v ch) ∧ Hid (Below w0.heap.size w0 wr)) (fun _ v _ _ => 17 - lenOf v)
      case atStart => exact ⟨17, 0, [X], X, rfl, rfl, rfl, rfl, by omega, HR, HGx, HO0, HB3⟩
      case round =>
        clear HO0 HB3 HB1 HB2 HR HGx HCk HCa
        obtain ⟨f, m, ch, y, rfl, rfl, hcm, hf, h15, HRr, HGy, HO, HB⟩ := hrel
        obtain ⟨av, cap, rfl, hsa, _⟩ := HO.out.sa
        obtain ⟨f, rfl⟩ : ∃ g, f = g + 1 := ⟨f - 1, by omega⟩
        have z0 := HXW.out wr HB.out
        have hstep := HRr.out
        rw [chainGo] at hstep
        have hm16 : (m : Int) ≤ 16 := by omega
        clear HRr
        cases hy : (y.toList == [114, 111, 111, 116]) with
        | true =>
          rw [hy, if_pos rfl] at hstep
          have HV := hid0 hstep
          clear hstep hcm
          go_wp2
          go_returns
          refine ⟨?_, Below.later HB0.out HB.out⟩
          rw [HV.out]
          exact ⟨_, rfl, HO.out.base' hsz⟩
        | false =>
          rw [hy, if_neg (by simp)] at hstep
          have HPx := hid0 (fun W hW => HPo.out y W HGy.out hW)
          have HGn := hid0 (HG.out y HGy.out)
          generalize parL L y = nx at *
          have HCo := hid0 (fun W (hW : Below wr.heap.size wr W) => stands_any ch av cap nx W (by omega) (hsa.below hW))
          clear hsa
          cases hcn : Lib.containsS ch nx with
          | true =>
            rw [hcn, if_pos rfl] at hstep
            rw [hcn] at HCo
            have HV := hid0 hstep
            clear hstep hcn hcm
            go_wp2_with (first
              | (go_at_call 40; refine (HPx.out _ HB.out).mono ?_; rintro e w3 ⟨rfl, hb3⟩; have HW3 := hid0 hb3; have HB3 := hid0 (Below.later HB.out hb3); clear hb3)
              | (go_at_call 41; refine (HCo.out _ HW3.out).mono ?_; rintro e w4 ⟨rfl, hw4⟩; have hw5 := hw4.symm; subst hw5)
              | fail)
            go_returns
            exact ⟨by rw [HV.out]; rfl, Below.later HB0.out HB3.out⟩
          | false =>
            rw [hcn, if_neg (by simp)] at hstep
            rw [hcn] at HCo
            by_cases h6 : ch.length = 16
            · rw [if_pos h6] at hstep
              have h6I : (16 : Int) ≤ (ch.length : Int) := by omega
              have HV := hid0 hstep
              clear hstep hcn h6 hcm
              go_wp2_with (first
                | (go_at_call 40; refine (HPx.out _ HB.out).mono ?_; rintro e w3 ⟨rfl, hb3⟩; have HW3 := hid0 hb3; have HB3 := hid0 (Below.later HB.out hb3); clear hb3)
                | (go_at_call 41; refine (HCo.out _ HW3.out).mono ?_; rintro e w4 ⟨rfl, hw4⟩; have hw5 := hw4.symm; subst hw5)
                | fail)
              go_returns
              exact ⟨by rw [HV.out]; rfl, Below.later HB0.out HB3.out⟩
            · rw [if_neg h6] at hstep
              have h6I : ¬ (16 : Int) ≤ (ch.length : Int) := by omega
              have HV := hid0 hstep
              have HOW : Hid (∀ W, Below wr.heap.size wr W → OwnS W w0.heap.size (.slice av ch.length cap) ch) := hid0 (fun W hW => HO.out.later' hW)
              have HCM := hid0 hcm
              clear hstep hcn HO hcm
              go_wp2_with (first
                | (go_at_call 40; refine (HPx.out _ HB.out).mono ?_; rintro e w3 ⟨rfl, hb3⟩; have HW3 := hid0 hb3; have HB3 := hid0 (Below.later HB.out hb3); clear hb3)
                | (go_at_call 41; refine (HCo.out _ HW3.out).mono ?_; rintro e w4 ⟨rfl, hw4⟩; have hw5 := hw4.symm; subst hw5)
                | (at_builtin; refine wpList_append_own _ rfl _ _ 31 rfl w0.heap.size 9 i0 (.string ⟨#[]⟩) 1 16 Tryz.underlying31 hi hz0 hz1 hz2 rfl (by decide) _ _ _ rfl (World.ownsRow.alloc (HOW.out _ HW3.out) _) ⟨_, 0, none⟩ 1 1 [.string nx] rfl rfl (cell_one_new _ _ _) ?c2b ?c3b ?c4b ?c5b ?_)
                | fail)
              case c2b => simp [Value.oneCell']
              case c3b => unfold maxLen; omega
              case c4b => omega
              case c5b => have := HB3.out.size; simp; omega
              intro v2 w4 hown' hgrow _
              obtain ⟨g1, g2⟩ := owns_snoc (base := w0.heap.size) (L := ch) (c := nx) (n := ch.length) rfl (HOW.out _ HW3.out) hown' hgrow HB3.out (Nat.le_refl _)
              have HO4 := hid0 g1
              have HB4 := hid0 g2
              obtain ⟨av2, cap2, rfl, _⟩ := g1.sa
              clear hown' hgrow g1 g2 HOW HB3 HW3
              go_wp2
              go_roundw
              case rel => exact ⟨f, m + 1, ch ++ [nx], nx, rfl, by go_num, by have := HCM.out; simp; omega, by simp; omega, by have := HCM.out; omega, HV, HGn, HO4, HB4⟩
              case measure => have := HCM.out; simp [lenOf]; omega
end Go.Proofs.YtbdjnmbhphflbaaGreatDoor
