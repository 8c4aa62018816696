/-
  The walk of locale's Chain.
-/
import Derived.Test.YtbdjnmbhphflbaaGreatDoorLc7W
namespace Go.Proofs.YtbdjnmbhphflbaaGreatDoor
open Go.RowKit Go.Shelf Go.Lib
/-- What Chain answers. -/
inductive CR
  | ok (l : List ByteArray)
  | bad (i : Nat)
noncomputable def chainGo (L : List Sec) : Nat → List ByteArray → ByteArray → CR
  | 0, _, _ => .bad 2
  | f + 1, ch, last => if (last.toList == [114, 111, 111, 116]) = true then .ok ch else if Lib.containsS ch (parL L last) = true then .bad 7 else if ch.length = 16 then .bad 2 else chainGo L f (ch ++ [parL L last]) (parL L last)
def entE (s : ByteArray) : Option Nat := entF s.data.toList
noncomputable def chainF (L : List Sec) (t : ByteArray) : CR := match chkE entE L with
  | some i => .bad i
  | none => match tagF t.data.toList with
    | none => .bad 1
    | some c => chainGo L 17 [strOf c] (strOf c)
def GoChain (A : Nat → Addr) (base : Nat) (w' : World) (r : CR) (e : Ending) : Prop := match r with
  | .ok l => ∃ v, e = .returned (.tuple #[v, .nilIface]) ∧ OwnS w' base v l
  | .bad i => e = .returned (.tuple #[.slice none 0 0, .iface 192 (.pointer (some (A i)))])
theorem firstN_inv (f : Nat → Option Nat) : ∀ (m i : Nat), firstN f i m = none → ∀ j, i ≤ j → j < i + m → f j = none
  | 0, _, _, j, h1, h2 => by omega
  | m + 1, i, h, j, h1, h2 => by
    rw [firstN] at h
    cases hx : f i with
    | some x => rw [hx] at h; cases h
    | none =>
      rw [hx] at h
      by_cases e : j = i
      · rw [e, hx]
      · exact firstN_inv f m (i + 1) h j (by omega) (by omega)
theorem par_ok {E : ByteArray → Option Nat} {L : List Sec} (h : chkE E L = none) : ∀ s ∈ L, (s.par.toList == []) = false → isTagB s.par = true := by
  intro s hs hp
  unfold chkE at h
  split at h
  · cases h
  · obtain ⟨k, hk, rfl⟩ := List.getElem_of_mem hs
    have h1 := firstN_inv _ _ 0 h k (Nat.zero_le _) (by omega)
    rw [fSec_at E L k hk] at h1
    unfold secE at h1
    split at h1
    · cases h1
    · split at h1
      · cases h1
      · split at h1
        · cases h1
        · rename_i hn
          cases hq : isTagB L[k].par with
          | true => rfl
          | false => exact absurd ⟨hp, hq⟩ hn
theorem gd_par {E : ByteArray → Option Nat} {L : List Sec} (h : chkE E L = none) {t : ByteArray} (ht : Gd t) : Gd (parL L t) := by
  unfold parL
  cases hq : secOf L t with
  | none => exact gd_cut ht
  | some s =>
    simp only
    split
    · exact gd_cut ht
    · rename_i hp
      exact gd_isTag (par_ok h s (List.mem_of_find?_eq_some hq) (by simpa using hp))
theorem OwnS.base' {w : World} {base base' : Nat} {v : Value} {l : List ByteArray} (h : OwnS w base v l) (hb : base' ≤ base) : OwnS w base' v l := by
  obtain ⟨h1, h2⟩ := h
  refine ⟨h1, ?_⟩
  rcases h2 with h2 | ⟨g, cap, cur, hv, hg, r⟩
  · exact .inl h2
  · exact .inr ⟨g, cap, cur, hv, Nat.le_trans hb hg, r⟩
theorem OwnS.later' {w w' : World} {base : Nat} {v : Value} {L : List ByteArray} (h : OwnS w base v L) (hb : Below w.heap.size w w') : OwnS w' base v L := by
  obtain ⟨h1, h2⟩ := h
  refine ⟨h1, ?_⟩
  rcases h2 with h2 | ⟨g, cap, cur, hv, hg, hh, r⟩
  · exact .inl h2
  · exact .inr ⟨g, cap, cur, hv, hg, (hb.block g (Array.getElem?_eq_some_iff.1 hh).1).trans hh, r⟩
def lenOf : Value → Nat
  | .slice _ n _ => n
  | _ => 0
set_option maxRecDepth 10000 in
set_option maxHeartbeats 3200000 in
theorem chain_any (A : Nat → Addr) (L : List Sec) (a : Option Addr) (c : Nat) (t : ByteArray) (w : World) (hc : L.length ≤ c) (hb : ∀ s ∈ L, s.ed.length ≤ 140737488355328) (hz : ∀ s ∈ L, ∀ e ∈ s.ed, e.2.size ≤ 140737488355328) (hm : Mx w) (hT : Tb w) (hQ : SeqAt w) (he : Sents w A) (ha : XA w a L) :
    Calls Tryz.prog 9 #[.agg #[.slice a L.length c], .string t] w fun e w' => GoChain A w.heap.size w' (chainF L t) e ∧ Below w.heap.size w w' := by
  obtain ⟨w0, hw0⟩ : ∃ w0, w0 = w.alloc (.cells #[.slice a L.length c] 24) := ⟨_, rfl⟩
  have hB0 : Below w.heap.size w w0 := by rw [hw0]; exact (Below.refl _ _).alloc (Nat.le_refl _) _
  have hX0 : w0.heap[w.heap.size]? = some (.cells #[.slice a L.length c] 24 (0, 0)) := by rw [hw0]; exact heap_alloc_new w _
  have hs0 : w0.heap.size = w.heap.size + 1 := by rw [hw0]; simp
  have HXW : Hid (∀ W, Below w0.heap.size w0 W → W.cell? ⟨w.heap.size, 0, none⟩ = some (.slice a L.length c) ∧ W.cell? ⟨0, 0, none⟩ = some (.iface 192 (.pointer (some (A 7)))) ∧ W.cell? ⟨1, 0, none⟩ = some (.iface 192 (.pointer (some (A 2))))) := hid0 (fun W hW => by
    have hr := (hW.block w.heap.size (by omega)).trans hX0
    exact ⟨by rw [cell_of_row _ _ _ _ _ _ hr]; rfl, ((he.below hB0).below hW).c7, ((he.below hB0).below hW).c2⟩)
  have HCk := hid0 (check_any entE A L a c w0 hc hb (hm.below hB0) (he.below hB0) (ha.later hB0) hz (fun x W hx hW => entry_any A x W hx ((hQ.later hB0).later hW) ((he.below hB0).below hW)))
  have HCa : Hid (∀ W, Below w0.heap.size w0 W → Calls Tryz.prog 13 #[.string t] W fun e w' => e = .returned (canE A (tagF t.data.toList)) ∧ Below W.heap.size W w') := hid0 (fun W hW => canon_any A t W ((hm.below hB0).below hW) ((hT.below hB0).below hW) ((he.below hB0).below hW))
  have HPo : Hid (L.length ≤ 500 → ∀ x W, Gd x → Below w0.heap.size w0 W → Calls Tryz.prog 26 #[.agg #[.slice a L.length c], .string x] W fun e w' => e = .returned (.string (parL L x)) ∧ Below W.heap.size W w') := hid0 (fun h5 x W hx hW => parentOf_any L a c x W (by omega) (by have := hx.size; omega) hx.last ((ha.later hB0).later hW))
  have HB0 := hid0 hB0
  obtain ⟨x0, x1, x2⟩ := HXW.out w0 (Below.refl _ _)
  have hfold := hw0.symm
  have hsz : w.heap.size ≤ w0.heap.size := by omega
  clear hw0 hB0 hX0 hs0 hm hT hQ he ha hb hz hc
  obtain ⟨R, hR⟩ : ∃ R, R = chainF L t := ⟨_, rfl⟩
  rw [← hR]
  unfold chainF at hR
  cases hk : chkE entE L with
  | some i =>
    rw [hk] at hR HCk
    simp only [errO] at hR HCk
    subst hR
    clear hk HPo HCa
    go_enter Tryz.func9, Tryz.ntmps9
    go_wp2_with (first
      | (go_at_call 11; refine HCk.out.mono ?_; rintro e w1 ⟨rfl, hb1⟩; have HB1 := hid0 (Below.later HB0.out hb1); clear hb1)
      | fail)
    go_returns
    exact ⟨rfl, HB1.out⟩
  | none =>
    have h5 : L.length ≤ 500 := by
      unfold chkE at hk
      split at hk
      · cases hk
      · omega
    have HP := hid0 (HPo.out h5)
    have HG := hid0 (fun (x : ByteArray) (hx : Gd x) => gd_par hk hx)
    rw [hk] at hR HCk
    simp only [errO] at hR HCk
    clear hk HPo
    cases hq : tagF t.data.toList with
    | none =>
      rw [hq] at hR HCa
      simp only [canE] at hR HCa
      subst hR
      clear hq HP HG
      go_enter Tryz.func9, Tryz.ntmps9
      go_wp2_with (first
        | (go_at_call 11; refine HCk.out.mono ?_; rintro e w1 ⟨rfl, hb1⟩; have HB1 := hid0 hb1; clear hb1)
        | (go_at_call 13; refine (HCa.out _ HB1.out).mono ?_; rintro e w2 ⟨rfl, hb2⟩; have HB2 := hid0 (Below.later HB0.out (Below.later HB1.out hb2)); clear hb2)
        | fail)
      go_returns
      exact ⟨rfl, HB2.out⟩
    | some x =>
      rw [hq] at hR HCa
      simp only [canE] at hR HCa
      have HGx := hid0 (gd_tag hq)
      have HR := hid0 hR
      obtain ⟨i0, hi, hz0, hz1, hz2⟩ := info_parts infoStr
      clear hq hR
      generalize strOf x = X at *
      go_enter Tryz.func9, Tryz.ntmps9
      go_wp2_with (first
        | (go_at_call 11; refine HCk.out.mono ?_; rintro e w1 ⟨rfl, hb1⟩; have HB1 := hid0 hb1; clear hb1)
        | (go_at_call 13; refine (HCa.out _ HB1.out).mono ?_; rintro e w2 ⟨rfl, hb2⟩; have HB2 := hid0 (Below.later HB1.out hb2); clear hb2)
        | fail)
      have HO0 : Hid (OwnS (w2.alloc (.cells #[.string X] 9)) w0.heap.size (.slice (some ⟨w2.heap.size, 0, none⟩) 1 1) [X]) := hid0 (by
        have h0 := World.ownsRow_lit (base := w0.heap.size) (e := 9) (size := 1) w2 #[.string X] 1 HB2.out.size (by unfold maxLen; omega) rfl
        simpa [OwnS, cellsS] using h0)
      have HB3 := hid0 (HB2.out.alloc HB2.out.size (.cells #[.string X] 9))
      go_loopw [7, 9] (fun t7 v wr => ∃ (f : Nat) (ch : List ByteArray) (y : ByteArray), t7 = .string y ∧ ch.length + f = 18 ∧ ch.length ≤ 16 ∧ Hid (R = chainGo L f ch y) ∧ Hid (Gd y) ∧ Hid (OwnS wr w0.heap.size v ch) ∧ Hid (Below w0.heap.size w0 wr)) (fun _ v _ => 17 - lenOf v)
      case atStart => exact ⟨17, [X], X, rfl, rfl, by simp, HR, HGx, HO0, HB3⟩
      case round =>
        clear HO0 HB3 HB1 HB2 HR HGx HCk HCa
        obtain ⟨f, ch, y, rfl, hf, h16, HRr, HGy, HO, HB⟩ := hrel
        obtain ⟨av, cap, rfl, hsa, _⟩ := HO.out.sa
        obtain ⟨f, rfl⟩ : ∃ g, f = g + 1 := ⟨f - 1, by omega⟩
        obtain ⟨z0, z1, z2⟩ := HXW.out wr HB.out
        have hstep := HRr.out
        rw [chainGo] at hstep
        clear HRr
        cases hy : (y.toList == [114, 111, 111, 116]) with
        | true =>
          rw [hy, if_pos rfl] at hstep
          have HV := hid0 hstep
          clear hstep
          go_wp2
          go_returns
          refine ⟨?_, Below.later HB0.out HB.out⟩
          rw [HV.out]
          exact ⟨_, rfl, HO.out.base' hsz⟩
        | false =>
          rw [hy, if_neg (by simp)] at hstep
          have HPx := hid0 (fun W hW => HP.out y W HGy.out hW)
          have HGn := hid0 (HG.out y HGy.out)
          generalize parL L y = nx at *
          have HCo := hid0 (fun W (hW : Below wr.heap.size wr W) => containsS_any ch av cap nx W (by omega) (hsa.below hW))
          clear hsa
          cases hcn : Lib.containsS ch nx with
          | true =>
            rw [hcn, if_pos rfl] at hstep
            rw [hcn] at HCo
            have HV := hid0 hstep
            clear hstep hcn
            go_wp2_with (first
                | (go_at_call 26; refine (HPx.out _ HB.out).mono ?_; rintro e w3 ⟨rfl, hb3⟩; have HW3 := hid0 hb3; have HB3 := hid0 (Below.later HB.out hb3); obtain ⟨u0, u1, u2⟩ := HXW.out w3 HB3.out; clear hb3)
                | (go_at_call 27; refine (HCo.out _ HW3.out).mono ?_; rintro e w4 ⟨rfl, hw4⟩; have hw5 := hw4.symm; subst hw5)
                | fail)
            go_region
            go_wp2
            go_returns
            exact ⟨by rw [HV.out]; rfl, Below.later HB0.out (by have := HB3.out; go_grown)⟩
          | false =>
            rw [hcn, if_neg (by simp)] at hstep
            rw [hcn] at HCo
            by_cases h6 : ch.length = 16
            · rw [if_pos h6] at hstep
              have h6I : (ch.length : Int) = 16 := by omega
              have HV := hid0 hstep
              clear hstep hcn h6
              go_wp2_with (first
                | (go_at_call 26; refine (HPx.out _ HB.out).mono ?_; rintro e w3 ⟨rfl, hb3⟩; have HW3 := hid0 hb3; have HB3 := hid0 (Below.later HB.out hb3); obtain ⟨u0, u1, u2⟩ := HXW.out w3 HB3.out; clear hb3)
                | (go_at_call 27; refine (HCo.out _ HW3.out).mono ?_; rintro e w4 ⟨rfl, hw4⟩; have hw5 := hw4.symm; subst hw5)
                | fail)
              go_region
              go_wp2
              go_returns
              exact ⟨by rw [HV.out]; rfl, Below.later HB0.out (by have := HB3.out; go_grown)⟩
            · rw [if_neg h6] at hstep
              have h6I : ¬ (ch.length : Int) = 16 := by omega
              have HV := hid0 hstep
              have HOW : Hid (∀ W, Below wr.heap.size wr W → OwnS W w0.heap.size (.slice av ch.length cap) ch) := hid0 (fun W hW => HO.out.later' hW)
              clear hstep hcn HO
              go_wp2_with (first
                | (go_at_call 26; refine (HPx.out _ HB.out).mono ?_; rintro e w3 ⟨rfl, hb3⟩; have HW3 := hid0 hb3; have HB3 := hid0 (Below.later HB.out hb3); obtain ⟨u0, u1, u2⟩ := HXW.out w3 HB3.out; clear hb3)
                | (go_at_call 27; refine (HCo.out _ HW3.out).mono ?_; rintro e w4 ⟨rfl, hw4⟩; have hw5 := hw4.symm; subst hw5)
                | (at_builtin; refine wpList_append_own _ rfl _ _ 31 rfl w0.heap.size 9 i0 (.string ⟨#[]⟩) 1 16 Tryz.underlying31 hi hz0 hz1 hz2 rfl (by decide) _ _ _ rfl (World.ownsRow.alloc (HOW.out _ HW3.out) _) ⟨_, 0, none⟩ 1 1 [.string nx] rfl rfl (cell_one_new _ _ _) ?c2b ?c3b ?c4b ?c5b ?_)
                | fail)
              case c2b => simp [Value.oneCell']
              case c3b => unfold maxLen; omega
              case c4b => omega
              case c5b => have := HB3.out.size; simp; omega
              intro v2 w4 hown' hgrow _
              obtain ⟨g1, g2⟩ := owns_snoc (base := w0.heap.size) (L := ch) (c := nx) (n := ch.length) rfl (HOW.out _ HW3.out) hown' hgrow HB3.out (Nat.le_refl _)
              have HO4 := hid0 g1
              have HB4 := hid0 g2
              obtain ⟨av2, cap2, rfl, _⟩ := g1.sa
              clear hown' hgrow g1 g2 HOW HB3 HW3
              go_wp2
              go_roundw
              case rel => exact ⟨f, ch ++ [nx], nx, rfl, by simp; omega, by simp; omega, HV, HGn, HO4, HB4⟩
              case measure => simp [lenOf]; omega
end Go.Proofs.YtbdjnmbhphflbaaGreatDoor
