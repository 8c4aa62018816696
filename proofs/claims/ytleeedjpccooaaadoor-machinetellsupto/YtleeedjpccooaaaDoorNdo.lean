/-
  QlHbW, MeCW, MeDW.
-/
import Derived.Test.YtleeedjpccooaaaDoorNdm
import Derived.Test.YtleeedjpccooaaaDoorNdn
import Derived.Test.YtleeedjpccooaaaDoorNda
import Derived.Test.YtleeedjpccooaaaDoorNdl
namespace Go.Proofs.YtleeedjpccooaaaDoor
open Go.RowKit Go.Shelf
theorem standj_sound {n : Nat} {Fi La : List Int} {Fo : List (List Int)} (h : Fo.length = n) : standP n Fi La Fo = soundP n Fi La Fo := by
  unfold soundP standP
  rw [decide_eq_true h]
  cases insA n Fo <;> simp
set_option maxRecDepth 10000 in
set_option maxHeartbeats 1600000 in
theorem match_all (aL aF aA aO aW : Option Addr) (cL cF cA cO cW : Nat) (Le Fo : List (List Int)) (Fi La Wd : List Int) (em : Bool) (w : World) (hp : PosA w aL aF aA aO Le Fo Fi La) (hwd : IA w aW Wd) (hwl : Wd.length ≤ 4000000) (hLi : ∀ r ∈ Le, ∀ z ∈ r, inI z) (hWi : ∀ z ∈ Wd, inI z) (hTab : TabAt 11 Lib.deBruijn64tab w) (hT11 : 11 < w.heap.size) :
    Calls Tryd.prog 35 #[posV aL aF aA aO cL cF cA cO Le Fo Fi La em, .slice aW Wd.length cW] w fun e w' => e = .returned (.bool (matM Le Fo Fi La em Wd)) ∧ Below w.heap.size w w' := by
  have hfb := hp.fo.rwe
  have hfi : Fi ≠ [] → ∀ p, aF = some p → p.block < w.heap.size := fun hl p hq => by
    have h0 : 0 < Fi.length := List.length_pos_iff.2 hl
    obtain ⟨b', off', e', h4, _⟩ := hp.fi.at' 0 h0
    rw [hq] at e'
    cases e'
    exact h4
  obtain ⟨w0, hw0⟩ : ∃ w0, w0 = w.alloc (.cells #[.slice aL Le.length cL, .slice aF Fi.length cF, .slice aA La.length cA, .slice aO Fo.length cO, .bool em] 46) := ⟨_, rfl⟩
  have hr0 : w0.heap[w.heap.size]? = some (.cells #[.slice aL Le.length cL, .slice aF Fi.length cF, .slice aA La.length cA, .slice aO Fo.length cO, .bool em] 46 (0, 0)) := by rw [hw0]; exact heap_alloc_new w _
  have hb0 : Below w.heap.size w w0 := by rw [hw0]; exact (Below.refl _ _).alloc (Nat.le_refl _) _
  have hs0 : w0.heap.size = w.heap.size + 1 := by rw [hw0]; simp
  obtain ⟨c0, c1, c2, c3, c4⟩ := row5 hr0
  have hl1 := hp.l1
  have hl4 := hp.l4
  have hfold := hw0.symm
  have HB0 := hid0 hb0
  clear hw0
  by_cases hFl : Fo.length = Le.length
  · have HSt := hid0 (placesStand_any aL aF aA aO cL cF cA cO Le Fo Fi La em w0 (hp.past hb0))
    rw [standj_sound hFl] at HSt
    unfold posV at HSt ⊢
    have HC5 : Hid (∀ W, Below w0.heap.size w0 W → W.cell? ⟨w.heap.size, 0, none⟩ = some (.slice aL Le.length cL) ∧ W.cell? ⟨w.heap.size, 1, none⟩ = some (.slice aF Fi.length cF) ∧ W.cell? ⟨w.heap.size, 2, none⟩ = some (.slice aA La.length cA) ∧ W.cell? ⟨w.heap.size, 3, none⟩ = some (.slice aO Fo.length cO) ∧ W.cell? ⟨w.heap.size, 4, none⟩ = some (.bool em)) := hid0 (fun W hW => row5 ((hW.block w.heap.size (by omega)).trans hr0))
    have hFI : ((Fo.length : Int) != (Le.length : Int)) = false := by simp [hFl]
    have HFl := hid0 hFl
    clear hFl
    by_cases hso : soundP Le.length Fi La Fo = true
    · rw [hso] at HSt
      by_cases hw : Wd = []
      · subst hw
        have HM : Hid (matM Le Fo Fi La em [] = em) := hid0 (by unfold matM; rw [hso]; rfl)
        go_enter Tryd.func35, Tryd.ntmps35
        go_wp2_with (go_at_call 57; go_loud ((
          refine HSt.out.mono ?_
          rintro e w1 ⟨rfl, hb1⟩
          obtain ⟨d0, d1, d2, d3, d4⟩ := HC5.out w1 hb1
          have HB1 := hid0 hb1
          clear hb1)))
        go_ret
        exact ⟨by rw [HM.out]; rfl, Below.later HB0.out HB1.out⟩
      · have hwp : 0 < Wd.length := List.length_pos_iff.2 hw
        have hwI : ((Wd.length : Int) == 0) = false := by simp; exact hw
        have HNw : Hid (∀ W, Below w0.heap.size w0 W → Calls Tryd.prog 58 #[.agg #[.slice aL Le.length cL, .slice aF Fi.length cF, .slice aA La.length cA, .slice aO Fo.length cO, .bool em], .slice aW Wd.length cW] W (NwRj W Le Fo Fi Wd)) := hid0 (fun W hW => by
          have hb := Below.later hb0 hW
          exact newWalkj_any aL aF aA aO aW cL cF cA cO cW Le Fo Fi La Wd em W (hp.past hb) (hwd.past hb) hwl hwp hso (hfb.past hb) (fun hl p hp => Nat.lt_of_lt_of_le (hfi hl p hp) hb.size) hLi hWi (fun j hj => (hb.cell (p := ⟨11, j, none⟩) hT11).trans (hTab j hj)) (Nat.lt_of_lt_of_le hT11 hb.size))
        have HSd : Hid (La.all (oneOf Le.length) = true ∧ ∀ r ∈ Fo, r.length ≤ 100000000000000 ∧ r.all (oneOf Le.length) = true) := hid0 (by
          unfold soundP insA at hso
          simp only [Bool.and_eq_true, decide_eq_true_eq] at hso
          exact ⟨hso.1.2, fun r hr => ⟨by have := hp.r4 r hr; omega, List.all_eq_true.1 hso.2 r hr⟩⟩)
        have HM0 := hid0 (cM_start (em := em) (Wd := Wd) hso hwp)
        have HWd := hid0 hwd
        have HLa := hid0 hp.la
        have hl3 := hp.l3
        clear hso hp hwd hfb hfi hLi hWi hTab hw hb0 hr0
        go_enter Tryd.func35, Tryd.ntmps35
        go_upto_region 7 with (first
          | (go_at_call 57; go_loud ((
              refine HSt.out.mono ?_
              rintro e w1 ⟨rfl, hb1⟩
              obtain ⟨d0, d1, d2, d3, d4⟩ := HC5.out w1 hb1
              have HB1 := hid0 hb1
              clear hb1)))
          | (go_at_call 58; go_loud ((
              refine (HNw.out w1 HB1.out).mono ?_
              rintro e w2 ⟨B, gf, gh, ga, gn, mp, cF', cH', ks, H, rfl, hwk, hk1, hk2, hk3, hk4, hk5, hlo, hbw⟩
              have HWk := hid0 hwk
              have HK1 := hid0 hk1
              have HK2 := hid0 hk2
              have HK4 := hid0 hk4
              have HK5 := hid0 hk5
              have HLo := hid0 hlo
              have HB2 := hid0 (Below.later HB1.out hbw)
              clear hwk hk1 hk2 hk4 hk5 hlo hbw)))
          | fail)
        have hz1 := HB1.out.size
        obtain ⟨m, hm⟩ : ∃ m, m = (Le.length + 511) / 512 := ⟨_, rfl⟩
        rw [← hm] at HWk
        have hm1 : m ≤ 1000000 := by omega
        have hm2 : Le.length ≤ 512 * m := by omega
        clear hm
        have HLo2 : Hid (w0.heap.size ≤ ga ∧ w0.heap.size ≤ gn) := hid0 ⟨by have := HLo.out.1; omega, by have := HLo.out.2; omega⟩
        clear HNw HSt HLo
        go_loopw [30] (fun i wr => ∃ (k : Nat) (fa fx : Nat → Bool), k ≤ Wd.length ∧ i = .int .i64 (k : Int) ∧ Hid (Wkj wr B gf gh ga gn mp m cF' cH' ks Fo H fa fx (fun k => ¬ k = ga ∧ ¬ k = gn)) ∧ Hid (cM Le Fo La fa fx (Wd.drop k) = matM Le Fo Fi La em Wd) ∧ Hid (Below w0.heap.size w0 wr)) (fun i _ => Wd.length - (intOf i).toNat)
        case atStart => exact ⟨0, _, _, Nat.zero_le _, rfl, HWk, HM0, HB2⟩
        case round =>
          clear HWk HM0 HB2 d0 d1 d2 d3 d4
          obtain ⟨k, fa, fx, hk, rfl, HWk, HMk, HBk⟩ := hrel
          by_cases hlt : k < Wd.length
          · obtain ⟨b, off, rfl, _, d1⟩ := (HWd.out.past (Below.later HB0.out HBk.out)).at' k hlt
            have hkI : (k : Int) < (Wd.length : Int) := by omega
            have hkI0 : (0 : Int) ≤ (k : Int) := by omega
            have hMd := cM_drop (Le := Le) (Fo := Fo) (La := La) (fa := fa) (fx := fx) hlt
            obtain ⟨i, hi, hc⟩ := List.mem_iff_getElem.1 (HK1.out _ (List.getElem_mem hlt))
            rw [← hc] at hMd d1
            have hiH : i < H.length := by rw [HK4.out.len]; exact hi
            have hgd : H.getD i [] = H[i] := by rw [List.getD_eq_getElem?_getD, List.getElem?_eq_getElem hiH]; rfl
            have hst : stepAt H[i] fx m = atF Le fx ks[i] := stepAt_at (fun p => by have := HK4.out.whole (Nat.le_refl _) i hi p; rwa [hgd] at this) (by omega)
            have hnx : nxF Fo (plB (atF Le fx ks[i]) (512 * m)) = nextF Fo (atF Le fx ks[i]) := nxF_next Fo _ _ (fun q hq => by rw [HFl.out]; exact at_lt hq) (by rw [HFl.out]; omega)
            have HSp := hid0 (stepj_any B gf gh ga gn mp m cF' cH' Le.length i ks Fo H fa fx _ wr (by omega) (by omega) HFl.out HK4.out.len hi (HK2.out _ (List.getElem_mem hi)) (by rw [HK4.out.len]; omega) HSd.out.2 (fun r hr => ⟨HK5.out r hr, by
              obtain ⟨j, hj, rfl⟩ := List.mem_iff_getElem.1 hr
              have := HK4.out.inn j
              rwa [List.getD_eq_getElem?_getD, List.getElem?_eq_getElem hj] at this⟩) HWk.out)
            rw [hst, hnx] at HSp
            have HMd : Hid (cM Le Fo La (atF Le fx ks[i]) (nextF Fo (atF Le fx ks[i])) (Wd.drop (k + 1)) = matM Le Fo Fi La em Wd) := hid0 (hMd.symm.trans HMk.out)
            have HEm : Hid (emF (atF Le fx ks[i]) m = true → matM Le Fo Fi La em Wd = false) := hid0 (fun h => by
              rw [← HMd.out, cM_next]
              exact cont_none _ _ _ _ _ (em_none h (by omega)))
            have HOb : Hid (∀ w3, Only wr w3 (fun k => k = ga ∨ k = gn) → Below w0.heap.size w0 w3) := hid0 (fun w3 h3 => HBk.out.trans (h3.below HBk.out.size (fun j hj => by have := HLo2.out; omega)))
            clear hMd hst hnx hc hgd HMk
            generalize ks[i] = c at *
            cases hem : emF (atF Le fx c) m with
            | true =>
              rw [hem] at HSp
              have HE := hid0 (HEm.out hem)
              clear hem HEm
              go_wp2_with (go_at_call 59; go_loud ((
                refine HSp.out.mono ?_
                rintro e w3 ⟨rfl, hwk3, ho3⟩
                have HWk3 := hid0 hwk3
                have HB3 := hid0 (HOb.out w3 ho3)
                clear hwk3 ho3)))
              go_ret
              exact ⟨by rw [HE.out]; rfl, Below.later HB0.out HB3.out⟩
            | false =>
              rw [hem] at HSp
              clear hem HEm
              go_wp2_with (go_at_call 59; go_loud ((
                refine HSp.out.mono ?_
                rintro e w3 ⟨rfl, hwk3, ho3⟩
                have HWk3 := hid0 hwk3
                have HB3 := hid0 (HOb.out w3 ho3)
                clear hwk3 ho3)))
              go_roundw
              case rel => exact ⟨k + 1, _, _, by omega, by go_num, HWk3, HMd, HB3⟩
              case measure => simp [intOf]; omega
          · have hke : k = Wd.length := by omega
            subst hke
            have HEn : Hid (lastF La fa = matM Le Fo Fi La em Wd) := hid0 (by
              have := HMk.out
              rwa [List.drop_length] at this)
            obtain ⟨d0, d1, d2, d3, d4⟩ := HC5.out wr HBk.out
            have q3 : wr.cell? ⟨B, 3, none⟩ = some (.slice (some ⟨ga, 0, none⟩) m m) := by rw [cell_of_row _ _ _ _ _ _ HWk.out.row]; rfl
            have HHas := hid0 (hasOneOf_any ga m Le.length fa La aA cA wr.drew (by omega) hm1 hm2 HSd.out.1 ((HLa.out.past (Below.later HB0.out HBk.out)).past (drewj_below wr)) (HWk.out.at'.kept rfl))
            have HS12 := hid0 (And.intro q3 d2)
            have HS12b : Hid (∀ w3, Below wr.drew.heap.size wr.drew w3 → w3.cell? ⟨B, 3, none⟩ = some (.slice (some ⟨ga, 0, none⟩) m m) ∧ w3.cell? ⟨w.heap.size, 2, none⟩ = some (.slice aA La.length cA)) := hid0 (fun w3 h3 => ⟨(h3.cell (p := ⟨B, 3, none⟩) (World.block_lt_of_cell? wr _ q3)).trans q3, (h3.cell (p := ⟨w.heap.size, 2, none⟩) (World.block_lt_of_cell? wr _ d2)).trans d2⟩)
            clear d0 d1 d2 d3 d4 q3
            go_upto_region 12 with fail
            refine wp_region_noPanic ?_
            refine wp_region_held_drew (S := (fun V => V.cell? ⟨B, 3, none⟩ = some (.slice (some ⟨ga, 0, none⟩) m m) ∧ V.cell? ⟨w.heap.size, 2, none⟩ = some (.slice aA La.length cA))) (by kernel_rfl) ?_ (fun hHeld => ?_)
            · exact HS12.out
            refine tkV (i := 0) (d := some 39) (v := ?_) rfl (by kernel_rfl) (by kernel_rfl) (by kernel_rfl) rfl (fun _ _ _ h => h) (by rfl) ?_ (by assumption) ?_
            rotate_left
            · (intro w hSw; (try dsimp only at hSw); (try simp only [List.getElem_toArray, List.getElem_cons_zero]); go_simp; try with_reducible rfl)
            try simp only [Act.put, List.setIfInBounds_toArray, List.set_cons_zero, List.set_cons_succ]
            refine tkV (i := 1) (d := some 40) (v := ?_) rfl (by kernel_rfl) (by kernel_rfl) (by kernel_rfl) rfl (fun _ _ _ h => h) (by rfl) ?_ (by assumption) ?_
            rotate_left
            · (intro w hSw; (try dsimp only at hSw); (try simp only [List.getElem_toArray, List.getElem_cons_zero, List.getElem_cons_succ]); go_simp; try with_reducible rfl)
            try simp only [Act.put, List.setIfInBounds_toArray, List.set_cons_zero, List.set_cons_succ]
            refine tkV (i := 2) (d := some 41) (v := ?_) rfl (by kernel_rfl) (by kernel_rfl) (by kernel_rfl) rfl (fun _ _ _ h => h) (by rfl) ?_ (by assumption) ?_
            rotate_left
            · (intro w hSw; (try dsimp only at hSw); (try simp only [List.getElem_toArray, List.getElem_cons_zero, List.getElem_cons_succ]); go_simp; try with_reducible rfl)
            try simp only [Act.put, List.setIfInBounds_toArray, List.set_cons_zero, List.set_cons_succ]
            refine tkV (i := 3) (d := some 42) (v := ?_) rfl (by kernel_rfl) (by kernel_rfl) (by kernel_rfl) rfl (fun _ _ _ h => h) (by rfl) ?_ (by assumption) ?_
            rotate_left
            · (intro w hSw; (try dsimp only at hSw); (try simp only [List.getElem_toArray, List.getElem_cons_zero, List.getElem_cons_succ]); go_simp; try with_reducible rfl)
            try simp only [Act.put, List.setIfInBounds_toArray, List.set_cons_zero, List.set_cons_succ]
            refine tkV (i := 4) (d := some 43) (v := ?_) rfl (by kernel_rfl) (by kernel_rfl) (by kernel_rfl) rfl (fun _ _ _ h => h) (by rfl) ?_ (by assumption) ?_
            rotate_left
            · (intro w hSw; (try dsimp only at hSw); (try simp only [List.getElem_toArray, List.getElem_cons_zero, List.getElem_cons_succ]); go_simp; try with_reducible rfl)
            try simp only [Act.put, List.setIfInBounds_toArray, List.set_cons_zero, List.set_cons_succ]
            refine tkV (i := 5) (d := some 44) (v := ?_) rfl (by kernel_rfl) (by kernel_rfl) (by kernel_rfl) rfl (fun _ _ _ h => h) (by rfl) ?_ (by assumption) ?_
            rotate_left
            · (intro w hSw; (try dsimp only at hSw); (try simp only [List.getElem_toArray, List.getElem_cons_zero, List.getElem_cons_succ]); go_simp; try with_reducible rfl)
            try simp only [Act.put, List.setIfInBounds_toArray, List.set_cons_zero, List.set_cons_succ]
            refine wpAnyH_ready (rs := [6]) (by kernel_rfl) (by simp) (AllReadyH.cons rfl (fun K hK => ?_) AllReadyH.nil)
            try simp only [List.getElem_toArray, List.getElem_cons_zero, List.getElem_cons_succ]
            go_simp
            refine HHas.out.mono ?_
            rintro e w3 ⟨rfl, hb3⟩
            have HB3 := hid0 hb3
            clear hb3
            go_wp2_with fail
            refine hK.out _ _ ?_ (fun hHeld6 => ?_)
            · exact HS12b.out w3 HB3.out
            clear hK K
            (try simp only [Act.put]); (try simp only [List.setIfInBounds_toArray]); (try simp only [List.set_cons_succ]); (try simp only [List.set_cons_zero])
            refine tkV (i := 7) (d := some 4) (v := ?_) rfl (by kernel_rfl) (by kernel_rfl) (by kernel_rfl) rfl (fun _ _ _ h => h) (by rfl) ?_ (by assumption) ?_
            rotate_left
            · (intro w hSw; (try dsimp only at hSw); (try simp only [List.getElem_toArray, List.getElem_cons_zero, List.getElem_cons_succ]); go_simp; try with_reducible rfl)
            try simp only [Act.put, List.setIfInBounds_toArray, List.set_cons_zero, List.set_cons_succ]
            refine wpAnyH_done (by kernel_rfl) ?_ _
            refine NoPanic.normal ?_
            go_wp2
            go_ret
            exact ⟨by rw [← HEn.out]; rfl, Below.later (Below.later HB0.out HBk.out) (belowj_drew HB3.out)⟩
    · rw [Bool.not_eq_true] at hso
      rw [hso] at HSt
      have HM : Hid (matM Le Fo Fi La em Wd = false) := hid0 (by unfold matM; rw [hso]; rfl)
      go_enter Tryd.func35, Tryd.ntmps35
      go_wp2_with (go_at_call 57; go_loud ((
        refine HSt.out.mono ?_
        rintro e w1 ⟨rfl, hb1⟩
        have HB1 := hid0 hb1
        clear hb1)))
      go_ret
      exact ⟨by rw [HM.out]; rfl, Below.later HB0.out HB1.out⟩
  · have hFI : ((Fo.length : Int) != (Le.length : Int)) = true := by simp; omega
    have HM : Hid (matM Le Fo Fi La em Wd = false) := hid0 (by unfold matM soundP; rw [decide_eq_false hFl]; rfl)
    unfold posV
    go_enter Tryd.func35, Tryd.ntmps35
    go_wp2
    go_ret
    exact ⟨by rw [HM.out]; rfl, HB0.out⟩
end Go.Proofs.YtleeedjpccooaaaDoor
namespace Go.Proofs.YtleeedjpccooaaaDoor
open Go.RowKit Go.Shelf
theorem row6c {W : World} {X : Nat} {t : TypeId} {a b c d e f : Value} (h : W.heap[X]? = some (.cells #[a, b, c, d, e, f] t (0, 0))) : (W.cell? ⟨X, 0, none⟩ = some a ∧ W.cell? ⟨X, 1, none⟩ = some b ∧ W.cell? ⟨X, 2, none⟩ = some c ∧ W.cell? ⟨X, 3, none⟩ = some d ∧ W.cell? ⟨X, 4, none⟩ = some e) ∧ W.cell? ⟨X, 5, none⟩ = some f :=
  ⟨⟨by rw [cell_of_row _ _ _ _ _ _ h]; rfl, by rw [cell_of_row _ _ _ _ _ _ h]; rfl, by rw [cell_of_row _ _ _ _ _ _ h]; rfl, by rw [cell_of_row _ _ _ _ _ _ h]; rfl, by rw [cell_of_row _ _ _ _ _ _ h]; rfl⟩, by rw [cell_of_row _ _ _ _ _ _ h]; rfl⟩
theorem nI_dropU (l : List Nat) (k : Nat) : (nI l).drop k = nI (l.drop k) := by unfold nI; rw [List.map_drop]
/-- Does it end, as the loop goes. -/
def endA (Le Fo : List (List Int)) (Fi La : List Int) (em an : Bool) (u : List Nat) (f : Nat) : Bool := (decide (f = 0) || !an) && matM Le Fo Fi La em (nI (u.drop f))
theorem endsF_yes {r : Pr} {u : List Nat} {k : Nat} (hk : k ≤ u.length) (h : endA r.Le r.Fo r.Fi r.La r.em r.an u k = true) : endsF r u = true := by
  unfold endsF
  rw [List.any_eq_true]
  exact ⟨k, List.mem_range.2 (by omega), h⟩
theorem endsF_no {r : Pr} {u : List Nat} (h : ∀ k, k ≤ u.length → endA r.Le r.Fo r.Fi r.La r.em r.an u k = false) : endsF r u = false := by
  unfold endsF
  rw [List.any_eq_false]
  intro k hk
  have q := h k (by have := List.mem_range.1 hk; omega)
  unfold endA at q
  rw [q]
  decide
set_option maxRecDepth 10000 in
set_option maxHeartbeats 1600000 in
theorem ends_any (aL aF aA aO aW : Option Addr) (cL cF cA cO cW n : Nat) (r : Pr) (u : List Nat) (w : World) (hp : PosA w aL aF aA aO r.Le r.Fo r.Fi r.La) (hW : IA w aW (nI u)) (hn : n = u.length) (hnc : n ≤ cW) (hns : n ≤ 1000) (hLi : ∀ l ∈ r.Le, ∀ z ∈ l, inI z) (hWi : ∀ z ∈ nI u, inI z) (hT : TabAt 11 Lib.deBruijn64tab w) (hT11 : 11 < w.heap.size) :
    Calls Tryd.prog 15 #[.agg #[.slice aL r.Le.length cL, .slice aF r.Fi.length cF, .slice aA r.La.length cA, .slice aO r.Fo.length cO, .bool r.em, .bool r.an], .slice aW n cW] w fun e w' => e = .returned (.bool (endsF r u)) ∧ Hid (Below w.heap.size w w') := by
  obtain ⟨nL, hnL⟩ : ∃ x, x = r.Le.length := ⟨_, rfl⟩
  obtain ⟨nF, hnF⟩ : ∃ x, x = r.Fi.length := ⟨_, rfl⟩
  obtain ⟨nA, hnA⟩ : ∃ x, x = r.La.length := ⟨_, rfl⟩
  obtain ⟨nO, hnO⟩ : ∃ x, x = r.Fo.length := ⟨_, rfl⟩
  obtain ⟨em, hem⟩ : ∃ x, x = r.em := ⟨_, rfl⟩
  obtain ⟨an, han⟩ : ∃ x, x = r.an := ⟨_, rfl⟩
  rw [← hnL, ← hnF, ← hnA, ← hnO, ← hem, ← han]
  have HEq := hid0 (And.intro hnL (And.intro hnF (And.intro hnA (And.intro hnO (And.intro hem (And.intro han hn))))))
  obtain ⟨w0, hw0⟩ : ∃ w0, w0 = w.alloc (.cells #[.slice aL nL cL, .slice aF nF cF, .slice aA nA cA, .slice aO nO cO, .bool em, .bool an] 48) := ⟨_, rfl⟩
  have hb0 : Below w.heap.size w w0 := by rw [hw0]; exact (Below.refl _ _).alloc (Nat.le_refl _) _
  have hr0 : w0.heap[w.heap.size]? = some (.cells #[.slice aL nL cL, .slice aF nF cF, .slice aA nA cA, .slice aO nO cO, .bool em, .bool an] 48 (0, 0)) := by rw [hw0]; exact heap_alloc_new w _
  have HX : Hid (∀ V, Below w0.heap.size w0 V → ((V.cell? ⟨w.heap.size, 0, none⟩ = some (.slice aL nL cL) ∧ V.cell? ⟨w.heap.size, 1, none⟩ = some (.slice aF nF cF) ∧ V.cell? ⟨w.heap.size, 2, none⟩ = some (.slice aA nA cA) ∧ V.cell? ⟨w.heap.size, 3, none⟩ = some (.slice aO nO cO) ∧ V.cell? ⟨w.heap.size, 4, none⟩ = some (.bool em)) ∧ V.cell? ⟨w.heap.size, 5, none⟩ = some (.bool an)) ∧ PosA V aL aF aA aO r.Le r.Fo r.Fi r.La ∧ IA V aW (nI u) ∧ TabAt 11 Lib.deBruijn64tab V ∧ 11 < V.heap.size) := hid0 (fun V hV => by
    have hb := Below.later hb0 hV
    exact ⟨row6c ((hV.block _ (Array.getElem?_eq_some_iff.1 hr0).1).trans hr0), hp.past hb, hW.past hb, fun j hj => (hb.cell (p := ⟨11, j, none⟩) hT11).trans (hT j hj), Nat.lt_of_lt_of_le hT11 hb.size⟩)
  have HB0 := hid0 hb0
  have HLi := hid0 hLi
  have HWi := hid0 hWi
  have hfold := hw0.symm
  clear hw0 hr0 hb0 hp hW hT hT11 hLi hWi hnL hnF hnA hnO hem han hn
  go_enter Tryd.func15, Tryd.ntmps15
  go_wp2
  go_loopw [5] (fun q wr => ∃ k : Nat, k ≤ n + 1 ∧ q = .int .i64 (k : Int) ∧ Hid (∀ f, f < k → endA r.Le r.Fo r.Fi r.La r.em r.an u f = false) ∧ Hid (Below w0.heap.size w0 wr)) (fun q _ => n + 1 - (intOf q).toNat)
  case atStart => exact ⟨0, Nat.zero_le _, rfl, hid0 (fun f hf => absurd hf (Nat.not_lt_zero _)), hid0 (Below.refl _ _)⟩
  case round =>
    obtain ⟨k, hk, rfl, HN, HB⟩ := hrel
    by_cases hlt : k ≤ n
    · have hkI : (k : Int) ≤ (n : Int) := by omega
      have hkI0 : (0 : Int) ≤ (k : Int) := by omega
      obtain ⟨⟨⟨x0, x1, x2, x3, x4⟩, x5⟩, _⟩ := HX.out wr HB.out
      by_cases hst : 0 < k ∧ an = true
      · obtain ⟨h0, h1⟩ := hst
        have h0I : (k : Int) > 0 := by omega
        have HE : Hid (endsF r u = false) := hid0 (endsF_no (fun f _ => by
          by_cases hf : f < k
          · exact HN.out f hf
          · unfold endA
            rw [← HEq.out.2.2.2.2.2.1, h1, decide_eq_false (by omega)]
            rfl))
        subst h1
        clear HN
        go_wp2
        go_ret
        exact ⟨by rw [HE.out]; rfl, hid0 (Below.later HB0.out HB.out)⟩
      · have hcond : (decide (k = 0) || !an) = true := by
          rw [Bool.or_eq_true, decide_eq_true_eq, Bool.not_eq_true']
          by_cases h0 : k = 0
          · exact .inl h0
          · right
            cases an with
            | false => rfl
            | true => exact absurd ⟨by omega, rfl⟩ hst
        have HXX : Hid (∀ V, Below w0.heap.size w0 V → (V.cell? ⟨w.heap.size, 0, none⟩ = some (.slice aL nL cL) ∧ V.cell? ⟨w.heap.size, 1, none⟩ = some (.slice aF nF cF) ∧ V.cell? ⟨w.heap.size, 2, none⟩ = some (.slice aA nA cA) ∧ V.cell? ⟨w.heap.size, 3, none⟩ = some (.slice aO nO cO) ∧ V.cell? ⟨w.heap.size, 4, none⟩ = some (.bool em))) := hid0 (fun V hV => (HX.out V hV).1.1)
        obtain ⟨ad, had⟩ : ∃ ad, (if cW = k then aW else Option.map (fun x => x.add k) aW) = ad := ⟨_, rfl⟩
        have HIA : Hid (∀ V, Below w0.heap.size w0 V → IA V ad (nI (u.drop k))) := hid0 (fun V hV => by
          rw [← had, ← nI_dropU]
          exact (HX.out V hV).2.2.1.tail (by rw [nI_len, ← HEq.out.2.2.2.2.2.2]; exact hnc) (by rw [nI_len, ← HEq.out.2.2.2.2.2.2]; exact hlt))
        have HMt : Hid (∀ (V : World) (a : Option Addr) (c : Nat), Below w0.heap.size w0 V → IA V a (nI (u.drop k)) → Calls Tryd.prog 35 #[.agg #[.slice aL nL cL, .slice aF nF cF, .slice aA nA cA, .slice aO nO cO, .bool em], .slice a (n - k) c] V fun e w' => e = .returned (.bool (matM r.Le r.Fo r.Fi r.La r.em (nI (u.drop k)))) ∧ Hid (Below V.heap.size V w')) := hid0 (fun V a c hV h1 => by
          obtain ⟨_, q1, _, q3, q4⟩ := HX.out V hV
          obtain ⟨e1, e2, e3, e4, e5, e6, e7⟩ := HEq.out
          have h := match_all aL aF aA aO a cL cF cA cO c r.Le r.Fo r.Fi r.La (nI (u.drop k)) r.em V q1 h1 (by rw [nI_len, List.length_drop]; omega) HLi.out (fun z hz => HWi.out z (by
            unfold nI at hz ⊢
            obtain ⟨y, hy, rfl⟩ := List.mem_map.1 hz
            exact List.mem_map_of_mem (List.mem_of_mem_drop hy))) q3 q4
          unfold posV at h
          rw [nI_len, List.length_drop, ← e1, ← e2, ← e3, ← e4, ← e5, ← e7] at h
          rw [← e5]
          exact h.mono (fun e w' q => ⟨q.1, hid0 q.2⟩))
        have HEn : Hid (endA r.Le r.Fo r.Fi r.La r.em r.an u k = matM r.Le r.Fo r.Fi r.La r.em (nI (u.drop k))) := hid0 (by
          unfold endA
          rw [← HEq.out.2.2.2.2.2.1, hcond, Bool.true_and])
        by_cases h0 : 0 < k
        · have h0I : (k : Int) > 0 := by omega
          have han : an = false := by
            cases an with
            | false => rfl
            | true => exact absurd ⟨h0, rfl⟩ hst
          subst han
          clear hcond hst
          go_wp2_with fail
          refine wp_region_noPanic ?_
          refine wp_region_held_drew (S := fun W => (W.cell? ⟨w.heap.size, 0, none⟩ = some (.slice aL nL cL) ∧ W.cell? ⟨w.heap.size, 1, none⟩ = some (.slice aF nF cF) ∧ W.cell? ⟨w.heap.size, 2, none⟩ = some (.slice aA nA cA) ∧ W.cell? ⟨w.heap.size, 3, none⟩ = some (.slice aO nO cO) ∧ W.cell? ⟨w.heap.size, 4, none⟩ = some (.bool em))) (by kernel_rfl) ?_ (fun hHeld => ?_)
          · exact HXX.out _ (bel_drew HB.out)
          refine tkV (i := 0) (d := some 18) (v := ?_) rfl (by kernel_rfl) (by kernel_rfl) (by kernel_rfl) rfl (fun _ _ _ h => h) (by rfl) ?_ (by assumption) ?_
          rotate_left
          · (intro w hSw; (try dsimp only at hSw); (try simp only [List.getElem_toArray, List.getElem_cons_zero]); go_simp; try with_reducible rfl)
          try simp only [Act.put, List.setIfInBounds_toArray, List.set_cons_zero, List.set_cons_succ]
          refine tkV (i := 1) (d := some 19) (v := ?_) rfl (by kernel_rfl) (by kernel_rfl) (by kernel_rfl) rfl (fun _ _ _ h => h) (by rfl) ?_ (by assumption) ?_
          rotate_left
          · (intro w hSw; (try dsimp only at hSw); (try simp only [List.getElem_toArray, List.getElem_cons_zero, List.getElem_cons_succ]); go_simp; try with_reducible rfl)
          try simp only [Act.put, List.setIfInBounds_toArray, List.set_cons_zero, List.set_cons_succ]
          refine tkV (i := 2) (d := some 20) (v := ?_) rfl (by kernel_rfl) (by kernel_rfl) (by kernel_rfl) rfl (fun _ _ _ h => h) (by rfl) ?_ (by assumption) ?_
          rotate_left
          · (intro w hSw; (try dsimp only at hSw); (try simp only [List.getElem_toArray, List.getElem_cons_zero, List.getElem_cons_succ]); go_simp; try with_reducible rfl)
          try simp only [Act.put, List.setIfInBounds_toArray, List.set_cons_zero, List.set_cons_succ]
          refine tkV (i := 3) (d := some 21) (v := ?_) rfl (by kernel_rfl) (by kernel_rfl) (by kernel_rfl) rfl (fun _ _ _ h => h) (by rfl) ?_ (by assumption) ?_
          rotate_left
          · (intro w hSw; (try dsimp only at hSw); (try simp only [List.getElem_toArray, List.getElem_cons_zero, List.getElem_cons_succ]); go_simp; try with_reducible rfl)
          try simp only [Act.put, List.setIfInBounds_toArray, List.set_cons_zero, List.set_cons_succ]
          refine tkV (i := 4) (d := some 22) (v := ?_) rfl (by kernel_rfl) (by kernel_rfl) (by kernel_rfl) rfl (fun _ _ _ h => h) (by rfl) ?_ (by assumption) ?_
          rotate_left
          · (intro w hSw; (try dsimp only at hSw); (try simp only [List.getElem_toArray, List.getElem_cons_zero, List.getElem_cons_succ]); go_simp; try with_reducible rfl)
          try simp only [Act.put, List.setIfInBounds_toArray, List.set_cons_zero, List.set_cons_succ]
          refine wpAnyH_ready (rs := [5]) (by kernel_rfl) (by simp) (AllReadyH.cons rfl (fun K hK => ?_) AllReadyH.nil)
          try simp only [List.getElem_toArray, List.getElem_cons_zero, List.getElem_cons_succ]
          go_simp
          refine (HMt.out _ _ _ (bel_drew HB.out) (HIA.out _ (bel_drew HB.out))).mono ?_
          rintro e w1 ⟨rfl, H1⟩
          go_wp2_with fail
          refine hK.out _ _ ?_ (fun hHeld5 => ?_)
          · exact HXX.out _ (Below.later (bel_drew HB.out) H1.out)
          clear hK K
          (try simp only [Act.put]); (try simp only [List.setIfInBounds_toArray]); (try simp only [List.set_cons_succ]); (try simp only [List.set_cons_zero])
          refine wpAnyH_done (by kernel_rfl) ?_ _
          refine NoPanic.normal ?_
          cases hm : matM r.Le r.Fo r.Fi r.La r.em (nI (u.drop k)) with
          | true =>
            have HE : Hid (endsF r u = true) := hid0 (endsF_yes (k := k) (by rw [← HEq.out.2.2.2.2.2.2]; exact hlt) (by rw [HEn.out, hm]))
            go_wp2
            go_ret
            exact ⟨by rw [HE.out]; rfl, hid0 (Below.later HB0.out (Below.later (bel_drew HB.out) H1.out))⟩
          | false =>
            have HN2 : Hid (∀ f, f < k + 1 → endA r.Le r.Fo r.Fi r.La r.em r.an u f = false) := hid0 (fun f hf => by
              by_cases hfk : f < k
              · exact HN.out f hfk
              · obtain rfl : f = k := by omega
                rw [HEn.out, hm])
            have HB2 : Hid (Below w0.heap.size w0 w1) := hid0 (Below.later (bel_drew HB.out) H1.out)
            go_wp2
            go_roundw
            case rel => exact ⟨k + 1, by omega, by go_num, HN2, HB2⟩
            case measure => simp [intOf]; omega
        · have h0I : ¬ (k : Int) > 0 := by omega
          clear hcond hst
          go_wp2_with fail
          refine wp_region_noPanic ?_
          refine wp_region_held_drew (S := fun W => (W.cell? ⟨w.heap.size, 0, none⟩ = some (.slice aL nL cL) ∧ W.cell? ⟨w.heap.size, 1, none⟩ = some (.slice aF nF cF) ∧ W.cell? ⟨w.heap.size, 2, none⟩ = some (.slice aA nA cA) ∧ W.cell? ⟨w.heap.size, 3, none⟩ = some (.slice aO nO cO) ∧ W.cell? ⟨w.heap.size, 4, none⟩ = some (.bool em))) (by kernel_rfl) ?_ (fun hHeld => ?_)
          · exact HXX.out _ (bel_drew HB.out)
          refine tkV (i := 0) (d := some 18) (v := ?_) rfl (by kernel_rfl) (by kernel_rfl) (by kernel_rfl) rfl (fun _ _ _ h => h) (by rfl) ?_ (by assumption) ?_
          rotate_left
          · (intro w hSw; (try dsimp only at hSw); (try simp only [List.getElem_toArray, List.getElem_cons_zero]); go_simp; try with_reducible rfl)
          try simp only [Act.put, List.setIfInBounds_toArray, List.set_cons_zero, List.set_cons_succ]
          refine tkV (i := 1) (d := some 19) (v := ?_) rfl (by kernel_rfl) (by kernel_rfl) (by kernel_rfl) rfl (fun _ _ _ h => h) (by rfl) ?_ (by assumption) ?_
          rotate_left
          · (intro w hSw; (try dsimp only at hSw); (try simp only [List.getElem_toArray, List.getElem_cons_zero, List.getElem_cons_succ]); go_simp; try with_reducible rfl)
          try simp only [Act.put, List.setIfInBounds_toArray, List.set_cons_zero, List.set_cons_succ]
          refine tkV (i := 2) (d := some 20) (v := ?_) rfl (by kernel_rfl) (by kernel_rfl) (by kernel_rfl) rfl (fun _ _ _ h => h) (by rfl) ?_ (by assumption) ?_
          rotate_left
          · (intro w hSw; (try dsimp only at hSw); (try simp only [List.getElem_toArray, List.getElem_cons_zero, List.getElem_cons_succ]); go_simp; try with_reducible rfl)
          try simp only [Act.put, List.setIfInBounds_toArray, List.set_cons_zero, List.set_cons_succ]
          refine tkV (i := 3) (d := some 21) (v := ?_) rfl (by kernel_rfl) (by kernel_rfl) (by kernel_rfl) rfl (fun _ _ _ h => h) (by rfl) ?_ (by assumption) ?_
          rotate_left
          · (intro w hSw; (try dsimp only at hSw); (try simp only [List.getElem_toArray, List.getElem_cons_zero, List.getElem_cons_succ]); go_simp; try with_reducible rfl)
          try simp only [Act.put, List.setIfInBounds_toArray, List.set_cons_zero, List.set_cons_succ]
          refine tkV (i := 4) (d := some 22) (v := ?_) rfl (by kernel_rfl) (by kernel_rfl) (by kernel_rfl) rfl (fun _ _ _ h => h) (by rfl) ?_ (by assumption) ?_
          rotate_left
          · (intro w hSw; (try dsimp only at hSw); (try simp only [List.getElem_toArray, List.getElem_cons_zero, List.getElem_cons_succ]); go_simp; try with_reducible rfl)
          try simp only [Act.put, List.setIfInBounds_toArray, List.set_cons_zero, List.set_cons_succ]
          refine wpAnyH_ready (rs := [5]) (by kernel_rfl) (by simp) (AllReadyH.cons rfl (fun K hK => ?_) AllReadyH.nil)
          try simp only [List.getElem_toArray, List.getElem_cons_zero, List.getElem_cons_succ]
          go_simp
          refine (HMt.out _ _ _ (bel_drew HB.out) (HIA.out _ (bel_drew HB.out))).mono ?_
          rintro e w1 ⟨rfl, H1⟩
          go_wp2_with fail
          refine hK.out _ _ ?_ (fun hHeld5 => ?_)
          · exact HXX.out _ (Below.later (bel_drew HB.out) H1.out)
          clear hK K
          (try simp only [Act.put]); (try simp only [List.setIfInBounds_toArray]); (try simp only [List.set_cons_succ]); (try simp only [List.set_cons_zero])
          refine wpAnyH_done (by kernel_rfl) ?_ _
          refine NoPanic.normal ?_
          cases hm : matM r.Le r.Fo r.Fi r.La r.em (nI (u.drop k)) with
          | true =>
            have HE : Hid (endsF r u = true) := hid0 (endsF_yes (k := k) (by rw [← HEq.out.2.2.2.2.2.2]; exact hlt) (by rw [HEn.out, hm]))
            go_wp2
            go_ret
            exact ⟨by rw [HE.out]; rfl, hid0 (Below.later HB0.out (Below.later (bel_drew HB.out) H1.out))⟩
          | false =>
            have HN2 : Hid (∀ f, f < k + 1 → endA r.Le r.Fo r.Fi r.La r.em r.an u f = false) := hid0 (fun f hf => by
              by_cases hfk : f < k
              · exact HN.out f hfk
              · obtain rfl : f = k := by omega
                rw [HEn.out, hm])
            have HB2 : Hid (Below w0.heap.size w0 w1) := hid0 (Below.later (bel_drew HB.out) H1.out)
            go_wp2
            go_roundw
            case rel => exact ⟨k + 1, by omega, by go_num, HN2, HB2⟩
            case measure => simp [intOf]; omega
    · have hkI : ¬ (k : Int) ≤ (n : Int) := by omega
      have HE : Hid (endsF r u = false) := hid0 (endsF_no (fun f hf => HN.out f (by rw [← HEq.out.2.2.2.2.2.2] at hf; omega)))
      go_wp2
      go_ret
      exact ⟨by rw [HE.out]; rfl, hid0 (Below.later HB0.out HB.out)⟩
end Go.Proofs.YtleeedjpccooaaaDoor
namespace Go.Proofs.YtleeedjpccooaaaDoor
open Go.RowKit Go.Shelf
theorem inI_small (z : Int) (h0 : 0 ≤ z) (h1 : z ≤ 16384) : inI z := by
  unfold inI
  simp [Lit.wf, IntKind.min, IntKind.max, IntKind.signed, IntKind.bits]
  omega
def wdN (sy : Nat) (l : List Int) : List Nat := (l.take 14).map fun k => pickN k sy
theorem wdF_nI (sy : Nat) (l : List Int) : wdF sy l = nI (wdN sy l) := by
  unfold wdF wdN nI
  rw [List.map_map]
  rfl
theorem wdN_lt {sy : Nat} (h : 0 < sy) (l : List Int) : ∀ c ∈ wdN sy l, c < sy := fun c hc => by
  unfold wdN at hc
  obtain ⟨k, _, rfl⟩ := List.mem_map.1 hc
  exact pickN_lt k sy h
/-- The patterns that end, of the first ones. -/
def wantK (rs : List Pr) (u : List Nat) (k : Nat) : List Nat := (List.range k).filter fun j => match rs[j]? with | none => false | some r => endsF r u
theorem wantK_succ (rs : List Pr) (u : List Nat) {k : Nat} (hk : k < rs.length) : wantK rs u (k + 1) = if endsF rs[k] u = true then wantK rs u k ++ [k] else wantK rs u k := by
  unfold wantK
  rw [List.range_succ, List.filter_append]
  by_cases h : endsF rs[k] u = true
  · rw [if_pos h, List.filter_cons_of_pos (by rw [List.getElem?_eq_getElem hk]; exact h)]
    rfl
  · rw [if_neg h, List.filter_cons_of_neg (by rw [List.getElem?_eq_getElem hk]; exact h), List.filter_nil, List.append_nil]
theorem wantK_len (rs : List Pr) (u : List Nat) (k : Nat) : (wantK rs u k).length ≤ k := by
  unfold wantK
  refine Nat.le_trans (List.length_filter_le _ _) ?_
  rw [List.length_range]
  exact Nat.le_refl _
theorem nI_takeU (l : List Nat) (k : Nat) : (nI l).take k = nI (l.take k) := by unfold nI; rw [List.map_take]
theorem ownI_past {W W' : World} {lo : Nat} {v : Value} {L : List Int} (h : OwnI W lo v L) (hb : Below W.heap.size W W') : OwnI W' lo v L := own_blk h (fun k hk => hb.block k (World.ownsRow.lt h k hk).2)
theorem wantF_K (rs : List Pr) (u : List Nat) : wantF rs u = wantK rs u rs.length := rfl
set_option maxRecDepth 10000 in
set_option maxHeartbeats 1600000 in
theorem machineTells_any (A : Nat → Addr) (rs : List Pr) (sy : Int) (Wd : List Int) (aP aW : Option Addr) (cP cW : Nat) (w : World) (hj : JobI w A aP rs sy 16384) (hW : IA w aW Wd) :
    Calls Tryd.prog 6 #[.agg #[.slice aP rs.length cP, .int .i64 sy, .slice aW Wd.length cW]] w fun e w' => e = .returned (.bool true) ∧ Below w.heap.size w w' := by
  obtain ⟨hp, he, hB, hs63, hs64, _, _⟩ := hj
  obtain ⟨rn, hrn⟩ : ∃ rn, rn = rs.length := ⟨_, rfl⟩
  obtain ⟨wn, hwn⟩ : ∃ wn, wn = Wd.length := ⟨_, rfl⟩
  obtain ⟨w0, hw0⟩ : ∃ w0, w0 = w.alloc (.cells #[.slice aP rs.length cP, .int .i64 sy, .slice aW Wd.length cW] 38) := ⟨_, rfl⟩
  have hb0 : Below w.heap.size w w0 := by rw [hw0]; exact below_alloc1 _ _
  have hr0 : w0.heap[w.heap.size]? = some (.cells #[.slice aP rs.length cP, .int .i64 sy, .slice aW Wd.length cW] 38 (0, 0)) := by rw [hw0]; exact heap_alloc_new w _
  have HX : Hid (∀ V, Below w0.heap.size w0 V → (V.cell? ⟨w.heap.size, 0, none⟩ = some (.slice aP rn cP) ∧ V.cell? ⟨w.heap.size, 1, none⟩ = some (.int .i64 sy) ∧ V.cell? ⟨w.heap.size, 2, none⟩ = some (.slice aW wn cW)) ∧ PaI V aP rs ∧ EnvM V A ∧ IA V aW Wd) := hid0 (fun V hV => by
    have hc := row3c ((hV.block _ (Array.getElem?_eq_some_iff.1 hr0).1).trans hr0)
    rw [← hrn, ← hwn] at hc
    exact ⟨hc, hp.past (Below.later hb0 hV), he.past (Below.later hb0 hV), hW.past (Below.later hb0 hV)⟩)
  have HBe : Hid (Calls Tryd.prog 8 #[] w0 fun e w' => e = .returned (.bool true) ∧ Hid (Below w0.heap.size w0 w')) := hid0 (begun_any A w0 (he.past hb0))
  have HB0 := hid0 hb0
  have hfold := hw0.symm
  rw [← hrn, ← hwn] at hfold ⊢
  clear hp he hb0 hr0 hw0 hW
  cases hq : bldF rs sy 16384 with
  | error i =>
    have hno := bldF_no hq
    have HBu : Hid (∀ V, Below w0.heap.size w0 V → Calls Tryd.prog 9 #[.slice aP rn cP, .int .i64 sy, .int .i64 16384] V fun e w' => e = .returned (.tuple #[.agg #[.int .i64 0, .slice none 0 0, .slice none 0 0], .iface 157 (.pointer (some (A i)))]) ∧ Hid (Below V.heap.size V w')) := hid0 (fun V hV => by
      have h := build_err (c := cP) hq (HX.out V hV).2.1 (HX.out V hV).2.2.1 hs63 hs64 (by decide) (by decide) hB
      rw [← hrn] at h
      exact h)
    have HR := hid0 hrn
    have HR2 := hid0 hwn
    clear hq hrn hB hwn
    rcases hno with rfl | rfl
    all_goals
      go_enter Tryd.func6, Tryd.ntmps6
      go_upto_region 4 with (first
        | (go_at_call 8; go_loud ((refine HBe.out.mono ?_; rintro e w1 ⟨rfl, H1⟩; obtain ⟨⟨x0, x1, x2⟩, _⟩ := HX.out w1 H1.out)))
        | (go_at_call 9; go_loud ((refine (HBu.out w1 H1.out).mono ?_; rintro e w2 ⟨rfl, H2⟩))))
      obtain ⟨w3, h3⟩ : ∃ w3, w3 = w2.alloc (.cells #[.int .i64 0, .slice none 0 0, .slice none 0 0] 28) := ⟨_, rfl⟩
      rw [← h3]
      have hr3 : w3.heap[w2.heap.size]? = some (.cells #[.int .i64 0, .slice none 0 0, .slice none 0 0] 28 (0, 0)) := by rw [h3]; exact heap_alloc_new w2 _
      obtain ⟨m0, m1, m2⟩ := row3c hr3
      have hb3 : Below w0.heap.size w0 w3 := by rw [h3]; exact Below.later H1.out (Below.later H2.out (below_alloc1 _ _))
      have E3 := (HX.out w3 hb3).2.2.1
      have e0 := E3.t.sen.c0
      have e2 := E3.t.sen.c2
      have heq := eq_same w3
      have heq2 := E3.eq20
      have HF : Hid (Below w.heap.size w w3) := hid0 (Below.later HB0.out hb3)
      clear h3 hr3 x0 x1 x2 E3 hb3
      go_wp2
      go_ret
      exact ⟨rfl, HF.out⟩
  | ok b =>
    have hv := bldF_ok hq
    obtain ⟨v1, v2, v3, v4, v5, v6⟩ := hv.val
    have hs1 := hv.s1
    have hs2 := hv.s2
    obtain ⟨syn, rfl⟩ : ∃ syn : Nat, sy = (syn : Int) := ⟨sy.toNat, by omega⟩
    obtain ⟨NN, hNN⟩ : ∃ NN, NN = b.nx.length := ⟨_, rfl⟩
    obtain ⟨N, hN⟩ : ∃ N, N = b.nx.map nI := ⟨_, rfl⟩
    obtain ⟨O, hO⟩ : ∃ O, O = b.ou.map nI := ⟨_, rfl⟩
    obtain ⟨u, hu⟩ : ∃ u, u = wdN syn Wd := ⟨_, rfl⟩
    obtain ⟨wd, hwd⟩ : ∃ wd, wd = wdF syn Wd := ⟨_, rfl⟩
    have hwu : wd = nI u := by rw [hwd, hu, wdF_nI]
    obtain ⟨n, hn⟩ : ∃ n, n = wd.length := ⟨_, rfl⟩
    have hNl : N.length = NN := by rw [hN, List.length_map, hNN]
    obtain ⟨L, hL⟩ : ∃ L, runF N (0 : Int) wd = some L := by
      have := runF_some (N := N) (sy := (syn : Int)) (by rw [hN]; exact hv.rows) wd 0 (by omega) (by rw [hwd]; exact wdF_ok (by omega) Wd)
      exact this
    have hn14 : n ≤ 14 := by rw [hn, hwd, wdF_len]; omega
    have hLl : L.length = n + 1 := by rw [runF_len hL, hn]
    have HN : Hid (N.length = NN ∧ ∀ r ∈ N, r.length ≤ 17592186043904) := hid0 ⟨hNl, fun r hr => by have := (hv.rows r (by rw [← hN]; exact hr)).1; omega⟩
    have hun : u.length = n := by rw [hn, hwu, nI_len]
    have HL : Hid (runF N (0 : Int) wd = some L ∧ L.length = n + 1 ∧ wd.length = n ∧ wd = nI u ∧ u.length = n) := hid0 ⟨hL, hLl, hn.symm, hwu, hun⟩
    have hul : ∀ c ∈ u, c < syn := by rw [hu]; exact wdN_lt (by omega) Wd
    have HOu : Hid (O.length = NN ∧ ∀ i, i ≤ n → ∃ t : Nat, L[i]? = some (t : Int) ∧ t < NN ∧ O[t]? = some (nI (wantK rs (u.take i) rs.length))) := hid0 ⟨by rw [hO, List.length_map, v2, hNN], fun i hi => by
      obtain ⟨t, g1, g2, _⟩ := out_run hv hB.pl (w := u) (by rw [Int.toNat_natCast]; exact hul) (L := L) (by rw [← hN, ← hwu]; exact hL) i (by rw [hun]; exact hi)
      have ht := (List.getElem?_eq_some_iff.1 g2).1
      exact ⟨t, g1, by omega, by rw [hO, List.getElem?_map, g2]; rfl⟩⟩
    have HLi : Hid ((∀ r ∈ rs, ∀ l ∈ r.Le, ∀ z ∈ l, inI z) ∧ ∀ k, ∀ z ∈ nI (u.take k), inI z) := hid0 ⟨fun r hr l hl z hz => by
      have := (hv.ok r hr).le l hl z hz
      exact inI_small z (by omega) (by omega), fun k z hz => by
      unfold nI at hz
      obtain ⟨c, hc, rfl⟩ := List.mem_map.1 hz
      have := hul c (List.mem_of_mem_take hc)
      exact inI_small _ (by omega) (by omega)⟩
    have hrl : rs.length ≤ 10000000 := hB.len
    have HB1 : Hid (∀ V, Below w0.heap.size w0 V → Calls Tryd.prog 9 #[.slice aP rn cP, .int .i64 (syn : Int), .int .i64 16384] V fun e w' => ∃ aN aO cN cO, e = .returned (.tuple #[.agg #[.int .i64 0, .slice aN NN cN, .slice aO NN cO], .nilIface]) ∧ Hid (RwA w' aN N ∧ RwA w' aO O ∧ Below V.heap.size V w')) := hid0 (fun V hV => by
      have h := build_ok (c := cP) hq (HX.out V hV).2.1 (HX.out V hV).2.2.1 hs63 hs64 (by decide) (by decide) hB
      rw [← hrn] at h
      refine h.mono (fun e w' h => ?_)
      obtain ⟨aN, aO, cN, cO, q1, q2⟩ := h
      rw [v2, ← hNN] at q1
      exact ⟨aN, aO, cN, cO, q1, hid0 ⟨by rw [hN]; exact q2.out.1, by rw [hO]; exact q2.out.2.1, q2.out.2.2⟩⟩)
    have HWd : Hid (∀ V, Below w0.heap.size w0 V → Calls Tryd.prog 12 #[.agg #[.slice aP rn cP, .int .i64 (syn : Int), .slice aW wn cW]] V fun e w' => ∃ aV cV, e = .returned (.slice aV n cV) ∧ n ≤ cV ∧ Hid (IA w' aV wd ∧ (aV = none → cV = 0) ∧ Below V.heap.size V w')) := hid0 (fun V hV => by
      have h := word_any syn Wd aP aW rn cP cW V (by omega) (by omega) (HX.out V hV).2.2.2
      rw [← hwn] at h
      refine h.mono (fun e w' h => ?_)
      obtain ⟨v, q1, q2, q3⟩ := h
      rw [← hwd] at q2
      obtain ⟨a, c, rfl, r1, r2, r3⟩ := OwnI.cap q2.out
      rw [← hn] at q1 r2
      exact ⟨a, c, q1, r2, hid0 ⟨r1, r3, q3.out⟩⟩)
    have HSen : Hid (∀ V, Below w0.heap.size w0 V → Sen2 V A) := hid0 (fun V hV => (HX.out V hV).2.2.1.t.sen)
    have HRun : Hid (∀ (V : World) (s : Nat) (l r : List Int) (ln : Nat) (aN aO aw : Option Addr) (cN cO cw : Nat), Below w0.heap.size w0 V → ln = l.length → ln ≤ 1000 → RwA V aN N → IA V aw l → runF N (s : Int) l = some r → Calls Tryd.prog 13 #[.agg #[.int .i64 (s : Int), .slice aN NN cN, .slice aO NN cO], .slice aw ln cw] V fun e w' => ∃ T cT, e = .returned (.tuple #[.slice (some ⟨T, 0, none⟩) (ln + 1) cT, .nilIface]) ∧ ln + 1 ≤ cT ∧ Hid (IA w' (some ⟨T, 0, none⟩) r ∧ Below V.heap.size V w')) := hid0 (fun V s l r ln aN aO aw cN cO cw hV e1 e2 h1 h2 h3 => by
      subst e1
      have h := mrun_two A (s : Int) N l aN aO aw cN NN cO cw V HN.out.2 (by omega) h1 h2 (HSen.out V hV)
      rw [HN.out.1, h3] at h
      refine h.mono (fun e w' q => ?_)
      obtain ⟨v, q1, q2, q3⟩ := q
      have hrl := runF_len h3
      obtain ⟨T, cT, rfl, r2⟩ := OwnI.box q2 (by rw [Option.getD_some, hrl]; omega)
      rw [Option.getD_some, hrl] at r2
      refine ⟨T, cT, ?_, r2.1, hid0 ⟨r2.2, q3⟩⟩
      rw [q1, Option.getD_some, hrl]
      rfl)
    have HR := hid0 hrn
    have HR2 := hid0 hwn
    have hNN2 : NN ≤ 16384 := by omega
    have hNN1 : 1 ≤ NN := by omega
    have hrl2 : rn ≤ 10000000 := by rw [hrn]; exact hrl
    clear hq hv v1 v2 v3 v4 v5 v6 hNN hrn hB hwn hwd hN hL hLl hn hNl hO hu hwu hun hul hrl
    have hwr : IntKind.i64.wrap ((n : Int) + 1) = (n : Int) + 1 := by simp [IntKind.wrap, IntKind.bits, IntKind.signed]; omega
    go_enter Tryd.func6, Tryd.ntmps6
    go_upto_region 4 with (first
      | (go_at_call 8; go_loud ((refine HBe.out.mono ?_; rintro e w1 ⟨rfl, H1⟩; obtain ⟨⟨x0, x1, x2⟩, _⟩ := HX.out w1 H1.out)))
      | (go_at_call 9; go_loud ((refine (HB1.out w1 H1.out).mono ?_; rintro e w2 ⟨aN, aO, cN, cO, rfl, H2⟩))))
    obtain ⟨w3, hw3⟩ : ∃ w3, w3 = w2.alloc (.cells #[.int .i64 0, .slice aN NN cN, .slice aO NN cO] 28) := ⟨_, rfl⟩
    rw [← hw3]
    obtain ⟨M, hM⟩ : ∃ M, M = w2.heap.size := ⟨_, rfl⟩
    rw [← hM]
    have hr3 : w3.heap[M]? = some (.cells #[.int .i64 0, .slice aN NN cN, .slice aO NN cO] 28 (0, 0)) := by rw [hw3, hM]; exact heap_alloc_new w2 _
    have hb3 : Below w2.heap.size w2 w3 := by rw [hw3]; exact below_alloc1 _ _
    have HA1 : Hid (∀ V, Below w3.heap.size w3 V → (RwA V aN N ∧ RwA V aO O) ∧ Below w0.heap.size w0 V ∧ V.heap[M]? = some (.cells #[.int .i64 0, .slice aN NN cN, .slice aO NN cO] 28 (0, 0))) := hid0 (fun V hV => ⟨⟨(H2.out.1.past hb3).past hV, (H2.out.2.1.past hb3).past hV⟩, Below.later H1.out (Below.later H2.out.2.2 (Below.later hb3 hV)), (hV.block _ (Array.getElem?_eq_some_iff.1 hr3).1).trans hr3⟩)
    obtain ⟨m0, m1, m2⟩ := row3c hr3
    obtain ⟨⟨y0, y1, y2⟩, _⟩ := HX.out w3 (HA1.out w3 (Below.refl _ _)).2.1
    have HWd3 := hid0 (HWd.out w3 (HA1.out w3 (Below.refl _ _)).2.1)
    clear hw3 hM hr3 hb3 x0 x1 x2 H1 H2 HB1 HBe HWd
    go_upto_region 7 with (go_at_call 12; go_loud ((refine HWd3.out.mono ?_; rintro e w4 ⟨aV, cV, rfl, hcV, H4⟩; clear m0 m1 m2 y0 y1 y2; obtain ⟨m0, m1, m2⟩ := row3c (HA1.out w4 H4.out.2.2).2.2; obtain ⟨⟨y0, y1, y2⟩, _⟩ := HX.out w4 (HA1.out w4 H4.out.2.2).2.1)))
    have HR4 := hid0 (HRun.out w4 0 wd L n aN aO aV cN cO cV (HA1.out w4 H4.out.2.2).2.1 HL.out.2.2.1.symm (by omega) (HA1.out w4 H4.out.2.2).1.1 H4.out.1 HL.out.1)
    clear HWd3
    go_upto_region 8 with (go_at_call 13; go_loud ((refine HR4.out.mono ?_; rintro e w5 ⟨R, cR, rfl, hcR, H5⟩)))
    clear m0 m1 m2 y0 y1 y2 HR4
    have HX5 : Hid (∀ V, Below w5.heap.size w5 V → RwA V aO O ∧ Below w0.heap.size w0 V ∧ (V.cell? ⟨M, 0, none⟩ = some (.int .i64 0) ∧ V.cell? ⟨M, 1, none⟩ = some (.slice aN NN cN) ∧ V.cell? ⟨M, 2, none⟩ = some (.slice aO NN cO)) ∧ IA V aV wd ∧ IA V (some ⟨R, 0, none⟩) L) := hid0 (fun V hV => by
      have k4 : Below w4.heap.size w4 V := Below.later H5.out.2 hV
      have k3 := HA1.out V (Below.later H4.out.2.2 k4)
      exact ⟨k3.1.2, k3.2.1, row3c k3.2.2, H4.out.1.past k4, H5.out.1.past hV⟩)
    have HnV := hid0 H4.out.2.1
    have HF5 : Hid (Below w.heap.size w w5) := hid0 (Below.later HB0.out (HX5.out w5 (Below.refl _ _)).2.1)
    have HSame : Hid (∀ (V : World) (l : List Int) (ln lm : Nat) (a b : Option Addr) (ca cb : Nat), ln = l.length → lm = l.length → ln ≤ 1000000000 → IA V a l → IA V b l → Calls Tryd.prog 14 #[.slice a ln ca, .slice b lm cb] V fun e w' => e = .returned (.bool true) ∧ ∃ n, w' = V.drewN n) := hid0 (fun V l ln lm a b ca cb e1 e2 e3 h1 h2 => by
      subst e2
      subst e1
      exact sameI l a b ca cb V (by omega) h1 h2)
    have HXP : Hid (∀ V, Below w5.heap.size w5 V → V.cell? ⟨w.heap.size, 0, none⟩ = some (.slice aP rn cP) ∧ PaI V aP rs ∧ TabAt 11 Lib.deBruijn64tab V ∧ 11 < V.heap.size) := hid0 (fun V hV => by
      have q := HX.out V (HX5.out V hV).2.1
      exact ⟨q.1.1, q.2.1, q.2.2.1.t.tab, q.2.2.1.t.tl⟩)
    clear HX HA1 H4 H5 hfold
    go_upto_region 11 with fail
    go_loopw [8] (fun q wr => ∃ i : Nat, i ≤ n + 1 ∧ q = .int .i64 (i : Int) ∧ Hid (Below w5.heap.size w5 wr)) (fun q _ => n + 1 - (intOf q).toNat)
    case atStart => exact ⟨0, Nat.zero_le _, rfl, hid0 (Below.refl _ _)⟩
    case round =>
      obtain ⟨i, hi, rfl, HB⟩ := hrel
      by_cases hlt : i ≤ n
      · have hiI : (i : Int) ≤ (n : Int) := by omega
        have hiI0 : (0 : Int) ≤ (i : Int) := by omega
        have hic : (i : Int) ≤ (cV : Int) := by omega
        go_upto_region 15 with fail
        go_loopw [9, 10] (fun v q wr => ∃ k : Nat, k ≤ rn ∧ q = .int .i64 (k : Int) ∧ Hid (OwnI wr w5.heap.size v (nI (wantK rs (u.take i) k))) ∧ Hid (Below w5.heap.size w5 wr)) (fun _ q _ => rn - (intOf q).toNat)
        case atStart => exact ⟨0, Nat.zero_le _, rfl, hid0 (World.ownsRow_nil _ _ _ _), HB⟩
        case round =>
          obtain ⟨k, hk, rfl, HO, HB2⟩ := hrel
          obtain ⟨p0, p1, _⟩ := HXP.out wr HB2.out
          by_cases hkl : k < rn
          · have hkI : (k : Int) < (rn : Int) := by omega
            have hkI0 : (0 : Int) ≤ (k : Int) := by omega
            have hkr : k < rs.length := by rw [← HR.out]; exact hkl
            obtain ⟨bp, op, hap, hbl, aL, aF, aA, aO2, cL, cF, cA, cO2, y0, y1, y2, y3, y4, y5, _, y7⟩ := (HXP.out w5 (Below.refl _ _)).2.1.at' k hkr
            have tr : ∀ V, Below w5.heap.size w5 V → ∀ j, V.cell? ⟨bp, j, none⟩ = w5.cell? ⟨bp, j, none⟩ := fun V hV j => hV.cell (p := ⟨bp, j, none⟩) hbl
            obtain ⟨r, hr⟩ : ∃ r, r = rs[k] := ⟨_, rfl⟩
            have hrm : r ∈ rs := by rw [hr]; exact List.getElem_mem hkr
            rw [← hr] at y0 y1 y2 y3 y4 y5 y7
            obtain ⟨nL, hnL⟩ : ∃ x, x = r.Le.length := ⟨_, rfl⟩
            obtain ⟨nF, hnF⟩ : ∃ x, x = r.Fi.length := ⟨_, rfl⟩
            obtain ⟨nA, hnA⟩ : ∃ x, x = r.La.length := ⟨_, rfl⟩
            obtain ⟨nO, hnO⟩ : ∃ x, x = r.Fo.length := ⟨_, rfl⟩
            obtain ⟨em, hem⟩ : ∃ x, x = r.em := ⟨_, rfl⟩
            obtain ⟨an, han⟩ : ∃ x, x = r.an := ⟨_, rfl⟩
            rw [← hnL] at y0
            rw [← hnF] at y1
            rw [← hnA] at y2
            rw [← hnO] at y3
            rw [← hem] at y4
            rw [← han] at y5
            have HXX : Hid (∀ V, Below w5.heap.size w5 V → V.cell? ⟨w.heap.size, 0, none⟩ = some (.slice (some ⟨bp, op, none⟩) rn cP) ∧ V.cell? ⟨bp, op + k * 6, none⟩ = some (.slice aL nL cL) ∧ V.cell? ⟨bp, op + k * 6 + 1, none⟩ = some (.slice aF nF cF) ∧ V.cell? ⟨bp, op + k * 6 + 2, none⟩ = some (.slice aA nA cA) ∧ V.cell? ⟨bp, op + k * 6 + 3, none⟩ = some (.slice aO2 nO cO2) ∧ V.cell? ⟨bp, op + k * 6 + 4, none⟩ = some (.bool em) ∧ V.cell? ⟨bp, op + k * 6 + 5, none⟩ = some (.bool an)) := hid0 (fun V hV => ⟨by
              have q := (HXP.out V hV).1
              rw [hap] at q
              exact q, (tr V hV _).trans y0, (tr V hV _).trans y1, (tr V hV _).trans y2, (tr V hV _).trans y3, (tr V hV _).trans y4, (tr V hV _).trans y5⟩)
            have HEn : Hid (∀ (V : World) (a : Option Addr), Below w5.heap.size w5 V → IA V a (nI (u.take i)) → Calls Tryd.prog 15 #[.agg #[.slice aL nL cL, .slice aF nF cF, .slice aA nA cA, .slice aO2 nO cO2, .bool em, .bool an], .slice a i cV] V fun e w' => e = .returned (.bool (endsF r (u.take i))) ∧ Hid (Below V.heap.size V w')) := hid0 (fun V a hV h1 => by
              obtain ⟨_, _, q3, q4⟩ := HXP.out V hV
              have h := ends_any aL aF aA aO2 a cL cF cA cO2 cV i r (u.take i) V (y7.past hV) h1 (by rw [List.length_take, HL.out.2.2.2.2]; omega) (by omega) (by omega) (HLi.out.1 r hrm) (HLi.out.2 i) q3 q4
              rw [← hnL, ← hnF, ← hnA, ← hnO, ← hem, ← han] at h
              exact h)
            have HIW : Hid (∀ V, Below w5.heap.size w5 V → IA V aV (nI (u.take i))) := hid0 (fun V hV => by
              have q := (HX5.out V hV).2.2.2.1.head i
              rw [HL.out.2.2.2.1] at q
              rw [← nI_takeU]
              exact q)
            have HWs : Hid (wantK rs (u.take i) (k + 1) = if endsF r (u.take i) = true then wantK rs (u.take i) k ++ [k] else wantK rs (u.take i) k) := hid0 (by rw [wantK_succ rs _ hkr, ← hr])
            have hwl := wantK_len rs (u.take i) k
            rw [hap] at p0
            clear hap hbl tr hr hrm hnL hnF hnA hnO hem han y0 y1 y2 y3 y4 y5 y7 p1 hkr
            go_wp2_with fail
            refine wp_region_noPanic ?_
            refine wp_region_held_drew (S := fun W => W.cell? ⟨w.heap.size, 0, none⟩ = some (.slice (some ⟨bp, op, none⟩) rn cP) ∧ W.cell? ⟨bp, op + k * 6, none⟩ = some (.slice aL nL cL) ∧ W.cell? ⟨bp, op + k * 6 + 1, none⟩ = some (.slice aF nF cF) ∧ W.cell? ⟨bp, op + k * 6 + 2, none⟩ = some (.slice aA nA cA) ∧ W.cell? ⟨bp, op + k * 6 + 3, none⟩ = some (.slice aO2 nO cO2) ∧ W.cell? ⟨bp, op + k * 6 + 4, none⟩ = some (.bool em) ∧ W.cell? ⟨bp, op + k * 6 + 5, none⟩ = some (.bool an)) (by kernel_rfl) ?_ (fun hHeld => ?_)
            · exact HXX.out _ (bel_drew HB2.out)
            refine tkV (i := 0) (d := some 62) (v := ?_) rfl (by kernel_rfl) (by kernel_rfl) (by kernel_rfl) rfl (fun _ _ _ h => h) (by rfl) ?_ (by assumption) ?_
            rotate_left
            · (intro w hSw; (try dsimp only at hSw); (try simp only [List.getElem_toArray, List.getElem_cons_zero]); go_simp; try with_reducible rfl)
            try simp only [Act.put, List.setIfInBounds_toArray, List.set_cons_zero, List.set_cons_succ]
            refine tkV (i := 1) (d := some 63) (v := ?_) rfl (by kernel_rfl) (by kernel_rfl) (by kernel_rfl) rfl (fun _ _ _ h => h) (by rfl) ?_ (by assumption) ?_
            rotate_left
            · (intro w hSw; (try dsimp only at hSw); (try simp only [List.getElem_toArray, List.getElem_cons_zero, List.getElem_cons_succ]); go_simp; try with_reducible rfl)
            try simp only [Act.put, List.setIfInBounds_toArray, List.set_cons_zero, List.set_cons_succ]
            refine tkV (i := 2) (d := some 64) (v := ?_) rfl (by kernel_rfl) (by kernel_rfl) (by kernel_rfl) rfl (fun _ _ _ h => h) (by rfl) ?_ (by assumption) ?_
            rotate_left
            · (intro w hSw; (try dsimp only at hSw); (try simp only [List.getElem_toArray, List.getElem_cons_zero, List.getElem_cons_succ]); go_simp; try with_reducible rfl)
            try simp only [Act.put, List.setIfInBounds_toArray, List.set_cons_zero, List.set_cons_succ]
            refine tkV (i := 3) (d := some 65) (v := ?_) rfl (by kernel_rfl) (by kernel_rfl) (by kernel_rfl) rfl (fun _ _ _ h => h) (by rfl) ?_ (by assumption) ?_
            rotate_left
            · (intro w hSw; (try dsimp only at hSw); (try simp only [List.getElem_toArray, List.getElem_cons_zero, List.getElem_cons_succ]); go_simp; try with_reducible rfl)
            try simp only [Act.put, List.setIfInBounds_toArray, List.set_cons_zero, List.set_cons_succ]
            refine tkV (i := 4) (d := some 66) (v := ?_) rfl (by kernel_rfl) (by kernel_rfl) (by kernel_rfl) rfl (fun _ _ _ h => h) (by rfl) ?_ (by assumption) ?_
            rotate_left
            · (intro w hSw; (try dsimp only at hSw); (try simp only [List.getElem_toArray, List.getElem_cons_zero, List.getElem_cons_succ]); go_simp; try with_reducible rfl)
            try simp only [Act.put, List.setIfInBounds_toArray, List.set_cons_zero, List.set_cons_succ]
            refine tkV (i := 5) (d := some 67) (v := ?_) rfl (by kernel_rfl) (by kernel_rfl) (by kernel_rfl) rfl (fun _ _ _ h => h) (by rfl) ?_ (by assumption) ?_
            rotate_left
            · (intro w hSw; (try dsimp only at hSw); (try simp only [List.getElem_toArray, List.getElem_cons_zero, List.getElem_cons_succ]); go_simp; try with_reducible rfl)
            try simp only [Act.put, List.setIfInBounds_toArray, List.set_cons_zero, List.set_cons_succ]
            refine tkV (i := 6) (d := some 68) (v := ?_) rfl (by kernel_rfl) (by kernel_rfl) (by kernel_rfl) rfl (fun _ _ _ h => h) (by rfl) ?_ (by assumption) ?_
            rotate_left
            · (intro w hSw; (try dsimp only at hSw); (try simp only [List.getElem_toArray, List.getElem_cons_zero, List.getElem_cons_succ]); go_simp; try with_reducible rfl)
            try simp only [Act.put, List.setIfInBounds_toArray, List.set_cons_zero, List.set_cons_succ]
            refine tkV (i := 7) (d := some 69) (v := ?_) rfl (by kernel_rfl) (by kernel_rfl) (by kernel_rfl) rfl (fun _ _ _ h => h) (by rfl) ?_ (by assumption) ?_
            rotate_left
            · (intro w hSw; (try dsimp only at hSw); (try simp only [List.getElem_toArray, List.getElem_cons_zero, List.getElem_cons_succ]); go_simp; try with_reducible rfl)
            try simp only [Act.put, List.setIfInBounds_toArray, List.set_cons_zero, List.set_cons_succ]
            refine wpAnyH_ready (rs := [8]) (by kernel_rfl) (by simp) (AllReadyH.cons rfl (fun K hK => ?_) AllReadyH.nil)
            try simp only [List.getElem_toArray, List.getElem_cons_zero, List.getElem_cons_succ]
            go_simp
            refine (HEn.out _ _ (bel_drew HB2.out) (HIW.out _ (bel_drew HB2.out))).mono ?_
            rintro e w6 ⟨rfl, H6⟩
            go_wp2_with fail
            refine hK.out _ _ ?_ (fun hHeld8 => ?_)
            · exact HXX.out _ (Below.later (bel_drew HB2.out) H6.out)
            clear hK K
            (try simp only [Act.put]); (try simp only [List.setIfInBounds_toArray]); (try simp only [List.set_cons_succ]); (try simp only [List.set_cons_zero])
            refine wpAnyH_done (by kernel_rfl) ?_ _
            refine NoPanic.normal ?_
            have HB6 : Hid (Below w5.heap.size w5 w6) := hid0 (Below.later (bel_drew HB2.out) H6.out)
            have HO6 : Hid (OwnI w6 w5.heap.size u9 (nI (wantK rs (u.take i) k))) := hid0 (ownI_past (W := wr.drew) HO.out H6.out)
            obtain ⟨lw, hlw⟩ : ∃ lw, lw = (nI (wantK rs (u.take i) k)).length := ⟨_, rfl⟩
            have hlw2 : lw ≤ k := by rw [hlw, nI_len]; exact hwl
            have HLw := hid0 hlw
            clear hlw hwl
            cases he : endsF r (u.take i) with
            | true =>
              have HO' : Hid (w6.ownsRow w5.heap.size 3 1 u9 lw ((nI (wantK rs (u.take i) k)).map (Value.int .i64))) := hid0 (by have h := HO6.out; unfold OwnI at h; rw [← HLw.out] at h; exact h)
              have HW2 : Hid (nI (wantK rs (u.take i) (k + 1)) = nI (wantK rs (u.take i) k) ++ [(k : Int)]) := hid0 (by
                rw [HWs.out, if_pos he]
                unfold nI
                rw [List.map_append]
                rfl)
              obtain ⟨i0, hi', hz0, hz1, hz2⟩ := info_parts infoInt
              have hsz := HB6.out.size
              clear he HWs
              go_wp2_with (at_builtin; refine wpList_append_own _ rfl _ _ 34 rfl w5.heap.size 3 i0 (.int .i64 0) 1 8 Tryd.underlying34 hi' hz0 hz1 hz2 rfl (by decide) _ lw ((nI (wantK rs (u.take i) k)).map (Value.int .i64)) rfl (World.ownsRow.alloc (show World.ownsRow w6 _ _ _ _ _ _ from HO'.out) _) ⟨w6.heap.size, 0, none⟩ 1 1 [.int .i64 (k : Int)] rfl rfl (cell_one_new _ _ _) (by simp [Value.oneCell']) (by unfold maxLen; omega) (by omega) (by simp; omega) ?_; intro v2 w4 hown' hgrow _; have HH := hid0 (ownI_snoc (w := w5) (base := w5.heap.size) (L := nI (wantK rs (u.take i) k)) (c := (k : Int)) (n := lw) HLw.out (show OwnI w6 _ _ _ from HO6.out) hown' hgrow HB6.out (Nat.le_refl _)); clear hown' hgrow)
              have HO4 : Hid (OwnI w4 w5.heap.size v2 (nI (wantK rs (u.take i) (k + 1)))) := hid0 (by rw [HW2.out]; exact HH.out.1)
              have HB4 := hid0 HH.out.2
              go_roundw
              case rel => exact ⟨k + 1, by omega, by go_num, HO4, HB4⟩
              case measure => simp [intOf]; omega
            | false =>
              have HO4 : Hid (OwnI w6 w5.heap.size u9 (nI (wantK rs (u.take i) (k + 1)))) := hid0 (by
                rw [HWs.out, if_neg (by rw [he]; decide)]
                exact HO6.out)
              clear he HWs
              go_wp2
              go_roundw
              case rel => exact ⟨k + 1, by omega, by go_num, HO4, HB6⟩
              case measure => simp [intOf]; omega
          · have hkI : ¬ (k : Int) < (rn : Int) := by omega
            have hkn : k = rs.length := by rw [← HR.out]; omega
            obtain ⟨t, g1, ht, g2⟩ := HOu.out.2 i hlt
            have htO : t < O.length := by rw [HOu.out.1]; exact ht
            have hOt : O[t] = nI (wantK rs (u.take i) rs.length) := by
              rw [List.getElem?_eq_getElem htO] at g2
              exact Option.some.inj g2
            have hiL : i < L.length := by rw [HL.out.2.1]; omega
            have dL : wr.cell? ⟨R, i, none⟩ = some (.int .i64 (t : Int)) := by
              have d := (HX5.out wr HB2.out).2.2.2.2.cellAt hiL
              rw [List.getElem?_eq_getElem hiL] at g1
              rw [Nat.zero_add, Option.some.inj g1] at d
              exact d
            obtain ⟨bO, oO, hao, _, a1, c1, d1, i1⟩ := (HX5.out wr HB2.out).1.at' t htO
            rw [hOt] at d1 i1
            obtain ⟨m0, m1, m2⟩ := (HX5.out wr HB2.out).2.2.1
            obtain ⟨aw, cw, rfl, iw, _, _⟩ := OwnI.cap HO.out
            rw [hkn] at iw
            obtain ⟨lo, hlo⟩ : ∃ lo, lo = (nI (wantK rs (u.take i) rs.length)).length := ⟨_, rfl⟩
            obtain ⟨lk, hlk⟩ : ∃ lk, lk = (nI (wantK rs (u.take i) k)).length := ⟨_, rfl⟩
            have HLo : Hid (lo = (nI (wantK rs (u.take i) rs.length)).length ∧ lk = (nI (wantK rs (u.take i) rs.length)).length ∧ lo ≤ 1000000000) := hid0 ⟨hlo, by rw [hlk, hkn], by rw [hlo, nI_len]; have := wantK_len rs (u.take i) rs.length; have := HR.out; omega⟩
            rw [← hlo] at d1
            rw [← hlk]
            have HI2 : Hid (∀ m, IA (wr.drewN m) a1 (nI (wantK rs (u.take i) rs.length)) ∧ IA (wr.drewN m) aw (nI (wantK rs (u.take i) rs.length))) := hid0 (fun m => ⟨i1.past (below_drew' (Below.refl _ _) m), iw.past (below_drew' (Below.refl _ _) m)⟩)
            have htI0 : ¬ (t : Int) < 0 := by omega
            have htI1 : (0 : Int) ≤ (t : Int) := by omega
            have htI2 : ¬ (t : Int) ≥ (NN : Int) := by omega
            have htI3 : (t : Int) < (NN : Int) := by omega
            have hiI3 : (i : Int) < ((n : Int) + 1) := by omega
            subst hao
            clear hkn g1 g2 hOt hiL i1 iw hlo hlk htO HO
            go_wp2_with fail
            go_quiet ((go_at_call 14; go_loud (exact (HSame.out _ (nI (wantK rs (u.take i) rs.length)) _ _ _ _ _ _ HLo.out.1 HLo.out.2.1 HLo.out.2.2 (HI2.out _).1 (HI2.out _).2).mono (fun _ _ h => ⟨h.1, by obtain ⟨m, hm⟩ := h.2; exact ⟨_, hm.trans (World.drewN_drewN _ _ _)⟩⟩))))
            go_wp2
            go_roundw
            case rel => exact ⟨i + 1, by omega, by go_num, hid0 (below_drew' HB2.out _)⟩
            case measure => simp [intOf]; omega
      · have hiI : ¬ (i : Int) ≤ (n : Int) := by omega
        go_wp2
        go_ret
        exact ⟨rfl, Below.later HF5.out HB.out⟩
end Go.Proofs.YtleeedjpccooaaaDoor
