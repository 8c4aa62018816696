/-
  PlHbW, PlKaM, PlTaM, PlTfW, MbPM, MbPW, MbQM, MbQW, MbRW, MiStM, MbSW, MbTM, MbTW, MbUW, MbVM.
-/
import Derived.Test.YtleeedjpccooaaaDoorNag
import Derived.Test.YtleeedjpccooaaaDoorNah
import Derived.Test.YtleeedjpccooaaaDoorNaa
import Derived.Laws.BitsAllLaws
import Derived.Laws.CopyOwn
import Derived.Lib.SliceRun
import Derived.Maps.AppendAt
namespace Go.Proofs.YtleeedjpccooaaaDoor
open Go.RowKit Go.Shelf
theorem stand_sound {n : Nat} {Fi La : List Int} {Fo : List (List Int)} (h : Fo.length = n) : standP n Fi La Fo = soundP n Fi La Fo := by
  unfold soundP standP
  rw [decide_eq_true h]
  cases insA n Fo <;> simp
set_option maxRecDepth 10000 in
set_option maxHeartbeats 1600000 in
theorem match_any (aL aF aA aO aW : Option Addr) (cL cF cA cO cW : Nat) (Le Fo : List (List Int)) (Fi La Wd : List Int) (em : Bool) (w : World) (hp : PosA w aL aF aA aO Le Fo Fi La) (hwd : IA w aW Wd) (hwl : Wd.length ≤ 4000000) (hfb : RwB w aO Fo) (hfi : ∀ p, aF = some p → p.block < w.heap.size) (hLi : ∀ r ∈ Le, ∀ z ∈ r, inI z) (hWi : ∀ z ∈ Wd, inI z) (hTab : TabAt 11 Lib.deBruijn64tab w) (hT11 : 11 < w.heap.size) :
    Calls Tryd.prog 35 #[posV aL aF aA aO cL cF cA cO Le Fo Fi La em, .slice aW Wd.length cW] w fun e w' => e = .returned (.bool (matM Le Fo Fi La em Wd)) ∧ Below w.heap.size w w' := by
  obtain ⟨w0, hw0⟩ : ∃ w0, w0 = w.alloc (.cells #[.slice aL Le.length cL, .slice aF Fi.length cF, .slice aA La.length cA, .slice aO Fo.length cO, .bool em] 46) := ⟨_, rfl⟩
  have hr0 : w0.heap[w.heap.size]? = some (.cells #[.slice aL Le.length cL, .slice aF Fi.length cF, .slice aA La.length cA, .slice aO Fo.length cO, .bool em] 46 (0, 0)) := by rw [hw0]; exact heap_alloc_new w _
  have hb0 : Below w.heap.size w w0 := by rw [hw0]; exact (Below.refl _ _).alloc (Nat.le_refl _) _
  have hs0 : w0.heap.size = w.heap.size + 1 := by rw [hw0]; simp
  obtain ⟨c0, c1, c2, c3, c4⟩ := row5 hr0
  have hl1 := hp.l1
  have hl4 := hp.l4
  have hfold := hw0.symm
  have HB0 := hid0 hb0
  clear hw0
  by_cases hFl : Fo.length = Le.length
  · have HSt := hid0 (placesStand_any aL aF aA aO cL cF cA cO Le Fo Fi La em w0 (hp.past hb0))
    rw [stand_sound hFl] at HSt
    unfold posV at HSt ⊢
    have HC5 : Hid (∀ W, Below w0.heap.size w0 W → W.cell? ⟨w.heap.size, 0, none⟩ = some (.slice aL Le.length cL) ∧ W.cell? ⟨w.heap.size, 1, none⟩ = some (.slice aF Fi.length cF) ∧ W.cell? ⟨w.heap.size, 2, none⟩ = some (.slice aA La.length cA) ∧ W.cell? ⟨w.heap.size, 3, none⟩ = some (.slice aO Fo.length cO) ∧ W.cell? ⟨w.heap.size, 4, none⟩ = some (.bool em)) := hid0 (fun W hW => row5 ((hW.block w.heap.size (by omega)).trans hr0))
    have hFI : ((Fo.length : Int) != (Le.length : Int)) = false := by simp [hFl]
    have HFl := hid0 hFl
    clear hFl
    by_cases hso : soundP Le.length Fi La Fo = true
    · rw [hso] at HSt
      by_cases hw : Wd = []
      · subst hw
        have HM : Hid (matM Le Fo Fi La em [] = em) := hid0 (by unfold matM; rw [hso]; rfl)
        go_enter Tryd.func35, Tryd.ntmps35
        go_wp2_with (go_at_call 57; go_loud ((
          refine HSt.out.mono ?_
          rintro e w1 ⟨rfl, hb1⟩
          obtain ⟨d0, d1, d2, d3, d4⟩ := HC5.out w1 hb1
          have HB1 := hid0 hb1
          clear hb1)))
        go_ret
        exact ⟨by rw [HM.out]; rfl, Below.later HB0.out HB1.out⟩
      · have hwp : 0 < Wd.length := List.length_pos_iff.2 hw
        have hwI : ((Wd.length : Int) == 0) = false := by simp; exact hw
        have HNw : Hid (∀ W, Below w0.heap.size w0 W → Calls Tryd.prog 58 #[.agg #[.slice aL Le.length cL, .slice aF Fi.length cF, .slice aA La.length cA, .slice aO Fo.length cO, .bool em], .slice aW Wd.length cW] W (NwR W Le Fo Fi Wd)) := hid0 (fun W hW => by
          have hb := Below.later hb0 hW
          exact newWalk_any aL aF aA aO aW cL cF cA cO cW Le Fo Fi La Wd em W (hp.past hb) (hwd.past hb) hwl hwp hso (hfb.past hb) (fun p hp => Nat.lt_of_lt_of_le (hfi p hp) hb.size) hLi hWi (fun j hj => (hb.cell (p := ⟨11, j, none⟩) hT11).trans (hTab j hj)) (Nat.lt_of_lt_of_le hT11 hb.size))
        have HSd : Hid (La.all (oneOf Le.length) = true ∧ ∀ r ∈ Fo, r.length ≤ 100000000000000 ∧ r.all (oneOf Le.length) = true) := hid0 (by
          unfold soundP insA at hso
          simp only [Bool.and_eq_true, decide_eq_true_eq] at hso
          exact ⟨hso.1.2, fun r hr => ⟨by have := hp.r4 r hr; omega, List.all_eq_true.1 hso.2 r hr⟩⟩)
        have HM0 := hid0 (cM_start (em := em) (Wd := Wd) hso hwp)
        have HWd := hid0 hwd
        have HLa := hid0 hp.la
        have hl3 := hp.l3
        clear hso hp hwd hfb hfi hLi hWi hTab hw hb0 hr0
        go_enter Tryd.func35, Tryd.ntmps35
        go_upto_region 7 with (first
          | (go_at_call 57; go_loud ((
              refine HSt.out.mono ?_
              rintro e w1 ⟨rfl, hb1⟩
              obtain ⟨d0, d1, d2, d3, d4⟩ := HC5.out w1 hb1
              have HB1 := hid0 hb1
              clear hb1)))
          | (go_at_call 58; go_loud ((
              refine (HNw.out w1 HB1.out).mono ?_
              rintro e w2 ⟨B, gf, gh, ga, gn, mp, cF', cH', ks, H, rfl, hwk, hk1, hk2, hk3, hk4, hk5, hlo, hbw⟩
              have HWk := hid0 hwk
              have HK1 := hid0 hk1
              have HK2 := hid0 hk2
              have HK4 := hid0 hk4
              have HK5 := hid0 hk5
              have HLo := hid0 hlo
              have HB2 := hid0 (Below.later HB1.out hbw)
              clear hwk hk1 hk2 hk4 hk5 hlo hbw)))
          | fail)
        have hz1 := HB1.out.size
        obtain ⟨m, hm⟩ : ∃ m, m = (Le.length + 511) / 512 := ⟨_, rfl⟩
        rw [← hm] at HWk
        have hm1 : m ≤ 1000000 := by omega
        have hm2 : Le.length ≤ 512 * m := by omega
        clear hm
        have HLo2 : Hid (w0.heap.size ≤ ga ∧ w0.heap.size ≤ gn) := hid0 ⟨by have := HLo.out.1; omega, by have := HLo.out.2; omega⟩
        clear HNw HSt HLo
        go_loopw [30] (fun i wr => ∃ (k : Nat) (fa fx : Nat → Bool), k ≤ Wd.length ∧ i = .int .i64 (k : Int) ∧ Hid (Wk wr B gf gh ga gn mp m cF' cH' ks Fo H fa fx (fun k => ¬ k = ga ∧ ¬ k = gn)) ∧ Hid (cM Le Fo La fa fx (Wd.drop k) = matM Le Fo Fi La em Wd) ∧ Hid (Below w0.heap.size w0 wr)) (fun i _ => Wd.length - (intOf i).toNat)
        case atStart => exact ⟨0, _, _, Nat.zero_le _, rfl, HWk, HM0, HB2⟩
        case round =>
          clear HWk HM0 HB2 d0 d1 d2 d3 d4
          obtain ⟨k, fa, fx, hk, rfl, HWk, HMk, HBk⟩ := hrel
          by_cases hlt : k < Wd.length
          · obtain ⟨b, off, rfl, _, d1⟩ := (HWd.out.past (Below.later HB0.out HBk.out)).at' k hlt
            have hkI : (k : Int) < (Wd.length : Int) := by omega
            have hkI0 : (0 : Int) ≤ (k : Int) := by omega
            have hMd := cM_drop (Le := Le) (Fo := Fo) (La := La) (fa := fa) (fx := fx) hlt
            obtain ⟨i, hi, hc⟩ := List.mem_iff_getElem.1 (HK1.out _ (List.getElem_mem hlt))
            rw [← hc] at hMd d1
            have hiH : i < H.length := by rw [HK4.out.len]; exact hi
            have hgd : H.getD i [] = H[i] := by rw [List.getD_eq_getElem?_getD, List.getElem?_eq_getElem hiH]; rfl
            have hst : stepAt H[i] fx m = atF Le fx ks[i] := stepAt_at (fun p => by have := HK4.out.whole (Nat.le_refl _) i hi p; rwa [hgd] at this) (by omega)
            have hnx : nxF Fo (plB (atF Le fx ks[i]) (512 * m)) = nextF Fo (atF Le fx ks[i]) := nxF_next Fo _ _ (fun q hq => by rw [HFl.out]; exact at_lt hq) (by rw [HFl.out]; omega)
            have HSp := hid0 (step_any B gf gh ga gn mp m cF' cH' Le.length i ks Fo H fa fx _ wr (by omega) (by omega) HFl.out HK4.out.len hi (HK2.out _ (List.getElem_mem hi)) (by rw [HK4.out.len]; omega) HSd.out.2 (fun r hr => ⟨HK5.out r hr, by
              obtain ⟨j, hj, rfl⟩ := List.mem_iff_getElem.1 hr
              have := HK4.out.inn j
              rwa [List.getD_eq_getElem?_getD, List.getElem?_eq_getElem hj] at this⟩) HWk.out)
            rw [hst, hnx] at HSp
            have HMd : Hid (cM Le Fo La (atF Le fx ks[i]) (nextF Fo (atF Le fx ks[i])) (Wd.drop (k + 1)) = matM Le Fo Fi La em Wd) := hid0 (hMd.symm.trans HMk.out)
            have HEm : Hid (emF (atF Le fx ks[i]) m = true → matM Le Fo Fi La em Wd = false) := hid0 (fun h => by
              rw [← HMd.out, cM_next]
              exact cont_none _ _ _ _ _ (em_none h (by omega)))
            have HOb : Hid (∀ w3, Only wr w3 (fun k => k = ga ∨ k = gn) → Below w0.heap.size w0 w3) := hid0 (fun w3 h3 => HBk.out.trans (h3.below HBk.out.size (fun j hj => by have := HLo2.out; omega)))
            clear hMd hst hnx hc hgd HMk
            generalize ks[i] = c at *
            cases hem : emF (atF Le fx c) m with
            | true =>
              rw [hem] at HSp
              have HE := hid0 (HEm.out hem)
              clear hem HEm
              go_wp2_with (go_at_call 59; go_loud ((
                refine HSp.out.mono ?_
                rintro e w3 ⟨rfl, hwk3, ho3⟩
                have HWk3 := hid0 hwk3
                have HB3 := hid0 (HOb.out w3 ho3)
                clear hwk3 ho3)))
              go_ret
              exact ⟨by rw [HE.out]; rfl, Below.later HB0.out HB3.out⟩
            | false =>
              rw [hem] at HSp
              clear hem HEm
              go_wp2_with (go_at_call 59; go_loud ((
                refine HSp.out.mono ?_
                rintro e w3 ⟨rfl, hwk3, ho3⟩
                have HWk3 := hid0 hwk3
                have HB3 := hid0 (HOb.out w3 ho3)
                clear hwk3 ho3)))
              go_roundw
              case rel => exact ⟨k + 1, _, _, by omega, by go_num, HWk3, HMd, HB3⟩
              case measure => simp [intOf]; omega
          · have hke : k = Wd.length := by omega
            subst hke
            have HEn : Hid (lastF La fa = matM Le Fo Fi La em Wd) := hid0 (by
              have := HMk.out
              rwa [List.drop_length] at this)
            obtain ⟨d0, d1, d2, d3, d4⟩ := HC5.out wr HBk.out
            have q3 : wr.cell? ⟨B, 3, none⟩ = some (.slice (some ⟨ga, 0, none⟩) m m) := by rw [cell_of_row _ _ _ _ _ _ HWk.out.row]; rfl
            have HHas := hid0 (hasOneOf_any ga m Le.length fa La aA cA wr.drew (by omega) hm1 hm2 HSd.out.1 ((HLa.out.past (Below.later HB0.out HBk.out)).past (drew_below wr)) (HWk.out.at'.kept rfl))
            have HS12 := hid0 (And.intro q3 d2)
            have HS12b : Hid (∀ w3, Below wr.drew.heap.size wr.drew w3 → w3.cell? ⟨B, 3, none⟩ = some (.slice (some ⟨ga, 0, none⟩) m m) ∧ w3.cell? ⟨w.heap.size, 2, none⟩ = some (.slice aA La.length cA)) := hid0 (fun w3 h3 => ⟨(h3.cell (p := ⟨B, 3, none⟩) (World.block_lt_of_cell? wr _ q3)).trans q3, (h3.cell (p := ⟨w.heap.size, 2, none⟩) (World.block_lt_of_cell? wr _ d2)).trans d2⟩)
            clear d0 d1 d2 d3 d4 q3
            go_upto_region 12 with fail
            refine wp_region_noPanic ?_
            refine wp_region_held_drew (S := (fun V => V.cell? ⟨B, 3, none⟩ = some (.slice (some ⟨ga, 0, none⟩) m m) ∧ V.cell? ⟨w.heap.size, 2, none⟩ = some (.slice aA La.length cA))) (by kernel_rfl) ?_ (fun hHeld => ?_)
            · exact HS12.out
            refine tkV (i := 0) (d := some 39) (v := ?_) rfl (by kernel_rfl) (by kernel_rfl) (by kernel_rfl) rfl (fun _ _ _ h => h) (by rfl) ?_ (by assumption) ?_
            rotate_left
            · (intro w hSw; (try dsimp only at hSw); (try simp only [List.getElem_toArray, List.getElem_cons_zero]); go_simp; try with_reducible rfl)
            try simp only [Act.put, List.setIfInBounds_toArray, List.set_cons_zero, List.set_cons_succ]
            refine tkV (i := 1) (d := some 40) (v := ?_) rfl (by kernel_rfl) (by kernel_rfl) (by kernel_rfl) rfl (fun _ _ _ h => h) (by rfl) ?_ (by assumption) ?_
            rotate_left
            · (intro w hSw; (try dsimp only at hSw); (try simp only [List.getElem_toArray, List.getElem_cons_zero, List.getElem_cons_succ]); go_simp; try with_reducible rfl)
            try simp only [Act.put, List.setIfInBounds_toArray, List.set_cons_zero, List.set_cons_succ]
            refine tkV (i := 2) (d := some 41) (v := ?_) rfl (by kernel_rfl) (by kernel_rfl) (by kernel_rfl) rfl (fun _ _ _ h => h) (by rfl) ?_ (by assumption) ?_
            rotate_left
            · (intro w hSw; (try dsimp only at hSw); (try simp only [List.getElem_toArray, List.getElem_cons_zero, List.getElem_cons_succ]); go_simp; try with_reducible rfl)
            try simp only [Act.put, List.setIfInBounds_toArray, List.set_cons_zero, List.set_cons_succ]
            refine tkV (i := 3) (d := some 42) (v := ?_) rfl (by kernel_rfl) (by kernel_rfl) (by kernel_rfl) rfl (fun _ _ _ h => h) (by rfl) ?_ (by assumption) ?_
            rotate_left
            · (intro w hSw; (try dsimp only at hSw); (try simp only [List.getElem_toArray, List.getElem_cons_zero, List.getElem_cons_succ]); go_simp; try with_reducible rfl)
            try simp only [Act.put, List.setIfInBounds_toArray, List.set_cons_zero, List.set_cons_succ]
            refine tkV (i := 4) (d := some 43) (v := ?_) rfl (by kernel_rfl) (by kernel_rfl) (by kernel_rfl) rfl (fun _ _ _ h => h) (by rfl) ?_ (by assumption) ?_
            rotate_left
            · (intro w hSw; (try dsimp only at hSw); (try simp only [List.getElem_toArray, List.getElem_cons_zero, List.getElem_cons_succ]); go_simp; try with_reducible rfl)
            try simp only [Act.put, List.setIfInBounds_toArray, List.set_cons_zero, List.set_cons_succ]
            refine tkV (i := 5) (d := some 44) (v := ?_) rfl (by kernel_rfl) (by kernel_rfl) (by kernel_rfl) rfl (fun _ _ _ h => h) (by rfl) ?_ (by assumption) ?_
            rotate_left
            · (intro w hSw; (try dsimp only at hSw); (try simp only [List.getElem_toArray, List.getElem_cons_zero, List.getElem_cons_succ]); go_simp; try with_reducible rfl)
            try simp only [Act.put, List.setIfInBounds_toArray, List.set_cons_zero, List.set_cons_succ]
            refine wpAnyH_ready (rs := [6]) (by kernel_rfl) (by simp) (AllReadyH.cons rfl (fun K hK => ?_) AllReadyH.nil)
            try simp only [List.getElem_toArray, List.getElem_cons_zero, List.getElem_cons_succ]
            go_simp
            refine HHas.out.mono ?_
            rintro e w3 ⟨rfl, hb3⟩
            have HB3 := hid0 hb3
            clear hb3
            go_wp2_with fail
            refine hK.out _ _ ?_ (fun hHeld6 => ?_)
            · exact HS12b.out w3 HB3.out
            clear hK K
            (try simp only [Act.put]); (try simp only [List.setIfInBounds_toArray]); (try simp only [List.set_cons_succ]); (try simp only [List.set_cons_zero])
            refine tkV (i := 7) (d := some 4) (v := ?_) rfl (by kernel_rfl) (by kernel_rfl) (by kernel_rfl) rfl (fun _ _ _ h => h) (by rfl) ?_ (by assumption) ?_
            rotate_left
            · (intro w hSw; (try dsimp only at hSw); (try simp only [List.getElem_toArray, List.getElem_cons_zero, List.getElem_cons_succ]); go_simp; try with_reducible rfl)
            try simp only [Act.put, List.setIfInBounds_toArray, List.set_cons_zero, List.set_cons_succ]
            refine wpAnyH_done (by kernel_rfl) ?_ _
            refine NoPanic.normal ?_
            go_wp2
            go_ret
            exact ⟨by rw [← HEn.out]; rfl, Below.later (Below.later HB0.out HBk.out) (below_drew HB3.out)⟩
    · rw [Bool.not_eq_true] at hso
      rw [hso] at HSt
      have HM : Hid (matM Le Fo Fi La em Wd = false) := hid0 (by unfold matM; rw [hso]; rfl)
      go_enter Tryd.func35, Tryd.ntmps35
      go_wp2_with (go_at_call 57; go_loud ((
        refine HSt.out.mono ?_
        rintro e w1 ⟨rfl, hb1⟩
        have HB1 := hid0 hb1
        clear hb1)))
      go_ret
      exact ⟨by rw [HM.out]; rfl, Below.later HB0.out HB1.out⟩
  · have hFI : ((Fo.length : Int) != (Le.length : Int)) = true := by simp; omega
    have HM : Hid (matM Le Fo Fi La em Wd = false) := hid0 (by unfold matM soundP; rw [decide_eq_false hFl]; rfl)
    unfold posV
    go_enter Tryd.func35, Tryd.ntmps35
    go_wp2
    go_ret
    exact ⟨by rw [HM.out]; rfl, HB0.out⟩
end Go.Proofs.YtleeedjpccooaaaDoor
namespace Go.Proofs.YtleeedjpccooaaaDoor
open Go.RowKit Go.Shelf
theorem putT_at (x : Nat) (T : List (List Int)) (y : Int) (j : Nat) : ((putT x T y).getD j []).length ≤ (T.getD j []).length + (if j = y.toNat then 1 else 0) := by
  unfold putT
  by_cases h : y.toNat = j
  · subst h
    by_cases hl : y.toNat < T.length
    · rw [getD_set_same _ _ _ hl, if_pos rfl]
      simp
    · rw [List.set_eq_of_length_le (by omega)]
      omega
  · rw [getD_set_other _ _ _ _ h]
    omega
theorem fold_at (x : Nat) (j : Nat) : ∀ (r : List Int) (T : List (List Int)), (∀ y ∈ r, 0 ≤ y) → r.Nodup → ((r.foldl (putT x) T).getD j []).length ≤ (T.getD j []).length + (if (j : Int) ∈ r then 1 else 0)
  | [], T, _, _ => by simp
  | y :: r, T, h0, hn => by
    rw [List.foldl_cons]
    have ih := fold_at x j r (putT x T y) (fun z hz => h0 z (List.mem_cons_of_mem _ hz)) (List.nodup_cons.1 hn).2
    have h1 := putT_at x T y j
    have h2 := h0 y (List.mem_cons_self ..)
    have h3 := (List.nodup_cons.1 hn).1
    by_cases hj : j = y.toNat
    · have hjy : (j : Int) = y := by omega
      have : ¬ (j : Int) ∈ r := by rw [hjy]; exact h3
      rw [if_neg this] at ih
      rw [if_pos hj] at h1
      rw [if_pos (by rw [hjy]; exact List.mem_cons_self ..)]
      omega
    · rw [if_neg hj] at h1
      by_cases hr : (j : Int) ∈ r
      · rw [if_pos hr] at ih
        rw [if_pos (List.mem_cons_of_mem _ hr)]
        omega
      · rw [if_neg hr] at ih
        split <;> omega
theorem turnA_at (j : Nat) : ∀ (L : List (List Int)) (x : Nat) (T : List (List Int)), (∀ r ∈ L, (∀ y ∈ r, 0 ≤ y) ∧ r.Nodup) → ((turnA x L T).getD j []).length ≤ (T.getD j []).length + L.length
  | [], x, T, _ => by simp [turnA]
  | r :: L, x, T, h => by
    rw [turnA]
    have ih := turnA_at j L (x + 1) (r.foldl (putT x) T) (fun r' hr' => h r' (List.mem_cons_of_mem _ hr'))
    have h1 := fold_at x j r T (h r (List.mem_cons_self ..)).1 (h r (List.mem_cons_self ..)).2
    rw [List.length_cons]
    split at h1 <;> omega
theorem turnA_len : ∀ (L : List (List Int)) (x : Nat) (T : List (List Int)), (turnA x L T).length = T.length
  | [], x, T => rfl
  | r :: L, x, T => by
    rw [turnA, turnA_len]
    have : ∀ (r : List Int) (T : List (List Int)), (r.foldl (putT x) T).length = T.length := by
      intro r
      induction r with
      | nil => intro T; rfl
      | cons y r ih => intro T; rw [List.foldl_cons, ih, putT_len]
    exact this r T
theorem turnL_len (Fo : List (List Int)) : (turnL Fo).length = Fo.length := by unfold turnL; rw [turnA_len, List.length_replicate]
theorem turnL_rows {Fo : List (List Int)} (h : ∀ r ∈ Fo, (∀ y ∈ r, 0 ≤ y) ∧ r.Nodup) : ∀ t ∈ turnL Fo, t.length ≤ Fo.length := fun t ht => by
  obtain ⟨j, hj, rfl⟩ := List.mem_iff_getElem.1 ht
  have h1 := turnA_at j Fo 0 (List.replicate Fo.length []) h
  have e : (List.replicate Fo.length ([] : List Int)).getD j [] = [] := by
    rw [List.getD_eq_getElem?_getD, List.getElem?_replicate]
    split <;> rfl
  rw [e] at h1
  have e2 : (turnA 0 Fo (List.replicate Fo.length [])).getD j [] = (turnL Fo)[j] := by
    rw [List.getD_eq_getElem?_getD]
    show ((turnL Fo)[j]?).getD [] = _
    rw [List.getElem?_eq_getElem hj]
    rfl
  rw [e2] at h1
  simpa using h1
theorem rise_lo {n : Int} : ∀ (L : List Int) (lo : Int), riseF n lo L = true → (∀ y ∈ L, lo ≤ y) ∧ L.Nodup
  | [], _, _ => ⟨fun y hy => (by cases hy), List.nodup_nil⟩
  | z :: L, lo, h => by
    rw [riseF] at h
    simp only [Bool.and_eq_true, decide_eq_true_eq] at h
    have ih := rise_lo L (z + 1) h.2
    refine ⟨fun y hy => ?_, List.nodup_cons.2 ⟨fun hz => ?_, ih.2⟩⟩
    · rcases List.mem_cons.1 hy with rfl | hy
      · exact h.1.1
      · have := ih.1 y hy; omega
    · have := ih.1 z hz; omega
/-- Positions of no great size. -/
structure PosS (p : Pos) : Prop where
  l1 : p.le.length ≤ 4000000
  l2 : p.fi.length ≤ 4000000
  l3 : p.la.length ≤ 4000000
  l4 : p.fo.length ≤ 4000000
  r1 : ∀ r ∈ p.le, r.length ≤ 4000000
  r4 : ∀ r ∈ p.fo, r.length ≤ 4000000
theorem rev_small {w : World} {aL aF aA aO : Option Addr} {Le Fo : List (List Int)} {Fi La : List Int} {em : Bool} (h : PosA w aL aF aA aO Le Fo Fi La) : PosS (revP Le Fo Fi La em) := by
  unfold revP
  split
  · rename_i hc
    rw [Bool.and_eq_true, plRise, riseA] at hc
    simp only [Bool.and_eq_true, List.all_eq_true, decide_eq_true_eq] at hc
    refine ⟨h.l1, h.l3, h.l2, by rw [turnL_len]; exact h.l4, h.r1, fun r hr => ?_⟩
    have := turnL_rows (fun r hr => by
      have := rise_lo r 0 (hc.2.2 r hr)
      exact this) r hr
    have := h.l4
    omega
  · exact ⟨Nat.zero_le _, Nat.zero_le _, Nat.zero_le _, Nat.zero_le _, fun r hr => (by cases hr), fun r hr => (by cases hr)⟩
theorem PosQ.posA {w : World} {lo : Nat} {aL aF aA aO : Option Addr} {p : Pos} (h : PosQ w lo aL aF aA aO p.le p.fo p.fi p.la) (hs : PosS p) : PosA w aL aF aA aO p.le p.fo p.fi p.la :=
  ⟨h.le.rwa, h.fi.ia, h.la.ia, h.fo.rwa, hs.l1, hs.l2, hs.l3, hs.l4, hs.r1, hs.r4⟩
/-- Positions as they are handed in. -/
structure PosF (w : World) (aL aF aA aO : Option Addr) (cF cA : Nat) (Le Fo : List (List Int)) (Fi La : List Int) : Prop where
  pos : PosA w aL aF aA aO Le Fo Fi La
  nL : RwN w aL Le
  nF : aF = none → cF = 0
  nA : aA = none → cA = 0
  bO : RwB w aO Fo
  bF : ∀ p, aF = some p → p.block < w.heap.size
  iL : ∀ r ∈ Le, ∀ z ∈ r, inI z
theorem PosF.past {w w' : World} {aL aF aA aO : Option Addr} {cF cA : Nat} {Le Fo : List (List Int)} {Fi La : List Int} (h : PosF w aL aF aA aO cF cA Le Fo Fi La) (hb : Below w.heap.size w w') : PosF w' aL aF aA aO cF cA Le Fo Fi La :=
  ⟨h.pos.past hb, h.nL.past hb, h.nF, h.nA, h.bO.past hb, fun p hp => Nat.lt_of_lt_of_le (h.bF p hp) hb.size, h.iL⟩
end Go.Proofs.YtleeedjpccooaaaDoor
namespace Go.Proofs.YtleeedjpccooaaaDoor
theorem has_mem (l : List Int) (z : Int) : hasL l z = true ↔ z ∈ l := by
  unfold hasL
  rw [List.any_eq_true]
  constructor
  · rintro ⟨x, hx, e⟩
    rw [← eq_of_beq e]
    exact hx
  · intro h
    exact ⟨z, h, by simp⟩
theorem rise_pw {n : Int} : ∀ (L : List Int) (lo : Int), riseF n lo L = true → (∀ z ∈ L, lo ≤ z ∧ z < n) ∧ L.Pairwise (· < ·)
  | [], _, _ => ⟨fun z hz => (by cases hz), List.Pairwise.nil⟩
  | y :: L, lo, h => by
    rw [riseF] at h
    simp only [Bool.and_eq_true, decide_eq_true_eq] at h
    have ih := rise_pw L (y + 1) h.2
    refine ⟨fun z hz => ?_, List.pairwise_cons.2 ⟨fun z hz => by have := (ih.1 z hz).1; omega, ih.2⟩⟩
    rcases List.mem_cons.1 hz with rfl | hz
    · omega
    · have := ih.1 z hz; omega
theorem pw_ext : ∀ (L K : List Int), L.Pairwise (· < ·) → K.Pairwise (· < ·) → (∀ z, z ∈ L ↔ z ∈ K) → L = K
  | [], K, _, _, h => by
    cases K with
    | nil => rfl
    | cons b K => exact absurd ((h b).2 (List.mem_cons_self ..)) (by simp)
  | a :: L, [], _, _, h => absurd ((h a).1 (List.mem_cons_self ..)) (by simp)
  | a :: L, b :: K, h1, h2, h => by
    have p1 := List.pairwise_cons.1 h1
    have p2 := List.pairwise_cons.1 h2
    have hab : a = b := by
      have ha := (h a).1 (List.mem_cons_self ..)
      have hb := (h b).2 (List.mem_cons_self ..)
      rcases List.mem_cons.1 ha with e | ha
      · exact e
      · rcases List.mem_cons.1 hb with e | hb
        · exact e.symm
        · have q1 := p2.1 a ha
          have q2 := p1.1 b hb
          omega
    subst hab
    congr 1
    refine pw_ext L K p1.2 p2.2 (fun z => ?_)
    constructor
    · intro hz
      rcases List.mem_cons.1 ((h z).1 (List.mem_cons_of_mem _ hz)) with e | hk
      · have := p1.1 z hz; omega
      · exact hk
    · intro hz
      rcases List.mem_cons.1 ((h z).2 (List.mem_cons_of_mem _ hz)) with e | hk
      · have := p2.1 z hz; omega
      · exact hk
theorem rise_of {n : Int} : ∀ (L : List Int) (lo : Int), (∀ z ∈ L, lo ≤ z ∧ z < n) → L.Pairwise (· < ·) → riseF n lo L = true
  | [], _, _, _ => rfl
  | y :: L, lo, h, hp => by
    have p := List.pairwise_cons.1 hp
    have h0 := h y (List.mem_cons_self ..)
    rw [riseF, rise_of L (y + 1) (fun z hz => ⟨by have := p.1 z hz; omega, (h z (List.mem_cons_of_mem _ hz)).2⟩) p.2, decide_eq_true h0.1, decide_eq_true h0.2]
    rfl
theorem rise_len {n : Int} : ∀ (L : List Int) (lo : Int), riseF n lo L = true → L ≠ [] → (L.length : Int) ≤ n - lo
  | [], _, _, h => absurd rfl h
  | y :: L, lo, h, _ => by
    rw [riseF] at h
    simp only [Bool.and_eq_true, decide_eq_true_eq] at h
    by_cases e : L = []
    · subst e; simp; omega
    · have := rise_len L (y + 1) h.2 e
      rw [List.length_cons]
      omega
theorem putT_eq (x : Nat) (T : List (List Int)) (y : Int) (j : Nat) : (putT x T y).getD j [] = if j = y.toNat ∧ j < T.length then T.getD j [] ++ [(x : Int)] else T.getD j [] := by
  unfold putT
  by_cases h : y.toNat = j
  · subst h
    by_cases hl : y.toNat < T.length
    · rw [getD_set_same _ _ _ hl, if_pos ⟨rfl, hl⟩]
    · rw [List.set_eq_of_length_le (by omega), if_neg (fun e => hl e.2)]
  · rw [getD_set_other _ _ _ _ h, if_neg (fun e => h e.1.symm)]
theorem fold_eq (x : Nat) (j : Nat) : ∀ (r : List Int) (T : List (List Int)), (∀ y ∈ r, 0 ≤ y) → r.Nodup → (r.foldl (putT x) T).getD j [] = T.getD j [] ++ (if (j : Int) ∈ r ∧ j < T.length then [(x : Int)] else [])
  | [], T, _, _ => by simp
  | y :: r, T, h0, hn => by
    rw [List.foldl_cons, fold_eq x j r (putT x T y) (fun z hz => h0 z (List.mem_cons_of_mem _ hz)) (List.nodup_cons.1 hn).2, putT_eq, putT_len]
    have h2 := h0 y (List.mem_cons_self ..)
    have h3 := (List.nodup_cons.1 hn).1
    by_cases hl : j < T.length
    · by_cases hj : j = y.toNat
      · have hjy : (j : Int) = y := by omega
        have : ¬ ((j : Int) ∈ r ∧ j < T.length) := fun e => h3 (hjy ▸ e.1)
        rw [if_pos ⟨hj, hl⟩, if_neg this, if_pos ⟨by rw [hjy]; exact List.mem_cons_self .., hl⟩, List.append_nil]
      · have hjy : ¬ (j : Int) = y := by omega
        rw [if_neg (fun e => hj e.1)]
        congr 1
        by_cases hr : (j : Int) ∈ r
        · rw [if_pos ⟨hr, hl⟩, if_pos ⟨List.mem_cons_of_mem _ hr, hl⟩]
        · rw [if_neg (fun e => hr e.1), if_neg (fun e => (List.mem_cons.1 e.1).elim hjy hr)]
    · rw [if_neg (fun e => hl e.2), if_neg (fun e => hl e.2), if_neg (fun e => hl e.2)]
theorem fold_len (x : Nat) : ∀ (r : List Int) (T : List (List Int)), (r.foldl (putT x) T).length = T.length
  | [], _ => rfl
  | y :: r, T => by rw [List.foldl_cons, fold_len, putT_len]
theorem turnA_has (j : Nat) : ∀ (L : List (List Int)) (x : Nat) (T : List (List Int)) (z : Nat), (∀ r ∈ L, (∀ y ∈ r, 0 ≤ y) ∧ r.Nodup) → j < T.length →
    hasL ((turnA x L T).getD j []) (z : Int) = (hasL (T.getD j []) (z : Int) || (decide (x ≤ z) && hasL (L.getD (z - x) []) (j : Int)))
  | [], x, T, z, _, _ => by simp [turnA, hasL]
  | r :: L, x, T, z, h, hj => by
    rw [turnA, turnA_has j L (x + 1) _ z (fun r' hr' => h r' (List.mem_cons_of_mem _ hr')) (by rw [fold_len]; exact hj), fold_eq x j r T (h r (List.mem_cons_self ..)).1 (h r (List.mem_cons_self ..)).2, hasL_append, Bool.or_assoc]
    congr 1
    by_cases hz : z = x
    · subst hz
      rw [decide_eq_false (show ¬ z + 1 ≤ z by omega), Bool.false_and, Bool.or_false, decide_eq_true (Nat.le_refl z), Bool.true_and, Nat.sub_self]
      simp only [List.getD_cons_zero]
      by_cases hr : (j : Int) ∈ r
      · rw [if_pos ⟨hr, hj⟩, (has_mem r _).2 hr]
        simp [hasL]
      · rw [if_neg (fun e => hr e.1)]
        have : hasL r (j : Int) = false := by
          cases e : hasL r (j : Int) with
          | false => rfl
          | true => exact absurd ((has_mem r _).1 e) hr
        rw [this, hasL_nil]
    · have hf : hasL (if (j : Int) ∈ r ∧ j < T.length then [(x : Int)] else []) (z : Int) = false := by
        split
        · have : ¬ (x : Int) = (z : Int) := by omega
          simp [hasL, this]
        · rfl
      rw [hf, Bool.false_or]
      by_cases hx : x ≤ z
      · rw [decide_eq_true hx, decide_eq_true (show x + 1 ≤ z by omega), show z - x = (z - (x + 1)) + 1 by omega]
        simp only [List.getD_cons_succ]
      · rw [decide_eq_false hx, decide_eq_false (show ¬ x + 1 ≤ z by omega)]
        simp
theorem turnA_pw (j : Nat) : ∀ (L : List (List Int)) (x : Nat) (T : List (List Int)), (∀ r ∈ L, (∀ y ∈ r, 0 ≤ y) ∧ r.Nodup) → ((∀ z ∈ T.getD j [], 0 ≤ z ∧ z < (x : Int)) ∧ (T.getD j []).Pairwise (· < ·)) →
    (∀ z ∈ (turnA x L T).getD j [], 0 ≤ z ∧ z < ((x + L.length : Nat) : Int)) ∧ ((turnA x L T).getD j []).Pairwise (· < ·)
  | [], x, T, _, h => by simpa [turnA] using h
  | r :: L, x, T, h, hT => by
    rw [turnA, List.length_cons, show x + (L.length + 1) = x + 1 + L.length by omega]
    refine turnA_pw j L (x + 1) _ (fun r' hr' => h r' (List.mem_cons_of_mem _ hr')) ?_
    rw [fold_eq x j r T (h r (List.mem_cons_self ..)).1 (h r (List.mem_cons_self ..)).2]
    split
    · refine ⟨fun z hz => ?_, List.pairwise_append.2 ⟨hT.2, List.pairwise_singleton _ _, fun a ha b hb => ?_⟩⟩
      · rcases List.mem_append.1 hz with hz | hz
        · have := hT.1 z hz; omega
        · have := List.mem_singleton.1 hz; omega
      · have h1 := hT.1 a ha
        have h2 := List.mem_singleton.1 hb
        omega
    · rw [List.append_nil]
      exact ⟨fun z hz => by have := hT.1 z hz; omega, hT.2⟩
/-- Lists that rise, of places below n. -/
def RiseP (n : Nat) (Fo : List (List Int)) : Prop := ∀ r ∈ Fo, riseF (n : Int) 0 r = true
theorem RiseP.nd {n : Nat} {Fo : List (List Int)} (h : RiseP n Fo) : ∀ r ∈ Fo, (∀ y ∈ r, 0 ≤ y) ∧ r.Nodup := fun r hr => rise_lo r 0 (h r hr)
theorem nil_getD (n j : Nat) : (List.replicate n ([] : List Int)).getD j [] = [] := by
  rw [List.getD_eq_getElem?_getD, List.getElem?_replicate]
  split <;> rfl
theorem turnL_has {Fo : List (List Int)} (h : RiseP Fo.length Fo) (j z : Nat) : hasL ((turnL Fo).getD j []) (z : Int) = hasL (Fo.getD z []) (j : Int) := by
  by_cases hj : j < Fo.length
  · unfold turnL
    rw [turnA_has j Fo 0 _ z h.nd (by rw [List.length_replicate]; exact hj), nil_getD, hasL_nil, Bool.false_or, decide_eq_true (Nat.zero_le z), Bool.true_and, Nat.sub_zero]
  · have h1 : (turnL Fo).getD j [] = [] := by rw [List.getD_eq_getElem?_getD, List.getElem?_eq_none (by rw [turnL_len]; omega)]; rfl
    rw [h1, hasL_nil]
    cases e : hasL (Fo.getD z []) (j : Int) with
    | false => rfl
    | true =>
      have hm := (has_mem _ _).1 e
      by_cases hz : z < Fo.length
      · rw [List.getD_eq_getElem?_getD, List.getElem?_eq_getElem hz] at hm
        have := ((rise_pw _ 0 (h _ (List.getElem_mem hz))).1 _ hm).2
        omega
      · rw [List.getD_eq_getElem?_getD, List.getElem?_eq_none (by omega)] at hm
        cases hm
theorem turnL_rise {Fo : List (List Int)} (h : RiseP Fo.length Fo) : RiseP Fo.length (turnL Fo) := fun r hr => by
  obtain ⟨j, hj, rfl⟩ := List.mem_iff_getElem.1 hr
  have h1 := turnA_pw j Fo 0 (List.replicate Fo.length []) h.nd (by rw [nil_getD]; exact ⟨fun z hz => (by cases hz), List.Pairwise.nil⟩)
  have e : (turnA 0 Fo (List.replicate Fo.length [])).getD j [] = (turnL Fo)[j] := by
    rw [List.getD_eq_getElem?_getD]
    show ((turnL Fo)[j]?).getD [] = _
    rw [List.getElem?_eq_getElem hj]
    rfl
  rw [e, Nat.zero_add] at h1
  exact rise_of _ 0 h1.1 h1.2
theorem turnL_twice {Fo : List (List Int)} (h : RiseP Fo.length Fo) : turnL (turnL Fo) = Fo := by
  have h2 : RiseP (turnL Fo).length (turnL Fo) := by rw [turnL_len]; exact turnL_rise h
  apply List.ext_getElem
  · rw [turnL_len, turnL_len]
  · intro j h1 h3
    have g1 : (turnL (turnL Fo)).getD j [] = (turnL (turnL Fo))[j] := by rw [List.getD_eq_getElem?_getD, List.getElem?_eq_getElem h1]; rfl
    have g2 : Fo.getD j [] = Fo[j] := by rw [List.getD_eq_getElem?_getD, List.getElem?_eq_getElem h3]; rfl
    have r1 := rise_pw _ 0 (turnL_rise h2 _ (List.getElem_mem h1))
    have r2 := rise_pw _ 0 (h _ (List.getElem_mem h3))
    refine pw_ext _ _ r1.2 r2.2 (fun z => ?_)
    have key : ∀ y : Nat, ((y : Int) ∈ (turnL (turnL Fo))[j] ↔ (y : Int) ∈ Fo[j]) := fun y => by
      rw [← has_mem, ← has_mem, ← g1, ← g2, turnL_has h2, turnL_has h]
    constructor
    · intro hz
      have := (r1.1 z hz).1
      have e : ((z.toNat : Nat) : Int) = z := by omega
      have := (key z.toNat).1 (by rw [e]; exact hz)
      rwa [e] at this
    · intro hz
      have := (r2.1 z hz).1
      have e : ((z.toNat : Nat) : Int) = z := by omega
      have := (key z.toNat).2 (by rw [e]; exact hz)
      rwa [e] at this
/-- A way through places whose letters are a word's. -/
inductive Way (Le Fo : List (List Int)) : List Nat → List Int → Prop
  | one (q : Nat) (c : Int) (h : holdF Le c q = true) : Way Le Fo [q] [c]
  | cons (q p : Nat) (ps : List Nat) (c : Int) (l : List Int) (h : holdF Le c q = true) (hf : hasL (Fo.getD q []) (p : Int) = true) (hw : Way Le Fo (p :: ps) l) : Way Le Fo (q :: p :: ps) (c :: l)
theorem Way.snoc {Le Fo : List (List Int)} {p q : Nat} {c : Int} (hq : holdF Le c q = true) (hf : hasL (Fo.getD p []) (q : Int) = true) : ∀ (ps : List Nat) (l : List Int), Way Le Fo (ps ++ [p]) l → Way Le Fo (ps ++ [p] ++ [q]) (l ++ [c])
  | [], l, h => by
    cases h with
    | one _ d hd => exact .cons p q [] d [c] hd hf (.one q c hq)
  | [a], l, h => by
    cases h with
    | cons _ _ _ d l hd hf' hw => exact .cons a p [q] d (l ++ [c]) hd hf' (Way.snoc hq hf [] l hw)
  | a :: b :: ps, l, h => by
    cases h with
    | cons _ _ _ d l hd hf' hw => exact .cons a b (ps ++ [p] ++ [q]) d (l ++ [c]) hd hf' (Way.snoc hq hf (b :: ps) l hw)
theorem Way.back {Le Fo Go : List (List Int)} (ht : ∀ j z : Nat, hasL (Go.getD j []) (z : Int) = hasL (Fo.getD z []) (j : Int)) {ps : List Nat} {l : List Int} (h : Way Le Fo ps l) : Way Le Go ps.reverse l.reverse := by
  induction h with
  | one q c hq => exact .one q c hq
  | cons q p ps c l hq hf _ ih =>
    rw [List.reverse_cons, List.reverse_cons (a := c)]
    rw [List.reverse_cons] at ih ⊢
    exact Way.snoc hq (by rw [ht]; exact hf) ps.reverse l.reverse ih
/-- Is there a way from a first place to a last one? -/
def Acc (Le Fo : List (List Int)) (Fi La : List Int) (l : List Int) : Prop := ∃ ps, Way Le Fo ps l ∧ (∃ q, ps.head? = some q ∧ hasL Fi (q : Int) = true) ∧ ∃ q, ps.getLast? = some q ∧ hasL La (q : Int) = true
theorem run_way {Le Fo : List (List Int)} {La : List Int} (hLa : ∀ z ∈ La, 0 ≤ z) : ∀ (r : List Int) (nx : Nat → Bool) (c : Int), runM Le Fo La nx c r = true ↔ ∃ q ps, Way Le Fo (q :: ps) (c :: r) ∧ nx q = true ∧ ∃ y, (q :: ps).getLast? = some y ∧ hasL La (y : Int) = true
  | [], nx, c => by
    rw [runM, lastF, List.any_eq_true]
    constructor
    · rintro ⟨z, hz, h⟩
      unfold atF at h
      rw [Bool.and_eq_true] at h
      have h0 := hLa z hz
      exact ⟨z.toNat, [], .one _ _ h.2, h.1, z.toNat, rfl, (has_mem _ _).2 (by rw [show ((z.toNat : Nat) : Int) = z by omega]; exact hz)⟩
    · rintro ⟨q, ps, hw, hn, y, hy, hl⟩
      cases hw with
      | one _ _ hq =>
        have e : q = y := by simpa using hy
        subst e
        refine ⟨(q : Int), (has_mem _ _).1 hl, ?_⟩
        unfold atF
        rw [Int.toNat_natCast, hn, hq]
        rfl
      | cons q p ps c l hq hf hw => cases hw
  | d :: r, nx, c => by
    rw [runM, run_way hLa r _ d]
    constructor
    · rintro ⟨p, ps, hw, hn, y, hy, hl⟩
      unfold nextF partF at hn
      rw [List.any_eq_true] at hn
      obtain ⟨q, _, h⟩ := hn
      unfold atF at h
      rw [Bool.and_eq_true, Bool.and_eq_true] at h
      exact ⟨q, p :: ps, .cons q p ps c _ h.1.2 h.2 hw, h.1.1, y, by rw [List.getLast?_cons_cons]; exact hy, hl⟩
    · rintro ⟨q, ps, hw, hn, y, hy, hl⟩
      cases hw with
      | cons _ p ps _ _ hq hf hw =>
        refine ⟨p, ps, hw, ?_, y, by rw [List.getLast?_cons_cons] at hy; exact hy, hl⟩
        unfold nextF partF
        rw [List.any_eq_true]
        refine ⟨q, List.mem_range.2 ?_, ?_⟩
        · apply Classical.byContradiction
          intro hge
          rw [List.getD_eq_getElem?_getD, List.getElem?_eq_none (by omega)] at hf
          cases hf
        · unfold atF
          rw [hn, hq, hf]
          rfl
theorem mat_acc {Le Fo : List (List Int)} {Fi La : List Int} {em : Bool} (hs : soundP Le.length Fi La Fo = true) (hLa : ∀ z ∈ La, 0 ≤ z) {l : List Int} (hl : l ≠ []) : matM Le Fo Fi La em l = true ↔ Acc Le Fo Fi La l := by
  cases l with
  | nil => exact absurd rfl hl
  | cons c r =>
    unfold matM
    rw [hs, Bool.true_and]
    show runM Le Fo La (fun q => hasL Fi (q : Int)) c r = true ↔ _
    rw [run_way hLa]
    constructor
    · rintro ⟨q, ps, hw, hn, hy⟩
      exact ⟨q :: ps, hw, ⟨q, rfl, hn⟩, hy⟩
    · rintro ⟨ps, hw, ⟨q, hq, hn⟩, hy⟩
      cases ps with
      | nil => cases hq
      | cons a ps =>
        cases hq
        exact ⟨q, ps, hw, hn, hy⟩
/-- Positions that may be over four symbols, few of them. -/
structure Tdy (Le Fo : List (List Int)) (Fi La : List Int) : Prop where
  n : Le.length ≤ 8
  fo : Fo.length = Le.length
  le : RiseP 4 Le
  fi : riseF (Le.length : Int) 0 Fi = true
  la : riseF (Le.length : Int) 0 La = true
  fol : RiseP Le.length Fo
theorem Tdy.plRise {Le Fo : List (List Int)} {Fi La : List Int} (h : Tdy Le Fo Fi La) : plRise Le.length Fi La Fo = true := by
  unfold Go.Proofs.YtleeedjpccooaaaDoor.plRise riseA
  rw [h.fi, h.la, List.all_eq_true.2 h.fol]
  rfl
theorem Tdy.rev {Le Fo : List (List Int)} {Fi La : List Int} (h : Tdy Le Fo Fi La) : Tdy Le (turnL Fo) La Fi :=
  ⟨h.n, by rw [turnL_len]; exact h.fo, h.le, h.la, h.fi, by have := h.fol; rw [← h.fo] at this ⊢; exact turnL_rise this⟩
theorem Tdy.revP {Le Fo : List (List Int)} {Fi La : List Int} (h : Tdy Le Fo Fi La) (em : Bool) : revP Le Fo Fi La em = ⟨Le, La, Fi, turnL Fo, em⟩ := by
  unfold Go.Proofs.YtleeedjpccooaaaDoor.revP
  rw [decide_eq_true h.fo, h.plRise]
  rfl
theorem Tdy.twice {Le Fo : List (List Int)} {Fi La : List Int} (h : Tdy Le Fo Fi La) (em : Bool) : Go.Proofs.YtleeedjpccooaaaDoor.revP Le (turnL Fo) La Fi em = ⟨Le, Fi, La, Fo, em⟩ := by
  rw [h.rev.revP, turnL_twice (by have := h.fol; rw [← h.fo] at this; exact this)]
theorem row_small {n : Nat} {r : List Int} (h : riseF (n : Int) 0 r = true) : r.length ≤ n := by
  by_cases e : r = []
  · subst e; simp
  · have := rise_len r 0 h e; omega
theorem sum_small {n : Nat} : ∀ (L : List (List Int)), (∀ r ∈ L, r.length ≤ n) → sumL L ≤ n * L.length
  | [], _ => by simp [sumL]
  | r :: L, h => by
    have ih := sum_small L (fun r' hr' => h r' (List.mem_cons_of_mem _ hr'))
    have h1 := h r (List.mem_cons_self ..)
    unfold sumL at ih ⊢
    rw [List.map_cons, List.sum_cons, List.length_cons, Nat.mul_add, Nat.mul_one]
    omega
theorem Tdy.chk {Le Fo : List (List Int)} {Fi La : List Int} (h : Tdy Le Fo Fi La) : chkP Le Fo Fi La 4 = none := by
  have s1 := sum_small (n := 4) Le (fun r hr => row_small (h.le r hr))
  have s2 := sum_small (n := 8) Fo (fun r hr => by have := row_small (h.fol r hr); have := h.n; omega)
  have hn := h.n
  have hf := h.fo
  unfold chkP
  rw [if_neg (by omega), if_neg (by rintro (h | h | h) <;> omega)]
  have : riseA 4 Le = true := by unfold riseA; exact List.all_eq_true.2 h.le
  rw [this, h.plRise]
  rfl
theorem Tdy.sound {Le Fo : List (List Int)} {Fi La : List Int} (h : Tdy Le Fo Fi La) : soundP Le.length Fi La Fo = true := by
  have key : ∀ r, riseF (Le.length : Int) 0 r = true → r.all (oneOf Le.length) = true := fun r hr => List.all_eq_true.2 (fun z hz => (oneOf_iff _ z).2 ((rise_pw r 0 hr).1 z hz))
  unfold soundP insA
  rw [decide_eq_true h.fo, key Fi h.fi, key La h.la, List.all_eq_true.2 (fun r hr => key r (h.fol r hr))]
  rfl
theorem Tdy.match {Le Fo : List (List Int)} {Fi La : List Int} (h : Tdy Le Fo Fi La) (em : Bool) (l : List Int) : matM Le (turnL Fo) La Fi em l.reverse = matM Le Fo Fi La em l := by
  by_cases hl : l = []
  · subst hl
    unfold matM
    rw [h.sound, h.rev.sound]
    rfl
  · have hr : l.reverse ≠ [] := fun e => hl (by simpa using e)
    have ht := turnL_has (Fo := Fo) (by have := h.fol; rw [← h.fo] at this; exact this)
    rw [Bool.eq_iff_iff, mat_acc h.rev.sound (fun z hz => ((rise_pw Fi 0 h.fi).1 z hz).1) hr, mat_acc h.sound (fun z hz => ((rise_pw La 0 h.la).1 z hz).1) hl]
    constructor
    · rintro ⟨ps, hw, ⟨q, hq, h1⟩, ⟨y, hy, h2⟩⟩
      have hb := hw.back (Go := Fo) (fun j z => (ht z j).symm)
      rw [List.reverse_reverse] at hb
      exact ⟨ps.reverse, hb, ⟨y, by rw [List.head?_reverse]; exact hy, h2⟩, ⟨q, by rw [List.getLast?_reverse]; exact hq, h1⟩⟩
    · rintro ⟨ps, hw, ⟨q, hq, h1⟩, ⟨y, hy, h2⟩⟩
      exact ⟨ps.reverse, hw.back ht, ⟨y, by rw [List.head?_reverse]; exact hy, h2⟩, ⟨q, by rw [List.getLast?_reverse]; exact hq, h1⟩⟩
end Go.Proofs.YtleeedjpccooaaaDoor
namespace Go.Proofs.YtleeedjpccooaaaDoor
open Go.RowKit Go.Shelf
/-- Two refusals. -/
structure Sen2 (w : World) (A : Nat → Addr) : Prop where
  c0 : w.cell? ⟨0, 0, none⟩ = some (.iface 157 (.pointer (some (A 0))))
  c2 : w.cell? ⟨1, 0, none⟩ = some (.iface 157 (.pointer (some (A 2))))
theorem Sen2.below {w w' : World} {A : Nat → Addr} (h : Sen2 w A) (hb : Below w.heap.size w w') : Sen2 w' A where
  c0 := (hb.cell (p := ⟨0, 0, none⟩) (World.block_lt_of_cell? w _ h.c0)).trans h.c0
  c2 := (hb.cell (p := ⟨1, 0, none⟩) (World.block_lt_of_cell? w _ h.c2)).trans h.c2
/-- What the world holds besides. -/
structure EnvT (w : World) (A : Nat → Addr) : Prop where
  sen : Sen2 w A
  tab : TabAt 11 Lib.deBruijn64tab w
  tl : 11 < w.heap.size
theorem EnvT.past {w w' : World} {A : Nat → Addr} (h : EnvT w A) (hb : Below w.heap.size w w') : EnvT w' A :=
  ⟨h.sen.below hb, fun j hj => (hb.cell (p := ⟨11, j, none⟩) h.tl).trans (h.tab j hj), Nat.lt_of_lt_of_le h.tl hb.size⟩
set_option maxRecDepth 10000 in
set_option maxHeartbeats 3200000 in
theorem check_two (A : Nat → Addr) (sy : Int) (aL aF aA aO : Option Addr) (cL cF cA cO : Nat) (Le Fo : List (List Int)) (Fi La : List Int) (em : Bool) (w : World) (hp : PosA w aL aF aA aO Le Fo Fi La) (hsy : sy ≤ 9223372036854775807) (he : Sen2 w A) :
    Calls Tryd.prog 26 #[posV aL aF aA aO cL cF cA cO Le Fo Fi La em, .int .i64 sy] w fun e w' => e = .returned (errP A (chkP Le Fo Fi La sy)) ∧ Below w.heap.size w w' := by
  unfold posV
  obtain ⟨w0, hw0⟩ : ∃ w0, w0 = w.alloc (.cells #[.slice aL Le.length cL, .slice aF Fi.length cF, .slice aA La.length cA, .slice aO Fo.length cO, .bool em] 46) := ⟨_, rfl⟩
  have hB0 : Below w.heap.size w w0 := by rw [hw0]; exact (Below.refl _ _).alloc (Nat.le_refl _) _
  have hX0 : w0.heap[w.heap.size]? = some (.cells #[.slice aL Le.length cL, .slice aF Fi.length cF, .slice aA La.length cA, .slice aO Fo.length cO, .bool em] 46 (0, 0)) := by rw [hw0]; exact heap_alloc_new w _
  have HB0 := hid0 hB0
  have hp0 := hp.past hB0
  obtain ⟨x0, x1, x2, x3, x4⟩ := row5 hX0
  have he0 := he.below hB0
  have HE := hid0 he0
  have e0 := he0.c0
  have e2 := he0.c2
  have hl1 := hp.l1
  have hl4 := hp.l4
  have H1 := hid0 (hasMore_any 4194304 Le aL cL w0 (by decide) (by omega) (fun r hr => by have := hp.r1 r hr; omega) hp0.le)
  have H2 := hid0 (hasMore_any 1048576 Fo aO cO w0 (by decide) (by omega) (fun r hr => by have := hp.r4 r hr; omega) hp0.fo)
  have H3 := hid0 (allRise_any sy Le aL cL w0 (by omega) (fun r hr => by have := hp.r1 r hr; omega) hsy hp0.le)
  have H4 := hid0 (fun W (hW : Below w0.heap.size w0 W) => placesRise_any aL aF aA aO cL cF cA cO Le Fo Fi La em W (hp0.past hW))
  unfold posV at H4
  have hfold := hw0.symm
  clear hw0 hp hp0 hB0 hX0 he he0
  by_cases h1 : (Le.length : Int) > 4000
  case pos =>
    have HV : Hid (chkP Le Fo Fi La sy = some 2) := hid0 (by unfold chkP; rw [if_pos (.inl (by omega))])
    go_enter Tryd.func26, Tryd.ntmps26
    go_wp2_with (first
      | (go_at_call 47; refine (H4.out _ (Below.refl _ _)).mono ?_; rintro e w4 ⟨rfl, h⟩; have HB4 := hid0 (Below.later HB0.out h); have e4 := (HE.out.below h).c0; clear h)
      | (go_at_call 46; refine H3.out.mono ?_; rintro e w3 ⟨rfl, hw3⟩; have hw3' := hw3.symm; subst hw3'; clear hw3)
      | (go_at_call 45; have hq := HQ1.out; refine H2.out.mono ?_; rintro e w2 ⟨rfl, hw2⟩; have hw2' := hw2.symm; subst hw2'; clear hw2 hq)
      | (go_at_call 45; (fail_if_success (have hq := HQ1.out)); refine H1.out.mono ?_; rintro e w1 ⟨rfl, hw1⟩; have hw1' := hw1.symm; subst hw1'; clear hw1; have HQ1 : Hid True := hid0 trivial)
      | fail)
    go_ret
    exact ⟨by rw [HV.out]; rfl, HB0.out⟩
  by_cases h2 : 4194304 < sumL Le
  case pos =>
    rw [decide_eq_true h2] at H1
    have HV : Hid (chkP Le Fo Fi La sy = some 2) := hid0 (by unfold chkP; rw [if_pos (.inr (.inl h2))])
    go_enter Tryd.func26, Tryd.ntmps26
    go_wp2_with (first
      | (go_at_call 47; refine (H4.out _ (Below.refl _ _)).mono ?_; rintro e w4 ⟨rfl, h⟩; have HB4 := hid0 (Below.later HB0.out h); have e4 := (HE.out.below h).c0; clear h)
      | (go_at_call 46; refine H3.out.mono ?_; rintro e w3 ⟨rfl, hw3⟩; have hw3' := hw3.symm; subst hw3'; clear hw3)
      | (go_at_call 45; have hq := HQ1.out; refine H2.out.mono ?_; rintro e w2 ⟨rfl, hw2⟩; have hw2' := hw2.symm; subst hw2'; clear hw2 hq)
      | (go_at_call 45; (fail_if_success (have hq := HQ1.out)); refine H1.out.mono ?_; rintro e w1 ⟨rfl, hw1⟩; have hw1' := hw1.symm; subst hw1'; clear hw1; have HQ1 : Hid True := hid0 trivial)
      | fail)
    go_ret
    exact ⟨by rw [HV.out]; rfl, HB0.out⟩
  rw [decide_eq_false h2] at H1
  by_cases h3 : 1048576 < sumL Fo
  case pos =>
    rw [decide_eq_true h3] at H2
    have HV : Hid (chkP Le Fo Fi La sy = some 2) := hid0 (by unfold chkP; rw [if_pos (.inr (.inr h3))])
    go_enter Tryd.func26, Tryd.ntmps26
    go_wp2_with (first
      | (go_at_call 47; refine (H4.out _ (Below.refl _ _)).mono ?_; rintro e w4 ⟨rfl, h⟩; have HB4 := hid0 (Below.later HB0.out h); have e4 := (HE.out.below h).c0; clear h)
      | (go_at_call 46; refine H3.out.mono ?_; rintro e w3 ⟨rfl, hw3⟩; have hw3' := hw3.symm; subst hw3'; clear hw3)
      | (go_at_call 45; have hq := HQ1.out; refine H2.out.mono ?_; rintro e w2 ⟨rfl, hw2⟩; have hw2' := hw2.symm; subst hw2'; clear hw2 hq)
      | (go_at_call 45; (fail_if_success (have hq := HQ1.out)); refine H1.out.mono ?_; rintro e w1 ⟨rfl, hw1⟩; have hw1' := hw1.symm; subst hw1'; clear hw1; have HQ1 : Hid True := hid0 trivial)
      | fail)
    go_ret
    exact ⟨by rw [HV.out]; rfl, HB0.out⟩
  rw [decide_eq_false h3] at H2
  have HC : Hid (chkP Le Fo Fi La sy = if sy < 1 ∨ 16384 < sy ∨ ¬ Fo.length = Le.length then some 0 else if riseA sy Le && plRise Le.length Fi La Fo then none else some 0) := hid0 (by unfold chkP; rw [if_neg (by omega)])
  clear h2 h3
  by_cases h4 : sy < 1
  case pos =>
    have HV : Hid (chkP Le Fo Fi La sy = some 0) := hid0 (by rw [HC.out, if_pos (.inl h4)])
    go_enter Tryd.func26, Tryd.ntmps26
    go_wp2_with (first
      | (go_at_call 47; refine (H4.out _ (Below.refl _ _)).mono ?_; rintro e w4 ⟨rfl, h⟩; have HB4 := hid0 (Below.later HB0.out h); have e4 := (HE.out.below h).c0; clear h)
      | (go_at_call 46; refine H3.out.mono ?_; rintro e w3 ⟨rfl, hw3⟩; have hw3' := hw3.symm; subst hw3'; clear hw3)
      | (go_at_call 45; have hq := HQ1.out; refine H2.out.mono ?_; rintro e w2 ⟨rfl, hw2⟩; have hw2' := hw2.symm; subst hw2'; clear hw2 hq)
      | (go_at_call 45; (fail_if_success (have hq := HQ1.out)); refine H1.out.mono ?_; rintro e w1 ⟨rfl, hw1⟩; have hw1' := hw1.symm; subst hw1'; clear hw1; have HQ1 : Hid True := hid0 trivial)
      | fail)
    go_ret
    exact ⟨by rw [HV.out]; rfl, HB0.out⟩
  by_cases h5 : sy > 16384
  case pos =>
    have HV : Hid (chkP Le Fo Fi La sy = some 0) := hid0 (by rw [HC.out, if_pos (.inr (.inl h5))])
    go_enter Tryd.func26, Tryd.ntmps26
    go_wp2_with (first
      | (go_at_call 47; refine (H4.out _ (Below.refl _ _)).mono ?_; rintro e w4 ⟨rfl, h⟩; have HB4 := hid0 (Below.later HB0.out h); have e4 := (HE.out.below h).c0; clear h)
      | (go_at_call 46; refine H3.out.mono ?_; rintro e w3 ⟨rfl, hw3⟩; have hw3' := hw3.symm; subst hw3'; clear hw3)
      | (go_at_call 45; have hq := HQ1.out; refine H2.out.mono ?_; rintro e w2 ⟨rfl, hw2⟩; have hw2' := hw2.symm; subst hw2'; clear hw2 hq)
      | (go_at_call 45; (fail_if_success (have hq := HQ1.out)); refine H1.out.mono ?_; rintro e w1 ⟨rfl, hw1⟩; have hw1' := hw1.symm; subst hw1'; clear hw1; have HQ1 : Hid True := hid0 trivial)
      | fail)
    go_ret
    exact ⟨by rw [HV.out]; rfl, HB0.out⟩
  by_cases h6 : (Fo.length : Int) = (Le.length : Int)
  case neg =>
    have h6n : ¬ Fo.length = Le.length := by omega
    have h6b : ((Fo.length : Int) != (Le.length : Int)) = true := by simp; omega
    have h6c : (Fo.length != Le.length) = true := by simp; omega
    have HV : Hid (chkP Le Fo Fi La sy = some 0) := hid0 (by rw [HC.out, if_pos (.inr (.inr (by omega)))])
    go_enter Tryd.func26, Tryd.ntmps26
    go_wp2_with (first
      | (go_at_call 47; refine (H4.out _ (Below.refl _ _)).mono ?_; rintro e w4 ⟨rfl, h⟩; have HB4 := hid0 (Below.later HB0.out h); have e4 := (HE.out.below h).c0; clear h)
      | (go_at_call 46; refine H3.out.mono ?_; rintro e w3 ⟨rfl, hw3⟩; have hw3' := hw3.symm; subst hw3'; clear hw3)
      | (go_at_call 45; have hq := HQ1.out; refine H2.out.mono ?_; rintro e w2 ⟨rfl, hw2⟩; have hw2' := hw2.symm; subst hw2'; clear hw2 hq)
      | (go_at_call 45; (fail_if_success (have hq := HQ1.out)); refine H1.out.mono ?_; rintro e w1 ⟨rfl, hw1⟩; have hw1' := hw1.symm; subst hw1'; clear hw1; have HQ1 : Hid True := hid0 trivial)
      | fail)
    go_ret
    exact ⟨by rw [HV.out]; rfl, HB0.out⟩
  have HC2 : Hid (chkP Le Fo Fi La sy = if riseA sy Le && plRise Le.length Fi La Fo then none else some 0) := hid0 (by rw [HC.out, if_neg (by omega)])
  clear HC
  cases g1 : riseA sy Le with
  | false =>
    rw [g1] at H3
    have HV : Hid (chkP Le Fo Fi La sy = some 0) := hid0 (by rw [HC2.out, g1]; rfl)
    go_enter Tryd.func26, Tryd.ntmps26
    go_wp2_with (first
      | (go_at_call 47; refine (H4.out _ (Below.refl _ _)).mono ?_; rintro e w4 ⟨rfl, h⟩; have HB4 := hid0 (Below.later HB0.out h); have e4 := (HE.out.below h).c0; clear h)
      | (go_at_call 46; refine H3.out.mono ?_; rintro e w3 ⟨rfl, hw3⟩; have hw3' := hw3.symm; subst hw3'; clear hw3)
      | (go_at_call 45; have hq := HQ1.out; refine H2.out.mono ?_; rintro e w2 ⟨rfl, hw2⟩; have hw2' := hw2.symm; subst hw2'; clear hw2 hq)
      | (go_at_call 45; (fail_if_success (have hq := HQ1.out)); refine H1.out.mono ?_; rintro e w1 ⟨rfl, hw1⟩; have hw1' := hw1.symm; subst hw1'; clear hw1; have HQ1 : Hid True := hid0 trivial)
      | fail)
    go_ret
    exact ⟨by rw [HV.out]; rfl, HB0.out⟩
  | true =>
    rw [g1] at H3
    cases g2 : plRise Le.length Fi La Fo with
    | false =>
      rw [g2] at H4
      have HV : Hid (chkP Le Fo Fi La sy = some 0) := hid0 (by rw [HC2.out, g1, g2]; rfl)
      go_enter Tryd.func26, Tryd.ntmps26
      go_wp2_with (first
      | (go_at_call 47; refine (H4.out _ (Below.refl _ _)).mono ?_; rintro e w4 ⟨rfl, h⟩; have HB4 := hid0 (Below.later HB0.out h); have e4 := (HE.out.below h).c0; clear h)
      | (go_at_call 46; refine H3.out.mono ?_; rintro e w3 ⟨rfl, hw3⟩; have hw3' := hw3.symm; subst hw3'; clear hw3)
      | (go_at_call 45; have hq := HQ1.out; refine H2.out.mono ?_; rintro e w2 ⟨rfl, hw2⟩; have hw2' := hw2.symm; subst hw2'; clear hw2 hq)
      | (go_at_call 45; (fail_if_success (have hq := HQ1.out)); refine H1.out.mono ?_; rintro e w1 ⟨rfl, hw1⟩; have hw1' := hw1.symm; subst hw1'; clear hw1; have HQ1 : Hid True := hid0 trivial)
      | fail)
      go_ret
      exact ⟨by rw [HV.out]; rfl, HB4.out⟩
    | true =>
      rw [g2] at H4
      have HV : Hid (chkP Le Fo Fi La sy = none) := hid0 (by rw [HC2.out, g1, g2]; rfl)
      go_enter Tryd.func26, Tryd.ntmps26
      go_wp2_with (first
      | (go_at_call 47; refine (H4.out _ (Below.refl _ _)).mono ?_; rintro e w4 ⟨rfl, h⟩; have HB4 := hid0 (Below.later HB0.out h); have e4 := (HE.out.below h).c0; clear h)
      | (go_at_call 46; refine H3.out.mono ?_; rintro e w3 ⟨rfl, hw3⟩; have hw3' := hw3.symm; subst hw3'; clear hw3)
      | (go_at_call 45; have hq := HQ1.out; refine H2.out.mono ?_; rintro e w2 ⟨rfl, hw2⟩; have hw2' := hw2.symm; subst hw2'; clear hw2 hq)
      | (go_at_call 45; (fail_if_success (have hq := HQ1.out)); refine H1.out.mono ?_; rintro e w1 ⟨rfl, hw1⟩; have hw1' := hw1.symm; subst hw1'; clear hw1; have HQ1 : Hid True := hid0 trivial)
      | fail)
      go_ret
      exact ⟨by rw [HV.out]; rfl, HB4.out⟩
end Go.Proofs.YtleeedjpccooaaaDoor
namespace Go.Proofs.YtleeedjpccooaaaDoor
open Go.RowKit Go.Shelf
/-- The builder: the block. -/
structure Bb (W : World) (B J : Nat) (vOp vRe vTe vNu vSt : Value) (most outs : Nat) (vNx vOu : Value) : Prop where
  r : W.heap[B]? = some (.cells #[.pointer (some ⟨J, 0, none⟩), vOp, vRe, vTe, vNu, vSt, .int .i64 (most : Int), .int .i64 (outs : Int), .int .i64 0, vNx, vOu] 97 (0, 0))
theorem Bb.lt {W : World} {B J : Nat} {vOp vRe vTe vNu vSt : Value} {most outs : Nat} {vNx vOu : Value} (h : Bb W B J vOp vRe vTe vNu vSt most outs vNx vOu) : B < W.heap.size := (Array.getElem?_eq_some_iff.1 h.r).1
theorem Bb.kept {W W' : World} {B J : Nat} {vOp vRe vTe vNu vSt : Value} {most outs : Nat} {vNx vOu : Value} (h : Bb W B J vOp vRe vTe vNu vSt most outs vNx vOu) (e : W'.heap[B]? = W.heap[B]?) : Bb W' B J vOp vRe vTe vNu vSt most outs vNx vOu := ⟨e.trans h.r⟩
theorem Bb.past {W W' : World} {B J : Nat} {vOp vRe vTe vNu vSt : Value} {most outs : Nat} {vNx vOu : Value} (h : Bb W B J vOp vRe vTe vNu vSt most outs vNx vOu) (hb : Below W.heap.size W W') : Bb W' B J vOp vRe vTe vNu vSt most outs vNx vOu := h.kept (hb.block _ h.lt)
theorem Bb.c {W : World} {B J : Nat} {vOp vRe vTe vNu vSt : Value} {most outs : Nat} {vNx vOu : Value} (h : Bb W B J vOp vRe vTe vNu vSt most outs vNx vOu) :
    W.cell? ⟨B, 0, none⟩ = some (.pointer (some ⟨J, 0, none⟩)) ∧ W.cell? ⟨B, 1, none⟩ = some vOp ∧ W.cell? ⟨B, 2, none⟩ = some vRe ∧ W.cell? ⟨B, 3, none⟩ = some vTe ∧ W.cell? ⟨B, 4, none⟩ = some vNu ∧ W.cell? ⟨B, 5, none⟩ = some vSt ∧ W.cell? ⟨B, 6, none⟩ = some (.int .i64 (most : Int)) ∧ W.cell? ⟨B, 7, none⟩ = some (.int .i64 (outs : Int)) ∧ W.cell? ⟨B, 8, none⟩ = some (.int .i64 0) ∧ W.cell? ⟨B, 9, none⟩ = some vNx ∧ W.cell? ⟨B, 10, none⟩ = some vOu := by
  refine ⟨?_, ?_, ?_, ?_, ?_, ?_, ?_, ?_, ?_, ?_, ?_⟩ <;> (rw [cell_of_row _ _ _ _ _ _ h.r]; rfl)
theorem Bb.fz {W : World} {B J : Nat} {vOp vRe vTe vNu vSt : Value} {most outs : Nat} {vNx vOu : Value} (h : Bb W B J vOp vRe vTe vNu vSt most outs vNx vOu) (i : Nat) : W.frozen? ⟨B, i, none⟩ = false := by simp [World.frozen?, h.r]
theorem Bb.setOuts {W : World} {B J : Nat} {vOp vRe vTe vNu vSt : Value} {most outs : Nat} {vNx vOu : Value} (h : Bb W B J vOp vRe vTe vNu vSt most outs vNx vOu) (n : Nat) : Bb (W.setCell ⟨B, 7, none⟩ (.int .i64 (n : Int))) B J vOp vRe vTe vNu vSt most n vNx vOu := ⟨heap_setCell_same W _ 7 _ _ _ h.r⟩
theorem Bb.setSt {W : World} {B J : Nat} {vOp vRe vTe vNu vSt : Value} {most outs : Nat} {vNx vOu : Value} (h : Bb W B J vOp vRe vTe vNu vSt most outs vNx vOu) (v : Value) : Bb (W.setCell ⟨B, 5, none⟩ v) B J vOp vRe vTe vNu v most outs vNx vOu := ⟨heap_setCell_same W _ 5 _ _ _ h.r⟩
theorem Bb.setOu {W : World} {B J : Nat} {vOp vRe vTe vNu vSt : Value} {most outs : Nat} {vNx vOu : Value} (h : Bb W B J vOp vRe vTe vNu vSt most outs vNx vOu) (v : Value) : Bb (W.setCell ⟨B, 10, none⟩ v) B J vOp vRe vTe vNu vSt most outs vNx v := ⟨heap_setCell_same W _ 10 _ _ _ h.r⟩
theorem Bb.setNx {W : World} {B J : Nat} {vOp vRe vTe vNu vSt : Value} {most outs : Nat} {vNx vOu : Value} (h : Bb W B J vOp vRe vTe vNu vSt most outs vNx vOu) (v : Value) : Bb (W.setCell ⟨B, 9, none⟩ v) B J vOp vRe vTe vNu vSt most outs v vOu := ⟨heap_setCell_same W _ 9 _ _ _ h.r⟩
/-- A row that grew by one. -/
structure ApG (ty : TypeId) (w w' : World) (lo : Nat) (v v' : Value) (xs : List Value) : Prop where
  own : w'.ownsRow lo ty 1 v' xs.length xs
  frm : Only w w' (fun k => v.ownBlock = some k)
  at' : ∀ k, v'.ownBlock = some k → v.ownBlock = some k ∨ w.heap.size ≤ k
theorem apG_one {ty : TypeId} {w w2 : World} {lo : Nat} {v v' x : Value} {xs : List Value} {o : Obj} (hown : w2.ownsRow lo ty 1 v' (xs.length + 1) (xs ++ [x])) (hg : (w.alloc o).grownBy w2 v.ownBlock) (hat : v'.ownBlock = v.ownBlock ∨ v'.ownBlock = some (w.alloc o).heap.size) : ApG ty w w2 lo v v' (xs ++ [x]) := by
  refine ⟨?_, (Only.alloc w o (fun k => v.ownBlock = some k)).trans (Only.ofGrown hg) (fun _ h => .inl h), fun k hk => ?_⟩
  · rw [List.length_append, List.length_singleton]; exact hown
  · rcases hat with e | e
    · exact .inl (by rw [← e]; exact hk)
    · rw [e] at hk
      cases hk
      right
      simp
theorem infoStr : (Tryd.prog.info? 9).map (fun i => (i.zero, i.size, i.bytes)) = some (some (.string ⟨#[]⟩), 1, 16) := by kernel_rfl
theorem infoIntsM : (Tryd.prog.info? 34).map (fun i => (i.zero, i.size, i.bytes)) = some (some (.slice none 0 0), 1, 24) := by kernel_rfl
theorem own_ne_blk {w : World} {lo : Nat} {t t' : TypeId} {s n : Nat} {v : Value} {xs : List Value} (h : w.ownsRow lo t s v n xs) {B : Nat} {cs : Array Value} {f : Nat × Nat} (hB : w.heap[B]? = some (.cells cs t' f)) (ht : t ≠ t') : v.ownBlock ≠ some B := fun e => by
  obtain ⟨c, hc⟩ := own_typ h e
  rw [hB] at hc
  injection hc with hc
  injection hc with _ h2 _
  exact ht h2.symm
theorem own_sl {w : World} {lo : Nat} {t : TypeId} {s n : Nat} {v : Value} {xs : List Value} (h : w.ownsRow lo t s v n xs) : ∃ a c, v = .slice a n c := by
  rcases h.2 with ⟨e, e2⟩ | ⟨g, cap, cur, e, _⟩
  · exact ⟨none, 0, by rw [e, e2]⟩
  · exact ⟨_, _, e⟩
end Go.Proofs.YtleeedjpccooaaaDoor
namespace Go.Proofs.YtleeedjpccooaaaDoor
open Go.RowKit Go.Shelf
set_option maxRecDepth 10000 in
set_option maxHeartbeats 1600000 in
theorem addState_any (B J lo most outs n co : Nat) (A : Nat → Addr) (vOp vRe vTe vNu vSt vNx vOu : Value) (L : List ByteArray) (VS : List Value) (tx : ByteArray) (ao : Option Addr) (w : World) (hb : Bb w B J vOp vRe vTe vNu vSt most outs vNx vOu) (hst : w.ownsRow lo 9 1 vSt L.length (L.map Value.string)) (hou : w.ownsRow lo 34 1 vOu VS.length VS) (hlo : lo ≤ w.heap.size) (hsen : Sen2 w A) (hL : L.length ≤ 16384) (hV : VS.length ≤ 16384) (_hm : most ≤ 16384) (ho : outs ≤ 4194304) (hn : n ≤ 1000000000) :
    Calls Tryd.prog 53 #[.pointer (some ⟨B, 0, none⟩), .string tx, .slice ao n co] w fun e w' =>
      (L.length = most ∨ 4194304 < outs + n → e = .returned (.iface 157 (.pointer (some (A 2)))) ∧ Only w w' (fun k => k = B))
      ∧ (¬ (L.length = most ∨ 4194304 < outs + n) → e = .returned .nilIface ∧ ∃ vSt' vOu', Bb w' B J vOp vRe vTe vNu vSt' most (outs + n) vNx vOu' ∧ w'.ownsRow lo 9 1 vSt' (L ++ [tx]).length ((L ++ [tx]).map Value.string) ∧ w'.ownsRow lo 34 1 vOu' (VS ++ [Value.slice ao n co]).length (VS ++ [Value.slice ao n co])
        ∧ Only w w' (fun k => k = B ∨ vSt.ownBlock = some k ∨ vOu.ownBlock = some k) ∧ (∀ k, vSt'.ownBlock = some k → vSt.ownBlock = some k ∨ w.heap.size ≤ k) ∧ (∀ k, vOu'.ownBlock = some k → vOu.ownBlock = some k ∨ w.heap.size ≤ k)) := by
  obtain ⟨j0, hj, jy⟩ := Option.map_eq_some_iff.1 infoStr
  simp only [Prod.mk.injEq] at jy
  obtain ⟨jy0, jy1, jy2⟩ := jy
  obtain ⟨i0, hi, hz⟩ := Option.map_eq_some_iff.1 infoIntsM
  simp only [Prod.mk.injEq] at hz
  obtain ⟨hz0, hz1, hz2⟩ := hz
  obtain ⟨s, hs⟩ : ∃ s : Nat, s = outs + n := ⟨_, rfl⟩
  rw [← hs]
  have hgB : B ≠ 1 := fun e => by
    have h1 := hb.c.1
    rw [e, hsen.c2] at h1
    injection h1 with h1
    cases h1
  obtain ⟨w0, hw0⟩ : ∃ w0, w0 = w.setCell ⟨B, 7, none⟩ (.int .i64 (s : Int)) := ⟨_, rfl⟩
  have hO0 : Only w w0 (fun k => k = B) := by rw [hw0]; exact Only.setCell _ _ _ _
  have hb0 : Bb w0 B J vOp vRe vTe vNu vSt most s vNx vOu := by rw [hw0]; exact hb.setOuts s
  have n1 := own_ne_blk hst hb.r (by decide)
  have n2 := own_ne_blk hou hb.r (by decide)
  have hst0 : w0.ownsRow lo 9 1 vSt L.length (L.map Value.string) := own_blk hst (fun k hk => hO0.block k (World.ownsRow.lt hst k hk).2 (fun e => n1 (e ▸ hk)))
  have hou0 : w0.ownsRow lo 34 1 vOu VS.length VS := own_blk hou (fun k hk => hO0.block k (World.ownsRow.lt hou k hk).2 (fun e => n2 (e ▸ hk)))
  have e2 : w0.cell? ⟨1, 0, none⟩ = some (.iface 157 (.pointer (some (A 2)))) := (hO0.cell (p := ⟨1, 0, none⟩) (World.block_lt_of_cell? w _ hsen.c2) (fun e => hgB e.symm)).trans hsen.c2
  have hlo0 : lo ≤ w0.heap.size := Nat.le_trans hlo hO0.size
  obtain ⟨a5, c5, hv5⟩ : ∃ a c, vSt = .slice a L.length c := own_sl hst
  subst hv5
  have k7 := hb.c.2.2.2.2.2.2.2.1
  have f7 := hb.fz 7
  obtain ⟨_, _, _, _, _, d5, d6, d7, _, _, d10⟩ := hb0.c
  have HO0 := hid0 hO0
  have HB0 := hid0 hb0
  have HSt0 := hid0 hst0
  have HOu0 := hid0 hou0
  have hsI : (outs : Int) + (n : Int) = (s : Int) := by omega
  have hws : IntKind.i64.wrap (s : Int) = (s : Int) := by rw [IntKind.wrap_i64]; omega
  have hfold := hw0.symm
  have hsb : s ≤ 1004194304 := by omega
  clear hw0 hb hst hou hlo hsen hO0 hb0 hst0 hou0 hs n1 n2 hgB
  by_cases h1 : L.length = most ∨ 4194304 < s
  · have HH := hid0 h1
    have hq : ((L.length : Int) == (most : Int)) = true ∨ (((L.length : Int) == (most : Int)) = false ∧ (4194304 : Int) < (s : Int)) := by
      by_cases e : L.length = most
      · left; simp [e]
      · right
        have : 4194304 < s := by rcases h1 with h | h; exact absurd h e; exact h
        exact ⟨by rw [beq_eq_false_iff_ne]; omega, by omega⟩
    clear h1
    rcases hq with h1 | ⟨h1, h2⟩
    all_goals
      go_enter Tryd.func53, Tryd.ntmps53
      go_wp2
      go_region
      all_goals
        go_wp2
        go_ret
        exact ⟨fun _ => ⟨rfl, HO0.out.trans (Only.drewN w0 _ _) (fun _ h => .inl h)⟩, fun h => absurd HH.out h⟩
  · have HH := hid0 h1
    have hq1 : ((L.length : Int) == (most : Int)) = false := by rw [beq_eq_false_iff_ne]; omega
    have hq2 : ¬ (4194304 : Int) < (s : Int) := by omega
    clear h1
    go_enter Tryd.func53, Tryd.ntmps53
    go_wp2
    go_region
    have HDw : Hid (Only w w0.drew (fun k => k = B) ∧ Bb w0.drew B J vOp vRe vTe vNu (.slice a5 L.length c5) most s vNx vOu ∧ w0.drew.ownsRow lo 9 1 (.slice a5 L.length c5) L.length (L.map Value.string) ∧ w0.drew.ownsRow lo 34 1 vOu VS.length VS ∧ lo ≤ w0.drew.heap.size) := hid0 ⟨HO0.out.trans (Only.drewN w0 1 _) (fun _ h => .inl h), HB0.out.kept rfl, own_blk HSt0.out (fun _ _ => rfl), own_blk HOu0.out (fun _ _ => rfl), hlo0⟩
    generalize w0.drew = wd at *
    have HD1 := hid0 HDw.out.2.2.1
    have hlod := HDw.out.2.2.2.2
    clear d5 d6 d7 d10 e2 k7 f7 hfold HO0 HB0 HSt0 HOu0 hlo0 hsI hws
    obtain ⟨d0, _, _, _, _, d5, _, _, _, _, _⟩ := HDw.out.2.1.c
    have HS1 : Hid (∀ (v1 : Value) (w1 : World), ApG 9 wd w1 lo (.slice a5 L.length c5) v1 (L.map Value.string ++ [.string tx]) → Bb w1 B J vOp vRe vTe vNu (.slice a5 L.length c5) most s vNx vOu ∧ (Bb (w1.setCell ⟨B, 5, none⟩ v1) B J vOp vRe vTe vNu v1 most s vNx vOu ∧ (w1.setCell ⟨B, 5, none⟩ v1).ownsRow lo 9 1 v1 (L ++ [tx]).length ((L ++ [tx]).map Value.string) ∧ (w1.setCell ⟨B, 5, none⟩ v1).ownsRow lo 34 1 vOu VS.length VS ∧ lo ≤ (w1.setCell ⟨B, 5, none⟩ v1).heap.size ∧ Only w (w1.setCell ⟨B, 5, none⟩ v1) (fun k => k = B ∨ (Value.slice a5 L.length c5).ownBlock = some k ∨ vOu.ownBlock = some k) ∧ (∀ k, v1.ownBlock = some k → (Value.slice a5 L.length c5).ownBlock = some k ∨ w.heap.size ≤ k))) := hid0 (fun v1 w1 h => by
      obtain ⟨g1, g2, g3, g4, g5⟩ := HDw.out
      have m1 := own_ne_blk g3 g2.r (by decide)
      have m2 := own_ne_blk g4 g2.r (by decide)
      have b1 := g2.kept (h.frm.block _ g2.lt m1)
      have m3 := own_ne_blk h.own b1.r (by decide)
      have hn : ∀ k, vOu.ownBlock = some k → (Value.slice a5 L.length c5).ownBlock ≠ some k := fun k hk => by
        obtain ⟨c, hc⟩ := own_typ g4 hk
        exact own_ne_blk g3 hc (by decide)
      have o1 : w1.ownsRow lo 34 1 vOu VS.length VS := own_blk g4 (fun k hk => h.frm.block k (World.ownsRow.lt g4 k hk).2 (hn k hk))
      have hO := Only.setCell w1 B 5 v1
      refine ⟨b1, b1.setSt v1, ?_, own_blk o1 (fun k hk => hO.block k (World.ownsRow.lt o1 k hk).2 (fun e => m2 (e ▸ hk))), Nat.le_trans g5 (Nat.le_trans h.frm.size hO.size), ((g1.mono (fun _ h => .inl h)).trans h.frm (fun i hi => .inl (.inr (.inl hi)))).trans hO (fun i hi => .inl (.inl hi)), fun k hk => (h.at' k hk).imp_right (fun h => Nat.le_trans g1.size h)⟩
      have h2 := own_blk (W' := w1.setCell ⟨B, 5, none⟩ v1) h.own (fun k hk => hO.block k (World.ownsRow.lt h.own k hk).2 (fun e => m3 (e ▸ hk)))
      simpa using h2)
    have HS2 : Hid (∀ (v1 v2 : Value) (w2 w3 : World), (Bb w2 B J vOp vRe vTe vNu v1 most s vNx vOu ∧ w2.ownsRow lo 9 1 v1 (L ++ [tx]).length ((L ++ [tx]).map Value.string) ∧ w2.ownsRow lo 34 1 vOu VS.length VS ∧ lo ≤ w2.heap.size ∧ Only w w2 (fun k => k = B ∨ (Value.slice a5 L.length c5).ownBlock = some k ∨ vOu.ownBlock = some k) ∧ (∀ k, v1.ownBlock = some k → (Value.slice a5 L.length c5).ownBlock = some k ∨ w.heap.size ≤ k)) → ApG 34 w2 w3 lo vOu v2 (VS ++ [Value.slice ao n co]) → Bb w3 B J vOp vRe vTe vNu v1 most s vNx vOu ∧ Bb (w3.setCell ⟨B, 10, none⟩ v2) B J vOp vRe vTe vNu v1 most s vNx v2 ∧ (w3.setCell ⟨B, 10, none⟩ v2).ownsRow lo 9 1 v1 (L ++ [tx]).length ((L ++ [tx]).map Value.string) ∧ (w3.setCell ⟨B, 10, none⟩ v2).ownsRow lo 34 1 v2 (VS ++ [Value.slice ao n co]).length (VS ++ [Value.slice ao n co])
        ∧ Only w (w3.setCell ⟨B, 10, none⟩ v2) (fun k => k = B ∨ (Value.slice a5 L.length c5).ownBlock = some k ∨ vOu.ownBlock = some k) ∧ (∀ k, v1.ownBlock = some k → (Value.slice a5 L.length c5).ownBlock = some k ∨ w.heap.size ≤ k) ∧ (∀ k, v2.ownBlock = some k → vOu.ownBlock = some k ∨ w.heap.size ≤ k)) := hid0 (fun v1 v2 w2 w3 ⟨g2, g3, g4, g5, g6, g7⟩ h => by
      have m1 := own_ne_blk g3 g2.r (by decide)
      have m2 := own_ne_blk g4 g2.r (by decide)
      have b1 := g2.kept (h.frm.block _ g2.lt m2)
      have m3 := own_ne_blk h.own b1.r (by decide)
      have hn : ∀ k, v1.ownBlock = some k → vOu.ownBlock ≠ some k := fun k hk => by
        obtain ⟨c, hc⟩ := own_typ g3 hk
        exact own_ne_blk g4 hc (by decide)
      have o1 : w3.ownsRow lo 9 1 v1 (L ++ [tx]).length ((L ++ [tx]).map Value.string) := own_blk g3 (fun k hk => h.frm.block k (World.ownsRow.lt g3 k hk).2 (hn k hk))
      have hO := Only.setCell w3 B 10 v2
      exact ⟨b1, b1.setOu v2, own_blk o1 (fun k hk => hO.block k (World.ownsRow.lt o1 k hk).2 (fun e => m1 (e ▸ hk))), own_blk h.own (fun k hk => hO.block k (World.ownsRow.lt h.own k hk).2 (fun e => m3 (e ▸ hk))), (g6.trans h.frm (fun i hi => .inl (.inr (.inr hi)))).trans hO (fun i hi => .inl (.inl hi)), g7, fun k hk => (h.at' k hk).imp_right (fun h => Nat.le_trans g6.size h)⟩)
    clear HDw
    go_upto_region 5 with (at_builtin; go_loud ((refine wpList_append_own_at _ rfl _ _ 95 rfl lo 9 j0 (.string ⟨#[]⟩) 1 16 Tryd.underlying95 hj jy0 jy1 jy2 rfl (by decide) (.slice a5 L.length c5) L.length (L.map Value.string) rfl (World.ownsRow.alloc HD1.out _) ⟨wd.heap.size, 0, none⟩ 1 1 [.string tx] rfl rfl (cell_one_new _ _ _) (by simp [Value.oneCell']) (by unfold maxLen; omega) (by omega) (by simp; omega) ?_; intro v1 w1 h1 h2 _ h4; obtain ⟨a1, c1, rfl⟩ := own_sl h1; have R := hid0 (HS1.out _ w1 (apG_one (by rw [List.length_map]; exact h1) h2 h4)); clear h1 h2 h4; have d5 := R.out.1.c.2.2.2.2.2.1; have f5 := R.out.1.fz 5)))
    have HR2 := hid0 R.out.2
    clear R d5 f5 d0
    generalize w1.setCell ⟨B, 5, none⟩ (.slice a1 (L.length + 1) c1) = w2 at *
    have HD2 := hid0 HR2.out.2.2.1
    have hlo2 := HR2.out.2.2.2.1
    obtain ⟨_, _, _, _, _, _, _, _, _, _, d10⟩ := HR2.out.1.c
    obtain ⟨aU, cU, rfl⟩ := own_sl HD2.out
    clear HS1 HD1
    go_wp2_with (at_builtin; go_loud ((refine wpList_append_own_at _ rfl _ _ 26 rfl lo 34 i0 (.slice none 0 0) 1 24 Tryd.underlying26 hi hz0 hz1 hz2 rfl (by decide) (.slice aU VS.length cU) VS.length VS rfl (World.ownsRow.alloc HD2.out _) ⟨w2.heap.size, 0, none⟩ 1 1 [.slice ao n co] rfl rfl (cell_one_new _ _ _) (by simp [Value.oneCell']) (by unfold maxLen; omega) (by omega) (by simp; omega) ?_; intro v2 w3 h1 h2 _ h4; obtain ⟨a2, c2, rfl⟩ := own_sl h1; have R := hid0 (HS2.out _ _ w2 w3 HR2.out (apG_one h1 h2 h4)); clear h1 h2 h4; have d10 := R.out.1.c.2.2.2.2.2.2.2.2.2.2; have f10 := R.out.1.fz 10)))
    go_ret
    exact ⟨fun h => absurd h HH.out, fun _ => ⟨rfl, _, _, R.out.2⟩⟩
end Go.Proofs.YtleeedjpccooaaaDoor
namespace Go.Proofs.YtleeedjpccooaaaDoor
open Go.RowKit Go.Shelf
/-- A set without the places of another's first k words. -/
def anF (h op : Nat → Bool) (k : Nat) : Nat → Bool := fun q => h q && !(decide (q / 64 < k) && op q)
theorem anF_zero (h op : Nat → Bool) : anF h op 0 = h := by funext q; simp [anF]
theorem word_andn (h op : Nat → Bool) (k : Nat) : wordOf (anF h op k) k &&& (18446744073709551615 - wordOf op k) = wordOf (anF h op (k + 1)) k := by
  apply Nat.eq_of_testBit_eq
  intro i
  have e : 18446744073709551615 - wordOf op k = 2 ^ 64 - (wordOf op k + 1) := by omega
  rw [e, Nat.testBit_and, Nat.testBit_two_pow_sub_succ (wordOf_lt op k), wordOf_bit, wordOf_bit, wordOf_bit]
  by_cases hi : i < 64
  · have e1 : (64 * k + i) / 64 = k := by omega
    have e2 : k < k + 1 := by omega
    simp [hi, anF, e1, e2]
  · simp [hi]
theorem word_andn_other (h op : Nat → Bool) (k i : Nat) (hi : i ≠ k) : wordOf (anF h op (k + 1)) i = wordOf (anF h op k) i := by
  apply Nat.eq_of_testBit_eq
  intro j
  rw [wordOf_bit, wordOf_bit]
  by_cases hj : j < 64
  · have e1 : (64 * i + j) / 64 = i := by omega
    have e2 : (i < k + 1) = (i < k) := by simp; omega
    simp [hj, anF, e1, e2]
  · simp [hj]
theorem OwnU.put {W : World} {base g n c a : Nat} {h h' : Nat → Bool} (ho : OwnU W base (.slice (some ⟨g, 0, none⟩) n c) n h) (ha : a < n) (hh : ∀ i, i ≠ a → wordOf h' i = wordOf h i) : OwnU (W.setCell ⟨g, a, none⟩ (.int .u64 (wordOf h' a : Int))) base (.slice (some ⟨g, 0, none⟩) n c) n h' := by
  have h1 := (World.ownsRow.stored ho a (.int .u64 (wordOf h' a : Int))).1
  have e : (wdV h n).set a (.int .u64 (wordOf h' a : Int)) = wdV h' n := by
    apply List.ext_getElem?
    intro i
    by_cases hi : i < n
    · by_cases hia : a = i
      · subst hia
        rw [List.getElem?_set_self (by rw [wdV_len]; exact ha), wdV_at _ ha]
      · rw [List.getElem?_set_ne hia, wdV_at _ hi, wdV_at _ hi, hh i (fun e => hia e.symm)]
    · rw [List.getElem?_eq_none (by rw [List.length_set, wdV_len]; omega), List.getElem?_eq_none (by rw [wdV_len]; omega)]
  unfold OwnU
  rw [← e]
  exact h1
theorem wordOf_none (i : Nat) : wordOf (fun _ => false) i = 0 := by
  apply Nat.eq_of_testBit_eq
  intro j
  rw [wordOf_bit]
  simp
theorem wdV_none (n : Nat) : wdV (fun _ => false) n = List.replicate n (.int .u64 0) := by
  apply List.ext_getElem?
  intro i
  by_cases hi : i < n
  · rw [wdV_at _ hi, List.getElem?_replicate, if_pos hi, wordOf_none]; rfl
  · rw [List.getElem?_eq_none (by rw [wdV_len]; omega), List.getElem?_eq_none (by rw [List.length_replicate]; omega)]
theorem Only.setRow (w : World) (g : Nat) (cs : Array Value) : Only w (w.setRow g cs) (fun k => k = g) := ⟨rfl, rfl, rfl, by simp [World.setRow], fun k _ h => by
  simp only [World.setRow, Array.getElem?_modify]
  rw [if_neg (fun e => h e.symm)]⟩
theorem infoU64s : (Tryd.prog.info? 105).map (·.size) = some 1 := by kernel_rfl
set_option maxRecDepth 10000 in
theorem copy_own {W : World} {lo lo' G N c : Nat} {h k : Nat → Bool} {aC : Option Addr} {cC : Nat} (ho : OwnU W lo (.slice (some ⟨G, 0, none⟩) N c) N h) (hc : OwnU W lo' (.slice aC N cC) N k) :
    ∃ W', (∀ ty, (Builtin.copy_ #[83, 83] ty #[.slice (some ⟨G, 0, none⟩) N c, .slice aC N cC]).run Tryd.prog W = .ok (.int .i64 (N : Int)) W') ∧ OwnU W' lo (.slice (some ⟨G, 0, none⟩) N c) N k ∧ Only W W' (fun i => i = G) := by
  by_cases h0 : N = 0
  · subst h0
    refine ⟨W, fun ty => ?_, ⟨by simp [wdV_len], ?_⟩, Only.refl _ _⟩
    · exact run_copy_none (P := Tryd.prog) W 83 83 ty 105 _ _ 0 c 0 cC Tryd.underlying83 infoU64s (by simp)
    · rcases ho.2 with ⟨e, _⟩ | ⟨g, cap, cur, e, h1, h2, h3, h4, h5, h6⟩
      · cases e
      · exact .inr ⟨g, cap, cur, e, h1, h2, h3, h4, h5, by simp [wdV]⟩
  · obtain ⟨g', c', e', _, _, _⟩ := OwnU.at' hc (i := 0) (by omega)
    have e2 : aC = some ⟨g', 0, none⟩ := by injection e'
    subst e2
    rcases ho.2 with ⟨e, _⟩ | ⟨g, cap, cur, e, h1, h2, h3, h4, h5, h6⟩
    · cases e
    · simp only [Value.slice.injEq, Option.some.injEq, Addr.mk.injEq, and_true, true_and] at e
      obtain ⟨rfl, rfl⟩ := e
      refine ⟨_, fun ty => (run_copy_row (P := Tryd.prog) W 83 83 ty 105 G 0 N c ⟨g', 0, none⟩ N cC cur 105 (wdV k N) Tryd.underlying83 infoU64s h2 (by simp [wdV_len]) (fun j v hj => ?_) (by rw [wdV_len]; omega) (fun v hv => ?_)).trans (by rw [wdV_len]; rfl), ⟨by simp [wdV_len], .inr ⟨G, c, _, rfl, h1, setRow_heap W G _ _ _ _ h2, h3, h4, ?_, ?_⟩⟩, Only.setRow _ _ _⟩
      · have hj2 : j < N := by have := (List.getElem?_eq_some_iff.1 hj).1; rw [wdV_len] at this; exact this
        obtain ⟨g2, c2, e2, _, _, h8, _⟩ := OwnU.at' hc hj2
        have e3 : g' = g2 := by simp only [Value.slice.injEq, Option.some.injEq, Addr.mk.injEq, and_true] at e2; exact e2.1
        subst e3
        rw [Addr.add_lit, Nat.zero_add, h8, ← hj, wdV_at k hj2]
      · unfold wdV at hv
        obtain ⟨i, _, rfl⟩ := List.mem_map.1 hv
        rfl
      · simp [wdV_len]; omega
      · simp only [List.take_zero, List.nil_append, Nat.mul_one]
        rw [List.take_append_of_le_length (by rw [wdV_len]; omega), List.take_of_length_le (by rw [wdV_len]; omega)]
theorem own_cells {lo G n c : Nat} {t : TypeId} : ∀ (vs : List Value) (o : Nat) (W : World) (xs : List Value), W.ownsRow lo t 1 (.slice (some ⟨G, 0, none⟩) n c) n xs → o + vs.length ≤ n → (W.setCells G o vs).ownsRow lo t 1 (.slice (some ⟨G, 0, none⟩) n c) n (xs.take o ++ vs ++ xs.drop (o + vs.length)) ∧ Only W (W.setCells G o vs) (fun k => k = G)
  | [], o, W, xs, h, _ => ⟨by simpa [World.setCells] using h, Only.refl _ _⟩
  | v :: vs, o, W, xs, h, hl => by
    have hx : xs.length = n := by have := h.1; omega
    rw [List.length_cons] at hl
    obtain ⟨h1, h2⟩ := own_cells vs (o + 1) _ _ (World.ownsRow.stored h o v).1 (by omega)
    refine ⟨?_, (Only.setCell W G o v).trans h2 (fun _ h => .inl h)⟩
    have e : (xs.set o v).take (o + 1) ++ vs ++ (xs.set o v).drop (o + 1 + vs.length) = xs.take o ++ v :: vs ++ xs.drop (o + (v :: vs).length) := by
      rw [List.take_set, List.drop_set_of_lt (by omega), List.take_add_one, List.getElem?_eq_getElem (by omega), List.length_cons, show o + 1 + vs.length = o + (vs.length + 1) by omega]
      rw [Option.toList_some, List.set_append_right _ _ (by rw [List.length_take]; omega)]
      rw [show o - (xs.take o).length = 0 by rw [List.length_take]; omega]
      simp
    rw [← e]
    exact h1
set_option maxRecDepth 10000 in
theorem clear_own {W : World} {lo G N c : Nat} {h : Nat → Bool} (ho : OwnU W lo (.slice (some ⟨G, 0, none⟩) N c) N h) :
    ∃ W', (∀ ty, (Builtin.clear_ #[83] ty #[.slice (some ⟨G, 0, none⟩) N c]).run Tryd.prog W = .ok (.tuple #[]) W') ∧ OwnU W' lo (.slice (some ⟨G, 0, none⟩) N c) N (fun _ => false) ∧ Only W W' (fun i => i = G) := by
  by_cases h0 : N = 0
  · subst h0
    refine ⟨W, fun ty => ?_, ⟨by simp [wdV_len], ?_⟩, Only.refl _ _⟩
    · simp [Builtin.clear_, run_underlying Tryd.underlying83]
    · rcases ho.2 with ⟨e, _⟩ | ⟨g, cap, cur, e, h1, h2, h3, h4, h5, h6⟩
      · cases e
      · exact .inr ⟨g, cap, cur, e, h1, h2, h3, h4, h5, by simp [wdV]⟩
  · obtain ⟨h1, h2⟩ := own_cells (List.replicate N (.int .u64 0)) 0 W _ ho (by simp)
    refine ⟨_, fun ty => Lib.run_clear_slice W 83 105 ty (.int .u64 0) Tryd.underlying83 (fun w => by rfl) rfl rfl G 0 N c (by omega) (fun j hj => ?_) (fun j hj => ?_), ?_, h2⟩
    · obtain ⟨g, c', e, _, _, h8, _⟩ := OwnU.at' ho hj
      cases e
      rw [Nat.zero_add, h8]
      rfl
    · obtain ⟨g, c', e, _, _, _, h9⟩ := OwnU.at' ho hj
      cases e
      rw [Nat.zero_add]
      exact h9
    · unfold OwnU
      rw [wdV_none]
      have e : List.drop N (wdV h N) = [] := List.drop_eq_nil_of_le (by rw [wdV_len]; omega)
      simpa [e] using h1
end Go.Proofs.YtleeedjpccooaaaDoor
namespace Go.Proofs.YtleeedjpccooaaaDoor
open Go.RowKit Go.Shelf
set_option maxRecDepth 10000 in
set_option maxHeartbeats 1600000 in
theorem reach0_any (B J G N cR lo lo' most outs sy cC : Nat) (h cl : Nat → Bool) (aC : Option Addr) (vOp vTe vNu vSt vNx vOu vO vF vE vL vM vZ vP vS vA : Value) (w : World) (hb : Bb w B J vOp (.slice (some ⟨G, 0, none⟩) N cR) vTe vNu vSt most outs vNx vOu) (hj : Jb w J sy vO vF vE vL vM vZ vP (.slice aC N cC) vS vA) (hR : OwnU w lo (.slice (some ⟨G, 0, none⟩) N cR) N h) (hC : OwnU w lo' (.slice aC N cC) N cl) :
    Calls Tryd.prog 55 #[.pointer (some ⟨B, 0, none⟩), .int .i64 0] w fun e w' => (∃ v, e = .returned v) ∧ OwnU w' lo (.slice (some ⟨G, 0, none⟩) N cR) N cl ∧ Only w w' (fun k => k = G) := by
  obtain ⟨W', hcp, h1, h2⟩ := copy_own (hR.kept (W' := w.drew) rfl) (hC.kept (W' := w.drew) rfl)
  have HF := hid0 (show OwnU W' lo (.slice (some ⟨G, 0, none⟩) N cR) N cl ∧ Only w W' (fun k => k = G) from ⟨h1, (Only.drewN w 1 _).trans h2 (fun _ h => .inl h)⟩)
  obtain ⟨b0, _, b2, _⟩ := hb.c
  obtain ⟨_, _, _, _, _, _, _, _, c8, _⟩ := hj.c
  clear hb hj hR hC h1 h2
  go_enter Tryd.func55, Tryd.ntmps55
  go_wp2
  go_region
  all_goals
    go_wp2
    refine bodyPost_ret (results_none rfl _ _ _) rfl ?_
    exact ⟨⟨_, rfl⟩, HF.out⟩
end Go.Proofs.YtleeedjpccooaaaDoor
namespace Go.Proofs.YtleeedjpccooaaaDoor
open Go.RowKit Go.Shelf
/-- What reachFrom asks of the world, whatever the set holds. -/
structure Rch (V : World) (B J G N cR sy most outs GS nS cS st GO nO cO o cE cP : Nat) (nE : Nat) (aE aP : Option Addr) (f fo op : Nat → Bool) (FO : List (List (Nat × Nat))) (vTe vNu vNx vOu vO vF vE vL vM vZ vC vS vA : Value) : Prop where
  b : Bb V B J (.slice (some ⟨GO, 0, none⟩) nO cO) (.slice (some ⟨G, 0, none⟩) N cR) vTe vNu (.slice (some ⟨GS, 0, none⟩) nS cS) most outs vNx vOu
  j : Jb V J sy vO vF vE vL vM vZ (.slice aP N cP) vC vS vA
  s : V.cell? ⟨GS, st, none⟩ = some (.string ⟨(leB o 4 ++ encW f N).toArray⟩)
  o2 : V.cell? ⟨GO, o * 2, none⟩ = some (.string ⟨(encW fo N).toArray⟩)
  o3 : V.cell? ⟨GO, o * 2 + 1, none⟩ = some (.slice aE nE cE)
  r : RwW V vF vE FO
  t : TabAt 11 Lib.deBruijn64tab V
  p : ∃ lo', OwnU V lo' (.slice aP N cP) N op
set_option maxRecDepth 10000 in
set_option maxHeartbeats 3200000 in
theorem reach_any (B J G N cR lo sy most outs GS nS cS st GO nO cO o cE cP : Nat) (nE : Nat) (aE aP : Option Addr) (h f fo op : Nat → Bool) (FO : List (List (Nat × Nat))) (vTe vNu vNx vOu vO vF vE vL vM vZ vC vS vA : Value) (w : World)
    (hall : ∀ V : World, Only w V (fun k => k = G) → Rch V B J G N cR sy most outs GS nS cS st GO nO cO o cE cP nE aE aP f fo op FO vTe vNu vNx vOu vO vF vE vL vM vZ vC vS vA) (hR : OwnU w lo (.slice (some ⟨G, 0, none⟩) N cR) N h)
    (hN : N ≤ 1000000) (hfo : ∀ r ∈ FO, ∀ x ∈ r, x.1 < N ∧ x.2 < 18446744073709551616) (hff : ∀ q, f q = true → q < FO.length) (hfg : ∀ q, fo q = true → q < FO.length) (hl1 : FO.flatten.length ≤ 1000000000) (hl2 : FO.length ≤ 1000000000) (hst : st < nS) (hst0 : 0 < st) (_hnS : nS ≤ 100000000) (ho : o < nO) (hnO : nO ≤ 100000000) :
    Calls Tryd.prog 55 #[.pointer (some ⟨B, 0, none⟩), .int .i64 (st : Int)] w fun e w' => (∃ v, e = .returned v) ∧ OwnU w' lo (.slice (some ⟨G, 0, none⟩) N cR) N (anF (accF (accF (fun _ => false) FO (plB fo (64 * N))) FO (plB f (64 * N))) op N) ∧ Only w w' (fun k => k = G) := by
  have HA := hid0 hall
  obtain ⟨H1, hH1⟩ : ∃ H1, H1 = accF (fun _ => false) FO (plB fo (64 * N)) := ⟨_, rfl⟩
  obtain ⟨H2, hH2⟩ : ∃ H2, H2 = accF H1 FO (plB f (64 * N)) := ⟨_, rfl⟩
  have HFo : Hid (∀ (V : World) (h' f' : Nat → Bool), Only w V (fun k => k = G) → OwnU V lo (.slice (some ⟨G, 0, none⟩) N cR) N h' → (∀ q, f' q = true → q < FO.length) → Calls Tryd.prog 74 #[.pointer (some ⟨J, 0, none⟩), .slice (some ⟨G, 0, none⟩) N cR, .string ⟨(encW f' N).toArray⟩] V fun e w' => (∃ v, e = .returned v) ∧ OwnU w' lo (.slice (some ⟨G, 0, none⟩) N cR) N (accF h' FO (plB f' (64 * N))) ∧ Only V w' (fun k => k = G)) := hid0 (fun V h' f' hV hU hf' => follows_any J G N cR lo f' h' FO vF vE V hN hU (fun X hX => by
      have q := HA.out X (hV.trans hX (fun _ h => .inl h))
      exact ⟨q.j.c.2.2.1, q.j.c.2.2.2.1, q.r, q.t⟩) hfo hf' hl1 hl2)
  have HG1 := hid0 hfg
  have HG2 := hid0 hff
  rw [← hH1, ← hH2]
  obtain ⟨w1, hcl, hu1, ho1⟩ := clear_own hR
  have HU1 := hid0 hu1
  have HO1 := hid0 ho1
  have q0 := hall w (Only.refl _ _)
  have q1 := hall w1 ho1
  have b2 := q0.b.c.2.2.1
  have b5 := q1.b.c.2.2.2.2.2.1
  have bs := q1.s
  have HRe := hid0 (read_any B GO nO cO o nE cE aE (encW fo N) (encW f N) w1 q1.b.c.2.1 q1.o2 q1.o3 ho hnO (by have := encW_len f N; omega))
  have HH := hid0 (show H1 = accF (fun _ => false) FO (plB fo (64 * N)) ∧ H2 = accF H1 FO (plB f (64 * N)) from ⟨hH1, hH2⟩)
  obtain ⟨tB, htB⟩ : ∃ tB : ByteArray, tB = ⟨(leB o 4 ++ encW f N).toArray⟩ := ⟨_, rfl⟩
  obtain ⟨rB, hrB⟩ : ∃ rB : ByteArray, rB = ⟨(encW f N).toArray⟩ := ⟨_, rfl⟩
  obtain ⟨pB, hpB⟩ : ∃ pB : ByteArray, pB = ⟨(encW fo N).toArray⟩ := ⟨_, rfl⟩
  rw [← htB] at bs
  rw [← htB, ← hrB, ← hpB] at HRe
  have HrB := hid0 hrB
  have HpB := hid0 hpB
  have hstI : (st : Int) < (nS : Int) := by omega
  have hstI0 : (0 : Int) ≤ (st : Int) := by omega
  have hst1 : ((st : Int) == 0) = false := by rw [beq_eq_false_iff_ne]; omega
  clear hall hR hfo hff hfg hl1 hl2 hu1 ho1 q0 q1 hH1 hH2 htB hrB hpB hst hst0
  go_enter Tryd.func55, Tryd.ntmps55
  go_upto_region 4 with (go_at_call 73; go_loud ((refine HRe.out.mono ?_; rintro e w2 ⟨rfl, hb2⟩; have HB2 := hid0 hb2; clear hb2)))
  obtain ⟨w3, hw3⟩ : ∃ w3, w3 = w2.alloc (.cells #[.string pB, .slice aE nE cE] 103) := ⟨_, rfl⟩
  have hr3 : w3.heap[w2.heap.size]? = some (.cells #[.string pB, .slice aE nE cE] 103 (0, 0)) := by rw [hw3]; exact heap_alloc_new w2 _
  have hb3 : Below w1.heap.size w1 w3 := Below.later HB2.out (by rw [hw3]; exact (Below.refl _ _).alloc (Nat.le_refl _) _)
  have HO3 : Hid (Only w w3 (fun k => k = G)) := hid0 (HO1.out.trans (Only.ofNew hb3 (fun k => k = G)) (fun _ h => .inl h))
  have HU3 : Hid (OwnU w3 lo (.slice (some ⟨G, 0, none⟩) N cR) N (fun _ => false)) := hid0 (HU1.out.past hb3)
  have hGl : G < w2.heap.size := Nat.lt_of_lt_of_le (World.ownsRow.lt HU1.out G rfl).2 HB2.out.size
  have HX : Hid (∀ V : World, Only w3 V (fun k => k = G) → V.cell? ⟨B, 0, none⟩ = some (.pointer (some ⟨J, 0, none⟩)) ∧ V.cell? ⟨B, 2, none⟩ = some (.slice (some ⟨G, 0, none⟩) N cR) ∧ V.cell? ⟨w2.heap.size, 0, none⟩ = some (.string pB)) := hid0 (fun V hV => by
    have q := HA.out V (HO3.out.trans hV (fun _ h => .inl h))
    have hq : V.heap[w2.heap.size]? = _ := (hV.block _ (Array.getElem?_eq_some_iff.1 hr3).1 (by omega)).trans hr3
    exact ⟨q.b.c.1, q.b.c.2.2.1, by rw [cell_of_row _ _ _ _ _ _ hq]; rfl⟩)
  have HF4 : Hid (Calls Tryd.prog 74 #[.pointer (some ⟨J, 0, none⟩), .slice (some ⟨G, 0, none⟩) N cR, .string pB] w3.drew fun e w' => (∃ v, e = .returned v) ∧ Hid (OwnU w' lo (.slice (some ⟨G, 0, none⟩) N cR) N H1) ∧ Hid (Only w3 w' (fun k => k = G))) := hid0 (by
    rw [HpB.out, HH.out.1]
    exact (HFo.out w3.drew _ fo (HO3.out.trans (Only.drewN w3 1 _) (fun _ h => .inl h)) (HU3.out.kept rfl) HG1.out).mono (fun e w' ⟨h1, h2, h3⟩ => ⟨h1, hid0 h2, hid0 ((Only.drewN w3 1 _).trans h3 (fun _ h => .inl h))⟩))
  have HF5 : Hid (∀ V : World, Only w3 V (fun k => k = G) → OwnU V lo (.slice (some ⟨G, 0, none⟩) N cR) N H1 → Calls Tryd.prog 74 #[.pointer (some ⟨J, 0, none⟩), .slice (some ⟨G, 0, none⟩) N cR, .string rB] V.drew fun e w' => (∃ v, e = .returned v) ∧ Hid (OwnU w' lo (.slice (some ⟨G, 0, none⟩) N cR) N H2) ∧ Hid (Only w3 w' (fun k => k = G))) := hid0 (fun V hV hU => by
    rw [HrB.out, HH.out.2]
    exact (HFo.out V.drew _ f ((HO3.out.trans hV (fun _ h => .inl h)).trans (Only.drewN V 1 _) (fun _ h => .inl h)) (hU.kept rfl) HG2.out).mono (fun e w' ⟨h1, h2, h3⟩ => ⟨h1, hid0 h2, hid0 (hV.trans ((Only.drewN V 1 _).trans h3 (fun _ h => .inl h)) (fun _ h => .inl h))⟩))
  have q3 := hw3.symm
  obtain ⟨s0, s1, s2⟩ := HX.out w3 (Only.refl _ _)
  clear hw3 hr3 hb3 HU3 hGl HRe HU1 HO1 HG1 HG2 HFo HB2 b2 b5 bs hcl
  rw [q3]
  go_region_held3 (fun V => V.cell? ⟨B, 0, none⟩ = some (.pointer (some ⟨J, 0, none⟩)) ∧ V.cell? ⟨B, 2, none⟩ = some (.slice (some ⟨G, 0, none⟩) N cR) ∧ V.cell? ⟨w2.heap.size, 0, none⟩ = some (.string pB)) (first | exact HX.out _ (Only.refl _ _) | exact HX.out _ (Only.drewN _ 1 _) | assumption)
    (first
      | (go_at_call 74; refine HF4.out.mono ?_; rintro e w4 ⟨⟨v4, rfl⟩, H4, HO4⟩; have hs4 := HX.out _ HO4.out))
  clear s0 s1 s2 HF4 q3
  have HD4 := hid0 (HX.out _ (HO4.out.trans (Only.drewN w4 1 _) (fun _ h => .inl h)))
  have HC5 := hid0 (HF5.out w4 HO4.out H4.out)
  obtain ⟨s0, s1, s2⟩ := hs4
  go_wp2
  clear HF5 H4
  go_region_held3 (fun V => V.cell? ⟨B, 0, none⟩ = some (.pointer (some ⟨J, 0, none⟩)) ∧ V.cell? ⟨B, 2, none⟩ = some (.slice (some ⟨G, 0, none⟩) N cR) ∧ V.cell? ⟨w2.heap.size, 0, none⟩ = some (.string pB)) (first | exact HX.out _ HO4.out | exact HD4.out | assumption)
    (first
      | (go_at_call 74; refine HC5.out.mono ?_; rintro e w5 ⟨⟨v5, rfl⟩, H5, HO5⟩; have hs5 := HX.out _ HO5.out))
  have HO6 : Hid (Only w w5 (fun k => k = G)) := hid0 (HO3.out.trans HO5.out (fun _ h => .inl h))
  clear s0 s1 s2 HC5 HD4 HX HO3 HO4 HO5 hs5
  have q5 := HA.out w5 HO6.out
  have s0 := q5.b.c.1
  have s7 := q5.j.c.2.2.2.2.2.2.2.1
  have hNI : (N : Int) ≤ 1000000 := by omega
  clear q5
  go_wp2
  go_loopw [67] (fun i wr => ∃ k : Nat, k ≤ N ∧ i = .int .i64 (k : Int) ∧ Hid (OwnU wr lo (.slice (some ⟨G, 0, none⟩) N cR) N (anF H2 op k)) ∧ Hid (Only w wr (fun k => k = G))) (fun i _ => N - (intOf i).toNat)
  case atStart => exact ⟨0, Nat.zero_le _, rfl, hid0 (by rw [anF_zero]; exact H5.out), HO6⟩
  case round =>
    obtain ⟨k, hk, rfl, HK, HW⟩ := hrel
    have q := HA.out wr HW.out
    have b2 := q.b.c.2.2.1
    by_cases hkl : k < N
    · obtain ⟨lp, hp⟩ := q.p
      obtain ⟨gp, cp, ep, _, _, p0, _⟩ := hp.at' hkl
      have ep2 : aP = some ⟨gp, 0, none⟩ := by injection ep
      subst ep2
      obtain ⟨g', c', e', _, _, k0, k1⟩ := HK.out.at' hkl
      cases e'
      obtain ⟨x, hx⟩ : ∃ x : Nat, x = wordOf (anF H2 op k) k := ⟨_, rfl⟩
      obtain ⟨y, hy⟩ : ∃ y : Nat, y = wordOf op k := ⟨_, rfl⟩
      obtain ⟨z, hz⟩ : ∃ z : Nat, z = wordOf (anF H2 op (k + 1)) k := ⟨_, rfl⟩
      have hbits : bits .andNot .u64 (x : Int) (y : Int) = (z : Int) := by rw [hx, hy, hz, u64_andNot_nat _ _ (wordOf_lt _ _) (wordOf_lt _ _), word_andn]
      have hP := HK.out.put hkl (fun i hi => word_andn_other H2 op k i hi)
      rw [← hz] at hP
      have HN1 : Hid (OwnU (wr.setCell ⟨G, k, none⟩ (.int .u64 (z : Int))) lo (.slice (some ⟨G, 0, none⟩) N cR) N (anF H2 op (k + 1)) ∧ Only w (wr.setCell ⟨G, k, none⟩ (.int .u64 (z : Int))) (fun k => k = G)) := hid0 ⟨hP, HW.out.trans (Only.setCell wr G k _) (fun _ h => .inl h)⟩
      rw [← hx] at k0
      rw [← hy] at p0
      have hkI : (k : Int) < (N : Int) := by omega
      have hkI0 : (0 : Int) ≤ (k : Int) := by omega
      clear hP hx hy hz HK hp q ep
      go_wp2
      go_roundw
      case rel => exact ⟨k + 1, by omega, by go_num, hid0 HN1.out.1, hid0 HN1.out.2⟩
      case measure => simp [intOf]; omega
    · obtain rfl : k = N := by omega
      clear q
      go_wp2
      go_end0
      exact ⟨⟨_, rfl⟩, HK.out, HW.out⟩
end Go.Proofs.YtleeedjpccooaaaDoor
namespace Go.Proofs.YtleeedjpccooaaaDoor
open Go.RowKit
theorem step_append_own_at {P : Program} {ops : Array Oper} {o : Oper} {a : Act} {w : World} {K : Act → World → Prop} {Q : Exit → Act → World → Prop} {E : Prop} (hg : o.guard = none) (s x : Operand) (t : TypeId)
    (ho : o.op = .call { callee := .builtin .append, args := #[s, x], argTypes := #[t, t] })
    (base : Nat) (e : TypeId) (i : TypeInfo) (z : Value) (size bytes : Nat) (ht : P.underlying t = some (.slice e)) (hi : P.info? e = some i) (hz : i.zero = some z)
    (hsize : i.size = size) (hby : i.bytes = bytes) (hzs : z.cells.size = size) (hsz : 0 < size)
    (v : Value) (n : Nat) (xs : List Value) (hs : a.eval s = v) (hown : w.ownsRow base e size v n xs)
    (ad : Addr) (m c : Nat) (news : List Value) (hx : a.eval x = .slice (some ad) m c) (hl : news.length = m * size) (hnews : ∀ j u, news[j]? = some u → w.cell? (ad.add j) = some u) (h1 : ∀ u ∈ news, u.oneCell' = true)
    (h63 : n + m ≤ maxLen) (hbytes : (n + m) * bytes ≤ 140737488355328) (hbase : base ≤ w.heap.size)
    (h : ∀ v' w', w'.ownsRow base e size v' (n + m) (xs ++ news) → w.grownBy w' v.ownBlock → (v'.ownBlock = v.ownBlock ∨ v'.ownBlock = some w.heap.size) → K (a.put o.dst v') w') :
    if Region.wanted o (yielded ops a.tmps) = true then Oper.wp P o a w K Q else E := by
  have hw : Region.wanted o (yielded ops a.tmps) = true := by simp [Region.wanted, hg]
  rw [if_pos hw]
  obtain ⟨v', w', hr, h2, h3, _, h5⟩ := run_append_own_at (P := P) w base t o.type e i z size bytes ht hi hz hsize hby hzs hsz v n xs hown ad m c news hl hnews h1 h63 hbytes hbase
  unfold Oper.wp execOp
  simp only [ho, resolve, invoke, builtin, Sem.run_bind, Sem.run_pure, Result.andThen_ok, List.map_toArray, List.map_cons, List.map_nil, hs, hx, hr]
  exact h v' w' h2 h3 h5
end Go.Proofs.YtleeedjpccooaaaDoor
namespace Go.Proofs.YtleeedjpccooaaaDoor
open Go.RowKit Go.Shelf
theorem infoInt1 : (Tryd.prog.info? 3).map (fun i => (i.zero, i.size, i.bytes)) = some (some (.int .i64 0), 1, 8) := by kernel_rfl
theorem nI_len1 (L : List Nat) (n : Nat) : (nI L ++ nI [n]).length = L.length + 1 := by rw [List.length_append, nI_len, nI_len]; rfl
theorem Jb.setE {W : World} {J sy : Nat} {vO vF vE vL vM vZ vP vC vS vA : Value} (h : Jb W J sy vO vF vE vL vM vZ vP vC vS vA) (v : Value) : Jb (W.setCell ⟨J, 3, none⟩ v) J sy vO vF v vL vM vZ vP vC vS vA := ⟨heap_setCell_same W _ 3 _ _ _ h.r⟩
set_option maxRecDepth 10000 in
set_option maxHeartbeats 1600000 in
theorem endW_any (J sy lo n cI cE : Nat) (L : List Nat) (aI aE : Option Addr) (vO vL vM vZ vP vC vS vA : Value) (w : World) (hj : Jb w J sy vO (.slice aI n cI) (.slice aE L.length cE) vL vM vZ vP vC vS vA) (ho : OwnI w lo (.slice aE L.length cE) (nI L)) (hlo : lo ≤ w.heap.size) (_hn : n ≤ 1000000000) (hL : L.length ≤ 1000000000) :
    Calls Tryd.prog 71 #[.pointer (some ⟨J, 2, none⟩)] w fun e w' => (∃ v, e = .returned v) ∧ ∃ v', Jb w' J sy vO (.slice aI n cI) v' vL vM vZ vP vC vS vA ∧ OwnI w' lo v' (nI (L ++ [n])) ∧ Only w w' (fun k => k = J ∨ (Value.slice aE L.length cE).ownBlock = some k) ∧ (∀ k, v'.ownBlock = some k → (Value.slice aE L.length cE).ownBlock = some k ∨ w.heap.size ≤ k) := by
  obtain ⟨i0, hi, hz⟩ := Option.map_eq_some_iff.1 infoInt1
  simp only [Prod.mk.injEq] at hz
  obtain ⟨hz0, hz1, hz2⟩ := hz
  have hlen := nI_len L
  have hown : w.drew.ownsRow lo 3 1 (.slice aE L.length cE) L.length ((nI L).map (Value.int .i64)) := by
    have h := own_blk (W' := w.drew) ho (fun _ _ => rfl)
    rw [hlen] at h
    exact h
  have hjd : Jb w.drew J sy vO (.slice aI n cI) (.slice aE L.length cE) vL vM vZ vP vC vS vA := ⟨hj.r⟩
  have HNx : Hid (∀ (v' : Value) (w2 : World), w2.ownsRow lo 3 1 v' (L.length + 1) ((nI L).map (Value.int .i64) ++ [.int .i64 (n : Int)]) → (w.drew.alloc (.cells #[.int .i64 (n : Int)] 3)).grownBy w2 (Value.slice aE L.length cE).ownBlock → (v'.ownBlock = (Value.slice aE L.length cE).ownBlock ∨ v'.ownBlock = some (w.drew.alloc (.cells #[.int .i64 (n : Int)] 3)).heap.size) → Jb w2 J sy vO (.slice aI n cI) (.slice aE L.length cE) vL vM vZ vP vC vS vA ∧ Jb (w2.setCell ⟨J, 3, none⟩ v') J sy vO (.slice aI n cI) v' vL vM vZ vP vC vS vA ∧ OwnI (w2.setCell ⟨J, 3, none⟩ v') lo v' (nI (L ++ [n])) ∧ Only w (w2.setCell ⟨J, 3, none⟩ v') (fun k => k = J ∨ (Value.slice aE L.length cE).ownBlock = some k) ∧ (∀ k, v'.ownBlock = some k → (Value.slice aE L.length cE).ownBlock = some k ∨ w.heap.size ≤ k)) := hid0 (fun v' w2 h1 h2 h3 => by
    have g := apG_one (xs := (nI L).map (Value.int .i64)) (by rw [List.length_map, hlen]; exact h1) h2 h3
    have m1 := own_ne_blk hown hjd.r (by decide)
    have j2 : Jb w2 J sy vO (.slice aI n cI) (.slice aE L.length cE) vL vM vZ vP vC vS vA := ⟨(g.frm.block _ (Array.getElem?_eq_some_iff.1 hjd.r).1 m1).trans hjd.r⟩
    have m2 := own_ne_blk g.own j2.r (by decide)
    have hO := Only.setCell w2 J 3 v'
    refine ⟨j2, j2.setE v', ?_, (((Only.drewN w 1 _).trans g.frm (fun _ h => .inl (.inr h))).trans hO (fun _ h => .inl (.inl h))), fun k hk => g.at' k hk⟩
    have h4 := own_blk (W' := w2.setCell ⟨J, 3, none⟩ v') g.own (fun k hk => hO.block k (World.ownsRow.lt g.own k hk).2 (fun e => m2 (e ▸ hk)))
    unfold OwnI
    rw [nI_app, List.map_append, nI_len1]
    simpa [nI] using h4)
  obtain ⟨vB, hvB⟩ : ∃ vB, vB = w.drew.alloc (.cells #[.int .i64 (n : Int)] 3) := ⟨_, rfl⟩
  have HOw : Hid (vB.ownsRow lo 3 1 (.slice aE L.length cE) L.length ((nI L).map (Value.int .i64))) := hid0 (by rw [hvB]; exact World.ownsRow.alloc hown _)
  have HNw : Hid (∀ j u, [Value.int .i64 (n : Int)][j]? = some u → vB.cell? ((⟨w.heap.size, 0, none⟩ : Addr).add j) = some u) := hid0 (by rw [hvB]; exact cell_one_new _ _ _)
  have HLw : Hid (lo ≤ vB.heap.size) := hid0 (by rw [hvB]; simp; omega)
  have hjB : Jb vB J sy vO (.slice aI n cI) (.slice aE L.length cE) vL vM vZ vP vC vS vA := by rw [hvB]; exact hjd.past ((Below.refl _ _).alloc (Nat.le_refl _) _)
  have d0 : w.cell? ⟨J, 2, none⟩ = some (.slice aI n cI) := by rw [cell_of_row _ _ _ _ _ _ hj.r]; rfl
  have d1 : w.cell? ⟨J, 3, none⟩ = some (.slice aE L.length cE) := by rw [cell_of_row _ _ _ _ _ _ hj.r]; rfl
  have dB0 : vB.cell? ⟨J, 2, none⟩ = some (.slice aI n cI) := by rw [cell_of_row _ _ _ _ _ _ hjB.r]; rfl
  have dB1 : vB.cell? ⟨J, 3, none⟩ = some (.slice aE L.length cE) := by rw [cell_of_row _ _ _ _ _ _ hjB.r]; rfl
  rw [← hvB] at HNx
  have gB := hvB.symm
  clear hvB hjB hj hjd ho hown
  go_enter Tryd.func71, Tryd.ntmps71
  go_wp2
  go_region_law ((refine step_append_own_at (by rfl) _ _ 34 (by rfl) lo 3 i0 _ 1 8 Tryd.underlying34 hi hz0 hz1 hz2 rfl (by decide) (.slice aE L.length cE) L.length ((nI L).map (Value.int .i64)) (by rfl) HOw.out ⟨w.heap.size, 0, none⟩ 1 1 [.int .i64 (n : Int)] (by rfl) (by rfl) HNw.out (by simp [Value.oneCell']) (by unfold maxLen; omega) (by omega) HLw.out ?_; intro v' w2 h1 h2 h3; obtain ⟨a2, c2, rfl⟩ := own_sl h1; have R := hid0 (HNx.out _ _ h1 ⟨h2.os, h2.tape, h2.output, h2.size, h2.block⟩ h3); clear h1 h2 h3; have t1 : w2.cell? ⟨J, 3, none⟩ = some (.slice aE L.length cE) := (by rw [cell_of_row _ _ _ _ _ _ R.out.1.r]; rfl); have t2 : w2.frozen? ⟨J, 3, none⟩ = false := (by simp [World.frozen?, R.out.1.r])))
  all_goals
    go_wp2
    go_end0
    exact ⟨⟨_, rfl⟩, _, R.out.2⟩
theorem Jb.setM {W : World} {J sy : Nat} {vO vF vE vL vM vZ vP vC vS vA : Value} (h : Jb W J sy vO vF vE vL vM vZ vP vC vS vA) (v : Value) : Jb (W.setCell ⟨J, 5, none⟩ v) J sy vO vF vE vL v vZ vP vC vS vA := ⟨heap_setCell_same W _ 5 _ _ _ h.r⟩
set_option maxRecDepth 10000 in
set_option maxHeartbeats 1600000 in
theorem endL_any (J sy lo n cI cE : Nat) (L : List Nat) (aI aE : Option Addr) (vO vF vE vZ vP vC vS vA : Value) (w : World) (hj : Jb w J sy vO vF vE (.slice aI n cI) (.slice aE L.length cE) vZ vP vC vS vA) (ho : OwnI w lo (.slice aE L.length cE) (nI L)) (hlo : lo ≤ w.heap.size) (_hn : n ≤ 1000000000) (hL : L.length ≤ 1000000000) :
    Calls Tryd.prog 72 #[.pointer (some ⟨J, 4, none⟩)] w fun e w' => (∃ v, e = .returned v) ∧ ∃ v', Jb w' J sy vO vF vE (.slice aI n cI) v' vZ vP vC vS vA ∧ OwnI w' lo v' (nI (L ++ [n])) ∧ Only w w' (fun k => k = J ∨ (Value.slice aE L.length cE).ownBlock = some k) ∧ (∀ k, v'.ownBlock = some k → (Value.slice aE L.length cE).ownBlock = some k ∨ w.heap.size ≤ k) := by
  obtain ⟨i0, hi, hz⟩ := Option.map_eq_some_iff.1 infoInt1
  simp only [Prod.mk.injEq] at hz
  obtain ⟨hz0, hz1, hz2⟩ := hz
  have hlen := nI_len L
  have hown : w.drew.ownsRow lo 3 1 (.slice aE L.length cE) L.length ((nI L).map (Value.int .i64)) := by
    have h := own_blk (W' := w.drew) ho (fun _ _ => rfl)
    rw [hlen] at h
    exact h
  have hjd : Jb w.drew J sy vO vF vE (.slice aI n cI) (.slice aE L.length cE) vZ vP vC vS vA := ⟨hj.r⟩
  have HNx : Hid (∀ (v' : Value) (w2 : World), w2.ownsRow lo 3 1 v' (L.length + 1) ((nI L).map (Value.int .i64) ++ [.int .i64 (n : Int)]) → (w.drew.alloc (.cells #[.int .i64 (n : Int)] 3)).grownBy w2 (Value.slice aE L.length cE).ownBlock → (v'.ownBlock = (Value.slice aE L.length cE).ownBlock ∨ v'.ownBlock = some (w.drew.alloc (.cells #[.int .i64 (n : Int)] 3)).heap.size) → Jb w2 J sy vO vF vE (.slice aI n cI) (.slice aE L.length cE) vZ vP vC vS vA ∧ Jb (w2.setCell ⟨J, 5, none⟩ v') J sy vO vF vE (.slice aI n cI) v' vZ vP vC vS vA ∧ OwnI (w2.setCell ⟨J, 5, none⟩ v') lo v' (nI (L ++ [n])) ∧ Only w (w2.setCell ⟨J, 5, none⟩ v') (fun k => k = J ∨ (Value.slice aE L.length cE).ownBlock = some k) ∧ (∀ k, v'.ownBlock = some k → (Value.slice aE L.length cE).ownBlock = some k ∨ w.heap.size ≤ k)) := hid0 (fun v' w2 h1 h2 h3 => by
    have g := apG_one (xs := (nI L).map (Value.int .i64)) (by rw [List.length_map, hlen]; exact h1) h2 h3
    have m1 := own_ne_blk hown hjd.r (by decide)
    have j2 : Jb w2 J sy vO vF vE (.slice aI n cI) (.slice aE L.length cE) vZ vP vC vS vA := ⟨(g.frm.block _ (Array.getElem?_eq_some_iff.1 hjd.r).1 m1).trans hjd.r⟩
    have m2 := own_ne_blk g.own j2.r (by decide)
    have hO := Only.setCell w2 J 5 v'
    refine ⟨j2, j2.setM v', ?_, (((Only.drewN w 1 _).trans g.frm (fun _ h => .inl (.inr h))).trans hO (fun _ h => .inl (.inl h))), fun k hk => g.at' k hk⟩
    have h4 := own_blk (W' := w2.setCell ⟨J, 5, none⟩ v') g.own (fun k hk => hO.block k (World.ownsRow.lt g.own k hk).2 (fun e => m2 (e ▸ hk)))
    unfold OwnI
    rw [nI_app, List.map_append, nI_len1]
    simpa [nI] using h4)
  obtain ⟨vB, hvB⟩ : ∃ vB, vB = w.drew.alloc (.cells #[.int .i64 (n : Int)] 3) := ⟨_, rfl⟩
  have HOw : Hid (vB.ownsRow lo 3 1 (.slice aE L.length cE) L.length ((nI L).map (Value.int .i64))) := hid0 (by rw [hvB]; exact World.ownsRow.alloc hown _)
  have HNw : Hid (∀ j u, [Value.int .i64 (n : Int)][j]? = some u → vB.cell? ((⟨w.heap.size, 0, none⟩ : Addr).add j) = some u) := hid0 (by rw [hvB]; exact cell_one_new _ _ _)
  have HLw : Hid (lo ≤ vB.heap.size) := hid0 (by rw [hvB]; simp; omega)
  have hjB : Jb vB J sy vO vF vE (.slice aI n cI) (.slice aE L.length cE) vZ vP vC vS vA := by rw [hvB]; exact hjd.past ((Below.refl _ _).alloc (Nat.le_refl _) _)
  have d0 : w.cell? ⟨J, 4, none⟩ = some (.slice aI n cI) := by rw [cell_of_row _ _ _ _ _ _ hj.r]; rfl
  have d1 : w.cell? ⟨J, 5, none⟩ = some (.slice aE L.length cE) := by rw [cell_of_row _ _ _ _ _ _ hj.r]; rfl
  have dB0 : vB.cell? ⟨J, 4, none⟩ = some (.slice aI n cI) := by rw [cell_of_row _ _ _ _ _ _ hjB.r]; rfl
  have dB1 : vB.cell? ⟨J, 5, none⟩ = some (.slice aE L.length cE) := by rw [cell_of_row _ _ _ _ _ _ hjB.r]; rfl
  rw [← hvB] at HNx
  have gB := hvB.symm
  clear hvB hjB hj hjd ho hown
  go_enter Tryd.func72, Tryd.ntmps72
  go_wp2
  go_region_law ((refine step_append_own_at (by rfl) _ _ 34 (by rfl) lo 3 i0 _ 1 8 Tryd.underlying34 hi hz0 hz1 hz2 rfl (by decide) (.slice aE L.length cE) L.length ((nI L).map (Value.int .i64)) (by rfl) HOw.out ⟨w.heap.size, 0, none⟩ 1 1 [.int .i64 (n : Int)] (by rfl) (by rfl) HNw.out (by simp [Value.oneCell']) (by unfold maxLen; omega) (by omega) HLw.out ?_; intro v' w2 h1 h2 h3; obtain ⟨a2, c2, rfl⟩ := own_sl h1; have R := hid0 (HNx.out _ _ h1 ⟨h2.os, h2.tape, h2.output, h2.size, h2.block⟩ h3); clear h1 h2 h3; have t1 : w2.cell? ⟨J, 5, none⟩ = some (.slice aE L.length cE) := (by rw [cell_of_row _ _ _ _ _ _ R.out.1.r]; rfl); have t2 : w2.frozen? ⟨J, 5, none⟩ = false := (by simp [World.frozen?, R.out.1.r])))
  all_goals
    go_wp2
    go_end0
    exact ⟨⟨_, rfl⟩, _, R.out.2⟩
end Go.Proofs.YtleeedjpccooaaaDoor
namespace Go.Proofs.YtleeedjpccooaaaDoor
open Go.RowKit Go.Shelf
/-- The cells of words. -/
def cells2 : List (Nat × Nat) → List Value
  | [] => []
  | x :: l => .int .i64 (x.1 : Int) :: .int .u64 (x.2 : Int) :: cells2 l
theorem cells2_len : ∀ l : List (Nat × Nat), (cells2 l).length = l.length * 2
  | [] => rfl
  | x :: l => by simp only [cells2, List.length_cons, cells2_len l]; omega
theorem cells2_app : ∀ (l m : List (Nat × Nat)), cells2 (l ++ m) = cells2 l ++ cells2 m
  | [], _ => rfl
  | x :: l, m => by simp only [cells2, List.cons_append, cells2_app l m]
theorem cells2_at : ∀ (l : List (Nat × Nat)) (i : Nat) (h : i < l.length), (cells2 l)[i * 2]? = some (.int .i64 ((l[i]).1 : Int)) ∧ (cells2 l)[i * 2 + 1]? = some (.int .u64 ((l[i]).2 : Int))
  | x :: l, 0, _ => ⟨rfl, rfl⟩
  | x :: l, i + 1, h => by
    have h2 := cells2_at l i (by simpa using h)
    rw [show (i + 1) * 2 = i * 2 + 1 + 1 by omega]
    simpa [cells2] using h2
theorem cells2_set : ∀ (l : List (Nat × Nat)) (i y : Nat) (h : i < l.length), (cells2 l).set (i * 2 + 1) (.int .u64 (y : Int)) = cells2 (l.set i ((l[i]).1, y))
  | x :: l, 0, y, _ => rfl
  | x :: l, i + 1, y, h => by
    have h2 := cells2_set l i y (by simpa using h)
    rw [show (i + 1) * 2 = i * 2 + 1 + 1 by omega]
    simpa [cells2] using h2
theorem cells2_one (l : List (Nat × Nat)) : ∀ u ∈ cells2 l, u.oneCell' = true := by
  induction l with
  | nil => simp [cells2]
  | cons x l ih => intro u hu; simp only [cells2, List.mem_cons] at hu; rcases hu with rfl | rfl | hu; rfl; rfl; exact ih u hu
def OwnP (W : World) (lo : Nat) (v : Value) (l : List (Nat × Nat)) : Prop := W.ownsRow lo 130 2 v l.length (cells2 l)
theorem OwnP.at' {W : World} {lo : Nat} {v : Value} {l : List (Nat × Nat)} (h : OwnP W lo v l) {i : Nat} (hi : i < l.length) : ∃ g c, v = .slice (some ⟨g, 0, none⟩) l.length c ∧ lo ≤ g ∧ g < W.heap.size ∧ W.cell? ⟨g, i * 2, none⟩ = some (.int .i64 ((l[i]).1 : Int)) ∧ W.cell? ⟨g, i * 2 + 1, none⟩ = some (.int .u64 ((l[i]).2 : Int)) ∧ W.frozen? ⟨g, i * 2 + 1, none⟩ = false := by
  obtain ⟨g, c, rfl, h1, h2, _⟩ := own_form h (by omega)
  obtain ⟨e1, e2⟩ := cells2_at l i hi
  refine ⟨g, c, rfl, h1, h2, ?_, ?_, ?_⟩
  · rw [World.ownsRow.cellAt h (i * 2) (by omega), e1]
  · rw [World.ownsRow.cellAt h (i * 2 + 1) (by omega), e2]
  · obtain ⟨cs, hcs⟩ := own_typ h (show Value.ownBlock _ = some g from rfl)
    simp [World.frozen?, hcs]
theorem OwnP.put {W : World} {lo g c : Nat} {n : Nat} {l : List (Nat × Nat)} (h : OwnP W lo (.slice (some ⟨g, 0, none⟩) n c) l) {i : Nat} (hi : i < l.length) (y : Nat) : OwnP (W.setCell ⟨g, i * 2 + 1, none⟩ (.int .u64 (y : Int))) lo (.slice (some ⟨g, 0, none⟩) n c) (l.set i ((l[i]).1, y)) := by
  obtain rfl : n = l.length := by obtain ⟨a, c', e⟩ := own_sl h; simp only [Value.slice.injEq] at e; exact e.2.1
  have h1 := (World.ownsRow.stored h (i * 2 + 1) (.int .u64 (y : Int))).1
  unfold OwnP
  rw [← cells2_set l i y hi, List.length_set]
  exact h1
/-- The row, with a word for the place p at its end. -/
def nxW (l : List (Nat × Nat)) (fr p : Nat) : List (Nat × Nat) := if l.length = fr ∨ (l.getD (l.length - 1) (0, 0)).1 ≠ p / 64 then l ++ [(p / 64, 0)] else l
/-- The place put in. -/
def upW (l : List (Nat × Nat)) (p : Nat) : List (Nat × Nat) := l.set (l.length - 1) (p / 64, (l.getD (l.length - 1) (0, 0)).2 ||| 2 ^ (p % 64))
def addW (l : List (Nat × Nat)) (fr p : Nat) : List (Nat × Nat) := upW (nxW l fr p) p
structure ApP (w w' : World) (lo : Nat) (v v' : Value) (l : List (Nat × Nat)) : Prop where
  own : OwnP w' lo v' l
  frm : Only w w' (fun k => v.ownBlock = some k)
  at' : ∀ k, v'.ownBlock = some k → v.ownBlock = some k ∨ w.heap.size ≤ k
theorem apP_one {w w2 : World} {lo : Nat} {v v' : Value} {l : List (Nat × Nat)} {x : Nat × Nat} {o : Obj} (hown : w2.ownsRow lo 130 2 v' (l.length + 1) (cells2 l ++ cells2 [x])) (hg : (w.alloc o).grownBy w2 v.ownBlock) (hat : v'.ownBlock = v.ownBlock ∨ v'.ownBlock = some (w.alloc o).heap.size) : ApP w w2 lo v v' (l ++ [x]) := by
  refine ⟨?_, (Only.alloc w o (fun k => v.ownBlock = some k)).trans (Only.ofGrown hg) (fun _ h => .inl h), fun k hk => ?_⟩
  · unfold OwnP
    rw [List.length_append, List.length_singleton, cells2_app]; exact hown
  · rcases hat with e | e
    · exact .inl (by rw [← e]; exact hk)
    · rw [e] at hk
      cases hk
      right
      simp
/-- The last word's places are others. -/
theorem ApP.up {w w1 : World} {lo g c n m : Nat} {v : Value} {l : List (Nat × Nat)} {p y : Nat} (h : ApP w w1 lo v (.slice (some ⟨g, 0, none⟩) n c) l) (hm : l.length = m + 1) (h1 : (l.getD m (0, 0)).1 = p / 64) (hy : (l.getD m (0, 0)).2 ||| 2 ^ (p % 64) = y) : ApP w (w1.drew.setCell ⟨g, m * 2 + 1, none⟩ (.int .u64 (y : Int))) lo v (.slice (some ⟨g, 0, none⟩) n c) (upW l p) := by
  have hlt : m < l.length := by omega
  have hd : OwnP w1.drew lo (.slice (some ⟨g, 0, none⟩) n c) l := own_blk h.own (fun _ _ => rfl)
  refine ⟨?_, ?_, h.at'⟩
  · have h2 := hd.put hlt y
    have e : l.set m ((l[m]).1, y) = upW l p := by
      unfold upW
      rw [show l.length - 1 = m by omega, ← hy]
      have e3 : l.getD m (0, 0) = l[m] := by rw [List.getD_eq_getElem?_getD, List.getElem?_eq_getElem hlt]; rfl
      rw [e3] at h1 ⊢
      rw [h1]
    rw [← e]
    exact h2
  · refine h.frm.trans ((Only.drewN w1 1 _).trans (Only.setCell w1.drew g (m * 2 + 1) _) (fun _ h => .inl h)) (fun i hi => ?_)
    subst hi
    exact h.at' i rfl
theorem infoWord : (Tryd.prog.info? 130).map (fun i => (i.zero, i.size, i.bytes)) = some (some (.agg #[.int .i64 0, .int .u64 0]), 2, 16) := by kernel_rfl
end Go.Proofs.YtleeedjpccooaaaDoor
namespace Go.Proofs.YtleeedjpccooaaaDoor
open Go.RowKit Go.Shelf
set_option maxRecDepth 10000 in
set_option maxHeartbeats 1600000 in
theorem addBit_any (lo fr p : Nat) (l : List (Nat × Nat)) (v : Value) (w : World) (ho : OwnP w lo v l) (hlo : lo ≤ w.heap.size) (hfr : fr ≤ l.length) (hl : l.length ≤ 1000000000) (hp : p ≤ 1000000000) (hx : ∀ x ∈ l, x.1 ≤ 1000000000 ∧ x.2 < 18446744073709551616) :
    Calls Tryd.prog 70 #[v, .int .i64 (fr : Int), .int .i64 (p : Int)] w fun e w' => ∃ v', e = .returned v' ∧ ApP w w' lo v v' (addW l fr p) := by
  obtain ⟨i0, hi, hz⟩ := Option.map_eq_some_iff.1 infoWord
  simp only [Prod.mk.injEq] at hz
  obtain ⟨hz0, hz1, hz2⟩ := hz
  obtain ⟨d, hd⟩ : ∃ d : Nat, d = p / 64 := ⟨_, rfl⟩
  have hp0 : (0 : Int) ≤ (p : Int) := by omega
  have hdI : (p : Int) / 64 = (d : Int) := by omega
  have hmI : (0 : Int) ≤ (p : Int) % 64 := by omega
  have hmI2 : (p : Int) % 64 < 64 := by omega
  obtain ⟨b, hb⟩ : ∃ b : Nat, b = 2 ^ (p % 64) := ⟨_, rfl⟩
  have hbl : b < 18446744073709551616 := by
    rw [hb]; exact Nat.lt_of_lt_of_le (Nat.pow_lt_pow_right (by omega) (Nat.mod_lt p (by omega) : p % 64 < 64)) (by decide)
  have hwb : IntKind.u64.wrap (2 ^ (p % 64)) = (b : Int) := by
    rw [hb, IntKind.wrap_u64]
    have e : (2 : Int) ^ (p % 64) = ((2 ^ (p % 64) : Nat) : Int) := by simp
    rw [e]
    rw [hb] at hbl
    omega
  obtain ⟨a, c, rfl⟩ := own_sl ho
  have hlI : (l.length : Int) ≤ 1000000000 := by omega
  have HO := hid0 ho
  -- a row that ends in a word for the place
  have HUp : Hid (∀ (w1 : World) (v1 : Value) (l1 : List (Nat × Nat)) (m : Nat), l1.length = m + 1 → (l1.getD m (0, 0)).1 = p / 64 → (l1.getD m (0, 0)).2 < 18446744073709551616 → ApP w w1 lo (.slice a l.length c) v1 l1 → ∃ g c' x y, v1 = .slice (some ⟨g, 0, none⟩) (m + 1) c' ∧ w1.cell? ⟨g, m * 2 + 1, none⟩ = some (.int .u64 (x : Int)) ∧ w1.frozen? ⟨g, m * 2 + 1, none⟩ = false ∧ bits .or .u64 (x : Int) (b : Int) = (y : Int) ∧ ApP w (w1.drew.setCell ⟨g, m * 2 + 1, none⟩ (.int .u64 (y : Int))) lo (.slice a l.length c) v1 (upW l1 p)) := hid0 (fun w1 v1 l1 m hm h1 h2 h => by
    obtain ⟨g, c', e, _, _, _, k1, k2⟩ := h.own.at' (i := m) (by omega)
    subst e
    have e3 : l1.getD m (0, 0) = l1[m] := by rw [List.getD_eq_getElem?_getD, List.getElem?_eq_getElem (by omega)]; rfl
    refine ⟨g, c', (l1[m]).2, (l1[m]).2 ||| b, by rw [hm], k1, k2, bits_or_u64_nat _ _ (by rw [← e3]; exact h2) hbl, h.up hm h1 (by rw [e3, hb])⟩)
  by_cases hq : l.length = fr ∨ (l.getD (l.length - 1) (0, 0)).1 ≠ p / 64
  · have HE : Hid (addW l fr p = upW (l ++ [(p / 64, 0)]) p) := hid0 (by unfold addW nxW; rw [if_pos hq])
    have HU : Hid (∀ (w1 : World) (v1 : Value), ApP w w1 lo (.slice a l.length c) v1 (l ++ [(p / 64, 0)]) → ∃ g c' x y, v1 = .slice (some ⟨g, 0, none⟩) (l.length + 1) c' ∧ w1.cell? ⟨g, l.length * 2 + 1, none⟩ = some (.int .u64 (x : Int)) ∧ w1.frozen? ⟨g, l.length * 2 + 1, none⟩ = false ∧ bits .or .u64 (x : Int) (b : Int) = (y : Int) ∧ ApP w (w1.drew.setCell ⟨g, l.length * 2 + 1, none⟩ (.int .u64 (y : Int))) lo (.slice a l.length c) v1 (addW l fr p)) := hid0 (fun w1 v1 h => by
      rw [HE.out]
      exact HUp.out w1 v1 _ l.length (by simp) (by simp) (by simp) h)
    have hcs : ((l.length : Int) == (fr : Int)) = true ∨ (((l.length : Int) == (fr : Int)) = false ∧ ∃ g n x, l.length = n + 1 ∧ a = some ⟨g, 0, none⟩ ∧ w.cell? ⟨g, n * 2, none⟩ = some (.int .i64 (x : Int)) ∧ ((x : Int) == (d : Int)) = false) := by
      by_cases e : l.length = fr
      · left; simp [e]
      · right
        refine ⟨by rw [beq_eq_false_iff_ne]; omega, ?_⟩
        have hlt : l.length - 1 < l.length := by omega
        obtain ⟨g, c', e1, _, _, k0, _⟩ := ho.at' hlt
        have e3 : l.getD (l.length - 1) (0, 0) = l[l.length - 1] := by rw [List.getD_eq_getElem?_getD, List.getElem?_eq_getElem hlt]; rfl
        refine ⟨g, l.length - 1, (l[l.length - 1]).1, by omega, by injection e1, k0, ?_⟩
        have := hq.resolve_left e
        rw [e3] at this
        rw [beq_eq_false_iff_ne]; omega
    have hdn : p / 64 = d := hd.symm
    rw [hdn] at HU
    clear hq hd hb HUp HE ho hdn
    rcases hcs with h1 | ⟨h1, g0, n0, x0, hn0, rfl, k0, h2⟩
    · go_enter Tryd.func70, Tryd.ntmps70
      go_upto_region 5 with (at_builtin; go_loud ((refine wpList_append_own_at _ rfl _ _ 84 rfl lo 130 i0 (.agg #[.int .i64 0, .int .u64 0]) 2 16 Tryd.underlying84 hi hz0 hz1 hz2 rfl (by decide) (.slice a l.length c) l.length (cells2 l) rfl (World.ownsRow.alloc HO.out _) ⟨w.heap.size, 0, none⟩ 1 1 (cells2 [(d, 0)]) rfl rfl (cell_two_new _ _ _ _) (cells2_one _) (by unfold maxLen; omega) (by omega) (by simp; omega) ?_; intro v1 w1 h1 h2 _ h4; have R := hid0 (HU.out w1 v1 (apP_one h1 h2 h4)); clear h1 h2 h4)))
      obtain ⟨g, c', x, y, rfl, k1, k2, hor, hA⟩ := R.out
      have HA := hid0 hA
      clear hA R HU
      go_wp2
      go_region
      all_goals
        go_wp2
        go_ret
        exact ⟨_, rfl, HA.out⟩
    · have HN0 := hid0 hn0
      have h1' : ((n0 : Int) + 1 == (fr : Int)) = false := by rw [hn0] at h1; push_cast at h1; exact h1
      have HOn : Hid (w.ownsRow lo 130 2 (.slice (some ⟨g0, 0, none⟩) (n0 + 1) c) (n0 + 1) (cells2 l)) := hid0 (by have h := HO.out; unfold OwnP at h; rw [hn0] at h; exact h)
      rw [hn0] at HU ⊢
      have hnb : n0 ≤ 999999999 := by omega
      clear hn0 h1 HO hl hlI hfr hx
      go_enter Tryd.func70, Tryd.ntmps70
      go_upto_region 5 with (at_builtin; go_loud ((refine wpList_append_own_at _ rfl _ _ 84 rfl lo 130 i0 (.agg #[.int .i64 0, .int .u64 0]) 2 16 Tryd.underlying84 hi hz0 hz1 hz2 rfl (by decide) (.slice (some ⟨g0, 0, none⟩) (n0 + 1) c) (n0 + 1) (cells2 l) rfl (World.ownsRow.alloc HOn.out _) ⟨w.heap.size, 0, none⟩ 1 1 (cells2 [(d, 0)]) rfl rfl (cell_two_new _ _ _ _) (cells2_one _) (by unfold maxLen; omega) (by omega) (by simp; omega) ?_; intro v1 w1 h1 h2 _ h4; have R := hid0 (HU.out w1 v1 (apP_one (by rw [HN0.out]; exact h1) h2 h4)); clear h1 h2 h4)))
      obtain ⟨g, c', x, y, rfl, k1, k2, hor, hA⟩ := R.out
      have HA := hid0 hA
      clear hA R HU
      go_wp2
      go_region
      all_goals
        go_wp2
        go_ret
        exact ⟨_, rfl, HA.out⟩
  · have hq2 : l.length ≠ fr ∧ (l.getD (l.length - 1) (0, 0)).1 = p / 64 := by
      refine ⟨fun e => hq (.inl e), ?_⟩
      by_cases e : (l.getD (l.length - 1) (0, 0)).1 = p / 64
      · exact e
      · exact absurd (.inr e) hq
    obtain ⟨n0, hn0⟩ : ∃ n0, l.length = n0 + 1 := ⟨l.length - 1, by omega⟩
    have hlt : n0 < l.length := by omega
    have e3 : l.getD n0 (0, 0) = l[n0] := by rw [List.getD_eq_getElem?_getD, List.getElem?_eq_getElem hlt]; rfl
    have e4 : (l.getD n0 (0, 0)).1 = p / 64 := by have h := hq2.2; rw [hn0] at h; exact h
    obtain ⟨g0, c0, e1, z1, z2, k0, z3⟩ := ho.at' hlt
    clear z1 z2 z3
    have e2 : a = some ⟨g0, 0, none⟩ := by injection e1
    subst e2
    have hself : ApP w w lo (.slice (some ⟨g0, 0, none⟩) l.length c) (.slice (some ⟨g0, 0, none⟩) l.length c) l := ⟨ho, Only.refl _ _, fun k hk => .inl hk⟩
    have hR := HUp.out w _ l n0 hn0 e4 (by rw [e3]; exact (hx _ (List.getElem_mem hlt)).2) hself
    obtain ⟨g, c', x, y, e5, k1, k2, hor, hA⟩ := hR
    have e6 : addW l fr p = upW l p := by unfold addW nxW; rw [if_neg hq]
    rw [← e6] at hA
    have e7 : g0 = g ∧ c = c' := by simp only [Value.slice.injEq, Option.some.injEq, Addr.mk.injEq, and_true] at e5; exact ⟨e5.1, e5.2.2⟩
    obtain ⟨rfl, rfl⟩ := e7
    rw [← e3, e4, ← hd] at k0
    have h1' : ((n0 : Int) + 1 == (fr : Int)) = false := by rw [beq_eq_false_iff_ne]; have := hq2.1; omega
    have HA := hid0 hA
    rw [hn0] at HA ⊢
    have hnb : n0 ≤ 999999999 := by omega
    have hdd : ((d : Int) != (d : Int)) = false := by simp
    clear hq hq2 hn0 hlt e3 e4 e1 hself hA e5 e6 hd hb HUp ho HO hx hl hlI hfr
    go_enter Tryd.func70, Tryd.ntmps70
    go_wp2
    go_region
    all_goals
      go_wp2
      go_ret
      exact ⟨_, rfl, HA.out⟩
end Go.Proofs.YtleeedjpccooaaaDoor
namespace Go.Proofs.YtleeedjpccooaaaDoor
open Go.RowKit Go.Shelf
theorem encW_none (f : Nat → Bool) : encW f 0 = [] := rfl
set_option maxRecDepth 10000 in
set_option maxHeartbeats 1600000 in
theorem part_none (B GT cT cS sy lo : Nat) (aS : Option Addr) (lt : Nat → Nat → Bool) (S : Nat → Bool) (old : Nat → List UInt8) (ps0 : Lob) (w : World) (hp : PtI w GT cT sy lo ps0 old w) :
    Calls Tryd.prog 48 #[.pointer (some ⟨B, 0, none⟩), .slice aS 0 cS] w fun e w' => (∃ v, e = .returned v) ∧ PtI w GT cT sy lo ps0 (fun c => old c ++ encW (andB S (lt c)) 0) w' := by
  have HF : Hid (PtI w GT cT sy lo ps0 (fun c => old c ++ encW (andB S (lt c)) 0) w) := hid0 (by simp only [encW_none, List.append_nil]; exact hp)
  clear hp
  go_enter Tryd.func48, Tryd.ntmps48
  go_wp2
  go_loopw [11] (fun i wr => i = .int .i64 0 ∧ wr = w) (fun _ _ => 0)
  case atStart => exact ⟨rfl, rfl⟩
  case round =>
    obtain ⟨rfl, rfl⟩ := hrel
    go_wp2
    go_end0
    exact ⟨⟨_, rfl⟩, HF.out⟩
end Go.Proofs.YtleeedjpccooaaaDoor
namespace Go.Proofs.YtleeedjpccooaaaDoor
open Go.RowKit Go.Shelf
theorem upW_snoc (r : List (Nat × Nat)) (x : Nat × Nat) (p : Nat) : upW (r ++ [x]) p = r ++ [(p / 64, x.2 ||| 2 ^ (p % 64))] := by
  unfold upW
  have e : (r ++ [x]).length - 1 = r.length := by simp
  rw [e, List.getD_eq_getElem?_getD, List.getElem?_append_right (Nat.le_refl _), Nat.sub_self, List.set_append_right _ _ (Nat.le_refl _), Nat.sub_self]
  rfl
/-- addBit's row, in two cases. -/
theorem addW_cases (l : List (Nat × Nat)) (fr p : Nat) (h : fr ≤ l.length) : (addW l fr p = l ++ [(p / 64, 2 ^ (p % 64))] ∧ (l.length = fr ∨ (l.getD (l.length - 1) (0, 0)).1 ≠ p / 64)) ∨ ∃ r y, l = r ++ [(p / 64, y)] ∧ addW l fr p = r ++ [(p / 64, y ||| 2 ^ (p % 64))] := by
  by_cases hq : l.length = fr ∨ (l.getD (l.length - 1) (0, 0)).1 ≠ p / 64
  · left
    refine ⟨?_, hq⟩
    unfold addW nxW
    rw [if_pos hq, upW_snoc]
    simp
  · right
    have h1 : l.length ≠ fr := fun e => hq (.inl e)
    have h2 : (l.getD (l.length - 1) (0, 0)).1 = p / 64 := by
      by_cases e : (l.getD (l.length - 1) (0, 0)).1 = p / 64
      · exact e
      · exact absurd (.inr e) hq
    have hne : l ≠ [] := fun e => by rw [e] at h h1; simp at h h1; exact h1 h.symm
    obtain ⟨r, x, rfl⟩ : ∃ r x, l = r ++ [x] := ⟨l.dropLast, l.getLast hne, (List.dropLast_concat_getLast hne).symm⟩
    have e : (r ++ [x]).length - 1 = r.length := by simp
    rw [e, List.getD_eq_getElem?_getD, List.getElem?_append_right (Nat.le_refl _), Nat.sub_self] at h2
    have h3 : x.1 = p / 64 := h2
    refine ⟨r, x.2, by rw [← h3], ?_⟩
    unfold addW nxW
    rw [if_neg hq, upW_snoc]
theorem addW_pre (pre r : List (Nat × Nat)) (p : Nat) : addW (pre ++ r) pre.length p = pre ++ addW r 0 p := by
  rcases addW_cases r 0 p (Nat.zero_le _) with ⟨e1, hq⟩ | ⟨r', y, e1, e2⟩
  · rw [e1]
    have hq2 : (pre ++ r).length = pre.length ∨ ((pre ++ r).getD ((pre ++ r).length - 1) (0, 0)).1 ≠ p / 64 := by
      by_cases h0 : r.length = 0
      · left; simp [List.length_eq_zero_iff.1 h0]
      · right
        have h2 := hq.resolve_left h0
        rw [List.getD_eq_getElem?_getD, List.getElem?_append_right (by rw [List.length_append]; omega), show (pre ++ r).length - 1 - pre.length = r.length - 1 by rw [List.length_append]; omega, ← List.getD_eq_getElem?_getD]
        exact h2
    unfold addW nxW
    rw [if_pos hq2, upW_snoc]
    simp
  · subst e1
    rw [e2]
    have hq2 : ¬ ((pre ++ (r' ++ [(p / 64, y)])).length = pre.length ∨ ((pre ++ (r' ++ [(p / 64, y)])).getD ((pre ++ (r' ++ [(p / 64, y)])).length - 1) (0, 0)).1 ≠ p / 64) := by
      rintro (h | h)
      · simp at h
      · rw [← List.append_assoc] at h
        have e : ((pre ++ r') ++ [(p / 64, y)]).length - 1 = (pre ++ r').length := by simp
        rw [e, List.getD_eq_getElem?_getD, List.getElem?_append_right (Nat.le_refl _), Nat.sub_self] at h
        exact h rfl
    unfold addW nxW
    rw [if_neg hq2, ← List.append_assoc, upW_snoc, List.append_assoc]
theorem same_place (p q : Nat) : (decide (p / 64 = q / 64) && decide (p % 64 = q % 64)) = decide (q = p) := by
  rw [← Bool.decide_and]
  congr 1
  apply propext
  constructor
  · rintro ⟨h1, h2⟩; omega
  · rintro rfl; exact ⟨rfl, rfl⟩
theorem inR_addW (l : List (Nat × Nat)) (fr p q : Nat) (h : fr ≤ l.length) : inR (addW l fr p) q = (inR l q || decide (q = p)) := by
  rcases addW_cases l fr p h with ⟨e1, _⟩ | ⟨r, y, rfl, e2⟩
  · rw [e1, inR_snoc, Nat.testBit_two_pow, same_place]
  · rw [e2, inR_snoc, inR_snoc, Nat.testBit_or, Nat.testBit_two_pow, Bool.and_or_distrib_left, same_place, Bool.or_assoc]
theorem addW_ok (l : List (Nat × Nat)) (fr p N : Nat) (h : fr ≤ l.length) (hp : p / 64 < N) (hl : ∀ x ∈ l, x.1 < N ∧ x.2 < 18446744073709551616) : ∀ x ∈ addW l fr p, x.1 < N ∧ x.2 < 18446744073709551616 := by
  have hb : 2 ^ (p % 64) < 18446744073709551616 := Nat.lt_of_lt_of_le (Nat.pow_lt_pow_right (by omega) (Nat.mod_lt p (by omega) : p % 64 < 64)) (by decide)
  rcases addW_cases l fr p h with ⟨e1, _⟩ | ⟨r, y, rfl, e2⟩
  · rw [e1]
    intro x hx
    rcases List.mem_append.1 hx with h1 | h1
    · exact hl x h1
    · rw [List.mem_singleton.1 h1]; exact ⟨hp, hb⟩
  · rw [e2]
    intro x hx
    rcases List.mem_append.1 hx with h1 | h1
    · exact hl x (List.mem_append.2 (.inl h1))
    · rw [List.mem_singleton.1 h1]
      have hy := (hl (p / 64, y) (by simp)).2
      exact ⟨hp, Nat.or_lt_two_pow (n := 64) hy hb⟩
/-- The row of a list of places. -/
def rowW (base : Nat) (L : List Nat) : List (Nat × Nat) := L.foldl (fun r p => addW r 0 (base + p)) []
theorem rowW_take (base : Nat) {L : List Nat} {k : Nat} (hk : k < L.length) : rowW base (L.take (k + 1)) = addW (rowW base (L.take k)) 0 (base + L[k]) := by
  unfold rowW
  rw [List.take_add_one, List.getElem?_eq_getElem hk, Option.toList_some, List.foldl_append]
  rfl
theorem rowW_snoc (base : Nat) (L : List Nat) (p : Nat) : rowW base (L ++ [p]) = addW (rowW base L) 0 (base + p) := by unfold rowW; rw [List.foldl_append]; rfl
theorem inR_rowW (base : Nat) (L : List Nat) (q : Nat) : inR (rowW base L) q = L.any (fun p => decide (q = base + p)) := by
  have key : ∀ n, n ≤ L.length → inR (rowW base (L.take n)) q = (L.take n).any (fun p => decide (q = base + p)) := by
    intro n
    induction n with
    | zero => intro _; rfl
    | succ n ih =>
      intro hn
      rw [rowW_take base (by omega), inR_addW _ _ _ _ (Nat.zero_le _), ih (by omega), List.take_add_one, List.getElem?_eq_getElem (by omega : n < L.length), Option.toList_some, List.any_append]
      simp
  have h := key L.length (Nat.le_refl _)
  rw [List.take_length] at h
  exact h
theorem rowW_ok (base N : Nat) (L : List Nat) (hL : ∀ p ∈ L, base + p < 64 * N) : ∀ x ∈ rowW base L, x.1 < N ∧ x.2 < 18446744073709551616 := by
  have key : ∀ n, n ≤ L.length → ∀ x ∈ rowW base (L.take n), x.1 < N ∧ x.2 < 18446744073709551616 := by
    intro n
    induction n with
    | zero => intro _ x hx; simp [rowW] at hx
    | succ n ih =>
      intro hn
      rw [rowW_take base (by omega)]
      have := hL _ (List.getElem_mem (by omega : n < L.length))
      exact addW_ok _ _ _ _ (Nat.zero_le _) (by omega) (ih (by omega))
  have h := key L.length (Nat.le_refl _)
  rw [List.take_length] at h
  exact h
theorem addW_len (l : List (Nat × Nat)) (fr p : Nat) (h : fr ≤ l.length) : (addW l fr p).length ≤ l.length + 1 ∧ l.length ≤ (addW l fr p).length := by
  rcases addW_cases l fr p h with ⟨e1, _⟩ | ⟨r, y, rfl, e2⟩
  · rw [e1]; simp
  · rw [e2]; simp
end Go.Proofs.YtleeedjpccooaaaDoor
