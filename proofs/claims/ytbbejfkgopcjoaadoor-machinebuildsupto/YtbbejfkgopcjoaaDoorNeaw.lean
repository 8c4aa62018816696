/-
  McKW.
-/
import Derived.Test.YtbbejfkgopcjoaaDoorNeav
namespace Go.Proofs.YtbbejfkgopcjoaaDoor
open Go.RowKit Go.Shelf
set_option maxRecDepth 10000 in
set_option maxHeartbeats 1600000 in
theorem Build_any (A : Nat → Addr) (rs : List Pr) (sy most : Int) (a : Option Addr) (c : Nat) (w : World) (hp : PaI w a rs) (hsen : Sen2 w A) (htab : TabAt 11 Lib.deBruijn64tab w) (hs63 : sy ≤ 9223372036854775807) (hs64 : -9223372036854775808 ≤ sy) (hm63 : most ≤ 9223372036854775807) (hm64 : -9223372036854775808 ≤ most) (hlen : rs.length ≤ 10000000) (hpl : plN (rs.map toPt) (rs.map toPt).length ≤ 10000000) (hfo : foN (rs.map toPt) (rs.map toPt).length ≤ 900000000) (hle : leN (rs.map toPt) (rs.map toPt).length ≤ 900000000) :
    Calls Tryd.prog 9 #[.slice a rs.length c, .int .i64 sy, .int .i64 most] w fun e w' => BuP w A rs sy most e w' := by
  obtain ⟨RC, hRC⟩ : ∃ RC, RC = w.heap.size := ⟨_, rfl⟩
  obtain ⟨w0, hw0⟩ : ∃ w0, w0 = w.alloc (.cells #[.int .i64 0, .slice none 0 0, .slice none 0 0] 28) := ⟨_, rfl⟩
  have hb0 : Below w.heap.size w w0 := by rw [hw0]; exact (Below.refl _ _).alloc (Nat.le_refl _) _
  have hrc : w0.heap[RC]? = some (.cells #[.int .i64 0, .slice none 0 0, .slice none 0 0] 28 (0, 0)) := by rw [hw0, hRC]; exact heap_alloc_new w _
  -- a world that goes on from the answer's block
  have HRf : Hid (∀ V : World, Below w0.heap.size w0 V → V.cell? ⟨RC, 0, none⟩ = some (.int .i64 0) ∧ V.cell? ⟨RC, 1, none⟩ = some (.slice none 0 0) ∧ V.cell? ⟨RC, 2, none⟩ = some (.slice none 0 0) ∧ V.frozen? ⟨RC, 0, none⟩ = false ∧ V.frozen? ⟨RC, 1, none⟩ = false ∧ V.frozen? ⟨RC, 2, none⟩ = false) := hid0 (fun V hV => by
    have hq : V.heap[RC]? = _ := (hV.block RC (Array.getElem?_eq_some_iff.1 hrc).1).trans hrc
    refine ⟨by rw [cell_of_row _ _ _ _ _ _ hq]; rfl, by rw [cell_of_row _ _ _ _ _ _ hq]; rfl, by rw [cell_of_row _ _ _ _ _ _ hq]; rfl, by simp [World.frozen?, hq], by simp [World.frozen?, hq], by simp [World.frozen?, hq]⟩)
  have HFin : Hid (∀ (V : World) (x y z : Value), Below w0.heap.size w0 V → ∀ V', V' = (((V.setCell ⟨RC, 0, none⟩ x).setCell ⟨RC, 1, none⟩ y).setCell ⟨RC, 2, none⟩ z) → V'.cell? ⟨RC, 0, none⟩ = some x ∧ V'.cell? ⟨RC, 1, none⟩ = some y ∧ V'.cell? ⟨RC, 2, none⟩ = some z ∧ Below w.heap.size w V' ∧ KeB [28] V V') := hid0 (fun V x y z hV V' e => by
    have hq0 : V.heap[RC]? = _ := (hV.block RC (Array.getElem?_eq_some_iff.1 hrc).1).trans hrc
    have hq1 := heap_setCell_same V _ 0 _ _ x hq0
    have hq2 := heap_setCell_same _ _ 1 _ _ y hq1
    have hq := heap_setCell_same _ _ 2 _ _ z hq2
    have hRJ : w.heap.size ≤ RC := by rw [hRC]; exact Nat.le_refl _
    have hbV := Below.later hb0 hV
    subst e
    refine ⟨by rw [cell_of_row _ _ _ _ _ _ hq]; rfl, by rw [cell_of_row _ _ _ _ _ _ hq]; rfl, by rw [cell_of_row _ _ _ _ _ _ hq]; rfl, ?_, ?_⟩
    · exact (((hbV.setCell (p := ⟨RC, 0, none⟩) hRJ _).setCell (p := ⟨RC, 1, none⟩) hRJ _).setCell (p := ⟨RC, 2, none⟩) hRJ _)
    · exact ((KeB.cell hq0 (by simp) x).trans (KeB.cell hq1 (by simp) y)).trans (KeB.cell hq2 (by simp) z))
  have HSen : Hid (∀ V : World, Below w0.heap.size w0 V → Sen2 V A ∧ PaI V a rs ∧ TabAt 11 Lib.deBruijn64tab V) := hid0 (fun V hV => ⟨hsen.below (Below.later hb0 hV), hp.past (Below.later hb0 hV), tab_past htab (Below.later hb0 hV)⟩)
  have hfold := hw0.symm
  have hRC2 := hRC.symm
  have hlI : (rs.length : Int) ≤ 10000000 := by omega
  have e0 : w0.cell? ⟨0, 0, none⟩ = some (.iface 157 (.pointer (some (A 0)))) := (HSen.out w0 (Below.refl _ _)).1.c0
  have hR0 : ¬ RC = 0 := by have := World.block_lt_of_cell? w _ hsen.c0; rw [hRC]; simp only at this; omega
  have hR0' : ¬ 0 = RC := fun e => hR0 e.symm
  have HB0 := hid0 hb0
  have HBnd := hid0 (And.intro hpl (And.intro hfo hle))
  clear hp hsen htab hw0 hRC hrc hb0 hpl hfo hle
  by_cases hbad : sy < 1 ∨ 16384 < sy ∨ most < 1 ∨ 16384 < most
  · have HBad := hid0 hbad
    obtain ⟨c0, c1, c2, f0, f1, f2⟩ := HRf.out w0 (Below.refl _ _)
    have hcs : sy < 1 ∨ (¬ sy < 1 ∧ 16384 < sy) ∨ (¬ sy < 1 ∧ ¬ 16384 < sy ∧ most < 1) ∨ (¬ sy < 1 ∧ ¬ 16384 < sy ∧ ¬ most < 1 ∧ 16384 < most) := by omega
    clear hbad
    rcases hcs with h1 | ⟨h1, h2⟩ | ⟨h1, h2, h3⟩ | ⟨h1, h2, h3, h4⟩
    all_goals
      go_enter Tryd.func9, Tryd.ntmps9
      go_upto_region 2 with (fail)
      go_region
      all_goals
        go_wp2
        obtain ⟨V', hV'⟩ : ∃ V', V' = (((w0.setCell ⟨RC, 0, none⟩ (.int .i64 0)).setCell ⟨RC, 1, none⟩ (.slice none 0 0)).setCell ⟨RC, 2, none⟩ (.slice none 0 0)) := ⟨_, rfl⟩
        rw [← hV']
        obtain ⟨q0, q1, q2, hB, _⟩ := HFin.out w0 _ _ _ (Below.refl _ _) V' hV'
        have HBf := hid0 hB
        clear hV' hB c0 c1 c2 f0 f1 f2
        refine bodyPost_ret (v := .tuple #[.agg #[.int .i64 0, .slice none 0 0, .slice none 0 0], errP A (some 0)]) (by simp [results, Tryd.results9, go_sem, q0, q1, q2, errP]) rfl ?_
        exact ⟨HBf.out.drew, by rw [if_pos HBad.out]⟩
  · obtain ⟨sN, rfl⟩ : ∃ sN : Nat, sy = (sN : Int) := ⟨sy.toNat, by omega⟩
    obtain ⟨mst, rfl⟩ : ∃ mst : Nat, most = (mst : Int) := ⟨most.toNat, by omega⟩
    have HBad := hid0 hbad
    have h1 : ¬ (sN : Int) < 1 := by omega
    have h2 : ¬ (16384 : Int) < (sN : Int) := by omega
    have h3 : ¬ (mst : Int) < 1 := by omega
    have h4 : ¬ (16384 : Int) < (mst : Int) := by omega
    have hs1 : 1 ≤ sN := by omega
    have hs2 : sN ≤ 16384 := by omega
    have hm1 : 1 ≤ mst := by omega
    have hm2 : mst ≤ 16384 := by omega
    clear hbad e0
    go_enter Tryd.func9, Tryd.ntmps9
    go_wp2
    go_loopw [30] (fun q wr => ∃ k : Nat, k ≤ rs.length ∧ q = .int .i64 (k : Int) ∧ Hid (Below w0.heap.size w0 wr) ∧ Hid (∀ i (h : i < k) (h2 : i < rs.length), (rs[i]).chk (sN : Int) = none)) (fun q _ => rs.length - (intOf q).toNat)
    case atStart => exact ⟨0, Nat.zero_le _, rfl, hid0 (Below.refl _ _), hid0 (fun i h => absurd h (Nat.not_lt_zero _))⟩
    case round =>
      obtain ⟨k, hk, rfl, HW, HN⟩ := hrel
      obtain ⟨V, hV⟩ : ∃ V, V = wr := ⟨_, rfl⟩
      subst hV
      by_cases hkl : k < rs.length
      · obtain ⟨b, off, eb, _, aL, aF, aA, aO, cL, cF, cA, cO, z0, z1, z2, z3, z4, z5, _, hpos⟩ := (HSen.out V HW.out).2.1.at' k hkl
        subst eb
        obtain ⟨r, hr⟩ : ∃ r, r = rs[k] := ⟨_, rfl⟩
        rw [← hr] at z0 z1 z2 z3 z4 z5 hpos
        obtain ⟨wA, hwA⟩ : ∃ wA, wA = V.alloc (.cells #[.slice aL r.Le.length cL, .slice aF r.Fi.length cF, .slice aA r.La.length cA, .slice aO r.Fo.length cO, .bool r.em, .bool r.an] 48) := ⟨_, rfl⟩
        have hbA : Below V.heap.size V wA := by rw [hwA]; exact (Below.refl _ _).alloc (Nat.le_refl _) _
        have hrA : wA.heap[V.heap.size]? = some (.cells #[.slice aL r.Le.length cL, .slice aF r.Fi.length cF, .slice aA r.La.length cA, .slice aO r.Fo.length cO, .bool r.em, .bool r.an] 48 (0, 0)) := by rw [hwA]; exact heap_alloc_new V _
        have e0 : wA.cell? ⟨V.heap.size, 0, none⟩ = some (.slice aL r.Le.length cL) := by rw [cell_of_row _ _ _ _ _ _ hrA]; rfl
        have e1 : wA.cell? ⟨V.heap.size, 1, none⟩ = some (.slice aF r.Fi.length cF) := by rw [cell_of_row _ _ _ _ _ _ hrA]; rfl
        have e2 : wA.cell? ⟨V.heap.size, 2, none⟩ = some (.slice aA r.La.length cA) := by rw [cell_of_row _ _ _ _ _ _ hrA]; rfl
        have e3 : wA.cell? ⟨V.heap.size, 3, none⟩ = some (.slice aO r.Fo.length cO) := by rw [cell_of_row _ _ _ _ _ _ hrA]; rfl
        have e4 : wA.cell? ⟨V.heap.size, 4, none⟩ = some (.bool r.em) := by rw [cell_of_row _ _ _ _ _ _ hrA]; rfl
        have hW2 : Below w0.heap.size w0 wA := Below.later HW.out hbA
        have HCk : Hid (Calls Tryd.prog 26 #[.agg #[.slice aL r.Le.length cL, .slice aF r.Fi.length cF, .slice aA r.La.length cA, .slice aO r.Fo.length cO, .bool r.em], .int .i64 (sN : Int)] wA fun e w' => e = .returned (errP A (r.chk (sN : Int))) ∧ Hid (Below w0.heap.size w0 w')) := hid0 ((check_two A (sN : Int) aL aF aA aO cL cF cA cO r.Le r.Fo r.Fi r.La r.em wA (hpos.past hbA) (by omega) (HSen.out wA hW2).1).mono (fun e w' ⟨q1, q2⟩ => ⟨q1, hid0 (Below.later hW2 q2)⟩))
        have hkI : (k : Int) < (rs.length : Int) := by omega
        have hkI0 : (0 : Int) ≤ (k : Int) := by omega
        have hfold2 := hwA.symm
        have HR := hid0 hr
        clear hwA hbA hrA hpos hW2 hr hfold
        cases hck : r.chk (sN : Int) with
        | some x =>
          have HRes : Hid (chkA rs (sN : Int) = some x) := hid0 (chkA_at hkl (fun i hi => HN.out i hi (by omega)) (by rw [← HR.out]; exact hck))
          rw [hck] at HCk
          unfold errP at HCk
          simp only at HCk
          clear hck
          go_upto_region 8 with (go_at_call 26; go_loud ((refine HCk.out.mono ?_; rintro e w2 ⟨rfl, HE2⟩)))
          obtain ⟨c0, c1, c2, f0, f1, f2⟩ := HRf.out w2 HE2.out
          go_wp2
          obtain ⟨V', hV'⟩ : ∃ V', V' = (((w2.setCell ⟨RC, 0, none⟩ (.int .i64 0)).setCell ⟨RC, 1, none⟩ (.slice none 0 0)).setCell ⟨RC, 2, none⟩ (.slice none 0 0)) := ⟨_, rfl⟩
          rw [← hV']
          obtain ⟨q0, q1, q2, hB, _⟩ := HFin.out w2 _ _ _ HE2.out V' hV'
          have HBf := hid0 hB
          clear hV' hB c0 c1 c2 f0 f1 f2
          refine bodyPost_ret (v := .tuple #[.agg #[.int .i64 0, .slice none 0 0, .slice none 0 0], errP A (some x)]) (by simp [results, Tryd.results9, go_sem, q0, q1, q2, errP]) rfl ?_
          refine ⟨HBf.out, ?_⟩
          rw [if_neg HBad.out, HRes.out]
        | none =>
          have HN2 : Hid (∀ i (h : i < k + 1) (h2 : i < rs.length), (rs[i]).chk (sN : Int) = none) := hid0 (fun i h h2 => by
            by_cases e : i = k
            · subst e; rw [← HR.out]; exact hck
            · exact HN.out i (by omega) h2)
          rw [hck] at HCk
          unfold errP at HCk
          simp only at HCk
          clear hck
          go_wp2_with (go_at_call 26; go_loud ((refine HCk.out.mono ?_; rintro e w2 ⟨rfl, HE2⟩)))
          go_roundw
          case rel => exact ⟨k + 1, by omega, by go_num, HE2, HN2⟩
          case measure => simp [intOf]; omega
      · obtain rfl : k = rs.length := by omega
        have HOk : Hid (∀ r ∈ rs, PrOk r sN) := hid0 (fun r hr => by
          obtain ⟨i, hi, rfl⟩ := List.getElem_of_mem hr
          exact Pr.ok (HN.out i hi hi))
        have HRes : Hid (chkA rs (sN : Int) = none) := hid0 (chkA_none (fun i hi => HN.out i hi hi))
        have HFi : Hid (∀ r ∈ rs, r.Fi.length ≤ 4000000 ∧ r.La.length ≤ 4000000) := hid0 (fun r hr => by
          obtain ⟨i, hi, rfl⟩ := List.getElem_of_mem hr
          obtain ⟨_, _, _, _, _, _, _, _, _, _, _, _, _, _, _, _, _, _, _, hpos⟩ := (HSen.out V HW.out).2.1.at' i hi
          exact ⟨hpos.l2, hpos.l3⟩)
        obtain ⟨N, hNe⟩ : ∃ N, N = mWd rs := ⟨_, rfl⟩
        obtain ⟨j, hj⟩ : ∃ j, j = mJ rs := ⟨_, rfl⟩
        obtain ⟨dv, hdv⟩ : ∃ dv, dv = 4194304 / sN := ⟨_, rfl⟩
        have hpl : ∀ p ∈ rs.map toPt, PtOk sN p := fun p hp => by
          obtain ⟨r, hr, rfl⟩ := List.mem_map.1 hp
          exact (HOk.out r hr).pt
        have hNb : N ≤ 1000000 ∧ plN (rs.map toPt) (rs.map toPt).length ≤ 64 * N := by
          have q := HBnd.out.1
          rw [hNe]; unfold mWd
          omega
        have hok : JnOk j sN N := by rw [hj]; exact jAcc_ok hpl hNb.2 _ (Nat.le_refl _)
        have hown : j.own.length = plN (rs.map toPt) (rs.map toPt).length := by rw [hj]; exact jAcc_own hpl _ (Nat.le_refl _)
        have hles : (j.LE.map List.length).sum ≤ 900000000 := by rw [hj]; exact Nat.le_trans (Nat.le_of_eq (jAcc_le _ _ (Nat.le_refl _))) HBnd.out.2.2
        have hfos : j.FO.flatten.length ≤ 900000000 := by rw [hj]; exact Nat.le_trans (jAcc_fo _ _ (Nat.le_refl _)) HBnd.out.2.1
        have hnms : j.at0.length ≤ 10000000 ∧ j.alw.length ≤ 10000000 := by
          have q := jAcc_nums (rs.map toPt) _ (Nat.le_refl _)
          rw [List.length_map] at q
          rw [hj]
          unfold mJ
          rw [List.length_map]
          omega
        have hlts : (LTs j.LE N).flatten.length ≤ 1000000000 := Nat.le_trans (LTs_small j.LE N) (by omega)
        have hol1 : j.own.length ≤ 10000000 := by rw [hown]; exact HBnd.out.1
        have hol2 : j.own.length ≤ 64 * N := by rw [hown]; exact hNb.2
        have HJo : Hid (Calls Tryd.prog 28 #[.slice a rs.length c, .int .i64 (sN : Int)] V.drew fun e w' => ∃ J, e = .returned (.pointer (some ⟨J, 0, none⟩)) ∧ Hid (JoF w' J sN V.heap.size N j ∧ Below w0.heap.size w0 w')) := hid0 (by
          have h := joinedOf_any sN c N a (rs.map toPt) V.drew ((HSen.out V.drew HW.out.drew).2.1.pal HOk.out) hpl hs2 (by rw [List.length_map]; exact hlen) (by have := HBnd.out.1; omega) hNe HBnd.out.2.1 HBnd.out.2.2 (fun p hp => by
            obtain ⟨r, hr, rfl⟩ := List.mem_map.1 hp
            have := HFi.out r hr
            show (tN r.Fi).length ≤ _ ∧ (tN r.La).length ≤ _
            rw [tN_len, tN_len]
            omega)
          have e5 : (rs.map toPt).length = rs.length := List.length_map _
          have e6 : jAcc (rs.map toPt) (rs.map toPt).length = j := hj.symm
          rw [e6, e5] at h
          exact h.mono (fun e w' ⟨J, q1, q2, q3⟩ => ⟨J, q1, hid0 ⟨q2, Below.later HW.out.drew q3⟩⟩))
        have HNb : Hid (∀ (X : Nat), X ≤ 16384 → ∀ (w2 : World) (J : Nat), JoF w2 J sN V.heap.size N j → Below w0.heap.size w0 w2 → Calls Tryd.prog 27 #[.pointer (some ⟨J, 0, none⟩), .int .i64 (X : Int)] w2 fun e w' => ∃ B, e = .returned (.pointer (some ⟨B, 0, none⟩)) ∧ Hid (∃ GT NB KB ps, NbI w2 B J sN N X GT sN NB KB (opF j N) (opE j N) (csF (opF j N) sN) (csF (opF j N) sN) (txN (opF j N) sN) ps w')) := hid0 (fun X hX w2 J q1 q2 => (newBuilder_any J sN N V.heap.size X j w2 q1 hok hNb.1 hs2 hs1 hol2 hlts (HSen.out w2 q2).2.2 hX).mono (fun e w' ⟨B, r1, r2⟩ => ⟨B, r1, hid0 r2⟩))
        have HBd : Hid (∀ (X : Nat), 1 ≤ X → X ≤ 16384 → ∀ (w2 w3 : World) (J B : Nat), JoF w2 J sN V.heap.size N j → Below w0.heap.size w0 w2 → (∃ GT NB KB ps, NbI w2 B J sN N X GT sN NB KB (opF j N) (opE j N) (csF (opF j N) sN) (csF (opF j N) sN) (txN (opF j N) sN) ps w3) → Calls Tryd.prog 29 #[.pointer (some ⟨B, 0, none⟩)] w3 fun e w' => BdP w2 A (bAll j N sN X) e w') := hid0 (fun X hX1 hX w2 w3 J B q1 q2 ⟨GT, NB, KB, ps, q3⟩ => by
          obtain ⟨vO, vF, vE, vL, vM, GZ, GP, GC, cZ, cP, cC, vS, vA, g1, g2, g3⟩ := q1.jo
          exact build_any w2 w3 B J sN V.heap.size N X GT NB KB A j vO vF vE vL vM _ _ _ vS vA ps (fun V' hV' => ⟨g1.past hV', (HSen.out V' (Below.later q2 hV')).2.2, (HSen.out V' (Below.later q2 hV')).1, g2.past hV', g3.past hV'⟩) q3 hok hNb.1 hs2 hol1 hol2 (by omega) hlts hnms.2 hnms.1 hX1 hX)
        have hdvI : (4194304 : Int) / (sN : Int) = (dv : Int) := by rw [hdv]; rfl
        have hdv1 : 1 ≤ dv := by rw [hdv]; exact Nat.le_trans (by decide) (Nat.div_le_div_left hs2 (by omega) : 4194304 / 16384 ≤ 4194304 / sN)
        have hdvb : dv ≤ 4194304 := by rw [hdv]; exact Nat.div_le_self _ _
        have hsI0 : (0 : Int) ≤ (sN : Int) := by omega
        have hsne : ¬ (sN : Int) = 0 := by omega
        have HAl : Hid (∀ X, X = min mst dv → mAll rs sN mst = bAll j N sN X) := hid0 (fun X hX => by rw [hX, hj, hNe, hdv]; rfl)
        have HW2 := HW
        clear hpl hok hown hles hfos hnms hlts hol1 hol2 hNb hNe hj hdv hfold
        obtain ⟨X, hX⟩ : ∃ X, X = min mst dv := ⟨_, rfl⟩
        have HX := hid0 (HAl.out X hX)
        have hXb : X ≤ 16384 := by omega
        have hX1 : 1 ≤ X := by omega
        have HXi : Hid ((if dv < mst then (dv : Int) else (mst : Int)) = (X : Int)) := hid0 (by split <;> omega)
        clear hX
        have hcs : (mst ≤ dv ∧ (mst : Int) ≤ (dv : Int) ∧ ¬ (dv : Int) < (mst : Int)) ∨ (dv < mst ∧ (dv : Int) < (mst : Int) ∧ (dv : Int) ≤ (mst : Int)) := by omega
        rcases hcs with ⟨hmd, hmdI, hmdJ⟩ | ⟨hmd, hmdI, hmdJ⟩
        · have HXe : Hid ((mst : Int) = (X : Int)) := hid0 (by have := HXi.out; split at this <;> omega)
          go_upto_region 10 with (fail)
          go_region_with (first
            | (go_at_call 28; refine HJo.out.mono ?_; rintro e w2 ⟨J, rfl, H2⟩)
            | (go_at_call 27; (first | rw [HXi.out] | rw [HXe.out]); refine (HNb.out X hXb w2 J H2.out.1 H2.out.2).mono ?_; rintro e w3 ⟨B, rfl, H3⟩))
          all_goals
            have HBd2 := hid0 (HBd.out X hX1 hXb w2 w3 J B H2.out.1 H2.out.2 H3.out)
            cases hq : bAll j N sN X with
            | none =>
              have HC : Hid (Calls Tryd.prog 29 #[.pointer (some ⟨B, 0, none⟩)] w3 fun e w' => e = .returned (.tuple #[.agg #[.int .i64 0, .slice none 0 0, .slice none 0 0], .iface 157 (.pointer (some (A 2)))]) ∧ Hid (Below w0.heap.size w0 w')) := hid0 (HBd2.out.mono (fun e w' h => by
                rw [hq] at h
                exact ⟨h.1, hid0 (Below.later H2.out.2 h.2)⟩))
              have HQ := hid0 hq
              clear hq HBd2
              go_upto_region 11 with (fail)
              go_wp2_with (go_at_call 29; go_loud ((refine HC.out.mono ?_; rintro e w4 ⟨rfl, H4⟩; obtain ⟨c0, c1, c2, f0, f1, f2⟩ := HRf.out w4 H4.out)))
              obtain ⟨V', hV'⟩ : ∃ V', V' = (((w4.setCell ⟨RC, 0, none⟩ (.int .i64 0)).setCell ⟨RC, 1, none⟩ (.slice none 0 0)).setCell ⟨RC, 2, none⟩ (.slice none 0 0)) := ⟨_, rfl⟩
              rw [← hV']
              obtain ⟨q0, q1, q2, hB, _⟩ := HFin.out w4 _ _ _ H4.out V' hV'
              have HBf := hid0 hB
              clear hV' hB c0 c1 c2 f0 f1 f2
              refine bodyPost_ret (v := .tuple #[.agg #[.int .i64 0, .slice none 0 0, .slice none 0 0], errP A (some 2)]) (by simp [results, Tryd.results9, go_sem, q0, q1, q2, errP]) rfl ?_
              refine ⟨HBf.out, ?_⟩
              rw [if_neg HBad.out, HRes.out]
              simp only [Int.toNat_natCast]
              rw [HX.out, HQ.out]
              exact trivial
            | some b =>
              have HC : Hid (Calls Tryd.prog 29 #[.pointer (some ⟨B, 0, none⟩)] w3 fun e w' => ∃ a9 n9 c9 a10 n10 c10, e = .returned (.tuple #[.agg #[.int .i64 0, .slice a9 n9 c9, .slice a10 n10 c10], .nilIface]) ∧ Hid (Below w0.heap.size w0 w' ∧ ∃ NX OU, RwsM w' w2.heap.size (.slice a9 n9 c9) NX b.nx ∧ RwsM w' w2.heap.size (.slice a10 n10 c10) OU b.ou ∧ (NX ++ OU).Pairwise Apt ∧ Apt (.slice a9 n9 c9) (.slice a10 n10 c10))) := hid0 (HBd2.out.mono (fun e w' h => by
                rw [hq] at h
                obtain ⟨vNx, vOu, NX, OU, r1, r2, r3, r4, r5, r6⟩ := h
                obtain ⟨a9, c9, e9⟩ := own_sl r3.outer
                obtain ⟨a10, c10, e10⟩ := own_sl r4.outer
                subst e9
                subst e10
                exact ⟨a9, _, c9, a10, _, c10, r1, hid0 ⟨Below.later H2.out.2 r2, NX, OU, r3, r4, r5, r6⟩⟩))
              have HQ := hid0 hq
              have HLo : Hid (w.heap.size ≤ w2.heap.size) := hid0 (Nat.le_trans HB0.out.size H2.out.2.size)
              clear hq HBd2
              go_upto_region 11 with (fail)
              go_wp2_with (go_at_call 29; go_loud ((refine HC.out.mono ?_; rintro e w4 ⟨a9, n9, c9, a10, n10, c10, rfl, H4⟩; obtain ⟨c0, c1, c2, f0, f1, f2⟩ := HRf.out w4 H4.out.1)))
              obtain ⟨V', hV'⟩ : ∃ V', V' = (((w4.setCell ⟨RC, 0, none⟩ (.int .i64 0)).setCell ⟨RC, 1, none⟩ (.slice a9 n9 c9)).setCell ⟨RC, 2, none⟩ (.slice a10 n10 c10)) := ⟨_, rfl⟩
              rw [← hV']
              obtain ⟨q0, q1, q2, hB, hK⟩ := HFin.out w4 _ _ _ H4.out.1 V' hV'
              have HBf := hid0 (And.intro hB hK)
              clear hV' hB hK c0 c1 c2 f0 f1 f2
              refine bodyPost_ret (v := .tuple #[.agg #[.int .i64 0, .slice a9 n9 c9, .slice a10 n10 c10], errP A none]) (by simp [results, Tryd.results9, go_sem, q0, q1, q2, errP]) rfl ?_
              refine ⟨HBf.out.1, ?_⟩
              rw [if_neg HBad.out, HRes.out]
              simp only [Int.toNat_natCast]
              rw [HX.out, HQ.out]
              obtain ⟨_, NX, OU, r3, r4, r5, r6⟩ := H4.out
              exact ⟨w2.heap.size, _, _, NX, OU, HLo.out, rfl, r3.keB HBf.out.2 (by decide) (by decide), r4.keB HBf.out.2 (by decide) (by decide), r5, r6⟩
        · have HXe : Hid ((dv : Int) = (X : Int)) := hid0 (by have := HXi.out; split at this <;> omega)
          go_upto_region 10 with (fail)
          go_region_with (first
            | (go_at_call 28; refine HJo.out.mono ?_; rintro e w2 ⟨J, rfl, H2⟩)
            | (go_at_call 27; (first | rw [HXi.out] | rw [HXe.out]); refine (HNb.out X hXb w2 J H2.out.1 H2.out.2).mono ?_; rintro e w3 ⟨B, rfl, H3⟩))
          all_goals
            have HBd2 := hid0 (HBd.out X hX1 hXb w2 w3 J B H2.out.1 H2.out.2 H3.out)
            cases hq : bAll j N sN X with
            | none =>
              have HC : Hid (Calls Tryd.prog 29 #[.pointer (some ⟨B, 0, none⟩)] w3 fun e w' => e = .returned (.tuple #[.agg #[.int .i64 0, .slice none 0 0, .slice none 0 0], .iface 157 (.pointer (some (A 2)))]) ∧ Hid (Below w0.heap.size w0 w')) := hid0 (HBd2.out.mono (fun e w' h => by
                rw [hq] at h
                exact ⟨h.1, hid0 (Below.later H2.out.2 h.2)⟩))
              have HQ := hid0 hq
              clear hq HBd2
              go_upto_region 11 with (fail)
              go_wp2_with (go_at_call 29; go_loud ((refine HC.out.mono ?_; rintro e w4 ⟨rfl, H4⟩; obtain ⟨c0, c1, c2, f0, f1, f2⟩ := HRf.out w4 H4.out)))
              obtain ⟨V', hV'⟩ : ∃ V', V' = (((w4.setCell ⟨RC, 0, none⟩ (.int .i64 0)).setCell ⟨RC, 1, none⟩ (.slice none 0 0)).setCell ⟨RC, 2, none⟩ (.slice none 0 0)) := ⟨_, rfl⟩
              rw [← hV']
              obtain ⟨q0, q1, q2, hB, _⟩ := HFin.out w4 _ _ _ H4.out V' hV'
              have HBf := hid0 hB
              clear hV' hB c0 c1 c2 f0 f1 f2
              refine bodyPost_ret (v := .tuple #[.agg #[.int .i64 0, .slice none 0 0, .slice none 0 0], errP A (some 2)]) (by simp [results, Tryd.results9, go_sem, q0, q1, q2, errP]) rfl ?_
              refine ⟨HBf.out, ?_⟩
              rw [if_neg HBad.out, HRes.out]
              simp only [Int.toNat_natCast]
              rw [HX.out, HQ.out]
              exact trivial
            | some b =>
              have HC : Hid (Calls Tryd.prog 29 #[.pointer (some ⟨B, 0, none⟩)] w3 fun e w' => ∃ a9 n9 c9 a10 n10 c10, e = .returned (.tuple #[.agg #[.int .i64 0, .slice a9 n9 c9, .slice a10 n10 c10], .nilIface]) ∧ Hid (Below w0.heap.size w0 w' ∧ ∃ NX OU, RwsM w' w2.heap.size (.slice a9 n9 c9) NX b.nx ∧ RwsM w' w2.heap.size (.slice a10 n10 c10) OU b.ou ∧ (NX ++ OU).Pairwise Apt ∧ Apt (.slice a9 n9 c9) (.slice a10 n10 c10))) := hid0 (HBd2.out.mono (fun e w' h => by
                rw [hq] at h
                obtain ⟨vNx, vOu, NX, OU, r1, r2, r3, r4, r5, r6⟩ := h
                obtain ⟨a9, c9, e9⟩ := own_sl r3.outer
                obtain ⟨a10, c10, e10⟩ := own_sl r4.outer
                subst e9
                subst e10
                exact ⟨a9, _, c9, a10, _, c10, r1, hid0 ⟨Below.later H2.out.2 r2, NX, OU, r3, r4, r5, r6⟩⟩))
              have HQ := hid0 hq
              have HLo : Hid (w.heap.size ≤ w2.heap.size) := hid0 (Nat.le_trans HB0.out.size H2.out.2.size)
              clear hq HBd2
              go_upto_region 11 with (fail)
              go_wp2_with (go_at_call 29; go_loud ((refine HC.out.mono ?_; rintro e w4 ⟨a9, n9, c9, a10, n10, c10, rfl, H4⟩; obtain ⟨c0, c1, c2, f0, f1, f2⟩ := HRf.out w4 H4.out.1)))
              obtain ⟨V', hV'⟩ : ∃ V', V' = (((w4.setCell ⟨RC, 0, none⟩ (.int .i64 0)).setCell ⟨RC, 1, none⟩ (.slice a9 n9 c9)).setCell ⟨RC, 2, none⟩ (.slice a10 n10 c10)) := ⟨_, rfl⟩
              rw [← hV']
              obtain ⟨q0, q1, q2, hB, hK⟩ := HFin.out w4 _ _ _ H4.out.1 V' hV'
              have HBf := hid0 (And.intro hB hK)
              clear hV' hB hK c0 c1 c2 f0 f1 f2
              refine bodyPost_ret (v := .tuple #[.agg #[.int .i64 0, .slice a9 n9 c9, .slice a10 n10 c10], errP A none]) (by simp [results, Tryd.results9, go_sem, q0, q1, q2, errP]) rfl ?_
              refine ⟨HBf.out.1, ?_⟩
              rw [if_neg HBad.out, HRes.out]
              simp only [Int.toNat_natCast]
              rw [HX.out, HQ.out]
              obtain ⟨_, NX, OU, r3, r4, r5, r6⟩ := H4.out
              exact ⟨w2.heap.size, _, _, NX, OU, HLo.out, rfl, r3.keB HBf.out.2 (by decide) (by decide), r4.keB HBf.out.2 (by decide) (by decide), r5, r6⟩
end Go.Proofs.YtbbejfkgopcjoaaDoor
