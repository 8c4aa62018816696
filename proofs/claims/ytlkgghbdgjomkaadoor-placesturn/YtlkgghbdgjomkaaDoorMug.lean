/-
  PlTkW, Door, SentP, PlTuP.
-/
import Derived.Test.YtlkgghbdgjomkaaDoorMuf
import Derived.Test.YtlkgghbdgjomkaaDoorCards
import Derived.Test.YtlkgghbdgjomkaaDoorTie
import Derived.WalkKit
import Derived.ProofKit
import Derived.OpenShut
import Derived.Deep.DeepHandedRow
import Derived.Lib.LaidTab
import Derived.Lib.SmallJoins
import Derived.Test.YtlkgghbdgjomkaaDoorMua
import Derived.Stop.LaidErr
import Derived.Test.YtlkgghbdgjomkaaDoorMub
import Derived.Deep.Matrix
import Derived.Lib.LaidU8
import Derived.Shelf.Vars
import Derived.Lay
import Derived.LaidMore
import Derived.ChangeSlices
import Derived.Deep.Slices
namespace Go.Proofs.YtlkgghbdgjomkaaDoor
open Go.RowKit Go.Shelf
set_option maxRecDepth 10000 in
set_option maxHeartbeats 3200000 in
theorem placesTurn_any (A : Nat → Addr) (sy : Int) (aL aF aA aO aW : Option Addr) (cL cF cA cO cW : Nat) (Le Fo : List (List Int)) (Fi La Wd : List Int) (em : Bool) (w : World) (hL : RwA w aL Le) (hF : IA w aF Fi) (hA : IA w aA La) (hO : RwA w aO Fo) (l1 : Le.length ≤ 17592186043904) (l2 : Fi.length ≤ 17592186043904) (l3 : La.length ≤ 17592186043904) (l4 : Fo.length ≤ 17592186043904) (r1 : ∀ r ∈ Le, r.length ≤ 17592186043904) (r4 : ∀ r ∈ Fo, r.length ≤ 17592186043904) (hwd : IA w aW Wd) (he : EnvT w A) :
    Calls Tryd.prog 3 #[.agg #[.slice aL Le.length cL, .slice aF Fi.length cF, .slice aA La.length cA, .slice aO Fo.length cO, .bool em, .int .i64 sy, .slice aW Wd.length cW]] w fun e w' => e = .returned (.bool true) ∧ Below w.heap.size w w' := by
  obtain ⟨i0, hi, hz0, hz1, hz2⟩ := info_parts infoInt
  obtain ⟨w0, hw0⟩ : ∃ w0, w0 = w.alloc (.cells #[.slice aL Le.length cL, .slice aF Fi.length cF, .slice aA La.length cA, .slice aO Fo.length cO, .bool em, .int .i64 sy, .slice aW Wd.length cW] 27) := ⟨_, rfl⟩
  have hr0 : w0.heap[w.heap.size]? = some (.cells #[.slice aL Le.length cL, .slice aF Fi.length cF, .slice aA La.length cA, .slice aO Fo.length cO, .bool em, .int .i64 sy, .slice aW Wd.length cW] 27 (0, 0)) := by rw [hw0]; exact heap_alloc_new w _
  have hb0 : Below w.heap.size w w0 := by rw [hw0]; exact (Below.refl _ _).alloc (Nat.le_refl _) _
  have hs0 : w.heap.size < w0.heap.size := by rw [hw0]; simp
  have HX7 : Hid (∀ V, Below w0.heap.size w0 V → V.cell? ⟨w.heap.size, 0, none⟩ = some (.slice aL Le.length cL) ∧ V.cell? ⟨w.heap.size, 1, none⟩ = some (.slice aF Fi.length cF) ∧ V.cell? ⟨w.heap.size, 2, none⟩ = some (.slice aA La.length cA) ∧ V.cell? ⟨w.heap.size, 3, none⟩ = some (.slice aO Fo.length cO) ∧ V.cell? ⟨w.heap.size, 4, none⟩ = some (.bool em) ∧ V.cell? ⟨w.heap.size, 5, none⟩ = some (.int .i64 sy) ∧ V.cell? ⟨w.heap.size, 6, none⟩ = some (.slice aW Wd.length cW)) := hid0 (fun V hV => rowT ((hV.block _ hs0).trans hr0))
  obtain ⟨x0, x1, x2, x3, x4, x5, x6⟩ := rowT hr0
  have HIx : Hid (∀ V, Below w0.heap.size w0 V → IA V aW Wd) := hid0 (fun V hV => hwd.past (Below.later hb0 hV))
  have HE : Hid (∀ V, Below w0.heap.size w0 V → EnvT V A) := hid0 (fun V hV => he.past (Below.later hb0 hV))
  obtain ⟨TL, TO, TR, TF, TA, hT, hTi⟩ : ∃ TL TO TR TF TA, TT TL TO TR TF TA em ∧ Calls Tryd.prog 5 #[.agg #[.slice aL Le.length cL, .slice aF Fi.length cF, .slice aA La.length cA, .slice aO Fo.length cO, .bool em]] w0 fun r w' => RevB w0 ⟨TL, TF, TA, TO, em⟩ r w' :=
    ⟨_, _, _, _, _, tt Le Fo Fi La em (n := min Le.length 8) (Nat.min_le_right _ _), tidy_any aL aF aA aO cL cF cA cO Le Fo Fi La em w0 (hL.past hb0) (hF.past hb0) (hA.past hb0) (hO.past hb0) l1 l2 l3 l4 r1 r4 _ rfl⟩
  have HTT := hid0 hT
  have HTi := hid0 hTi
  have HB0 := hid0 hb0
  have hfold := hw0.symm
  clear hw0 hr0 hb0 hL hF hA hO l1 l2 l3 l4 r1 r4 hwd he hT hTi
  go_enter Tryd.func3, Tryd.ntmps3
  go_upto_region 4 with (first
    | (go_at_call 5; go_loud ((
        refine HTi.out.mono ?_
        rintro e w1 ⟨pL, pF, pA, pO, kL, kF, kA, kO, rfl, hq, hk, hf, h⟩
        unfold posV
        obtain ⟨w2, hal⟩ : ∃ V, V = w1.alloc (.cells #[.slice none 0 0, .slice none 0 0, .slice none 0 0, .slice none 0 0, .bool false] 25) := ⟨_, rfl⟩
        have hba : Below w1.heap.size w1 w2 := by { rw [hal]; exact (Below.refl _ _).alloc (Nat.le_refl _) _ }
        have hza : w2.heap[w1.heap.size]? = some (.cells #[.slice none 0 0, .slice none 0 0, .slice none 0 0, .slice none 0 0, .bool false] 25 (0, 0)) := by { rw [hal]; exact zeroT w1 }
        obtain ⟨w3, hst⟩ : ∃ V, V = set5 w2 w1.heap.size (.slice pL TL.length kL) (.slice pF TF.length kF) (.slice pA TA.length kA) (.slice pO TO.length kO) (.bool em) := ⟨_, rfl⟩
        have hbs : Below w1.heap.size w1 w3 := by { rw [hst]; exact set5_below hba (Nat.le_refl _) _ _ _ _ _ }
        have hzs : w3.heap[w1.heap.size]? = some (.cells #[.slice pL TL.length kL, .slice pF TF.length kF, .slice pA TA.length kA, .slice pO TO.length kO, .bool em] 25 (0, 0)) := by { rw [hst]; exact set5_row hza _ _ _ _ _ }
        obtain ⟨y0, y1, y2, y3, y4⟩ := row5 hza
        obtain ⟨z0, z1, z2, z3, z4⟩ := frz5 hza
        unfold set5 at hst
        have hfaw2 := hal.symm
        have hfsw3 := hst.symm
        have HB3 := hid0 (Below.later h hbs)
        have hz3 : w1.heap.size < w3.heap.size := (Array.getElem?_eq_some_iff.1 hzs).1
        have HP3 : Hid (∀ V, Below w3.heap.size w3 V → V.cell? ⟨w1.heap.size, 0, none⟩ = some (.slice pL TL.length kL) ∧ V.cell? ⟨w1.heap.size, 1, none⟩ = some (.slice pF TF.length kF) ∧ V.cell? ⟨w1.heap.size, 2, none⟩ = some (.slice pA TA.length kA) ∧ V.cell? ⟨w1.heap.size, 3, none⟩ = some (.slice pO TO.length kO) ∧ V.cell? ⟨w1.heap.size, 4, none⟩ = some (.bool em)) := hid0 (fun V hV => row5 ((hV.block _ hz3).trans hzs))
        have HPA : Hid (∀ V, Below w3.heap.size w3 V → PosA V pL pF pA pO TL TO TF TA ∧ RwB V pO TO ∧ ∀ q, pF = some q → q.block < V.heap.size) := hid0 (fun V hV => ⟨(hq.past (Below.later hbs hV)).posA (p := ⟨TL, TF, TA, TO, em⟩) HTT.out.s1, (hk.past (Below.later hbs hV)).rwb, fun q e => Nat.lt_of_lt_of_le (hf q e) (Below.later hbs hV).size⟩)
        clear h hal hba hza hst hbs hzs hq hk hf x0 x1 x2 x3 x4 x5 x6)))
    | fail)
  clear y0 y1 y2 y3 y4 z0 z1 z2 z3 z4
  go_loopw [4, 5] (fun v i wr => ∃ k : Nat, k ≤ Wd.length ∧ k ≤ 20 ∧ i = .int .i64 (k : Int) ∧ Hid (OwnI wr w3.heap.size v (wk Wd k)) ∧ Hid (Below w3.heap.size w3 wr)) (fun _ i _ => 20 - (intOf i).toNat)
  case atStart => exact ⟨0, Nat.zero_le _, Nat.zero_le _, rfl, hid0 (World.ownsRow_nil _ _ _ _), hid0 (Below.refl _ _)⟩
  case round =>
    obtain ⟨k, hk1, hk2, rfl, HO, HBr⟩ := hrel
    obtain ⟨x0, x1, x2, x3, x4, x5, x6⟩ := HX7.out wr (Below.later HB3.out HBr.out)
    have hsz := HBr.out.size
    have hkI0 : (0 : Int) ≤ (k : Int) := by omega
    obtain ⟨av, cv, ev, hia⟩ := HO.out.ia
    subst ev
    by_cases hgo : k < Wd.length ∧ k < 20
    · obtain ⟨hgo1, hgo2⟩ := hgo
      have hkI : (k : Int) < (Wd.length : Int) := by omega
      have hkI2 : (k : Int) < 20 := by omega
      obtain ⟨b, off, rfl, _, d1⟩ := (HIx.out wr (Below.later HB3.out HBr.out)).at' k hgo1
      have HD := hid0 (wk_succ Wd k hgo1)
      have hll := wk_len Wd k
      generalize Wd[k] = x at *
      have HPk := hid0 (pick_at x 4 (by omega) (by omega) wr)
      have HR := HO
      generalize wk Wd k = X at *
      generalize (pickN x 4 : Int) = y at *
      clear hia
      go_wp2_with (first
        | (go_at_call 6; refine HPk.out.mono ?_; rintro e wq ⟨rfl, hwk⟩; have hwk' := hwk.symm; subst hwk'; clear hwk)
        | (at_builtin; go_loud ((
          refine wpList_append_own_at _ rfl _ _ 23 rfl w3.heap.size 3 i0 (.int .i64 0) 1 8 Tryd.underlying23 hi hz0 hz1 hz2 rfl (by decide) _ X.length (X.map (Value.int .i64)) rfl (World.ownsRow.alloc HR.out _) ⟨wr.heap.size, 0, none⟩ 1 1 [.int .i64 y] rfl rfl (cell_one_new _ _ _) (by simp [Value.oneCell']) (by unfold maxLen; omega) (by omega) (by simp; omega) ?_
          intro v2 w2 hown2 hgrow2 _ _
          have R := ownI_snoc rfl HR.out hown2 hgrow2 HBr.out (Nat.le_refl _)
          have HO2 := hid0 R.1
          have HB2 := hid0 R.2
          obtain ⟨av2, cv2, ev2, _⟩ := R.1.ia
          rw [List.length_append, List.length_singleton] at ev2
          subst ev2
          clear R hown2 hgrow2)))
        | fail)
      go_roundw
      case rel => exact ⟨k + 1, by omega, by omega, by go_num, hid0 (by rw [HD.out]; exact HO2.out), HB2⟩
      case measure => simp [intOf]; omega
    · have hex : ¬ k < Wd.length ∨ (k < Wd.length ∧ ¬ k < 20) := by omega
      rcases hex with hx1 | ⟨hx1, hx2⟩
      · have hkI : ¬ (k : Int) < (Wd.length : Int) := by omega
        have HXi := hid0 (wk_in Wd k)
        have hll := wk_len Wd k
        generalize wk Wd k = X at *
        obtain ⟨p0, p1, p2, p3, p4⟩ := HP3.out wr HBr.out
        have HRv : Hid (Calls Tryd.prog 7 #[.agg #[.slice pL TL.length kL, .slice pF TF.length kF, .slice pA TA.length kA, .slice pO TO.length kO, .bool em]] wr fun r w' => RevB wr ⟨TL, TA, TF, TR, em⟩ r w') := hid0 (by rw [← HTT.out.r1]; exact reverse_two pL pF pA pO kL kF kA kO TL TO TF TA em wr (HPA.out wr HBr.out).1)
        go_upto_region 8 with (first
          | (go_at_call 7; go_loud ((
                  refine HRv.out.mono ?_
                  rintro e w7 ⟨eL, eF, eA, eO, fL, fF, fA, fO, rfl, hq, hk, hf, h⟩
                  unfold posV
                  obtain ⟨w8, hal⟩ : ∃ V, V = w7.alloc (.cells #[.slice none 0 0, .slice none 0 0, .slice none 0 0, .slice none 0 0, .bool false] 25) := ⟨_, rfl⟩
                  have hba : Below w7.heap.size w7 w8 := by { rw [hal]; exact (Below.refl _ _).alloc (Nat.le_refl _) _ }
                  have hza : w8.heap[w7.heap.size]? = some (.cells #[.slice none 0 0, .slice none 0 0, .slice none 0 0, .slice none 0 0, .bool false] 25 (0, 0)) := by { rw [hal]; exact zeroT w7 }
                  obtain ⟨w9, hst⟩ : ∃ V, V = set5 w8 w7.heap.size (.slice eL TL.length fL) (.slice eF TA.length fF) (.slice eA TF.length fA) (.slice eO TR.length fO) (.bool em) := ⟨_, rfl⟩
                  have hbs : Below w7.heap.size w7 w9 := by { rw [hst]; exact set5_below hba (Nat.le_refl _) _ _ _ _ _ }
                  have hzs : w9.heap[w7.heap.size]? = some (.cells #[.slice eL TL.length fL, .slice eF TA.length fF, .slice eA TF.length fA, .slice eO TR.length fO, .bool em] 25 (0, 0)) := by { rw [hst]; exact set5_row hza _ _ _ _ _ }
                  obtain ⟨y0, y1, y2, y3, y4⟩ := row5 hza
                  obtain ⟨z0, z1, z2, z3, z4⟩ := frz5 hza
                  unfold set5 at hst
                  have hfaw8 := hal.symm
                  have hfsw9 := hst.symm
                  have HU9 := hid0 (Below.later h hbs)
                  have hz9 : w7.heap.size < w9.heap.size := (Array.getElem?_eq_some_iff.1 hzs).1
                  have HR9 : Hid (∀ V, Below w9.heap.size w9 V → V.cell? ⟨w7.heap.size, 0, none⟩ = some (.slice eL TL.length fL) ∧ V.cell? ⟨w7.heap.size, 1, none⟩ = some (.slice eF TA.length fF) ∧ V.cell? ⟨w7.heap.size, 2, none⟩ = some (.slice eA TF.length fA) ∧ V.cell? ⟨w7.heap.size, 3, none⟩ = some (.slice eO TR.length fO) ∧ V.cell? ⟨w7.heap.size, 4, none⟩ = some (.bool em)) := hid0 (fun V hV => row5 ((hV.block _ hz9).trans hzs))
                  have HRA : Hid (∀ V, Below w9.heap.size w9 V → PosA V eL eF eA eO TL TR TA TF ∧ RwB V eO TR ∧ ∀ q, eF = some q → q.block < V.heap.size) := hid0 (fun V hV => ⟨(hq.past (Below.later hbs hV)).posA (p := ⟨TL, TA, TF, TR, em⟩) HTT.out.s2, (hk.past (Below.later hbs hV)).rwb, fun q e => Nat.lt_of_lt_of_le (hf q e) (Below.later hbs hV).size⟩)
                  clear h hal hba hza hst hbs hzs hq hk hf p0 p1 p2 p3 p4)))
          | fail)
        clear y0 y1 y2 y3 y4 z0 z1 z2 z3 z4
        have HL3 : Hid (∀ V, Below w9.heap.size w9 V → Below w3.heap.size w3 V) := hid0 (fun V hV => Below.later HBr.out (Below.later HU9.out hV))
        have HS8 : Hid (∀ V, Below w9.heap.size w9 V → (V.cell? ⟨w7.heap.size, 0, none⟩ = some (.slice eL TL.length fL) ∧ V.cell? ⟨w7.heap.size, 1, none⟩ = some (.slice eF TA.length fF) ∧ V.cell? ⟨w7.heap.size, 2, none⟩ = some (.slice eA TF.length fA) ∧ V.cell? ⟨w7.heap.size, 3, none⟩ = some (.slice eO TR.length fO) ∧ V.cell? ⟨w7.heap.size, 4, none⟩ = some (.bool em)) ∧ (V.cell? ⟨w1.heap.size, 0, none⟩ = some (.slice pL TL.length kL) ∧ V.cell? ⟨w1.heap.size, 1, none⟩ = some (.slice pF TF.length kF) ∧ V.cell? ⟨w1.heap.size, 2, none⟩ = some (.slice pA TA.length kA) ∧ V.cell? ⟨w1.heap.size, 3, none⟩ = some (.slice pO TO.length kO) ∧ V.cell? ⟨w1.heap.size, 4, none⟩ = some (.bool em))) := hid0 (fun V hV => ⟨HR9.out V hV, HP3.out V (HL3.out V hV)⟩)
        have HEn : Hid (∀ V, Below w9.heap.size w9 V → EnvT V A) := hid0 (fun V hV => HE.out V (Below.later HB3.out (HL3.out V hV)))
        have HXw : Hid (∀ V, Below w9.heap.size w9 V → IA V av X) := hid0 (fun V hV => hia.past (Below.later HU9.out hV))
        have HRv2 : Hid (∀ V, Below w9.heap.size w9 V → Calls Tryd.prog 7 #[.agg #[.slice eL TL.length fL, .slice eF TA.length fF, .slice eA TF.length fA, .slice eO TR.length fO, .bool em]] V fun r w' => RevB V ⟨TL, TF, TA, TO, em⟩ r w') := hid0 (fun V hV => by rw [← HTT.out.r2]; exact reverse_two eL eF eA eO fL fF fA fO TL TR TA TF em V (HRA.out V hV).1)
        clear hia hsz
        refine wp_region_noPanic ?_
        refine wp_region_held_drew (S := (fun V => (V.cell? ⟨w7.heap.size, 0, none⟩ = some (.slice eL TL.length fL) ∧ V.cell? ⟨w7.heap.size, 1, none⟩ = some (.slice eF TA.length fF) ∧ V.cell? ⟨w7.heap.size, 2, none⟩ = some (.slice eA TF.length fA) ∧ V.cell? ⟨w7.heap.size, 3, none⟩ = some (.slice eO TR.length fO) ∧ V.cell? ⟨w7.heap.size, 4, none⟩ = some (.bool em)) ∧ (V.cell? ⟨w1.heap.size, 0, none⟩ = some (.slice pL TL.length kL) ∧ V.cell? ⟨w1.heap.size, 1, none⟩ = some (.slice pF TF.length kF) ∧ V.cell? ⟨w1.heap.size, 2, none⟩ = some (.slice pA TA.length kA) ∧ V.cell? ⟨w1.heap.size, 3, none⟩ = some (.slice pO TO.length kO) ∧ V.cell? ⟨w1.heap.size, 4, none⟩ = some (.bool em)))) (by kernel_rfl) ?_ (fun hHeld => ?_)
        · exact HS8.out w9.drew (drew_below w9)
        refine tkV (i := 0) (d := some 34) (v := ?_) rfl (by kernel_rfl) (by kernel_rfl) (by kernel_rfl) rfl (fun _ _ _ h => h) (by rfl) ?_ (by assumption) ?_
        rotate_left
        · (intro w hSw; (try dsimp only at hSw); (try simp only [List.getElem_toArray, List.getElem_cons_zero]); go_simp; try with_reducible rfl)
        try simp only [Act.put, List.setIfInBounds_toArray, List.set_cons_zero, List.set_cons_succ]
        refine tkV (i := 2) (d := some 36) (v := ?_) rfl (by kernel_rfl) (by kernel_rfl) (by kernel_rfl) rfl (fun _ _ _ h => h) (by rfl) ?_ (by assumption) ?_
        rotate_left
        · (intro w hSw; (try dsimp only at hSw); (try simp only [List.getElem_toArray, List.getElem_cons_zero, List.getElem_cons_succ]); go_simp; try with_reducible rfl)
        try simp only [Act.put, List.setIfInBounds_toArray, List.set_cons_zero, List.set_cons_succ]
        refine wpAnyH_ready (rs := [1]) (by kernel_rfl) (by simp) (AllReadyH.cons rfl (fun K hK => ?_) AllReadyH.nil)
        try simp only [List.getElem_toArray, List.getElem_cons_zero, List.getElem_cons_succ]
        go_simp
        refine (HRv2.out w9.drew (drew_below w9)).mono ?_
        rintro e w11 ⟨dL, dF, dA, dO, mL, mF, mA, mO, rfl, hq, hk, hf, h⟩
        unfold posV
        have HU11 := hid0 (below_drew h)
        have HQ11 := hid0 hq
        clear h hq hk hf
        go_wp2_with fail
        refine hK.out _ _ ?_ (fun hHeld1 => ?_)
        · exact HS8.out w11 HU11.out
        clear hK K
        (try simp only [Act.put]); (try simp only [List.setIfInBounds_toArray]); (try simp only [List.set_cons_succ]); (try simp only [List.set_cons_zero])
        refine wpAnyH_ready (rs := [3]) (by kernel_rfl) (by simp) (AllReadyH.cons rfl (fun K hK => ?_) AllReadyH.nil)
        try simp only [List.getElem_toArray, List.getElem_cons_zero, List.getElem_cons_succ]
        go_simp
        refine (samePos dL dF dA dO pL pF pA pO mL mF mA mO kL kF kA kO TL TO TF TA em w11 (HQ11.out.posA (p := ⟨TL, TF, TA, TO, em⟩) HTT.out.s1) (HPA.out w11 (HL3.out w11 HU11.out)).1).mono ?_
        rintro e w12 ⟨rfl, h⟩
        have HU12 := hid0 (Below.later HU11.out h)
        clear h
        go_wp2_with fail
        refine hK.out _ _ ?_ (fun hHeld3 => ?_)
        · exact HS8.out w12 HU12.out
        clear hK K
        (try simp only [Act.put]); (try simp only [List.setIfInBounds_toArray]); (try simp only [List.set_cons_succ]); (try simp only [List.set_cons_zero])
        refine tkV (i := 4) (d := some 7) (v := ?_) rfl (by kernel_rfl) (by kernel_rfl) (by kernel_rfl) rfl (fun _ _ _ h => h) (by rfl) ?_ (by assumption) ?_
        rotate_left
        · (intro w hSw; (try dsimp only at hSw); (try simp only [List.getElem_toArray, List.getElem_cons_zero, List.getElem_cons_succ]); go_simp; try with_reducible rfl)
        try simp only [Act.put, List.setIfInBounds_toArray, List.set_cons_zero, List.set_cons_succ]
        refine wpAnyH_done (by kernel_rfl) ?_ _
        refine NoPanic.normal ?_
        go_upto_region 10 with (go_at_call 9; go_loud ((refine (first_any A w12 (HEn.out w12 HU12.out)).mono ?_; rintro e w13 ⟨rfl, h⟩; have HU13 := hid0 (Below.later HU12.out h); clear h)))
        refine wp_region_noPanic ?_
        refine wp_region_held_drew (S := (fun V => (V.cell? ⟨w7.heap.size, 0, none⟩ = some (.slice eL TL.length fL) ∧ V.cell? ⟨w7.heap.size, 1, none⟩ = some (.slice eF TA.length fF) ∧ V.cell? ⟨w7.heap.size, 2, none⟩ = some (.slice eA TF.length fA) ∧ V.cell? ⟨w7.heap.size, 3, none⟩ = some (.slice eO TR.length fO) ∧ V.cell? ⟨w7.heap.size, 4, none⟩ = some (.bool em)) ∧ (V.cell? ⟨w1.heap.size, 0, none⟩ = some (.slice pL TL.length kL) ∧ V.cell? ⟨w1.heap.size, 1, none⟩ = some (.slice pF TF.length kF) ∧ V.cell? ⟨w1.heap.size, 2, none⟩ = some (.slice pA TA.length kA) ∧ V.cell? ⟨w1.heap.size, 3, none⟩ = some (.slice pO TO.length kO) ∧ V.cell? ⟨w1.heap.size, 4, none⟩ = some (.bool em)))) (by kernel_rfl) ?_ (fun hHeld => ?_)
        · exact HS8.out w13.drew (Below.later HU13.out (drew_below w13))
        refine tkV (i := 0) (d := some 39) (v := ?_) rfl (by kernel_rfl) (by kernel_rfl) (by kernel_rfl) rfl (fun _ _ _ h => h) (by rfl) ?_ (by assumption) ?_
        rotate_left
        · (intro w hSw; (try dsimp only at hSw); (try simp only [List.getElem_toArray, List.getElem_cons_zero]); go_simp; try with_reducible rfl)
        try simp only [Act.put, List.setIfInBounds_toArray, List.set_cons_zero, List.set_cons_succ]
        refine tkV (i := 1) (d := some 40) (v := ?_) rfl (by kernel_rfl) (by kernel_rfl) (by kernel_rfl) rfl (fun _ _ _ h => h) (by rfl) ?_ (by assumption) ?_
        rotate_left
        · (intro w hSw; (try dsimp only at hSw); (try simp only [List.getElem_toArray, List.getElem_cons_zero, List.getElem_cons_succ]); go_simp; try with_reducible rfl)
        try simp only [Act.put, List.setIfInBounds_toArray, List.set_cons_zero, List.set_cons_succ]
        refine tkV (i := 2) (d := some 41) (v := ?_) rfl (by kernel_rfl) (by kernel_rfl) (by kernel_rfl) rfl (fun _ _ _ h => h) (by rfl) ?_ (by assumption) ?_
        rotate_left
        · (intro w hSw; (try dsimp only at hSw); (try simp only [List.getElem_toArray, List.getElem_cons_zero, List.getElem_cons_succ]); go_simp; try with_reducible rfl)
        try simp only [Act.put, List.setIfInBounds_toArray, List.set_cons_zero, List.set_cons_succ]
        refine wpAnyH_ready (rs := [3]) (by kernel_rfl) (by simp) (AllReadyH.cons rfl (fun K hK => ?_) AllReadyH.nil)
        try simp only [List.getElem_toArray, List.getElem_cons_zero, List.getElem_cons_succ]
        go_simp
        refine (check_two A 4 pL pF pA pO kL kF kA kO TL TO TF TA em w13.drew (HPA.out _ (HL3.out _ (Below.later HU13.out (drew_below w13)))).1 (by decide) (HEn.out _ (Below.later HU13.out (drew_below w13))).sen).mono ?_
        rw [HTT.out.c1, show errP A none = Value.nilIface from rfl]
        rintro e w14 ⟨rfl, h⟩
        have HU14 := hid0 (Below.later HU13.out (below_drew h))
        clear h
        go_wp2_with fail
        refine hK.out _ _ ?_ (fun hHeld3 => ?_)
        · exact HS8.out w14 HU14.out
        clear hK K
        (try simp only [Act.put]); (try simp only [List.setIfInBounds_toArray]); (try simp only [List.set_cons_succ]); (try simp only [List.set_cons_zero])
        refine tkV (i := 4) (d := some 43) (v := ?_) rfl (by kernel_rfl) (by kernel_rfl) (by kernel_rfl) rfl (fun _ _ _ h => h) (by rfl) ?_ (by assumption) ?_
        rotate_left
        · (intro w hSw; (try dsimp only at hSw); (try simp only [List.getElem_toArray, List.getElem_cons_zero, List.getElem_cons_succ]); go_simp; try with_reducible rfl)
        try simp only [Act.put, List.setIfInBounds_toArray, List.set_cons_zero, List.set_cons_succ]
        refine tkV (i := 5) (d := some 44) (v := ?_) rfl (by kernel_rfl) (by kernel_rfl) (by kernel_rfl) rfl (fun _ _ _ h => h) (by rfl) ?_ (by assumption) ?_
        rotate_left
        · (intro w hSw; (try dsimp only at hSw); (try simp only [List.getElem_toArray, List.getElem_cons_zero, List.getElem_cons_succ]); go_simp; try with_reducible rfl)
        try simp only [Act.put, List.setIfInBounds_toArray, List.set_cons_zero, List.set_cons_succ]
        refine tkV (i := 6) (d := some 45) (v := ?_) rfl (by kernel_rfl) (by kernel_rfl) (by kernel_rfl) rfl (fun _ _ _ h => h) (by rfl) ?_ (by assumption) ?_
        rotate_left
        · (intro w hSw; (try dsimp only at hSw); (try simp only [List.getElem_toArray, List.getElem_cons_zero, List.getElem_cons_succ]); go_simp; try with_reducible rfl)
        try simp only [Act.put, List.setIfInBounds_toArray, List.set_cons_zero, List.set_cons_succ]
        refine tkV (i := 7) (d := some 46) (v := ?_) rfl (by kernel_rfl) (by kernel_rfl) (by kernel_rfl) rfl (fun _ _ _ h => h) (by rfl) ?_ (by assumption) ?_
        rotate_left
        · (intro w hSw; (try dsimp only at hSw); (try simp only [List.getElem_toArray, List.getElem_cons_zero, List.getElem_cons_succ]); go_simp; try with_reducible rfl)
        try simp only [Act.put, List.setIfInBounds_toArray, List.set_cons_zero, List.set_cons_succ]
        refine wpAnyH_ready (rs := [8]) (by kernel_rfl) (by simp) (AllReadyH.cons rfl (fun K hK => ?_) AllReadyH.nil)
        try simp only [List.getElem_toArray, List.getElem_cons_zero, List.getElem_cons_succ]
        go_simp
        refine (check_two A 4 eL eF eA eO fL fF fA fO TL TR TA TF em w14 (HRA.out _ HU14.out).1 (by decide) (HEn.out _ HU14.out).sen).mono ?_
        rw [HTT.out.c2, show errP A none = Value.nilIface from rfl]
        rintro e w15 ⟨rfl, h⟩
        have HU15 := hid0 (Below.later HU14.out h)
        clear h
        go_wp2_with fail
        refine hK.out _ _ ?_ (fun hHeld8 => ?_)
        · exact HS8.out w15 HU15.out
        clear hK K
        (try simp only [Act.put]); (try simp only [List.setIfInBounds_toArray]); (try simp only [List.set_cons_succ]); (try simp only [List.set_cons_zero])
        refine tkV (i := 9) (d := some 48) (v := ?_) rfl (by kernel_rfl) (by kernel_rfl) (by kernel_rfl) rfl (fun _ _ _ h => h) (by rfl) ?_ (by assumption) ?_
        rotate_left
        · (intro w hSw; (try dsimp only at hSw); (try simp only [List.getElem_toArray, List.getElem_cons_zero, List.getElem_cons_succ]); go_simp; try with_reducible rfl)
        try simp only [Act.put, List.setIfInBounds_toArray, List.set_cons_zero, List.set_cons_succ]
        refine tkV (i := 10) (d := some 49) (v := ?_) rfl (by kernel_rfl) (by kernel_rfl) (by kernel_rfl) rfl (fun _ _ _ h => h) (by rfl) ?_ (by assumption) ?_
        rotate_left
        · (intro w hSw; (try dsimp only at hSw); (try simp only [List.getElem_toArray, List.getElem_cons_zero, List.getElem_cons_succ]); go_simp; try with_reducible rfl)
        try simp only [Act.put, List.setIfInBounds_toArray, List.set_cons_zero, List.set_cons_succ]
        refine tkV (i := 11) (d := some 50) (v := ?_) rfl (by kernel_rfl) (by kernel_rfl) (by kernel_rfl) rfl (fun _ _ _ h => h) (by rfl) ?_ (by assumption) ?_
        rotate_left
        · (intro w hSw; (try dsimp only at hSw); (try simp only [List.getElem_toArray, List.getElem_cons_zero, List.getElem_cons_succ]); go_simp; try with_reducible rfl)
        try simp only [Act.put, List.setIfInBounds_toArray, List.set_cons_zero, List.set_cons_succ]
        refine tkV (i := 12) (d := some 51) (v := ?_) rfl (by kernel_rfl) (by kernel_rfl) (by kernel_rfl) rfl (fun _ _ _ h => h) (by rfl) ?_ (by assumption) ?_
        rotate_left
        · (intro w hSw; (try dsimp only at hSw); (try simp only [List.getElem_toArray, List.getElem_cons_zero, List.getElem_cons_succ]); go_simp; try with_reducible rfl)
        try simp only [Act.put, List.setIfInBounds_toArray, List.set_cons_zero, List.set_cons_succ]
        refine tkV (i := 13) (d := some 52) (v := ?_) rfl (by kernel_rfl) (by kernel_rfl) (by kernel_rfl) rfl (fun _ _ _ h => h) (by rfl) ?_ (by assumption) ?_
        rotate_left
        · (intro w hSw; (try dsimp only at hSw); (try simp only [List.getElem_toArray, List.getElem_cons_zero, List.getElem_cons_succ]); go_simp; try with_reducible rfl)
        try simp only [Act.put, List.setIfInBounds_toArray, List.set_cons_zero, List.set_cons_succ]
        refine tkV (i := 14) (d := some 53) (v := ?_) rfl (by kernel_rfl) (by kernel_rfl) (by kernel_rfl) rfl (fun _ _ _ h => h) (by rfl) ?_ (by assumption) ?_
        rotate_left
        · (intro w hSw; (try dsimp only at hSw); (try simp only [List.getElem_toArray, List.getElem_cons_zero, List.getElem_cons_succ]); go_simp; try with_reducible rfl)
        try simp only [Act.put, List.setIfInBounds_toArray, List.set_cons_zero, List.set_cons_succ]
        refine tkV (i := 15) (d := some 54) (v := ?_) rfl (by kernel_rfl) (by kernel_rfl) (by kernel_rfl) rfl (fun _ _ _ h => h) (by rfl) ?_ (by assumption) ?_
        rotate_left
        · (intro w hSw; (try dsimp only at hSw); (try simp only [List.getElem_toArray, List.getElem_cons_zero, List.getElem_cons_succ]); go_simp; try with_reducible rfl)
        try simp only [Act.put, List.setIfInBounds_toArray, List.set_cons_zero, List.set_cons_succ]
        refine tkV (i := 16) (d := some 55) (v := ?_) rfl (by kernel_rfl) (by kernel_rfl) (by kernel_rfl) rfl (fun _ _ _ h => h) (by rfl) ?_ (by assumption) ?_
        rotate_left
        · (intro w hSw; (try dsimp only at hSw); (try simp only [List.getElem_toArray, List.getElem_cons_zero, List.getElem_cons_succ]); go_simp; try with_reducible rfl)
        try simp only [Act.put, List.setIfInBounds_toArray, List.set_cons_zero, List.set_cons_succ]
        refine tkV (i := 19) (d := some 58) (v := ?_) rfl (by kernel_rfl) (by kernel_rfl) (by kernel_rfl) rfl (fun _ _ _ h => h) (by rfl) ?_ (by assumption) ?_
        rotate_left
        · (intro w hSw; (try dsimp only at hSw); (try simp only [List.getElem_toArray, List.getElem_cons_zero, List.getElem_cons_succ]); go_simp; try with_reducible rfl)
        try simp only [Act.put, List.setIfInBounds_toArray, List.set_cons_zero, List.set_cons_succ]
        refine tkV (i := 20) (d := some 59) (v := ?_) rfl (by kernel_rfl) (by kernel_rfl) (by kernel_rfl) rfl (fun _ _ _ h => h) (by rfl) ?_ (by assumption) ?_
        rotate_left
        · (intro w hSw; (try dsimp only at hSw); (try simp only [List.getElem_toArray, List.getElem_cons_zero, List.getElem_cons_succ]); go_simp; try with_reducible rfl)
        try simp only [Act.put, List.setIfInBounds_toArray, List.set_cons_zero, List.set_cons_succ]
        refine wpAnyH_ready (rs := [17]) (by kernel_rfl) (by simp) (AllReadyH.cons rfl (fun K hK => ?_) AllReadyH.nil)
        try simp only [List.getElem_toArray, List.getElem_cons_zero, List.getElem_cons_succ]
        go_simp
        refine (back_any X av cv w15 (by omega) (HXw.out w15 HU15.out)).mono ?_
        rintro e w16 ⟨v, rfl, hv, h⟩
        obtain ⟨ab, cb, eb, hib⟩ := hv.ia
        rw [List.length_reverse] at eb
        subst eb
        have HU16 := hid0 (Below.later HU15.out h)
        have HIb := hid0 hib
        clear h hv hib
        go_wp2_with fail
        refine hK.out _ _ ?_ (fun hHeld17 => ?_)
        · exact HS8.out w16 HU16.out
        clear hK K
        (try simp only [Act.put]); (try simp only [List.setIfInBounds_toArray]); (try simp only [List.set_cons_succ]); (try simp only [List.set_cons_zero])
        refine wpAnyH_ready (rs := [18]) (by kernel_rfl) (by simp) (AllReadyH.cons rfl (fun K hK => ?_) AllReadyH.nil)
        try simp only [List.getElem_toArray, List.getElem_cons_zero, List.getElem_cons_succ]
        go_simp
        have hM := match_any eL eF eA eO ab fL fF fA fO cb TL TR TA TF X.reverse em w16 (HRA.out _ HU16.out).1 HIb.out (by rw [List.length_reverse]; omega) (HRA.out _ HU16.out).2.1 (HRA.out _ HU16.out).2.2 HTT.out.i (fun z hz => HXi.out z (List.mem_reverse.1 hz)) (HEn.out _ HU16.out).tab (HEn.out _ HU16.out).tl
        rw [HTT.out.m, List.length_reverse] at hM
        refine hM.mono ?_
        clear hM
        rintro e w17 ⟨rfl, h⟩
        have HU17 := hid0 (Below.later HU16.out h)
        clear h
        go_wp2_with fail
        refine hK.out _ _ ?_ (fun hHeld18 => ?_)
        · exact HS8.out w17 HU17.out
        clear hK K
        (try simp only [Act.put]); (try simp only [List.setIfInBounds_toArray]); (try simp only [List.set_cons_succ]); (try simp only [List.set_cons_zero])
        refine wpAnyH_ready (rs := [21]) (by kernel_rfl) (by simp) (AllReadyH.cons rfl (fun K hK => ?_) AllReadyH.nil)
        try simp only [List.getElem_toArray, List.getElem_cons_zero, List.getElem_cons_succ]
        go_simp
        refine (match_any pL pF pA pO av kL kF kA kO cv TL TO TF TA X em w17 (HPA.out _ (HL3.out _ HU17.out)).1 (HXw.out _ HU17.out) (by omega) (HPA.out _ (HL3.out _ HU17.out)).2.1 (HPA.out _ (HL3.out _ HU17.out)).2.2 HTT.out.i HXi.out (HEn.out _ HU17.out).tab (HEn.out _ HU17.out).tl).mono ?_
        rintro e w18 ⟨rfl, h⟩
        have HU18 := hid0 (Below.later HU17.out h)
        clear h
        go_wp2_with fail
        refine hK.out _ _ ?_ (fun hHeld21 => ?_)
        · exact HS8.out w18 HU18.out
        clear hK K
        (try simp only [Act.put]); (try simp only [List.setIfInBounds_toArray]); (try simp only [List.set_cons_succ]); (try simp only [List.set_cons_zero])
        refine tkV (i := 22) (d := some 61) (v := .bool true) rfl (by kernel_rfl) (by kernel_rfl) (by kernel_rfl) rfl (fun _ _ _ h => h) (by rfl) ?_ (by assumption) ?_
        · (intro w hSw; (try dsimp only at hSw); (try simp only [List.getElem_toArray, List.getElem_cons_zero, List.getElem_cons_succ]); go_simp; try with_reducible rfl)
        try simp only [Act.put, List.setIfInBounds_toArray, List.set_cons_zero, List.set_cons_succ]
        refine tkV (i := 23) (d := some 62) (v := .bool true) rfl (by kernel_rfl) (by kernel_rfl) (by kernel_rfl) rfl (fun _ _ _ h => h) (by rfl) ?_ (by assumption) ?_
        · (intro w hSw; (try dsimp only at hSw); (try simp only [List.getElem_toArray, List.getElem_cons_zero, List.getElem_cons_succ]); go_simp; try with_reducible rfl)
        try simp only [Act.put, List.setIfInBounds_toArray, List.set_cons_zero, List.set_cons_succ]
        refine tkV (i := 24) (d := some 2) (v := ?_) rfl (by kernel_rfl) (by kernel_rfl) (by kernel_rfl) rfl (fun _ _ _ h => h) (by rfl) ?_ (by assumption) ?_
        rotate_left
        · (intro w hSw; (try dsimp only at hSw); (try simp only [List.getElem_toArray, List.getElem_cons_zero, List.getElem_cons_succ]); go_simp; try with_reducible rfl)
        try simp only [Act.put, List.setIfInBounds_toArray, List.set_cons_zero, List.set_cons_succ]
        refine wpAnyH_done (by kernel_rfl) ?_ _
        refine NoPanic.normal ?_
        go_wp2
        go_ret
        exact ⟨rfl, Below.later HB0.out (Below.later HB3.out (HL3.out _ HU18.out))⟩
      · have hkI : (k : Int) < (Wd.length : Int) := by omega
        have hkI2 : ¬ (k : Int) < 20 := by omega
        have HXi := hid0 (wk_in Wd k)
        have hll := wk_len Wd k
        generalize wk Wd k = X at *
        obtain ⟨p0, p1, p2, p3, p4⟩ := HP3.out wr HBr.out
        have HRv : Hid (Calls Tryd.prog 7 #[.agg #[.slice pL TL.length kL, .slice pF TF.length kF, .slice pA TA.length kA, .slice pO TO.length kO, .bool em]] wr fun r w' => RevB wr ⟨TL, TA, TF, TR, em⟩ r w') := hid0 (by rw [← HTT.out.r1]; exact reverse_two pL pF pA pO kL kF kA kO TL TO TF TA em wr (HPA.out wr HBr.out).1)
        go_upto_region 8 with (first
          | (go_at_call 7; go_loud ((
                  refine HRv.out.mono ?_
                  rintro e w7 ⟨eL, eF, eA, eO, fL, fF, fA, fO, rfl, hq, hk, hf, h⟩
                  unfold posV
                  obtain ⟨w8, hal⟩ : ∃ V, V = w7.alloc (.cells #[.slice none 0 0, .slice none 0 0, .slice none 0 0, .slice none 0 0, .bool false] 25) := ⟨_, rfl⟩
                  have hba : Below w7.heap.size w7 w8 := by { rw [hal]; exact (Below.refl _ _).alloc (Nat.le_refl _) _ }
                  have hza : w8.heap[w7.heap.size]? = some (.cells #[.slice none 0 0, .slice none 0 0, .slice none 0 0, .slice none 0 0, .bool false] 25 (0, 0)) := by { rw [hal]; exact zeroT w7 }
                  obtain ⟨w9, hst⟩ : ∃ V, V = set5 w8 w7.heap.size (.slice eL TL.length fL) (.slice eF TA.length fF) (.slice eA TF.length fA) (.slice eO TR.length fO) (.bool em) := ⟨_, rfl⟩
                  have hbs : Below w7.heap.size w7 w9 := by { rw [hst]; exact set5_below hba (Nat.le_refl _) _ _ _ _ _ }
                  have hzs : w9.heap[w7.heap.size]? = some (.cells #[.slice eL TL.length fL, .slice eF TA.length fF, .slice eA TF.length fA, .slice eO TR.length fO, .bool em] 25 (0, 0)) := by { rw [hst]; exact set5_row hza _ _ _ _ _ }
                  obtain ⟨y0, y1, y2, y3, y4⟩ := row5 hza
                  obtain ⟨z0, z1, z2, z3, z4⟩ := frz5 hza
                  unfold set5 at hst
                  have hfaw8 := hal.symm
                  have hfsw9 := hst.symm
                  have HU9 := hid0 (Below.later h hbs)
                  have hz9 : w7.heap.size < w9.heap.size := (Array.getElem?_eq_some_iff.1 hzs).1
                  have HR9 : Hid (∀ V, Below w9.heap.size w9 V → V.cell? ⟨w7.heap.size, 0, none⟩ = some (.slice eL TL.length fL) ∧ V.cell? ⟨w7.heap.size, 1, none⟩ = some (.slice eF TA.length fF) ∧ V.cell? ⟨w7.heap.size, 2, none⟩ = some (.slice eA TF.length fA) ∧ V.cell? ⟨w7.heap.size, 3, none⟩ = some (.slice eO TR.length fO) ∧ V.cell? ⟨w7.heap.size, 4, none⟩ = some (.bool em)) := hid0 (fun V hV => row5 ((hV.block _ hz9).trans hzs))
                  have HRA : Hid (∀ V, Below w9.heap.size w9 V → PosA V eL eF eA eO TL TR TA TF ∧ RwB V eO TR ∧ ∀ q, eF = some q → q.block < V.heap.size) := hid0 (fun V hV => ⟨(hq.past (Below.later hbs hV)).posA (p := ⟨TL, TA, TF, TR, em⟩) HTT.out.s2, (hk.past (Below.later hbs hV)).rwb, fun q e => Nat.lt_of_lt_of_le (hf q e) (Below.later hbs hV).size⟩)
                  clear h hal hba hza hst hbs hzs hq hk hf p0 p1 p2 p3 p4)))
          | fail)
        clear y0 y1 y2 y3 y4 z0 z1 z2 z3 z4
        have HL3 : Hid (∀ V, Below w9.heap.size w9 V → Below w3.heap.size w3 V) := hid0 (fun V hV => Below.later HBr.out (Below.later HU9.out hV))
        have HS8 : Hid (∀ V, Below w9.heap.size w9 V → (V.cell? ⟨w7.heap.size, 0, none⟩ = some (.slice eL TL.length fL) ∧ V.cell? ⟨w7.heap.size, 1, none⟩ = some (.slice eF TA.length fF) ∧ V.cell? ⟨w7.heap.size, 2, none⟩ = some (.slice eA TF.length fA) ∧ V.cell? ⟨w7.heap.size, 3, none⟩ = some (.slice eO TR.length fO) ∧ V.cell? ⟨w7.heap.size, 4, none⟩ = some (.bool em)) ∧ (V.cell? ⟨w1.heap.size, 0, none⟩ = some (.slice pL TL.length kL) ∧ V.cell? ⟨w1.heap.size, 1, none⟩ = some (.slice pF TF.length kF) ∧ V.cell? ⟨w1.heap.size, 2, none⟩ = some (.slice pA TA.length kA) ∧ V.cell? ⟨w1.heap.size, 3, none⟩ = some (.slice pO TO.length kO) ∧ V.cell? ⟨w1.heap.size, 4, none⟩ = some (.bool em))) := hid0 (fun V hV => ⟨HR9.out V hV, HP3.out V (HL3.out V hV)⟩)
        have HEn : Hid (∀ V, Below w9.heap.size w9 V → EnvT V A) := hid0 (fun V hV => HE.out V (Below.later HB3.out (HL3.out V hV)))
        have HXw : Hid (∀ V, Below w9.heap.size w9 V → IA V av X) := hid0 (fun V hV => hia.past (Below.later HU9.out hV))
        have HRv2 : Hid (∀ V, Below w9.heap.size w9 V → Calls Tryd.prog 7 #[.agg #[.slice eL TL.length fL, .slice eF TA.length fF, .slice eA TF.length fA, .slice eO TR.length fO, .bool em]] V fun r w' => RevB V ⟨TL, TF, TA, TO, em⟩ r w') := hid0 (fun V hV => by rw [← HTT.out.r2]; exact reverse_two eL eF eA eO fL fF fA fO TL TR TA TF em V (HRA.out V hV).1)
        clear hia hsz
        refine wp_region_noPanic ?_
        refine wp_region_held_drew (S := (fun V => (V.cell? ⟨w7.heap.size, 0, none⟩ = some (.slice eL TL.length fL) ∧ V.cell? ⟨w7.heap.size, 1, none⟩ = some (.slice eF TA.length fF) ∧ V.cell? ⟨w7.heap.size, 2, none⟩ = some (.slice eA TF.length fA) ∧ V.cell? ⟨w7.heap.size, 3, none⟩ = some (.slice eO TR.length fO) ∧ V.cell? ⟨w7.heap.size, 4, none⟩ = some (.bool em)) ∧ (V.cell? ⟨w1.heap.size, 0, none⟩ = some (.slice pL TL.length kL) ∧ V.cell? ⟨w1.heap.size, 1, none⟩ = some (.slice pF TF.length kF) ∧ V.cell? ⟨w1.heap.size, 2, none⟩ = some (.slice pA TA.length kA) ∧ V.cell? ⟨w1.heap.size, 3, none⟩ = some (.slice pO TO.length kO) ∧ V.cell? ⟨w1.heap.size, 4, none⟩ = some (.bool em)))) (by kernel_rfl) ?_ (fun hHeld => ?_)
        · exact HS8.out w9.drew (drew_below w9)
        refine tkV (i := 0) (d := some 34) (v := ?_) rfl (by kernel_rfl) (by kernel_rfl) (by kernel_rfl) rfl (fun _ _ _ h => h) (by rfl) ?_ (by assumption) ?_
        rotate_left
        · (intro w hSw; (try dsimp only at hSw); (try simp only [List.getElem_toArray, List.getElem_cons_zero]); go_simp; try with_reducible rfl)
        try simp only [Act.put, List.setIfInBounds_toArray, List.set_cons_zero, List.set_cons_succ]
        refine tkV (i := 2) (d := some 36) (v := ?_) rfl (by kernel_rfl) (by kernel_rfl) (by kernel_rfl) rfl (fun _ _ _ h => h) (by rfl) ?_ (by assumption) ?_
        rotate_left
        · (intro w hSw; (try dsimp only at hSw); (try simp only [List.getElem_toArray, List.getElem_cons_zero, List.getElem_cons_succ]); go_simp; try with_reducible rfl)
        try simp only [Act.put, List.setIfInBounds_toArray, List.set_cons_zero, List.set_cons_succ]
        refine wpAnyH_ready (rs := [1]) (by kernel_rfl) (by simp) (AllReadyH.cons rfl (fun K hK => ?_) AllReadyH.nil)
        try simp only [List.getElem_toArray, List.getElem_cons_zero, List.getElem_cons_succ]
        go_simp
        refine (HRv2.out w9.drew (drew_below w9)).mono ?_
        rintro e w11 ⟨dL, dF, dA, dO, mL, mF, mA, mO, rfl, hq, hk, hf, h⟩
        unfold posV
        have HU11 := hid0 (below_drew h)
        have HQ11 := hid0 hq
        clear h hq hk hf
        go_wp2_with fail
        refine hK.out _ _ ?_ (fun hHeld1 => ?_)
        · exact HS8.out w11 HU11.out
        clear hK K
        (try simp only [Act.put]); (try simp only [List.setIfInBounds_toArray]); (try simp only [List.set_cons_succ]); (try simp only [List.set_cons_zero])
        refine wpAnyH_ready (rs := [3]) (by kernel_rfl) (by simp) (AllReadyH.cons rfl (fun K hK => ?_) AllReadyH.nil)
        try simp only [List.getElem_toArray, List.getElem_cons_zero, List.getElem_cons_succ]
        go_simp
        refine (samePos dL dF dA dO pL pF pA pO mL mF mA mO kL kF kA kO TL TO TF TA em w11 (HQ11.out.posA (p := ⟨TL, TF, TA, TO, em⟩) HTT.out.s1) (HPA.out w11 (HL3.out w11 HU11.out)).1).mono ?_
        rintro e w12 ⟨rfl, h⟩
        have HU12 := hid0 (Below.later HU11.out h)
        clear h
        go_wp2_with fail
        refine hK.out _ _ ?_ (fun hHeld3 => ?_)
        · exact HS8.out w12 HU12.out
        clear hK K
        (try simp only [Act.put]); (try simp only [List.setIfInBounds_toArray]); (try simp only [List.set_cons_succ]); (try simp only [List.set_cons_zero])
        refine tkV (i := 4) (d := some 7) (v := ?_) rfl (by kernel_rfl) (by kernel_rfl) (by kernel_rfl) rfl (fun _ _ _ h => h) (by rfl) ?_ (by assumption) ?_
        rotate_left
        · (intro w hSw; (try dsimp only at hSw); (try simp only [List.getElem_toArray, List.getElem_cons_zero, List.getElem_cons_succ]); go_simp; try with_reducible rfl)
        try simp only [Act.put, List.setIfInBounds_toArray, List.set_cons_zero, List.set_cons_succ]
        refine wpAnyH_done (by kernel_rfl) ?_ _
        refine NoPanic.normal ?_
        go_upto_region 10 with (go_at_call 9; go_loud ((refine (first_any A w12 (HEn.out w12 HU12.out)).mono ?_; rintro e w13 ⟨rfl, h⟩; have HU13 := hid0 (Below.later HU12.out h); clear h)))
        refine wp_region_noPanic ?_
        refine wp_region_held_drew (S := (fun V => (V.cell? ⟨w7.heap.size, 0, none⟩ = some (.slice eL TL.length fL) ∧ V.cell? ⟨w7.heap.size, 1, none⟩ = some (.slice eF TA.length fF) ∧ V.cell? ⟨w7.heap.size, 2, none⟩ = some (.slice eA TF.length fA) ∧ V.cell? ⟨w7.heap.size, 3, none⟩ = some (.slice eO TR.length fO) ∧ V.cell? ⟨w7.heap.size, 4, none⟩ = some (.bool em)) ∧ (V.cell? ⟨w1.heap.size, 0, none⟩ = some (.slice pL TL.length kL) ∧ V.cell? ⟨w1.heap.size, 1, none⟩ = some (.slice pF TF.length kF) ∧ V.cell? ⟨w1.heap.size, 2, none⟩ = some (.slice pA TA.length kA) ∧ V.cell? ⟨w1.heap.size, 3, none⟩ = some (.slice pO TO.length kO) ∧ V.cell? ⟨w1.heap.size, 4, none⟩ = some (.bool em)))) (by kernel_rfl) ?_ (fun hHeld => ?_)
        · exact HS8.out w13.drew (Below.later HU13.out (drew_below w13))
        refine tkV (i := 0) (d := some 39) (v := ?_) rfl (by kernel_rfl) (by kernel_rfl) (by kernel_rfl) rfl (fun _ _ _ h => h) (by rfl) ?_ (by assumption) ?_
        rotate_left
        · (intro w hSw; (try dsimp only at hSw); (try simp only [List.getElem_toArray, List.getElem_cons_zero]); go_simp; try with_reducible rfl)
        try simp only [Act.put, List.setIfInBounds_toArray, List.set_cons_zero, List.set_cons_succ]
        refine tkV (i := 1) (d := some 40) (v := ?_) rfl (by kernel_rfl) (by kernel_rfl) (by kernel_rfl) rfl (fun _ _ _ h => h) (by rfl) ?_ (by assumption) ?_
        rotate_left
        · (intro w hSw; (try dsimp only at hSw); (try simp only [List.getElem_toArray, List.getElem_cons_zero, List.getElem_cons_succ]); go_simp; try with_reducible rfl)
        try simp only [Act.put, List.setIfInBounds_toArray, List.set_cons_zero, List.set_cons_succ]
        refine tkV (i := 2) (d := some 41) (v := ?_) rfl (by kernel_rfl) (by kernel_rfl) (by kernel_rfl) rfl (fun _ _ _ h => h) (by rfl) ?_ (by assumption) ?_
        rotate_left
        · (intro w hSw; (try dsimp only at hSw); (try simp only [List.getElem_toArray, List.getElem_cons_zero, List.getElem_cons_succ]); go_simp; try with_reducible rfl)
        try simp only [Act.put, List.setIfInBounds_toArray, List.set_cons_zero, List.set_cons_succ]
        refine wpAnyH_ready (rs := [3]) (by kernel_rfl) (by simp) (AllReadyH.cons rfl (fun K hK => ?_) AllReadyH.nil)
        try simp only [List.getElem_toArray, List.getElem_cons_zero, List.getElem_cons_succ]
        go_simp
        refine (check_two A 4 pL pF pA pO kL kF kA kO TL TO TF TA em w13.drew (HPA.out _ (HL3.out _ (Below.later HU13.out (drew_below w13)))).1 (by decide) (HEn.out _ (Below.later HU13.out (drew_below w13))).sen).mono ?_
        rw [HTT.out.c1, show errP A none = Value.nilIface from rfl]
        rintro e w14 ⟨rfl, h⟩
        have HU14 := hid0 (Below.later HU13.out (below_drew h))
        clear h
        go_wp2_with fail
        refine hK.out _ _ ?_ (fun hHeld3 => ?_)
        · exact HS8.out w14 HU14.out
        clear hK K
        (try simp only [Act.put]); (try simp only [List.setIfInBounds_toArray]); (try simp only [List.set_cons_succ]); (try simp only [List.set_cons_zero])
        refine tkV (i := 4) (d := some 43) (v := ?_) rfl (by kernel_rfl) (by kernel_rfl) (by kernel_rfl) rfl (fun _ _ _ h => h) (by rfl) ?_ (by assumption) ?_
        rotate_left
        · (intro w hSw; (try dsimp only at hSw); (try simp only [List.getElem_toArray, List.getElem_cons_zero, List.getElem_cons_succ]); go_simp; try with_reducible rfl)
        try simp only [Act.put, List.setIfInBounds_toArray, List.set_cons_zero, List.set_cons_succ]
        refine tkV (i := 5) (d := some 44) (v := ?_) rfl (by kernel_rfl) (by kernel_rfl) (by kernel_rfl) rfl (fun _ _ _ h => h) (by rfl) ?_ (by assumption) ?_
        rotate_left
        · (intro w hSw; (try dsimp only at hSw); (try simp only [List.getElem_toArray, List.getElem_cons_zero, List.getElem_cons_succ]); go_simp; try with_reducible rfl)
        try simp only [Act.put, List.setIfInBounds_toArray, List.set_cons_zero, List.set_cons_succ]
        refine tkV (i := 6) (d := some 45) (v := ?_) rfl (by kernel_rfl) (by kernel_rfl) (by kernel_rfl) rfl (fun _ _ _ h => h) (by rfl) ?_ (by assumption) ?_
        rotate_left
        · (intro w hSw; (try dsimp only at hSw); (try simp only [List.getElem_toArray, List.getElem_cons_zero, List.getElem_cons_succ]); go_simp; try with_reducible rfl)
        try simp only [Act.put, List.setIfInBounds_toArray, List.set_cons_zero, List.set_cons_succ]
        refine tkV (i := 7) (d := some 46) (v := ?_) rfl (by kernel_rfl) (by kernel_rfl) (by kernel_rfl) rfl (fun _ _ _ h => h) (by rfl) ?_ (by assumption) ?_
        rotate_left
        · (intro w hSw; (try dsimp only at hSw); (try simp only [List.getElem_toArray, List.getElem_cons_zero, List.getElem_cons_succ]); go_simp; try with_reducible rfl)
        try simp only [Act.put, List.setIfInBounds_toArray, List.set_cons_zero, List.set_cons_succ]
        refine wpAnyH_ready (rs := [8]) (by kernel_rfl) (by simp) (AllReadyH.cons rfl (fun K hK => ?_) AllReadyH.nil)
        try simp only [List.getElem_toArray, List.getElem_cons_zero, List.getElem_cons_succ]
        go_simp
        refine (check_two A 4 eL eF eA eO fL fF fA fO TL TR TA TF em w14 (HRA.out _ HU14.out).1 (by decide) (HEn.out _ HU14.out).sen).mono ?_
        rw [HTT.out.c2, show errP A none = Value.nilIface from rfl]
        rintro e w15 ⟨rfl, h⟩
        have HU15 := hid0 (Below.later HU14.out h)
        clear h
        go_wp2_with fail
        refine hK.out _ _ ?_ (fun hHeld8 => ?_)
        · exact HS8.out w15 HU15.out
        clear hK K
        (try simp only [Act.put]); (try simp only [List.setIfInBounds_toArray]); (try simp only [List.set_cons_succ]); (try simp only [List.set_cons_zero])
        refine tkV (i := 9) (d := some 48) (v := ?_) rfl (by kernel_rfl) (by kernel_rfl) (by kernel_rfl) rfl (fun _ _ _ h => h) (by rfl) ?_ (by assumption) ?_
        rotate_left
        · (intro w hSw; (try dsimp only at hSw); (try simp only [List.getElem_toArray, List.getElem_cons_zero, List.getElem_cons_succ]); go_simp; try with_reducible rfl)
        try simp only [Act.put, List.setIfInBounds_toArray, List.set_cons_zero, List.set_cons_succ]
        refine tkV (i := 10) (d := some 49) (v := ?_) rfl (by kernel_rfl) (by kernel_rfl) (by kernel_rfl) rfl (fun _ _ _ h => h) (by rfl) ?_ (by assumption) ?_
        rotate_left
        · (intro w hSw; (try dsimp only at hSw); (try simp only [List.getElem_toArray, List.getElem_cons_zero, List.getElem_cons_succ]); go_simp; try with_reducible rfl)
        try simp only [Act.put, List.setIfInBounds_toArray, List.set_cons_zero, List.set_cons_succ]
        refine tkV (i := 11) (d := some 50) (v := ?_) rfl (by kernel_rfl) (by kernel_rfl) (by kernel_rfl) rfl (fun _ _ _ h => h) (by rfl) ?_ (by assumption) ?_
        rotate_left
        · (intro w hSw; (try dsimp only at hSw); (try simp only [List.getElem_toArray, List.getElem_cons_zero, List.getElem_cons_succ]); go_simp; try with_reducible rfl)
        try simp only [Act.put, List.setIfInBounds_toArray, List.set_cons_zero, List.set_cons_succ]
        refine tkV (i := 12) (d := some 51) (v := ?_) rfl (by kernel_rfl) (by kernel_rfl) (by kernel_rfl) rfl (fun _ _ _ h => h) (by rfl) ?_ (by assumption) ?_
        rotate_left
        · (intro w hSw; (try dsimp only at hSw); (try simp only [List.getElem_toArray, List.getElem_cons_zero, List.getElem_cons_succ]); go_simp; try with_reducible rfl)
        try simp only [Act.put, List.setIfInBounds_toArray, List.set_cons_zero, List.set_cons_succ]
        refine tkV (i := 13) (d := some 52) (v := ?_) rfl (by kernel_rfl) (by kernel_rfl) (by kernel_rfl) rfl (fun _ _ _ h => h) (by rfl) ?_ (by assumption) ?_
        rotate_left
        · (intro w hSw; (try dsimp only at hSw); (try simp only [List.getElem_toArray, List.getElem_cons_zero, List.getElem_cons_succ]); go_simp; try with_reducible rfl)
        try simp only [Act.put, List.setIfInBounds_toArray, List.set_cons_zero, List.set_cons_succ]
        refine tkV (i := 14) (d := some 53) (v := ?_) rfl (by kernel_rfl) (by kernel_rfl) (by kernel_rfl) rfl (fun _ _ _ h => h) (by rfl) ?_ (by assumption) ?_
        rotate_left
        · (intro w hSw; (try dsimp only at hSw); (try simp only [List.getElem_toArray, List.getElem_cons_zero, List.getElem_cons_succ]); go_simp; try with_reducible rfl)
        try simp only [Act.put, List.setIfInBounds_toArray, List.set_cons_zero, List.set_cons_succ]
        refine tkV (i := 15) (d := some 54) (v := ?_) rfl (by kernel_rfl) (by kernel_rfl) (by kernel_rfl) rfl (fun _ _ _ h => h) (by rfl) ?_ (by assumption) ?_
        rotate_left
        · (intro w hSw; (try dsimp only at hSw); (try simp only [List.getElem_toArray, List.getElem_cons_zero, List.getElem_cons_succ]); go_simp; try with_reducible rfl)
        try simp only [Act.put, List.setIfInBounds_toArray, List.set_cons_zero, List.set_cons_succ]
        refine tkV (i := 16) (d := some 55) (v := ?_) rfl (by kernel_rfl) (by kernel_rfl) (by kernel_rfl) rfl (fun _ _ _ h => h) (by rfl) ?_ (by assumption) ?_
        rotate_left
        · (intro w hSw; (try dsimp only at hSw); (try simp only [List.getElem_toArray, List.getElem_cons_zero, List.getElem_cons_succ]); go_simp; try with_reducible rfl)
        try simp only [Act.put, List.setIfInBounds_toArray, List.set_cons_zero, List.set_cons_succ]
        refine tkV (i := 19) (d := some 58) (v := ?_) rfl (by kernel_rfl) (by kernel_rfl) (by kernel_rfl) rfl (fun _ _ _ h => h) (by rfl) ?_ (by assumption) ?_
        rotate_left
        · (intro w hSw; (try dsimp only at hSw); (try simp only [List.getElem_toArray, List.getElem_cons_zero, List.getElem_cons_succ]); go_simp; try with_reducible rfl)
        try simp only [Act.put, List.setIfInBounds_toArray, List.set_cons_zero, List.set_cons_succ]
        refine tkV (i := 20) (d := some 59) (v := ?_) rfl (by kernel_rfl) (by kernel_rfl) (by kernel_rfl) rfl (fun _ _ _ h => h) (by rfl) ?_ (by assumption) ?_
        rotate_left
        · (intro w hSw; (try dsimp only at hSw); (try simp only [List.getElem_toArray, List.getElem_cons_zero, List.getElem_cons_succ]); go_simp; try with_reducible rfl)
        try simp only [Act.put, List.setIfInBounds_toArray, List.set_cons_zero, List.set_cons_succ]
        refine wpAnyH_ready (rs := [17]) (by kernel_rfl) (by simp) (AllReadyH.cons rfl (fun K hK => ?_) AllReadyH.nil)
        try simp only [List.getElem_toArray, List.getElem_cons_zero, List.getElem_cons_succ]
        go_simp
        refine (back_any X av cv w15 (by omega) (HXw.out w15 HU15.out)).mono ?_
        rintro e w16 ⟨v, rfl, hv, h⟩
        obtain ⟨ab, cb, eb, hib⟩ := hv.ia
        rw [List.length_reverse] at eb
        subst eb
        have HU16 := hid0 (Below.later HU15.out h)
        have HIb := hid0 hib
        clear h hv hib
        go_wp2_with fail
        refine hK.out _ _ ?_ (fun hHeld17 => ?_)
        · exact HS8.out w16 HU16.out
        clear hK K
        (try simp only [Act.put]); (try simp only [List.setIfInBounds_toArray]); (try simp only [List.set_cons_succ]); (try simp only [List.set_cons_zero])
        refine wpAnyH_ready (rs := [18]) (by kernel_rfl) (by simp) (AllReadyH.cons rfl (fun K hK => ?_) AllReadyH.nil)
        try simp only [List.getElem_toArray, List.getElem_cons_zero, List.getElem_cons_succ]
        go_simp
        have hM := match_any eL eF eA eO ab fL fF fA fO cb TL TR TA TF X.reverse em w16 (HRA.out _ HU16.out).1 HIb.out (by rw [List.length_reverse]; omega) (HRA.out _ HU16.out).2.1 (HRA.out _ HU16.out).2.2 HTT.out.i (fun z hz => HXi.out z (List.mem_reverse.1 hz)) (HEn.out _ HU16.out).tab (HEn.out _ HU16.out).tl
        rw [HTT.out.m, List.length_reverse] at hM
        refine hM.mono ?_
        clear hM
        rintro e w17 ⟨rfl, h⟩
        have HU17 := hid0 (Below.later HU16.out h)
        clear h
        go_wp2_with fail
        refine hK.out _ _ ?_ (fun hHeld18 => ?_)
        · exact HS8.out w17 HU17.out
        clear hK K
        (try simp only [Act.put]); (try simp only [List.setIfInBounds_toArray]); (try simp only [List.set_cons_succ]); (try simp only [List.set_cons_zero])
        refine wpAnyH_ready (rs := [21]) (by kernel_rfl) (by simp) (AllReadyH.cons rfl (fun K hK => ?_) AllReadyH.nil)
        try simp only [List.getElem_toArray, List.getElem_cons_zero, List.getElem_cons_succ]
        go_simp
        refine (match_any pL pF pA pO av kL kF kA kO cv TL TO TF TA X em w17 (HPA.out _ (HL3.out _ HU17.out)).1 (HXw.out _ HU17.out) (by omega) (HPA.out _ (HL3.out _ HU17.out)).2.1 (HPA.out _ (HL3.out _ HU17.out)).2.2 HTT.out.i HXi.out (HEn.out _ HU17.out).tab (HEn.out _ HU17.out).tl).mono ?_
        rintro e w18 ⟨rfl, h⟩
        have HU18 := hid0 (Below.later HU17.out h)
        clear h
        go_wp2_with fail
        refine hK.out _ _ ?_ (fun hHeld21 => ?_)
        · exact HS8.out w18 HU18.out
        clear hK K
        (try simp only [Act.put]); (try simp only [List.setIfInBounds_toArray]); (try simp only [List.set_cons_succ]); (try simp only [List.set_cons_zero])
        refine tkV (i := 22) (d := some 61) (v := .bool true) rfl (by kernel_rfl) (by kernel_rfl) (by kernel_rfl) rfl (fun _ _ _ h => h) (by rfl) ?_ (by assumption) ?_
        · (intro w hSw; (try dsimp only at hSw); (try simp only [List.getElem_toArray, List.getElem_cons_zero, List.getElem_cons_succ]); go_simp; try with_reducible rfl)
        try simp only [Act.put, List.setIfInBounds_toArray, List.set_cons_zero, List.set_cons_succ]
        refine tkV (i := 23) (d := some 62) (v := .bool true) rfl (by kernel_rfl) (by kernel_rfl) (by kernel_rfl) rfl (fun _ _ _ h => h) (by rfl) ?_ (by assumption) ?_
        · (intro w hSw; (try dsimp only at hSw); (try simp only [List.getElem_toArray, List.getElem_cons_zero, List.getElem_cons_succ]); go_simp; try with_reducible rfl)
        try simp only [Act.put, List.setIfInBounds_toArray, List.set_cons_zero, List.set_cons_succ]
        refine tkV (i := 24) (d := some 2) (v := ?_) rfl (by kernel_rfl) (by kernel_rfl) (by kernel_rfl) rfl (fun _ _ _ h => h) (by rfl) ?_ (by assumption) ?_
        rotate_left
        · (intro w hSw; (try dsimp only at hSw); (try simp only [List.getElem_toArray, List.getElem_cons_zero, List.getElem_cons_succ]); go_simp; try with_reducible rfl)
        try simp only [Act.put, List.setIfInBounds_toArray, List.set_cons_zero, List.set_cons_succ]
        refine wpAnyH_done (by kernel_rfl) ?_ _
        refine NoPanic.normal ?_
        go_wp2
        go_ret
        exact ⟨rfl, Below.later HB0.out (Below.later HB3.out (HL3.out _ HU18.out))⟩
end Go.Proofs.YtlkgghbdgjomkaaDoor
namespace Go.Proofs.YtlkgghbdgjomkaaDoor
open Go.ChangeShapes Go.WideShapes Go.ChangeAt Go.RowKit
theorem own : ownKnob Tryd.prog.godebug = none := by kernel_rfl
/-- The settled world, the listed variables holding what their initialisers lay. -/
def laidWorld (hold : World) : World := { hold with heap := (((((((((((((((((((((((hold.heap.modify 0 fun | .cells _ t frozen => .cells #[.iface 79 (.pointer (some ⟨hold.heap.size + 0, 0, none⟩))] t frozen | o => o).modify 1 fun | .cells _ t frozen => .cells #[.iface 79 (.pointer (some ⟨hold.heap.size + 1, 0, none⟩))] t frozen | o => o).modify 2 fun | .cells _ t frozen => .cells #[.iface 79 (.pointer (some ⟨hold.heap.size + 2, 0, none⟩))] t frozen | o => o).modify 3 fun | .cells _ t frozen => .cells #[.iface 79 (.pointer (some ⟨hold.heap.size + 3, 0, none⟩))] t frozen | o => o).modify 4 fun | .cells _ t frozen => .cells #[.iface 79 (.pointer (some ⟨hold.heap.size + 4, 0, none⟩))] t frozen | o => o).modify 5 fun | .cells _ t frozen => .cells #[.iface 79 (.pointer (some ⟨hold.heap.size + 5, 0, none⟩))] t frozen | o => o).modify 6 fun | .cells _ t frozen => .cells #[.iface 79 (.pointer (some ⟨hold.heap.size + 6, 0, none⟩))] t frozen | o => o).modify 7 fun | .cells _ t frozen => .cells #[.iface 79 (.pointer (some ⟨hold.heap.size + 7, 0, none⟩))] t frozen | o => o).modify 8 fun | .cells _ t frozen => .cells #[.iface 79 (.pointer (some ⟨hold.heap.size + 8, 0, none⟩))] t frozen | o => o).modify 9 fun | .cells _ t frozen => .cells #[.iface 79 (.pointer (some ⟨hold.heap.size + 9, 0, none⟩))] t frozen | o => o).modify 10 fun | .cells _ t frozen => .cells #[.iface 79 (.pointer (some ⟨hold.heap.size + 10, 0, none⟩))] t frozen | o => o).modify 11 fun | .cells _ t frozen => .cells #[.int .u8 0, .int .u8 1, .int .u8 56, .int .u8 2, .int .u8 57, .int .u8 49, .int .u8 28, .int .u8 3, .int .u8 61, .int .u8 58, .int .u8 42, .int .u8 50, .int .u8 38, .int .u8 29, .int .u8 17, .int .u8 4, .int .u8 62, .int .u8 47, .int .u8 59, .int .u8 36, .int .u8 45, .int .u8 43, .int .u8 51, .int .u8 22, .int .u8 53, .int .u8 39, .int .u8 33, .int .u8 30, .int .u8 24, .int .u8 18, .int .u8 12, .int .u8 5, .int .u8 63, .int .u8 55, .int .u8 48, .int .u8 27, .int .u8 60, .int .u8 41, .int .u8 37, .int .u8 16, .int .u8 46, .int .u8 35, .int .u8 44, .int .u8 21, .int .u8 52, .int .u8 32, .int .u8 23, .int .u8 11, .int .u8 54, .int .u8 26, .int .u8 40, .int .u8 15, .int .u8 34, .int .u8 20, .int .u8 31, .int .u8 10, .int .u8 25, .int .u8 14, .int .u8 19, .int .u8 9, .int .u8 13, .int .u8 8, .int .u8 7, .int .u8 6] t frozen | o => o).push (.cells #[.string ⟨#[97, 98, 111, 118, 101, 32, 97, 32, 108, 105, 109, 105, 116]⟩] 97)).push (.cells #[.string ⟨#[97, 32, 110, 117, 109, 98, 101, 114, 32, 111, 114, 32, 97, 110, 32, 97, 114, 103, 117, 109, 101, 110, 116, 32, 105, 115, 32, 111, 117, 116, 32, 111, 102, 32, 105, 116, 115, 32, 112, 108, 97, 99, 101]⟩] 97)).push (.cells #[.string ⟨#[97, 32, 116, 101, 120, 116, 32, 111, 114, 32, 98, 121, 116, 101, 115, 32, 116, 104, 97, 116, 32, 99, 97, 110, 110, 111, 116, 32, 98, 101, 32, 114, 101, 97, 100]⟩] 97)).push (.cells #[.string ⟨#[115, 111, 109, 101, 116, 104, 105, 110, 103, 32, 105, 115, 32, 109, 105, 115, 115, 105, 110, 103]⟩] 97)).push (.cells #[.string ⟨#[116, 104, 101, 114, 101, 32, 116, 119, 105, 99, 101]⟩] 97)).push (.cells #[.string ⟨#[110, 111, 116, 32, 105, 110, 32, 111, 114, 100, 101, 114]⟩] 97)).push (.cells #[.string ⟨#[110, 111, 116, 32, 116, 104, 101, 114, 101]⟩] 97)).push (.cells #[.string ⟨#[103, 111, 101, 115, 32, 114, 111, 117, 110, 100, 32, 105, 110, 32, 97, 32, 99, 105, 114, 99, 108, 101]⟩] 97)).push (.cells #[.string ⟨#[116, 104, 101, 32, 115, 117, 109, 32, 100, 111, 101, 115, 32, 110, 111, 116, 32, 102, 105, 116]⟩] 97)).push (.cells #[.string ⟨#[110, 111, 116, 32, 116, 104, 101, 32, 111, 110, 101, 32, 102, 111, 114, 109, 32, 116, 104, 97, 116, 32, 105, 115, 32, 119, 114, 105, 116, 116, 101, 110]⟩] 97)).push (.cells #[.string ⟨#[105, 116, 32, 104, 97, 115, 32, 101, 110, 100, 101, 100]⟩] 97)) }
set_option maxRecDepth 100000 in
theorem door_shaped (os : Os) (args : Array Value) : ((laidWorld (World.holding Tryd.prog os ⟨#[], #[], []⟩)).forCall (fun _ _ => 0) ⟨#[], args, []⟩).Shaped Tryd.prog :=
  World.shaped_of_RefB (by kernel_rfl) (by kernel_rfl)
/-- An input that fits, at a world that is written out. -/
theorem witness_row_shaped {H : Type} {enc : TypeId × Value → H} {C : Checked} {os : Os} {f : FuncId} {fn : Func} {s : OpenSpec} {conds : List PathCond} {apart : Bool} {laid : List (String × DataW Unit)} (w0 : World) (args : Array Value) (hos : w0.os = os)
    (hsh : (w0.forCall (fun _ _ => 0) ⟨#[], args, []⟩).Shaped C.prog)
    (hok : Input.okWideB C.prog (w0.forCall (fun _ _ => 0) ⟨#[], args, []⟩) f ⟨#[], args, []⟩ = true)
    (hrow : s.preRow enc C.prog fn conds apart laid (w0.forCall (fun _ _ => 0) ⟨#[], args, []⟩).memory args) :
    ∃ (w : World) (tape : Tape) (i : Input), w.os = os ∧ (w.forCall tape i).Shaped C.prog ∧ i.vars = [] ∧ Input.okWide C.prog (w.forCall tape i) .any w.heap.size f i ∧
      s.preRow enc C.prog fn conds apart laid (w.forCall tape i).memory i.args ∧ ({} : Assume).holds C.prog (lone (Frame.enter C.prog f i.args .normal) [] (w.forCall tape i)) :=
  ⟨w0, fun _ _ => 0, ⟨#[], args, []⟩, hos, hsh, (Input.okWide_of_okWideB (base := 0) hok).1, (Input.okWide_of_okWideB hok).2, hrow, by
    simp only [Assume.holds]
    exact ⟨by simp, by simp, by simp, by simp, by simp⟩⟩
theorem laidOut : laidOutB Tryd.prog = true := by kernel_rfl
set_option maxRecDepth 10000 in
/-- The frame of a law of one parameter that answers true, writes nothing that was there, and lists no variable among its readings. -/
theorem law_contract {H : Type} {enc : TypeId × Value → H} {f : FuncId} {fn : Func} {s : ChangeSpec} {t : TypeId} (hp : fn.params = #[t]) (hrt : fn.resultTypes = #[4]) (hvars : s.vars = [])
    (hfn : ∀ (K : Type) (d : DataW K), s.fn K [d] = { results := [.lit (.bool true)], args := [d] }) (hread : Tryd.prog.readableRec t = true) (hrow : t < Tryd.prog.types.size)
    (W : World) (base : Nat) (args : Array Value) (ds gs : List (DataW H)) (before : List MemPlace)
    (hval : ∀ (j : Nat) t v, fn.params[j]? = some t → args[j]? = some v → Value.okWide Tryd.prog W .any base t v)
    (hW : DataW.Whole enc Tryd.prog fn.params.toList s.vars false W args.toList ds gs before)
    (hsz : (DataW.weightsEach Tryd.prog (fn.params.toList ++ s.plain.varTypes Tryd.prog) (ds ++ gs)).all (· ≤ reachBytes) = true)
    (walk : ∀ (v : Value) (d : DataW H) (p : List MemPlace), Value.okWide Tryd.prog W .any base t v → DataW.Trod enc Tryd.prog W 0 (fun _ => true) true t v d p → (∀ x ∈ p, x.block < W.heap.size) → (∀ x ∈ d.weights Tryd.prog t, x ≤ reachBytes) → ds = [d] → gs = [] →
      Calls Tryd.prog f #[v] W fun e W' => e = .returned (.bool true) ∧ Below W.heap.size W W') :
    Calls Tryd.prog f args W fun e W' => ∃ v, e = .returned v ∧ s.post enc Tryd.prog fn false true false false W args v W' := by
  have hW' := hW
  obtain ⟨p, q, hA0, hV, rfl, hfz, hnd⟩ := hW
  have hA : DataW.TrodAll enc Tryd.prog W 0 (fun _ => true) true fn.params.toList args.toList ds p := hA0
  rw [hp] at hA hval hsz
  obtain ⟨v0, vs0, d0, ds0, p0, q0, hargs, rfl, rfl, h0, r0⟩ := trodAll_cons hA
  obtain ⟨rfl, rfl, rfl⟩ := trodAll_nil r0
  obtain rfl : args = #[v0] := by cases args; simp_all
  rw [hvars] at hV
  obtain ⟨rfl, rfl⟩ := trodVars_none hV
  have hlt : ∀ x ∈ p0, x.block < W.heap.size := fun x hx => by have := hW'.lt x (by simpa using hx); simpa using this
  have hw : ∀ x ∈ d0.weights Tryd.prog t, x ≤ reachBytes := fun x hx => by
    have := List.all_eq_true.1 hsz x (DataW.weights_mem_each (j := 0) (by simp) (by simp) x hx)
    simpa using this
  refine (walk v0 d0 p0 (hval 0 t v0 rfl rfl) h0 hlt hw rfl rfl).mono fun e W' ⟨he, hb⟩ => ?_
  subst he
  refine ⟨_, rfl, [d0], [], _, [], p0 ++ [], [], hW', ?_, ?_, ?_, hb.frame _, fun h => by cases h⟩
  · rw [hrt, show ([d0] ++ ([] : List (DataW H))) = [d0] from rfl, hfn]
    exact trodAll_cons_mk (shut_bool Tryd.underlying4 true) trodAll_mk0
  · rw [hp, show ([d0] ++ ([] : List (DataW H))) = [d0] from rfl, hfn]
    exact trodAll_cons_mk (Below.trod laidOut hread hrow h0 hb hlt) trodAll_mk0
  · rw [hvars, show ([d0] ++ ([] : List (DataW H))) = [d0] from rfl, hfn]
    rfl
set_option maxRecDepth 10000 in
/-- The same frame for a law without parameters. -/
theorem law_contract0 {H : Type} {enc : TypeId × Value → H} {f : FuncId} {fn : Func} {s : ChangeSpec} (hp : fn.params = #[]) (hrt : fn.resultTypes = #[4]) (hvars : s.vars = [])
    (hfn : ∀ (K : Type), s.fn K [] = { results := [.lit (.bool true)], args := [] })
    (W : World) (args : Array Value) (ds gs : List (DataW H)) (before : List MemPlace)
    (hW : DataW.Whole enc Tryd.prog fn.params.toList s.vars false W args.toList ds gs before)
    (walk : Calls Tryd.prog f #[] W fun e W' => e = .returned (.bool true) ∧ Below W.heap.size W W') :
    Calls Tryd.prog f args W fun e W' => ∃ v, e = .returned v ∧ s.post enc Tryd.prog fn false true false false W args v W' := by
  have hW' := hW
  obtain ⟨p, q, hA0, hV, rfl, hfz, hnd⟩ := hW
  have hA : DataW.TrodAll enc Tryd.prog W 0 (fun _ => true) true fn.params.toList args.toList ds p := hA0
  rw [hp] at hA
  obtain ⟨hargs, rfl, rfl⟩ := trodAll_nil hA
  obtain rfl : args = #[] := by cases args; simp_all
  rw [hvars] at hV
  obtain ⟨rfl, rfl⟩ := trodVars_none hV
  refine walk.mono fun e W' ⟨he, hb⟩ => ?_
  subst he
  refine ⟨_, rfl, [], [], _, [], [], [], hW', ?_, ?_, ?_, hb.frame _, fun h => by cases h⟩
  · rw [hrt, show (([] : List (DataW H)) ++ []) = [] from rfl, hfn]
    exact trodAll_cons_mk (shut_bool Tryd.underlying4 true) trodAll_mk0
  · rw [hp, show (([] : List (DataW H)) ++ []) = [] from rfl, hfn]
    exact trodAll_mk0
  · rw [hvars, show (([] : List (DataW H)) ++ []) = [] from rfl, hfn]
    rfl
end Go.Proofs.YtlkgghbdgjomkaaDoor
namespace Go.Proofs.YtlkgghbdgjomkaaDoor
open Go.ChangeShapes Go.WideShapes Go.ChangeAt Go.RowKit
theorem star : ("*" ++ "errors.errorString" : String) = "*errors.errorString" := by decide
theorem errRow (u : TypeId) (h : Tryd.prog.typeName? 3 u = some "*errors.errorString") : u = 79 :=
  typeName_ptr_named (nm := "errors.errorString") (by rw [star]; kernel_rfl) (by kernel_rfl) (by decide) u (by rw [star]; exact h)
theorem cellsErr : Tryd.prog.cellsOf 97 = 1 := by kernel_rfl
theorem cellsStr : Tryd.prog.cellsOf 9 = 1 := by kernel_rfl
/-- A listed refusal. -/
def sentRow (x : String × List UInt8) : String × DataW Unit := (x.1, .iface "*errors.errorString" (.ptr (.agg [.lit (.string x.2)])))
set_option maxRecDepth 10000 in
theorem sents_list {W : World} (rest : List (String × DataW Unit)) : ∀ (L : List (String × List UInt8)) (ps : List MemPlace),
    DataW.LaidVars Tryd.prog W (L.map sentRow ++ rest) ps → ps.Nodup →
    (∀ b off, MemPlace.cell b off ∈ ps → (∃ c t, W.heap[b]? = some (.cells c t (0, 0))) ∧ ∀ u v, W.cell? ⟨b, off, none⟩ = some (.iface u v) → Value.okWide Tryd.prog W .any 0 u v) →
    (∀ x ∈ L, ∀ g t, Tryd.prog.globalNamed x.1 = some g → (Tryd.prog.globals[g]?).map (·.type) = some t → t = 33) →
    ∃ xs : List Addr, xs.length = L.length ∧ xs.Nodup ∧ (∀ a ∈ xs, MemPlace.cell a.block a.off ∈ ps ∧ ∃ c t, W.heap[a.block]? = some (.cells c t (0, 0))) ∧
      ∀ i (h : i < L.length) g, Tryd.prog.globalNamed (L[i]).1 = some g → W.cell? ⟨g, 0, none⟩ = some (.iface 79 (.pointer (some (xs.getD i ⟨0, 0, none⟩)))) := by
  intro L
  induction L with
  | nil => intro ps _ _ _ _; exact ⟨[], rfl, List.nodup_nil, (fun a h => by cases h), fun i h => absurd h (Nat.not_lt_zero _)⟩
  | cons x L ih =>
    intro ps hl hnd hrows hty
    obtain ⟨g0, t0, cs0, f0, p0, q0, hg0, ht0, hv0, hd0, hl', rfl⟩ := hl
    obtain rfl := hty x List.mem_cons_self g0 t0 hg0 ht0
    obtain ⟨l0⟩ := cs0
    have ok0 : ∀ u v, l0 = [.iface u v] → Value.okWide Tryd.prog W .any 0 u v := fun u v e => by
      subst e
      exact (hrows g0 0 (by simp [MemPlace.row])).2 u v (by simpa using World.var?_cell hg0 hv0 0)
    obtain ⟨a, s, rfl, _, _, _, rfl⟩ := errorString_of_trod Tryd.underlying33 errRow Tryd.underlying79 Tryd.underlying97 rfl rfl Tryd.underlying9 cellsErr cellsStr hd0 ok0
    have hnd1 := List.nodup_append.1 hnd
    obtain ⟨xs, h1, h2, h3, h4⟩ := ih q0 hl' hnd1.2.1 (fun b off hb => hrows b off (List.mem_append_right _ hb)) (fun y hy => hty y (List.mem_cons_of_mem _ hy))
    have hmem : MemPlace.cell a.block a.off ∈ MemPlace.row ⟨g0, 0, none⟩ (#[Value.iface 79 (.pointer (some a))] : Array Value).size ++ MemPlace.row a 1 := by simp [MemPlace.row]
    refine ⟨a :: xs, by simp [h1], List.nodup_cons.2 ⟨fun hin => ?_, h2⟩, fun b hb => ?_, fun i hi g hg => ?_⟩
    · exact (hnd1.2.2 _ hmem _ (h3 a hin).1) rfl
    · rcases List.mem_cons.1 hb with rfl | hb
      · exact ⟨List.mem_append_left _ hmem, (hrows _ _ (List.mem_append_left _ hmem)).1⟩
      · exact ⟨List.mem_append_right _ (h3 b hb).1, (h3 b hb).2⟩
    · cases i with
      | zero =>
        have e : g = g0 := Option.some.inj (hg.symm.trans hg0)
        subst e
        simpa using World.var?_cell hg0 hv0 0
      | succ i => exact h4 i (by simpa using hi) g hg
/-- The text of a listed refusal. -/
def sentText : DataW Unit → List UInt8
  | .iface _ (.ptr (.agg [.lit (.string s)])) => s
  | _ => []
def sentList : List (String × List UInt8) := [("caesura/api.ErrArg", sentText Rows.laid_caesura_api_ErrArg), ("caesura/api.ErrText", sentText Rows.laid_caesura_api_ErrText), ("caesura/api.ErrMany", sentText Rows.laid_caesura_api_ErrMany), ("caesura/api.ErrShort", sentText Rows.laid_caesura_api_ErrShort), ("caesura/api.ErrTwice", sentText Rows.laid_caesura_api_ErrTwice), ("caesura/api.ErrLost", sentText Rows.laid_caesura_api_ErrLost), ("caesura/api.ErrOrder", sentText Rows.laid_caesura_api_ErrOrder), ("caesura/api.ErrCycle", sentText Rows.laid_caesura_api_ErrCycle), ("caesura/api.ErrSum", sentText Rows.laid_caesura_api_ErrSum), ("caesura/api.ErrForm", sentText Rows.laid_caesura_api_ErrForm), ("caesura/api.ErrEnd", sentText Rows.laid_caesura_api_ErrEnd)]
theorem sentTypes : ∀ x ∈ sentList, ∀ g t, Tryd.prog.globalNamed x.1 = some g → (Tryd.prog.globals[g]?).map (·.type) = some t → t = 33 := by
  have h : (sentList.all fun x => match Tryd.prog.globalNamed x.1 with | some g => (Tryd.prog.globals[g]?).map (·.type) == some 33 | none => true) = true := by kernel_rfl
  intro x hx g t hg ht
  have := List.all_eq_true.1 h x hx
  rw [hg] at this
  simp only [ht] at this
  simpa using this
theorem g_ErrArg : Tryd.prog.globalNamed "caesura/api.ErrArg" = some 1 := by kernel_rfl
theorem g_ErrText : Tryd.prog.globalNamed "caesura/api.ErrText" = some 2 := by kernel_rfl
theorem g_ErrMany : Tryd.prog.globalNamed "caesura/api.ErrMany" = some 0 := by kernel_rfl
theorem g_ErrShort : Tryd.prog.globalNamed "caesura/api.ErrShort" = some 3 := by kernel_rfl
theorem g_ErrTwice : Tryd.prog.globalNamed "caesura/api.ErrTwice" = some 4 := by kernel_rfl
theorem g_ErrLost : Tryd.prog.globalNamed "caesura/api.ErrLost" = some 6 := by kernel_rfl
theorem g_ErrOrder : Tryd.prog.globalNamed "caesura/api.ErrOrder" = some 5 := by kernel_rfl
theorem g_ErrCycle : Tryd.prog.globalNamed "caesura/api.ErrCycle" = some 7 := by kernel_rfl
theorem g_ErrSum : Tryd.prog.globalNamed "caesura/api.ErrSum" = some 8 := by kernel_rfl
theorem g_ErrForm : Tryd.prog.globalNamed "caesura/api.ErrForm" = some 9 := by kernel_rfl
theorem g_ErrEnd : Tryd.prog.globalNamed "caesura/api.ErrEnd" = some 10 := by kernel_rfl
theorem sents_of {W : World} {rest : List (String × DataW Unit)} (h : laidMet Tryd.prog (sentList.map sentRow ++ rest) W) : ∃ A, Sents W A := by
  obtain ⟨ps, hl, hnd, hrows⟩ := h
  obtain ⟨xs, h1, h2, h3, h4⟩ := sents_list rest sentList ps hl hnd hrows sentTypes
  have h11 : xs.length = 11 := h1
  refine ⟨fun i => xs.getD i ⟨0, 0, none⟩, h4 0 (by decide) _ g_ErrArg, h4 1 (by decide) _ g_ErrText, h4 2 (by decide) _ g_ErrMany, h4 3 (by decide) _ g_ErrShort, h4 4 (by decide) _ g_ErrTwice, h4 5 (by decide) _ g_ErrLost, h4 6 (by decide) _ g_ErrOrder, h4 7 (by decide) _ g_ErrCycle, h4 8 (by decide) _ g_ErrSum, h4 9 (by decide) _ g_ErrForm, h4 10 (by decide) _ g_ErrEnd, fun i j hi hj hij e => ?_, fun i hi => ?_⟩
  · have hi' : i < xs.length := by omega
    have hj' : j < xs.length := by omega
    simp only [List.getD_eq_getElem?_getD, List.getElem?_eq_getElem hi', List.getElem?_eq_getElem hj', Option.getD_some] at e
    exact hij ((List.getElem_inj h2).1 e)
  · have hi' : i < xs.length := by omega
    simp only [List.getD_eq_getElem?_getD, List.getElem?_eq_getElem hi', Option.getD_some]
    exact (h3 _ (List.getElem_mem hi')).2
end Go.Proofs.YtlkgghbdgjomkaaDoor
namespace Go.Proofs.YtlkgghbdgjomkaaDoor
open Go.ChangeShapes Go.WideShapes Go.ChangeAt Go.RowKit Go.Joins
theorem cellsInt : Tryd.prog.cellsOf 3 = 1 := by kernel_rfl
theorem cellsInts : Tryd.prog.cellsOf 23 = 1 := by kernel_rfl
theorem cellsRows : Tryd.prog.cellsOf 22 = 1 := by kernel_rfl
theorem cellsPos : Tryd.prog.cellsOf 25 = 5 := by kernel_rfl
theorem cellsPlaced : Tryd.prog.cellsOf 27 = 7 := by kernel_rfl
theorem cellsBool : Tryd.prog.cellsOf 4 = 1 := by kernel_rfl
theorem bytesInt : Tryd.prog.bytesOf 3 = 8 := by kernel_rfl
theorem bytesInts : Tryd.prog.bytesOf 23 = 24 := by kernel_rfl
theorem lt_of_cell {W : World} {b o : Nat} {u : Value} (h : W.cell? ⟨b, o, none⟩ = some u) : b < W.heap.size := World.block_lt_of_cell? W _ h
theorem weights_mem {H : Type} {e : TypeId} {d : DataW H} {y : Nat} : ∀ (l : List (DataW H)), d ∈ l → y ∈ d.weights Tryd.prog e → y ∈ DataW.weightsAll Tryd.prog e l
  | [], h, _ => by cases h
  | x :: r, h, hy => by
    rw [DataW.weightsAll, List.mem_append]
    rcases List.mem_cons.1 h with rfl | h
    · exact .inl hy
    · exact .inr (weights_mem r h hy)
theorem no_spot {W : World} {a : Addr} {u : Value} (h : W.cell? (a.add 0) = some u) : a.spot = none := by
  obtain ⟨b, off, spot⟩ := a
  cases spot with
  | none => rfl
  | some sp =>
    exfalso
    rw [show (⟨b, off, some sp⟩ : Addr).add 0 = ⟨b, off, some sp⟩ from rfl] at h
    unfold World.cell? at h
    split at h <;> simp at h
/-- Numbers that are read. -/
theorem open_points {H : Type} {enc : TypeId × Value → H} {W : World} {n : Nat} {c : Value} {x : DataW H × List MemPlace} (hf : DataW.trod enc Tryd.prog W 0 (fun _ => true) true n 23 [c] = some x) :
    ∃ (a : Option Addr) (ps : List Int) (cap : Nat), c = .slice a ps.length cap ∧ IA W a ps ∧ ((∀ y ∈ x.1.weights Tryd.prog 23, y ≤ reachBytes) → ps.length * 8 ≤ reachBytes) ∧ (a = none → cap = 0) := by
  rcases open_ints Tryd.underlying23 Tryd.underlying3 cellsInt hf with ⟨h1, h2⟩ | ⟨a, len, cap, zs, h1, h2, h3, h4, h5, h6, h7, h8⟩
  · simp only [List.cons.injEq, and_true] at h1
    exact ⟨none, [], 0, h1, ⟨fun k h => absurd h (Nat.not_lt_zero _)⟩, fun _ => by simp, fun _ => rfl⟩
  · simp only [List.cons.injEq, and_true] at h1
    simp only [if_true] at h5
    have hl : (zs.take len).length = len := by rw [List.length_take]; omega
    refine ⟨some a, zs.take len, cap, by rw [hl]; exact h1, ⟨fun k hk' => ?_⟩, ?_, fun e => by cases e⟩
    · rw [hl] at hk'
      have h9 := h7 k (by omega)
      have hs := no_spot (h7 0 (by omega))
      obtain ⟨b, off, spot⟩ := a
      simp only at hs
      subst hs
      rw [Addr.add_lit] at h9
      refine ⟨b, off, rfl, lt_of_cell h9, ?_⟩
      rw [h9]
      congr 2
      rw [List.getElem_take, List.getD_eq_getElem?_getD, List.getElem?_eq_getElem (by omega)]
      rfl
    · intro hy
      rw [h6] at hy
      have h10 := hy (((lits (H := H) .i64 (zs.take len)).length + (lits (H := H) .i64 (zs.drop len)).length) * 8) (by simp [DataW.weights, Tryd.underlying23, bytesInt])
      have h11 : (lits (H := H) .i64 (zs.take len)).length = (zs.take len).length := by simp [lits]
      omega
/-- Lists of numbers that are read. -/
theorem open_rowsI {H : Type} {enc : TypeId × Value → H} {W : World} {n : Nat} {c : Value} {x : DataW H × List MemPlace} (hf : DataW.trod enc Tryd.prog W 0 (fun _ => true) true n 22 [c] = some x) :
    ∃ (a : Option Addr) (L : List (List Int)) (cap : Nat), c = .slice a L.length cap ∧ RwN W a L ∧ ((∀ y ∈ x.1.weights Tryd.prog 22, y ≤ reachBytes) → L.length * 24 ≤ reachBytes ∧ ∀ r ∈ L, r.length * 8 ≤ reachBytes) := by
  rcases Deep.open_int_rows Tryd.underlying22 Tryd.underlying23 Tryd.underlying3 cellsInts cellsInt hf with ⟨h1, h2⟩ | ⟨a, len, cap, A, Ln, C, Z, h1, _, h3, _, h5, h6⟩
  · simp only [List.cons.injEq, and_true] at h1
    exact ⟨none, [], 0, h1, ⟨fun k h => absurd h (Nat.not_lt_zero _)⟩, fun _ => ⟨by simp, fun r hr => by cases hr⟩⟩
  · simp only [List.cons.injEq, and_true] at h1
    have hrl : ∀ r, r < len → ((Z r).take (Ln r)).length = Ln r := fun r hr => by
      obtain ⟨_, q1, _, q2, _⟩ := h6 r (by omega)
      rw [List.length_take]
      omega
    refine ⟨some a, (List.range len).map fun r => (Z r).take (Ln r), cap, by simpa using h1, ⟨fun k hk => ?_⟩, fun hy => ?_⟩
    · have hk' : k < len := by simpa using hk
      have hs := no_spot (h6 0 (by omega)).1
      obtain ⟨q0, q1, q2, q3, q4, q5, q6⟩ := h6 k (by omega)
      have hz := hrl k hk'
      obtain ⟨b, off, spot⟩ := a
      simp only at hs
      subst hs
      rw [Addr.add_lit] at q0
      have eg : ((List.range len).map fun r => (Z r).take (Ln r))[k] = (Z k).take (Ln k) := by simp
      refine ⟨b, off, rfl, lt_of_cell q0, A k, C k, ?_, ⟨fun j hj => ?_⟩, q5⟩
      · rw [eg, hz]; exact q0
      · have hj' : j < Ln k := by rw [eg, hz] at hj; exact hj
        cases e : A k with
        | none => have := q5 e; omega
        | some a' =>
          obtain ⟨_, q7⟩ := q6 a' e
          have hs := no_spot (q7 0 (by omega))
          have h9 := q7 j (by omega)
          obtain ⟨b', off', spot'⟩ := a'
          simp only at hs
          subst hs
          rw [Addr.add_lit] at h9
          refine ⟨b', off', rfl, lt_of_cell h9, ?_⟩
          rw [h9]
          congr 2
          simp only [eg]
          rw [List.getElem_take, List.getD_eq_getElem?_getD, List.getElem?_eq_getElem (by omega)]
          rfl
    · rw [h5] at hy
      simp only [DataW.weights, Tryd.underlying22, bytesInts, List.length_map, List.length_range, List.mem_cons, List.mem_append] at hy
      refine ⟨?_, fun r hr => ?_⟩
      · have h9 := hy _ (.inl rfl)
        rw [List.length_map, List.length_range]
        omega
      · obtain ⟨i, hi, rfl⟩ := List.mem_map.1 hr
        have hi' := List.mem_range.1 hi
        have hz := hrl i hi'
        obtain ⟨_, q1, _, q2, _, q5, _⟩ := h6 i (by omega)
        cases e : A i with
        | none =>
          have := q5 e
          have h0 : Ln i = 0 := by omega
          rw [hz, h0]
          simp
        | some a' =>
          have h9 := hy (((lits (H := H) .i64 ((Z i).take (Ln i))).length + (lits (H := H) .i64 ((Z i).drop (Ln i))).length) * 8) (.inr (.inl (weights_mem _ (List.mem_map_of_mem (f := fun r => Deep.intRow (H := H) .i64 (A r) (Ln r) (Z r)) hi) (by simp [e, Deep.intRow, DataW.weights, Tryd.underlying23, bytesInt]))))
          have h11 : (lits (H := H) .i64 ((Z i).take (Ln i))).length = ((Z i).take (Ln i)).length := by simp [lits]
          omega
/-- What is asked, read. -/
theorem open_placed {H : Type} {enc : TypeId × Value → H} {W : World} {base : Nat} {v : Value} {d : DataW H} {p : List MemPlace} (hv : Value.okWide Tryd.prog W .any base 27 v)
    (h0 : DataW.Trod enc Tryd.prog W 0 (fun _ => true) true 27 v d p) :
    ∃ (sy : Int) (em : Bool) (Le Fo : List (List Int)) (Fi La Wd : List Int) (aL aF aA aO aW : Option Addr) (cL cF cA cO cW : Nat), v = .agg #[.slice aL Le.length cL, .slice aF Fi.length cF, .slice aA La.length cA, .slice aO Fo.length cO, .bool em, .int .i64 sy, .slice aW Wd.length cW] ∧ RwN W aL Le ∧ IA W aF Fi ∧ IA W aA La ∧ RwN W aO Fo ∧ IA W aW Wd ∧
      ((∀ y ∈ d.weights Tryd.prog 27, y ≤ reachBytes) → (Le.length * 24 ≤ reachBytes ∧ ∀ r ∈ Le, r.length * 8 ≤ reachBytes) ∧ (Fo.length * 24 ≤ reachBytes ∧ ∀ r ∈ Fo, r.length * 8 ≤ reachBytes) ∧ Fi.length * 8 ≤ reachBytes ∧ La.length * 8 ≤ reachBytes) := by
  obtain ⟨fuel, hf⟩ := h0
  have hcs : ∃ cs, v = .agg cs := by
    simp only [Value.okWide, Tryd.underlying27] at hv
    obtain ⟨cs, h1, _⟩ := hv
    exact ⟨cs, h1⟩
  obtain ⟨cs, rfl⟩ := hcs
  obtain ⟨xs, n, _, hx, hlen, hxl, hfs⟩ := DataW.trod_struct Tryd.underlying27 hf
  rw [cellsPlaced] at hlen
  obtain ⟨l⟩ := cs
  match l, hlen with
  | [c0, c1, c2, c3, c4, c5, c6], _ =>
    obtain ⟨y0, y1, y2, rfl⟩ : ∃ y0 y1 y2, xs = [y0, y1, y2] := by
      match xs, hxl with
      | [y0, y1, y2], _ => exact ⟨y0, y1, y2, rfl⟩
    have f0 := hfs 0 _ rfl
    have f1 := hfs 1 _ rfl
    have f2 := hfs 2 _ rfl
    have g0 : DataW.trod enc Tryd.prog W 0 (fun _ => true) true n 25 [c0, c1, c2, c3, c4] = some y0 := by simpa [Value.cells, cellsPos] using f0
    have g1 : DataW.trod enc Tryd.prog W 0 (fun _ => true) true n 3 [c5] = some y1 := by simpa [Value.cells, cellsPos, cellsInt] using f1
    have g2 : DataW.trod enc Tryd.prog W 0 (fun _ => true) true n 23 [c6] = some y2 := by simpa [Value.cells, cellsPos, cellsInt, cellsInts] using f2
    obtain ⟨zs, n2, _, hx2, _, hzl, hgs⟩ := DataW.trod_struct Tryd.underlying25 g0
    obtain ⟨z0, z1, z2, z3, z4, rfl⟩ : ∃ z0 z1 z2 z3 z4, zs = [z0, z1, z2, z3, z4] := by
      match zs, hzl with
      | [z0, z1, z2, z3, z4], _ => exact ⟨z0, z1, z2, z3, z4, rfl⟩
    have e0 := hgs 0 _ rfl
    have e1 := hgs 1 _ rfl
    have e2 := hgs 2 _ rfl
    have e3 := hgs 3 _ rfl
    have e4 := hgs 4 _ rfl
    have k0 : DataW.trod enc Tryd.prog W 0 (fun _ => true) true n2 22 [c0] = some z0 := by simpa [cellsRows] using e0
    have k1 : DataW.trod enc Tryd.prog W 0 (fun _ => true) true n2 23 [c1] = some z1 := by simpa [cellsRows, cellsInts] using e1
    have k2 : DataW.trod enc Tryd.prog W 0 (fun _ => true) true n2 23 [c2] = some z2 := by simpa [cellsRows, cellsInts] using e2
    have k3 : DataW.trod enc Tryd.prog W 0 (fun _ => true) true n2 22 [c3] = some z3 := by simpa [cellsRows, cellsInts] using e3
    have k4 : DataW.trod enc Tryd.prog W 0 (fun _ => true) true n2 4 [c4] = some z4 := by simpa [cellsRows, cellsInts, cellsBool] using e4
    obtain ⟨sy, q1, _, _⟩ := DataW.trod_int Tryd.underlying3 g1
    obtain ⟨em, q2, _⟩ := DataW.trod_bool Tryd.underlying4 k4
    simp only [List.cons.injEq, and_true] at q1 q2
    subst q1 q2
    obtain ⟨aL, Le, cL, rfl, rL, bL⟩ := open_rowsI k0
    obtain ⟨aF, Fi, cF, rfl, iF, bF, _⟩ := open_points k1
    obtain ⟨aA, La, cA, rfl, iA, bA, _⟩ := open_points k2
    obtain ⟨aO, Fo, cO, rfl, rO, bO⟩ := open_rowsI k3
    obtain ⟨aW, Wd, cW, rfl, iW, _, _⟩ := open_points g2
    refine ⟨sy, em, Le, Fo, Fi, La, Wd, aL, aF, aA, aO, aW, cL, cF, cA, cO, cW, rfl, rL, iF, iA, rO, iW, fun hy => ?_⟩
    have ex := congrArg Prod.fst hx
    have ex2 := congrArg Prod.fst hx2
    simp only at ex ex2
    rw [ex] at hy
    simp only [DataW.weights, Tryd.underlying27, List.map_cons, List.map_nil, DataW.weightsEach, List.append_nil, List.mem_append] at hy
    have hy0 : ∀ y ∈ y0.1.weights Tryd.prog 25, y ≤ reachBytes := fun y h => hy y (.inl h)
    rw [ex2] at hy0
    simp only [DataW.weights, Tryd.underlying25, List.map_cons, List.map_nil, DataW.weightsEach, List.append_nil, List.mem_append] at hy0
    exact ⟨bL (fun y h => hy0 y (.inl h)), bO (fun y h => hy0 y (.inr (.inr (.inr (.inl h))))), bF (fun y h => hy0 y (.inr (.inl h))), bA (fun y h => hy0 y (.inr (.inr (.inl h))))⟩
theorem laid_tail {W : World} {x : String × DataW Unit} {rest : List (String × DataW Unit)} (h : laidMet Tryd.prog (x :: rest) W) : laidMet Tryd.prog rest W := by
  obtain ⟨ps, ⟨g, t, cs, fuel, p, q, _, _, _, _, hl, rfl⟩, hnd, hrows⟩ := h
  exact ⟨q, hl, (List.nodup_append.1 hnd).2.1, fun b off hb => hrows b off (List.mem_append_right _ hb)⟩
theorem g_tab : Tryd.prog.globalNamed "math/bits.deBruijn64tab" = some 11 := by kernel_rfl
theorem g_tabType : (Tryd.prog.globals[11]?).map (·.type) = some 77 := by kernel_rfl
theorem cellsTab64 : Tryd.prog.cellsOf 77 = 64 := by kernel_rfl
theorem cellsU8 : Tryd.prog.cellsOf 5 = 1 := by kernel_rfl
theorem tab_of {W : World} {rest : List (String × DataW Unit)} (h : laidMet Tryd.prog (("math/bits.deBruijn64tab", Rows.laid_math_bits_deBruijn64tab) :: rest) W) : TabAt 11 Lib.deBruijn64tab W ∧ 11 < W.heap.size := by
  have ht : Lib.TabIs Tryd.prog W "math/bits.deBruijn64tab" .u8 (Lib.deBruijn64tab.map Int.ofNat) :=
    Lib.tabIs_of_head (rest := rest) g_tab g_tabType Tryd.underlying77 Tryd.underlying5 cellsU8 cellsTab64 h
  have hc : TabAt 11 Lib.deBruijn64tab W := fun j hj => by
    have h1 := ht.cell g_tab j (by rw [List.length_map]; exact hj)
    rw [h1, List.getD_eq_getElem?_getD, List.getD_eq_getElem?_getD, List.getElem?_map, List.getElem?_eq_getElem hj]
    rfl
  exact ⟨hc, lt_of_cell (hc 0 (by decide))⟩
def sentTwo : List (String × List UInt8) := [("caesura/api.ErrArg", sentText Rows.laid_caesura_api_ErrArg), ("caesura/api.ErrMany", sentText Rows.laid_caesura_api_ErrMany)]
theorem sentTwoTypes : ∀ x ∈ sentTwo, ∀ g t, Tryd.prog.globalNamed x.1 = some g → (Tryd.prog.globals[g]?).map (·.type) = some t → t = 33 := by
  have h : (sentTwo.all fun x => match Tryd.prog.globalNamed x.1 with | some g => (Tryd.prog.globals[g]?).map (·.type) == some 33 | none => true) = true := by kernel_rfl
  intro x hx g t hg ht
  have := List.all_eq_true.1 h x hx
  rw [hg] at this
  simp only [ht] at this
  simpa using this
theorem sents_two {W : World} {rest : List (String × DataW Unit)} (h : laidMet Tryd.prog (sentTwo.map sentRow ++ rest) W) : ∃ A, Sen2 W A := by
  obtain ⟨ps, hl, hnd, hrows⟩ := h
  obtain ⟨xs, _, _, _, h4⟩ := sents_list rest sentTwo ps hl hnd hrows sentTwoTypes
  exact ⟨fun i => match i with | 0 => xs.getD 0 ⟨0, 0, none⟩ | _ + 1 => xs.getD 1 ⟨0, 0, none⟩, h4 0 (by decide) _ g_ErrArg, h4 1 (by decide) _ g_ErrMany⟩
set_option maxRecDepth 100000 in
theorem placesTurn_walk {H : Type} (enc : TypeId × Value → H) (W : World) (base : Nat) (hL : laidMetH Tryd.prog Rows.placesTurnRow.laid W) (v : Value) (d : DataW H) (p : List MemPlace) (hv : Value.okWide Tryd.prog W .any base 27 v)
    (h0 : DataW.Trod enc Tryd.prog W 0 (fun _ => true) true 27 v d p) (_hlt : ∀ x ∈ p, x.block < W.heap.size) (hw : ∀ x ∈ d.weights Tryd.prog 27, x ≤ reachBytes) :
    Calls Tryd.prog 3 #[v] W fun e W' => e = .returned (.bool true) ∧ Below W.heap.size W W' := by
  obtain ⟨sy, em, Le, Fo, Fi, La, Wd, aL, aF, aA, aO, aW, cL, cF, cA, cO, cW, rfl, rL, iF, iA, rO, iW, hb⟩ := open_placed hv h0
  obtain ⟨A, hA⟩ := sents_two (rest := []) (laid_tail hL)
  obtain ⟨t1, t2⟩ := tab_of hL
  obtain ⟨⟨b1, b4⟩, ⟨b2, b5⟩, b3, b6⟩ := hb hw
  unfold reachBytes at b1 b2 b3 b4 b5 b6
  exact placesTurn_any A sy aL aF aA aO aW cL cF cA cO cW Le Fo Fi La Wd em W rL.rwa iF iA rO.rwa (by omega) (by omega) (by omega) (by omega) (fun r hr => by have := b4 r hr; omega) (fun r hr => by have := b5 r hr; omega) iW ⟨hA, t1, t2⟩
set_option maxRecDepth 100000 in
theorem placesTurn_lifted (os : Os) (started : os.Started) (H : Type) (enc : TypeId × Value → H) (F : Stop.Interp) :
    ReturnsInHanded {} Tryd.checked os 3 .any ((OpenSpec.ofChange Rows.placesTurnSpec).preRow enc Tryd.prog Tryd.f3 Rows.placesTurnRow.domain false Rows.placesTurnRow.laid) (((OpenSpec.ofChange Rows.placesTurnSpec).at F).post enc Tryd.prog Tryd.f3 false true false false) := by
  refine returnsInHanded_of_row (C := Tryd.checked) (s := OpenSpec.ofChange Rows.placesTurnSpec) own started (by kernel_rfl) Tryd.func3
    (witness_row_shaped (enc := enc) (C := Tryd.checked) (World.laidAll Tryd.prog os Rows.placesTurnRow.laid) #[.agg #[.slice none 0 0, .slice none 0 0, .slice none 0 0, .slice none 0 0, .bool false, .int .i64 0, .slice none 0 0]] (World.laidAll_os _ _ _) (World.shaped_of_ZipB (by kernel_rfl) (by kernel_rfl)) (by kernel_rfl)
      (OpenSpec.preRow_of_cond 8 (x := ([.agg [.agg [.nil, .nil, .nil, .nil, .lit (.bool false)], .lit (.int .i64 0), .nil]], [], [])) (by kernel_rfl) (by kernel_rfl) (fun k hk => by cases hk) (by kernel_rfl) (laidMet_laidAll _ (by kernel_rfl) (by kernel_rfl)))) ?_
  intro W base args ds gs before hval hW _ _ hsz hL _ _
  exact law_contract rfl rfl rfl (fun _ _ => rfl) (by kernel_rfl) (of_decide_eq_true (by kernel_rfl)) W base args ds gs before hval hW hsz (fun v d p hv h0 hlt hw _ _ => placesTurn_walk enc W base hL v d p hv h0 hlt hw )
theorem placesTurn_said : Rows.PlacesTurnSaid :=
  OpenClaim.holds_of_cond 3 Tryd.f3 rfl rfl rfl rfl rfl rfl rfl ⟨rfl, rfl, rfl, rfl, rfl⟩ rfl rfl rfl rfl rfl (by kernel_rfl) Tryd.func3 (by kernel_rfl)
    (of_decide_eq_true (by kernel_rfl)) (by unfold Func.isWrapper; first | (rw [if_pos (by decide +kernel)]; kernel_rfl) | (rw [if_neg (by decide +kernel)]; exact ⟨rfl, rfl⟩))
    (fun os started H enc _ F => by rw [OpenClaim.pre_eq_preRow]; exact placesTurn_lifted os started H enc F)
theorem placesTurn_plain (f : FuncId) (fn : Func) (hf : Tryd.pinned.checked.prog.funcNamed "caesura/caesuralaw11.PlacesTurn" = some f) (hfn : Tryd.pinned.checked.prog.funcs[f]? = some fn) :
    true = Tryd.pinned.checked.prog.looks [] ∧ ∀ (j : Nat) t, fn.params[j]? = some t → Tryd.pinned.checked.prog.wantsStandIn t = false := by
  obtain rfl : f = 3 := Option.some.inj ((show Tryd.prog.funcNamed "caesura/caesuralaw11.PlacesTurn" = some 3 by kernel_rfl).symm.trans hf) |>.symm
  obtain rfl : fn = Tryd.f3 := (Option.some.inj (Tryd.func3.symm.trans hfn)).symm
  refine ⟨by kernel_rfl, fun j t ht => ?_⟩
  rw [Tryd.params3] at ht
  obtain rfl : t = 27 := by simpa using Array.mem_of_getElem? ht
  exact (show Tryd.prog.wantsStandIn 27 = false by kernel_rfl)
theorem placesTurn_card : Rows.PlacesTurnCardSaid :=
  Claim7.holds_tied_plain_at .later [] _ _ _ _ placesTurn_said (fun _ h => by cases h) (by kernel_rfl) (fun _ h => by cases h) placesTurn_row_tie rfl ⟨rfl, rfl⟩ (by kernel_rfl) rfl placesTurn_plain (by kernel_rfl)
end Go.Proofs.YtlkgghbdgjomkaaDoor
