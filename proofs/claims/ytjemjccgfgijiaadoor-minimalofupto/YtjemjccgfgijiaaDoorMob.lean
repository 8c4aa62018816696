/-
  MlBW, MlCW, MlDW, MlEM.
-/
import Derived.Test.YtjemjccgfgijiaaDoorMoa
import Derived.Test.YtjemjccgfgijiaaDoorMhb
namespace Go.Proofs.YtjemjccgfgijiaaDoor
open Go.RowKit Go.Shelf
/-- A list spread behind none, as one step of a region that draws its order. -/
theorem step_spreadI {ops : Array Oper} {o : Oper} {a : Act} {w : World} {K : Act → World → Prop} {Q : Exit → Act → World → Prop} {E : Prop} (hg : o.guard = none) (s x : Operand) (ho : o.op = .call { callee := .builtin .append, args := #[s, x], argTypes := #[25, 25] })
    (aN : Option Addr) (L : List Int) (cN base : Nat) (hs : a.eval s = .slice none 0 0) (hx : a.eval x = .slice aN L.length cN) (hnil : aN = none → cN = 0) (ha : IA w aN L) (hl : L.length ≤ 17592186044416) (hb : base ≤ w.heap.size)
    (h : ∀ v' w', OwnI w' base v' L → w.grownBy w' none → K (a.put o.dst v') w') : if Region.wanted o (yielded ops a.tmps) = true then Oper.wp Tryd.prog o a w K Q else E := by
  have hw : Region.wanted o (yielded ops a.tmps) = true := by simp [Region.wanted, hg]
  rw [if_pos hw]
  obtain ⟨i0, hi, hz0, hz1, hz2⟩ := info_parts infoInt
  cases aN with
  | none =>
    have hL : L = [] := by
      cases L with
      | nil => rfl
      | cons y r => obtain ⟨b, off, e, _⟩ := ha.at' 0 (by simp); cases e
    subst hL
    have hc := hnil rfl
    subst hc
    have hr := app_nilI w o.type
    unfold Oper.wp execOp
    simp only [ho, resolve, invoke, builtin, Sem.run_bind, Sem.run_pure, Result.andThen_ok, List.map_toArray, List.map_cons, List.map_nil, hs, hx, List.length_nil, hr]
    exact h _ _ (World.ownsRow_nil _ _ _ _) ⟨rfl, rfl, rfl, Nat.le_refl _, fun _ _ _ => rfl⟩
  | some ad =>
    have hnews : ∀ j u, (L.map (Value.int .i64))[j]? = some u → w.cell? (ad.add j) = some u := fun j u hu => by
      have hj : j < L.length := by have := (List.getElem?_eq_some_iff.1 hu).1; simpa using this
      obtain ⟨b, off, e, h1, h2⟩ := ha.at' j hj
      cases e
      rw [Addr.add_mid, h2]
      have : (L.map (Value.int .i64))[j]? = some (.int .i64 L[j]) := by simp [hj]
      rw [this] at hu
      exact hu
    obtain ⟨v', w', hr, h2, h3, _, _⟩ := run_append_own_at (P := Tryd.prog) w base 25 o.type 3 i0 (.int .i64 0) 1 8 Tryd.underlying25 hi hz0 hz1 hz2 rfl (by decide) (.slice none 0 0) 0 [] (World.ownsRow_nil _ _ _ _) ad L.length cN (L.map (Value.int .i64)) (by simp) hnews (fun u hu => by obtain ⟨y, _, rfl⟩ := List.mem_map.1 hu; rfl) (by unfold maxLen; omega) (by omega) hb
    unfold Oper.wp execOp
    simp only [ho, resolve, invoke, builtin, Sem.run_bind, Sem.run_pure, Result.andThen_ok, List.map_toArray, List.map_cons, List.map_nil, hs, hx, hr]
    exact h v' w' (by rw [Nat.zero_add, List.nil_append] at h2; exact h2) h3
/-- A row's first c numbers. -/
def rnR (m : Nat) (F : Nat → Nat) (i c : Nat) : List Nat := (List.range c).map fun d => F (i * m + d)
theorem rnR_succ (m : Nat) (F : Nat → Nat) (i c : Nat) : rnR m F i (c + 1) = rnR m F i c ++ [F (i * m + c)] := by
  unfold rnR
  rw [List.range_succ, List.map_append]
  rfl
theorem rnR_len (m : Nat) (F : Nat → Nat) (i c : Nat) : (natI (rnR m F i c)).length = c := by rw [natI_len]; unfold rnR; simp
theorem rnN_take {n m : Nat} {F : Nat → Nat} {k : Nat} (h : k < n) : (rnN n m F).take (k + 1) = (rnN n m F).take k ++ [natI (rnR m F k m)] := by
  have hl := (rn_len n m F [] (fun x => x)).1
  rw [List.take_succ_eq_append_getElem (by omega)]
  congr 2
  unfold rnN
  rw [List.getElem_map, List.getElem_range]
  unfold natI rnR
  rw [List.map_map]
  rfl
theorem rnO_take {n : Nat} {O : List (List Int)} {g : Nat → Nat} {k : Nat} (h : k < n) : (rnO n O g).take (k + 1) = (rnO n O g).take k ++ [outF O (g k)] := by
  have hl := (rn_len n 0 (fun x => x) O g).2
  rw [List.take_succ_eq_append_getElem (by omega)]
  congr 2
  unfold rnO
  rw [List.getElem_map, List.getElem_range]
/-- The number of a successor. -/
theorem BfI.num {m st : Nat} {N : List (List Int)} {L FN : List Nat} (h : BfI m st N L FN L.length 0) {i c : Nat} (hi : i < L.length) (hc : c < m) : nxF N (Lg1 L i) c ∈ L ∧ L.idxOf (nxF N (Lg1 L i) c) = Fl FN (i * m + c) := by
  have hw := h.done rfl
  have h1 := hw.fl i c hi hc
  have h2 := hw.fs i c hi hc
  rw [← h2]
  refine ⟨Lg1_mem h1, ?_⟩
  have e : Lg1 L (Fl FN (i * m + c)) = L[Fl FN (i * m + c)] := by unfold Lg1; rw [List.getD_eq_getElem?_getD, List.getElem?_eq_getElem h1]; rfl
  rw [e]
  exact h.nd.idxOf_getElem _ h1
/-- What renamed answers. -/
def RenR (w w' : World) (m s0 : Nat) (N O : List (List Int)) (e : Ending) : Prop := ∃ (L FN : List Nat) (aD aE : Option Addr) (cD cE : Nat), e = .returned (.agg #[.int .i64 0, .slice aD L.length cD, .slice aE L.length cE]) ∧ DbB w.heap.size w' (.slice aD L.length cD) (.slice aE L.length cE) (rnN L.length m (Fl FN)) (rnO L.length O (Lg1 L)) ∧ BfI m s0 N L FN L.length 0 ∧ Below w.heap.size w w'
set_option maxRecDepth 10000 in
set_option maxHeartbeats 3200000 in
theorem renamed_any (s0 m : Nat) (N O : List (List Int)) (aN aO : Option Addr) (cN cO : Nat) (w : World) (hm : May (s0 : Int) N O m) (hnb : N.length ≤ 2200000) (hmb : m ≤ 2200000) (hOr : ∀ r ∈ O, r.length ≤ 2200000) (rN : RwA w aN N) (rO : RwN w aO O) :
    Calls Tryd.prog 41 #[.agg #[.int .i64 (s0 : Int), .slice aN N.length cN, .slice aO O.length cO], .int .i64 (m : Int)] w fun e w' => RenR w w' m s0 N O e := by
  obtain ⟨j0, hj, hy0, hy1, hy2⟩ := info_parts infoInt
  obtain ⟨i0, hi, hz0, hz1, hz2⟩ := info_parts infoInts
  obtain ⟨w0, hw0⟩ : ∃ w0, w0 = w.alloc (.cells #[.int .i64 (s0 : Int), .slice aN N.length cN, .slice aO O.length cO] 24) := ⟨_, rfl⟩
  obtain ⟨w1, hw1⟩ : ∃ w1, w1 = w0.alloc (.cells #[.int .i64 0, .slice none 0 0, .slice none 0 0] 24) := ⟨_, rfl⟩
  have hB0 : Below w.heap.size w w0 := by rw [hw0]; exact below_alloc _ _
  have hB1 : Below w0.heap.size w0 w1 := by rw [hw1]; exact below_alloc _ _
  have hX0 : MBox w1 w.heap.size (s0 : Int) (.slice aN N.length cN) (.slice aO O.length cO) := by
    have h : MBox w0 w.heap.size (s0 : Int) (.slice aN N.length cN) (.slice aO O.length cO) := by rw [hw0]; exact MBox.new _ _ _ _
    exact h.past hB1
  have hR1 : w1.heap[w0.heap.size]? = some (.cells #[.int .i64 0, .slice none 0 0, .slice none 0 0] 24 (0, 0)) := by rw [hw1]; exact heap_alloc_new _ _
  have HAl : Hid (∀ V : World, Below w1.heap.size w1 V → RwA V aN N ∧ RwN V aO O ∧ (V.cell? ⟨w.heap.size, 0, none⟩ = some (.int .i64 (s0 : Int)) ∧ V.cell? ⟨w.heap.size, 1, none⟩ = some (.slice aN N.length cN) ∧ V.cell? ⟨w.heap.size, 2, none⟩ = some (.slice aO O.length cO)) ∧ V.heap[w0.heap.size]? = some (.cells #[.int .i64 0, .slice none 0 0, .slice none 0 0] 24 (0, 0)) ∧ Below w.heap.size w V) := hid0 (fun V hV => by
    have h := Below.later (Below.later hB0 hB1) hV
    exact ⟨rN.past h, rO.past h, (hX0.past hV).c, (hV.block _ (Array.getElem?_eq_some_iff.1 hR1).1).trans hR1, h⟩)
  have HMt := hid0 (met_any s0 m N O aN aO cN O.length cO w1 hm hnb hmb (HAl.out w1 (below_refl0 w1)).1)
  have HM := hid0 hm
  have HLo := hid0 hB0.size
  have HLo1 : Hid (w.heap.size ≤ w1.heap.size) := hid0 (Nat.le_trans hB0.size hB1.size)
  have HOr := hid0 hOr
  obtain ⟨x0, x1, x2⟩ := (HAl.out w1 (below_refl0 w1)).2.2.1
  have q0 := hw0.symm
  have q1 := hw1.symm
  clear hw0 hw1 hB0 hB1 hX0 hR1 rN rO hm hOr
  go_enter Tryd.func41, Tryd.ntmps41
  go_upto_region 2 with (go_at_call 62; go_loud ((refine HMt.out.mono ?_; rintro e w2 ⟨L, FN, aL, aB, cL, cB, rfl, hL2, hN2, hBf2, hB2⟩; have HL2 := hid0 hL2; have HN2 := hid0 hN2; have HBf := hid0 hBf2; have HB2 := hid0 hB2; clear hL2 hN2 hBf2 hB2)))
  clear q0 q1 x0 x1 x2 HMt
  have hLn : L.length ≤ N.length := nodup_le _ _ HBf.out.nd HBf.out.lt
  have hLp := HBf.out.h0.2
  obtain ⟨w3, hw3⟩ : ∃ w3, w3 = w2.alloc (.cells #[.int .i64 0, .slice none 0 0, .slice none 0 0] 24) := ⟨_, rfl⟩
  have hB3 : Below w2.heap.size w2 w3 := by rw [hw3]; exact below_alloc _ _
  have HMk3 : Hid (MkM w3 w1.heap.size w2.heap.size 0 (.slice none 0 0) (.slice none 0 0) [] []) := hid0 (mkM_new (by rw [hw3]; exact heap_alloc_new _ _) HB2.out.size)
  have HL3 : Hid (OwnI w3 w1.heap.size (.slice aL L.length cL) (natI L)) := hid0 (HL2.out.past hB3)
  have HN3 : Hid (OwnI w3 w1.heap.size (.slice aB N.length cB) (nbI N.length L)) := hid0 (HN2.out.past hB3)
  have HB3 := hid0 (Below.later HB2.out hB3)
  clear hB3
  go_wp2
  try rw [← hw3]
  clear hw3 HL2 HN2 HB2
  go_loopw [8] (fun i wr => ∃ (p : Nat) (vN vO : Value) (pN pO : Lot), p ≤ L.length ∧ i = .int .i64 (p : Int) ∧ Hid (MkM wr w1.heap.size w2.heap.size 0 vN vO pN pO) ∧ Hid (pN.map (·.2) = (rnN L.length m (Fl FN)).take p ∧ pO.map (·.2) = (rnO L.length O (Lg1 L)).take p) ∧ Hid (OwnI wr w1.heap.size (.slice aL L.length cL) (natI L)) ∧ Hid (OwnI wr w1.heap.size (.slice aB N.length cB) (nbI N.length L)) ∧ Hid (Below w1.heap.size w1 wr)) (fun i _ => L.length - (intOf i).toNat)
  case atStart => exact ⟨0, _, _, [], [], Nat.zero_le _, rfl, HMk3, hid0 ⟨rfl, rfl⟩, HL3, HN3, HB3⟩
  case round =>
    clear HMk3 HL3 HN3 HB3
    obtain ⟨p, vN, vO, pN, pO, hp, rfl, HMk, HTk, HL, HNb, HBr⟩ := hrel
    obtain ⟨wi, hwi⟩ : ∃ wi, wi = wr := ⟨_, rfl⟩
    subst hwi
    have hbi := HBr.out.size
    by_cases hplt : p < L.length
    · have hpI : (p : Int) < (L.length : Int) := by omega
      have hpI0 : (0 : Int) ≤ (p : Int) := by omega
      have hsl : Lg1 L p < N.length := HBf.out.lt _ (Lg1_mem hplt)
      obtain ⟨gl, cl2, el, _, _, _⟩ := own_form HL.out (by rw [natI_len]; omega)
      rw [natI_len] at el
      injection el with ea _ ec
      subst ea
      subst ec
      obtain ⟨gn, cn2, en, _, _, _⟩ := own_form HNb.out (by rw [nbI_len]; omega)
      rw [nbI_len] at en
      injection en with eb _ ed
      subst eb
      subst ed
      have HCl : Hid (∀ V : World, Below wi.heap.size wi V → V.cell? ⟨gl, p, none⟩ = some (.int .i64 ((Lg1 L p : Nat) : Int)) ∧ ∀ y, y ∈ L → y < N.length → V.cell? ⟨gn, y, none⟩ = some (.int .i64 ((L.idxOf y : Nat) : Int))) := hid0 (fun V hV => by
        have h1 := HL.out.past hV
        have h2 := HNb.out.past hV
        unfold OwnI at h1 h2
        rw [natI_len] at h1
        rw [nbI_len] at h2
        refine ⟨?_, fun y hy hyn => ?_⟩
        · rw [World.ownsRow.cellAt h1 p (by omega), List.getElem?_map, List.getElem?_eq_getElem (by rw [natI_len]; omega), natI_at L p hplt]
          rfl
        · rw [World.ownsRow.cellAt h2 y (by omega), List.getElem?_map, nbI_at _ hyn, if_pos hy]
          rfl)
      go_wp2
      go_loopw [9, 11] (fun v j wr => ∃ c : Nat, c ≤ m ∧ j = .int .i64 (c : Int) ∧ Hid (OwnI wr wi.heap.size v (natI (rnR m (Fl FN) p c))) ∧ Hid (Below wi.heap.size wi wr)) (fun _ j _ => m - (intOf j).toNat)
      case atStart => exact ⟨0, Nat.zero_le _, rfl, hid0 (World.ownsRow_nil _ _ _ _), hid0 (Below.refl _ _)⟩
      case round =>
        obtain ⟨c, hcm, rfl, HRo, HBc⟩ := hrel
        have hbc := HBc.out.size
        have HB1c := hid0 (Below.later HBr.out HBc.out)
        obtain ⟨x0, x1, x2⟩ := (HAl.out wr HB1c.out).2.2.1
        obtain ⟨dl, hnum⟩ := HCl.out wr HBc.out
        by_cases hclt : c < m
        · have hcI : (c : Int) < (m : Int) := by omega
          have hcI0 : (0 : Int) ≤ (c : Int) := by omega
          have hsI2 : ((Lg1 L p : Nat) : Int) < (N.length : Int) := by omega
          have hsI3 : (0 : Int) ≤ ((Lg1 L p : Nat) : Int) := by omega
          obtain ⟨b1, o1, rfl, a1, c1, d1, i1⟩ := rwa_at (HAl.out wr HB1c.out).1 hsl
          have hnx := HM.out.next hsl hclt
          have hnl : (outF N (Lg1 L p)).length = m := hnx.2.2
          have hpl : c < (outF N (Lg1 L p)).length := by rw [hnl]; exact hclt
          obtain ⟨b4, o4, rfl, _, d4⟩ := i1.at' _ hpl
          have d4' : wr.cell? ⟨b4, o4 + c, none⟩ = some (.int .i64 ((nxF N (Lg1 L p) c : Nat) : Int)) := by
            rw [d4]
            have e : (outF N (Lg1 L p))[c] = (outF N (Lg1 L p)).getD c 0 := by rw [List.getD_eq_getElem?_getD, List.getElem?_eq_getElem hpl]; rfl
            rw [e]
            have := hnx.2.1
            unfold outF
            rw [this]
          have hyl := hnx.1
          obtain ⟨hym, hyi⟩ := HBf.out.num hplt hclt
          have hat := hnum _ hym hyl
          rw [hyi] at hat
          have hyI : ((nxF N (Lg1 L p) c : Nat) : Int) < (N.length : Int) := by omega
          have hyI0 : (0 : Int) ≤ ((nxF N (Lg1 L p) c : Nat) : Int) := by omega
          have hpcI : (c : Int) < ((outF N (Lg1 L p)).length : Int) := by omega
          have HRs : Hid (natI (rnR m (Fl FN) p (c + 1)) = natI (rnR m (Fl FN) p c) ++ [((Fl FN (p * m + c) : Nat) : Int)]) := hid0 (by rw [rnR_succ, natI_snoc])
          have HOk : Hid (wr.ownsRow wi.heap.size 3 1 u9 c ((natI (rnR m (Fl FN) p c)).map (Value.int .i64))) := hid0 (by have h := HRo.out; unfold OwnI at h; rw [rnR_len] at h; exact h)
          clear d4 hnx hnl hpl i1 hyl hym hyi hnum HRo
          generalize Fl FN (p * m + c) = iy at *
          generalize nxF N (Lg1 L p) c = y at *
          generalize (outF N (Lg1 L p)).length = ln at *
          generalize Lg1 L p = sp at *
          obtain ⟨av, cv, ev⟩ := own_sl HOk.out
          subst ev
          go_upto_region 10 with (fail)
          obtain ⟨wA, hwA⟩ : ∃ wA, wA = wr.alloc (.cells #[.int .i64 (iy : Int)] 3) := ⟨_, rfl⟩
          have hOA : Below wr.heap.size wr wA := by rw [hwA]; exact below_alloc _ _
          have HNew : Hid (∀ j u, [Value.int .i64 (iy : Int)][j]? = some u → wA.cell? ((⟨wr.heap.size, 0, none⟩ : Addr).add j) = some u) := hid0 (by rw [hwA]; exact cell_one_new _ _ _)
          have HOwn : Hid (wA.ownsRow wi.heap.size 3 1 (.slice av c cv) c ((natI (rnR m (Fl FN) p c)).map (Value.int .i64))) := hid0 (row_later HOk.out hOA)
          have HLo8 : Hid (wi.heap.size ≤ wA.heap.size) := hid0 (by have := hOA.size; omega)
          have HNx : Hid (∀ (v' : Value) (w5 : World), w5.ownsRow wi.heap.size 3 1 v' (c + 1) ((natI (rnR m (Fl FN) p c)).map (Value.int .i64) ++ [.int .i64 (iy : Int)]) → wA.drew.grownBy w5 (Value.slice av c cv).ownBlock → OwnI w5 wi.heap.size v' (natI (rnR m (Fl FN) p (c + 1))) ∧ Below wi.heap.size wi w5) := hid0 (fun v' w5 hown hgrow => by
            refine ⟨?_, (below_drew' (Below.later HBc.out hOA) 1).grown hgrow HLo8.out (fun k hk => (World.ownsRow.lt HOwn.out k hk).1)⟩
            unfold OwnI
            rw [HRs.out, List.length_append, rnR_len, List.map_append]
            exact hown)
          have gA := hwA.symm
          clear hwA hOA
          go_wp2_with fail
          go_region_law ((refine step_append_own_at (by rfl) _ _ 25 (by rfl) wi.heap.size 3 j0 _ 1 8 Tryd.underlying25 hj hy0 hy1 hy2 rfl (by decide) (.slice av c cv) c ((natI (rnR m (Fl FN) p c)).map (Value.int .i64)) (by rfl) HOwn.out ⟨wr.heap.size, 0, none⟩ 1 1 [.int .i64 (iy : Int)] (by rfl) (by rfl) HNew.out (by simp [Value.oneCell']) (by unfold maxLen; omega) (by omega) HLo8.out ?_; intro v' w5 hown hgrow hat5; have HN5 := hid0 (HNx.out _ _ hown hgrow); clear hown hgrow hat5))
          all_goals
            go_wp2
            go_roundw
            case rel => exact ⟨c + 1, by omega, by go_num, hid0 HN5.out.1, hid0 HN5.out.2⟩
            case measure => simp [intOf]; omega
        · have hcI : ¬ (c : Int) < (m : Int) := by omega
          have ecm : c = m := by omega
          rw [ecm] at HRo
          clear ecm
          have hso : Lg1 L p < O.length := by have := HM.out.out; omega
          obtain ⟨bO, oO, rfl, _, a1, c1, d1, i1, n1⟩ := (HAl.out wr HB1c.out).2.1.at' (Lg1 L p) hso
          have e0 : O[Lg1 L p] = outF O (Lg1 L p) := by rw [outF, List.getD_eq_getElem?_getD, List.getElem?_eq_getElem hso]; rfl
          rw [e0] at d1 i1
          have hol := HOr.out _ (List.getElem_mem hso)
          rw [e0] at hol
          clear e0
          have HI1 := hid0 i1
          have HN1 := hid0 n1
          clear i1 n1 hnum
          have hsI2 : ((Lg1 L p : Nat) : Int) < (O.length : Int) := by omega
          have hsI3 : (0 : Int) ≤ ((Lg1 L p : Nat) : Int) := by omega
          have HTn := hid0 (And.intro (rnN_take (m := m) (F := Fl FN) hplt) (rnO_take (O := O) (g := Lg1 L) hplt))
          generalize outF O (Lg1 L p) = oo at *
          generalize natI (rnR m (Fl FN) p m) = rr at *
          generalize Lg1 L p = sp at *
          obtain ⟨aR, cR, eR, _⟩ := HRo.out.ia
          subst eR
          have HpN : Hid (pN.length = p ∧ pO.length = p) := hid0 (by
            have h1 := congrArg List.length HTk.out.1
            have h2 := congrArg List.length HTk.out.2
            have h3 := rn_len L.length m (Fl FN) O (Lg1 L)
            rw [List.length_map, List.length_take] at h1 h2
            omega)
          obtain ⟨aV, cV, eV⟩ : ∃ a c, vN = .slice a p c := by have h := own_sl HMk.out.bN.outer; rw [HpN.out.1] at h; exact h
          obtain ⟨aU, cU, eU⟩ : ∃ a c, vO = .slice a p c := by have h := own_sl HMk.out.bO.outer; rw [HpN.out.2] at h; exact h
          subst eV
          subst eU
          have HAway : Hid ((∀ y ∈ pN, ∀ g, y.1.ownBlock = some g → g < wi.heap.size) ∧ ∀ y ∈ pO, ∀ g, y.1.ownBlock = some g → g < wi.heap.size) := hid0 ⟨fun y hy g hg => (World.ownsRow.lt (HMk.out.bN.row y hy) g hg).2, fun y hy g hg => (World.ownsRow.lt (HMk.out.bO.row y hy) g hg).2⟩
          go_upto_region 11 with (fail)
          go_cut [10] from 19 to 68 (fun v10 wx => Hid (OwnI wx wi.heap.size v10 oo) ∧ Hid (Below wr.heap.size wr wx))
          case first =>
            have HId : Hid (IA wr.drew a1 oo) := hid0 (HI1.out.past (below_drew' (below_refl0 wr) 1))
            go_wp2_with fail
            go_region_law ((refine step_spreadI (by rfl) _ _ (by rfl) a1 oo c1 wi.heap.size (by rfl) (by rfl) HN1.out HId.out (by omega) (by first | exact hbc | (simp; omega)) ?_; intro v5 w5 hown5 hgrow5; have HX5 := hid0 (And.intro hown5 ((below_drew' (below_refl0 wr) 1).grown hgrow5 (Nat.le_refl _) (fun k hk => by cases hk))); clear hown5 hgrow5))
            all_goals
              go_wp2_with fail
              go_meet
              exact ⟨hid0 HX5.out.1, hid0 HX5.out.2⟩
          case rest =>
           obtain ⟨HE5, HB5⟩ := hcut
           generalize wc = w5 at *
           clear x0 x1 x2 dl d1
           have HMk5 := hid0 (HMk.out.past (Below.later HBc.out HB5.out))
           have HR5 : Hid (OwnI w5 wi.heap.size (.slice aR rr.length cR) rr) := hid0 (HRo.out.past HB5.out)
           have HL5 := hid0 ((HL.out.past HBc.out).past HB5.out)
           have HN5 := hid0 ((HNb.out.past HBc.out).past HB5.out)
           have HBx5 := hid0 (Below.later HB1c.out HB5.out)
           obtain ⟨aE, cE, eE, _⟩ := HE5.out.ia
           subst eE
           obtain ⟨y0, y1, y2, yf⟩ := HMk5.out.c
           have HMx := hid0 HMk5.out.box
           have HbN5 : Hid (w5.ownsRow w1.heap.size 25 1 (.slice aV p cV) p (pN.map (·.1))) := hid0 (by have h := HMk5.out.bN.outer; rw [HpN.out.1] at h; exact h)
           have hs5 := HBx5.out.size
           clear HMk HRo HL HNb HBc HB1c HBr HB5 HI1 HN1 HCl
           go_upto_region 13 with (at_builtin; go_loud ((
             refine wpList_append_own_at _ rfl _ _ 22 rfl w1.heap.size 25 i0 (.slice none 0 0) 1 24 Tryd.underlying22 hi hz0 hz1 hz2 rfl (by decide) (.slice aV p cV) p (pN.map (·.1)) rfl (World.ownsRow.alloc HbN5.out _) ⟨w5.heap.size, 0, none⟩ 1 1 [.slice aR rr.length cR] rfl rfl (cell_one_new _ _ _) (by simp [Value.oneCell']) (by unfold maxLen; omega) (by omega) (by simp; omega) ?_
             intro v6 w6 hown6 hgrow6 _ hat6
             obtain ⟨a6, c6, e6⟩ := own_sl hown6
             subst e6
             obtain ⟨rb, rm, rf⟩ := HMk5.out.addN (x := .slice aR rr.length cR) (l := rr) (owns_lower HR5.out hbi) (fun y hy g hg hx => by have h1 := HAway.out.1 y hy g hg; have h2 := (World.ownsRow.lt HR5.out g hx).1; omega) (by rw [HpN.out.1]; exact hown6) hgrow6 hat6
             obtain ⟨g0, g1, g2, gf⟩ := box_c rb
             obtain ⟨W6, hW6⟩ : ∃ W6, w6.setCell ⟨w2.heap.size, 1, none⟩ (.slice a6 (p + 1) c6) = W6 := ⟨_, rfl⟩
             rw [hW6] at rm rf
             have HM6 := hid0 rm
             have HF6 := hid0 rf
             have HB6 := hid0 rb
             clear rb rm rf hown6 hgrow6 hat6)))
           clear hW6 g0 g1 g2 gf y0 y1 y2 yf HbN5 HMk5 HB6
           have HE6 : Hid (OwnI W6 wi.heap.size (.slice aE oo.length cE) oo) := hid0 (HF6.out.own ⟨_, HMx.out⟩ HE5.out)
           have HL6 := hid0 (HF6.out.own ⟨_, HMx.out⟩ HL5.out)
           have HN6 := hid0 (HF6.out.own ⟨_, HMx.out⟩ HN5.out)
           have HBx6 := hid0 (HF6.out.below HBx5.out (Nat.le_refl _))
           have hs6 := HBx6.out.size
           have HbO6 : Hid (W6.ownsRow w1.heap.size 25 1 (.slice aU p cU) p (pO.map (·.1))) := hid0 (by have h := HM6.out.bO.outer; rw [HpN.out.2] at h; exact h)
           obtain ⟨y0, y1, y2, yf⟩ := HM6.out.c
           go_wp2_with (at_builtin; go_loud ((
             refine wpList_append_own_at _ rfl _ _ 22 rfl w1.heap.size 25 i0 (.slice none 0 0) 1 24 Tryd.underlying22 hi hz0 hz1 hz2 rfl (by decide) (.slice aU p cU) p (pO.map (·.1)) rfl (World.ownsRow.alloc HbO6.out _) ⟨W6.heap.size, 0, none⟩ 1 1 [.slice aE oo.length cE] rfl rfl (cell_one_new _ _ _) (by simp [Value.oneCell']) (by unfold maxLen; omega) (by omega) (by simp; omega) ?_
             intro v7 w7 hown7 hgrow7 _ hat7
             obtain ⟨a7, c7, e7⟩ := own_sl hown7
             subst e7
             obtain ⟨rb, rm, rf⟩ := HM6.out.addO (x := .slice aE oo.length cE) (l := oo) (owns_lower HE6.out hbi) (fun y hy g hg hx => by have h1 := HAway.out.2 y hy g hg; have h2 := (World.ownsRow.lt HE6.out g hx).1; omega) (by rw [HpN.out.2]; exact hown7) hgrow7 hat7
             obtain ⟨g0, g1, g2, gf⟩ := box_c rb
             obtain ⟨W7, hW7⟩ : ∃ W7, w7.setCell ⟨w2.heap.size, 2, none⟩ (.slice a7 (p + 1) c7) = W7 := ⟨_, rfl⟩
             rw [hW7] at rm rf
             have HM7 := hid0 rm
             have HF7 := hid0 rf
             clear rb rm rf hown7 hgrow7 hat7)))
           have HL7 := hid0 (HF7.out.own ⟨_, HM6.out.box⟩ HL6.out)
           have HN7 := hid0 (HF7.out.own ⟨_, HM6.out.box⟩ HN6.out)
           have HBx7 := hid0 (HF7.out.below HBx6.out (Nat.le_refl _))
           have HTk7 : Hid ((pN ++ [(Value.slice aR rr.length cR, rr)] : Lot).map (·.2) = (rnN L.length m (Fl FN)).take (p + 1) ∧ (pO ++ [(Value.slice aE oo.length cE, oo)] : Lot).map (·.2) = (rnO L.length O (Lg1 L)).take (p + 1)) := hid0 (by
             rw [HTn.out.1, HTn.out.2, List.map_append, List.map_append, HTk.out.1, HTk.out.2]
             exact ⟨rfl, rfl⟩)
           go_roundw
           case rel => exact ⟨p + 1, _, _, _, _, by omega, by go_num, HM7, HTk7, HL7, HN7, HBx7⟩
           case measure => simp [intOf]; omega
    · have hpI : ¬ (p : Int) < (L.length : Int) := by omega
      have HTe : Hid (pN.map (·.2) = rnN L.length m (Fl FN) ∧ pO.map (·.2) = rnO L.length O (Lg1 L)) := hid0 (by
        have h := HTk.out
        have h3 := rn_len L.length m (Fl FN) O (Lg1 L)
        rw [List.take_of_length_le (by omega), List.take_of_length_le (by omega)] at h
        exact h)
      have hR := (HAl.out wi HBr.out).2.2.2.1
      obtain ⟨v1, v2, v3, hl⟩ := laidZ (.int .i64 0) vN vO hR
      obtain ⟨aD, cD, eD, _⟩ := (HMk.out.bN.only2 hl.only hR).rwq
      obtain ⟨aE, cE, eE, _⟩ := (HMk.out.bO.only2 hl.only hR).rwq
      rw [HTe.out.1, (rn_len L.length m (Fl FN) O (Lg1 L)).1] at eD
      rw [HTe.out.2, (rn_len L.length m (Fl FN) O (Lg1 L)).2] at eE
      have HFin : Hid (DbB w.heap.size v3 vN vO (rnN L.length m (Fl FN)) (rnO L.length O (Lg1 L)) ∧ Below w.heap.size w v3) := hid0 ⟨⟨pN, pO, (HMk.out.bN.only2 hl.only hR).low HLo1.out, (HMk.out.bO.only2 hl.only hR).low HLo1.out, HTe.out⟩, (HAl.out wi HBr.out).2.2.2.2.trans (hl.only.below (HAl.out wi HBr.out).2.2.2.2.size (fun i hi => by rw [hi]; exact HLo.out))⟩
      subst eD
      subst eE
      have HR := hid0 hl.r
      have g1 := hl.g1
      have g2 := hl.g2
      have g3 := hl.g3
      obtain ⟨z0, z1, z2⟩ := hl.z
      have a1 := hl.a1
      have a2 := hl.a2
      have f0 := hl.f0
      have f1 := hl.f1
      have f2 := hl.f2
      obtain ⟨y0, y1, y2, yf⟩ := HMk.out.c
      have HOut : Hid (RenR w v3 m s0 N O (.returned (.agg #[.int .i64 0, .slice aD L.length cD, .slice aE L.length cE]))) := hid0 ⟨L, FN, aD, aE, cD, cE, rfl, HFin.out.1, HBf.out, HFin.out.2⟩
      clear hl hR HMk HTk HTe
      go_wp2
      (try simp only [Exit.inBlock, Exit.then])
      refine bodyPost_ret (results_cell_row rfl _ _ w0.heap.size 24 _ _ _ rfl HR.out Tryd.underlying24 rfl (by kernel_rfl)) rfl ?_
      exact HOut.out
end Go.Proofs.YtjemjccgfgijiaaDoor
namespace Go.Proofs.YtjemjccgfgijiaaDoor
open Go.RowKit Go.Shelf
/-- Are two states alike, by the classes? -/
def alkB (m : Nat) (N O : List (List Int)) (C : List Nat) (a b : Nat) : Bool := decide (outF O a = outF O b) && decide (C.getD a 0 = C.getD b 0) && (List.range m).all (fun c => decide (C.getD (nxF N a c) 0 = C.getD (nxF N b c) 0))
def alkR (_m : Nat) (N : List (List Int)) (C : List Nat) (a b k : Nat) : Prop := ∀ c, c < k → C.getD (nxF N a c) 0 = C.getD (nxF N b c) 0
theorem alkB_true {m : Nat} {N O : List (List Int)} {C : List Nat} {a b : Nat} (h1 : outF O a = outF O b) (h2 : C.getD a 0 = C.getD b 0) (h3 : alkR m N C a b m) : alkB m N O C a b = true := by
  unfold alkB
  rw [decide_eq_true h1, decide_eq_true h2]
  simp only [Bool.true_and, List.all_eq_true, decide_eq_true_eq]
  exact fun c hc => h3 c (List.mem_range.1 hc)
theorem alkB_false {m : Nat} {N O : List (List Int)} {C : List Nat} {a b c : Nat} (hc : c < m) (h : C.getD (nxF N a c) 0 ≠ C.getD (nxF N b c) 0) : alkB m N O C a b = false := by
  unfold alkB
  have : (List.range m).all (fun c => decide (C.getD (nxF N a c) 0 = C.getD (nxF N b c) 0)) = false := by
    rw [List.all_eq_false]
    exact ⟨c, List.mem_range.2 hc, by simp only [decide_eq_true_eq]; exact h⟩
  rw [this, Bool.and_false]
theorem IA.cellN {w : World} {a : Option Addr} {C : List Nat} (h : IA w a (natI C)) {y : Nat} (hy : y < C.length) : ∃ b off, a = some ⟨b, off, none⟩ ∧ w.cell? ⟨b, off + y, none⟩ = some (.int .i64 ((C.getD y 0 : Nat) : Int)) := by
  obtain ⟨b, off, e, _, h2⟩ := h.at' y (by rw [natI_len]; exact hy)
  rw [natI_at C y hy] at h2
  exact ⟨b, off, e, h2⟩
theorem drew_more0 {w w' : World} {a : Nat} (h : ∃ m, w' = (w.drewN a).drewN m) : ∃ n, w' = w.drewN n := by
  obtain ⟨m, hm⟩ := h
  exact ⟨a + m, by rw [hm, World.drewN_drewN]⟩
set_option maxRecDepth 10000 in
set_option maxHeartbeats 3200000 in
theorem alike_any (st : Int) (m a b : Nat) (N O : List (List Int)) (C : List Nat) (aN aO aC : Option Addr) (cN cO cC : Nat) (w : World) (hm : May st N O m) (hC : C.length = N.length) (ha : a < N.length) (hb : b < N.length) (_hnb : N.length ≤ 2200000) (hmb : m ≤ 2200000) (hOr : ∀ r ∈ O, r.length ≤ 2200000) (rN : RwA w aN N) (rO : RwA w aO O) (rC : IA w aC (natI C)) :
    Calls Tryd.prog 63 #[.agg #[.int .i64 st, .slice aN N.length cN, .slice aO O.length cO], .slice aC N.length cC, .int .i64 (a : Int), .int .i64 (b : Int), .int .i64 (m : Int)] w fun e w' => e = .returned (.bool (alkB m N O C a b)) ∧ Below w.heap.size w w' := by
  obtain ⟨w0, hw0⟩ : ∃ w0, w0 = w.alloc (.cells #[.int .i64 st, .slice aN N.length cN, .slice aO O.length cO] 24) := ⟨_, rfl⟩
  have hB0 : Below w.heap.size w w0 := by rw [hw0]; exact below_alloc _ _
  have hX0 : MBox w0 w.heap.size st (.slice aN N.length cN) (.slice aO O.length cO) := by rw [hw0]; exact MBox.new _ _ _ _
  obtain ⟨x0, x1, x2⟩ := hX0.c
  have HN := hid0 (rN.past hB0)
  have HC := hid0 (rC.past hB0)
  have HB0 := hid0 hB0
  have hoa : a < O.length := by have := hm.out; omega
  have hob : b < O.length := by have := hm.out; omega
  obtain ⟨bO, oO, e1, a1, c1, d1, i1⟩ := rwa_at (rO.past hB0) hoa
  obtain ⟨bO2, oO2, e2, a2, c2, d2, i2⟩ := rwa_at (rO.past hB0) hob
  rw [e1] at e2
  injection e2 with e2
  injection e2 with e3 e4
  subst e3
  subst e4
  subst e1
  obtain ⟨bC, oC, e5, k1⟩ := (rC.past hB0).cellN (y := a) (by omega)
  obtain ⟨bC2, oC2, e6, k2⟩ := (rC.past hB0).cellN (y := b) (by omega)
  rw [e5] at e6
  injection e6 with e6
  injection e6 with e7 e8
  subst e7
  subst e8
  subst e5
  have HS := hid0 (fun n => sameInts_any (outF O a) (outF O b) a1 a2 c1 c2 (w0.drewN n) (by have := outF_le (s := a) hOr; omega) (i1.drewN n) (i2.drewN n))
  have HM := hid0 hm
  have HCl := hid0 hC
  have haI : (a : Int) < (N.length : Int) := by omega
  have haI0 : (0 : Int) ≤ (a : Int) := by omega
  have hbI : (b : Int) < (N.length : Int) := by omega
  have hbI0 : (0 : Int) ≤ (b : Int) := by omega
  have haO : (a : Int) < (O.length : Int) := by omega
  have hbO : (b : Int) < (O.length : Int) := by omega
  have q0 := hw0.symm
  have HT : Hid (outF O a = outF O b ∨ outF O a ≠ outF O b) := hid0 (Classical.em _)
  clear hw0 hB0 hX0 rN rO rC i1 i2 hm hOr hC
  rcases HT.out with ht | ht
  · rw [decide_eq_true ht] at HS
    have HTe := hid0 ht
    clear ht HT
    generalize (outF O a).length = la at *
    generalize (outF O b).length = lb at *
    by_cases hcl : C.getD a 0 = C.getD b 0
    · rw [← hcl] at k2
      have HCe := hid0 (fun h3 => alkB_true (m := m) (N := N) HTe.out hcl h3)
      clear hcl
      generalize C.getD a 0 = ca at *
      have hself : (((ca : Nat) : Int) != ((ca : Nat) : Int)) = false := by simp
      have hself2 : (((ca : Nat) : Int) == ((ca : Nat) : Int)) = true := by simp
      go_enter Tryd.func63, Tryd.ntmps63
      go_wp2
      go_quiet ((go_at_call 12; exact (HS.out _).mono (fun _ _ h => ⟨h.1, drew_more0 h.2⟩)))
      go_wp2
      go_quiet ((fail))
      go_wp2
      go_loopw [12] (fun i wr => ∃ k : Nat, k ≤ m ∧ i = .int .i64 (k : Int) ∧ (∃ n, wr = w0.drewN n) ∧ Hid (alkR m N C a b k)) (fun i _ => m - (intOf i).toNat)
      case atStart => exact ⟨0, Nat.zero_le _, rfl, ⟨_, World.drewN_drewN _ _ _⟩, hid0 (fun c h => absurd h (Nat.not_lt_zero _))⟩
      case round =>
        obtain ⟨k, hk, rfl, ⟨nd, rfl⟩, HE⟩ := hrel
        by_cases hkm : k < m
        · have hkI : (k : Int) < (m : Int) := by omega
          have hkI0 : (0 : Int) ≤ (k : Int) := by omega
          obtain ⟨bN, oN, g1, a3, c3, d3, i3⟩ := rwa_at HN.out ha
          obtain ⟨bN2, oN2, g2, a4, c4, d4, i4⟩ := rwa_at HN.out hb
          rw [g1] at g2
          injection g2 with g2
          injection g2 with g3 g4
          subst g3
          subst g4
          subst g1
          have n1 := HM.out.next ha hkm
          have n2 := HM.out.next hb hkm
          have l1 : (outF N a).length = m := n1.2.2
          have l2 : (outF N b).length = m := n2.2.2
          have p1 : k < (outF N a).length := by rw [l1]; exact hkm
          have p2 : k < (outF N b).length := by rw [l2]; exact hkm
          obtain ⟨b5, o5, rfl, _, d5⟩ := i3.at' _ p1
          obtain ⟨b6, o6, rfl, _, d6⟩ := i4.at' _ p2
          have d5' : w0.cell? ⟨b5, o5 + k, none⟩ = some (.int .i64 ((nxF N a k : Nat) : Int)) := by
            rw [d5]
            have e : (outF N a)[k] = (outF N a).getD k 0 := by rw [List.getD_eq_getElem?_getD, List.getElem?_eq_getElem p1]; rfl
            rw [e]
            have := n1.2.1
            unfold outF
            rw [this]
          have d6' : w0.cell? ⟨b6, o6 + k, none⟩ = some (.int .i64 ((nxF N b k : Nat) : Int)) := by
            rw [d6]
            have e : (outF N b)[k] = (outF N b).getD k 0 := by rw [List.getD_eq_getElem?_getD, List.getElem?_eq_getElem p2]; rfl
            rw [e]
            have := n2.2.1
            unfold outF
            rw [this]
          obtain ⟨b7, o7, f1, k3⟩ := HC.out.cellN (y := nxF N a k) (by have := HCl.out; omega)
          obtain ⟨b8, o8, f2, k4⟩ := HC.out.cellN (y := nxF N b k) (by have := HCl.out; omega)
          injection f1 with f1
          injection f1 with f3 f4
          subst f3
          subst f4
          injection f2 with f2
          injection f2 with f5 f6
          subst f5
          subst f6
          have y1 : ((nxF N a k : Nat) : Int) < (N.length : Int) := by omega
          have y2 : ((nxF N b k : Nat) : Int) < (N.length : Int) := by omega
          have y3 : (0 : Int) ≤ ((nxF N a k : Nat) : Int) := by omega
          have y4 : (0 : Int) ≤ ((nxF N b k : Nat) : Int) := by omega
          have z1 : (k : Int) < ((outF N a).length : Int) := by omega
          have z2 : (k : Int) < ((outF N b).length : Int) := by omega
          by_cases he : C.getD (nxF N a k) 0 = C.getD (nxF N b k) 0
          · have HE2 : Hid (alkR m N C a b (k + 1)) := hid0 (fun c hc => by
              by_cases e : c = k
              · rw [e]; exact he
              · exact HE.out c (by omega))
            rw [← he] at k4
            clear d5 d6 n1 n2 l1 l2 p1 p2 i3 i4 he HE
            generalize C.getD (nxF N a k) 0 = cc at *
            generalize nxF N a k = ya at *
            generalize nxF N b k = yb at *
            generalize (outF N a).length = lna at *
            generalize (outF N b).length = lnb at *
            have hs1 : (((cc : Nat) : Int) != ((cc : Nat) : Int)) = false := by simp
            have hs2 : (((cc : Nat) : Int) == ((cc : Nat) : Int)) = true := by simp
            go_wp2
            go_quiet ((fail))
            go_wp2
            go_roundw
            case rel => exact ⟨k + 1, by omega, by go_num, ⟨_, rfl⟩, HE2⟩
            case measure => simp [intOf]; omega
          · have HV := hid0 (alkB_false (O := O) hkm he)
            have he2 : ¬ ((C.getD (nxF N a k) 0 : Nat) : Int) = ((C.getD (nxF N b k) 0 : Nat) : Int) := by omega
            clear d5 d6 n1 n2 l1 l2 p1 p2 i3 i4 he HE
            generalize C.getD (nxF N a k) 0 = cc at *
            generalize C.getD (nxF N b k) 0 = cd at *
            generalize nxF N a k = ya at *
            generalize nxF N b k = yb at *
            generalize (outF N a).length = lna at *
            generalize (outF N b).length = lnb at *
            have hs1 : (((cc : Nat) : Int) != ((cd : Nat) : Int)) = true := by simp; omega
            have hs2 : (((cc : Nat) : Int) == ((cd : Nat) : Int)) = false := by simp; omega
            go_wp2
            go_quiet ((fail))
            go_wp2
            go_ret
            exact ⟨by rw [HV.out]; rfl, below_drew' (below_drew' HB0.out _) _⟩
        · have hkI : ¬ (k : Int) < (m : Int) := by omega
          have HV : Hid (alkB m N O C a b = true) := hid0 (HCe.out (fun c hc => HE.out c (by omega)))
          go_wp2
          go_ret
          exact ⟨by rw [HV.out]; rfl, below_drew' HB0.out _⟩
    · have HV : Hid (alkB m N O C a b = false) := hid0 (by unfold alkB; rw [decide_eq_false hcl, Bool.and_false]; rfl)
      have hcl2 : ¬ ((C.getD a 0 : Nat) : Int) = ((C.getD b 0 : Nat) : Int) := by omega
      clear hcl
      generalize C.getD a 0 = ca at *
      generalize C.getD b 0 = cb at *
      have hs1 : (((ca : Nat) : Int) != ((cb : Nat) : Int)) = true := by simp; omega
      have hs2 : (((ca : Nat) : Int) == ((cb : Nat) : Int)) = false := by simp; omega
      go_enter Tryd.func63, Tryd.ntmps63
      go_wp2
      go_quiet ((go_at_call 12; exact (HS.out _).mono (fun _ _ h => ⟨h.1, drew_more0 h.2⟩)))
      go_wp2
      go_quiet ((fail))
      go_wp2
      go_ret
      exact ⟨by rw [HV.out]; rfl, below_drew' (below_drew' HB0.out _) _⟩
  · have HV : Hid (alkB m N O C a b = false) := hid0 (by unfold alkB; rw [decide_eq_false ht]; rfl)
    rw [decide_eq_false ht] at HS
    clear ht HT
    generalize (outF O a).length = la at *
    generalize (outF O b).length = lb at *
    go_enter Tryd.func63, Tryd.ntmps63
    go_wp2
    go_quiet ((go_at_call 12; exact (HS.out _).mono (fun _ _ h => ⟨h.1, drew_more0 h.2⟩)))
    go_wp2
    go_quiet ((fail))
    go_wp2
    go_ret
    exact ⟨by rw [HV.out]; rfl, below_drew' (below_drew' HB0.out _) _⟩
end Go.Proofs.YtjemjccgfgijiaaDoor
namespace Go.Proofs.YtjemjccgfgijiaaDoor
open Go.RowKit Go.Shelf
theorem alkB_iff {m : Nat} {N O : List (List Int)} {C : List Nat} {a b : Nat} : alkB m N O C a b = true ↔ alk m (clF N m) (outF O) (fun i => C.getD i 0) a b := by
  unfold alkB alk
  simp only [Bool.and_eq_true, decide_eq_true_eq, List.all_eq_true, List.mem_range]
  constructor
  · rintro ⟨⟨h1, h2⟩, h3⟩
    exact ⟨h1, h2, fun c hc => by rw [clF_at N a hc, clF_at N b hc]; exact h3 c hc⟩
  · rintro ⟨h1, h2, h3⟩
    exact ⟨⟨h1, h2⟩, fun c hc => by have := h3 c hc; rw [clF_at N a hc, clF_at N b hc] at this; exact this⟩
/-- The first that is alike, of those gone through. -/
structure FsA (m : Nat) (N O : List (List Int)) (C : List Nat) (i k f : Nat) : Prop where
  le : k ≤ f ∧ f ≤ i
  is : alk m (clF N m) (outF O) (fun i => C.getD i 0) f i
  no : ∀ j, k ≤ j → j < f → ¬ alk m (clF N m) (outF O) (fun i => C.getD i 0) j i
theorem FsA.begin (m : Nat) (N O : List (List Int)) (C : List Nat) (i : Nat) : FsA m N O C i i i := ⟨⟨Nat.le_refl _, Nat.le_refl _⟩, alk.self _ _ _ _ _, fun j h1 h2 => by omega⟩
theorem FsA.take {m : Nat} {N O : List (List Int)} {C : List Nat} {i k f : Nat} (h : FsA m N O C i (k + 1) f) (hb : alkB m N O C k i = true) : FsA m N O C i k k := ⟨⟨Nat.le_refl _, by have := h.le; omega⟩, alkB_iff.1 hb, fun j h1 h2 => by omega⟩
theorem FsA.pass {m : Nat} {N O : List (List Int)} {C : List Nat} {i k f : Nat} (h : FsA m N O C i (k + 1) f) (hb : alkB m N O C k i = false) : FsA m N O C i k f := ⟨⟨by have := h.le; omega, h.le.2⟩, h.is, fun j h1 h2 => by
  by_cases e : j = k
  · rw [e]
    intro ha
    rw [alkB_iff.2 ha] at hb
    cases hb
  · exact h.no j (by omega) h2⟩
/-- New classes, of the first states. -/
def ParI (m : Nat) (N O : List (List Int)) (C D : List Nat) (k : Nat) : Prop := D.length = k ∧ ∀ i, i < k → FsA m N O C i 0 (D.getD i 0)
theorem ParI.snoc {m : Nat} {N O : List (List Int)} {C D : List Nat} {k f : Nat} (h : ParI m N O C D k) (hf : FsA m N O C k 0 f) : ParI m N O C (D ++ [f]) (k + 1) := by
  refine ⟨by rw [List.length_append, h.1]; rfl, fun i hi => ?_⟩
  by_cases e : i = k
  · subst e
    have : (D ++ [f]).getD i 0 = f := by rw [← h.1]; exact getD_new D f
    rw [this]
    exact hf
  · have : (D ++ [f]).getD i 0 = D.getD i 0 := getD_old (by rw [h.1]; omega)
    rw [this]
    exact h.2 i (by omega)
theorem ParI.par {m : Nat} {N O : List (List Int)} {C D : List Nat} {n : Nat} (h : ParI m N O C D n) : Par n m (clF N m) (outF O) (fun i => C.getD i 0) (fun i => D.getD i 0) := ⟨fun i hi => (h.2 i hi).le.2, fun i hi => (h.2 i hi).is, fun i hi k hk => (h.2 i hi).no k (Nat.zero_le _) hk⟩
set_option maxRecDepth 10000 in
set_option maxHeartbeats 3200000 in
theorem refParted_any (st : Int) (m : Nat) (N O : List (List Int)) (C : List Nat) (aN aO aC : Option Addr) (cN cO cC : Nat) (w : World) (hm : May st N O m) (hC : C.length = N.length) (hnb : N.length ≤ 2200000) (hmb : m ≤ 2200000) (hOr : ∀ r ∈ O, r.length ≤ 2200000) (rN : RwA w aN N) (rO : RwA w aO O) (rC : IA w aC (natI C)) :
    Calls Tryd.prog 42 #[.agg #[.int .i64 st, .slice aN N.length cN, .slice aO O.length cO], .slice aC N.length cC, .int .i64 (m : Int)] w fun e w' => ∃ (D : List Nat) (aD : Option Addr) (cD : Nat), e = .returned (.slice aD N.length cD) ∧ ParI m N O C D N.length ∧ OwnI w' w.heap.size (.slice aD N.length cD) (natI D) ∧ Below w.heap.size w w' := by
  obtain ⟨j0, hj, hy0, hy1, hy2⟩ := info_parts infoInt
  obtain ⟨w0, hw0⟩ : ∃ w0, w0 = w.alloc (.cells #[.int .i64 st, .slice aN N.length cN, .slice aO O.length cO] 24) := ⟨_, rfl⟩
  have hB0 : Below w.heap.size w w0 := by rw [hw0]; exact below_alloc _ _
  have hX0 : MBox w0 w.heap.size st (.slice aN N.length cN) (.slice aO O.length cO) := by rw [hw0]; exact MBox.new _ _ _ _
  have HAl : Hid (∀ V : World, Below w0.heap.size w0 V → (V.cell? ⟨w.heap.size, 0, none⟩ = some (.int .i64 st) ∧ V.cell? ⟨w.heap.size, 1, none⟩ = some (.slice aN N.length cN) ∧ V.cell? ⟨w.heap.size, 2, none⟩ = some (.slice aO O.length cO)) ∧ Below w.heap.size w V) := hid0 (fun V hV => ⟨(hX0.past hV).c, Below.later hB0 hV⟩)
  have HAk : Hid (∀ (V : World) (a b : Nat), Below w0.heap.size w0 V → a < N.length → b < N.length → Calls Tryd.prog 63 #[.agg #[.int .i64 st, .slice aN N.length cN, .slice aO O.length cO], .slice aC N.length cC, .int .i64 (a : Int), .int .i64 (b : Int), .int .i64 (m : Int)] V fun e w' => e = .returned (.bool (alkB m N O C a b)) ∧ Below V.heap.size V w') := hid0 (fun V a b hV ha hb => by
    have h := Below.later hB0 hV
    exact alike_any st m a b N O C aN aO aC cN cO cC V hm hC ha hb hnb hmb hOr (rN.past h) (rO.past h) (rC.past h))
  obtain ⟨x0, x1, x2⟩ := (HAl.out w0 (below_refl0 w0)).1
  have q0 := hw0.symm
  have HLo := hid0 hB0.size
  clear hw0 hB0 hX0 rN rO rC hm hOr hC
  go_enter Tryd.func42, Tryd.ntmps42
  go_wp2
  clear q0 x0 x1 x2
  go_loopw [7, 8] (fun v i wr => ∃ (i' : Nat) (D : List Nat), i' ≤ N.length ∧ i = .int .i64 (i' : Int) ∧ Hid (OwnI wr w0.heap.size v (natI D)) ∧ Hid (ParI m N O C D i') ∧ Hid (Below w0.heap.size w0 wr)) (fun _ i _ => N.length - (intOf i).toNat)
  case atStart => exact ⟨0, [], Nat.zero_le _, rfl, hid0 (World.ownsRow_nil _ _ _ _), hid0 ⟨rfl, fun i h => absurd h (Nat.not_lt_zero _)⟩, hid0 (Below.refl _ _)⟩
  case round =>
    obtain ⟨i', D, hi', rfl, HO, HP, HB⟩ := hrel
    obtain ⟨wi, hwi⟩ : ∃ wi, wi = wr := ⟨_, rfl⟩
    subst hwi
    obtain ⟨x0, x1, x2⟩ := (HAl.out wi HB.out).1
    have hDl := HP.out.1
    have HOk : Hid (wi.ownsRow w0.heap.size 3 1 u7 i' ((natI D).map (Value.int .i64))) := hid0 (by have h := HO.out; unfold OwnI at h; rw [natI_len, hDl] at h; exact h)
    have HDl := hid0 hDl
    clear HO hDl
    obtain ⟨av, cv, ev⟩ := own_sl HOk.out
    subst ev
    by_cases hlt : i' < N.length
    · have hiI : (i' : Int) < (N.length : Int) := by omega
      go_wp2
      clear x0 x1 x2
      go_loopw [9, 10] (fun f k wr => ∃ (k' f' : Nat) (z : Int), k' ≤ i' ∧ Hid ((k' : Int) = z + 1) ∧ k = .int .i64 z ∧ f = .int .i64 (f' : Int) ∧ Hid (FsA m N O C i' k' f') ∧ Hid (Below wi.heap.size wi wr)) (fun _ k _ => (intOf k + 1).toNat)
      case atStart => exact ⟨i', i', (i' : Int) - 1, Nat.le_refl _, hid0 (by omega), by go_num, rfl, hid0 (FsA.begin m N O C i'), hid0 (Below.refl _ _)⟩
      case round =>
        obtain ⟨k', f', z, hk', HZ, rfl, rfl, HF, HBk⟩ := hrel
        have HBw := hid0 (Below.later HB.out HBk.out)
        have hbk := HBk.out.size
        obtain ⟨x0, x1, x2⟩ := (HAl.out wr HBw.out).1
        cases k' with
        | zero =>
          have hk0 : ¬ z ≥ 0 := by have := HZ.out; omega
          have hk1 : z < 0 := by omega
          have hfb := HF.out.le.2
          have HPs := hid0 (HP.out.snoc HF.out)
          have HQe := hid0 (natI_snoc D f')
          have hb0 := HB.out.size
          have HOw : Hid (wr.ownsRow w0.heap.size 3 1 (.slice av i' cv) i' ((natI D).map (Value.int .i64))) := hid0 (row_later HOk.out HBk.out)
          go_wp2_with (at_builtin; go_loud ((
            refine wpList_append_own_at _ rfl _ _ 25 rfl w0.heap.size 3 j0 (.int .i64 0) 1 8 Tryd.underlying25 hj hy0 hy1 hy2 rfl (by decide) (.slice av i' cv) i' ((natI D).map (Value.int .i64)) rfl (World.ownsRow.alloc HOw.out _) ⟨wr.heap.size, 0, none⟩ 1 1 [.int .i64 (f' : Int)] rfl rfl (cell_one_new _ _ _) (by simp [Value.oneCell']) (by unfold maxLen; omega) (by omega) (by simp; omega) ?_
            intro v2 w3 hown2 hgrow2 _ _
            have HB3 := hid0 (own_snoc HOw.out hgrow2 HBw.out (Nat.le_refl _))
            have HO3 : Hid (OwnI w3 w0.heap.size v2 (natI (D ++ [f']))) := hid0 (by unfold OwnI; rw [HQe.out, List.length_append, natI_len, HDl.out, List.map_append]; exact hown2)
            clear hown2 hgrow2)))
          go_roundw
          case rel => exact ⟨i' + 1, D ++ [f'], by omega, by go_num, HO3, HPs, HB3⟩
          case measure => simp [intOf]; omega
        | succ k' =>
          obtain rfl : z = (k' : Int) := by have := HZ.out; omega
          have hk0 : (k' : Int) ≥ 0 := by omega
          have hk1 : (0 : Int) ≤ (k' : Int) := by omega
          have HCk := hid0 (HAk.out wr k' i' HBw.out (by omega) hlt)
          cases hb : alkB m N O C k' i' with
          | true =>
            have HF2 := hid0 (HF.out.take hb)
            rw [hb] at HCk
            clear hb
            go_wp2_with (go_at_call 63; go_loud ((refine HCk.out.mono ?_; rintro e w3 ⟨rfl, hb3⟩; have HB3 := hid0 (Below.later HBk.out hb3); clear hb3)))
            go_roundw
            case rel => exact ⟨k', k', (k' : Int) - 1, by omega, hid0 (by omega), by go_num, rfl, HF2, HB3⟩
            case measure => simp [intOf]
          | false =>
            have HF2 := hid0 (HF.out.pass hb)
            rw [hb] at HCk
            clear hb
            go_wp2_with (go_at_call 63; go_loud ((refine HCk.out.mono ?_; rintro e w3 ⟨rfl, hb3⟩; have HB3 := hid0 (Below.later HBk.out hb3); clear hb3)))
            go_roundw
            case rel => exact ⟨k', f', (k' : Int) - 1, by omega, hid0 (by omega), by go_num, rfl, HF2, HB3⟩
            case measure => simp [intOf]
    · have hiI : ¬ (i' : Int) < (N.length : Int) := by omega
      have ei : i' = N.length := by omega
      have HFin : Hid (ParI m N O C D N.length ∧ OwnI wi w.heap.size (.slice av N.length cv) (natI D) ∧ Below w.heap.size w wi) := hid0 (by
        refine ⟨by have h := HP.out; rw [ei] at h; exact h, ?_, (HAl.out wi HB.out).2⟩
        have h : OwnI wi w0.heap.size (.slice av i' cv) (natI D) := by unfold OwnI; rw [natI_len, HDl.out]; exact HOk.out
        rw [ei] at h
        exact owns_lower h HLo.out)
      rw [ei]
      clear ei
      go_wp2
      go_ret
      exact ⟨D, av, cv, rfl, HFin.out⟩
end Go.Proofs.YtjemjccgfgijiaaDoor
namespace Go.Proofs.YtjemjccgfgijiaaDoor
open Go.RowKit Go.Shelf
/-- A machine is stored over another. -/
structure LaidG (W v1 v2 v3 : World) (R : Nat) (p q r y a b : Value) : Prop where
  g1 : W.setCell ⟨R, 0, none⟩ y = v1
  g2 : v1.setCell ⟨R, 1, none⟩ a = v2
  g3 : v2.setCell ⟨R, 2, none⟩ b = v3
  z : W.cell? ⟨R, 0, none⟩ = some p ∧ W.cell? ⟨R, 1, none⟩ = some q ∧ W.cell? ⟨R, 2, none⟩ = some r
  a1 : v1.cell? ⟨R, 1, none⟩ = some q
  a2 : v2.cell? ⟨R, 2, none⟩ = some r
  f0 : ∀ k, W.frozen? ⟨R, k, none⟩ = false
  f1 : ∀ k, v1.frozen? ⟨R, k, none⟩ = false
  f2 : ∀ k, v2.frozen? ⟨R, k, none⟩ = false
  row : v3.heap[R]? = some (.cells #[y, a, b] 24 (0, 0))
  only : Only W v3 (fun k => k = R)
theorem laidG {W : World} {R : Nat} {p q r : Value} (y a b : Value) (hrb : W.heap[R]? = some (.cells #[p, q, r] 24 (0, 0))) : ∃ v1 v2 v3, LaidG W v1 v2 v3 R p q r y a b := by
  have r1 := heap_setCell_same W R 0 _ _ y hrb
  have r2 := heap_setCell_same _ R 1 _ _ a r1
  have r3 := heap_setCell_same _ R 2 _ _ b r2
  refine ⟨_, _, _, rfl, rfl, rfl, ⟨?_, ?_, ?_⟩, ?_, ?_, fun k => by simp [World.frozen?, hrb], fun k => by simp [World.frozen?, r1], fun k => by simp [World.frozen?, r2], r3, ((Only.setCell _ _ _ _).trans (Only.setCell _ _ _ _) (fun _ h => .inl h)).trans (Only.setCell _ _ _ _) (fun _ h => .inl h)⟩
  all_goals first
    | (rw [cell_of_row _ _ _ _ _ _ hrb]; rfl)
    | (rw [cell_of_row _ _ _ _ _ _ r1]; rfl)
    | (rw [cell_of_row _ _ _ _ _ _ r2]; rfl)
/-- The list of lists that is made, in a box whose third cell is what it is. -/
structure MkJ (W : World) (lo X : Nat) (st : Int) (vN vO : Value) (pN : Lot) : Prop where
  box : W.heap[X]? = some (.cells #[.int .i64 st, vN, vO] 24 (0, 0))
  bN : Bag W lo vN pN
  loX : lo ≤ X
theorem MkJ.past {W W' : World} {lo X : Nat} {st : Int} {vN vO : Value} {pN : Lot} (h : MkJ W lo X st vN vO pN) (hb : Below W.heap.size W W') : MkJ W' lo X st vN vO pN := ⟨(hb.block _ (Array.getElem?_eq_some_iff.1 h.box).1).trans h.box, h.bN.later hb, h.loX⟩
theorem MkJ.addN {wr w1 : World} {lo X : Nat} {st : Int} {vN vO v' x : Value} {pN : Lot} {l : List Int} {o : Obj} (h : MkJ wr lo X st vN vO pN) (hx : OwnI wr lo x l) (hxr : ∀ y ∈ pN, ∀ g, y.1.ownBlock = some g → x.ownBlock ≠ some g)
    (hown' : w1.ownsRow lo 25 1 v' (pN.length + 1) (pN.map (·.1) ++ [x])) (hgrow : (wr.alloc o).grownBy w1 vN.ownBlock) (hat : v'.ownBlock = vN.ownBlock ∨ v'.ownBlock = some (wr.alloc o).heap.size) :
    w1.heap[X]? = some (.cells #[.int .i64 st, vN, vO] 24 (0, 0)) ∧ MkJ (w1.setCell ⟨X, 1, none⟩ v') lo X st v' vO (pN ++ [(x, l)]) ∧ FrM wr (w1.setCell ⟨X, 1, none⟩ v') lo X := by
  have hfr : FrM wr (w1.setCell ⟨X, 1, none⟩ v') lo X := grown_fr h.bN.outer hgrow h.loX
  have hXlt := (Array.getElem?_eq_some_iff.1 h.box).1
  have hb1 : w1.heap[X]? = some (.cells #[.int .i64 st, vN, vO] 24 (0, 0)) := by
    rw [hgrow.block X (by simp; omega) (fun hv => by
      obtain ⟨c2, k2⟩ := own_ty h.bN.outer hv.symm
      exact blk_ne h.box k2 (by decide) rfl), Below.heap_alloc wr o X hXlt]
    exact h.box
  have bN1 := h.bN.snoc2 hx hxr hown' hgrow hat
  exact ⟨hb1, ⟨heap_setCell_same w1 X 1 _ _ v' hb1, bN1.only2 (Only.setCell w1 X 1 v') hb1, h.loX⟩, hfr⟩
theorem MkJ.c {W : World} {lo X : Nat} {st : Int} {vN vO : Value} {pN : Lot} (h : MkJ W lo X st vN vO pN) : W.cell? ⟨X, 0, none⟩ = some (.int .i64 st) ∧ W.cell? ⟨X, 1, none⟩ = some vN ∧ W.cell? ⟨X, 2, none⟩ = some vO ∧ ∀ k, W.frozen? ⟨X, k, none⟩ = false := by
  refine ⟨?_, ?_, ?_, fun k => by simp [World.frozen?, h.box]⟩ <;> (rw [cell_of_row _ _ _ _ _ _ h.box]; rfl)
/-- A bag's lists: those without memory have no room. -/
theorem Bag.rwn {w : World} {base : Nat} {a : Option Addr} {l c : Nat} {ps : Lot} (h : Bag w base (.slice a l c) ps) : RwN w a (ps.map (·.2)) := ⟨fun k hk => by
  have hk' : k < ps.length := by simpa using hk
  obtain ⟨g, cap, e, _, hgl, _⟩ := own_form h.outer (by omega)
  injection e with e1 e2 e3
  subst e1
  subst e2
  subst e3
  have hc := World.ownsRow.cellAt h.outer k (by omega)
  rw [List.getElem?_map, List.getElem?_eq_getElem hk'] at hc
  have hx := h.row ps[k] (List.getElem_mem hk')
  have e2 : (ps.map (·.2))[k] = ps[k].2 := by simp
  rw [e2]
  rcases hx.2 with ⟨e3, hn⟩ | ⟨g2, cap2, cur, e3, _⟩
  · refine ⟨g, 0, rfl, hgl, none, 0, ?_, ⟨fun j hj => by omega⟩, fun _ => rfl⟩
    rw [Nat.zero_add, hc, hn, ← e3]
    rfl
  · obtain ⟨a3, c3, e4, hi⟩ := OwnI.ia hx
    rw [e3] at e4
    injection e4 with e5 _ e7
    refine ⟨g, 0, rfl, hgl, some ⟨g2, 0, none⟩, cap2, ?_, by rw [e5]; exact hi, fun h => by cases h⟩
    rw [Nat.zero_add, hc, ← e3]
    rfl⟩
theorem DbB.rwn {lo : Nat} {W : World} {aD aE : Option Addr} {lD lE cD cE : Nat} {ND OD : List (List Int)} (h : DbB lo W (.slice aD lD cD) (.slice aE lE cE) ND OD) : RwN W aD ND ∧ RwN W aE OD := by
  obtain ⟨pD, pE, h1, h2, rfl, rfl⟩ := h
  exact ⟨h1.rwn, h2.rwn⟩
/-- The classes of the rounds so far. -/
def RdI (n m : Nat) (N O : List (List Int)) (C : List Nat) (r : Nat) : Prop := C.length = n ∧ ∃ cs : Nat → Nat → Nat, Rnd n m (clF N m) (outF O) cs r ∧ cs r = fun i => C.getD i 0
theorem RdI.zero (n m : Nat) (N O : List (List Int)) : RdI n m N O (List.replicate n 0) 0 := ⟨by simp, fun _ _ => 0, ⟨fun _ => rfl, fun q h => absurd h (Nat.not_lt_zero _)⟩, by
  funext i
  rw [List.getD_eq_getElem?_getD, List.getElem?_replicate]
  split <;> rfl⟩
theorem RdI.step {m : Nat} {N O : List (List Int)} {C D : List Nat} {r : Nat} (h : RdI N.length m N O C r) (hp : ParI m N O C D N.length) : RdI N.length m N O D (r + 1) := by
  obtain ⟨_, cs, h1, h2⟩ := h
  refine ⟨hp.1, fun q i => if q = r + 1 then D.getD i 0 else cs q i, ⟨fun i => ?_, fun q hq => ?_⟩, ?_⟩
  · rw [if_neg (by omega)]
    exact h1.zero i
  · by_cases e : q = r
    · subst e
      have e1 : (fun i => if q = q + 1 then D.getD i 0 else cs q i) = fun i => C.getD i 0 := by
        funext i
        rw [if_neg (by omega), h2]
      have e2 : (fun i => if q + 1 = q + 1 then D.getD i 0 else cs (q + 1) i) = fun i => D.getD i 0 := by
        funext i
        rw [if_pos rfl]
      show Par N.length m (clF N m) (outF O) (fun i => if q = q + 1 then D.getD i 0 else cs q i) (fun i => if q + 1 = q + 1 then D.getD i 0 else cs (q + 1) i)
      rw [e1, e2]
      exact hp.par
    · have e1 : (fun i => if q = r + 1 then D.getD i 0 else cs q i) = cs q := by
        funext i
        rw [if_neg (by omega)]
      have e2 : (fun i => if q + 1 = r + 1 then D.getD i 0 else cs (q + 1) i) = cs (q + 1) := by
        funext i
        rw [if_neg (by omega)]
      show Par N.length m (clF N m) (outF O) (fun i => if q = r + 1 then D.getD i 0 else cs q i) (fun i => if q + 1 = r + 1 then D.getD i 0 else cs (q + 1) i)
      rw [e1, e2]
      exact h1.step q (by omega)
  · funext i
    show (if r + 1 = r + 1 then D.getD i 0 else cs (r + 1) i) = D.getD i 0
    rw [if_pos rfl]
/-- Behind all rounds. -/
theorem RdI.done {m : Nat} {N O : List (List Int)} {C : List Nat} (h : RdI N.length m N O C (N.length + 1)) (hn : 0 < N.length) (hF : ∀ i c, i < N.length → c < m → clF N m (i * m + c) < N.length) : Cls m N.length (clF N m) (outF O) (fun i => C.getD i 0) ∧ (∀ i, i < N.length → C.getD i 0 ≤ i) ∧ ∀ i, i < N.length → C.getD (C.getD i 0) 0 = C.getD i 0 := by
  obtain ⟨_, cs, h1, h2⟩ := h
  have h3 := h1.cls hn hF
  have h4 := h1.step N.length (by omega)
  rw [h2] at h3 h4
  exact ⟨h3, h4.le, fun i hi => h4.idem hi⟩
theorem cls_conv {n m : Nat} {F g cl : Nat → Nat} {O : List (List Int)} (hF : ∀ i c, i < n → c < m → F (i * m + c) < n) (h : Cls m n (clF (rnN n m F) m) (outF (rnO n O g)) cl) : Cls m n F (fun i => outF O (g i)) cl := by
  have e1 : ∀ i c, i < n → c < m → clF (rnN n m F) m (i * m + c) = F (i * m + c) := fun i c hi hc => by rw [clF_at _ i hc, rnN_at hi hc]
  refine ⟨fun s t hs ht e => ?_, fun s t hs ht e c hc => ?_, fun s t hs ht hl => ?_⟩
  · have := h.told s t hs ht e
    rw [rnO_at hs, rnO_at ht] at this
    exact this
  · have := h.next s t hs ht e c hc
    rw [e1 s c hs hc, e1 t c ht hc] at this
    exact this
  · refine h.wide s t hs ht (fun u hu => ?_)
    have k : ∀ s, s < n → runW (fun x c => clF (rnN n m F) m (x * m + c)) s u = runW (fun x c => F (x * m + c)) s u := fun s hs => runW_id (n := n) (m := m) hF e1 u s hs hu
    have r : ∀ s, s < n → runW (fun x c => F (x * m + c)) s u < n := fun s hs => runW_in hF u s hs hu
    rw [k s hs, k t ht, rnO_at (r s hs), rnO_at (r t ht)]
    exact hl u hu
/-- The rows of the joined machine. -/
def jnL (L FN C : List Nat) (m : Nat) : List (List Int) := rnN L.length m (fun i => C.getD (Fl FN i) 0)
theorem doc_fin {m st : Nat} {N O : List (List Int)} {L FN C L2 FN2 : List Nat} (hmay : mayF (st : Int) N O (m : Int) = true) (h1 : BfI m st N L FN L.length 0) (hr : RdI L.length m (rnN L.length m (Fl FN)) (rnO L.length O (Lg1 L)) C (L.length + 1)) (h2 : BfI m 0 (jnL L FN C m) L2 FN2 L2.length 0) :
    Lst m (st : Int) N O (rnN L2.length m (Fl FN2)) (rnO L2.length (rnO L.length O (Lg1 L)) (Lg1 L2)) := by
  have hw := h1.done rfl
  have hw2 := h2.done rfl
  have hl := (rn_len L.length m (Fl FN) O (Lg1 L)).1
  have hF := hw.fl
  have hF2 : ∀ i c, i < L.length → c < m → clF (rnN L.length m (Fl FN)) m (i * m + c) < L.length := fun i c hi hc => by rw [clF_at _ i hc, rnN_at hi hc]; exact hF i c hi hc
  obtain ⟨hc0, cs, hc1, hc2⟩ := hr
  have hr2 : RdI (rnN L.length m (Fl FN)).length m (rnN L.length m (Fl FN)) (rnO L.length O (Lg1 L)) C ((rnN L.length m (Fl FN)).length + 1) := by rw [hl]; exact ⟨hc0, cs, hc1, hc2⟩
  obtain ⟨k1, k2, k3⟩ := hr2.done (by rw [hl]; exact hw.pos) (by rw [hl]; exact hF2)
  rw [hl] at k1 k2 k3
  exact doc_lst hmay hw (cls_conv hF k1) k2 k3 hw2 (fun p q hp hq e => by
    unfold Lg1 at e
    rw [List.getD_eq_getElem?_getD, List.getElem?_eq_getElem hp, List.getD_eq_getElem?_getD, List.getElem?_eq_getElem hq] at e
    exact (List.getElem_inj h2.nd).1 e)
theorem rnO_rows {n : Nat} {O : List (List Int)} {g : Nat → Nat} (h : ∀ r ∈ O, r.length ≤ 2200000) : ∀ r ∈ rnO n O g, r.length ≤ 2200000 := fun r hr => by
  obtain ⟨i, _, rfl⟩ := List.mem_map.1 hr
  exact outF_le h
/-- The joined machine may be one. -/
theorem join_may {m st : Nat} {N O : List (List Int)} {L FN C : List Nat} (hmay : mayF (st : Int) N O (m : Int) = true) (h1 : BfI m st N L FN L.length 0) (hr : RdI L.length m (rnN L.length m (Fl FN)) (rnO L.length O (Lg1 L)) C (L.length + 1)) : mayF 0 (jnL L FN C m) (rnO L.length O (Lg1 L)) (m : Int) = true ∧ C.getD 0 0 = 0 ∧ C.length = L.length := by
  have hw := h1.done rfl
  have hl := (rn_len L.length m (Fl FN) O (Lg1 L)).1
  have hl2 := (rn_len L.length m (Fl FN) O (Lg1 L)).2
  have hF := hw.fl
  have hF2 : ∀ i c, i < L.length → c < m → clF (rnN L.length m (Fl FN)) m (i * m + c) < L.length := fun i c hi hc => by rw [clF_at _ i hc, rnN_at hi hc]; exact hF i c hi hc
  have hr2 : RdI (rnN L.length m (Fl FN)).length m (rnN L.length m (Fl FN)) (rnO L.length O (Lg1 L)) C ((rnN L.length m (Fl FN)).length + 1) := by rw [hl]; exact hr
  obtain ⟨k1, k2, k3⟩ := hr2.done (by rw [hl]; exact hw.pos) (by rw [hl]; exact hF2)
  rw [hl] at k2
  have hjl : (jnL L FN C m).length = L.length := (rn_len L.length m (fun i => C.getD (Fl FN i) 0) O (Lg1 L)).1
  have hp := hw.pos
  refine ⟨mayF_of (by omega) (by omega) ?_ ?_ (upF_rise (hw.may hmay)), by have := k2 0 hp; omega, hr.1⟩
  · intro r hr
    obtain ⟨i, hi, rfl⟩ := List.mem_map.1 hr
    simp
  · intro r hr z hz
    obtain ⟨i, hi, rfl⟩ := List.mem_map.1 hr
    obtain ⟨c, hcm, rfl⟩ := List.mem_map.1 hz
    have h9 := hF i c (List.mem_range.1 hi) (List.mem_range.1 hcm)
    have h10 := k2 _ h9
    rw [hjl]
    show (0 : Int) ≤ ((C.getD (Fl FN (i * m + c)) 0 : Nat) : Int) ∧ ((C.getD (Fl FN (i * m + c)) 0 : Nat) : Int) < (L.length : Int)
    omega
end Go.Proofs.YtjemjccgfgijiaaDoor
