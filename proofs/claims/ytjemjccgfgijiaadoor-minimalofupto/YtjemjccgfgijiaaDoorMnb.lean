/-
  MkNW, MkPW.
-/
import Derived.Test.YtjemjccgfgijiaaDoorMna
import Derived.Test.YtjemjccgfgijiaaDoorMhi
namespace Go.Proofs.YtjemjccgfgijiaaDoor
open Go.RowKit Go.Shelf
/-- Where the first k states lie. -/
structure AtI (Q : List Nat) (k : Nat) (AT : List Nat) : Prop where
  len : AT.length = Q.length
  at' : ∀ j, j < k → AT.getD (Q.getD j 0) 0 = j
theorem AtI.zero (Q : List Nat) : AtI Q 0 (List.replicate Q.length 0) := ⟨by simp, fun j hj => absurd hj (Nat.not_lt_zero _)⟩
theorem AtI.step {n : Nat} {Q : List Nat} {k : Nat} {AT : List Nat} (h : AtI Q k AT) (hp : Prm n Q) (hk : k < Q.length) : AtI Q (k + 1) (AT.set (Q.getD k 0) k) := by
  refine ⟨by rw [List.length_set]; exact h.len, fun j hj => ?_⟩
  have hl := hp.len
  have hkl := (hp.get hk).1
  rw [List.getD_eq_getElem?_getD, List.getElem?_set]
  by_cases e : j = k
  · subst e
    rw [if_pos rfl, if_pos (by rw [h.len]; omega)]
    rfl
  · rw [if_neg, ← List.getD_eq_getElem?_getD]
    · exact h.at' j (by omega)
    · intro e2
      have h1 := (hp.get (i := j) (by omega)).2
      have h2 := (hp.get hk).2
      rw [← e2] at h1
      omega
theorem AtI.done {n : Nat} {Q : List Nat} {AT : List Nat} (h : AtI Q Q.length AT) (hp : Prm n Q) {y : Nat} (hy : y < n) : AT.getD y 0 = Q.idxOf y := by
  obtain ⟨h1, h2⟩ := hp.at hy
  have h3 := h.at' _ h1
  rw [h2] at h3
  exact h3
theorem natI_at (q : List Nat) (i : Nat) (h : i < q.length) : (natI q)[i]'(by rw [natI_len]; exact h) = ((q.getD i 0 : Nat) : Int) := by
  unfold natI
  rw [List.getElem_map, List.getD_eq_getElem?_getD, List.getElem?_eq_getElem h]
  rfl
theorem natI_set (q : List Nat) (i v : Nat) : natI (q.set i v) = (natI q).set i (v : Int) := by
  unfold natI
  rw [List.map_set]
theorem natI_rep (k : Nat) : natI (List.replicate k 0) = List.replicate k 0 := by
  unfold natI
  rw [List.map_replicate]
  rfl
/-- A row's first c numbers. -/
def dbR (N : List (List Int)) (Q : List Nat) (i c : Nat) : List Nat := (List.range c).map (dbC N Q i)
theorem dbR_succ (N : List (List Int)) (Q : List Nat) (i c : Nat) : dbR N Q i (c + 1) = dbR N Q i c ++ [dbC N Q i c] := by
  unfold dbR
  rw [List.range_succ, List.map_append]
  rfl
theorem dbN_take {N : List (List Int)} {Q : List Nat} {m k : Nat} (h : k < 2 * Q.length) : (dbN N Q m).take (k + 1) = (dbN N Q m).take k ++ [natI (dbR N Q k m)] := by
  have hl := (dbl_len N [] Q m).1
  rw [List.take_succ_eq_append_getElem (by omega)]
  congr 2
  unfold dbN
  rw [List.getElem_map, List.getElem_range]
  unfold natI dbR
  rw [List.map_map]
  rfl
theorem dbO_take {O : List (List Int)} {Q : List Nat} {k : Nat} (h : k < 2 * Q.length) : (dbO O Q).take (k + 1) = (dbO O Q).take k ++ [outF O (dbF Q k)] := by
  have hl := (dbl_len [] O Q 0).2
  rw [List.take_succ_eq_append_getElem (by omega)]
  congr 2
  unfold dbO
  rw [List.getElem_map, List.getElem_range]
theorem tmod_nat (a b : Nat) : (a : Int).tmod (b : Int) = ((a % b : Nat) : Int) := by
  rw [Int.tmod_eq_emod_of_nonneg (by omega)]
  rfl
set_option maxRecDepth 10000 in
set_option maxHeartbeats 3200000 in
theorem doubled_any (s0 m n : Nat) (N O : List (List Int)) (Q : List Nat) (aN aO aL : Option Addr) (cN cO cL : Nat) (w : World) (hm : May (s0 : Int) N O m) (hq : Prm N.length Q) (hnq : n = Q.length) (hnb : N.length ≤ 1100000) (hmb : m ≤ 1100000) (hOr : ∀ r ∈ O, r.length ≤ 2200000) (rN : RwA w aN N) (rO : RwN w aO O) (rL : IA w aL (natI Q)) :
    Calls Tryd.prog 18 #[.agg #[.int .i64 (s0 : Int), .slice aN N.length cN, .slice aO O.length cO], .slice aL n cL, .int .i64 (m : Int)] w fun e w' => ∃ aD cD aE cE, e = .returned (.agg #[.int .i64 ((Q.idxOf s0 + n : Nat) : Int), .slice aD (dbN N Q m).length cD, .slice aE (dbO O Q).length cE]) ∧ DbB w.heap.size w' (.slice aD (dbN N Q m).length cD) (.slice aE (dbO O Q).length cE) (dbN N Q m) (dbO O Q) ∧ Below w.heap.size w w' := by
  obtain ⟨j0, hj, hy0, hy1, hy2⟩ := info_parts infoInt
  obtain ⟨i0, hi, hz0, hz1, hz2⟩ := info_parts infoInts
  obtain ⟨w0, hw0⟩ : ∃ w0, w0 = w.alloc (.cells #[.int .i64 (s0 : Int), .slice aN N.length cN, .slice aO O.length cO] 24) := ⟨_, rfl⟩
  obtain ⟨w1, hw1⟩ : ∃ w1, w1 = w0.alloc (.cells #[.int .i64 0, .slice none 0 0, .slice none 0 0] 24) := ⟨_, rfl⟩
  have hB0 : Below w.heap.size w w0 := by rw [hw0]; exact below_alloc _ _
  have hB1 : Below w0.heap.size w0 w1 := by rw [hw1]; exact below_alloc _ _
  have hs1 : w1.heap.size = w0.heap.size + 1 := by rw [hw1]; simp
  have hX0 : MBox w1 w.heap.size (s0 : Int) (.slice aN N.length cN) (.slice aO O.length cO) := by
    have h : MBox w0 w.heap.size (s0 : Int) (.slice aN N.length cN) (.slice aO O.length cO) := by rw [hw0]; exact MBox.new _ _ _ _
    exact h.past hB1
  have hR1 : w1.heap[w0.heap.size]? = some (.cells #[.int .i64 0, .slice none 0 0, .slice none 0 0] 24 (0, 0)) := by rw [hw1]; exact heap_alloc_new _ _
  have HAl : Hid (∀ V : World, Below w1.heap.size w1 V → RwA V aN N ∧ RwN V aO O ∧ IA V aL (natI Q) ∧ MBox V w.heap.size (s0 : Int) (.slice aN N.length cN) (.slice aO O.length cO) ∧ V.heap[w0.heap.size]? = some (.cells #[.int .i64 0, .slice none 0 0, .slice none 0 0] 24 (0, 0)) ∧ Below w.heap.size w V) := hid0 (fun V hV => by
    have h := Below.later (Below.later hB0 hB1) hV
    exact ⟨rN.past h, rO.past h, rL.past h, hX0.past hV, (hV.block _ (Array.getElem?_eq_some_iff.1 hR1).1).trans hR1, h⟩)
  have hql := hq.len
  have hn0 : 0 < N.length := by have := hm.start; omega
  have hs0 : s0 < N.length := by have := hm.start; omega
  have HM := hid0 (And.intro hm hq)
  have HLo := hid0 hB0.size
  have HLo1 : Hid (w.heap.size ≤ w1.heap.size) := hid0 (Nat.le_trans hB0.size hB1.size)
  have HSz := hid0 hs1
  have HnQ := hid0 (And.intro hnq hql)
  have hn : 0 < n := by omega
  have hnb2 : n ≤ 1100000 := by omega
  have HOr := hid0 hOr
  have q0 := hw0.symm
  have q1 := hw1.symm
  clear hw0 hw1 hB0 hB1 hs1 hX0 hR1 rN rO rL hm hq hOr hnq hql
  go_enter Tryd.func18, Tryd.ntmps18
  go_wp2
  clear q0 q1
  go_loopw [8, 9] (fun v i wr => ∃ k : Nat, k ≤ n ∧ i = .int .i64 (k : Int) ∧ Hid (OwnI wr w1.heap.size v (List.replicate k 0)) ∧ Hid (Below w1.heap.size w1 wr)) (fun _ i _ => n - (intOf i).toNat)
  case atStart => exact ⟨0, Nat.zero_le _, rfl, hid0 (World.ownsRow_nil _ _ _ _), hid0 (Below.refl _ _)⟩
  case round =>
    obtain ⟨k, hk, rfl, HO, HB⟩ := hrel
    have hbs := HB.out.size
    by_cases hlt : k < n
    · have hkI : (k : Int) < (n : Int) := by omega
      have HOk : Hid (wr.ownsRow w1.heap.size 3 1 u8 k (List.replicate k (.int .i64 0))) := hid0 (by have h := HO.out; unfold OwnI at h; rw [List.length_replicate, List.map_replicate] at h; exact h)
      clear HO
      obtain ⟨av, cv, ev⟩ := own_sl HOk.out
      subst ev
      go_wp2_with (at_builtin; go_loud ((
        refine wpList_append_own_at _ rfl _ _ 25 rfl w1.heap.size 3 j0 (.int .i64 0) 1 8 Tryd.underlying25 hj hy0 hy1 hy2 rfl (by decide) (.slice av k cv) k (List.replicate k (.int .i64 0)) rfl (World.ownsRow.alloc HOk.out _) ⟨wr.heap.size, 0, none⟩ 1 1 [.int .i64 0] rfl rfl (cell_one_new _ _ _) (by simp [Value.oneCell']) (by unfold maxLen; omega) (by omega) (by simp; omega) ?_
        intro v2 w3 hown2 hgrow2 _ _
        have HB3 := hid0 (own_snoc HOk.out hgrow2 HB.out (Nat.le_refl _))
        have HO3 : Hid (OwnI w3 w1.heap.size v2 (List.replicate (k + 1) 0)) := hid0 (by unfold OwnI; rw [List.length_replicate, List.map_replicate, List.replicate_succ']; exact hown2)
        clear hown2 hgrow2)))
      go_roundw
      case rel => exact ⟨k + 1, by omega, by go_num, HO3, HB3⟩
      case measure => simp [intOf]; omega
    · have hkI : ¬ (k : Int) < (n : Int) := by omega
      obtain rfl : k = n := by omega
      have hO := HO.out
      obtain ⟨ga, ca, e8, hg1, hg2, hg3⟩ := own_form hO (by rw [List.length_replicate]; exact hn)
      rw [List.length_replicate] at e8
      subst e8
      have HO0 : Hid (wr.ownsRow w1.heap.size 3 1 (.slice (some ⟨ga, 0, none⟩) k ca) k ((natI (List.replicate Q.length 0)).map (Value.int .i64))) := hid0 (by
        have h := HO.out
        unfold OwnI at h
        rw [List.length_replicate] at h
        rw [natI_rep, ← HnQ.out.1]
        exact h)
      clear hO HO
      go_wp2
      go_loopw [10] (fun i wr => ∃ (j : Nat) (AT : List Nat), j ≤ k ∧ i = .int .i64 (j : Int) ∧ Hid (wr.ownsRow w1.heap.size 3 1 (.slice (some ⟨ga, 0, none⟩) k ca) k ((natI AT).map (Value.int .i64))) ∧ Hid (AtI Q j AT) ∧ Hid (Below w1.heap.size w1 wr)) (fun i _ => k - (intOf i).toNat)
      case atStart => exact ⟨0, _, Nat.zero_le _, rfl, HO0, hid0 (AtI.zero Q), HB⟩
      case round =>
        clear HO0 HB
        obtain ⟨j, AT, hjk, rfl, HA, HT, HB⟩ := hrel
        by_cases hjl : j < k
        · have hjI : (j : Int) < (k : Int) := by omega
          have hjI0 : (0 : Int) ≤ (j : Int) := by omega
          have hjq : j < Q.length := by have := HnQ.out.1; omega
          obtain ⟨bl, ol, rfl, _, dl⟩ := (HAl.out wr HB.out).2.2.1.at' j (by rw [natI_len]; exact hjq)
          rw [natI_at Q j hjq] at dl
          have hyk := (HM.out.2.get hjq).1
          have HT2 := hid0 (HT.out.step HM.out.2 hjq)
          have hfr := World.ownsRow.frozenAt HA.out (Q.getD j 0)
          have hATl := HT.out.len
          have hcell : wr.cell? ⟨ga, Q.getD j 0, none⟩ = some (.int .i64 ((AT.getD (Q.getD j 0) 0 : Nat) : Int)) := by
            have h := HnQ.out
            rw [World.ownsRow.cellAt HA.out (Q.getD j 0) (by omega), List.getElem?_map, List.getElem?_eq_getElem (by rw [natI_len]; omega), natI_at AT _ (by omega)]
            rfl
          obtain ⟨ws, hws⟩ : ∃ ws, ws = wr.setCell ⟨ga, Q.getD j 0, none⟩ (.int .i64 (j : Int)) := ⟨_, rfl⟩
          have HA2 : Hid (ws.ownsRow w1.heap.size 3 1 (.slice (some ⟨ga, 0, none⟩) k ca) k ((natI (AT.set (Q.getD j 0) j)).map (Value.int .i64))) := hid0 (by
            have h := (World.ownsRow.stored HA.out (Q.getD j 0) (.int .i64 (j : Int))).1
            rw [hws, natI_set, List.map_set]
            exact h)
          have HB2 : Hid (Below w1.heap.size w1 ws) := hid0 (by
            rw [hws]
            exact HB.out.trans ((Only.setCell wr ga (Q.getD j 0) (.int .i64 (j : Int))).below HB.out.size (fun i hi => by rw [hi]; exact hg1)))
          have hyn : Q.getD j 0 < k := by have h := HnQ.out; omega
          have hws' := hws.symm
          clear hws HA HT HB hATl hyk
          generalize AT.getD (Q.getD j 0) 0 = old at *
          generalize hyy : Q.getD j 0 = y at *
          have HyE := hid0 hyy
          clear hyy
          have hyI : (y : Int) < (k : Int) := by omega
          have hyI0 : (0 : Int) ≤ (y : Int) := by omega
          go_wp2
          go_roundw
          case rel => exact ⟨j + 1, _, by omega, by go_num, HA2, HT2, HB2⟩
          case measure => simp [intOf]; omega
        · have hjI : ¬ (j : Int) < (k : Int) := by omega
          have HAT : Hid (∀ y, y < N.length → AT.getD y 0 = Q.idxOf y) := hid0 (fun y hy => by
            have h := HT.out
            have e : j = Q.length := by have := HnQ.out.1; omega
            rw [e] at h
            exact h.done HM.out.2 hy)
          have hATl := HT.out.len
          obtain ⟨x0, x1, x2⟩ := (HAl.out wr HB.out).2.2.2.1.c
          have hix := (HM.out.2.at hs0).1
          have hst : wr.cell? ⟨ga, s0, none⟩ = some (.int .i64 ((Q.idxOf s0 : Nat) : Int)) := by
            have h := HnQ.out
            rw [World.ownsRow.cellAt HA.out s0 (by omega), List.getElem?_map, List.getElem?_eq_getElem (by rw [natI_len]; omega), natI_at AT _ (by omega), HAT.out s0 hs0]
            rfl
          have hsI : (s0 : Int) < (k : Int) := by have h := HnQ.out; omega
          have hsI0 : (0 : Int) ≤ (s0 : Int) := by omega
          have hixb : Q.idxOf s0 < 1100000 := by have h := HnQ.out; omega
          have HATl := hid0 hATl
          clear hATl HT hix
          obtain ⟨wo, hwo⟩ : ∃ wo, wo = wr := ⟨_, rfl⟩
          subst hwo
          have hixW : IntKind.i64.wrap (((Q.idxOf s0 : Nat) : Int) + (k : Int)) = ((Q.idxOf s0 : Nat) : Int) + (k : Int) := by simp [IntKind.wrap, IntKind.bits, IntKind.signed]; omega
          obtain ⟨w3, hw3⟩ : ∃ w3, w3 = wo.alloc (.cells #[.int .i64 (((Q.idxOf s0 : Nat) : Int) + (k : Int)), .slice none 0 0, .slice none 0 0] 24) := ⟨_, rfl⟩
          have hB3 : Below wo.heap.size wo w3 := by rw [hw3]; exact below_alloc _ _
          have HMk : Hid (MkM w3 w1.heap.size wo.heap.size (((Q.idxOf s0 : Nat) : Int) + (k : Int)) (.slice none 0 0) (.slice none 0 0) [] []) := hid0 (mkM_new (by rw [hw3]; exact heap_alloc_new _ _) HB.out.size)
          have HA3 := hid0 (row_later HA.out hB3)
          have HB3 := hid0 (Below.later HB.out hB3)
          clear hB3
          go_wp2
          rw [← hw3]
          clear hw3 x0 x1 x2 hst HA hixW
          go_loopw [12] (fun i wr => ∃ (p : Nat) (vN vO : Value) (pN pO : Lot), p ≤ 2 * k ∧ i = .int .i64 (p : Int) ∧ Hid (MkM wr w1.heap.size wo.heap.size (((Q.idxOf s0 : Nat) : Int) + (k : Int)) vN vO pN pO) ∧ Hid (pN.map (·.2) = (dbN N Q m).take p ∧ pO.map (·.2) = (dbO O Q).take p) ∧ Hid (wr.ownsRow w1.heap.size 3 1 (.slice (some ⟨ga, 0, none⟩) k ca) k ((natI AT).map (Value.int .i64))) ∧ Hid (Below w1.heap.size w1 wr)) (fun i _ => 2 * k - (intOf i).toNat)
          case atStart => exact ⟨0, _, _, [], [], Nat.zero_le _, rfl, HMk, hid0 ⟨rfl, rfl⟩, HA3, HB3⟩
          case round =>
            clear HMk HA3 HB3
            obtain ⟨p, vN, vO, pN, pO, hp, rfl, HMk, HTk, HA, HBr⟩ := hrel
            obtain ⟨wi, hwi⟩ : ∃ wi, wi = wr := ⟨_, rfl⟩
            subst hwi
            have hbi := HBr.out.size
            have hk2W : IntKind.i64.wrap (2 * (k : Int)) = 2 * (k : Int) := by simp [IntKind.wrap, IntKind.bits, IntKind.signed]; omega
            by_cases hplt : p < 2 * k
            · have hpI : (p : Int) < 2 * (k : Int) := by omega
              have hrem := tmod_nat p k
              have hk0 : ¬ (k : Int) = 0 := by omega
              have hkB : ((k : Int) == 0) = false := by simp; omega
              have hpk : p % k < k := Nat.mod_lt _ hn
              obtain ⟨bl, ol, rfl, _, dl⟩ := (HAl.out wi HBr.out).2.2.1.at' (p % k) (by rw [natI_len, ← HnQ.out.1]; exact hpk)
              have dl' : wi.cell? ⟨bl, ol + p % k, none⟩ = some (.int .i64 ((dbF Q p : Nat) : Int)) := by
                rw [dl, natI_at Q (p % k) (by rw [← HnQ.out.1]; exact hpk)]
                unfold dbF
                rw [← HnQ.out.1]
              clear dl
              have hsl : dbF Q p < N.length := dbF_lt HM.out.2 hn0 p
              generalize hrr : p % k = rp at *
              have HRr := hid0 hrr
              clear hrr
              have hrI : (rp : Int) < (k : Int) := by omega
              have hrI0 : (0 : Int) ≤ (rp : Int) := by omega
              have hrW : IntKind.i64.wrap (rp : Int) = (rp : Int) := by simp [IntKind.wrap, IntKind.bits, IntKind.signed]; omega
              obtain ⟨x0, x1, x2⟩ := (HAl.out wi HBr.out).2.2.2.1.c
              go_wp2
              clear x0 x1 x2 hrem hrW
              go_loopw [13, 16] (fun v j wr => ∃ c : Nat, c ≤ m ∧ j = .int .i64 (c : Int) ∧ Hid (OwnI wr wi.heap.size v (natI (dbR N Q p c))) ∧ Hid (Below wi.heap.size wi wr)) (fun _ j _ => m - (intOf j).toNat)
              case atStart => exact ⟨0, Nat.zero_le _, rfl, hid0 (World.ownsRow_nil _ _ _ _), hid0 (Below.refl _ _)⟩
              case round =>
                obtain ⟨c, hcm, rfl, HRo, HBc⟩ := hrel
                have hbc := HBc.out.size
                have HB1c := hid0 (Below.later HBr.out HBc.out)
                obtain ⟨x0, x1, x2⟩ := (HAl.out wr HB1c.out).2.2.2.1.c
                by_cases hclt : c < m
                · have hcI : (c : Int) < (m : Int) := by omega
                  have hcI0 : (0 : Int) ≤ (c : Int) := by omega
                  have hsI2 : ((dbF Q p : Nat) : Int) < (N.length : Int) := by omega
                  have hsI3 : (0 : Int) ≤ ((dbF Q p : Nat) : Int) := by omega
                  obtain ⟨b1, o1, rfl, a1, c1, d1, i1⟩ := rwa_at (HAl.out wr HB1c.out).1 hsl
                  have hnx := HM.out.1.next hsl hclt
                  have hnl : (outF N (dbF Q p)).length = m := hnx.2.2
                  have hpl : c < (outF N (dbF Q p)).length := by rw [hnl]; exact hclt
                  obtain ⟨b4, o4, rfl, _, d4⟩ := i1.at' _ hpl
                  have d4' : wr.cell? ⟨b4, o4 + c, none⟩ = some (.int .i64 ((nxF N (dbF Q p) c : Nat) : Int)) := by
                    rw [d4]
                    have e : (outF N (dbF Q p))[c] = (outF N (dbF Q p)).getD c 0 := by rw [List.getD_eq_getElem?_getD, List.getElem?_eq_getElem hpl]; rfl
                    rw [e]
                    have := hnx.2.1
                    unfold outF
                    rw [this]
                  have hyl := hnx.1
                  have hat : wr.cell? ⟨ga, nxF N (dbF Q p) c, none⟩ = some (.int .i64 ((Q.idxOf (nxF N (dbF Q p) c) : Nat) : Int)) := by
                    have h := HnQ.out
                    have h2 := HATl.out
                    rw [World.ownsRow.cellAt (row_later HA.out HBc.out) (nxF N (dbF Q p) c) (by omega), List.getElem?_map, List.getElem?_eq_getElem (by rw [natI_len]; omega), natI_at AT _ (by omega), HAT.out _ hyl]
                    rfl
                  have hyb := (HM.out.2.at hyl).1
                  have hyk : nxF N (dbF Q p) c < k := by have h := HnQ.out; omega
                  have HDc : Hid (dbC N Q p c = Q.idxOf (nxF N (dbF Q p) c) + k * ((p + c) % 2)) := hid0 (by rw [HnQ.out.1]; rfl)
                  have hrem2 : ((p : Int) + (c : Int)).tmod 2 = (((p + c) % 2 : Nat) : Int) := by
                    have := tmod_nat (p + c) 2
                    push_cast at this ⊢
                    exact this
                  have HRs := hid0 (dbR_succ N Q p c)
                  have HRl : Hid ((natI (dbR N Q p c)).length = c) := hid0 (by rw [natI_len]; unfold dbR; simp)
                  have hpcI : (c : Int) < ((outF N (dbF Q p)).length : Int) := by omega
                  have hzb : k * ((p + c) % 2) ≤ 1100000 := by
                    have : (p + c) % 2 = 0 ∨ (p + c) % 2 = 1 := by omega
                    rcases this with e | e <;> rw [e] <;> omega
                  have hq2 : (p + c) % 2 ≤ 1 := by omega
                  generalize (p + c) % 2 = q2 at *
                  have hmul : (k : Int) * (q2 : Int) = ((k * q2 : Nat) : Int) := by push_cast; rfl
                  generalize k * q2 = z at *
                  have hib : Q.idxOf (nxF N (dbF Q p) c) < 1100000 := by have h := HnQ.out; omega
                  generalize Q.idxOf (nxF N (dbF Q p) c) = iy at *
                  clear d4 hnx hnl hpl i1 hyl hyb
                  generalize nxF N (dbF Q p) c = y at *
                  generalize (outF N (dbF Q p)).length = ln at *
                  have hyI : (y : Int) < (k : Int) := by omega
                  have hyI0 : (0 : Int) ≤ (y : Int) := by omega
                  have w1W : IntKind.i64.wrap ((p : Int) + (c : Int)) = (p : Int) + (c : Int) := by simp [IntKind.wrap, IntKind.bits, IntKind.signed]; omega
                  have w2W : IntKind.i64.wrap (q2 : Int) = (q2 : Int) := by simp [IntKind.wrap, IntKind.bits, IntKind.signed]; omega
                  have w3W : IntKind.i64.wrap (z : Int) = (z : Int) := by simp [IntKind.wrap, IntKind.bits, IntKind.signed]; omega
                  have w4W : IntKind.i64.wrap ((iy : Int) + (z : Int)) = (iy : Int) + (z : Int) := by simp [IntKind.wrap, IntKind.bits, IntKind.signed]; omega
                  have HOk : Hid (wr.ownsRow wi.heap.size 3 1 u13 c ((natI (dbR N Q p c)).map (Value.int .i64))) := hid0 (by have h := HRo.out; unfold OwnI at h; rw [HRl.out] at h; exact h)
                  obtain ⟨av, cv, ev⟩ := own_sl HOk.out
                  subst ev
                  go_wp2_with (at_builtin; go_loud ((
                    refine wpList_append_own_at _ rfl _ _ 25 rfl wi.heap.size 3 j0 (.int .i64 0) 1 8 Tryd.underlying25 hj hy0 hy1 hy2 rfl (by decide) (.slice av c cv) c ((natI (dbR N Q p c)).map (Value.int .i64)) rfl (World.ownsRow.alloc HOk.out _) ⟨wr.heap.size, 0, none⟩ 1 1 [.int .i64 ((iy : Int) + (z : Int))] rfl rfl (cell_one_new _ _ _) (by simp [Value.oneCell']) (by unfold maxLen; omega) (by omega) (by simp; omega) ?_
                    intro v2 w5 hown2 hgrow2 _ _
                    have HB5 := hid0 (own_snoc HOk.out hgrow2 HBc.out (Nat.le_refl _))
                    have HO5 : Hid (OwnI w5 wi.heap.size v2 (natI (dbR N Q p (c + 1)))) := hid0 (by
                      unfold OwnI
                      rw [HRs.out, natI_snoc, List.length_append, HRl.out, List.map_append, HDc.out]
                      push_cast
                      exact hown2)
                    clear hown2 hgrow2)))
                  go_roundw
                  case rel => exact ⟨c + 1, by omega, by go_num, HO5, HB5⟩
                  case measure => simp [intOf]; omega
                · have hcI : ¬ (c : Int) < (m : Int) := by omega
                  have ecm : c = m := by omega
                  rw [ecm] at HRo
                  clear ecm
                  have hso : dbF Q p < O.length := by have := HM.out.1.out; omega
                  obtain ⟨bO, oO, rfl, _, a1, c1, d1, i1, n1⟩ := (HAl.out wr HB1c.out).2.1.at' (dbF Q p) hso
                  have e0 : O[dbF Q p] = outF O (dbF Q p) := by rw [outF, List.getD_eq_getElem?_getD, List.getElem?_eq_getElem hso]; rfl
                  rw [e0] at d1 i1
                  have hol := HOr.out _ (List.getElem_mem hso)
                  rw [e0] at hol
                  clear e0
                  have HI1 := hid0 i1
                  have HN1 := hid0 n1
                  clear i1 n1
                  have hsI2 : ((dbF Q p : Nat) : Int) < (O.length : Int) := by omega
                  have hsI3 : (0 : Int) ≤ ((dbF Q p : Nat) : Int) := by omega
                  have hk2 : p < 2 * Q.length := by have := HnQ.out.1; omega
                  have HTn := hid0 (And.intro (dbN_take (N := N) (m := m) hk2) (dbO_take (O := O) hk2))
                  generalize outF O (dbF Q p) = oo at *
                  generalize natI (dbR N Q p m) = rr at *
                  generalize dbF Q p = sp at *
                  obtain ⟨aR, cR, eR, _⟩ := HRo.out.ia
                  subst eR
                  have HpN : Hid (pN.length = p ∧ pO.length = p) := hid0 (by
                    have h1 := congrArg List.length HTk.out.1
                    have h2 := congrArg List.length HTk.out.2
                    have h3 := dbl_len N O Q m
                    rw [List.length_map, List.length_take] at h1 h2
                    omega)
                  obtain ⟨aV, cV, eV⟩ : ∃ a c, vN = .slice a p c := by have h := own_sl HMk.out.bN.outer; rw [HpN.out.1] at h; exact h
                  obtain ⟨aU, cU, eU⟩ : ∃ a c, vO = .slice a p c := by have h := own_sl HMk.out.bO.outer; rw [HpN.out.2] at h; exact h
                  subst eV
                  subst eU
                  have HAway : Hid ((∀ y ∈ pN, ∀ g, y.1.ownBlock = some g → g < wi.heap.size) ∧ ∀ y ∈ pO, ∀ g, y.1.ownBlock = some g → g < wi.heap.size) := hid0 ⟨fun y hy g hg => (World.ownsRow.lt (HMk.out.bN.row y hy) g hg).2, fun y hy g hg => (World.ownsRow.lt (HMk.out.bO.row y hy) g hg).2⟩
                  go_upto_region 22 with (at_builtin; go_loud ((
                    refine wpList_spreadI rfl _ _ rfl a1 oo c1 wi.heap.size rfl rfl HN1.out HI1.out (by omega) (by omega) ?_
                    intro v5 w5 hown5 hgrow5
                    have hB5 := (Below.refl wr.heap.size wr).grown hgrow5 (Nat.le_refl _) (fun k hk => by cases hk)
                    have HE5 := hid0 hown5
                    have HB5 := hid0 hB5
                    clear hown5 hgrow5 hB5)))
                  have HMk5 := hid0 (HMk.out.past (Below.later HBc.out HB5.out))
                  have HR5 : Hid (OwnI w5 wi.heap.size (.slice aR rr.length cR) rr) := hid0 (HRo.out.past HB5.out)
                  have HA5 := hid0 (row_later (row_later HA.out HBc.out) HB5.out)
                  have HBx5 := hid0 (Below.later HB1c.out HB5.out)
                  obtain ⟨aE, cE, eE, _⟩ := HE5.out.ia
                  subst eE
                  obtain ⟨y0, y1, y2, yf⟩ := HMk5.out.c
                  have HMx := hid0 HMk5.out.box
                  have HbN5 : Hid (w5.ownsRow w1.heap.size 25 1 (.slice aV p cV) p (pN.map (·.1))) := hid0 (by have h := HMk5.out.bN.outer; rw [HpN.out.1] at h; exact h)
                  have hs5 := HBx5.out.size
                  clear HMk HRo HA HBc HB1c HBr HB5 x0 x1 x2 d1 HI1 HN1
                  go_upto_region 23 with (at_builtin; go_loud ((
                    refine wpList_append_own_at _ rfl _ _ 22 rfl w1.heap.size 25 i0 (.slice none 0 0) 1 24 Tryd.underlying22 hi hz0 hz1 hz2 rfl (by decide) (.slice aV p cV) p (pN.map (·.1)) rfl (World.ownsRow.alloc HbN5.out _) ⟨w5.heap.size, 0, none⟩ 1 1 [.slice aR rr.length cR] rfl rfl (cell_one_new _ _ _) (by simp [Value.oneCell']) (by unfold maxLen; omega) (by omega) (by simp; omega) ?_
                    intro v6 w6 hown6 hgrow6 _ hat6
                    obtain ⟨a6, c6, e6⟩ := own_sl hown6
                    subst e6
                    obtain ⟨rb, rm, rf⟩ := HMk5.out.addN (x := .slice aR rr.length cR) (l := rr) (owns_lower HR5.out hbi) (fun y hy g hg hx => by have h1 := HAway.out.1 y hy g hg; have h2 := (World.ownsRow.lt HR5.out g hx).1; omega) (by rw [HpN.out.1]; exact hown6) hgrow6 hat6
                    obtain ⟨g0, g1, g2, gf⟩ := box_c rb
                    obtain ⟨W6, hW6⟩ : ∃ W6, w6.setCell ⟨wo.heap.size, 1, none⟩ (.slice a6 (p + 1) c6) = W6 := ⟨_, rfl⟩
                    rw [hW6] at rm rf
                    have HM6 := hid0 rm
                    have HF6 := hid0 rf
                    have HB6 := hid0 rb
                    clear rb rm rf hown6 hgrow6 hat6)))
                  clear hW6 g0 g1 g2 gf y0 y1 y2 yf HbN5 HMk5 HB6
                  have HE6 : Hid (OwnI W6 wi.heap.size (.slice aE oo.length cE) oo) := hid0 (HF6.out.own ⟨_, HMx.out⟩ HE5.out)
                  have HA6 : Hid (OwnI W6 w1.heap.size (.slice (some ⟨ga, 0, none⟩) k ca) (natI AT)) := hid0 (HF6.out.own ⟨_, HMx.out⟩ (by unfold OwnI; rw [natI_len, HATl.out, ← HnQ.out.1]; exact HA5.out))
                  have HBx6 := hid0 (HF6.out.below HBx5.out (Nat.le_refl _))
                  have hs6 := HBx6.out.size
                  have HbO6 : Hid (W6.ownsRow w1.heap.size 25 1 (.slice aU p cU) p (pO.map (·.1))) := hid0 (by have h := HM6.out.bO.outer; rw [HpN.out.2] at h; exact h)
                  obtain ⟨y0, y1, y2, yf⟩ := HM6.out.c
                  go_wp2_with (at_builtin; go_loud ((
                    refine wpList_append_own_at _ rfl _ _ 22 rfl w1.heap.size 25 i0 (.slice none 0 0) 1 24 Tryd.underlying22 hi hz0 hz1 hz2 rfl (by decide) (.slice aU p cU) p (pO.map (·.1)) rfl (World.ownsRow.alloc HbO6.out _) ⟨W6.heap.size, 0, none⟩ 1 1 [.slice aE oo.length cE] rfl rfl (cell_one_new _ _ _) (by simp [Value.oneCell']) (by unfold maxLen; omega) (by omega) (by simp; omega) ?_
                    intro v7 w7 hown7 hgrow7 _ hat7
                    obtain ⟨a7, c7, e7⟩ := own_sl hown7
                    subst e7
                    obtain ⟨rb, rm, rf⟩ := HM6.out.addO (x := .slice aE oo.length cE) (l := oo) (owns_lower HE6.out hbi) (fun y hy g hg hx => by have h1 := HAway.out.2 y hy g hg; have h2 := (World.ownsRow.lt HE6.out g hx).1; omega) (by rw [HpN.out.2]; exact hown7) hgrow7 hat7
                    obtain ⟨g0, g1, g2, gf⟩ := box_c rb
                    obtain ⟨W7, hW7⟩ : ∃ W7, w7.setCell ⟨wo.heap.size, 2, none⟩ (.slice a7 (p + 1) c7) = W7 := ⟨_, rfl⟩
                    rw [hW7] at rm rf
                    have HM7 := hid0 rm
                    have HF7 := hid0 rf
                    clear rb rm rf hown7 hgrow7 hat7)))
                  have HA7 : Hid (W7.ownsRow w1.heap.size 3 1 (.slice (some ⟨ga, 0, none⟩) k ca) k ((natI AT).map (Value.int .i64))) := hid0 (by
                    have h := HF7.out.own ⟨_, HM6.out.box⟩ HA6.out
                    unfold OwnI at h
                    rw [natI_len, HATl.out, ← HnQ.out.1] at h
                    exact h)
                  have HBx7 := hid0 (HF7.out.below HBx6.out (Nat.le_refl _))
                  have HTk7 : Hid ((pN ++ [(Value.slice aR rr.length cR, rr)] : Lot).map (·.2) = (dbN N Q m).take (p + 1) ∧ (pO ++ [(Value.slice aE oo.length cE, oo)] : Lot).map (·.2) = (dbO O Q).take (p + 1)) := hid0 (by
                    rw [HTn.out.1, HTn.out.2, List.map_append, List.map_append, HTk.out.1, HTk.out.2]
                    exact ⟨rfl, rfl⟩)
                  go_roundw
                  case rel => exact ⟨p + 1, _, _, _, _, by omega, by go_num, HM7, HTk7, HA7, HBx7⟩
                  case measure => simp [intOf]; omega
            · have hpI : ¬ (p : Int) < 2 * (k : Int) := by omega
              have HTe : Hid (pN.map (·.2) = dbN N Q m ∧ pO.map (·.2) = dbO O Q) := hid0 (by
                have h := HTk.out
                have h3 := dbl_len N O Q m
                have h4 := HnQ.out.1
                rw [List.take_of_length_le (by omega), List.take_of_length_le (by omega)] at h
                exact h)
              have hR := (HAl.out wi HBr.out).2.2.2.2.1
              obtain ⟨v1, v2, v3, hl⟩ := laidZ (.int .i64 (((Q.idxOf s0 : Nat) : Int) + (k : Int))) vN vO hR
              obtain ⟨aD, cD, eD, qD⟩ := (HMk.out.bN.only2 hl.only hR).rwq
              obtain ⟨aE, cE, eE, qE⟩ := (HMk.out.bO.only2 hl.only hR).rwq
              rw [HTe.out.1] at eD qD
              rw [HTe.out.2] at eE qE
              have HFin : Hid (DbB w.heap.size v3 vN vO (dbN N Q m) (dbO O Q) ∧ Below w.heap.size w v3) := hid0 ⟨⟨pN, pO, (HMk.out.bN.only2 hl.only hR).low HLo1.out, (HMk.out.bO.only2 hl.only hR).low HLo1.out, HTe.out⟩, (HAl.out wi HBr.out).2.2.2.2.2.trans (hl.only.below (HAl.out wi HBr.out).2.2.2.2.2.size (fun i hi => by rw [hi]; exact HLo.out))⟩
              subst eD
              subst eE
              have HR := hid0 hl.r
              have g1 := hl.g1
              have g2 := hl.g2
              have g3 := hl.g3
              obtain ⟨z0, z1, z2⟩ := hl.z
              have a1 := hl.a1
              have a2 := hl.a2
              have f0 := hl.f0
              have f1 := hl.f1
              have f2 := hl.f2
              obtain ⟨y0, y1, y2, yf⟩ := HMk.out.c
              clear hl hR qD qE HMk HTk HTe HA
              go_wp2
              (try simp only [Exit.inBlock, Exit.then])
              refine bodyPost_ret (results_cell_row rfl _ _ w0.heap.size 24 _ _ _ rfl HR.out Tryd.underlying24 rfl (by kernel_rfl)) rfl ?_
              exact ⟨aD, cD, aE, cE, rfl, HFin.out⟩
end Go.Proofs.YtjemjccgfgijiaaDoor
namespace Go.Proofs.YtjemjccgfgijiaaDoor
open Go.RowKit Go.Shelf
/-- A case of MinimalOne, in a box. -/
structure TBox (w : World) (X : Nat) (sa sy : Int) (vN vO vL : Value) : Prop where
  r : w.heap[X]? = some (.cells #[.int .i64 sa, vN, vO, .int .i64 sy, vL] 43 (0, 0))
theorem TBox.c {w : World} {X : Nat} {sa sy : Int} {vN vO vL : Value} (h : TBox w X sa sy vN vO vL) : w.cell? ⟨X, 0, none⟩ = some (.int .i64 sa) ∧ w.cell? ⟨X, 1, none⟩ = some vN ∧ w.cell? ⟨X, 2, none⟩ = some vO ∧ w.cell? ⟨X, 3, none⟩ = some (.int .i64 sy) ∧ w.cell? ⟨X, 4, none⟩ = some vL := by
  refine ⟨?_, ?_, ?_, ?_, ?_⟩ <;> (rw [cell_of_row _ _ _ _ _ _ h.r]; rfl)
theorem TBox.past {w w' : World} {X : Nat} {sa sy : Int} {vN vO vL : Value} (h : TBox w X sa sy vN vO vL) (hb : Below w.heap.size w w') : TBox w' X sa sy vN vO vL := ⟨(hb.block _ (Array.getElem?_eq_some_iff.1 h.r).1).trans h.r⟩
/-- The double in a box. -/
def DbX (w2 wx : World) (B : Nat) (N O : List (List Int)) (Q : List Nat) (m s0 : Nat) (d : Int) (aD aE : Option Addr) (cD cE : Nat) : Prop := d = ((Q.idxOf s0 + Q.length : Nat) : Int) ∧ Prm N.length Q ∧ RwA wx aD (dbN N Q m) ∧ RwA wx aE (dbO O Q) ∧ MBox wx B d (.slice aD (dbN N Q m).length cD) (.slice aE (dbO O Q).length cE) ∧ Below w2.heap.size w2 wx
theorem dbX_of {w2 w4 w5 v1 v2 v3 : World} {B lo m s0 : Nat} {N O : List (List Int)} {Q : List Nat} {d : Int} {aD aE : Option Addr} {cD cE : Nat} (hl : LaidZ w5 v1 v2 v3 B (.int .i64 d) (.slice aD (dbN N Q m).length cD) (.slice aE (dbO O Q).length cE)) (hr : ∃ rc, w5.heap[B]? = some (.cells rc 24 (0, 0))) (h45 : Below w4.heap.size w4 w5) (hd : d = ((Q.idxOf s0 + Q.length : Nat) : Int) ∧ DbB lo w4 (.slice aD (dbN N Q m).length cD) (.slice aE (dbO O Q).length cE) (dbN N Q m) (dbO O Q)) (hq : Prm N.length Q) (hb : Below w2.heap.size w2 v3) : DbX w2 v3 B N O Q m s0 d aD aE cD cE := by
  obtain ⟨rc, hr⟩ := hr
  obtain ⟨h1, h2, _⟩ := ((hd.2.later h45).only2 hl.only hr).rwa
  exact ⟨hd.1, hq, h1, h2, ⟨hl.r⟩, hb⟩
/-- A new box, and a machine laid into it. -/
theorem laid_new {w2 : World} (w4 : World) (z a b : Value) (h : Below w2.heap.size w2 w4) : ∃ w5 v1 v2 v3, w4.alloc (.cells #[.int .i64 0, .slice none 0 0, .slice none 0 0] 24) = w5 ∧ LaidZ w5 v1 v2 v3 w4.heap.size z a b ∧ (Below w4.heap.size w4 w5 ∧ Below w2.heap.size w2 v3) ∧ ∃ rc, w5.heap[w4.heap.size]? = some (.cells rc 24 (0, 0)) := by
  obtain ⟨v1, v2, v3, hl⟩ := laidZ (W := w4.alloc (.cells #[.int .i64 0, .slice none 0 0, .slice none 0 0] 24)) (R := w4.heap.size) z a b (heap_alloc_new _ _)
  have hb := below_alloc w4 (.cells #[.int .i64 0, .slice none 0 0, .slice none 0 0] 24)
  refine ⟨_, v1, v2, v3, rfl, hl, ⟨hb, ?_⟩, _, heap_alloc_new _ _⟩
  have h1 := Below.later h hb
  exact h1.trans (hl.only.below h1.size (fun k hk => by rw [hk]; exact h.size))
theorem laid_b {w2 w3 w4 : World} (z a b : Value) (h : Below w2.heap.size w2 w4) (hb : Below (w3.alloc (.cells #[.int .i64 0, .slice none 0 0, .slice none 0 0] 24)).heap.size (w3.alloc (.cells #[.int .i64 0, .slice none 0 0, .slice none 0 0] 24)) w4) (h3 : Below w2.heap.size w2 w3) : ∃ v1 v2 v3, LaidZ w4 v1 v2 v3 w3.heap.size z a b ∧ Below w2.heap.size w2 v3 ∧ ∃ rc, w4.heap[w3.heap.size]? = some (.cells rc 24 (0, 0)) := by
  have hr : w4.heap[w3.heap.size]? = some (.cells #[.int .i64 0, .slice none 0 0, .slice none 0 0] 24 (0, 0)) := (hb.block _ (by simp)).trans (heap_alloc_new _ _)
  obtain ⟨v1, v2, v3, hl⟩ := laidZ z a b hr
  exact ⟨v1, v2, v3, hl, h.trans (hl.only.below h.size (fun k hk => by rw [hk]; exact h3.size)), _, hr⟩
theorem laid_c {w2 w3 w4 : World} (z a b : Value) (h : Below w2.heap.size w2 w4) (hb : Below (w2.alloc (.cells #[.int .i64 0, .slice none 0 0, .slice none 0 0] 24)).heap.size (w2.alloc (.cells #[.int .i64 0, .slice none 0 0, .slice none 0 0] 24)) w3) (h4 : Below w3.heap.size w3 w4) : ∃ v1 v2 v3, LaidZ w4 v1 v2 v3 w2.heap.size z a b ∧ Below w2.heap.size w2 v3 ∧ ∃ rc, w4.heap[w2.heap.size]? = some (.cells rc 24 (0, 0)) := by
  have hr : w4.heap[w2.heap.size]? = some (.cells #[.int .i64 0, .slice none 0 0, .slice none 0 0] 24 (0, 0)) := (h4.block _ (by have := hb.size; simp at this; omega)).trans ((hb.block _ (by simp)).trans (heap_alloc_new _ _))
  obtain ⟨v1, v2, v3, hl⟩ := laidZ z a b hr
  exact ⟨v1, v2, v3, hl, h.trans (hl.only.below h.size (fun k hk => by rw [hk]; exact Nat.le_refl _)), _, hr⟩
theorem laid_d {w2 w3 w4 : World} (z a b : Value) (h : Below w2.heap.size w2 w4) (hb : Below (w2.alloc (.cells #[.int .i64 0, .slice none 0 0, .slice none 0 0] 24)).drew.heap.size (w2.alloc (.cells #[.int .i64 0, .slice none 0 0, .slice none 0 0] 24)).drew w3) (h4 : Below w3.heap.size w3 w4) : ∃ v1 v2 v3, LaidZ w4 v1 v2 v3 w2.heap.size z a b ∧ Below w2.heap.size w2 v3 ∧ ∃ rc, w4.heap[w2.heap.size]? = some (.cells rc 24 (0, 0)) := laid_c z a b h ⟨hb.os, hb.tape, hb.output, hb.size, hb.block⟩ h4
set_option maxRecDepth 10000 in
set_option maxHeartbeats 3200000 in
theorem minimalOne_any (x : Addr) (sa sy : Int) (N O : List (List Int)) (L : List Int) (aN aO aL : Option Addr) (cN cO cL : Nat) (w : World) (hs : SmlO N O) (hn : N.length ≤ 1048576) (hnr : ∀ r ∈ N, r.length ≤ 1048576) (hnm : ∀ m : Nat, (∀ r ∈ N, r.length = m) → N.length * m ≤ 1048576) (hL : L.length ≤ 1048576) (rN : RwN w aN N) (rO : RwN w aO O) (rL : IA w aL L) (he : E1 w x) :
    Calls Tryd.prog 5 #[.agg #[.int .i64 sa, .slice aN N.length cN, .slice aO O.length cO, .int .i64 sy, .slice aL L.length cL]] w fun e w' => e = .returned (.bool true) ∧ Below w.heap.size w w' := by
  obtain ⟨w0, hw0⟩ : ∃ w0, w0 = w.alloc (.cells #[.int .i64 sa, .slice aN N.length cN, .slice aO O.length cO, .int .i64 sy, .slice aL L.length cL] 43) := ⟨_, rfl⟩
  have hB0 : Below w.heap.size w w0 := by rw [hw0]; exact below_alloc _ _
  have hX0 : TBox w0 w.heap.size sa sy (.slice aN N.length cN) (.slice aO O.length cO) (.slice aL L.length cL) := ⟨by rw [hw0]; exact heap_alloc_new w _⟩
  have HAl : Hid (∀ V : World, Below w0.heap.size w0 V → (RwN V aN N ∧ RwN V aO O ∧ IA V aL L) ∧ E1 V x ∧ Below w.heap.size w V ∧ TBox V w.heap.size sa sy (.slice aN N.length cN) (.slice aO O.length cO) (.slice aL L.length cL)) := hid0 (fun V hV => by
    have h := Below.later hB0 hV
    exact ⟨⟨rN.past h, rO.past h, rL.past h⟩, he.below h, h, hX0.past hV⟩)
  obtain ⟨x0, x1, x2, x3, x4⟩ := hX0.c
  obtain ⟨big1, big2, big3⟩ := hs.big
  have HKn := hid0 (known_any x w0 (he.below hB0))
  have HMb : Hid (∀ V : World, Below w0.heap.size w0 V → Calls Tryd.prog 9 #[.agg #[.int .i64 sa, .slice aN N.length cN, .slice aO O.length cO], .int .i64 sy] V fun e w' => e = .returned (.bool (mayF sa N O sy)) ∧ Below V.heap.size V w') := hid0 (fun V hV => refMayBe_any sa sy N O aN aO cN cO V big1 big2 big3 (HAl.out V hV).1.1.rwa (HAl.out V hV).1.2.1.rwa)
  have hfold := hw0.symm
  clear hw0 hB0 hX0 rN rO rL he
  cases hmay : mayF sa N O sy with
  | false =>
    rw [hmay] at HMb
    clear hmay hs big1 big2 big3
    go_enter Tryd.func5, Tryd.ntmps5
    go_wp2_with (first
      | (go_at_call 8; go_loud ((refine HKn.out.mono ?_; rintro e w1 ⟨rfl, hb1⟩; have HB1 := hid0 hb1; obtain ⟨y0, y1, y2, y3, y4⟩ := (HAl.out w1 hb1).2.2.2.c; clear hb1 x0 x1 x2 x3 x4)))
      | (go_at_call 9; go_loud ((refine (HMb.out w1 HB1.out).mono ?_; rintro e w2 ⟨rfl, hb2⟩; have HB2 := hid0 (Below.later HB1.out hb2); clear hb2 y0 y1 y2 y3 y4))))
    go_ret
    exact ⟨rfl, (HAl.out _ HB2.out).2.2.1⟩
  | true =>
    rw [hmay] at HMb
    obtain ⟨m, hm, hmy⟩ := mayF_may hmay
    subst hm
    obtain ⟨s0, rfl⟩ : ∃ s0 : Nat, sa = (s0 : Int) := ⟨sa.toNat, by have := hmy.start; omega⟩
    have hn0 : 0 < N.length := by have := hmy.start; omega
    have hmb : m ≤ 1048576 := by
      have h1 := hmy.row _ (List.getElem_mem hn0)
      have h2 := hnr _ (List.getElem_mem hn0)
      omega
    have hnm' := hnm m hmy.row
    have HOrd : Hid (∀ B V : World, Below w0.heap.size w0 B → Below B.heap.size B V → Calls Tryd.prog 19 #[.slice aL L.length cL, .int .i64 (N.length : Int)] V fun e w' => ∃ (aQ : Option Addr) (cQ : Nat) (Q : List Nat), e = .returned (.slice aQ Q.length cQ) ∧ Hid (Prm N.length Q ∧ IA w' aQ (natI Q)) ∧ Hid (Below V.heap.size V w') ∧ Below B.heap.size B w') := hid0 (fun B V hB hV => (order_any L N.length aL cL V hn0 (by omega) (by omega) (HAl.out V (Below.later hB hV)).1.2.2).mono (fun e w' hh => by
      obtain ⟨v, Q, h1, h2, h3, h4⟩ := hh
      obtain ⟨aQ, cQ, rfl, h5⟩ := h2.ia
      rw [natI_len] at h1
      exact ⟨aQ, cQ, Q, h1, hid0 ⟨h3, h5⟩, hid0 h4, Below.later hV h4⟩))
    have HDb : Hid (∀ (B V : World) (aQ : Option Addr) (cQ : Nat) (Q : List Nat), Below w0.heap.size w0 B → Below B.heap.size B V → Prm N.length Q → IA V aQ (natI Q) → Calls Tryd.prog 18 #[.agg #[.int .i64 (s0 : Int), .slice aN N.length cN, .slice aO O.length cO], .slice aQ Q.length cQ, .int .i64 (m : Int)] V fun e w' => ∃ aD cD aE cE, ∃ d : Int, e = .returned (.agg #[.int .i64 d, .slice aD (dbN N Q m).length cD, .slice aE (dbO O Q).length cE]) ∧ Hid (d = ((Q.idxOf s0 + Q.length : Nat) : Int) ∧ DbB V.heap.size w' (.slice aD (dbN N Q m).length cD) (.slice aE (dbO O Q).length cE) (dbN N Q m) (dbO O Q)) ∧ Hid (Below V.heap.size V w') ∧ Below B.heap.size B w') := hid0 (fun B V aQ cQ Q hB hV hQ hI => (doubled_any s0 m Q.length N O Q aN aO aQ cN cO cQ V hmy hQ rfl (by omega) (by omega) hs.or (HAl.out V (Below.later hB hV)).1.1.rwa (HAl.out V (Below.later hB hV)).1.2.1 hI).mono (fun e w' hh => by
      obtain ⟨aD, cD, aE, cE, h1, h2, h4⟩ := hh
      exact ⟨aD, cD, aE, cE, _, h1, hid0 ⟨rfl, h2⟩, hid0 h4, Below.later hV h4⟩))
    have HMy := hid0 (And.intro hmay (And.intro hs hmy))
    have HBd := hid0 (And.intro hn (And.intro hmb hnm'))
    clear hmay hs big1 big2 big3 hmy hnr hnm hnm'
    go_enter Tryd.func5, Tryd.ntmps5
    go_upto_region 5 with (first
      | (go_at_call 8; go_loud ((refine HKn.out.mono ?_; rintro e w1 ⟨rfl, hb1⟩; have HB1 := hid0 hb1; obtain ⟨y0, y1, y2, y3, y4⟩ := (HAl.out w1 hb1).2.2.2.c; clear hb1 x0 x1 x2 x3 x4)))
      | (go_at_call 9; go_loud ((refine (HMb.out w1 HB1.out).mono ?_; rintro e w2 ⟨rfl, hb2⟩; have HB2 := hid0 (Below.later HB1.out hb2); clear hb2 y0 y1 y2 y3 y4))))
    have HSo : Hid (∀ V : World, Below w2.heap.size w2 V → V.cell? ⟨w.heap.size, 0, none⟩ = some (.int .i64 (s0 : Int)) ∧ V.cell? ⟨w.heap.size, 1, none⟩ = some (.slice aN N.length cN) ∧ V.cell? ⟨w.heap.size, 2, none⟩ = some (.slice aO O.length cO) ∧ V.cell? ⟨w.heap.size, 3, none⟩ = some (.int .i64 (m : Int)) ∧ V.cell? ⟨w.heap.size, 4, none⟩ = some (.slice aL L.length cL) ∧ Below w2.heap.size w2 V) := hid0 (fun V hV => by
      obtain ⟨c0, c1, c2, c3, c4⟩ := (HAl.out V (Below.later HB2.out hV)).2.2.2.c
      exact ⟨c0, c1, c2, c3, c4, hV⟩)
    obtain ⟨c0, c1, c2, c3, c4, b2⟩ := HSo.out w2 (below_refl0 w2)
    clear hfold HMb HKn
    go_cut [5] from 27 to 38 (fun v5 wx => ∃ (B : Nat) (Q : List Nat) (d : Int) (aD aE : Option Addr) (cD cE : Nat), v5 = .pointer (some ⟨B, 0, none⟩) ∧ Hid (DbX w2 wx B N O Q m s0 d aD aE cD cE))
    case first =>
     go_region_held3 (fun V => V.cell? ⟨w.heap.size, 0, none⟩ = some (.int .i64 (s0 : Int)) ∧ V.cell? ⟨w.heap.size, 1, none⟩ = some (.slice aN N.length cN) ∧ V.cell? ⟨w.heap.size, 2, none⟩ = some (.slice aO O.length cO) ∧ V.cell? ⟨w.heap.size, 3, none⟩ = some (.int .i64 (m : Int)) ∧ V.cell? ⟨w.heap.size, 4, none⟩ = some (.slice aL L.length cL) ∧ Below w2.heap.size w2 V) (first | exact HSo.out _ (by first | (go_grown; done) | (go_grown; omega)) | (go_split_ands; exact HSo.out _ (by first | (go_grown; done) | (go_grown; omega))) | (go_split_ands; exact HSo.out _ (by assumption)))
      (first
        | (go_at_call 19; go_split_ands; refine (HOrd.out w2 _ HB2.out (by go_grown)).mono ?_; rintro e w3 ⟨aQ, cQ, Q, rfl, HQ, HB3, hx3⟩; have hz3 := hx3.size)
        | (go_at_call 18; go_split_ands; refine (HDb.out w2 _ aQ cQ Q HB2.out (by first | (go_grown; done) | (go_grown; omega)) HQ.out.1 (by first | exact HQ.out.2 | exact HQ.out.2.past (below_alloc _ _))).mono ?_; rintro e w4 ⟨aD, cD, aE, cE, d, rfl, HD, HB4, hx4⟩; (first | (have hq := laid_b (.int .i64 d) (.slice aD (dbN N Q m).length cD) (.slice aE (dbO O Q).length cE) hx4 HB4.out hx3; obtain ⟨v1, v2, v3, hl, hx7, hrr⟩ := hq; have HDx := hid0 (dbX_of (s0 := s0) (lo := _) hl hrr (below_refl0 w4) HD.out HQ.out.1 hx7); clear hrr) | (have hq := laid_c (.int .i64 d) (.slice aD (dbN N Q m).length cD) (.slice aE (dbO O Q).length cE) hx4 HB3.out HB4.out; obtain ⟨v1, v2, v3, hl, hx7, hrr⟩ := hq; have HDx := hid0 (dbX_of (s0 := s0) (lo := _) hl hrr (below_refl0 w4) HD.out HQ.out.1 hx7); clear hrr) | (have hq := laid_d (.int .i64 d) (.slice aD (dbN N Q m).length cD) (.slice aE (dbO O Q).length cE) hx4 HB3.out HB4.out; obtain ⟨v1, v2, v3, hl, hx7, hrr⟩ := hq; have HDx := hid0 (dbX_of (s0 := s0) (lo := _) hl hrr (below_refl0 w4) HD.out HQ.out.1 hx7); clear hrr) | (obtain ⟨w5, v1, v2, v3, q5, hl, hx5, hrr⟩ := laid_new w4 (.int .i64 d) (.slice aD (dbN N Q m).length cD) (.slice aE (dbO O Q).length cE) hx4; have hx6 := Below.later hx4 hx5.1; have hx7 := hx5.2; have HDx := hid0 (dbX_of (s0 := s0) (lo := _) hl hrr hx5.1 HD.out HQ.out.1 hx7); clear hx5 hrr)); have g1 := hl.g1; have g2 := hl.g2; have g3 := hl.g3; obtain ⟨z0, z1, z2⟩ := hl.z; have e1 := hl.a1; have e2 := hl.a2; have f0 := hl.f0; have f1 := hl.f1; have f2 := hl.f2; clear hl))
     all_goals go_split_ands
     all_goals go_wp2
     all_goals go_meet
     all_goals exact ⟨_, Q, d, aD, aE, cD, cE, rfl, HDx⟩
    case rest =>
      obtain ⟨B, Q, d, aD, aE, cD, cE, rfl, HX⟩ := hcut
      generalize wc = wx at *
      obtain ⟨hd, hQ, rD, rE, mB, hBx⟩ := HX.out
      obtain ⟨hmay, hs, hmy⟩ := HMy.out
      obtain ⟨hb1, hb2, hb3⟩ := HBd.out
      obtain ⟨dn, hdn⟩ : ∃ dn : Nat, dn = Q.idxOf s0 + Q.length := ⟨_, rfl⟩
      rw [← hdn] at hd
      subst hd
      have hs0 : s0 < N.length := by have := hmy.start; omega
      have hdl : dn < 2 * Q.length := by have := (hQ.at hs0).1; omega
      have hmayD : mayF (dn : Int) (dbN N Q m) (dbO O Q) (m : Int) = true := dbl_may hmay hQ hdl
      have hsD : SmlO (dbN N Q m) (dbO O Q) := dbl_sml hmy hQ (by omega) (by omega) (by omega) hs.or hs.oz
      have hlang : SameL m (nxF N) (nxF (dbN N Q m)) (outF O) (outF (dbO O Q)) s0 dn := by rw [hdn]; exact dbl_lang hmy hQ
      have hB0x : Below w0.heap.size w0 wx := Below.later HB2.out hBx
      have HC : Hid (∀ V : World, Below wx.heap.size wx V → (RwA V aN N ∧ RwA V aO O) ∧ (RwA V aD (dbN N Q m) ∧ RwA V aE (dbO O Q)) ∧ MBox V B (dn : Int) (.slice aD (dbN N Q m).length cD) (.slice aE (dbO O Q).length cE) ∧ E1 V x ∧ Below w.heap.size w V) := hid0 (fun V hV => by
        have h := HAl.out V (Below.later hB0x hV)
        exact ⟨⟨h.1.1.rwa, h.1.2.1.rwa⟩, ⟨rD.past hV, rE.past hV⟩, mB.past hV, h.2.1, h.2.2.1⟩)
      have HCc : Hid (∀ V : World, Below wx.heap.size wx V → (V.cell? ⟨w.heap.size, 0, none⟩ = some (.int .i64 (s0 : Int)) ∧ V.cell? ⟨w.heap.size, 1, none⟩ = some (.slice aN N.length cN) ∧ V.cell? ⟨w.heap.size, 2, none⟩ = some (.slice aO O.length cO) ∧ V.cell? ⟨w.heap.size, 3, none⟩ = some (.int .i64 (m : Int))) ∧ (V.cell? ⟨B, 0, none⟩ = some (.int .i64 (dn : Int)) ∧ V.cell? ⟨B, 1, none⟩ = some (.slice aD (dbN N Q m).length cD) ∧ V.cell? ⟨B, 2, none⟩ = some (.slice aE (dbO O Q).length cE))) := hid0 (fun V hV => by
        obtain ⟨c0, c1, c2, c3, c4, _⟩ := HSo.out V (Below.later hBx hV)
        exact ⟨⟨c0, c1, c2, c3⟩, (HC.out V hV).2.2.1.c⟩)
      have HOf1 : Hid (∀ V : World, Below wx.heap.size wx V → Calls Tryd.prog 10 #[.agg #[.int .i64 (s0 : Int), .slice aN N.length cN, .slice aO O.length cO], .int .i64 (m : Int)] V fun e w' => ∃ N1 O1 a1 c1 a2 c2, e = .returned (.tuple #[.agg #[.int .i64 0, .slice a1 N1.length c1, .slice a2 O1.length c2], .nilIface]) ∧ Hid (RwA w' a1 N1 ∧ RwA w' a2 O1 ∧ Lst m (s0 : Int) N O N1 O1) ∧ Hid (Below V.heap.size V w')) := hid0 (fun V hV => (of_sml s0 m N O aN aO cN cO V hmay hs (HC.out V hV).1.1 (HC.out V hV).1.2).mono (fun e w' hh => by
        obtain ⟨vN, vO, rfl, hof, hb⟩ := hh
        obtain ⟨N1, O1, a1, c1, a2, c2, rfl, rfl, q1, q2, hl⟩ := hof.rows
        exact ⟨N1, O1, a1, c1, a2, c2, rfl, hid0 ⟨q1, q2, hl⟩, hid0 hb⟩))
      have HOf2 : Hid (∀ (V : World) (N1 O1 : List (List Int)), Below wx.heap.size wx V → Lst m (s0 : Int) N O N1 O1 → Calls Tryd.prog 10 #[.agg #[.int .i64 (dn : Int), .slice aD (dbN N Q m).length cD, .slice aE (dbO O Q).length cE], .int .i64 (m : Int)] V fun e w' => ∃ a1 c1 a2 c2, e = .returned (.tuple #[.agg #[.int .i64 0, .slice a1 N1.length c1, .slice a2 O1.length c2], .nilIface]) ∧ Hid (RwA w' a1 N1 ∧ RwA w' a2 O1) ∧ Hid (Below V.heap.size V w')) := hid0 (fun V N1 O1 hV h1 => (of_sml dn m (dbN N Q m) (dbO O Q) aD aE cD cE V hmayD hsD (HC.out V hV).2.1.1 (HC.out V hV).2.1.2).mono (fun e w' hh => by
        obtain ⟨vN, vO, rfl, hof, hb⟩ := hh
        obtain ⟨N2, O2, a1, c1, a2, c2, rfl, rfl, q1, q2, hl⟩ := hof.rows
        have hl1 := h1.lang
        have hl2 := hl.lang
        rw [Int.toNat_natCast] at hl1 hl2
        obtain ⟨e1, e2⟩ := h1.red.uniq hl.red ((hl1.trans hlang).trans hl2.symm)
        subst e1
        subst e2
        exact ⟨a1, c1, a2, c2, rfl, hid0 ⟨q1, q2⟩, hid0 hb⟩))
      have HSm : Hid (∀ (V : World) (N1 O1 : List (List Int)) (a1 a2 a3 a4 : Option Addr) (c1 c2 c3 c4 : Nat), Lst m (s0 : Int) N O N1 O1 → RwA V a1 N1 → RwA V a2 O1 → RwA V a3 N1 → RwA V a4 O1 → Calls Tryd.prog 14 #[.agg #[.int .i64 0, .slice a1 N1.length c1, .slice a2 O1.length c2], .agg #[.int .i64 0, .slice a3 N1.length c3, .slice a4 O1.length c4]] V fun e w' => e = .returned (.bool true) ∧ Below V.heap.size V w') := hid0 (fun V N1 O1 a1 a2 a3 a4 c1 c2 c3 c4 hl h1 h2 h3 h4 => sameMachine_any 0 N1 O1 a1 a2 a3 a4 c1 c2 c3 c4 V (hl.sml hs hmay) (by have := hl.red.may'.out; have := (hl.sml hs hmay).n; omega) h1 h2 h3 h4)
      have HAp : Hid (∀ V : World, Below wx.heap.size wx V → Calls Tryd.prog 16 #[.agg #[.int .i64 (s0 : Int), .slice aN N.length cN, .slice aO O.length cO], .agg #[.int .i64 (dn : Int), .slice aD (dbN N Q m).length cD, .slice aE (dbO O Q).length cE], .int .i64 (m : Int)] V fun e w' => ∃ aU lU cU, e = .returned (.tuple #[.slice aU lU cU, .bool false, .nilIface]) ∧ Below V.heap.size V w') := hid0 (fun V hV => by
        obtain ⟨n', hn', hmyD⟩ := mayF_may hmayD
        obtain rfl : m = n' := by omega
        refine (apart_any (fun _ => x) (s0 : Int) (dn : Int) (m : Int) N O (dbN N Q m) (dbO O Q) aN aO aD aE cN cO cD cE V hs.sml hsD.sml ⟨(HC.out V hV).1.1, (HC.out V hV).1.2⟩ ⟨(HC.out V hV).2.1.1, (HC.out V hV).2.1.2⟩ (HC.out V hV).2.2.2.1 (some none) (.good m none rfl hmay hmayD hmy hmyD ⟨(fun w e => by cases e), fun _ z hz hd => hd ?_⟩)).mono ?_
        · have := hlang z hz
          show O.getD (runW (nxF N) (s0 : Int).toNat z) [] = (dbO O Q).getD (runW (nxF (dbN N Q m)) (dn : Int).toNat z) []
          rw [Int.toNat_natCast, Int.toNat_natCast]
          exact this
        · rintro e w' ⟨v, rfl, ho, _, hb⟩
          obtain ⟨aU, cU, rfl, _⟩ := OwnI.ia ho
          exact ⟨aU, _, cU, rfl, hb⟩)
      obtain ⟨⟨c0, c1, c2, c3⟩, ⟨d0, d1, d2⟩⟩ := HCc.out wx (below_refl0 wx)
      clear hmay hs hmy hb1 hb2 hb3 hdn hdl hmayD hsD hlang hB0x rD rE mB hBx hQ HX HSo HMy HBd HOrd HDb HAl HB2
      have hnD : ((dbN N Q m).length : Int) = ((dbN N Q m).length : Int) := rfl
      generalize dbN N Q m = ND at *
      generalize dbO O Q = OD at *
      clear hnD
      go_upto_region 7 with (go_at_call 10; go_loud ((refine (HOf1.out wx (below_refl0 wx)).mono ?_; rintro e wa ⟨N1, O1, a1, e1, a2, e2, rfl, HL1, HBa⟩)))
      obtain ⟨wb, hwb⟩ : ∃ wb, wb = wa.alloc (.cells #[.int .i64 0, .slice a1 N1.length e1, .slice a2 O1.length e2] 24) := ⟨_, rfl⟩
      have hBb : Below wa.heap.size wa wb := by rw [hwb]; exact below_alloc _ _
      have HXb : Hid (MBox wb wa.heap.size 0 (.slice a1 N1.length e1) (.slice a2 O1.length e2)) := hid0 (by rw [hwb]; exact MBox.new _ _ _ _)
      have HBb := hid0 (Below.later HBa.out hBb)
      have HLb := hid0 (And.intro (HL1.out.1.past hBb) (HL1.out.2.1.past hBb))
      have qb := hwb.symm
      clear c0 c1 c2 c3 d0 d1 d2 hwb hBb
      obtain ⟨⟨c0, c1, c2, c3⟩, ⟨d0, d1, d2⟩⟩ := HCc.out wb HBb.out
      go_upto_region 8 with (go_at_call 10; go_loud ((refine (HOf2.out wb N1 O1 HBb.out HL1.out.2.2).mono ?_; rintro e wc ⟨a3, e3, a4, e4, rfl, HL3, HBc⟩)))
      obtain ⟨wd, hwd⟩ : ∃ wd, wd = wc.alloc (.cells #[.int .i64 0, .slice a3 N1.length e3, .slice a4 O1.length e4] 24) := ⟨_, rfl⟩
      have hBd : Below wc.heap.size wc wd := by rw [hwd]; exact below_alloc _ _
      have hXd : MBox wd wc.heap.size 0 (.slice a3 N1.length e3) (.slice a4 O1.length e4) := by rw [hwd]; exact MBox.new _ _ _ _
      have hBbd := Below.later HBc.out hBd
      obtain ⟨z0, z1, z2⟩ := hXd.c
      obtain ⟨y0, y1, y2⟩ := (HXb.out.past hBbd).c
      have HSd := hid0 (HSm.out wd N1 O1 a1 a2 a3 a4 e1 e2 e3 e4 HL1.out.2.2 (HLb.out.1.past hBbd) (HLb.out.2.past hBbd) (HL3.out.1.past hBd) (HL3.out.2.past hBd))
      have HBd := hid0 (Below.later HBb.out hBbd)
      have qd := hwd.symm
      clear c0 c1 c2 c3 d0 d1 d2 hwd hBd hXd hBbd qb
      go_wp2_with (first
        | (go_at_call 14; go_loud ((refine HSd.out.mono ?_; rintro e wf ⟨rfl, hbf⟩; have HBf := hid0 (Below.later HBd.out hbf); clear hbf y0 y1 y2 z0 z1 z2 qd; obtain ⟨⟨c0, c1, c2, c3⟩, ⟨d0, d1, d2⟩⟩ := HCc.out wf HBf.out)))
        | (go_at_call 16; go_loud ((refine (HAp.out wf HBf.out).mono ?_; rintro e wg ⟨aU, lU, cU, rfl, hbg⟩; have HBg := hid0 (Below.later HBf.out hbg); clear hbg))))
      go_ret
      exact ⟨rfl, (HC.out _ HBg.out).2.2.2.2⟩
end Go.Proofs.YtjemjccgfgijiaaDoor
