/-
  MlEW, MlFW, MlGW, MiQXW.
-/
import Derived.Test.YtjemjccgfgijiaaDoorMob
import Derived.Test.YtjemjccgfgijiaaDoorMhg
namespace Go.Proofs.YtjemjccgfgijiaaDoor
open Go.RowKit Go.Shelf
/-- What the document's Of answers, where the machine may be one. -/
def DofR (w w' : World) (m s0 : Nat) (N O : List (List Int)) (e : Ending) : Prop := ∃ (N2 O2 : List (List Int)) (aD aE : Option Addr) (cD cE : Nat), e = .returned (.tuple #[.agg #[.int .i64 0, .slice aD N2.length cD, .slice aE O2.length cE], .int .i64 0]) ∧ Lst m (s0 : Int) N O N2 O2 ∧ DbB w.heap.size w' (.slice aD N2.length cD) (.slice aE O2.length cE) N2 O2 ∧ Below w.heap.size w w'
set_option maxRecDepth 10000 in
set_option maxHeartbeats 1000000 in
theorem refOf_yes (s0 m : Nat) (N O : List (List Int)) (aN aO : Option Addr) (cN cO : Nat) (w : World) (hmay : mayF (s0 : Int) N O (m : Int) = true) (hs : SmlO N O) (rN : RwA w aN N) (rO : RwN w aO O) :
    Calls Tryd.prog 21 #[.agg #[.int .i64 (s0 : Int), .slice aN N.length cN, .slice aO O.length cO], .int .i64 (m : Int)] w fun e w' => DofR w w' m s0 N O e := by
  obtain ⟨j0, hj, hy0, hy1, hy2⟩ := info_parts infoInt
  obtain ⟨i0, hi, hz0, hz1, hz2⟩ := info_parts infoInts
  obtain ⟨n', hn', hm⟩ := mayF_may hmay
  obtain rfl : m = n' := by omega
  obtain ⟨w0, hw0⟩ : ∃ w0, w0 = w.alloc (.cells #[.int .i64 (s0 : Int), .slice aN N.length cN, .slice aO O.length cO] 24) := ⟨_, rfl⟩
  obtain ⟨w1, hw1⟩ : ∃ w1, w1 = w0.alloc (.cells #[.int .i64 0, .slice none 0 0, .slice none 0 0] 24) := ⟨_, rfl⟩
  have hB0 : Below w.heap.size w w0 := by rw [hw0]; exact below_alloc _ _
  have hB1 : Below w0.heap.size w0 w1 := by rw [hw1]; exact below_alloc _ _
  have hs0 : w0.heap.size = w.heap.size + 1 := by rw [hw0]; simp
  have hX0 : MBox w1 w.heap.size (s0 : Int) (.slice aN N.length cN) (.slice aO O.length cO) := by
    have h : MBox w0 w.heap.size (s0 : Int) (.slice aN N.length cN) (.slice aO O.length cO) := by rw [hw0]; exact MBox.new _ _ _ _
    exact h.past hB1
  have hR1 : w1.heap[w0.heap.size]? = some (.cells #[.int .i64 0, .slice none 0 0, .slice none 0 0] 24 (0, 0)) := by rw [hw1]; exact heap_alloc_new _ _
  have HAl : Hid (∀ V : World, Below w1.heap.size w1 V → RwA V aN N ∧ RwN V aO O ∧ MBox V w.heap.size (s0 : Int) (.slice aN N.length cN) (.slice aO O.length cO) ∧ V.heap[w0.heap.size]? = some (.cells #[.int .i64 0, .slice none 0 0, .slice none 0 0] 24 (0, 0)) ∧ Below w.heap.size w V) := hid0 (fun V hV => by
    have h := Below.later (Below.later hB0 hB1) hV
    exact ⟨rN.past h, rO.past h, hX0.past hV, (hV.block _ (Array.getElem?_eq_some_iff.1 hR1).1).trans hR1, h⟩)
  obtain ⟨big1, big2, big3⟩ := hs.big
  obtain ⟨f1, f2, f3⟩ := hs.facts hmay
  have HMb : Hid (Calls Tryd.prog 9 #[.agg #[.int .i64 (s0 : Int), .slice aN N.length cN, .slice aO O.length cO], .int .i64 (m : Int)] w1 fun e w' => e = .returned (.bool true) ∧ Below w1.heap.size w1 w') := hid0 (by
    have h := refMayBe_any (s0 : Int) (m : Int) N O aN aO cN cO w1 big1 big2 big3 (HAl.out w1 (below_refl0 w1)).1 (HAl.out w1 (below_refl0 w1)).2.1.rwa
    rw [hmay] at h
    exact h)
  have HRn : Hid (∀ V : World, Below w1.heap.size w1 V → Calls Tryd.prog 41 #[.agg #[.int .i64 (s0 : Int), .slice aN N.length cN, .slice aO O.length cO], .int .i64 (m : Int)] V fun e w' => RenR V w' m s0 N O e) := hid0 (fun V hV => renamed_any s0 m N O aN aO cN cO V hm hs.n f2 hs.or (HAl.out V hV).1 (HAl.out V hV).2.1)
  have HMy := hid0 (And.intro hmay (And.intro hm hs))
  have HSz := hid0 hs0
  have hnb := hs.n
  have hmb := f2
  obtain ⟨x0, x1, x2⟩ := hX0.c
  have q0 := hw0.symm
  have q1 := hw1.symm
  clear hw0 hw1 hB0 hB1 hX0 hR1 rN rO hmay hm hs big1 big2 big3 f1 f2 f3 hs0 hn'
  go_enter Tryd.func21, Tryd.ntmps21
  go_upto_region 5 with (first
    | (go_at_call 9; go_loud ((refine HMb.out.mono ?_; rintro e w2 ⟨rfl, hb2⟩; have HB2 := hid0 hb2; obtain ⟨y0, y1, y2⟩ := (HAl.out w2 hb2).2.2.1.c; clear hb2 x0 x1 x2)))
    | (go_at_call 41; go_loud ((refine (HRn.out w2 HB2.out).mono ?_; rintro e w3 ⟨L, FN, aD, aE, cD, cE, rfl, hdb, hbf, hb3⟩; have hb13 := Below.later HB2.out hb3; obtain ⟨v1, v2, v3, hl⟩ := laidG (.int .i64 0) (.slice aD L.length cD) (.slice aE L.length cE) (HAl.out w3 hb13).2.2.1.r; have HDb := hid0 (hdb.only2 hl.only (HAl.out w3 hb13).2.2.1.r); have HBf := hid0 hbf; have HB13 := hid0 hb13; have HLg := hid0 hl; have g1 := hl.g1; have g2 := hl.g2; have g3 := hl.g3; obtain ⟨z0, z1, z2⟩ := hl.z; have a1 := hl.a1; have a2 := hl.a2; have e0 := hl.f0; have e1 := hl.f1; have e2 := hl.f2; clear hl hdb hbf hb3 hb13 y0 y1 y2))))
  clear g1 g2 g3 z0 z1 z2 a1 a2 e0 e1 e2 q0 q1
  have hLn : L.length ≤ N.length := nodup_le _ _ HBf.out.nd HBf.out.lt
  have hLp : 0 < L.length := HBf.out.h0.2
  have HC4 : Hid (∀ V : World, Below v3.heap.size v3 V → (RwN V aD (rnN L.length m (Fl FN)) ∧ RwN V aE (rnO L.length O (Lg1 L))) ∧ (V.cell? ⟨w.heap.size, 0, none⟩ = some (.int .i64 0) ∧ V.cell? ⟨w.heap.size, 1, none⟩ = some (.slice aD L.length cD) ∧ V.cell? ⟨w.heap.size, 2, none⟩ = some (.slice aE L.length cE)) ∧ V.heap[w0.heap.size]? = some (.cells #[.int .i64 0, .slice none 0 0, .slice none 0 0] 24 (0, 0)) ∧ Below w.heap.size w V) := hid0 (fun V hV => by
    have h1 := (HDb.out.later hV).rwn
    have h2 : MBox v3 w.heap.size 0 (.slice aD L.length cD) (.slice aE L.length cE) := ⟨HLg.out.row⟩
    have h3 := (HAl.out w3 HB13.out)
    have h4 : v3.heap[w0.heap.size]? = some (.cells #[.int .i64 0, .slice none 0 0, .slice none 0 0] 24 (0, 0)) := (HLg.out.only.block _ (Array.getElem?_eq_some_iff.1 h3.2.2.2.1).1 (by have := HSz.out; omega)).trans h3.2.2.2.1
    have h5 : Below w.heap.size w v3 := h3.2.2.2.2.trans (HLg.out.only.below h3.2.2.2.2.size (fun k hk => by rw [hk]; exact Nat.le_refl _))
    exact ⟨h1, (h2.past hV).c, (hV.block _ (Array.getElem?_eq_some_iff.1 h4).1).trans h4, Below.later h5 hV⟩)
  have HPt : Hid (∀ (V : World) (C : List Nat) (aC : Option Addr) (cC : Nat), Below v3.heap.size v3 V → C.length = L.length → IA V aC (natI C) → Calls Tryd.prog 42 #[.agg #[.int .i64 0, .slice aD L.length cD, .slice aE L.length cE], .slice aC L.length cC, .int .i64 (m : Int)] V fun e w' => ∃ (D : List Nat) (a2 : Option Addr) (c2 : Nat), e = .returned (.slice a2 L.length c2) ∧ Hid (ParI m (rnN L.length m (Fl FN)) (rnO L.length O (Lg1 L)) C D L.length ∧ OwnI w' V.heap.size (.slice a2 L.length c2) (natI D)) ∧ Hid (Below V.heap.size V w')) := hid0 (fun V C aC cC hV hC hI => by
    have hl := rn_len L.length m (Fl FN) O (Lg1 L)
    obtain ⟨hmay, hm, hs⟩ := HMy.out
    obtain ⟨n2, hn2, hm1⟩ := mayF_may ((HBf.out.done rfl).may hmay)
    obtain rfl : m = n2 := by omega
    have h := refParted_any 0 m (rnN L.length m (Fl FN)) (rnO L.length O (Lg1 L)) C aD aE aC cD cE cC V hm1 (by rw [hl.1]; exact hC) (by rw [hl.1]; omega) hmb (rnO_rows hs.or) (HC4.out V hV).1.1.rwa (HC4.out V hV).1.2.rwa hI
    rw [hl.1, hl.2] at h
    exact h.mono (fun e w' hh => by
      obtain ⟨D, a2, c2, h1, h2, h3, h4⟩ := hh
      exact ⟨D, a2, c2, h1, hid0 ⟨h2, h3⟩, hid0 h4⟩))
  have HSt0 : Hid (∀ (C D : List Nat) (r : Nat), RdI L.length m (rnN L.length m (Fl FN)) (rnO L.length O (Lg1 L)) C r → ParI m (rnN L.length m (Fl FN)) (rnO L.length O (Lg1 L)) C D L.length → RdI L.length m (rnN L.length m (Fl FN)) (rnO L.length O (Lg1 L)) D (r + 1)) := hid0 (fun C D r hC hD => by
    have hl := (rn_len L.length m (Fl FN) O (Lg1 L)).1
    have h1 : RdI (rnN L.length m (Fl FN)).length m (rnN L.length m (Fl FN)) (rnO L.length O (Lg1 L)) C r := by rw [hl]; exact hC
    have h2 := h1.step (by rw [hl]; exact hD)
    rw [hl] at h2
    exact h2)
  have HZr := hid0 (RdI.zero L.length m (rnN L.length m (Fl FN)) (rnO L.length O (Lg1 L)))
  have HN1 : Hid ((rnN L.length m (Fl FN)).length = L.length ∧ (rnO L.length O (Lg1 L)).length = L.length ∧ (∀ i c, i < L.length → c < m → nxF (rnN L.length m (Fl FN)) i c = Fl FN (i * m + c) ∧ Fl FN (i * m + c) < L.length) ∧ (∀ i, i < L.length → (outF (rnN L.length m (Fl FN)) i).length = m)) := hid0 (by
    obtain ⟨h1, h2⟩ := rn_len L.length m (Fl FN) O (Lg1 L)
    refine ⟨h1, h2, fun i c hi hc => ⟨rnN_at hi hc, (HBf.out.done rfl).fl i c hi hc⟩, fun i hi => ?_⟩
    rw [outF, rnN, List.getD_eq_getElem?_getD, List.getElem?_map, List.getElem?_range hi]
    simp)
  have HJm : Hid (∀ C : List Nat, RdI L.length m (rnN L.length m (Fl FN)) (rnO L.length O (Lg1 L)) C (L.length + 1) → mayF 0 (jnL L FN C m) (rnO L.length O (Lg1 L)) (m : Int) = true ∧ C.getD 0 0 = 0 ∧ C.length = L.length) := hid0 (fun C hC => join_may HMy.out.1 HBf.out hC)
  have HFi : Hid (∀ C L2 FN2 : List Nat, RdI L.length m (rnN L.length m (Fl FN)) (rnO L.length O (Lg1 L)) C (L.length + 1) → BfI m 0 (jnL L FN C m) L2 FN2 L2.length 0 → Lst m (s0 : Int) N O (rnN L2.length m (Fl FN2)) (rnO L2.length (rnO L.length O (Lg1 L)) (Lg1 L2))) := hid0 (fun C L2 FN2 hC h2 => doc_fin HMy.out.1 HBf.out hC h2)
  have HOr := hid0 (rnO_rows (n := L.length) (g := Lg1 L) HMy.out.2.2.or)
  have HM1 : Hid (May 0 (rnN L.length m (Fl FN)) (rnO L.length O (Lg1 L)) m) := hid0 (by
    obtain ⟨n2, hn2, hm1⟩ := mayF_may ((HBf.out.done rfl).may HMy.out.1)
    obtain rfl : m = n2 := by omega
    exact hm1)
  obtain ⟨x0, x1, x2⟩ := (HC4.out v3 (below_refl0 v3)).2.1
  clear HLg HB13 HRn HMb HB2 HAl HDb
  generalize rnN L.length m (Fl FN) = N1 at *
  generalize rnO L.length O (Lg1 L) = O1 at *
  go_wp2
  clear x0 x1 x2
  go_loopw [7, 8] (fun v i wr => ∃ k : Nat, k ≤ L.length ∧ i = .int .i64 (k : Int) ∧ Hid (OwnI wr v3.heap.size v (List.replicate k 0)) ∧ Hid (Below v3.heap.size v3 wr)) (fun _ i _ => L.length - (intOf i).toNat)
  case atStart => exact ⟨0, Nat.zero_le _, rfl, hid0 (World.ownsRow_nil _ _ _ _), hid0 (Below.refl _ _)⟩
  case round =>
    obtain ⟨k, hk, rfl, HO, HB⟩ := hrel
    have hbs := HB.out.size
    obtain ⟨x0, x1, x2⟩ := (HC4.out wr HB.out).2.1
    by_cases hlt : k < L.length
    · have hkI : (k : Int) < (L.length : Int) := by omega
      have HOk : Hid (wr.ownsRow v3.heap.size 3 1 u7 k (List.replicate k (.int .i64 0))) := hid0 (by have h := HO.out; unfold OwnI at h; rw [List.length_replicate, List.map_replicate] at h; exact h)
      clear HO
      obtain ⟨av, cv, ev⟩ := own_sl HOk.out
      subst ev
      go_wp2_with (at_builtin; go_loud ((
        refine wpList_append_own_at _ rfl _ _ 25 rfl v3.heap.size 3 j0 (.int .i64 0) 1 8 Tryd.underlying25 hj hy0 hy1 hy2 rfl (by decide) (.slice av k cv) k (List.replicate k (.int .i64 0)) rfl (World.ownsRow.alloc HOk.out _) ⟨wr.heap.size, 0, none⟩ 1 1 [.int .i64 0] rfl rfl (cell_one_new _ _ _) (by simp [Value.oneCell']) (by unfold maxLen; omega) (by omega) (by simp; omega) ?_
        intro v2 w3 hown2 hgrow2 _ _
        have HB3 := hid0 (own_snoc HOk.out hgrow2 HB.out (Nat.le_refl _))
        have HO3 : Hid (OwnI w3 v3.heap.size v2 (List.replicate (k + 1) 0)) := hid0 (by unfold OwnI; rw [List.length_replicate, List.map_replicate, List.replicate_succ']; exact hown2)
        clear hown2 hgrow2)))
      go_roundw
      case rel => exact ⟨k + 1, by omega, by go_num, HO3, HB3⟩
      case measure => simp [intOf]; omega
    · have hkI : ¬ (k : Int) < (L.length : Int) := by omega
      have ek : k = L.length := by omega
      obtain ⟨aC, cC, eC⟩ : ∃ a c, u7 = .slice a L.length c := by have h := own_sl HO.out; rw [List.length_replicate, ek] at h; exact h
      subst eC
      have HO0 : Hid (OwnI wr v3.heap.size (.slice aC L.length cC) (natI (List.replicate L.length 0))) := hid0 (by have h := HO.out; rw [ek] at h; rw [natI_rep]; exact h)
      clear HO
      go_wp2
      clear x0 x1 x2
      go_loopw [7, 9] (fun v i wr => ∃ (r : Nat) (C : List Nat) (aC : Option Addr) (cC : Nat), r ≤ L.length + 1 ∧ i = .int .i64 (r : Int) ∧ v = .slice aC L.length cC ∧ Hid (OwnI wr v3.heap.size (.slice aC L.length cC) (natI C)) ∧ Hid (RdI L.length m N1 O1 C r) ∧ Hid (Below v3.heap.size v3 wr)) (fun _ i _ => L.length + 1 - (intOf i).toNat)
      case atStart => exact ⟨0, _, aC, cC, Nat.zero_le _, rfl, rfl, HO0, HZr, HB⟩
      case round =>
        clear HO0 HB
        obtain ⟨r, C, aC, cC, hr, rfl, rfl, HC, HRd, HB⟩ := hrel
        obtain ⟨x0, x1, x2⟩ := (HC4.out wr HB.out).2.1
        by_cases hrl : r ≤ L.length
        · have hrI : (r : Int) ≤ (L.length : Int) := by omega
          have hIA : IA wr aC (natI C) := by
            obtain ⟨a3, c3, e3, h⟩ := HC.out.ia
            injection e3 with e4 _ _
            rw [e4]
            exact h
          have HCp := hid0 (HPt.out wr C aC cC HB.out HRd.out.1 hIA)
          have HSt : Hid (∀ D, ParI m N1 O1 C D L.length → RdI L.length m N1 O1 D (r + 1)) := hid0 (fun D hD => HSt0.out C D r HRd.out hD)
          have hbsz := HB.out.size
          have hr2 : r + 1 ≤ L.length + 1 := Nat.succ_le_succ hrl
          have hr3 : r ≤ 2200000 := Nat.le_trans hrl (Nat.le_trans hLn hnb)
          clear hIA
          go_wp2_with (go_at_call 42; go_loud ((refine HCp.out.mono ?_; rintro e w5 ⟨D, a5, c5, rfl, HD, HB5⟩)))
          go_roundw
          case rel =>
            refine ⟨r + 1, D, a5, c5, hr2, ?_, rfl, hid0 (owns_lower HD.out.2 hbsz), hid0 (HSt.out D HD.out.1), hid0 (Below.later HB.out HB5.out)⟩
            clear HC4 HPt HMy HBf HSt0 HZr HN1 HJm HFi HOr HM1 HCp HSt HRd HC HD
            go_num
          case measure =>
            clear HC4 HPt HMy HBf HSt0 HZr HN1 HJm HFi HOr HM1 HCp HSt HRd HC HD
            simp [intOf]
            omega
        · have hrI : ¬ (r : Int) ≤ (L.length : Int) := by omega
          have er : r = L.length + 1 := by omega
          rw [er] at HRd
          clear er
          obtain ⟨hmJ, hC0, hCl⟩ := HJm.out C HRd.out
          obtain ⟨wb, hwb⟩ : ∃ wb, wb = wr := ⟨_, rfl⟩
          subst hwb
          have HCk : Hid (wb.ownsRow v3.heap.size 3 1 (.slice aC L.length cC) L.length ((natI C).map (Value.int .i64))) := hid0 (by have h := HC.out; unfold OwnI at h; rw [natI_len, hCl] at h; exact h)
          obtain ⟨gc, cc2, ec, _, _, _⟩ := own_form HCk.out hLp
          injection ec with e1 _ e3
          subst e1
          subst e3
          have HCc : Hid (∀ (V : World) (y : Nat), Below wb.heap.size wb V → y < L.length → V.cell? ⟨gc, y, none⟩ = some (.int .i64 ((C.getD y 0 : Nat) : Int))) := hid0 (fun V y hV hy => by
            rw [World.ownsRow.cellAt (row_later HCk.out hV) y (by omega), List.getElem?_map, List.getElem?_eq_getElem (by rw [natI_len]; omega), natI_at C y (by omega)]
            rfl)
          have hcell0 := HCc.out wb 0 (below_refl0 wb) hLp
          rw [hC0] at hcell0
          have hcellA := HCc.out (wb.alloc (.cells #[.int .i64 0, .slice none 0 0, .slice none 0 0] 24)) 0 (below_alloc wb _) hLp
          rw [hC0] at hcellA
          have hx2A := (HC4.out (wb.alloc (.cells #[.int .i64 0, .slice none 0 0, .slice none 0 0] 24)) (Below.later HB.out (below_alloc wb _))).2.1.2.2
          have h0L : (0 : Int) < (L.length : Int) := by omega
          have HmJ := hid0 hmJ
          have HbL := hid0 HB.out.size
          clear hmJ hC0 hCl HC
          go_upto_region 14 with (fail)
          go_cut [10] from 44 (fun v10 wx => ∃ B, v10 = .pointer (some ⟨B, 0, none⟩) ∧ Hid (MkJ wx wb.heap.size B 0 (.slice none 0 0) (.slice aE L.length cE) [] ∧ Below wb.heap.size wb wx))
          case first =>
            go_region
            all_goals go_wp2
            all_goals go_meet
            all_goals exact ⟨_, rfl, hid0 ⟨⟨heap_alloc_new wb _, Bag.nil _ _, Nat.le_refl _⟩, below_drew' (below_alloc wb _) 1⟩⟩
          case rest =>
            obtain ⟨B, rfl, HJ0⟩ := hcut
            generalize wc = wx at *
            have HAll : Hid (∀ V : World, Below wb.heap.size wb V → (RwN V aD N1 ∧ RwN V aE O1) ∧ (V.cell? ⟨w.heap.size, 0, none⟩ = some (.int .i64 0) ∧ V.cell? ⟨w.heap.size, 1, none⟩ = some (.slice aD L.length cD) ∧ V.cell? ⟨w.heap.size, 2, none⟩ = some (.slice aE L.length cE)) ∧ V.heap[w0.heap.size]? = some (.cells #[.int .i64 0, .slice none 0 0, .slice none 0 0] 24 (0, 0)) ∧ Below w.heap.size w V) := hid0 (fun V hV => HC4.out V (Below.later HB.out hV))
            have HJ := hid0 HJ0.out.1
            have HBx := hid0 HJ0.out.2
            clear HJ0 HC4 hcell0 hcellA hx2A x0 x1 x2 HB HPt HSt0 HZr HCk
            go_wp2
            go_loopw [11] (fun i wr => ∃ (p : Nat) (vN : Value) (pN : Lot), p ≤ L.length ∧ i = .int .i64 (p : Int) ∧ Hid (MkJ wr wb.heap.size B 0 vN (.slice aE L.length cE) pN) ∧ Hid (pN.map (·.2) = (jnL L FN C m).take p) ∧ Hid (Below wb.heap.size wb wr)) (fun i _ => L.length - (intOf i).toNat)
            case atStart => exact ⟨0, _, [], Nat.zero_le _, rfl, HJ, hid0 rfl, HBx⟩
            case round =>
              clear HJ HBx
              obtain ⟨p, vN, pN, hp, rfl, HJ, HTk, HBr⟩ := hrel
              obtain ⟨wi, hwi⟩ : ∃ wi, wi = wr := ⟨_, rfl⟩
              subst hwi
              have hbi := HBr.out.size
              obtain ⟨x0, x1, x2⟩ := (HAll.out wi HBr.out).2.1
              by_cases hplt : p < L.length
              · have hpI : (p : Int) < (L.length : Int) := by omega
                have hpI0 : (0 : Int) ≤ (p : Int) := by omega
                go_wp2
                clear x0 x1 x2
                go_loopw [12, 13] (fun v j wr => ∃ c : Nat, c ≤ m ∧ j = .int .i64 (c : Int) ∧ Hid (OwnI wr wi.heap.size v (natI (rnR m (fun i => C.getD (Fl FN i) 0) p c))) ∧ Hid (Below wi.heap.size wi wr)) (fun _ j _ => m - (intOf j).toNat)
                case atStart => exact ⟨0, Nat.zero_le _, rfl, hid0 (World.ownsRow_nil _ _ _ _), hid0 (Below.refl _ _)⟩
                case round =>
                  obtain ⟨c, hcm, rfl, HRo, HBc⟩ := hrel
                  have hbc := HBc.out.size
                  have HB1c := hid0 (Below.later HBr.out HBc.out)
                  obtain ⟨x0, x1, x2⟩ := (HAll.out wr HB1c.out).2.1
                  by_cases hclt : c < m
                  · have hcI : (c : Int) < (m : Int) := by omega
                    have hcI0 : (0 : Int) ≤ (c : Int) := by omega
                    have hpn : p < N1.length := by rw [HN1.out.1]; exact hplt
                    obtain ⟨b1, o1, rfl, a1, c1, d1, i1⟩ := rwa_at (HAll.out wr HB1c.out).1.1.rwa hpn
                    have hnx := HM1.out.next hpn hclt
                    have hnl : (outF N1 p).length = m := hnx.2.2
                    have hpl : c < (outF N1 p).length := by rw [hnl]; exact hclt
                    obtain ⟨b4, o4, rfl, _, d4⟩ := i1.at' _ hpl
                    obtain ⟨hy1', hy2'⟩ := HN1.out.2.2.1 p c hplt hclt
                    have d4' : wr.cell? ⟨b4, o4 + c, none⟩ = some (.int .i64 ((Fl FN (p * m + c) : Nat) : Int)) := by
                      rw [d4]
                      have e : (outF N1 p)[c] = (outF N1 p).getD c 0 := by rw [List.getD_eq_getElem?_getD, List.getElem?_eq_getElem hpl]; rfl
                      rw [e]
                      have := hnx.2.1
                      unfold outF
                      rw [this, hy1']
                    have hat := HCc.out wr (Fl FN (p * m + c)) HB1c.out hy2'
                    have HRs : Hid (natI (rnR m (fun i => C.getD (Fl FN i) 0) p (c + 1)) = natI (rnR m (fun i => C.getD (Fl FN i) 0) p c) ++ [((C.getD (Fl FN (p * m + c)) 0 : Nat) : Int)]) := hid0 (by rw [rnR_succ, natI_snoc])
                    have HRl : Hid ((natI (rnR m (fun i => C.getD (Fl FN i) 0) p c)).length = c) := hid0 (rnR_len _ _ _ _)
                    have hyI : ((Fl FN (p * m + c) : Nat) : Int) < (L.length : Int) := by omega
                    have hyI0 : (0 : Int) ≤ ((Fl FN (p * m + c) : Nat) : Int) := by omega
                    have hpcI : (c : Int) < ((outF N1 p).length : Int) := by omega
                    clear d4 hnx hnl hpl i1 hy1' hy2' hpn
                    generalize C.getD (Fl FN (p * m + c)) 0 = iy at *
                    generalize Fl FN (p * m + c) = y at *
                    generalize (outF N1 p).length = ln at *
                    have HOk : Hid (wr.ownsRow wi.heap.size 3 1 u12 c ((natI (rnR m (fun i => C.getD (Fl FN i) 0) p c)).map (Value.int .i64))) := hid0 (by have h := HRo.out; unfold OwnI at h; rw [HRl.out] at h; exact h)
                    obtain ⟨av, cv, ev⟩ := own_sl HOk.out
                    subst ev
                    go_wp2_with (at_builtin; go_loud ((
                      refine wpList_append_own_at _ rfl _ _ 25 rfl wi.heap.size 3 j0 (.int .i64 0) 1 8 Tryd.underlying25 hj hy0 hy1 hy2 rfl (by decide) (.slice av c cv) c ((natI (rnR m (fun i => C.getD (Fl FN i) 0) p c)).map (Value.int .i64)) rfl (World.ownsRow.alloc HOk.out _) ⟨wr.heap.size, 0, none⟩ 1 1 [.int .i64 (iy : Int)] rfl rfl (cell_one_new _ _ _) (by simp [Value.oneCell']) (by unfold maxLen; omega) (by omega) (by simp; omega) ?_
                      intro v2 w5 hown2 hgrow2 _ _
                      have HB5 := hid0 (own_snoc HOk.out hgrow2 HBc.out (Nat.le_refl _))
                      have HO5 : Hid (OwnI w5 wi.heap.size v2 (natI (rnR m (fun i => C.getD (Fl FN i) 0) p (c + 1)))) := hid0 (by
                        unfold OwnI
                        rw [HRs.out, List.length_append, HRl.out, List.map_append]
                        exact hown2)
                      clear hown2 hgrow2)))
                    go_roundw
                    case rel => exact ⟨c + 1, by omega, by go_num, HO5, HB5⟩
                    case measure => simp [intOf]; omega
                  · have hcI : ¬ (c : Int) < (m : Int) := by omega
                    have ecm : c = m := by omega
                    rw [ecm] at HRo
                    clear ecm
                    have HTn : Hid ((jnL L FN C m).take (p + 1) = (jnL L FN C m).take p ++ [natI (rnR m (fun i => C.getD (Fl FN i) 0) p m)]) := hid0 (rnN_take hplt)
                    have HpN : Hid (pN.length = p) := hid0 (by
                      have h1 := congrArg List.length HTk.out
                      have h3 : (jnL L FN C m).length = L.length := (rn_len L.length m (fun i => C.getD (Fl FN i) 0) O (Lg1 L)).1
                      rw [List.length_map, List.length_take] at h1
                      omega)
                    generalize natI (rnR m (fun i => C.getD (Fl FN i) 0) p m) = rr at *
                    obtain ⟨aR, cR, eR, _⟩ := HRo.out.ia
                    subst eR
                    obtain ⟨aV, cV, eV⟩ : ∃ a c, vN = .slice a p c := by have h := own_sl HJ.out.bN.outer; rw [HpN.out] at h; exact h
                    subst eV
                    have HAway : Hid (∀ y ∈ pN, ∀ g, y.1.ownBlock = some g → g < wi.heap.size) := hid0 (fun y hy g hg => (World.ownsRow.lt (HJ.out.bN.row y hy) g hg).2)
                    have HJ5 := hid0 (HJ.out.past HBc.out)
                    obtain ⟨y0, y1, y2, yf⟩ := HJ5.out.c
                    have HbN5 : Hid (wr.ownsRow wb.heap.size 25 1 (.slice aV p cV) p (pN.map (·.1))) := hid0 (by have h := HJ5.out.bN.outer; rw [HpN.out] at h; exact h)
                    go_wp2_with (at_builtin; go_loud ((
                      refine wpList_append_own_at _ rfl _ _ 22 rfl wb.heap.size 25 i0 (.slice none 0 0) 1 24 Tryd.underlying22 hi hz0 hz1 hz2 rfl (by decide) (.slice aV p cV) p (pN.map (·.1)) rfl (World.ownsRow.alloc HbN5.out _) ⟨wr.heap.size, 0, none⟩ 1 1 [.slice aR rr.length cR] rfl rfl (cell_one_new _ _ _) (by simp [Value.oneCell']) (by unfold maxLen; omega) (by omega) (by simp; omega) ?_
                      intro v6 w6 hown6 hgrow6 _ hat6
                      obtain ⟨a6, c6, e6⟩ := own_sl hown6
                      subst e6
                      obtain ⟨rb, rm, rf⟩ := HJ5.out.addN (x := .slice aR rr.length cR) (l := rr) (owns_lower HRo.out hbi) (fun y hy g hg hx => by have h1 := HAway.out y hy g hg; have h2 := (World.ownsRow.lt HRo.out g hx).1; omega) (by rw [HpN.out]; exact hown6) hgrow6 hat6
                      obtain ⟨g0, g1, g2, gf⟩ := box_c rb
                      obtain ⟨W6, hW6⟩ : ∃ W6, w6.setCell ⟨B, 1, none⟩ (.slice a6 (p + 1) c6) = W6 := ⟨_, rfl⟩
                      rw [hW6] at rm rf
                      have HJ6 := hid0 rm
                      have HB6 := hid0 (rf.below HB1c.out (Nat.le_refl _))
                      clear rb rm rf hown6 hgrow6 hat6)))
                    have HTk6 : Hid ((pN ++ [(Value.slice aR rr.length cR, rr)] : Lot).map (·.2) = (jnL L FN C m).take (p + 1)) := hid0 (by
                      rw [HTn.out, List.map_append, HTk.out]
                      rfl)
                    go_roundw
                    case rel => exact ⟨p + 1, _, _, by omega, by go_num, HJ6, HTk6, HB6⟩
                    case measure => simp [intOf]; omega
              · have hpI : ¬ (p : Int) < (L.length : Int) := by omega
                have hjl : (jnL L FN C m).length = L.length := (rn_len L.length m (fun i => C.getD (Fl FN i) 0) O (Lg1 L)).1
                have HTe : Hid (pN.map (·.2) = jnL L FN C m) := hid0 (by
                  have h := HTk.out
                  rw [List.take_of_length_le (by omega)] at h
                  exact h)
                obtain ⟨aJ, cJ, eJ, qJ⟩ := HJ.out.bN.rwq
                rw [HTe.out, hjl] at eJ
                rw [HTe.out] at qJ
                subst eJ
                have HRn2 : Hid (Calls Tryd.prog 41 #[.agg #[.int .i64 0, .slice aJ L.length cJ, .slice aE L.length cE], .int .i64 (m : Int)] wi fun e w' => RenR wi w' m 0 (jnL L FN C m) O1 e) := hid0 (by
                  obtain ⟨n2, hn2, hmJ⟩ := mayF_may HmJ.out
                  obtain rfl : m = n2 := by omega
                  have h := renamed_any 0 m (jnL L FN C m) O1 aJ aE cJ cE wi hmJ (by omega) hmb HOr.out qJ.rwa (HAll.out wi HBr.out).1.2
                  rw [hjl, HN1.out.2.1] at h
                  exact h)
                have HEnd : Hid (∀ (w7 : World) (L2 FN2 : List Nat) (a2 a3 : Option Addr) (c2 c3 : Nat), DbB wi.heap.size w7 (.slice a2 L2.length c2) (.slice a3 L2.length c3) (rnN L2.length m (Fl FN2)) (rnO L2.length O1 (Lg1 L2)) → BfI m 0 (jnL L FN C m) L2 FN2 L2.length 0 → Below wi.heap.size wi w7 → ∃ u1 u2 u3, LaidZ w7 u1 u2 u3 w0.heap.size (.int .i64 0) (.slice a2 L2.length c2) (.slice a3 L2.length c3) ∧ DofR w u3 m s0 N O (.returned (.tuple #[.agg #[.int .i64 0, .slice a2 L2.length c2, .slice a3 L2.length c3], .int .i64 0]))) := hid0 (fun w7 L2 FN2 a2 a3 c2 c3 hd hbf hb7 => by
                  have h7 := HAll.out w7 (Below.later HBr.out hb7)
                  obtain ⟨u1, u2, u3, hl⟩ := laidZ (.int .i64 0) (.slice a2 L2.length c2) (.slice a3 L2.length c3) h7.2.2.1
                  refine ⟨u1, u2, u3, hl, ?_⟩
                  have hle : w.heap.size ≤ wi.heap.size := (HAll.out wi HBr.out).2.2.2.size
                  have hn2 := rn_len L2.length m (Fl FN2) O1 (Lg1 L2)
                  refine ⟨rnN L2.length m (Fl FN2), rnO L2.length O1 (Lg1 L2), a2, a3, c2, c3, by rw [hn2.1, hn2.2], HFi.out C L2 FN2 HRd.out hbf, ?_, h7.2.2.2.trans (hl.only.below h7.2.2.2.size (fun k hk => by rw [hk]; have := HSz.out; omega))⟩
                  rw [hn2.1, hn2.2]
                  obtain ⟨pD, pE, k1, k2, k3⟩ := hd.only2 hl.only h7.2.2.1
                  exact ⟨pD, pE, k1.low hle, k2.low hle, k3⟩)
                obtain ⟨y0, y1, y2, yf⟩ := HJ.out.c
                clear HAll HmJ HOr HM1 HN1 HFi HTe HTk HJ HRd HMy HBf HJm HCc qJ hjl
                go_wp2_with (go_at_call 41; go_loud ((refine HRn2.out.mono ?_; rintro e w7 ⟨L2, FN2, a2, a3, c2, c3, rfl, hdb, hbf, hb7⟩; obtain ⟨u1, u2, u3, hl, hdof⟩ := HEnd.out w7 L2 FN2 a2 a3 c2 c3 hdb hbf hb7; have HDof := hid0 hdof; have HRow := hid0 hl.r; have g1 := hl.g1; have g2 := hl.g2; have g3 := hl.g3; obtain ⟨z0, z1, z2⟩ := hl.z; have a1 := hl.a1; have a2' := hl.a2; have f0 := hl.f0; have f1 := hl.f1; have f2 := hl.f2; clear hl hdof hdb hbf hb7)))
                obtain ⟨b0, b1, b2, _⟩ := box_c HRow.out
                (try simp only [Exit.inBlock, Exit.then])
                refine bodyPost_ret (by simp [results, Tryd.results21, go_sem, b0, b1, b2]; try rfl) rfl ?_
                exact HDof.out
end Go.Proofs.YtjemjccgfgijiaaDoor
namespace Go.Proofs.YtjemjccgfgijiaaDoor
open Go.RowKit Go.Shelf
set_option maxRecDepth 10000 in
set_option maxHeartbeats 1600000 in
theorem refOf_no (st sy : Int) (N O : List (List Int)) (aN aO : Option Addr) (cN cO : Nat) (w : World) (hmay : mayF st N O sy = false) (hs : SmlO N O) (rN : RwA w aN N) (rO : RwA w aO O) :
    Calls Tryd.prog 21 #[.agg #[.int .i64 st, .slice aN N.length cN, .slice aO O.length cO], .int .i64 sy] w fun e w' => e = .returned (.tuple #[.agg #[.int .i64 0, .slice none 0 0, .slice none 0 0], .int .i64 1]) ∧ Below w.heap.size w w' := by
  obtain ⟨w0, hw0⟩ : ∃ w0, w0 = w.alloc (.cells #[.int .i64 st, .slice aN N.length cN, .slice aO O.length cO] 24) := ⟨_, rfl⟩
  obtain ⟨w1, hw1⟩ : ∃ w1, w1 = w0.alloc (.cells #[.int .i64 0, .slice none 0 0, .slice none 0 0] 24) := ⟨_, rfl⟩
  have hB0 : Below w.heap.size w w0 := by rw [hw0]; exact below_alloc _ _
  have hB1 : Below w0.heap.size w0 w1 := by rw [hw1]; exact below_alloc _ _
  have hX0 : MBox w1 w.heap.size st (.slice aN N.length cN) (.slice aO O.length cO) := by
    have h : MBox w0 w.heap.size st (.slice aN N.length cN) (.slice aO O.length cO) := by rw [hw0]; exact MBox.new _ _ _ _
    exact h.past hB1
  have hR1 : w1.heap[w0.heap.size]? = some (.cells #[.int .i64 0, .slice none 0 0, .slice none 0 0] 24 (0, 0)) := by rw [hw1]; exact heap_alloc_new _ _
  have hB01 := Below.later hB0 hB1
  obtain ⟨big1, big2, big3⟩ := hs.big
  have HMb : Hid (Calls Tryd.prog 9 #[.agg #[.int .i64 st, .slice aN N.length cN, .slice aO O.length cO], .int .i64 sy] w1 fun e w' => e = .returned (.bool false) ∧ Below w1.heap.size w1 w') := hid0 (by
    have h := refMayBe_any st sy N O aN aO cN cO w1 big1 big2 big3 (rN.past hB01) (rO.past hB01)
    rw [hmay] at h
    exact h)
  have HEnd : Hid (∀ w2 : World, Below w1.heap.size w1 w2 → ∃ v1 v2 v3, LaidZ w2 v1 v2 v3 w0.heap.size (.int .i64 0) (.slice none 0 0) (.slice none 0 0) ∧ Below w.heap.size w v3) := hid0 (fun w2 h2 => by
    obtain ⟨v1, v2, v3, hl⟩ := laidZ (.int .i64 0) (.slice none 0 0) (.slice none 0 0) ((h2.block _ (Array.getElem?_eq_some_iff.1 hR1).1).trans hR1)
    have h3 := Below.later hB01 h2
    exact ⟨v1, v2, v3, hl, h3.trans (hl.only.below h3.size (fun k hk => by rw [hk]; exact hB0.size))⟩)
  obtain ⟨x0, x1, x2⟩ := hX0.c
  have q0 := hw0.symm
  have q1 := hw1.symm
  clear hw0 hw1 hB0 hB1 hX0 hR1 hB01 rN rO hs hmay big1 big2 big3
  go_enter Tryd.func21, Tryd.ntmps21
  go_wp2_with (go_at_call 9; go_loud ((refine HMb.out.mono ?_; rintro e w2 ⟨rfl, hb2⟩; obtain ⟨v1, v2, v3, hl, hbl⟩ := HEnd.out w2 hb2; have HBL := hid0 hbl; have HRow := hid0 hl.r; have g1 := hl.g1; have g2 := hl.g2; have g3 := hl.g3; obtain ⟨z0, z1, z2⟩ := hl.z; have a1 := hl.a1; have a2 := hl.a2; have f0 := hl.f0; have f1 := hl.f1; have f2 := hl.f2; clear hl hbl hb2)))
  obtain ⟨b0, b1, b2, _⟩ := box_c HRow.out
  (try simp only [Exit.inBlock, Exit.then])
  refine bodyPost_ret (by simp [results, Tryd.results21, go_sem, b0, b1, b2]; try rfl) rfl ?_
  exact ⟨rfl, HBL.out⟩
set_option maxRecDepth 10000 in
set_option maxHeartbeats 1600000 in
theorem sameRowsG (L M : List (List Int)) (a b : Option Addr) (ca cb : Nat) (w : World) (hl : L.length ≤ 1000000000) (hr : ∀ r ∈ L, r.length ≤ 1000000000) (ha : RwA w a L) (hb : RwA w b M) :
    Calls Tryd.prog 35 #[.slice a L.length ca, .slice b M.length cb] w fun e w' => e = .returned (.bool (decide (L = M))) ∧ ∃ n, w' = w.drewN n := by
  have HA := hid0 ha
  have HB := hid0 hb
  have HR := hid0 hr
  clear ha hb hr
  by_cases hlen : L.length = M.length
  · have hlI : (L.length : Int) = (M.length : Int) := by omega
    have HL := hid0 hlen
    clear hlen
    go_enter Tryd.func35, Tryd.ntmps35
    go_wp2
    go_loopw [5] (fun i wr => ∃ k : Nat, k ≤ L.length ∧ i = .int .i64 (k : Int) ∧ (∃ n, wr = w.drewN n) ∧ Hid (∀ j, j < k → L[j]? = M[j]?)) (fun i _ => L.length - (intOf i).toNat)
    case atStart => exact ⟨0, Nat.zero_le _, rfl, ⟨0, rfl⟩, hid0 (fun j h => absurd h (Nat.not_lt_zero _))⟩
    case round =>
      obtain ⟨k, hk, rfl, ⟨nd, rfl⟩, HE⟩ := hrel
      by_cases hlt : k < L.length
      · have hltM : k < M.length := by have := HL.out; omega
        obtain ⟨b1, o1, rfl, _, a1, c1, d1, i1⟩ := HA.out.at' k hlt
        obtain ⟨b2, o2, rfl, _, a2, c2, d2, i2⟩ := HB.out.at' k hltM
        have hkI : (k : Int) < (L.length : Int) := by omega
        have hkM : (k : Int) < (M.length : Int) := by omega
        have hkI0 : (0 : Int) ≤ (k : Int) := by omega
        have HG1 : Hid (L[k]? = some L[k]) := hid0 (List.getElem?_eq_getElem hlt)
        have HG2 : Hid (M[k]? = some M[k]) := hid0 (List.getElem?_eq_getElem hltM)
        have HS := hid0 (fun n => sameInts_any L[k] M[k] a1 a2 c1 c2 (w.drewN n) (by have := HR.out _ (List.getElem_mem hlt); omega) (i1.drewN n) (i2.drewN n))
        clear i1 i2
        generalize L[k] = s at *
        generalize M[k] = u at *
        by_cases hsu : s = u
        · have HE2 : Hid (∀ j, j < k + 1 → L[j]? = M[j]?) := hid0 (fun j hj => by
            by_cases e : j = k
            · subst e; rw [HG1.out, HG2.out, hsu]
            · exact HE.out j (by omega))
          rw [decide_eq_true hsu] at HS
          clear HE HG1 HG2 hsu
          go_wp2
          go_quiet ((go_at_call 12; exact (HS.out _).mono (fun _ _ h => ⟨h.1, drew_more h.2⟩)))
          go_wp2
          go_roundw
          case rel => exact ⟨k + 1, by omega, by go_num, ⟨_, rfl⟩, HE2⟩
          case measure => simp [intOf]; omega
        · have HV : Hid (decide (L = M) = false) := hid0 (decide_eq_false (fun e => by
            subst e
            rw [HG1.out] at HG2
            exact hsu (by have := HG2.out; cases this; rfl)))
          rw [decide_eq_false hsu] at HS
          clear HE HG1 HG2 hsu
          go_wp2
          go_quiet ((go_at_call 12; exact (HS.out _).mono (fun _ _ h => ⟨h.1, drew_more h.2⟩)))
          go_wp2
          go_ret
          exact ⟨by rw [HV.out]; rfl, _, rfl⟩
      · have hkI : ¬ (k : Int) < (L.length : Int) := by omega
        have HV : Hid (decide (L = M) = true) := hid0 (decide_eq_true (eq_uptoL HL.out (fun j hj => HE.out j (by omega))))
        clear HE
        go_wp2
        go_ret
        exact ⟨by rw [HV.out]; rfl, nd, rfl⟩
  · have hlI : ¬ (L.length : Int) = (M.length : Int) := by omega
    have HV : Hid (decide (L = M) = false) := hid0 (decide_eq_false (fun e => hlen (by rw [e])))
    clear hlen
    go_enter Tryd.func35, Tryd.ntmps35
    go_wp2
    go_ret
    exact ⟨by rw [HV.out]; rfl, 0, rfl⟩
end Go.Proofs.YtjemjccgfgijiaaDoor
namespace Go.Proofs.YtjemjccgfgijiaaDoor
open Go.RowKit Go.Shelf
set_option maxRecDepth 10000 in
set_option maxHeartbeats 1600000 in
theorem refSame_any (sa sb : Int) (N O N' O' : List (List Int)) (aN aO bN bO : Option Addr) (cN cO dN dO : Nat) (w : World) (hs : SmlO N O) (hol : O.length ≤ 1000000000) (h1 : RwA w aN N) (h2 : RwA w aO O) (h3 : RwA w bN N') (h4 : RwA w bO O') :
    Calls Tryd.prog 44 #[.agg #[.int .i64 sa, .slice aN N.length cN, .slice aO O.length cO], .agg #[.int .i64 sb, .slice bN N'.length dN, .slice bO O'.length dO]] w fun e w' => e = .returned (.bool (decide (sa = sb) && decide (N = N') && decide (O = O'))) ∧ Below w.heap.size w w' := by
  obtain ⟨w0, hw0, hB0, hsz0, hA0, hM0⟩ := two_boxes w #[.int .i64 sa, .slice aN N.length cN, .slice aO O.length cO] #[.int .i64 sb, .slice bN N'.length dN, .slice bO O'.length dO] 24
  obtain ⟨x0, x1, x2⟩ := row3c hA0
  obtain ⟨x3, x4, x5⟩ := row3c hM0
  have HS1 := hid0 (sameRowsG N N' aN bN cN dN w0 (by have := hs.n; omega) (fun r hr => by have := hs.nr r hr; omega) (h1.past hB0) (h3.past hB0))
  have HS2 : Hid (∀ q, Calls Tryd.prog 35 #[.slice aO O.length cO, .slice bO O'.length dO] (w0.drewN q) fun e w' => e = .returned (.bool (decide (O = O'))) ∧ ∃ n, w' = (w0.drewN q).drewN n) := hid0 (fun q => by
    have hq : Below w0.heap.size w0 (w0.drewN q) := below_drew' (Below.refl _ _) q
    exact sameRowsG O O' aO bO cO dO (w0.drewN q) hol (fun r hr => by have := hs.or r hr; omega) ((h2.past hB0).past hq) ((h4.past hB0).past hq))
  have HB0 := hid0 hB0
  have HZ := hid0 hsz0
  clear hB0 hsz0 hA0 hM0 h1 h2 h3 h4 hs hol
  generalize decide (N = N') = t1 at *
  generalize decide (O = O') = t2 at *
  by_cases he : sa = sb
  · have hE : (sa == sb) = true := by simpa using he
    rw [decide_eq_true he]
    clear he
    cases t1
    all_goals
      go_enter Tryd.func44, Tryd.ntmps44
      go_wp2_with (first | (go_at_call 35; refine HS1.out.mono ?_; rintro e w3 ⟨rfl, n3, hw3⟩; subst hw3; clear HS1) | (go_at_call 35; refine (HS2.out n3).mono ?_; rintro e w4 ⟨rfl, n4, hw4⟩; rw [World.drewN_drewN] at hw4; subst hw4))
      go_ret
      exact ⟨by simp, below_drew' HB0.out _⟩
  · have hE : (sa == sb) = false := by simpa using he
    rw [decide_eq_false he]
    go_enter Tryd.func44, Tryd.ntmps44
    go_wp2_with (first | (go_at_call 35; refine HS1.out.mono ?_; rintro e w3 ⟨rfl, n3, hw3⟩; subst hw3; clear HS1) | (go_at_call 35; refine (HS2.out n3).mono ?_; rintro e w4 ⟨rfl, n4, hw4⟩; rw [World.drewN_drewN] at hw4; subst hw4))
    go_ret
    exact ⟨by simp, below_drew' HB0.out _⟩
set_option maxRecDepth 10000 in
set_option maxHeartbeats 1600000 in
theorem refIs_any (st sy : Int) (N O : List (List Int)) (aN aO : Option Addr) (cN cO : Nat) (w : World) (hs : SmlO N O) (hol : O.length ≤ 1000000000) (ha : RwA w aN N) (hb : RwN w aO O) :
    Calls Tryd.prog 27 #[.agg #[.int .i64 st, .slice aN N.length cN, .slice aO O.length cO], .int .i64 sy] w fun e w' => e = .returned (.bool (isB st N O sy)) ∧ Below w.heap.size w w' := by
  obtain ⟨w0, hw0⟩ : ∃ w0, w0 = w.alloc (.cells #[.int .i64 st, .slice aN N.length cN, .slice aO O.length cO] 24) := ⟨_, rfl⟩
  have hB0 : Below w.heap.size w w0 := by rw [hw0]; exact below_alloc _ _
  have hX0 : MBox w0 w.heap.size st (.slice aN N.length cN) (.slice aO O.length cO) := by rw [hw0]; exact MBox.new _ _ _ _
  obtain ⟨x0, x1, x2⟩ := hX0.c
  have HX0 := hid0 hX0
  have HB0 := hid0 hB0
  have HA := hid0 (ha.past hB0)
  have HO := hid0 (hb.past hB0)
  have HSm := hid0 (And.intro hs hol)
  cases hmay : mayF st N O sy with
  | false =>
    have HV := hid0 (isB_no hmay)
    have HOf := hid0 (refOf_no st sy N O aN aO cN cO w0 hmay hs HA.out HO.out.rwa)
    have hfold := hw0.symm
    clear hw0 ha hb hB0 hX0 hmay hs hol
    go_enter Tryd.func27, Tryd.ntmps27
    go_upto_region 2 with (go_at_call 21; go_loud ((refine HOf.out.mono ?_; rintro e w1 ⟨rfl, hb1⟩; have HB1' := hid0 hb1; clear hb1)))
    obtain ⟨w2, hw2⟩ : ∃ w2, w2 = w1.alloc (.cells #[.int .i64 0, .slice none 0 0, .slice none 0 0] 24) := ⟨_, rfl⟩
    have hB2 : Below w1.heap.size w1 w2 := by rw [hw2]; exact below_alloc _ _
    have hX2 : MBox w2 w1.heap.size 0 (.slice none 0 0) (.slice none 0 0) := by rw [hw2]; exact MBox.new _ _ _ _
    have hB02 : Below w0.heap.size w0 w2 := Below.later HB1'.out hB2
    obtain ⟨z0, z1, z2⟩ := hX2.c
    obtain ⟨y0, y1, y2⟩ := (HX0.out.past hB02).c
    have HBF : Hid (Below w.heap.size w w2) := hid0 (Below.later HB0.out hB02)
    have HSa := hid0 (refSame_any st 0 N O [] [] aN aO none none cN cO 0 0 w2 HSm.out.1 HSm.out.2 (HA.out.past hB02) (HO.out.rwa.past hB02) ⟨fun k hk => absurd hk (Nat.not_lt_zero _)⟩ ⟨fun k hk => absurd hk (Nat.not_lt_zero _)⟩)
    have q2 := hw2.symm
    clear hw2 hX2 hB02 hB2 x0 x1 x2 hfold HX0 HOf
    go_wp2_with (go_at_call 44; go_loud ((refine HSa.out.mono ?_; rintro e w3 ⟨rfl, hb3⟩; have HB3 := hid0 (Below.later HBF.out hb3); clear hb3)))
    go_ret
    exact ⟨by rw [HV.out]; rfl, HB3.out⟩
  | true =>
    obtain ⟨m, hm, hmy⟩ := mayF_may hmay
    subst hm
    obtain ⟨s0, rfl⟩ : ∃ s0 : Nat, st = (s0 : Int) := ⟨st.toNat, by have := hmy.start; omega⟩
    have HOf := hid0 (refOf_yes s0 m N O aN aO cN cO w0 hmay hs HA.out HO.out)
    have hfold := hw0.symm
    clear hw0 ha hb hB0 hX0 hmay hs hmy hol
    go_enter Tryd.func27, Tryd.ntmps27
    go_upto_region 2 with (go_at_call 21; go_loud ((refine HOf.out.mono ?_; rintro e w1 ⟨N', O', aA, aB, cA, cB, rfl, hl, hdb, hb1⟩; have HB1' := hid0 hb1; have HQ := hid0 (And.intro hl hdb); clear hl hdb hb1)))
    obtain ⟨w2, hw2⟩ : ∃ w2, w2 = w1.alloc (.cells #[.int .i64 0, .slice aA N'.length cA, .slice aB O'.length cB] 24) := ⟨_, rfl⟩
    obtain ⟨hl, hdb⟩ := HQ.out
    obtain ⟨qA, qB, _⟩ := hdb.rwa
    have hB2 : Below w1.heap.size w1 w2 := by rw [hw2]; exact below_alloc _ _
    have hX2 : MBox w2 w1.heap.size 0 (.slice aA N'.length cA) (.slice aB O'.length cB) := by rw [hw2]; exact MBox.new _ _ _ _
    have hB02 : Below w0.heap.size w0 w2 := Below.later HB1'.out hB2
    obtain ⟨z0, z1, z2⟩ := hX2.c
    obtain ⟨y0, y1, y2⟩ := (HX0.out.past hB02).c
    have HBF : Hid (Below w.heap.size w w2) := hid0 (Below.later HB0.out hB02)
    have HSa : Hid (Calls Tryd.prog 44 #[.agg #[.int .i64 (s0 : Int), .slice aN N.length cN, .slice aO O.length cO], .agg #[.int .i64 0, .slice aA N'.length cA, .slice aB O'.length cB]] w2 fun e w' => e = .returned (.bool (isB (s0 : Int) N O (m : Int))) ∧ Below w2.heap.size w2 w') := hid0 (by
      have h := refSame_any (s0 : Int) 0 N O N' O' aN aO aA aB cN cO cA cB w2 HSm.out.1 HSm.out.2 (HA.out.past hB02) (HO.out.rwa.past hB02) (qA.past hB2) (qB.past hB2)
      rw [isB_lst hl]
      exact h)
    have q2 := hw2.symm
    clear hw2 hX2 hB02 hB2 hl hdb qA qB HQ x0 x1 x2 hfold HX0 HOf
    obtain ⟨t, ht⟩ : ∃ t, isB (s0 : Int) N O (m : Int) = t := ⟨_, rfl⟩
    rw [ht] at HSa
    have HT := hid0 ht
    clear ht
    go_wp2_with (go_at_call 44; go_loud ((refine HSa.out.mono ?_; rintro e w3 ⟨rfl, hb3⟩; have HB3 := hid0 (Below.later HBF.out hb3); clear hb3)))
    go_ret
    exact ⟨by rw [HT.out]; rfl, HB3.out⟩
/-- The least machine, or none where the machine may be none. -/
def LeaP (st sy : Int) (N O N2 O2 : List (List Int)) : Prop := (∃ m s0 : Nat, sy = (m : Int) ∧ st = (s0 : Int) ∧ mayF (s0 : Int) N O (m : Int) = true ∧ Lst m (s0 : Int) N O N2 O2) ∨ (mayF st N O sy = false ∧ N2 = [] ∧ O2 = [])
set_option maxRecDepth 10000 in
set_option maxHeartbeats 1600000 in
theorem least_any (A : Nat → Addr) (st sy : Int) (N O : List (List Int)) (aG aH aN aO : Option Addr) (cG cH cN cO : Nat) (w : World) (hs : SmlO N O) (hol : O.length ≤ 2200000) (rG : RwA w aG N) (rH : RwA w aH O) (rN : RwA w aN N) (rO : RwN w aO O) (he : Sents w A) :
    Calls Tryd.prog 25 #[.agg #[.int .i64 st, .slice aG N.length cG, .slice aH O.length cH], .agg #[.int .i64 st, .slice aN N.length cN, .slice aO O.length cO], .int .i64 sy] w fun e w' => e = .returned (.bool true) ∧ Below w.heap.size w w' := by
  obtain ⟨w0, hw0, hB0, hsz0, hA0, hM0⟩ := two_boxes w #[.int .i64 st, .slice aG N.length cG, .slice aH O.length cH] #[.int .i64 st, .slice aN N.length cN, .slice aO O.length cO] 24
  have HC : Hid (∀ V : World, Below w0.heap.size w0 V → (RwA V aG N ∧ RwA V aH O ∧ RwA V aN N ∧ RwN V aO O) ∧ Sents V A ∧ Below w.heap.size w V ∧ (V.cell? ⟨w.heap.size, 0, none⟩ = some (.int .i64 st) ∧ V.cell? ⟨w.heap.size, 1, none⟩ = some (.slice aG N.length cG) ∧ V.cell? ⟨w.heap.size, 2, none⟩ = some (.slice aH O.length cH)) ∧ (V.cell? ⟨w.heap.size + 1, 0, none⟩ = some (.int .i64 st) ∧ V.cell? ⟨w.heap.size + 1, 1, none⟩ = some (.slice aN N.length cN) ∧ V.cell? ⟨w.heap.size + 1, 2, none⟩ = some (.slice aO O.length cO))) := hid0 (fun V hV => by
    have h := Below.later hB0 hV
    exact ⟨⟨rG.past h, rH.past h, rN.past h, rO.past h⟩, he.below h, h, row3c ((hV.block _ (by omega)).trans hA0), row3c ((hV.block _ (by omega)).trans hM0)⟩)
  have HSm := hid0 (And.intro hs hol)
  have HIs : Hid (∀ V : World, Below w0.heap.size w0 V → Calls Tryd.prog 15 #[.agg #[.int .i64 st, .slice aG N.length cG, .slice aH O.length cH], .int .i64 sy] V fun e w' => e = .returned (.bool (isB st N O sy)) ∧ Below V.heap.size V w') := hid0 (fun V hV => is_any (A 0) st sy N O aG aH cG cH V hs (HC.out V hV).1.1 (HC.out V hV).1.2.1 (HC.out V hV).2.1.e1)
  have HRi : Hid (∀ V : World, Below w0.heap.size w0 V → Calls Tryd.prog 27 #[.agg #[.int .i64 st, .slice aN N.length cN, .slice aO O.length cO], .int .i64 sy] V fun e w' => e = .returned (.bool (isB st N O sy)) ∧ Below V.heap.size V w') := hid0 (fun V hV => refIs_any st sy N O aN aO cN cO V hs (by omega) (HC.out V hV).1.2.2.1 (HC.out V hV).1.2.2.2)
  have HLs : Hid (∀ N2 O2, LeaP st sy N O N2 O2 → SmlO N2 O2 ∧ O2.length ≤ 2200000) := hid0 (fun N2 O2 h => by
    rcases h with ⟨m, s0, rfl, rfl, hmay, hl⟩ | ⟨_, rfl, rfl⟩
    · have h1 := hl.sml hs hmay
      exact ⟨h1, by have := hl.red.may'.out; have := h1.n; omega⟩
    · exact ⟨⟨by simp, by simp, by simp, by simp, by simp⟩, by simp⟩)
  obtain ⟨f, ev, hO1, hO2, hNm⟩ : ∃ (f : Int) (ev : Value),
      (∀ V : World, Below w0.heap.size w0 V → Calls Tryd.prog 21 #[.agg #[.int .i64 st, .slice aN N.length cN, .slice aO O.length cO], .int .i64 sy] V fun e w' => ∃ (N2 O2 : List (List Int)) (aD aE : Option Addr) (cD cE : Nat), e = .returned (.tuple #[.agg #[.int .i64 0, .slice aD N2.length cD, .slice aE O2.length cE], .int .i64 f]) ∧ Hid (LeaP st sy N O N2 O2 ∧ RwA w' aD N2 ∧ RwA w' aE O2) ∧ Hid (Below V.heap.size V w')) ∧
      (∀ (V : World) (N2 O2 : List (List Int)), Below w0.heap.size w0 V → LeaP st sy N O N2 O2 → Calls Tryd.prog 10 #[.agg #[.int .i64 st, .slice aG N.length cG, .slice aH O.length cH], .int .i64 sy] V fun e w' => ∃ (aD aE : Option Addr) (cD cE : Nat), e = .returned (.tuple #[.agg #[.int .i64 0, .slice aD N2.length cD, .slice aE O2.length cE], ev]) ∧ Hid (RwA w' aD N2 ∧ RwA w' aE O2) ∧ Hid (Below V.heap.size V w')) ∧
      (∀ V : World, Below w0.heap.size w0 V → Calls Tryd.prog 11 #[ev] V fun e w' => e = .returned (.int .i64 f) ∧ w' = V) := by
    cases hmay : mayF st N O sy with
    | false =>
      refine ⟨1, .iface 135 (.pointer (some (A 0))), fun V hV => ?_, fun V N2 O2 hV hP => ?_, fun V hV => kitNum_at V A (HC.out V hV).2.1 0 (by omega)⟩
      · refine (refOf_no st sy N O aN aO cN cO V hmay hs (HC.out V hV).1.2.2.1 (HC.out V hV).1.2.2.2.rwa).mono ?_
        rintro e w' ⟨rfl, hb⟩
        exact ⟨[], [], none, none, 0, 0, rfl, hid0 ⟨.inr ⟨hmay, rfl, rfl⟩, ⟨fun k hk => absurd hk (Nat.not_lt_zero _)⟩, ⟨fun k hk => absurd hk (Nat.not_lt_zero _)⟩⟩, hid0 hb⟩
      · rcases hP with ⟨m, s0, rfl, rfl, hmay2, _⟩ | ⟨_, rfl, rfl⟩
        · rw [hmay] at hmay2
          cases hmay2
        · refine (of_bad (A 0) st sy N O aG aH cG cH V hmay hs (HC.out V hV).1.1 (HC.out V hV).1.2.1 (HC.out V hV).2.1.e1).mono ?_
          rintro e w' ⟨rfl, hb⟩
          exact ⟨none, none, 0, 0, rfl, hid0 ⟨⟨fun k hk => absurd hk (Nat.not_lt_zero _)⟩, ⟨fun k hk => absurd hk (Nat.not_lt_zero _)⟩⟩, hid0 hb⟩
    | true =>
      refine ⟨0, .nilIface, fun V hV => ?_, fun V N2 O2 hV hP => ?_, fun V hV => kitNum_nil V⟩
      · obtain ⟨m, hm, hmy⟩ := mayF_may hmay
        subst hm
        obtain ⟨s0, rfl⟩ : ∃ s0 : Nat, st = (s0 : Int) := ⟨st.toNat, by have := hmy.start; omega⟩
        refine (refOf_yes s0 m N O aN aO cN cO V hmay hs (HC.out V hV).1.2.2.1 (HC.out V hV).1.2.2.2).mono ?_
        rintro e w' ⟨N2, O2, aD, aE, cD, cE, rfl, hl, hdb, hb⟩
        exact ⟨N2, O2, aD, aE, cD, cE, rfl, hid0 ⟨.inl ⟨m, s0, rfl, rfl, hmay, hl⟩, hdb.rwa.1, hdb.rwa.2.1⟩, hid0 hb⟩
      · rcases hP with ⟨m, s0, rfl, rfl, hmay2, hl2⟩ | ⟨hmay2, _⟩
        · refine (of_sml s0 m N O aG aH cG cH V hmay hs (HC.out V hV).1.1 (HC.out V hV).1.2.1).mono ?_
          rintro e w' ⟨vN, vO, rfl, hof, hb⟩
          obtain ⟨N3, O3, aD, cD, aE, cE, rfl, rfl, q1, q2, hl⟩ := hof.rows
          obtain ⟨e1, e2⟩ := hl2.uniq hl
          subst e1
          subst e2
          exact ⟨aD, aE, cD, cE, rfl, hid0 ⟨q1, q2⟩, hid0 hb⟩
        · rw [hmay] at hmay2
          cases hmay2
  have HO1 := hid0 hO1
  have HO2 := hid0 hO2
  have HNm := hid0 hNm
  have HSt : Hid (∀ (V : World) (N2 O2 : List (List Int)) (a1 a2 a3 a4 : Option Addr) (c1 c2 c3 c4 : Nat), LeaP st sy N O N2 O2 → RwA V a1 N2 → RwA V a2 O2 → RwA V a3 N2 → RwA V a4 O2 → Calls Tryd.prog 14 #[.agg #[.int .i64 0, .slice a1 N2.length c1, .slice a2 O2.length c2], .agg #[.int .i64 0, .slice a3 N2.length c3, .slice a4 O2.length c4]] V fun e w' => e = .returned (.bool true) ∧ Below V.heap.size V w') := hid0 (fun V N2 O2 a1 a2 a3 a4 c1 c2 c3 c4 hP k1 k2 k3 k4 => sameMachine_any 0 N2 O2 a1 a2 a3 a4 c1 c2 c3 c4 V (HLs.out N2 O2 hP).1 (HLs.out N2 O2 hP).2 k1 k2 k3 k4)
  obtain ⟨⟨x0, x1, x2⟩, ⟨x3, x4, x5⟩⟩ := (HC.out w0 (below_refl0 w0)).2.2.2
  have HZ := hid0 hsz0
  obtain ⟨t, ht⟩ : ∃ t, isB st N O sy = t := ⟨_, rfl⟩
  rw [ht] at HIs HRi
  have hself : (t == t) = true := by simp
  have hffI : (f == f) = true := by simp
  clear hB0 hsz0 hA0 hM0 rG rH rN rO he hs hol hO1 hO2 hNm ht
  go_enter Tryd.func25, Tryd.ntmps25
  go_upto_region 2 with (go_at_call 21; go_loud ((refine (HO1.out w0 (below_refl0 w0)).mono ?_; rintro e w1 ⟨N2, O2, aD, aE, cD, cE, rfl, HP, HB1⟩)))
  obtain ⟨w2, hw2⟩ : ∃ w2, w2 = w1.alloc (.cells #[.int .i64 0, .slice aD N2.length cD, .slice aE O2.length cE] 24) := ⟨_, rfl⟩
  have hB2 : Below w1.heap.size w1 w2 := by rw [hw2]; exact below_alloc _ _
  have HX2 : Hid (MBox w2 w1.heap.size 0 (.slice aD N2.length cD) (.slice aE O2.length cE)) := hid0 (by rw [hw2]; exact MBox.new _ _ _ _)
  have HB02 := hid0 (Below.later HB1.out hB2)
  have HR2 := hid0 (And.intro (HP.out.2.1.past hB2) (HP.out.2.2.past hB2))
  have HO2' : Hid (∀ V : World, Below w0.heap.size w0 V → Calls Tryd.prog 10 #[.agg #[.int .i64 st, .slice aG N.length cG, .slice aH O.length cH], .int .i64 sy] V fun e w' => ∃ (aD aE : Option Addr) (cD cE : Nat), e = .returned (.tuple #[.agg #[.int .i64 0, .slice aD N2.length cD, .slice aE O2.length cE], ev]) ∧ Hid (RwA w' aD N2 ∧ RwA w' aE O2) ∧ Hid (Below V.heap.size V w')) := hid0 (fun V hV => HO2.out V N2 O2 hV HP.out.1)
  have q2 := hw2.symm
  clear hw2 hB2 x0 x1 x2 x3 x4 x5 HO2 HO1
  obtain ⟨⟨x0, x1, x2⟩, ⟨x3, x4, x5⟩⟩ := (HC.out w2 HB02.out).2.2.2
  go_upto_region 4 with (first
    | (go_at_call 27; go_loud ((refine (HRi.out w2 HB02.out).mono ?_; rintro e w3 ⟨rfl, hb3⟩; have HB3' := hid0 hb3; have HB03 := hid0 (Below.later HB02.out hb3); clear hb3 x0 x1 x2 x3 x4 x5 q2; obtain ⟨⟨x0, x1, x2⟩, ⟨x3, x4, x5⟩⟩ := (HC.out w3 HB03.out).2.2.2)))
    | (go_at_call 10; go_loud ((refine (HO2'.out w3 HB03.out).mono ?_; rintro e w4 ⟨a3, a4, c3, c4, rfl, HR4, HB4⟩))))
  obtain ⟨w5, hw5⟩ : ∃ w5, w5 = w4.alloc (.cells #[.int .i64 0, .slice a3 N2.length c3, .slice a4 O2.length c4] 24) := ⟨_, rfl⟩
  have hB5 : Below w4.heap.size w4 w5 := by rw [hw5]; exact below_alloc _ _
  have HX5 : Hid (MBox w5 w4.heap.size 0 (.slice a3 N2.length c3) (.slice a4 O2.length c4)) := hid0 (by rw [hw5]; exact MBox.new _ _ _ _)
  have hB25 := Below.later HB3'.out (Below.later HB4.out hB5)
  have HB05 := hid0 (Below.later HB02.out hB25)
  have HB25 := hid0 hB25
  have HR5 := hid0 (And.intro (HR4.out.1.past hB5) (HR4.out.2.past hB5))
  have q5 := hw5.symm
  clear hw5 hB5 hB25 x0 x1 x2 x3 x4 x5
  obtain ⟨⟨x0, x1, x2⟩, ⟨x3, x4, x5⟩⟩ := (HC.out w5 HB05.out).2.2.2
  go_upto_region 5 with (go_at_call 15; go_loud ((refine (HIs.out w5 HB05.out).mono ?_; rintro e w6 ⟨rfl, hb6⟩; have HB6' := hid0 hb6; have HB06 := hid0 (Below.later HB05.out hb6); clear hb6 x0 x1 x2 x3 x4 x5 q5)))
  obtain ⟨y0, y1, y2⟩ := (HX5.out.past HB6'.out).c
  have hB26 := Below.later HB25.out HB6'.out
  obtain ⟨z0, z1, z2⟩ := (HX2.out.past hB26).c
  have HSd := hid0 (HSt.out w6 N2 O2 a3 a4 aD aE c3 c4 cD cE HP.out.1 (HR5.out.1.past HB6'.out) (HR5.out.2.past HB6'.out) (HR2.out.1.past hB26) (HR2.out.2.past hB26))
  clear hB26
  go_wp2_with (first
    | (go_at_call 14; go_loud ((refine HSd.out.mono ?_; rintro e w7 ⟨rfl, hb7⟩; have HB07 := hid0 (Below.later HB06.out hb7); clear hb7)))
    | (go_at_call 11; go_loud ((refine (HNm.out w7 HB07.out).mono ?_; rintro e w8 ⟨rfl, hw8⟩; subst hw8))))
  go_ret
  exact ⟨rfl, (HC.out _ HB07.out).2.2.1⟩
end Go.Proofs.YtjemjccgfgijiaaDoor
namespace Go.Proofs.YtjemjccgfgijiaaDoor
open Go.RowKit Go.Shelf
set_option maxRecDepth 10000 in
set_option maxHeartbeats 1600000 in
theorem kept_any (st : Int) (N O : List (List Int)) (b1 b2 G H c d cN cO : Nat) (aN aO : Option Addr) (w : World) (hs : Sml N O) (hol : O.length ≤ 2200000) (h1 : Tz w b1 G c N) (h2 : Tz w b2 H d O) (ha : MaA w aN aO N O) :
    Calls Tryd.prog 24 #[.agg #[.int .i64 st, .slice (some ⟨G, 0, none⟩) N.length c, .slice (some ⟨H, 0, none⟩) O.length d], .agg #[.int .i64 st, .slice aN N.length cN, .slice aO O.length cO]] w fun e w' => e = .returned (.bool true) ∧ Below w.heap.size w w' := by
  obtain ⟨w0, hw0, hB0, hsz0, hA0, hM0⟩ := two_boxes w #[.int .i64 st, .slice (some ⟨G, 0, none⟩) N.length c, .slice (some ⟨H, 0, none⟩) O.length d] #[.int .i64 st, .slice aN N.length cN, .slice aO O.length cO] 24
  obtain ⟨x0, x1, x2⟩ := row3c hA0
  obtain ⟨y0, y1, y2⟩ := row3c hM0
  have HS1 := hid0 (still_any N b1 G c cN aN w0 hs.n hs.nr (h1.later hB0) (ha.past hB0).n)
  have HS2 : Hid (∀ n, Calls Tryd.prog 43 #[.slice (some ⟨H, 0, none⟩) O.length d, .slice aO O.length cO] (w0.drewN n) fun e w' => e = .returned (.bool true) ∧ ∃ m, w' = (w0.drewN n).drewN m) := hid0 (fun n => still_any O b2 H d cO aO (w0.drewN n) hol hs.or ((h2.later hB0).later (below_drew' (Below.refl _ _) n)) (((ha.past hB0).past (below_drew' (Below.refl _ _) n)).o))
  have HB0 := hid0 hB0
  have hself : (st == st) = true := by simp
  clear hB0 hA0 hM0 h1 h2 ha hsz0
  go_enter Tryd.func24, Tryd.ntmps24
  go_wp2_with (first
    | (go_at_call 43; have hq := HQ.out; refine (HS2.out n1).mono ?_; rintro e w2 ⟨rfl, n2, hw2⟩; rw [World.drewN_drewN] at hw2; subst hw2; clear hq)
    | (go_at_call 43; refine HS1.out.mono ?_; rintro e w1 ⟨rfl, n1, hw1⟩; subst hw1; have HQ : Hid True := hid0 trivial; clear HS1))
  go_ret
  exact ⟨rfl, below_drew' HB0.out _⟩
def set3 (W : World) (X : Nat) (a b c : Value) : World := ((W.setCell ⟨X, 0, none⟩ a).setCell ⟨X, 1, none⟩ b).setCell ⟨X, 2, none⟩ c
theorem set3_row {W : World} {X : Nat} {t : TypeId} {a0 b0 c0 : Value} (h : W.heap[X]? = some (.cells #[a0, b0, c0] t (0, 0))) (a b c : Value) : (set3 W X a b c).heap[X]? = some (.cells #[a, b, c] t (0, 0)) := by
  unfold set3
  exact heap_setCell_same _ _ 2 _ _ c (heap_setCell_same _ _ 1 _ _ b (heap_setCell_same _ _ 0 _ _ a h))
theorem set3_other {W : World} {X k : Nat} (hk : k ≠ X) (a b c : Value) : (set3 W X a b c).heap[k]? = W.heap[k]? := by
  unfold set3
  rw [Below.heap_setCell _ _ _ k hk, Below.heap_setCell _ _ _ k hk, Below.heap_setCell _ _ _ k hk]
theorem Tz.keep {w w' : World} {base G c : Nat} {L : List (List Int)} (h : Tz w base G c L) (hb : ∀ k, base ≤ k → k < w.heap.size → w'.heap[k]? = w.heap[k]?) : Tz w' base G c L := by
  obtain ⟨qs, h1, h2⟩ := h.at'
  refine ⟨qs, ⟨own_blk h1.outer (fun k hk => hb k (World.ownsRow.lt h1.outer k hk).1 (World.ownsRow.lt h1.outer k hk).2), fun x hx => ?_⟩, h2⟩
  obtain ⟨g, cg, e, hl, ho⟩ := h1.row x hx
  exact ⟨g, cg, e, hl, own_blk ho (fun k hk => hb k (World.ownsRow.lt ho k hk).1 (World.ownsRow.lt ho k hk).2)⟩
theorem Tz.lower {w : World} {base lo G c : Nat} {L : List (List Int)} (h : Tz w base G c L) (hl : lo ≤ base) : Tz w lo G c L := by
  obtain ⟨qs, h1, h2⟩ := h.at'
  exact ⟨qs, ⟨owns_lower h1.outer hl, fun x hx => by obtain ⟨g, cg, e, hl', ho⟩ := h1.row x hx; exact ⟨g, cg, e, hl', owns_lower ho hl⟩⟩, h2⟩
set_option maxRecDepth 10000 in
set_option maxHeartbeats 1600000 in
theorem twin_any (st : Int) (N O : List (List Int)) (aN aO : Option Addr) (cN cO : Nat) (w : World) (hs : Sml N O) (hol : O.length ≤ 2200000) (hN : RwN w aN N) (hO : RwN w aO O) :
    Calls Tryd.prog 20 #[.agg #[.int .i64 st, .slice aN N.length cN, .slice aO O.length cO]] w fun e w' => ∃ G c H d, e = .returned (.agg #[.int .i64 st, .slice (some ⟨G, 0, none⟩) N.length c, .slice (some ⟨H, 0, none⟩) O.length d]) ∧ Tz w' w.heap.size G c N ∧ Tz w' w.heap.size H d O ∧ Below w.heap.size w w' := by
  obtain ⟨w0, hw0, hB0, hsz0, hA0, hM0⟩ := two_boxes w #[.int .i64 st, .slice aN N.length cN, .slice aO O.length cO] #[.int .i64 0, .slice none 0 0, .slice none 0 0] 24
  have HCl : Hid (∀ V : World, Below w0.drew.heap.size w0.drew V → V.cell? ⟨w.heap.size, 0, none⟩ = some (.int .i64 st) ∧ V.cell? ⟨w.heap.size, 1, none⟩ = some (.slice aN N.length cN) ∧ V.cell? ⟨w.heap.size, 2, none⟩ = some (.slice aO O.length cO)) := hid0 (fun V hV => row3c ((hV.block _ (by show w.heap.size < w0.heap.size; omega)).trans hA0))
  have HYr : Hid (∀ V : World, Below w0.drew.heap.size w0.drew V → V.heap[w.heap.size + 1]? = some (.cells #[.int .i64 0, .slice none 0 0, .slice none 0 0] 24 (0, 0))) := hid0 (fun V hV => (hV.block _ (by show w.heap.size + 1 < w0.heap.size; omega)).trans hM0)
  have HY : Hid (∀ V : World, Below w0.drew.heap.size w0.drew V → (V.cell? ⟨w.heap.size + 1, 0, none⟩ = some (.int .i64 0) ∧ V.cell? ⟨w.heap.size + 1, 1, none⟩ = some (.slice none 0 0) ∧ V.cell? ⟨w.heap.size + 1, 2, none⟩ = some (.slice none 0 0)) ∧ V.frozen? ⟨w.heap.size + 1, 0, none⟩ = false ∧ V.frozen? ⟨w.heap.size + 1, 1, none⟩ = false ∧ V.frozen? ⟨w.heap.size + 1, 2, none⟩ = false) := hid0 (fun V hV => by
    have h := HYr.out V hV
    exact ⟨row3c h, by simp [World.frozen?, h], by simp [World.frozen?, h], by simp [World.frozen?, h]⟩)
  have HCs : Hid (∀ V : World, Below w0.drew.heap.size w0.drew V → ∀ a b c, (set3 V (w.heap.size + 1) a b c).cell? ⟨w.heap.size, 0, none⟩ = some (.int .i64 st) ∧ (set3 V (w.heap.size + 1) a b c).cell? ⟨w.heap.size, 1, none⟩ = some (.slice aN N.length cN) ∧ (set3 V (w.heap.size + 1) a b c).cell? ⟨w.heap.size, 2, none⟩ = some (.slice aO O.length cO)) := hid0 (fun V hV a b c => row3c ((set3_other (by omega) a b c).trans ((hV.block _ (by show w.heap.size < w0.heap.size; omega)).trans hA0)))
  have hb0d : Below w.heap.size w w0.drew := ⟨hB0.os, hB0.tape, hB0.output, hB0.size, hB0.block⟩
  have HR1 := hid0 (rows_any N aN cN w0.drew hs.n hs.nr (hN.past hb0d))
  have HR2 : Hid (∀ V : World, Below w0.drew.heap.size w0.drew V → Calls Tryd.prog 40 #[.slice aO O.length cO] V fun r w' => ∃ G c, r = .returned (.slice (some ⟨G, 0, none⟩) O.length c) ∧ Tz w' V.heap.size G c O ∧ Below V.heap.size V w') := hid0 (fun V hV => rows_any O aO cO V hol hs.or ((hO.past hb0d).past hV))
  have HB0 := hid0 hb0d
  have HZ0 := hid0 hsz0
  clear hB0 hsz0 hA0 hM0 hN hO hb0d
  go_enter Tryd.func20, Tryd.ntmps20
  go_wp2
  refine wp_region_noPanic ?_
  refine wp_region_held_drew (S := (fun V => V.cell? ⟨w.heap.size, 0, none⟩ = some (.int .i64 st) ∧ V.cell? ⟨w.heap.size, 1, none⟩ = some (.slice aN N.length cN) ∧ V.cell? ⟨w.heap.size, 2, none⟩ = some (.slice aO O.length cO))) (by kernel_rfl) ?_ (fun hHeld => ?_)
  · exact HCl.out w0.drew (Below.refl _ _)
  refine tkV (i := 0) (d := some 3) (v := ?_) rfl (by kernel_rfl) (by kernel_rfl) (by kernel_rfl) rfl (fun _ _ _ h => h) (by rfl) ?_ (by assumption) ?_
  rotate_left
  · (intro w hSw; (try dsimp only at hSw); (try simp only [List.getElem_toArray, List.getElem_cons_zero]); go_simp; try with_reducible rfl)
  try simp only [Act.put, List.setIfInBounds_toArray, List.set_cons_zero, List.set_cons_succ]
  refine tkV (i := 1) (d := some 4) (v := ?_) rfl (by kernel_rfl) (by kernel_rfl) (by kernel_rfl) rfl (fun _ _ _ h => h) (by rfl) ?_ (by assumption) ?_
  rotate_left
  · (intro w hSw; (try dsimp only at hSw); (try simp only [List.getElem_toArray, List.getElem_cons_zero, List.getElem_cons_succ]); go_simp; try with_reducible rfl)
  try simp only [Act.put, List.setIfInBounds_toArray, List.set_cons_zero, List.set_cons_succ]
  refine tkV (i := 2) (d := some 5) (v := ?_) rfl (by kernel_rfl) (by kernel_rfl) (by kernel_rfl) rfl (fun _ _ _ h => h) (by rfl) ?_ (by assumption) ?_
  rotate_left
  · (intro w hSw; (try dsimp only at hSw); (try simp only [List.getElem_toArray, List.getElem_cons_zero, List.getElem_cons_succ]); go_simp; try with_reducible rfl)
  try simp only [Act.put, List.setIfInBounds_toArray, List.set_cons_zero, List.set_cons_succ]
  refine tkV (i := 3) (d := some 6) (v := ?_) rfl (by kernel_rfl) (by kernel_rfl) (by kernel_rfl) rfl (fun _ _ _ h => h) (by rfl) ?_ (by assumption) ?_
  rotate_left
  · (intro w hSw; (try dsimp only at hSw); (try simp only [List.getElem_toArray, List.getElem_cons_zero, List.getElem_cons_succ]); go_simp; try with_reducible rfl)
  try simp only [Act.put, List.setIfInBounds_toArray, List.set_cons_zero, List.set_cons_succ]
  refine tkV (i := 5) (d := some 8) (v := ?_) rfl (by kernel_rfl) (by kernel_rfl) (by kernel_rfl) rfl (fun _ _ _ h => h) (by rfl) ?_ (by assumption) ?_
  rotate_left
  · (intro w hSw; (try dsimp only at hSw); (try simp only [List.getElem_toArray, List.getElem_cons_zero, List.getElem_cons_succ]); go_simp; try with_reducible rfl)
  try simp only [Act.put, List.setIfInBounds_toArray, List.set_cons_zero, List.set_cons_succ]
  refine tkV (i := 6) (d := some 9) (v := ?_) rfl (by kernel_rfl) (by kernel_rfl) (by kernel_rfl) rfl (fun _ _ _ h => h) (by rfl) ?_ (by assumption) ?_
  rotate_left
  · (intro w hSw; (try dsimp only at hSw); (try simp only [List.getElem_toArray, List.getElem_cons_zero, List.getElem_cons_succ]); go_simp; try with_reducible rfl)
  try simp only [Act.put, List.setIfInBounds_toArray, List.set_cons_zero, List.set_cons_succ]
  refine wpAnyH_ready (rs := [4]) (by kernel_rfl) (by simp) (AllReadyH.cons rfl (fun K hK => ?_) AllReadyH.nil)
  try simp only [List.getElem_toArray, List.getElem_cons_zero, List.getElem_cons_succ]
  go_simp
  refine HR1.out.mono ?_
  rintro e w1 ⟨G, c, rfl, ht1, hb1⟩
  have HT1 := hid0 ht1
  have HB1 := hid0 hb1
  have HS1 := hid0 (HCl.out w1 hb1)
  clear ht1 hb1
  go_wp2_with fail
  refine hK.out _ _ ?_ (fun hHeld4 => ?_)
  · exact HS1.out
  clear hK K
  (try simp only [Act.put]); (try simp only [List.setIfInBounds_toArray]); (try simp only [List.set_cons_succ]); (try simp only [List.set_cons_zero])
  refine wpAnyH_ready (rs := [7]) (by kernel_rfl) (by simp) (AllReadyH.cons rfl (fun K hK => ?_) AllReadyH.nil)
  try simp only [List.getElem_toArray, List.getElem_cons_zero, List.getElem_cons_succ]
  go_simp
  refine (HR2.out w1 HB1.out).mono ?_
  rintro e w2 ⟨H, d, rfl, ht2, hb2⟩
  have HT2 := hid0 ht2
  have HB2 := hid0 hb2
  have HS2 := hid0 (HCl.out w2 (HB1.out.trans (hb2.mono HB1.out.size)))
  obtain ⟨⟨k0, k1, k2⟩, f0, f1, f2⟩ := HY.out w2 (HB1.out.trans (hb2.mono HB1.out.size))
  have HS3 := hid0 (HCs.out w2 (HB1.out.trans (hb2.mono HB1.out.size)) (.int .i64 st) (.slice (some ⟨G, 0, none⟩) N.length c) (.slice (some ⟨H, 0, none⟩) O.length d))
  clear ht2 hb2
  go_wp2_with fail
  refine hK.out _ _ ?_ (fun hHeld7 => ?_)
  · exact HS2.out
  clear hK K
  (try simp only [Act.put]); (try simp only [List.setIfInBounds_toArray]); (try simp only [List.set_cons_succ]); (try simp only [List.set_cons_zero])
  refine tkV (i := 8) (d := some 11) (v := ?_) rfl (by kernel_rfl) (by kernel_rfl) (by kernel_rfl) rfl (fun _ _ _ h => h) (by rfl) ?_ (by assumption) ?_
  rotate_left
  · (intro w hSw; (try dsimp only at hSw); (try simp only [List.getElem_toArray, List.getElem_cons_zero, List.getElem_cons_succ]); go_simp; try with_reducible rfl)
  try simp only [Act.put, List.setIfInBounds_toArray, List.set_cons_zero, List.set_cons_succ]
  refine wpAnyH_ready (rs := [9]) (by kernel_rfl) (by simp) (AllReadyH.cons rfl (fun K hK => ?_) AllReadyH.nil)
  try simp only [List.getElem_toArray, List.getElem_cons_zero, List.getElem_cons_succ]
  go_simp
  refine hK.out _ _ ?_ (fun hHeld9 => ?_)
  · exact HS3.out
  clear hK K
  (try simp only [Act.put]); (try simp only [List.setIfInBounds_toArray]); (try simp only [List.set_cons_succ]); (try simp only [List.set_cons_zero])
  refine wpAnyH_done (by kernel_rfl) ?_ _
  refine NoPanic.normal ?_
  go_wp2
  have hz := HZ0.out
  have hzz : w0.drew.heap.size = w.heap.size + 1 + 1 := hz
  have hb2 := HB1.out.trans (HB2.out.mono HB1.out.size)
  have hrow := set3_row (HYr.out w2 hb2) (.int .i64 st) (.slice (some ⟨G, 0, none⟩) N.length c) (.slice (some ⟨H, 0, none⟩) O.length d)
  obtain ⟨q0, q1, q2⟩ := row3c hrow
  unfold set3 at q0 q1 q2
  refine bodyPost_ret (v := .agg #[.int .i64 st, .slice (some ⟨G, 0, none⟩) N.length c, .slice (some ⟨H, 0, none⟩) O.length d]) (by simp [results, Tryd.results20, go_sem, q0, q1, q2]) rfl ?_
  have hs1 := HB1.out.size
  have hs2 := HB2.out.size
  refine ⟨G, c, H, d, rfl, ?_, ?_, ?_⟩
  · refine ((HT1.out.later HB2.out).keep (w' := set3 w2 (w.heap.size + 1) (.int .i64 st) (.slice (some ⟨G, 0, none⟩) N.length c) (.slice (some ⟨H, 0, none⟩) O.length d)) (fun k hk _ => set3_other (by omega) _ _ _)).lower (by omega)
  · refine (HT2.out.keep (w' := set3 w2 (w.heap.size + 1) (.int .i64 st) (.slice (some ⟨G, 0, none⟩) N.length c) (.slice (some ⟨H, 0, none⟩) O.length d)) (fun k hk _ => set3_other (by omega) _ _ _)).lower (by omega)
  · exact (((HB0.out.trans (hb2.mono (by omega))).setCell (p := ⟨w.heap.size + 1, 0, none⟩) (by simp) _).setCell (p := ⟨w.heap.size + 1, 1, none⟩) (by simp) _).setCell (p := ⟨w.heap.size + 1, 2, none⟩) (by simp) _
end Go.Proofs.YtjemjccgfgijiaaDoor
