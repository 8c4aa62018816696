/-
  The walk of caesuralaw26.OffsetsJoin.
-/
import Derived.Test.YtlmbbohhdgeedaaDoorOzQW
import Derived.Test.YtlmbbohhdgeedaaDoorOzRM
import Derived.Test.YtlmbbohhdgeedaaDoorOzSW
import Derived.Test.YtlmbbohhdgeedaaDoorEncodeW
namespace Go.Proofs.YtlmbbohhdgeedaaDoor
open Go.RowKit
/-- Bytes as a text. -/
def bsL (l : List UInt8) : ByteArray := ⟨l.toArray⟩
theorem bsL_list (l : List UInt8) : (bsL l).data.toList = l := by simp [bsL]
theorem bsL_size (l : List UInt8) : (bsL l).size = l.length := by simp [bsL, ByteArray.size]
theorem bsL_append (a b : List UInt8) : bsL a ++ bsL b = bsL (a ++ b) := by
  apply ByteArray.ext
  simp [bsL]
theorem allP_end (ps : List Int) (ha : ps.all scalarP = true) (k : Nat) (h : k < (allP (encAll ps)).length) : (allP (encAll ps))[k] = endF (ps.take k) := by rw [allP_at, stK_end ps ha]
theorem allP_elen (ps : List Int) (ha : ps.all scalarP = true) : (allP (encAll ps)).length = ps.length + 1 := by rw [allP_len, units_len ps ha]
theorem lastP_end (ps : List Int) (ha : ps.all scalarP = true) : lastP (allP (encAll ps)) = endF ps := by
  rw [lastP_all, stK_end ps ha, units_len ps ha, List.take_length]
theorem scal_append {ps qs : List Int} (h1 : ps.all scalarP = true) (h2 : qs.all scalarP = true) : (ps ++ qs).all scalarP = true := by rw [List.all_append, h1, h2]; rfl
/-- Encode of points that are picked. -/
theorem enc_any (ps : List Int) (ha : ps.all scalarP = true) (a : Option Addr) (cap : Nat) (pe : Addr) (hl : ps.length ≤ 20000000) (w : World) (hA : PA w a ps) (hE : w.cell? ⟨0, 0, none⟩ = some (.iface 107 (.pointer (some pe)))) :
    Calls Tryd.prog 16 #[.slice a ps.length cap] w fun e w' => e = .returned (.tuple #[.string (bsL (encAll ps)), .nilIface]) ∧ Below w.heap.size w w' := by
  have h := encode_any ps a cap pe hl w hA hE
  rw [encVal, if_pos ha] at h
  exact h
theorem PA.one {w : World} {a : Option Addr} {ps : List Int} (h : PA w a ps) (k : Nat) (hk : k < ps.length) : ∃ b off, a = some ⟨b, off, none⟩ ∧ PA w (some ⟨b, off + k, none⟩) [ps[k]] := by
  obtain ⟨b, off, rfl, hc⟩ := h.at' k hk
  refine ⟨b, off, rfl, ⟨fun i hi => ?_⟩⟩
  have h0 : i = 0 := by simpa using hi
  subst h0
  exact ⟨b, off + k, rfl, hc⟩
theorem joinP_b (e q : Pl) : (joinP e q).b = e.b + q.b ∧ (joinP e q).u = e.u + q.u ∧ (joinP e q).w = e.w + q.w ∧ (joinP e q).l = e.l + q.l - 1 ∧ (joinP e q).c = if q.l = 1 then e.c + q.c - 1 else q.c := ⟨rfl, rfl, rfl, rfl, rfl⟩
theorem new_bs (l : List UInt8) (hs : l.length ≤ 4194400) (w : World) (hT : SeqAt w) :
    Calls Tryd.prog 7 #[.string (bsL l)] w fun e w' => ∃ B, e = .returned (.pointer (some ⟨B, 0, none⟩)) ∧ MapAt w' B (allP l) ∧ Below w.heap.size w w' := by
  have h := new_any (bsL l) (by rw [bsL_size]; exact hs) w hT
  rw [bsL_list] at h
  exact h.mono (fun _ _ ⟨B, h1, _, h2, h3⟩ => ⟨B, h1, h2, h3⟩)
theorem row2 {W : World} {X : Nat} {t : TypeId} {a b : Value} (h : W.heap[X]? = some (.cells #[a, b] t (0, 0))) : W.cell? ⟨X, 0, none⟩ = some a ∧ W.cell? ⟨X, 1, none⟩ = some b :=
  ⟨by rw [cell_of_row _ _ _ _ _ _ h]; rfl, by rw [cell_of_row _ _ _ _ _ _ h]; rfl⟩
/-- The numbers behind a seam. -/
structure SeamB (w0 : World) (B : Nat) (s : Nat) (e p : Pl) : Prop where
  unit : ∀ W, Below w0.heap.size w0 W → Calls Tryd.prog 9 #[.pointer (some ⟨B, 0, none⟩), .int .i64 ((s : Int) + (p.b : Int))] W fun r w' => r = .returned (.tuple #[.int .i64 ((e.u : Int) + (p.u : Int)), .nilIface]) ∧ Below w0.heap.size w0 w'
  wide : ∀ W, Below w0.heap.size w0 W → Calls Tryd.prog 10 #[.pointer (some ⟨B, 0, none⟩), .int .i64 ((s : Int) + (p.b : Int))] W fun r w' => r = .returned (.tuple #[.int .i64 ((e.w : Int) + (p.w : Int)), .nilIface]) ∧ Below w0.heap.size w0 w'
  line : ∀ W, Below w0.heap.size w0 W → Calls Tryd.prog 11 #[.pointer (some ⟨B, 0, none⟩), .int .i64 ((s : Int) + (p.b : Int))] W fun r w' => r = .returned (.tuple #[.int .i64 ((e.l : Int) + (p.l : Int) - 1), .int .i64 ((joinP e p).c : Int), .nilIface]) ∧ Below w0.heap.size w0 w'
theorem seamB {w0 : World} {B s : Nat} {e p : Pl} (h : EdgeB w0 B (joinP e p)) (hs : e.b = s) (hl : 1 ≤ e.l) : SeamB w0 B s e p := by
  have e1 : ((joinP e p).b : Int) = (s : Int) + (p.b : Int) := by simp only [joinP]; omega
  have e2 : ((joinP e p).u : Int) = (e.u : Int) + (p.u : Int) := by simp only [joinP]; omega
  have e3 : ((joinP e p).w : Int) = (e.w : Int) + (p.w : Int) := by simp only [joinP]; omega
  have e4 : ((joinP e p).l : Int) = (e.l : Int) + (p.l : Int) - 1 := by simp only [joinP]; omega
  obtain ⟨h1, h2, h3, _, _, _⟩ := h
  rw [e1, e2] at h1
  rw [e1, e3] at h2
  rw [e1, e4] at h3
  exact ⟨h1, h2, h3⟩
set_option maxRecDepth 10000 in
set_option maxHeartbeats 3200000 in
theorem join_any (zs ys : List Int) (a1 a2 : Option Addr) (c1 c2 : Nat) (pe : Addr) (hl : zs.length + ys.length ≤ 1048576) (w : World) (hT : SeqAt w) (hE : w.cell? ⟨0, 0, none⟩ = some (.iface 107 (.pointer (some pe)))) (hA1 : PA w a1 zs) (hA2 : PA w a2 ys) :
    Calls Tryd.prog 4 #[.agg #[.slice a1 zs.length c1, .slice a2 ys.length c2]] w fun e w' => e = .returned (.bool true) ∧ Below w.heap.size w w' := by
  have hb1 : Below w.heap.size w (w.alloc (.cells #[.slice a1 zs.length c1, .slice a2 ys.length c2] 41)) := (Below.refl _ w).alloc (Nat.le_refl _) _
  have hr1 := heap_alloc_new w (.cells #[.slice a1 zs.length c1, .slice a2 ys.length c2] 41)
  obtain ⟨w1, hw1⟩ : ∃ w1, w1 = w.alloc (.cells #[.slice a1 zs.length c1, .slice a2 ys.length c2] 41) := ⟨_, rfl⟩
  rw [← hw1] at hb1 hr1
  have hfold := hw1.symm
  have hE1 := (hb1.cell (p := ⟨0, 0, none⟩) (World.block_lt_of_cell? w _ hE)).trans hE
  have HT := hid (fun W (h : Below w1.heap.size w1 W) => (hT.later hb1).later h)
  have HEr := hid (fun W (h : Below w1.heap.size w1 W) => (h.cell (p := ⟨0, 0, none⟩) (World.block_lt_of_cell? w1 _ hE1)).trans hE1)
  have HA1 := hid (hA1.later hb1)
  have HA2 := hid (hA2.later hb1)
  have HKn := hid (fun W h => known_any pe W (HT.out W h) (HEr.out W h))
  have hs1 : (zs.map ptF).all scalarP = true := all_ptF zs
  have hs2 : (ys.map ptF).all scalarP = true := all_ptF ys
  have HPt1 := hid (fun W h => points_any zs a1 c1 (by omega) W h)
  have HPt2 := hid (fun W h => points_any ys a2 c2 (by omega) W h)
  have hn1 : (zs.map ptF).length = zs.length := List.length_map ..
  have hn2 : (ys.map ptF).length = ys.length := List.length_map ..
  have hq1 : (encAll (zs.map ptF)).length ≤ 4 * zs.length := by rw [← hn1]; exact encAll_len _
  have hq2 : (encAll (ys.map ptF)).length ≤ 4 * ys.length := by rw [← hn2]; exact encAll_len _
  generalize zs.map ptF = ps at *
  generalize ys.map ptF = qs at *
  generalize zs.length = n1 at *
  generalize ys.length = n2 at *
  have hs3 := scal_append hs1 hs2
  have hP1 := endF_b ps
  have HP2 := hid (fun k => endF_b (qs.take k))
  have HEn1 := hid (fun a cap W h1 h2 => enc_any ps hs1 a cap pe (by omega) W h1 h2)
  have HEn2 := hid (fun a cap W h1 h2 => enc_any qs hs2 a cap pe (by omega) W h1 h2)
  have HEo : Hid (∀ (k : Nat) (hk : k < qs.length) (a : Option Addr) (cap : Nat) (W : World), PA W a [qs[k]'hk] → W.cell? ⟨0, 0, none⟩ = some (.iface 107 (.pointer (some pe))) → Calls Tryd.prog 16 #[.slice a 1 cap] W fun e w' => e = .returned (.tuple #[.string (bsL (encAll [qs[k]'hk])), .nilIface]) ∧ Below W.heap.size W w') := hid (fun k hk a cap W h1 h2 => by
    have h := List.all_eq_true.1 hs2 _ (List.getElem_mem hk)
    exact enc_any [qs[k]'hk] (by rw [List.all_cons, h]; rfl) a cap pe (by simp) W h1 h2)
  rw [hn1] at HEn1
  rw [hn2] at HEn2
  have HN1 := hid (fun W h => new_bs (encAll ps) (by omega) W h)
  have HN2 := hid (fun W h => new_bs (encAll qs) (by omega) W h)
  have HN3 := hid (fun W h => new_bs (encAll ps ++ encAll qs) (by rw [List.length_append]; omega) W h)
  rw [← bsL_append] at HN3
  rw [← encAll_append] at HN3
  have hz1 := allP_elen ps hs1
  have hz2 := allP_elen qs hs2
  have hz3 := allP_elen (ps ++ qs) hs3
  rw [List.length_append] at hz3
  have HC1 := hid (fun B W h => countM_any (allP (encAll ps)) (by omega) (by omega) B W h)
  have HC2 := hid (fun B W h => countM_any (allP (encAll qs)) (by omega) (by omega) B W h)
  have HC3 := hid (fun B W h => countM_any (allP (encAll (ps ++ qs))) (by omega) (by omega) B W h)
  rw [lastP_end ps hs1] at HC1
  rw [lastP_end qs hs2] at HC2
  rw [lastP_end (ps ++ qs) hs3, endF_join] at HC3
  have HK1 : Hid (∀ B, EdgeK (encAll ps) B pe (endF ps)) := hid (fun B => by
    have h := edgeK (encAll ps) (by omega) B pe ps.length (by omega)
    rw [allP_end ps hs1, List.take_length] at h
    exact h)
  have HK2 : Hid (∀ B k, k ≤ n2 → EdgeK (encAll qs) B pe (endF (qs.take k))) := hid (fun B k hk => by
    have h := edgeK (encAll qs) (by omega) B pe k (by omega)
    rw [allP_end qs hs2] at h
    exact h)
  have HK3 : Hid (∀ B k, k ≤ n2 → EdgeK (encAll (ps ++ qs)) B pe (joinP (endF ps) (endF (qs.take k)))) := hid (fun B k hk => by
    have h := edgeK (encAll (ps ++ qs)) (by omega) B pe (ps.length + k) (by omega)
    rw [allP_end (ps ++ qs) hs3, List.take_length_add_append, endF_join] at h
    exact h)
  have hS : (bsL (encAll ps)).size = (endF ps).b := by rw [bsL_size, hP1.1]
  have hE0 : Hid (∀ k (h : k < qs.length), (endF (qs.take (k + 1))).b = (endF (qs.take k)).b + (bsL (encAll [qs[k]])).size) := hid (fun k h => by
    rw [List.take_succ_eq_append_getElem h, endF_snoc, bsL_size]
    simp [stF, encAll])
  have hEn : (endF (qs.take (n2 + 1))).b = (endF (qs.take n2)).b := by rw [List.take_of_length_le (by omega), List.take_of_length_le (by omega)]
  have HBo := hid (fun k (h : k < qs.length) => (show (bsL (encAll [qs[k]])).size ≤ 4 by rw [bsL_size]; exact encAll_len [qs[k]]))
  have hF0 : (endF (qs.take 0)).b = 0 := rfl
  have hP2 := endF_b qs
  have HSz := hid hS
  have hTs : (bsL (encAll qs)).size ≤ 4 * n2 := by rw [bsL_size]; exact hq2
  have HEn := hid hEn
  have HF0 := hid hF0
  have HB1 := hid hb1
  have HR1 := hid hr1
  have hlt := (Array.getElem?_eq_some_iff.1 hr1).1
  have h11 : Below w1.heap.size w1 w1 := Below.refl _ _
  have H11 := hid h11
  obtain ⟨S, hSd⟩ : ∃ S, S = bsL (encAll ps) := ⟨_, rfl⟩
  obtain ⟨T, hTd⟩ : ∃ T, T = bsL (encAll qs) := ⟨_, rfl⟩
  rw [← hSd] at HN1 HN3 HEn1 hS HSz
  rw [← hTd] at HN2 HN3 HEn2 hTs
  clear hw1 hSd hTd hEn hF0 hb1 hr1 hE hE1 hT hA1 hA2 hs1 hs2 hs3 hz1 hz2 hz3 h11
  have HPb : Hid (∀ k, k ≤ n2 → (endF (qs.take k)).b ≤ 4194304 ∧ (endF (qs.take k)).u ≤ 1048576 ∧ 1 ≤ (endF (qs.take k)).l ∧ 1 ≤ (endF (qs.take k)).c ∧ (endF (qs.take k)).w ≤ 2097152 ∧ (endF (qs.take k)).l ≤ 1048577 ∧ (endF (qs.take k)).c ≤ 1048577) := hid (fun k hk => by
    obtain ⟨x1, x2, x3, x4, x5, x6, x7⟩ := HP2.out k
    have x8 := encAll_len (qs.take k)
    rw [List.length_take] at x2 x5 x6 x7 x8
    omega)
  generalize hE' : endF ps = E at *
  generalize hF' : endF qs = F at *
  clear hE' hF'
  obtain ⟨eb, eu, ew, el, ec⟩ := E
  obtain ⟨fb, fu, fw, fl, fc⟩ := F
  simp only at hP1 hP2 hS HC1 HC2
  obtain ⟨o1, o2, o3, o4, o5, o6, o7⟩ := hP1
  obtain ⟨v1, v2, v3, v4, v5, v6, v7⟩ := hP2
  have hj4 : ((el + fl - 1 : Nat) : Int) = (el : Int) + (fl : Int) - 1 := by omega
  have hj1 : ((eb + fb : Nat) : Int) = (eb : Int) + (fb : Int) := by omega
  have hj2 : ((eu + fu : Nat) : Int) = (eu : Int) + (fu : Int) := by omega
  have hj3 : ((ew + fw : Nat) : Int) = (ew : Int) + (fw : Int) := by omega
  simp only [joinP] at HC3
  rw [hj1, hj2, hj3, hj4] at HC3
  subst hS
  have hq1' : S.size ≤ 4194400 := by omega
  have k1 : S.size ≤ 4194304 ∧ fb ≤ 4194304 ∧ eu ≤ 1048576 ∧ fu ≤ 1048576 ∧ ew ≤ 2097152 ∧ fw ≤ 2097152 ∧ el ≤ 1048577 ∧ fl ≤ 1048577 ∧ ec ≤ 1048577 ∧ fc ≤ 1048577 ∧ n2 ≤ 1048576 ∧ T.size ≤ 4194304 := by omega
  have HN2q := hid hn2
  clear hj1 hj2 hj3 hj4 hl hq1 hq2 hn1 hn2 o1 o2 o5 o6 o7 v1 v2 v5 v6 v7 hq1' hTs
  obtain ⟨k1, k2, k3, k4, k5, k6, k7, k8, k9, k10, k11, k12⟩ := k1
  obtain ⟨c0, c1'⟩ := row2 HR1.out
  have HX := H11
  go_enter Tryd.func4, Tryd.ntmps4
  go_upto_region 9 with (first
    | (go_at_call 6; (try rw [hfold]); refine (HKn.out _ H11.out).mono ?_; rintro e w2 ⟨rfl, hb2⟩; have HX := hid hb2; obtain ⟨c0, c1'⟩ := row2 ((hb2.block _ hlt).trans HR1.out); clear hb2)
    | (go_at_call 17; refine (HPt1.out _ (HA1.out.later HX.out)).mono ?_; rintro e w3 ⟨a3, c3, rfl, hcc, hpa, hb⟩; have HPA := hid hpa; have HX := hid (laterB HX.out hb); clear hb hpa HPt1)
    | (go_at_call 16; refine (HEn1.out _ _ _ HPA.out (HEr.out _ HX.out)).mono ?_; rintro e w4 ⟨rfl, hb⟩; have HX := hid (laterB HX.out hb); obtain ⟨c0, c1'⟩ := row2 ((HX.out.block _ hlt).trans HR1.out); clear hb HEn1)
    | (go_at_call 17; refine (HPt2.out _ (HA2.out.later HX.out)).mono ?_; rintro e w5 ⟨a5, c5, rfl, hcc5, hpa, hb⟩; have HPA2 := hid hpa; have HX := hid (laterB HX.out hb); clear hb hpa)
    | (go_at_call 16; refine (HEn2.out _ _ _ HPA2.out (HEr.out _ HX.out)).mono ?_; rintro e w6 ⟨rfl, hb⟩; have HX := hid (laterB HX.out hb); clear hb HEn2 HPA HPA2)
    | (go_at_call 7; refine (HN1.out _ (HT.out _ HX.out)).mono ?_; rintro e w7 ⟨B1, rfl, hm, hb⟩; have HM1 := hid hm; have HX := hid (laterB HX.out hb); clear hb hm HN1)
    | (go_at_call 7; refine (HN2.out _ (HT.out _ HX.out)).mono ?_; rintro e w8 ⟨B2, rfl, hm, hb⟩; have HM2 := hid hm; have HM1 := hid (HM1.out.later hb); have HX := hid (laterB HX.out hb); clear hb hm HN2)
    | (go_at_call 7; refine (HN3.out _ (HT.out _ HX.out)).mono ?_; rintro e w9 ⟨B3, rfl, hm, hb⟩; have HM3 := hid hm; have HM1 := hid (HM1.out.later hb); have HM2 := hid (HM2.out.later hb); have HX := hid (laterB HX.out hb); clear hb hm HN3)
    | fail)
  have HAs1 := hid (AskI.mk HM1.out (HEr.out _ HX.out))
  have HAs2 := hid (AskI.mk HM2.out (HEr.out _ HX.out))
  have HAs3 := hid (AskI.mk HM3.out (HEr.out _ HX.out))
  have HE1 := hid ((HK1.out B1).base HAs1.out)
  have HE2 := hid (fun k hk => (HK2.out B2 k hk).base HAs2.out)
  have HE3 := hid (fun k hk => seamB ((HK3.out B3 k hk).base HAs3.out) rfl o3)
  have HCn1 := hid (fun W (h : Below w9.heap.size w9 W) => HC1.out B1 W (HAs1.out.later h).map)
  have HCn2 := hid (fun W (h : Below w9.heap.size w9 W) => HC2.out B2 W (HAs2.out.later h).map)
  have HCn3 := hid (fun W (h : Below w9.heap.size w9 W) => HC3.out B3 W (HAs3.out.later h).map)
  have H99 : Hid (Below w9.heap.size w9 w9) := hid (Below.refl _ _)
  have HEr9 := hid (fun W (h : Below w9.heap.size w9 W) => HEr.out W (laterB HX.out h))
  have HA29 := hid (fun W (h : Below w9.heap.size w9 W) => HA2.out.later (laterB HX.out h))
  have HR9 := hid (fun W (h : Below w9.heap.size w9 W) => row2 (((laterB HX.out h).block _ hlt).trans HR1.out))
  have HEnd := hid (fun W (h : Below w9.heap.size w9 W) => laterB HB1.out (laterB HX.out h))
  clear HK1 HK2 HK3 HC1 HC2 HC3 HM1 HM2 HM3 HAs1 HAs2 HAs3 HT HEr HA1 HA2 HKn hfold
  have HZ := H99
  go_upto_region 17 with (first
    | (go_at_call 15; refine (HCn1.out _ HZ.out).mono ?_; rintro e wa ⟨rfl, hb⟩; have HZ := hid (laterB HZ.out hb); clear hb HCn1)
    | (go_at_call 15; refine (HCn2.out _ HZ.out).mono ?_; rintro e wb ⟨rfl, hb⟩; have HZ := hid (laterB HZ.out hb); clear hb HCn2)
    | (go_at_call 15; refine (HCn3.out _ HZ.out).mono ?_; rintro e wc ⟨rfl, hb⟩; have HZ := hid (laterB HZ.out hb); clear hb HCn3)
    | (go_at_call 11; refine (HE1.out.line _ HZ.out).mono ?_; rintro e wd ⟨rfl, hb⟩; have HZ := hid hb; clear hb)
    | fail)
  have HZ0 := HZ
  go_upto_region 17 with (fail)
  go_wp2
  go_loopw [26, 27] (fun a i wr => ∃ k : Nat, k ≤ n2 + 1 ∧ i = .int .i64 (k : Int) ∧ a = .int .i64 ((endF (qs.take k)).b : Int) ∧ Hid (Below w9.heap.size w9 wr)) (fun _ i _ => n2 + 1 - (intOf i).toNat)
  case atStart => exact ⟨0, Nat.zero_le _, rfl, by rw [HF0.out]; rfl, HZ0⟩
  case round =>
    obtain ⟨k, hk, rfl, rfl, HB⟩ := hrel
    obtain ⟨c0, c1'⟩ := HR9.out _ HB.out
    by_cases hlt2 : k ≤ n2
    · have HPk := hid (HE2.out k hlt2)
      have HSk := hid (HE3.out k hlt2)
      have HLn := hid (HSk.out.line)
      obtain ⟨b1, b2, b3, b4, b5, b6, b7⟩ := HPb.out k hlt2
      obtain ⟨jc, hjcE⟩ : ∃ jc, jc = (joinP ⟨S.size, eu, ew, el, ec⟩ (endF (qs.take k))).c := ⟨_, rfl⟩
      rw [← hjcE] at HLn
      simp only [joinP] at hjcE
      have hjc := hjcE
      clear hjcE
      by_cases hlt3 : k < n2
      · have hkq : k < qs.length := by have := HN2q.out; omega
        have HEk := hid (HEo.out k hkq)
        have hat := hE0.out k hkq
        have hb4 := HBo.out k hkq
        generalize bsL (encAll [qs[k]]) = X at *
        have HAt : Hid ((endF (qs.take (k + 1))).b = (endF (qs.take k)).b + X.size) := hid hat
        clear hat
        generalize endF (qs.take k) = P at *
        obtain ⟨pb, pu, pw, pl, pc⟩ := P
        simp only at b1 b2 b3 b4 b5 b6 b7 hjc HAt HLn
        by_cases hp1 : pl = 1
        · have hjI : (jc : Int) = (ec : Int) + (pc : Int) - 1 := by rw [hjc, if_pos hp1]; omega
          rw [hjI] at HLn
          have hp2 : ((pl : Int) == 1) = true := by rw [beq_iff_eq]; omega
          have hp3 : ¬ (1 : Int) < (pl : Int) := by omega
          clear hjc hjI hp1
          go_wp2_with (first
            | (go_at_call 9; refine (HPk.out.unit _ HB.out).mono ?_; rintro e wx ⟨rfl, hbx⟩; have HX1 := hid hbx; clear hbx HB)
            | (go_at_call 9; refine (HSk.out.unit _ HX1.out).mono ?_; rintro e wx ⟨rfl, hbx⟩; have HX2 := hid hbx; clear hbx HX1)
            | (go_at_call 10; refine (HPk.out.wide _ HX2.out).mono ?_; rintro e wx ⟨rfl, hbx⟩; have HX3 := hid hbx; clear hbx HX2)
            | (go_at_call 10; refine (HSk.out.wide _ HX3.out).mono ?_; rintro e wx ⟨rfl, hbx⟩; have HX4 := hid hbx; clear hbx HX3)
            | (go_at_call 11; refine (HPk.out.line _ HX4.out).mono ?_; rintro e wx ⟨rfl, hbx⟩; have HX5 := hid hbx; clear hbx HX4)
            | (go_at_call 11; refine (HLn.out _ HX5.out).mono ?_; rintro e wx ⟨rfl, hbx⟩; have HX6 := hid hbx; obtain ⟨c0, c1'⟩ := HR9.out _ hbx; clear hbx HX5)
            | (go_at_call 17; refine (HPt2.out _ (HA29.out _ HX6.out)).mono ?_; rintro e wy ⟨ay, cy, rfl, hcy, hpy, hby⟩; obtain ⟨by1, oy1, rfl, hpk⟩ := hpy.one k hkq; have HPK := hid hpk; have HX7 := hid (laterB HX6.out hby); clear hby hpk hpy HX6)
            | (go_at_call 16; refine (HEk.out _ _ _ HPK.out (HEr9.out _ HX7.out)).mono ?_; rintro e wz ⟨rfl, hbz⟩; have HX8 := hid (laterB HX7.out hbz); clear hbz HX7)
            | fail)
          go_roundw
          case rel => exact ⟨k + 1, by omega, by go_num, by rw [HAt.out]; go_num, HX8⟩
          case measure => simp [intOf]; omega
        · have hjI : jc = pc := by rw [hjc, if_neg hp1]
          subst hjI
          have hp2 : ((pl : Int) == 1) = false := by rw [beq_eq_false_iff_ne]; omega
          have hp3 : (1 : Int) < (pl : Int) := by omega
          clear hjc hp1
          go_wp2_with (first
            | (go_at_call 9; refine (HPk.out.unit _ HB.out).mono ?_; rintro e wx ⟨rfl, hbx⟩; have HX1 := hid hbx; clear hbx HB)
            | (go_at_call 9; refine (HSk.out.unit _ HX1.out).mono ?_; rintro e wx ⟨rfl, hbx⟩; have HX2 := hid hbx; clear hbx HX1)
            | (go_at_call 10; refine (HPk.out.wide _ HX2.out).mono ?_; rintro e wx ⟨rfl, hbx⟩; have HX3 := hid hbx; clear hbx HX2)
            | (go_at_call 10; refine (HSk.out.wide _ HX3.out).mono ?_; rintro e wx ⟨rfl, hbx⟩; have HX4 := hid hbx; clear hbx HX3)
            | (go_at_call 11; refine (HPk.out.line _ HX4.out).mono ?_; rintro e wx ⟨rfl, hbx⟩; have HX5 := hid hbx; clear hbx HX4)
            | (go_at_call 11; refine (HLn.out _ HX5.out).mono ?_; rintro e wx ⟨rfl, hbx⟩; have HX6 := hid hbx; obtain ⟨c0, c1'⟩ := HR9.out _ hbx; clear hbx HX5)
            | (go_at_call 17; refine (HPt2.out _ (HA29.out _ HX6.out)).mono ?_; rintro e wy ⟨ay, cy, rfl, hcy, hpy, hby⟩; obtain ⟨by1, oy1, rfl, hpk⟩ := hpy.one k hkq; have HPK := hid hpk; have HX7 := hid (laterB HX6.out hby); clear hby hpk hpy HX6)
            | (go_at_call 16; refine (HEk.out _ _ _ HPK.out (HEr9.out _ HX7.out)).mono ?_; rintro e wz ⟨rfl, hbz⟩; have HX8 := hid (laterB HX7.out hbz); clear hbz HX7)
            | fail)
          go_roundw
          case rel => exact ⟨k + 1, by omega, by go_num, by rw [HAt.out]; go_num, HX8⟩
          case measure => simp [intOf]; omega
      · have HAt : Hid ((endF (qs.take (k + 1))).b = (endF (qs.take k)).b) := hid (by
          have hke : k = n2 := by omega
          rw [hke]
          exact HEn.out)
        generalize endF (qs.take k) = P at *
        obtain ⟨pb, pu, pw, pl, pc⟩ := P
        simp only at b1 b2 b3 b4 b5 b6 b7 hjc HAt HLn
        by_cases hp1 : pl = 1
        · have hjI : (jc : Int) = (ec : Int) + (pc : Int) - 1 := by rw [hjc, if_pos hp1]; omega
          rw [hjI] at HLn
          have hp2 : ((pl : Int) == 1) = true := by rw [beq_iff_eq]; omega
          have hp3 : ¬ (1 : Int) < (pl : Int) := by omega
          clear hjc hjI hp1
          go_wp2_with (first
            | (go_at_call 9; refine (HPk.out.unit _ HB.out).mono ?_; rintro e wx ⟨rfl, hbx⟩; have HX1 := hid hbx; clear hbx HB)
            | (go_at_call 9; refine (HSk.out.unit _ HX1.out).mono ?_; rintro e wx ⟨rfl, hbx⟩; have HX2 := hid hbx; clear hbx HX1)
            | (go_at_call 10; refine (HPk.out.wide _ HX2.out).mono ?_; rintro e wx ⟨rfl, hbx⟩; have HX3 := hid hbx; clear hbx HX2)
            | (go_at_call 10; refine (HSk.out.wide _ HX3.out).mono ?_; rintro e wx ⟨rfl, hbx⟩; have HX4 := hid hbx; clear hbx HX3)
            | (go_at_call 11; refine (HPk.out.line _ HX4.out).mono ?_; rintro e wx ⟨rfl, hbx⟩; have HX5 := hid hbx; clear hbx HX4)
            | (go_at_call 11; refine (HLn.out _ HX5.out).mono ?_; rintro e wx ⟨rfl, hbx⟩; have HX6 := hid hbx; obtain ⟨c0, c1'⟩ := HR9.out _ hbx; clear hbx HX5)
            | fail)
          go_roundw
          case rel => exact ⟨k + 1, by omega, by go_num, by rw [HAt.out], HX6⟩
          case measure => simp [intOf]; omega
        · have hjI : jc = pc := by rw [hjc, if_neg hp1]
          subst hjI
          have hp2 : ((pl : Int) == 1) = false := by rw [beq_eq_false_iff_ne]; omega
          have hp3 : (1 : Int) < (pl : Int) := by omega
          clear hjc hp1
          go_wp2_with (first
            | (go_at_call 9; refine (HPk.out.unit _ HB.out).mono ?_; rintro e wx ⟨rfl, hbx⟩; have HX1 := hid hbx; clear hbx HB)
            | (go_at_call 9; refine (HSk.out.unit _ HX1.out).mono ?_; rintro e wx ⟨rfl, hbx⟩; have HX2 := hid hbx; clear hbx HX1)
            | (go_at_call 10; refine (HPk.out.wide _ HX2.out).mono ?_; rintro e wx ⟨rfl, hbx⟩; have HX3 := hid hbx; clear hbx HX2)
            | (go_at_call 10; refine (HSk.out.wide _ HX3.out).mono ?_; rintro e wx ⟨rfl, hbx⟩; have HX4 := hid hbx; clear hbx HX3)
            | (go_at_call 11; refine (HPk.out.line _ HX4.out).mono ?_; rintro e wx ⟨rfl, hbx⟩; have HX5 := hid hbx; clear hbx HX4)
            | (go_at_call 11; refine (HLn.out _ HX5.out).mono ?_; rintro e wx ⟨rfl, hbx⟩; have HX6 := hid hbx; obtain ⟨c0, c1'⟩ := HR9.out _ hbx; clear hbx HX5)
            | fail)
          go_roundw
          case rel => exact ⟨k + 1, by omega, by go_num, by rw [HAt.out], HX6⟩
          case measure => simp [intOf]; omega
    · go_wp2
      go_ret
      exact ⟨rfl, HEnd.out _ HB.out⟩
end Go.Proofs.YtlmbbohhdgeedaaDoor
