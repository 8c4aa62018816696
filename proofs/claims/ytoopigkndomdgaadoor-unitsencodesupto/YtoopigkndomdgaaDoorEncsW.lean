/-
  The walk of caesuralaw2.UnitsEncodes.
-/
import Derived.Test.YtoopigkndomdgaaDoorREncW
import Derived.Test.YtoopigkndomdgaaDoorSentW
namespace Go.Proofs.YtoopigkndomdgaaDoor
open Go.RowKit
/-- The text, the refusal and its number, of one list. -/
theorem enc_cases (ps : List Int) (ev : Value) : ∃ (t : ByteArray) (b : Bool), encVal ps ev = .tuple #[.string t, if b then .nilIface else ev] ∧ refVal ps = .tuple #[.string t, .int .i64 (if b then 0 else 1)] := by
  unfold encVal refVal
  cases ps.all scalarP with
  | true => exact ⟨⟨(encAll ps).toArray⟩, true, rfl, rfl⟩
  | false => exact ⟨⟨#[]⟩, false, rfl, rfl⟩
theorem num_of {w : World} {A : Nat → Addr} (h : Sents w A) (b : Bool) :
    Calls Tryd.prog 21 #[if b then .nilIface else .iface 73 (.pointer (some (A 0)))] w fun e w' => e = .returned (.int .i64 (if b then 0 else 1)) ∧ w' = w := by
  cases b with
  | true => exact kitNum_nil w
  | false => exact kitNum_at w A h 0 (by omega)
theorem cell_far (w : World) (g o b o2 : Nat) (v : Value) (h : g ≠ b) : (w.setCell ⟨g, o, none⟩ v).cell? ⟨b, o2, none⟩ = w.cell? ⟨b, o2, none⟩ := by
  apply World.cell?_setCell_other
  intro e
  exact h (congrArg Addr.block e)
theorem cell_near (w : World) (p : Addr) (v u : Value) (h : w.cell? p = some u) : (w.setCell p v).cell? p = some v := by
  apply World.cell?_setCell_same
  exact h
theorem OwnI.stored {w : World} {base g n cap : Nat} {l : List Int} (h : OwnI w base (.slice (some ⟨g, 0, none⟩) n cap) l) (k : Nat) (c : Int) :
    OwnI (w.setCell ⟨g, k, none⟩ (.int .i64 c)) base (.slice (some ⟨g, 0, none⟩) n cap) (l.set k c) := by
  have h0 := h
  rcases h.2 with ⟨h', _⟩ | ⟨g', cap', cur, h', _⟩
  · simp at h'
  · simp only [Value.slice.injEq, Option.some.injEq, Addr.mk.injEq, and_true] at h'
    obtain ⟨_, rfl, _⟩ := h'
    have := (World.ownsRow.stored h0 k (.int .i64 c)).1
    unfold OwnI
    rw [List.length_set]
    simpa [List.map_set] using this
theorem OwnI.free {w : World} {base g n cap : Nat} {l : List Int} (h : OwnI w base (.slice (some ⟨g, 0, none⟩) n cap) l) (k : Nat) : w.frozen? ⟨g, k, none⟩ = false := by
  have h0 := h
  rcases h.2 with ⟨h', _⟩ | ⟨g', cap', cur, h', _⟩
  · simp at h'
  · simp only [Value.slice.injEq, Option.some.injEq, Addr.mk.injEq, and_true] at h'
    obtain ⟨_, rfl, _⟩ := h'
    exact World.ownsRow.frozenAt h0 k
theorem set_front (ps : List Int) (q : Int) (m : List Int) (h : 0 < ps.length) : (ps ++ m).set 0 q = ps.set 0 q ++ m := by rw [List.set_append_left _ _ h]
theorem front_zero (ps m : List Int) (h : 0 < ps.length) (h' : 0 < (ps ++ m).length) : (ps ++ m)[0] = ps[0] := by rw [List.getElem_append_left h]
set_option maxRecDepth 10000 in
set_option maxHeartbeats 400000 in
theorem encodes_nil (ps : List Int) (a : Option Addr) (cap : Nat) (A : Nat → Addr) (hl : ps.length ≤ 1048576) (hz : ps.length = 0) (w : World) (ha : PA w a ps) (hS : Sents w A) :
    Calls Tryd.prog 7 #[.slice a ps.length cap] w fun e w' => e = .returned (.bool true) ∧ Below w.heap.size w w' := by
  have HA := hidE ha
  have HS := hidE hS
  have HLi := hidE (kitList_any ps a cap (by omega) w ha)
  have HRe := hidE (fun w' h => refEncode_any ps a cap (by omega) w' h)
  obtain ⟨t, b, h1, h2⟩ := enc_cases ps (.iface 73 (.pointer (some (A 0))))
  have HE1 := hidE h1
  have HE2 := hidE h2
  clear ha hS h1 h2
  rw [HE2.out] at HRe
  generalize hx : (if b then Value.nilIface else .iface 73 (.pointer (some (A 0)))) = x at *
  generalize hy : (if b then (0 : Int) else 1) = y at *
  have HN := hidE (fun w' h => num_of (w := w') (A := A) h b)
  rw [hx, hy] at HN
  clear hx hy HE2
  have hz1 : ((ps.length : Int) == 0) = true := by rw [beq_iff_eq]; omega
  clear hz
  go_enter Tryd.func7, Tryd.ntmps7
  go_wp2_with (first
    | (go_at_call 16; have hq := HLi.out; clear HLi; refine hq.mono ?_; rintro e w1 ⟨g, c, rfl, ho1, hg, hc, hm, hb1⟩; have HO1 := hidE ho1; have HB1 := hidE hb1; have hs1 := hb1.size; clear ho1 hb1 hq)
    | (go_at_call 17; have hq := HE1.out; clear HE1; refine (encode_any ps _ _ (A 0) (by omega) _ HO1.out.front (HS.out.below HB1.out).c0).mono ?_; rintro e w2 ⟨rfl, hb2⟩; rw [hq]; have HO2 := hidE (HO1.out.later hb2); have HB2 := hidE (HB1.out.trans (hb2.mono hs1)); have hs2 := hb2.size; clear hb2 hq HO1)
    | (go_at_call 18; have hq := HRe.out; clear HRe; refine (hq _ (HA.out.later HB2.out)).mono ?_; rintro e w3 ⟨rfl, hb3⟩; have HO3 := hidE (HO2.out.later hb3); have HB3 := hidE (HB2.out.trans (hb3.mono HB2.out.size)); have hs3 := hb3.size; clear hb3 hq HO2)
    | (go_at_call 19; refine (sameI_pa ps _ _ _ _ _ (by omega) HO3.out.front (HA.out.later HB3.out)).mono ?_; rintro e w4 ⟨rfl, hb4⟩; have HO4 := hidE (HO3.out.later hb4); have HB4 := hidE (HB3.out.trans (hb4.mono HB3.out.size)); have hs4 := hb4.size; clear hb4 HO3)
    | (go_at_call 20; refine (listLeft_any ps _ _ _ (by omega) _ HO4.out hc).mono ?_; rintro e w5 ⟨rfl, hb5⟩; have HO5 := hidE (HO4.out.later hb5); have HB5 := hidE (HB4.out.trans (hb5.mono HB4.out.size)); have hs5 := hb5.size; clear hb5 HO4)
    | (go_at_call 21; have hq := HN.out; clear HN; refine (hq _ (HS.out.below HB5.out)).mono ?_; rintro e w6 ⟨rfl, rfl⟩; clear hq)
    | fail)
  go_ret
  exact ⟨rfl, HB5.out⟩
set_option maxRecDepth 10000 in
set_option maxHeartbeats 400000 in
theorem encodes_at (ps : List Int) (a : Option Addr) (cap : Nat) (A : Nat → Addr) (hl : ps.length ≤ 1048576) (hz : 0 < ps.length) (h66 : ps[0] = 66) (w : World) (ha : PA w a ps) (hS : Sents w A) :
    Calls Tryd.prog 7 #[.slice a ps.length cap] w fun e w' => e = .returned (.bool true) ∧ Below w.heap.size w w' := by
  have hz1 : ((ps.length : Int) == 0) = false := by rw [beq_eq_false_iff_ne]; omega
  obtain ⟨b0, o0, rfl, hc0⟩ := ha.at' 0 hz
  rw [Nat.add_zero] at hc0
  have hbl := World.block_lt_of_cell? w _ hc0
  rw [h66] at hc0
  have HRe2 := hidE (fun g c w' h => refEncode_any (ps.set 0 67) (some ⟨g, 0, none⟩) c (by rw [List.length_set]; omega) w' h)
  have HEn2 := hidE (fun g c w' h hE => encode_any (ps.set 0 67) (some ⟨g, 0, none⟩) c (A 0) (by rw [List.length_set]; omega) w' h hE)
  simp only [List.length_set] at HRe2 HEn2
  obtain ⟨t2, b2, h3, h4⟩ := enc_cases (ps.set 0 67) (.iface 73 (.pointer (some (A 0))))
  rw [h4] at HRe2
  rw [h3] at HEn2
  clear h3 h4
  have HN2 := hidE (fun w' h => num_of (w := w') (A := A) h b2)
  generalize (if b2 then Value.nilIface else .iface 73 (.pointer (some (A 0)))) = x2 at *
  generalize (if b2 then (0 : Int) else 1) = y2 at *
  have HA := hidE ha
  have HS := hidE hS
  have HLi := hidE (kitList_any ps (some ⟨b0, o0, none⟩) cap (by omega) w ha)
  have HRe := hidE (fun w' h => refEncode_any ps (some ⟨b0, o0, none⟩) cap (by omega) w' h)
  obtain ⟨t, b, h1, h2⟩ := enc_cases ps (.iface 73 (.pointer (some (A 0))))
  have HE1 := hidE h1
  have HE2 := hidE h2
  clear ha hS h1 h2
  rw [HE2.out] at HRe
  generalize hx : (if b then Value.nilIface else .iface 73 (.pointer (some (A 0)))) = x at *
  generalize hy : (if b then (0 : Int) else 1) = y at *
  have HN := hidE (fun w' h => num_of (w := w') (A := A) h b)
  rw [hx, hy] at HN
  clear hx hy HE2
  go_enter Tryd.func7, Tryd.ntmps7
  go_wp2_with (first
    | (go_at_call 16; have hq := HLi.out; clear HLi; refine hq.mono ?_; rintro e w1 ⟨g, c, rfl, ho1, hg, hc, hm, hb1⟩; have HO1 := hidE ho1; have HB1 := hidE hb1; have hs1 := hb1.size; clear ho1 hb1 hq)
    | (go_at_call 17; have hq := HE1.out; clear HE1; refine (encode_any ps _ _ (A 0) (by omega) _ HO1.out.front (HS.out.below HB1.out).c0).mono ?_; rintro e w2 ⟨rfl, hb2⟩; rw [hq]; have HO2 := hidE (HO1.out.later hb2); have HB2 := hidE (HB1.out.trans (hb2.mono hs1)); have hs2 := hb2.size; clear hb2 hq HO1)
    | (go_at_call 18; have hq := HRe.out; clear HRe; refine (hq _ (HA.out.later HB2.out)).mono ?_; rintro e w3 ⟨rfl, hb3⟩; have HO3 := hidE (HO2.out.later hb3); have HB3 := hidE (HB2.out.trans (hb3.mono HB2.out.size)); have hs3 := hb3.size; clear hb3 hq HO2)
    | (go_at_call 19; refine (sameI_pa ps _ _ _ _ _ (by omega) HO3.out.front (HA.out.later HB3.out)).mono ?_; rintro e w4 ⟨rfl, hb4⟩; have HO4 := hidE (HO3.out.later hb4); have HB4 := hidE (HB3.out.trans (hb4.mono HB3.out.size)); have hs4 := hb4.size; clear hb4 HO3)
    | (go_at_call 20; refine (listLeft_any ps _ _ _ (by omega) _ HO4.out hc).mono ?_; rintro e w5 ⟨rfl, hb5⟩; have HO5 := hidE (HO4.out.later hb5); have HB5 := hidE (HB4.out.trans (hb5.mono HB4.out.size)); have hs5 := hb5.size; clear hb5 HO4)
    | (go_at_call 21; have hq := HN.out; clear HN; refine (hq _ (HS.out.below HB5.out)).mono ?_; rintro e w6 ⟨rfl, rfl⟩; clear hq; have k0 := HO5.out.cell 0 (by simp); have k1 := HO5.out.free 0; have k2 : (w6.setCell ⟨g, 0, none⟩ (.int .i64 66)).cell? ⟨b0, o0, none⟩ = some (.int .i64 66) := (cell_far _ g 0 b0 o0 _ (by omega)).trans ((HB5.out.cell (p := ⟨b0, o0, none⟩) hbl).trans hc0); have k3 : (w6.setCell ⟨g, 0, none⟩ (.int .i64 66)).cell? ⟨g, 0, none⟩ = some (.int .i64 66) := cell_near _ _ _ _ k0; have HO6 : Hid (OwnI ((w6.setCell ⟨g, 0, none⟩ (.int .i64 66)).setCell ⟨g, 0, none⟩ (.int .i64 67)) w.heap.size (.slice (some ⟨g, 0, none⟩) (ps.length + 2) c) (ps.set 0 67 ++ [-77, -77])) := by { have h := (HO5.out.stored 0 66).stored 0 67; rw [List.set_set, set_front _ _ _ hz] at h; exact h }; have HB6 : Hid (Below w.heap.size w ((w6.setCell ⟨g, 0, none⟩ (.int .i64 66)).setCell ⟨g, 0, none⟩ (.int .i64 67))) := ((HB5.out.setCell (p := ⟨g, 0, none⟩) hg _).setCell (p := ⟨g, 0, none⟩) hg _); clear HO5)
    | (go_at_call 18; refine (HRe2.out _ _ _ HO6.out.front).mono ?_; rintro e w7 ⟨rfl, hb7⟩; have HO7 := hidE (HO6.out.later hb7); have HB7 := hidE (HB6.out.trans (hb7.mono HB6.out.size)); clear hb7 HO6 HRe2)
    | (go_at_call 17; refine (HEn2.out _ _ _ HO7.out.front (HS.out.below HB7.out).c0).mono ?_; rintro e w8 ⟨rfl, hb8⟩; have HB8 := hidE (HB7.out.trans (hb8.mono HB7.out.size)); clear hb8 HEn2 HO7)
    | (go_at_call 21; refine (HN2.out _ (HS.out.below HB8.out)).mono ?_; rintro e w9 ⟨rfl, rfl⟩)
    | fail)
  go_ret
  exact ⟨by simp, HB8.out⟩
set_option maxRecDepth 10000 in
set_option maxHeartbeats 400000 in
theorem encodes_far (ps : List Int) (a : Option Addr) (cap : Nat) (A : Nat → Addr) (hl : ps.length ≤ 1048576) (hz : 0 < ps.length) (h66 : ps[0] ≠ 66) (w : World) (ha : PA w a ps) (hS : Sents w A) :
    Calls Tryd.prog 7 #[.slice a ps.length cap] w fun e w' => e = .returned (.bool true) ∧ Below w.heap.size w w' := by
  have hz1 : ((ps.length : Int) == 0) = false := by rw [beq_eq_false_iff_ne]; omega
  obtain ⟨b0, o0, rfl, hc0⟩ := ha.at' 0 hz
  rw [Nat.add_zero] at hc0
  have hbl := World.block_lt_of_cell? w _ hc0
  have hpe : (ps[0] == 66) = false := by simpa using h66
  have HRe2 := hidE (fun g c w' h => refEncode_any (ps.set 0 66) (some ⟨g, 0, none⟩) c (by rw [List.length_set]; omega) w' h)
  have HEn2 := hidE (fun g c w' h hE => encode_any (ps.set 0 66) (some ⟨g, 0, none⟩) c (A 0) (by rw [List.length_set]; omega) w' h hE)
  simp only [List.length_set] at HRe2 HEn2
  obtain ⟨t2, b2, h3, h4⟩ := enc_cases (ps.set 0 66) (.iface 73 (.pointer (some (A 0))))
  rw [h4] at HRe2
  rw [h3] at HEn2
  clear h3 h4
  have HN2 := hidE (fun w' h => num_of (w := w') (A := A) h b2)
  generalize (if b2 then Value.nilIface else .iface 73 (.pointer (some (A 0)))) = x2 at *
  generalize (if b2 then (0 : Int) else 1) = y2 at *
  have HA := hidE ha
  have HS := hidE hS
  have HLi := hidE (kitList_any ps (some ⟨b0, o0, none⟩) cap (by omega) w ha)
  have HRe := hidE (fun w' h => refEncode_any ps (some ⟨b0, o0, none⟩) cap (by omega) w' h)
  obtain ⟨t, b, h1, h2⟩ := enc_cases ps (.iface 73 (.pointer (some (A 0))))
  have HE1 := hidE h1
  have HE2 := hidE h2
  clear ha hS h1 h2
  rw [HE2.out] at HRe
  generalize hx : (if b then Value.nilIface else .iface 73 (.pointer (some (A 0)))) = x at *
  generalize hy : (if b then (0 : Int) else 1) = y at *
  have HN := hidE (fun w' h => num_of (w := w') (A := A) h b)
  rw [hx, hy] at HN
  clear hx hy HE2
  go_enter Tryd.func7, Tryd.ntmps7
  go_wp2_with (first
    | (go_at_call 16; have hq := HLi.out; clear HLi; refine hq.mono ?_; rintro e w1 ⟨g, c, rfl, ho1, hg, hc, hm, hb1⟩; have HO1 := hidE ho1; have HB1 := hidE hb1; have hs1 := hb1.size; clear ho1 hb1 hq)
    | (go_at_call 17; have hq := HE1.out; clear HE1; refine (encode_any ps _ _ (A 0) (by omega) _ HO1.out.front (HS.out.below HB1.out).c0).mono ?_; rintro e w2 ⟨rfl, hb2⟩; rw [hq]; have HO2 := hidE (HO1.out.later hb2); have HB2 := hidE (HB1.out.trans (hb2.mono hs1)); have hs2 := hb2.size; clear hb2 hq HO1)
    | (go_at_call 18; have hq := HRe.out; clear HRe; refine (hq _ (HA.out.later HB2.out)).mono ?_; rintro e w3 ⟨rfl, hb3⟩; have HO3 := hidE (HO2.out.later hb3); have HB3 := hidE (HB2.out.trans (hb3.mono HB2.out.size)); have hs3 := hb3.size; clear hb3 hq HO2)
    | (go_at_call 19; refine (sameI_pa ps _ _ _ _ _ (by omega) HO3.out.front (HA.out.later HB3.out)).mono ?_; rintro e w4 ⟨rfl, hb4⟩; have HO4 := hidE (HO3.out.later hb4); have HB4 := hidE (HB3.out.trans (hb4.mono HB3.out.size)); have hs4 := hb4.size; clear hb4 HO3)
    | (go_at_call 20; refine (listLeft_any ps _ _ _ (by omega) _ HO4.out hc).mono ?_; rintro e w5 ⟨rfl, hb5⟩; have HO5 := hidE (HO4.out.later hb5); have HB5 := hidE (HB4.out.trans (hb5.mono HB4.out.size)); have hs5 := hb5.size; clear hb5 HO4)
    | (go_at_call 21; have hq := HN.out; clear HN; refine (hq _ (HS.out.below HB5.out)).mono ?_; rintro e w6 ⟨rfl, rfl⟩; clear hq; have k0 := HO5.out.cell 0 (by simp); have k1 := HO5.out.free 0; have k2 : (w6.setCell ⟨g, 0, none⟩ (.int .i64 66)).cell? ⟨b0, o0, none⟩ = some (.int .i64 ps[0]) := (cell_far _ g 0 b0 o0 _ (by omega)).trans ((HB5.out.cell (p := ⟨b0, o0, none⟩) hbl).trans hc0); have k3 : (w6.setCell ⟨g, 0, none⟩ (.int .i64 66)).cell? ⟨g, 0, none⟩ = some (.int .i64 66) := cell_near _ _ _ _ k0; have HO6 : Hid (OwnI (w6.setCell ⟨g, 0, none⟩ (.int .i64 66)) w.heap.size (.slice (some ⟨g, 0, none⟩) (ps.length + 2) c) (ps.set 0 66 ++ [-77, -77])) := by { have h := HO5.out.stored 0 66; rw [set_front _ _ _ hz] at h; exact h }; have HB6 : Hid (Below w.heap.size w (w6.setCell ⟨g, 0, none⟩ (.int .i64 66))) := HB5.out.setCell (p := ⟨g, 0, none⟩) hg _; clear HO5)
    | (go_at_call 18; refine (HRe2.out _ _ _ HO6.out.front).mono ?_; rintro e w7 ⟨rfl, hb7⟩; have HO7 := hidE (HO6.out.later hb7); have HB7 := hidE (HB6.out.trans (hb7.mono HB6.out.size)); clear hb7 HO6 HRe2)
    | (go_at_call 17; refine (HEn2.out _ _ _ HO7.out.front (HS.out.below HB7.out).c0).mono ?_; rintro e w8 ⟨rfl, hb8⟩; have HB8 := hidE (HB7.out.trans (hb8.mono HB7.out.size)); clear hb8 HEn2 HO7)
    | (go_at_call 21; refine (HN2.out _ (HS.out.below HB8.out)).mono ?_; rintro e w9 ⟨rfl, rfl⟩)
    | fail)
  go_ret
  exact ⟨by simp, HB8.out⟩
theorem encodes_walk (ps : List Int) (a : Option Addr) (cap : Nat) (A : Nat → Addr) (hl : ps.length ≤ 1048576) (w : World) (ha : PA w a ps) (hS : Sents w A) :
    Calls Tryd.prog 7 #[.slice a ps.length cap] w fun e w' => e = .returned (.bool true) ∧ Below w.heap.size w w' := by
  by_cases hz : ps.length = 0
  · exact encodes_nil ps a cap A hl hz w ha hS
  · by_cases h66 : ps[0]'(by omega) = 66
    · exact encodes_at ps a cap A hl (by omega) h66 w ha hS
    · exact encodes_far ps a cap A hl (by omega) h66 w ha hS
end Go.Proofs.YtoopigkndomdgaaDoor
