/-
  The walk of caesuralaw3.RangesOwn.
-/
import Derived.Test.YtnkllhihdjjmnaaDoorGrM
namespace Go.Proofs.YtnkllhihdjjmnaaDoor
open Go.RowKit
/-- What lies below the answers. -/
structure Back (w0 : World) (A : Nat → Addr) (a b : Option Addr) (ca cb : Nat) (la lb : List (Int × Int)) (p : Int) (pa pb po pp : Option Addr) (ko kp box : Nat) (W : World) : Prop where
  x : BoxIn w0 A a b ca cb la lb p W
  oa : RA W pa la
  ob : RA W pb lb
  o0 : W.cell? ⟨box, 0, none⟩ = some (.slice po 2 ko)
  o1 : W.cell? ⟨box, 1, none⟩ = some (.slice pp 1 kp)
  ro : RA W po [(1, 5), (9, 9)]
  rp : RA W pp [(4, 20)]
theorem Back.of {w0 W w' : World} {A : Nat → Addr} {a b : Option Addr} {ca cb : Nat} {la lb : List (Int × Int)} {p : Int} {pa pb po pp : Option Addr} {ko kp box : Nat} (h : Back w0 A a b ca cb la lb p pa pb po pp ko kp box W) (hb : Below W.heap.size W w') : Back w0 A a b ca cb la lb p pa pb po pp ko kp box w' where
  x := h.x.of hb
  oa := h.oa.later hb
  ob := h.ob.later hb
  o0 := (hb.cell (p := ⟨box, 0, none⟩) (World.block_lt_of_cell? W _ h.o0)).trans h.o0
  o1 := (hb.cell (p := ⟨box, 1, none⟩) (World.block_lt_of_cell? W _ h.o1)).trans h.o1
  ro := h.ro.later hb
  rp := h.rp.later hb
theorem Pile.out {w : World} {base n : Nat} {v : Value} {ps : Lot} (h : Pile w base v ps) (hn : ps.length = n) : w.ownsRow base 22 1 v n (ps.map (·.1)) := by
  subst hn
  exact h.outer
theorem five_len {la lb : List (Int × Int)} {ps : Lot} (h : Five la lb (ps.map (·.2))) : ps.length = 5 := by have := h.len; simpa using this
theorem Pile.form' {w : World} {base : Nat} {v : Value} {ps : Lot} {n : Nat} (h : Pile w base v ps) (hn : ps.length = n) (h0 : 0 < n) : ∃ g cap, v = .slice (some ⟨g, 0, none⟩) n cap ∧ base ≤ g ∧ g < w.heap.size := by
  obtain ⟨g, cap, hv, hb, hl⟩ := h.outer.form (by omega)
  exact ⟨g, cap, by rw [hv, hn], hb, hl⟩
theorem lots_same {la lb lc ld : List (Int × Int)} {p q r s : Lot} (hp : Five la lb (p.map (·.2))) (hq : Five la lb (q.map (·.2))) (hr : Five lc ld (r.map (·.2))) (hs : Five la lb (s.map (·.2))) :
    (∀ x ∈ p ++ q ++ r ++ s, x.2.length ≤ 1114112) ∧ ∀ i, i < 5 → ∀ x y z, (p ++ q ++ r ++ s)[i]? = some x → (p ++ q ++ r ++ s)[5 + i]? = some y → (p ++ q ++ r ++ s)[15 + i]? = some z → y.2 = x.2 ∧ z.2 = x.2 := by
  constructor
  · intro x hx
    simp only [List.mem_append] at hx
    rcases hx with ((hx | hx) | hx) | hx
    · exact hp.small _ (List.mem_map_of_mem hx)
    · exact hq.small _ (List.mem_map_of_mem hx)
    · exact hr.small _ (List.mem_map_of_mem hx)
    · exact hs.small _ (List.mem_map_of_mem hx)
  · intro i hi x y z hx hy hz
    have e1 := five_len hp
    have e2 := five_len hq
    have e3 := five_len hr
    have e4 := hq.uniq hp
    have e5 := hs.uniq hp
    rw [List.append_assoc, List.append_assoc, List.getElem?_append_left (by omega)] at hx
    rw [List.append_assoc, List.append_assoc, List.getElem?_append_right (by omega), List.getElem?_append_left (by omega)] at hy
    rw [List.getElem?_append_right (by simp; omega)] at hz
    rw [e1, Nat.add_sub_cancel_left] at hy
    have hz' : s[i]? = some z := by
      have e9 : 15 + i - (p ++ q ++ r).length = i := by simp only [List.length_append, e1, e2, e3]; omega
      rw [e9] at hz
      exact hz
    have f1 : (p.map (·.2))[i]? = some x.2 := by rw [List.getElem?_map, hx]; rfl
    have f2 : (q.map (·.2))[i]? = some y.2 := by rw [List.getElem?_map, hy]; rfl
    have f3 : (s.map (·.2))[i]? = some z.2 := by rw [List.getElem?_map, hz']; rfl
    rw [e4, f1] at f2
    rw [e5, f1] at f3
    exact ⟨(Option.some.inj f2).symm, (Option.some.inj f3).symm⟩
/-- Three rows of one and the same list. -/
theorem Pile.three {w : World} {base g cap : Nat} {ps : Lot} (h : Pile w base (.slice (some ⟨g, 0, none⟩) 20 cap) ps) (hn : ps.length = 20) (hsm : ∀ x ∈ ps, x.2.length ≤ 1114112) (hE : ∀ i, i < 5 → ∀ x y z, ps[i]? = some x → ps[5 + i]? = some y → ps[15 + i]? = some z → y.2 = x.2 ∧ z.2 = x.2) (k : Nat) (hk : k < 5) :
    ∃ (l : List (Int × Int)) (a1 a2 a3 : Option Addr) (c1 c2 c3 : Nat), l.length ≤ 1114112 ∧ w.cell? ⟨g, k, none⟩ = some (.slice a1 l.length c1) ∧ w.cell? ⟨g, 5 + k, none⟩ = some (.slice a2 l.length c2) ∧ w.cell? ⟨g, 15 + k, none⟩ = some (.slice a3 l.length c3) ∧ RA w a1 l ∧ RA w a2 l ∧ RA w a3 l := by
  have m1 : k < ps.length := by omega
  have m2 : 5 + k < ps.length := by omega
  have m3 : 15 + k < ps.length := by omega
  obtain ⟨q1, q2⟩ := hE k hk _ _ _ (List.getElem?_eq_getElem m1) (List.getElem?_eq_getElem m2) (List.getElem?_eq_getElem m3)
  obtain ⟨a1, c1, f1, r1⟩ := (h.row _ (List.getElem_mem m1)).ra
  obtain ⟨a2, c2, f2, r2⟩ := (h.row _ (List.getElem_mem m2)).ra
  obtain ⟨a3, c3, f3, r3⟩ := (h.row _ (List.getElem_mem m3)).ra
  rw [q1] at f2 r2
  rw [q2] at f3 r3
  exact ⟨ps[k].2, a1, a2, a3, c1, c2, c3, hsm _ (List.getElem_mem m1), (h.cell hn k m1).trans (by rw [f1]), (h.cell hn (5 + k) m2).trans (by rw [f2]), (h.cell hn (15 + k) m3).trans (by rw [f3]), r1, r2, r3⟩
theorem Pile.ones {w : World} {base : Nat} {v : Value} {ps : Lot} (h : Pile w base v ps) : ∀ u ∈ ps.map (·.1), u.oneCell' = true := by
  intro u hu
  obtain ⟨x, hx, rfl⟩ := List.mem_map.1 hu
  exact (h.row x hx).one
set_option maxRecDepth 10000 in
set_option maxHeartbeats 800000 in
theorem rangesOwn_any (A : Nat → Addr) (a b : Option Addr) (ca cb : Nat) (la lb : List (Int × Int)) (p : Int) (h1 : la.length ≤ 1048576) (h2 : lb.length ≤ 1048576) (hca : a = none → ca = 0) (hcb : b = none → cb = 0) (w : World) (ha : RA w a la) (hb : RA w b lb) (hS : Sents w A) :
    Calls Tryd.prog 7 #[.agg #[.slice a la.length ca, .slice b lb.length cb, .int .i64 p]] w fun e w' => e = .returned (.bool true) ∧ Below w.heap.size w w' := by
  obtain ⟨i0, hi', hz0, hz1, hz2⟩ := info_parts infoRange
  obtain ⟨j0, ji, jz0, jz1, jz2⟩ := info_parts infoRanges
  have hB0 : Below w.heap.size w (w.alloc (.cells #[.slice a la.length ca, .slice b lb.length cb, .int .i64 p] 24)) := (Below.refl _ w).alloc (Nat.le_refl _) _
  have HX0 : Hid (BoxIn w A a b ca cb la lb p (w.alloc (.cells #[.slice a la.length ca, .slice b lb.length cb, .int .i64 p] 24))) := ⟨by simp, by simp, by simp, ha.later hB0, hb.later hB0, hS.below hB0, hB0⟩
  clear ha hb hS hB0
  go_enter Tryd.func7, Tryd.ntmps7
  go_wp2
  generalize w.alloc (.cells #[.slice a la.length ca, .slice b lb.length cb, .int .i64 p] 24) = W0 at *
  have hB0 := Below.refl W0.heap.size W0
  have HSo : Hid (∀ W, Below W0.heap.size W0 W → W.cell? ⟨w.heap.size, 0, none⟩ = some (.slice a la.length ca) ∧ W.cell? ⟨w.heap.size, 1, none⟩ = some (.slice b lb.length cb) ∧ Below W0.heap.size W0 W) := fun W hW => ⟨(HX0.out.of hW).c0, (HX0.out.of hW).c1, hW⟩
  have M1 : Hid True := trivial
  go_region_held3 (fun W => W.cell? ⟨w.heap.size, 0, none⟩ = some (.slice a la.length ca) ∧ W.cell? ⟨w.heap.size, 1, none⟩ = some (.slice b lb.length cb) ∧ Below W0.heap.size W0 W) (first | exact HSo.out _ (by go_grown) | (go_split_ands; exact HSo.out _ (by go_grown)))
    (first
      | (go_at_call 21; clear M1; go_split_ands; refine (own_any la a ca (by omega) hca _ (HX0.out.of (by go_grown)).ra).mono ?_; rintro e w1 ⟨va, rfl, hoa, hb⟩; have hb1 : Below W0.heap.size W0 w1 := chain3 hb (by go_grown); have hs1 := hb1.size; have HOa := hidE hoa; clear hoa hb)
      | (go_at_call 21; go_split_ands; refine (own_any lb b cb (by omega) hcb _ (HX0.out.of (by go_grown)).rb).mono ?_; rintro e w2 ⟨vb, rfl, hob, hb⟩; have hb2 : Below W0.heap.size W0 w2 := chain3 hb (by go_grown); have hs2 := hb2.size; have HOa2 := hidE (HOa.out.later (chain3 hb (by first | exact Below.refl _ _ | exact drewB _ _))); have HOb := hidE hob; clear hob hb))
  obtain ⟨pa, ka, rfl, hra⟩ := HOa2.out.ra
  obtain ⟨pb, kb, rfl, hrb⟩ := HOb.out.ra
  have hka := own_cap HOa2.out
  have hkb := own_cap HOb.out
  have HX2 := hidE (HX0.out.of hb2)
  have HRa := hidE hra
  have HRb := hidE hrb
  have hsw := HX0.out.bel.size
  clear hra hrb HOa HOa2 HOb hb1 hb2 HSo HX0 hB0
  have M2 : Hid True := trivial
  have M3 : Hid True := trivial
  have M4 : Hid True := trivial
  have M5 : Hid True := trivial
  have M6 : Hid True := trivial
  have M7 : Hid True := trivial
  have M8 : Hid True := trivial
  go_wp2_with (first
    | (go_at_call 25; refine (few_any _).mono ?_; rintro e w3 ⟨vo, vp, rfl, ho, hp, hb⟩; obtain ⟨po, ko, rfl, hro⟩ := ho.ra; obtain ⟨pp, kp, rfl, hrp⟩ := hp.ra; simp only [List.length_cons, List.length_nil, Nat.zero_add, Nat.reduceAdd]; have hko := own_cap ho; have hkp := own_cap hp; have HX3 := hidE (HX2.out.of hb); have HRa3 := hidE (HRa.out.later hb); have HRb3 := hidE (HRb.out.later hb); have HRo := hidE hro; have HRp := hidE hrp; have hs3 := hb.size; clear ho hp hb hro hrp HX2 HRa HRb)
    | (go_at_call 26; clear M2; have HBk : Hid (Back w A a b ca cb la lb p pa pb po pp ko kp w3.heap.size (w3.alloc (.cells #[.slice po 2 ko, .slice pp 1 kp, .int .i64 0] 24))) := ⟨HX3.out.of ((Below.refl _ w3).alloc (Nat.le_refl _) _), HRa3.out.later ((Below.refl _ w3).alloc (Nat.le_refl _) _), HRb3.out.later ((Below.refl _ w3).alloc (Nat.le_refl _) _), by simp, by simp, HRo.out.later ((Below.refl _ w3).alloc (Nat.le_refl _) _), HRp.out.later ((Below.refl _ w3).alloc (Nat.le_refl _) _)⟩; clear HX3 HRa3 HRb3 HRo HRp; generalize w3.alloc (.cells #[.slice po 2 ko, .slice pp 1 kp, .int .i64 0] 24) = W4 at *; refine (handed_any A pa pb ka kb la lb (by omega) (by omega) _ HBk.out.oa HBk.out.ob HBk.out.x.sents).mono ?_; rintro e w5 ⟨v5, ps5, rfl, hp, hf, hb⟩; obtain ⟨g5, c5, rfl, jk1, jk2⟩ := hp.form' (five_len hf) (by omega); clear jk1 jk2; have HP5 := hidE hp; have HF5 := hidE hf; have HB5 := hidE hb; have hs5 := hb.size; clear hp hf hb)
    | (go_at_call 26; clear M3; refine (handed_any A pa pb ka kb la lb (by omega) (by omega) _ (HBk.out.of HB5.out).oa (HBk.out.of HB5.out).ob (HBk.out.of HB5.out).x.sents).mono ?_; rintro e w6 ⟨v6, ps6, rfl, hp, hf, hb⟩; obtain ⟨g6, c6, rfl, jk1, jk2⟩ := hp.form' (five_len hf) (by omega); clear jk1 jk2; have HP6 := hidE hp; have HF6 := hidE hf; have HB6 := hidE hb; have hs6 := hb.size; clear hp hf hb)
    | (at_builtin; clear M4; refine wpList_append_own_at _ rfl _ _ 45 rfl W4.heap.size 22 j0 (.slice none 0 0) 1 24 Tryd.underlying45 ji jz0 jz1 jz2 rfl (by decide) (.slice (some ⟨g5, 0, none⟩) 5 c5) 5 (List.map (·.1) ps5) rfl ((HP5.out.later HB6.out).out (five_len HF5.out)) ⟨g6, 0, none⟩ 5 c6 (List.map (·.1) ps6) rfl (by rw [List.length_map, five_len HF6.out]) (World.ownsRow.cells HP6.out.outer rfl) HP6.out.ones (by unfold maxLen; omega) (by omega) (by omega) ?_; intro v7 w7 hown' hgrow hjk hat; clear hjk; have R := Pile.join (w := W4) (five_len HF5.out).symm (five_len HF6.out).symm HP5.out HB6.out HP6.out (by omega) hown' hgrow hat HB5.out; clear hown' hgrow hat; have HL7 : Hid ((ps5 ++ ps6).length = 10) := hidE (by have e1 := (five_len HF5.out); have e2 := five_len HF6.out; rw [List.length_append]; omega); obtain ⟨g7, c7, rfl, hga7, hgb7⟩ := R.1.form' HL7.out (by omega); have HP7 := hidE R.1; have HB7 := hidE R.2; have hs7 := R.2.size; clear R; have o0 := (HBk.out.of HB7.out).o0; have o1 := (HBk.out.of HB7.out).o1)
    | (go_at_call 26; clear M5; refine (handed_any A po pp ko kp [(1, 5), (9, 9)] [(4, 20)] (by simp) (by simp) _ (HBk.out.of HB7.out).ro (HBk.out.of HB7.out).rp (HBk.out.of HB7.out).x.sents).mono ?_; rintro e w8 ⟨v8, ps8, rfl, hp, hf, hb⟩; obtain ⟨g8, c8, rfl, jk1, jk2⟩ := hp.form' (five_len hf) (by omega); clear jk1 jk2; have HP8 := hidE hp; have HF8 := hidE hf; have HB8 := hidE hb; have hs8 := hb.size; clear hp hf hb)
    | (at_builtin; clear M6; refine wpList_append_own_at _ rfl _ _ 45 rfl W4.heap.size 22 j0 (.slice none 0 0) 1 24 Tryd.underlying45 ji jz0 jz1 jz2 rfl (by decide) (.slice (some ⟨g7, 0, none⟩) 10 c7) 10 (List.map (·.1) (ps5 ++ ps6)) rfl ((HP7.out.later HB8.out).out HL7.out) ⟨g8, 0, none⟩ 5 c8 (List.map (·.1) ps8) rfl (by rw [List.length_map, five_len HF8.out]) (World.ownsRow.cells HP8.out.outer rfl) HP8.out.ones (by unfold maxLen; omega) (by omega) (by omega) ?_; intro v9 w9 hown' hgrow hjk hat; clear hjk; have R := Pile.join (w := W4) HL7.out.symm (five_len HF8.out).symm HP7.out HB8.out HP8.out (by omega) hown' hgrow hat HB7.out; clear hown' hgrow hat; have HL9 : Hid (((ps5 ++ ps6) ++ ps8).length = 15) := hidE (by have e1 := HL7.out; have e2 := five_len HF8.out; rw [List.length_append]; omega); obtain ⟨g9, c9, rfl, hga9, hgb9⟩ := R.1.form' HL9.out (by omega); have HP9 := hidE R.1; have HB9 := hidE R.2; have hs9 := R.2.size; clear R; have o0 := (HBk.out.of HB9.out).o0; have o1 := (HBk.out.of HB9.out).o1)
    | (go_at_call 26; clear M7; refine (handed_any A pa pb ka kb la lb (by omega) (by omega) _ (HBk.out.of HB9.out).oa (HBk.out.of HB9.out).ob (HBk.out.of HB9.out).x.sents).mono ?_; rintro e w10 ⟨v10, ps10, rfl, hp, hf, hb⟩; obtain ⟨g10, c10, rfl, jk1, jk2⟩ := hp.form' (five_len hf) (by omega); clear jk1 jk2; have HP10 := hidE hp; have HF10 := hidE hf; have HB10 := hidE hb; have hs10 := hb.size; clear hp hf hb)
    | (at_builtin; clear M8; refine wpList_append_own_at _ rfl _ _ 45 rfl W4.heap.size 22 j0 (.slice none 0 0) 1 24 Tryd.underlying45 ji jz0 jz1 jz2 rfl (by decide) (.slice (some ⟨g9, 0, none⟩) 15 c9) 15 (List.map (·.1) (ps5 ++ ps6 ++ ps8)) rfl ((HP9.out.later HB10.out).out HL9.out) ⟨g10, 0, none⟩ 5 c10 (List.map (·.1) ps10) rfl (by rw [List.length_map, five_len HF10.out]) (World.ownsRow.cells HP10.out.outer rfl) HP10.out.ones (by unfold maxLen; omega) (by omega) (by omega) ?_; intro v11 w11 hown' hgrow hjk hat; clear hjk; have R := Pile.join (w := W4) HL9.out.symm (five_len HF10.out).symm HP9.out HB10.out HP10.out (by omega) hown' hgrow hat HB9.out; clear hown' hgrow hat; have HL11 : Hid (((ps5 ++ ps6 ++ ps8) ++ ps10).length = 20) := hidE (by have e1 := HL9.out; have e2 := five_len HF10.out; rw [List.length_append]; omega); obtain ⟨g11, c11, rfl, hga11, hgb11⟩ := R.1.form' HL11.out (by omega); have HP11 := hidE R.1; have HB11 := hidE R.2; have hs11 := R.2.size; clear R; have o0 := (HBk.out.of HB11.out).o0; have o1 := (HBk.out.of HB11.out).o1)
    | fail)
  obtain ⟨hsm, hE⟩ := lots_same HF5.out HF6.out HF8.out HF10.out
  have HN := HL11
  have HSM := hidE hsm
  have HE := hidE hE
  generalize ps5 ++ ps6 ++ ps8 ++ ps10 = ps at *
  clear hsm hE HF5 HF6 HF8 HF10 HP5 HP6 HP7 HP8 HP9 HP10 HL7 HL9 HL11 HB5 HB6 HB7 HB8 HB9 HB10 o0 o1 hga7 hgb7 hga9 hgb9
  have HTH := hidE (HP11.out.three HN.out HSM.out HE.out)
  go_loopw [7] (fun i wr => ∃ k : Nat, k ≤ 5 ∧ i = .int .i64 (k : Int) ∧ Below w11.heap.size w11 wr) (fun i _ => 5 - (intOf i).toNat)
  case atStart => exact ⟨0, by omega, rfl, Below.refl _ _⟩
  case round =>
    obtain ⟨k, hk, rfl, hB⟩ := hrel
    have hs := hB.size
    by_cases hlt : k < 5
    · obtain ⟨l, a1, a2, a3, c1, c2, c3, hl, d1, d2, d3, r1, r2, r3⟩ := HTH.out k hlt
      have HSo : Hid (∀ W, Below w11.heap.size w11 W → W.cell? ⟨g11, k, none⟩ = some (.slice a1 l.length c1) ∧ W.cell? ⟨g11, 5 + k, none⟩ = some (.slice a2 l.length c2) ∧ W.cell? ⟨g11, 15 + k, none⟩ = some (.slice a3 l.length c3) ∧ Below w11.heap.size w11 W) := fun W hW =>
        ⟨(hW.cell (p := ⟨g11, k, none⟩) hgb11).trans d1, (hW.cell (p := ⟨g11, 5 + k, none⟩) hgb11).trans d2, (hW.cell (p := ⟨g11, 15 + k, none⟩) hgb11).trans d3, hW⟩
      have HS2 := hidE (fun W (hW : Below w11.heap.size w11 W) => sameR_eq l a1 a2 c1 c2 W (by omega) (r1.later hW) (r2.later hW))
      have HS3 := hidE (fun W (hW : Below w11.heap.size w11 W) => sameR_eq l a1 a3 c1 c3 W (by omega) (r1.later hW) (r3.later hW))
      clear d1 d2 d3 r1 r2 r3
      have M1 : Hid True := trivial
      generalize l.length = n at *
      have z0 : (0 : Int) ≤ (k : Int) := by omega
      have z1 : (k : Int) < 5 := by omega
      have z2 : (k : Int) < 20 := by omega
      have z3 : (0 : Int) ≤ 5 + (k : Int) := by omega
      have z4 : 5 + (k : Int) < 20 := by omega
      have z5 : (0 : Int) ≤ 15 + (k : Int) := by omega
      have z6 : 15 + (k : Int) < 20 := by omega
      have z7 : IntKind.i64.wrap (5 + (k : Int)) = 5 + (k : Int) := by simp [IntKind.wrap, IntKind.bits, IntKind.signed]; omega
      have z8 : IntKind.i64.wrap (15 + (k : Int)) = 15 + (k : Int) := by simp [IntKind.wrap, IntKind.bits, IntKind.signed]; omega
      have z9 : (5 + (k : Int)).toNat = 5 + k := by omega
      have z10 : (15 + (k : Int)).toNat = 15 + k := by omega
      go_wp2
      go_region_held3 (fun W => W.cell? ⟨g11, k, none⟩ = some (.slice a1 n c1) ∧ W.cell? ⟨g11, 5 + k, none⟩ = some (.slice a2 n c2) ∧ W.cell? ⟨g11, 15 + k, none⟩ = some (.slice a3 n c3) ∧ Below w11.heap.size w11 W) (first | exact HSo.out _ (by go_grown) | (go_split_ands; exact HSo.out _ (by go_grown)))
        (first
          | (go_at_call 16; clear M1; go_split_ands; refine (HS2.out _ (by go_grown)).mono ?_; rintro e w1 ⟨rfl, q, hw1⟩; have hb1 : Below w11.heap.size w11 w1 := (by rw [hw1]; refine below_drewN ?_ _; go_grown); have hs1 := hb1.size; clear hw1)
          | (go_at_call 16; go_split_ands; refine (HS3.out _ (by go_grown)).mono ?_; rintro e w2 ⟨rfl, q2, hw2⟩; have hb2 : Below w11.heap.size w11 w2 := (by rw [hw2]; refine below_drewN ?_ _; go_grown); have hs2 := hb2.size; clear hw2))
      all_goals
        go_wp2
        go_roundw
        case rel => exact ⟨k + 1, by omega, by go_num, hb2⟩
        case measure => simp [intOf]; omega
    · have hki : ¬ (k : Int) < 5 := by omega
      have HST : Hid (St W4 g11 c11 0 0 ps wr) := ⟨HP11.out.later hB, HN.out, HSM.out, fun _ _ hj => absurd hj (Nat.not_lt_zero _), fun _ _ _ _ hm => absurd hm (Nat.not_lt_zero _), HB11.out.trans (hB.mono hs11)⟩
      clear HTH HSM HE HN HP11 HB11
      go_wp2
      go_loopw [8] (fun i wr => ∃ (k : Nat) (qs : Lot), k ≤ 20 ∧ i = .int .i64 (k : Int) ∧ St W4 g11 c11 k 0 qs wr) (fun i _ => 20 - (intOf i).toNat)
      case atStart => exact ⟨0, ps, by omega, rfl, HST.out⟩
      case round =>
        clear HST hki hlt hk hB hs
        obtain ⟨i, qs, hi, rfl, hst⟩ := hrel
        have HS := hidE hst
        clear hst
        by_cases hlt : i < 20
        · have hiz : (i : Int) < 20 := by omega
          go_wp2
          go_loopw [9] (fun j wr => ∃ (k : Nat) (qs : Lot), k ≤ 1114112 ∧ j = .int .i64 (k : Int) ∧ St W4 g11 c11 i k qs wr) (fun j _ => 1114112 - (intOf j).toNat)
          case atStart => exact ⟨0, qs, by omega, rfl, HS.out⟩
          case round =>
            clear HS
            obtain ⟨k, qs, hk, rfl, hst⟩ := hrel
            obtain ⟨x, ax, cx, hx, hxv, hxc, hxl⟩ := hst.row hlt
            have HS := hidE hst
            have HX := hidE hx
            have HXV := hidE hxv
            clear hst hx hxv
            have hi0 : (0 : Int) ≤ (i : Int) := by omega
            by_cases hkl : k < x.2.length
            · obtain ⟨g', rfl, hg', hne, ⟨u0, u1, d0, d1⟩, f0, f1, hput⟩ := HS.out.put HX.out hkl HXV.out
              have HPut := hidE hput
              clear hput
              generalize x.2.length = n at *
              have hkz : (k : Int) < (n : Int) := by omega
              go_wp2
              go_roundw
              case rel => exact ⟨k + 1, _, by omega, by go_num, HPut.out⟩
              case measure => simp [intOf]; omega
            · have HN2 := hidE (HS.out.next HX.out (Nat.le_of_not_lt hkl))
              have hkz : ¬ (k : Int) < (x.2.length : Int) := by omega
              generalize x.2.length = n at *
              go_wp2
              go_roundw
              case rel => exact ⟨i + 1, _, by omega, by go_num, HN2.out⟩
              case measure => simp [intOf]; omega
        · have hiz : ¬ (i : Int) < 20 := by omega
          have hi20 : i = 20 := by omega
          subst hi20
          have HG := hidE HS.out.gr
          clear HS hiz hlt hi
          go_wp2
          go_loopw [10, 11] (fun t i wr => ∃ (k : Nat) (s : Int), k ≤ 20 ∧ i = .int .i64 (k : Int) ∧ t = .int .i64 s ∧ 64 * (k : Int) ≤ s ∧ s ≤ 2000000 * (k : Int) ∧ Gr W4 g11 c11 k qs wr) (fun _ i _ => 20 - (intOf i).toNat)
          case atStart => exact ⟨0, 0, by omega, rfl, rfl, by omega, by omega, HG.out⟩
          case round =>
            clear HG
            obtain ⟨i, s, hi, rfl, rfl, hs1, hs2, hgr⟩ := hrel
            have HG := hidE hgr
            by_cases hlt : i < 20
            · obtain ⟨x, ax, cx, hx, hxv, hxc, hxl, _, _⟩ := hgr.next hlt
              have hw0 := hgr.start hx
              rw [hxv] at hw0
              have HW0 := hidE hw0
              clear hw0 hxv hx hgr HG
              have hiz : (i : Int) < 20 := by omega
              have hi0 : (0 : Int) ≤ (i : Int) := by omega
              have HXL : Hid (x.2.length = x.2.length) := rfl
              go_wp2
              go_loopw [12, 13] (fun l j wr => ∃ m : Nat, m ≤ 64 ∧ j = .int .i64 (m : Int) ∧ Gw W4 g11 c11 i m x l qs wr) (fun _ j _ => 64 - (intOf j).toNat)
              case atStart => exact ⟨0, by omega, rfl, HW0.out⟩
              case round =>
                clear HW0
                obtain ⟨m, hm, rfl, hgw⟩ := hrel
                have HW := hidE hgw
                have hsW := hgw.gr.bel.size
                clear hgw hxc
                by_cases hml : m < 64
                · have hmz : (m : Int) < 64 := by omega
                  go_wp2_with (at_builtin; go_loud (refine wpList_append_own_front _ rfl _ _ 22 rfl W4.heap.size 35 i0 (.agg #[.int .i64 0, .int .i64 0]) 2 16 Tryd.underlying22 hi' hz0 hz1 hz2 rfl (by decide) _ (x.2.length + m) (cellsR (x.2 ++ List.replicate m ((-5 : Int), (-5 : Int)))) rfl (World.ownsRow.alloc (HW.out.row rfl) _) ⟨wr.heap.size, 0, none⟩ 1 1 [.int .i64 (-5), .int .i64 (-5)] rfl rfl (cell2_new _ _ _ _) (by simp [Value.oneCell']) (by unfold maxLen; omega) (by omega) (by simp; omega) ?_; intro v1 w1 hown' hgrow hat hfr; have HW1 := hidE (HW.out.step rfl hown' hgrow hat hfr); clear hown' hgrow hat hfr))
                  go_roundw
                  case rel => exact ⟨m + 1, by omega, by go_num, HW1.out⟩
                  case measure => simp [intOf]; omega
                · have hmz : ¬ (m : Int) < 64 := by omega
                  have hm64 : m = 64 := by omega
                  subst hm64
                  obtain ⟨al, cl, rfl⟩ := HW.out.len
                  generalize x.2.length = n at *
                  clear HXL
                  go_wp2
                  go_roundw
                  case rel =>
                    exact ⟨i + 1, by omega, by omega, by omega, by omega, HW.out.gr⟩
                  case measure => simp [intOf]; omega
            · have hiz : ¬ (i : Int) < 20 := by omega
              have hi20 : i = 20 := by omega
              subst hi20
              have hs3 : (1280 : Int) ≤ s := by omega
              have hs4 : s ≤ 40000000 := by omega
              clear hgr hiz hs1 hs2
              go_wp2
              go_loopw [14] (fun i wr => ∃ k : Nat, k ≤ 20 ∧ i = .int .i64 (k : Int) ∧ Gr W4 g11 c11 20 qs wr) (fun i _ => 20 - (intOf i).toNat)
              case atStart => exact ⟨0, by omega, rfl, HG.out⟩
              case round =>
                clear HG hlt hi
                obtain ⟨i, hi, rfl, hgr⟩ := hrel
                have HG := hidE hgr
                clear hgr
                by_cases hlt : i < 20
                · have hiz : (i : Int) < 20 := by omega
                  have hi0 : (0 : Int) ≤ (i : Int) := by omega
                  go_wp2
                  go_loopw [15] (fun j wr => ∃ m : Nat, m ≤ 1114112 ∧ j = .int .i64 (m : Int) ∧ Gr W4 g11 c11 20 qs wr) (fun j _ => 1114112 - (intOf j).toNat)
                  case atStart => exact ⟨0, by omega, rfl, HG.out⟩
                  case round =>
                    clear HG
                    obtain ⟨m, hm, rfl, hgr⟩ := hrel
                    obtain ⟨x, ax, cx, hx, hxv, hxc, hxl, hra, hall⟩ := hgr.nextAll i hlt
                    have HG := hidE hgr
                    clear hgr hx hxv
                    by_cases hml : m < x.2.length
                    · obtain ⟨b1, o1, rfl, d0, d1⟩ := hra.at' m hml
                      rw [hall _ (List.getElem_mem hml)] at d0 d1
                      simp only at d0 d1
                      have heq := eqR.1 ((i : Int), (-1 : Int)) ((i : Int), (-1 : Int))
                      simp only [BEq.rfl, Bool.and_self] at heq
                      have hgu := fun op a b => eqR.2 op a b ((i : Int), (-1 : Int)) ((i : Int), (-1 : Int))
                      simp only at hgu
                      clear hra hall
                      generalize x.2.length = n at *
                      have hmz : (m : Int) < (n : Int) := by omega
                      go_wp2
                      go_roundw
                      case rel => exact ⟨m + 1, by omega, by go_num, HG.out⟩
                      case measure => simp [intOf]; omega
                    · clear hra hall
                      have hmz : ¬ (m : Int) < (x.2.length : Int) := by omega
                      generalize x.2.length = n at *
                      go_wp2
                      go_roundw
                      case rel => exact ⟨i + 1, by omega, by go_num, HG.out⟩
                      case measure => simp [intOf]; omega
                · have hiz : ¬ (i : Int) < 20 := by omega
                  have HK := hidE (HBk.out.of HG.out.bel)
                  have hBr := Below.refl wr.heap.size wr
                  have HSo : Hid (∀ W, Below wr.heap.size wr W → W.cell? ⟨w.heap.size, 0, none⟩ = some (.slice a la.length ca) ∧ W.cell? ⟨w.heap.size, 1, none⟩ = some (.slice b lb.length cb) ∧ W.cell? ⟨w.heap.size, 2, none⟩ = some (.int .i64 p) ∧ W.cell? ⟨w3.heap.size, 0, none⟩ = some (.slice po 2 ko) ∧ W.cell? ⟨w3.heap.size, 1, none⟩ = some (.slice pp 1 kp) ∧ Below wr.heap.size wr W) := fun W hW => ⟨(HK.out.of hW).x.c0, (HK.out.of hW).x.c1, (HK.out.of hW).x.c2, (HK.out.of hW).o0, (HK.out.of hW).o1, hW⟩
                  have F1 := hidE (fun W (hW : Below wr.heap.size wr W) => sameR_eq la pa a ka ca W (by omega) (HK.out.of hW).oa (HK.out.of hW).x.ra)
                  have F2 := hidE (fun W (hW : Below wr.heap.size wr W) => sameR_eq lb pb b kb cb W (by omega) (HK.out.of hW).ob (HK.out.of hW).x.rb)
                  have F3 := hidE (fun W (hW : Below wr.heap.size wr W) => answers_any A pa pb ka kb la lb p (by omega) (by omega) hka hkb W (HK.out.of hW).oa (HK.out.of hW).ob (HK.out.of hW).x.sents)
                  have F4 := hidE (fun W (hW : Below wr.heap.size wr W) => answers_any A po pp ko kp [(1, 5), (9, 9)] [(4, 20)] 5 (by simp) (by simp) hko hkp W (HK.out.of hW).ro (HK.out.of hW).rp (HK.out.of hW).x.sents)
                  have N1 : Hid True := trivial
                  have N2 : Hid True := trivial
                  obtain ⟨e0, e1, e2, e3, e4, jk⟩ := HSo.out wr hBr
                  clear jk
                  have hdec : decide ((1280 : Int) ≤ s) = true := by simp; omega
                  go_wp2_with (first
                      | (go_at_call 16; clear N1; refine (F1.out _ hBr).mono ?_; rintro e y1 ⟨rfl, q, hw1⟩; have hy1 : Below wr.heap.size wr y1 := (by rw [hw1]; exact drewB wr q); have hsy1 := hy1.size; clear hw1; obtain ⟨e0, e1, e2, e3, e4, jk⟩ := HSo.out y1 hy1; clear jk)
                      | (go_at_call 16; refine (F2.out _ hy1).mono ?_; rintro e y2 ⟨rfl, q2, hw2⟩; have hy2 : Below wr.heap.size wr y2 := (by rw [hw2]; exact below_drewN hy1 q2); have hsy2 := hy2.size; clear hw2; obtain ⟨e0, e1, e2, e3, e4, jk⟩ := HSo.out y2 hy2; clear jk)
                      | (go_at_call 23; clear N2; refine (F3.out _ hy2).mono ?_; rintro e y3 ⟨rfl, hw3⟩; have hy3 : Below wr.heap.size wr y3 := (chain3 hw3 hy2); have hsy3 := hy3.size; clear hw3; obtain ⟨e0, e1, e2, e3, e4, jk⟩ := HSo.out y3 hy3; clear jk)
                      | (go_at_call 23; refine (F4.out _ hy3).mono ?_; rintro e y4 ⟨rfl, hw4⟩; have hy4 : Below wr.heap.size wr y4 := (chain3 hw4 hy3); have hsy4 := hy4.size; clear hw4)
                      | fail)
                  go_ret
                  exact ⟨rfl, (HK.out.of hy4).x.bel⟩
end Go.Proofs.YtnkllhihdjjmnaaDoor
