/-
  caesuralaw17.MergePatterns.
-/
import Derived.Test.YthcpalpcakjfnaaMgPeW
import Derived.Test.YthcpalpcakjfnaaMgTW
import Derived.Test.YthcpalpcakjfnaaMgUW
import Derived.Test.YthcpalpcakjfnaaMgQW
namespace Go.Proofs.Ythcpalpcakjfnaa
open Go.RowKit Go.Shelf Go.Lib Go.Maps
theorem row11 {W : World} {X : Nat} {t : TypeId} {v0 v1 v2 v3 v4 v5 v6 v7 v8 v9 v10 : Value} (h : W.heap[X]? = some (.cells #[v0, v1, v2, v3, v4, v5, v6, v7, v8, v9, v10] t (0, 0))) :
    W.cell? ⟨X, 2, none⟩ = some v2 ∧ W.cell? ⟨X, 3, none⟩ = some v3 ∧ W.cell? ⟨X, 4, none⟩ = some v4 ∧ W.cell? ⟨X, 5, none⟩ = some v5 ∧ W.cell? ⟨X, 6, none⟩ = some v6 ∧ W.cell? ⟨X, 7, none⟩ = some v7 ∧ W.cell? ⟨X, 8, none⟩ = some v8 := by
  refine ⟨?_, ?_, ?_, ?_, ?_, ?_, ?_⟩ <;> (rw [cell_of_row _ _ _ _ _ _ h]; rfl)
/-- How many patterns there are, where no list is long. -/
theorem cut_bound {Ls : List Nat} (hl : Ls.length ≤ 1100000) (hm : ∀ m ∈ Ls, m ≤ 1100000) : (cutX Ls Ls.length).length ≤ 1999000000000 := by
  have h := cutX_len hm Ls.length
  have h2 : Ls.length * 1100000 ≤ 1100000 * 1100000 := Nat.mul_le_mul_right _ hl
  omega
set_option maxRecDepth 10000 in
set_option maxHeartbeats 3200000 in
theorem mergePatterns_any (s : Int) (nt el : Bool) (N : List ByteArray) (P : List (Int × Int)) (R : List Ru) (E : List (List Int)) (a b c aE : Option Addr) (ca cb cc cE : Nat) (xs ys : Nat → EV) (p0 p1 q0 q1 : Value) (w : World)
    (lN : N.length ≤ 1100000) (lP : P.length ≤ 1100000) (lR : R.length ≤ 1100000) (lE : E.length ≤ 1100000) (rE : ∀ r ∈ E, r.length ≤ 1100000) (nN : a = none → ca = 0) (nP : b = none → cb = 0) (hN : SA w a N) (hP : RA w b P) (hR : RuH w w.heap.size c R xs ys) (hE : RwA w aE E) :
    Calls Try.prog 3 #[.agg #[p0, p1, .slice c R.length cc, .int .i64 s, .bool nt, .slice a N.length ca, .slice b P.length cb, .bool el, .slice aE E.length cE, q0, q1]] w fun e w' => e = .returned (.bool true) ∧ Below w.heap.size w w' := by
  obtain ⟨W, hW⟩ : ∃ W, w.alloc (.cells #[p0, p1, .slice c R.length cc, .int .i64 s, .bool nt, .slice a N.length ca, .slice b P.length cb, .bool el, .slice aE E.length cE, q0, q1] 35) = W := ⟨_, rfl⟩
  obtain ⟨hb, hr, hs⟩ := laid hW
  have HSk : Hid (∀ V, Below W.heap.size W V → V.cell? ⟨w.heap.size, 2, none⟩ = some (.slice c R.length cc) ∧ V.cell? ⟨w.heap.size, 3, none⟩ = some (.int .i64 s) ∧ V.cell? ⟨w.heap.size, 4, none⟩ = some (.bool nt) ∧ V.cell? ⟨w.heap.size, 5, none⟩ = some (.slice a N.length ca) ∧ V.cell? ⟨w.heap.size, 6, none⟩ = some (.slice b P.length cb) ∧ V.cell? ⟨w.heap.size, 7, none⟩ = some (.bool el) ∧ V.cell? ⟨w.heap.size, 8, none⟩ = some (.slice aE E.length cE)) := hid0 (fun V hV => row11 (kept hV hr))
  have HB := hid0 hb
  have HWs := hid0 hs
  have HN := hid0 hN
  have HP := hid0 hP
  have HR := hid0 hR
  have HE := hid0 hE
  have HrE := hid0 rE
  have H1 := hid0 (rows_any E aE cE W (by omega) (fun r hr => by have := rE r hr; omega) (hE.past hb))
  have H2 := hid0 (fun (V : World) (hV : Below w.heap.size w V) => rules_any w.heap.size s nt N P el R a b c ca cb cc xs ys V hV.size (hN.below hV) (hP.below hV) (by omega) (by omega) (by omega) nN nP (hR.past hV))
  have HLm : Hid ((E.map (·.length)).length ≤ 1100000 ∧ (∀ m ∈ E.map (·.length), m ≤ 1100000)) := hid0 ⟨by simpa using lE, fun m hm => by
    obtain ⟨r, hr, rfl⟩ := List.mem_map.1 hm
    exact rE r hr⟩
  obtain ⟨x2, x3, x4, x5, x6, x7, x8⟩ := HSk.out W (Below.refl _ _)
  clear hb hr hs hN hP hR hE rE nN nP
  go_enter Try.func3, Try.ntmps3
  go_upto_region 3 with (first
    | (go_at_call 4
       refine H1.out.mono ?_
       rintro e w1 ⟨g, cg, rfl, gm, ps, hpile, hps, hcap, hm1, hm2, hb1, hgm⟩
       have HPl := hid0 hpile
       have HPs := hid0 hps
       have HCap := hid0 hcap
       have HMk := hid0 (And.intro hm1 hm2)
       have HB1 := hid0 hb1
       obtain ⟨y2, y3, y4, y5, y6, y7, y8⟩ := HSk.out w1 hb1
       clear hpile hps hcap hm1 hm2 hb1 hgm x2 x3 x4 x5 x6 x7 x8)
    | (go_at_call 5
       refine (H2.out _ (Below.later HB.out HB1.out)).mono ?_
       rintro e w2 ⟨g2, c2, gN, cN, gP, cP, xs', ys', rfl, hle, hb2⟩
       have HLe := hid0 hle
       have HB2 := hid0 hb2
       obtain ⟨w3, hw3⟩ : ∃ w3, w2.alloc (.cells #[.slice (some ⟨g2, 0, none⟩) R.length c2, .int .i64 s, .bool nt, .slice (some ⟨gN, 0, none⟩) N.length cN, .slice (some ⟨gP, 0, none⟩) P.length cP, .bool el] 31) = w3 := ⟨_, rfl⟩
       obtain ⟨bb3, hr3, hs3⟩ := laid hw3
       have HB3 := hid0 bb3
       have HR3 := hid0 hr3
       clear hle hb2 bb3 hr3 hs3)
    | fail)
  have hpl : ps.length = E.length := by have h := congrArg List.length HPs.out; simpa using h
  have HRw : Hid (∀ V, Below w1.heap.size w1 V → RwA V (some ⟨g, 0, none⟩) E) := hid0 (fun V hV => by
    obtain ⟨a9, c9, e9, h9⟩ := HPl.out.rwa
    rw [hpl] at e9
    cases e9
    rw [HPs.out] at h9
    exact h9.past hV)
  have HSr : Hid (∀ V, Below w3.heap.size w3 V → V.cell? ⟨w2.heap.size, 0, none⟩ = some (.slice (some ⟨g2, 0, none⟩) R.length c2) ∧ V.cell? ⟨w2.heap.size, 1, none⟩ = some (.int .i64 s) ∧ V.cell? ⟨w2.heap.size, 2, none⟩ = some (.bool nt) ∧ V.cell? ⟨w2.heap.size, 3, none⟩ = some (.slice (some ⟨gN, 0, none⟩) N.length cN) ∧ V.cell? ⟨w2.heap.size, 4, none⟩ = some (.slice (some ⟨gP, 0, none⟩) P.length cP) ∧ V.cell? ⟨w2.heap.size, 5, none⟩ = some (.bool el)) := hid0 (fun V hV => (row6 (kept hV HR3.out)).1)
  have HB13 := hid0 (Below.later HB2.out HB3.out)
  have HBW3 := hid0 (Below.later HB1.out HB13.out)
  have HPt := hid0 (fun (V : World) (Ls : List Nat) (hL : LenA V (some ⟨g, 0, none⟩) Ls) (hl : Ls.length ≤ 1100000) (hm : ∀ m ∈ Ls, m ≤ 1100000) => same_patterns R.length s (some ⟨g, 0, none⟩) Ls cg (some ⟨g2, 0, none⟩) c2 nt (some ⟨gN, 0, none⟩) (some ⟨gP, 0, none⟩) N.length cN P.length cP el V (by omega) hL (by omega) (fun m hq => by have := hm m hq; omega) (cut_bound hl hm))
  have HP3 : Hid (Calls Try.prog 6 #[.agg #[.slice (some ⟨g2, 0, none⟩) R.length c2, .int .i64 s, .bool nt, .slice (some ⟨gN, 0, none⟩) N.length cN, .slice (some ⟨gP, 0, none⟩) P.length cP, .bool el], .slice (some ⟨g, 0, none⟩) E.length cg] w3 fun e w' => e = .returned (.bool true) ∧ Below w3.heap.size w3 w') := hid0 (by
    have h := HPt.out w3 (E.map (·.length)) (HRw.out w3 HB13.out).lens HLm.out.1 HLm.out.2
    rw [List.length_map] at h
    exact h)
  obtain ⟨r0, r1, r2, r3, r4, r5⟩ := HSr.out w3 (Below.refl _ _)
  go_upto_region 4 with (first
    | (go_at_call 6; refine HP3.out.mono ?_; rintro e w4 ⟨rfl, hb4⟩; have HB4 := hid0 hb4; obtain ⟨s0, s1, s2, s3, s4, s5⟩ := HSr.out w4 hb4; obtain ⟨z2, z3, z4, z5, z6, z7, z8⟩ := HSk.out w4 (Below.later HBW3.out hb4); clear hb4)
    | fail)
  clear hW hw3 y2 y3 y4 y5 y6 y7 y8 r0 r1 r2 r3 r4 r5
  have HB14 := hid0 (Below.later HB13.out HB4.out)
  have HBW4 := hid0 (Below.later HBW3.out HB4.out)
  have HBw4 := hid0 (Below.later HB.out HBW4.out)
  have HSR := hid0 (sameRows E (some ⟨g, 0, none⟩) aE cg cE w4 (by omega) (fun r hr => by have := HrE.out r hr; omega) (HRw.out w4 HB14.out) (HE.out.past HBw4.out))
  have HSU := hid0 (fun (q : Nat) => by
    have hV : Below w4.heap.size w4 (w4.drewN q) := below_drew' (Below.refl _ _) q
    have hle := (HLe.out.past HB3.out).past (Below.later HB4.out hV)
    exact sameRules_any s nt el N P R (some ⟨gN, 0, none⟩) (some ⟨gP, 0, none⟩) (some ⟨g2, 0, none⟩) a b c cN cP c2 ca cb cc xs' ys' xs ys (w4.drewN q) (by omega) (by omega) (by omega) hle.hN.front.sa hle.hP.front.ra hle.ru.is (HN.out.below (Below.later HBw4.out hV)) (HP.out.below (Below.later HBw4.out hV)) (HR.out.past (Below.later HBw4.out hV)).is)
  go_upto_region 5 with (first
    | (go_at_call 7; refine HSR.out.mono ?_; rintro e w5 ⟨rfl, q5, rfl⟩)
    | (go_at_call 8; refine (HSU.out _).mono ?_; rintro e w6 ⟨rfl, hb6⟩; have HB6 := hid0 (show Below w4.heap.size w4 w6 from ⟨hb6.os, hb6.tape, hb6.output, hb6.size, hb6.block⟩); clear hb6)
    | fail)
  have HB16 := hid0 (Below.later HB14.out HB6.out)
  have HBW6 := hid0 (Below.later HBW4.out HB6.out)
  have HB36 := hid0 (Below.later HB4.out HB6.out)
  have HRL : Hid (Calls Try.prog 9 #[.slice (some ⟨g, 0, none⟩) E.length cg] w6 fun r w' => r = .returned (.bool true) ∧ ∃ n, w' = w6.drewN n) := hid0 (by
    have hpile := HPl.out.later HB16.out
    rw [← hpl] at hpile
    have h := rowsLeft_any ps W.heap.size g cg gm w6 (by omega) (fun x hx => by
      have h9 : x.2 ∈ E := by rw [← HPs.out]; exact List.mem_map.2 ⟨x, hx, rfl⟩
      have := HrE.out _ h9; omega) hpile (by have := HCap.out; omega) (by rw [hpl]; exact (HB16.out.cell (World.block_lt_of_cell? w1 _ HMk.out.1)).trans HMk.out.1) ((HB16.out.cell (World.block_lt_of_cell? w1 _ HMk.out.2)).trans HMk.out.2)
    rw [hpl] at h
    exact h)
  have HUL := hid0 (fun (q : Nat) => rulesLeft_any s nt el N P R g2 c2 gN cN gP cP xs' ys' (fun _ => True) (w6.drewN q) (by omega) (by omega) (by omega) (((HLe.out.past HB3.out).past HB36.out).past (below_drew' (Below.refl _ _) q)))
  have hrd : ∀ q, (w6.drewN q).cell? ⟨w2.heap.size, 0, none⟩ = some (.slice (some ⟨g2, 0, none⟩) R.length c2) ∧ (w6.drewN q).cell? ⟨w2.heap.size, 1, none⟩ = some (.int .i64 s) ∧ (w6.drewN q).cell? ⟨w2.heap.size, 2, none⟩ = some (.bool nt) ∧ (w6.drewN q).cell? ⟨w2.heap.size, 3, none⟩ = some (.slice (some ⟨gN, 0, none⟩) N.length cN) ∧ (w6.drewN q).cell? ⟨w2.heap.size, 4, none⟩ = some (.slice (some ⟨gP, 0, none⟩) P.length cP) ∧ (w6.drewN q).cell? ⟨w2.heap.size, 5, none⟩ = some (.bool el) := fun q => HSr.out _ (Below.later HB36.out (below_drew' (Below.refl _ _) q))
  obtain ⟨t0, t1, t2, t3, t4, t5⟩ := HSr.out w6 HB36.out
  have HRd := hid0 hrd
  clear s0 s1 s2 s3 s4 s5 z2 z3 z4 z5 z6 z7 z8 HSU HSR hrd
  go_upto_region 8 with (first
    | (go_at_call 9; refine HRL.out.mono ?_; rintro e w7 ⟨rfl, q7, rfl⟩; obtain ⟨k0, k1, k2, k3, k4, k5⟩ := HRd.out q7)
    | (go_at_call 10; refine (HUL.out _).mono ?_; rintro e w8 ⟨rfl, hb8⟩; have HB8 := hid0 (show Below w6.heap.size w6 w8 from ⟨hb8.os, hb8.tape, hb8.output, hb8.size, hb8.block⟩); clear hb8)
    | fail)
  have HB18 := hid0 (Below.later HB16.out HB8.out)
  have HBw8 := hid0 (Below.later HB.out (Below.later HBW6.out HB8.out))
  have HB38 := hid0 (Below.later HB36.out HB8.out)
  obtain ⟨l0, l1, l2, l3, l4, l5⟩ := HSr.out w8 HB38.out
  clear t0 t1 t2 t3 t4 t5 k0 k1 k2 k3 k4 k5 HRL HUL HRd
  by_cases hE0 : 0 < E.length
  · have hEI : (0 : Int) < (E.length : Int) := by omega
    obtain ⟨w9, hw9⟩ : ∃ w9, w8.alloc (.cells #[.int .i64 65, .int .i64 66, .int .i64 67] 3) = w9 := ⟨_, rfl⟩
    obtain ⟨bb9, hr9, hs9⟩ := laid hw9
    obtain ⟨a9, c9, e9, _, h9⟩ := (HPl.out.later (Below.later HB18.out bb9)).cells
    rw [hpl] at e9
    cases e9
    obtain ⟨b9, e9, _, hbl9, hc9⟩ := h9 0 (by omega)
    cases e9
    have hfz : w9.frozen? ⟨g, 0, none⟩ = false := by
      have ho := (HPl.out.later (Below.later HB18.out bb9)).outer
      rw [hpl] at ho
      exact World.ownsRow.frozenAt ho 0
    obtain ⟨w10, hw10⟩ : ∃ w10, w9.setCell ⟨g, 0, none⟩ (.slice (some ⟨w8.heap.size, 0, none⟩) 3 3) = w10 := ⟨_, rfl⟩
    have hgW : W.heap.size ≤ g := (World.ownsRow.lt HPl.out.outer g rfl).1
    have hg1 : g < w1.heap.size := (World.ownsRow.lt HPl.out.outer g rfl).2
    have HL10 : Hid (LenA w10 (some ⟨g, 0, none⟩) ((E.map (·.length)).set 0 3)) := hid0 ⟨fun k hk => by
      rw [List.length_set] at hk
      have hlen := (HRw.out w9 (Below.later HB18.out bb9)).lens
      obtain ⟨b8, o8, a8, c8, e8, hc8⟩ := hlen.at' k hk
      cases e8
      by_cases hk0 : k = 0
      · subst hk0
        refine ⟨g, 0, some ⟨w8.heap.size, 0, none⟩, 3, rfl, ?_⟩
        rw [← hw10]
        simp only [List.getElem_set_self]
        exact World.cell?_setCell_same _ _ _ hc8
      · refine ⟨g, 0, a8, c8, rfl, ?_⟩
        rw [← hw10, List.getElem_set_ne (by omega)]
        simp only [List.getElem_map] at hc8 ⊢
        refine (World.cell?_setCell_other _ _ _ _ (fun e => ?_)).trans hc8
        injection e with _ e2 _
        omega⟩
    have HB10 : Hid (Below w.heap.size w w10) := hid0 (by rw [← hw10]; exact (Below.later HBw8.out bb9).setCell (p := ⟨g, 0, none⟩) (by have := HWs.out; show w.heap.size ≤ g; omega) _)
    have hcr : ∀ o, w10.cell? ⟨w2.heap.size, o, none⟩ = w9.cell? ⟨w2.heap.size, o, none⟩ := fun o => by
      rw [← hw10]
      exact World.cell?_of_block (w := w9) (a := ⟨w2.heap.size, o, none⟩) (Below.heap_setCell w9 _ _ _ (by have := HB2.out.size; show w2.heap.size ≠ g; omega))
    obtain ⟨m0, m1, m2, m3, m4, m5⟩ := HSr.out w9 (Below.later HB38.out bb9)
    rw [← hcr] at m0 m1 m2 m3 m4 m5
    have HP10 : Hid (Calls Try.prog 6 #[.agg #[.slice (some ⟨g2, 0, none⟩) R.length c2, .int .i64 s, .bool nt, .slice (some ⟨gN, 0, none⟩) N.length cN, .slice (some ⟨gP, 0, none⟩) P.length cP, .bool el], .slice (some ⟨g, 0, none⟩) E.length cg] w10 fun e w' => e = .returned (.bool true) ∧ Below w10.heap.size w10 w') := hid0 (by
      have h := HPt.out w10 ((E.map (·.length)).set 0 3) HL10.out (by rw [List.length_set]; exact HLm.out.1) (fun m hm => by
        rcases List.mem_or_eq_of_mem_set hm with h | h
        · exact HLm.out.2 m h
        · omega)
      rw [List.length_set, List.length_map] at h
      exact h)
    clear hr9 hs9 h9 bb9 hcr
    go_wp2_with (first
      | (go_at_call 6; refine HP10.out.mono ?_; rintro e w11 ⟨rfl, hb11⟩; have HB11 := hid0 (Below.later HB10.out hb11); clear hb11)
      | fail)
    go_ret
    exact ⟨rfl, HB11.out⟩
  · have hEI : ¬ (0 : Int) < (E.length : Int) := by omega
    have HP8 : Hid (Calls Try.prog 6 #[.agg #[.slice (some ⟨g2, 0, none⟩) R.length c2, .int .i64 s, .bool nt, .slice (some ⟨gN, 0, none⟩) N.length cN, .slice (some ⟨gP, 0, none⟩) P.length cP, .bool el], .slice (some ⟨g, 0, none⟩) E.length cg] w8 fun e w' => e = .returned (.bool true) ∧ Below w8.heap.size w8 w') := hid0 (by
      have h := HPt.out w8 (E.map (·.length)) (HRw.out w8 HB18.out).lens HLm.out.1 HLm.out.2
      rw [List.length_map] at h
      exact h)
    go_wp2_with (first
      | (go_at_call 6; refine HP8.out.mono ?_; rintro e w9 ⟨rfl, hb9⟩; have HB9 := hid0 (Below.later HBw8.out hb9); clear hb9)
      | fail)
    go_ret
    exact ⟨rfl, HB9.out⟩
end Go.Proofs.Ythcpalpcakjfnaa
