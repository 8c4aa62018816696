/-
  The walk of caesuralaw3.RangesAnswers.
-/
import Derived.Test.YtnkllhihdjjmnaaDoorAnsW
import Derived.Test.YtnkllhihdjjmnaaDoorKeptLW
import Derived.Deep.RegionHeld3
namespace Go.Proofs.YtnkllhihdjjmnaaDoor
open Go.RowKit
theorem cell2_new2 {n : Nat} (w : World) (hn : n = w.heap.size) (a b : Value) (t : TypeId) : ∀ j u, [a, b][j]? = some u → (w.alloc (.cells #[a, b] t)).cell? ((⟨n, 0, none⟩ : Addr).add j) = some u := by
  subst hn
  exact cell2_new w a b t
/-- Two lists and a number, boxed, in a later world; the refusals. -/
structure BoxIn (w0 : World) (A : Nat → Addr) (a b : Option Addr) (ca cb : Nat) (la lb : List (Int × Int)) (p : Int) (w : World) : Prop where
  c0 : w.cell? ⟨w0.heap.size, 0, none⟩ = some (.slice a la.length ca)
  c1 : w.cell? ⟨w0.heap.size, 1, none⟩ = some (.slice b lb.length cb)
  c2 : w.cell? ⟨w0.heap.size, 2, none⟩ = some (.int .i64 p)
  ra : RA w a la
  rb : RA w b lb
  sents : Sents w A
  bel : Below w0.heap.size w0 w
theorem BoxIn.of {w0 W0 w : World} {A : Nat → Addr} {a b : Option Addr} {ca cb : Nat} {la lb : List (Int × Int)} {p : Int} (h : BoxIn w0 A a b ca cb la lb p W0) (hb : Below W0.heap.size W0 w) : BoxIn w0 A a b ca cb la lb p w where
  c0 := (hb.cell (p := ⟨w0.heap.size, 0, none⟩) (World.block_lt_of_cell? W0 _ h.c0)).trans h.c0
  c1 := (hb.cell (p := ⟨w0.heap.size, 1, none⟩) (World.block_lt_of_cell? W0 _ h.c1)).trans h.c1
  c2 := (hb.cell (p := ⟨w0.heap.size, 2, none⟩) (World.block_lt_of_cell? W0 _ h.c2)).trans h.c2
  ra := h.ra.later hb
  rb := h.rb.later hb
  sents := h.sents.below hb
  bel := chain3 hb h.bel
theorem own_full {w : World} {base n : Nat} {v : Value} {l : List (Int × Int)} (h : OwnR w base v l) (hn : l.length = n + 1) : ∃ g cap, v = .slice (some ⟨g, 0, none⟩) (n + 1) cap ∧ base ≤ g ∧ g < w.heap.size ∧ n + 1 ≤ cap := by
  rcases h.2 with ⟨_, h0⟩ | ⟨g, cap, cur, hv, hg, hh, hle, _⟩
  · omega
  · exact ⟨g, cap, by rw [hv, hn], hg, (Array.getElem?_eq_some_iff.1 hh).1, by omega⟩
theorem OwnR.front {w : World} {base g n cap : Nat} {l : List (Int × Int)} (h : OwnR w base (.slice (some ⟨g, 0, none⟩) n cap) l) (k : Nat) : RA w (some ⟨g, 0, none⟩) (l.take k) := by
  obtain ⟨a, c, he, hra⟩ := h.ra
  simp only [Value.slice.injEq] at he
  obtain ⟨rfl, _, _⟩ := he
  exact ⟨fun j hj => by
    rw [List.length_take] at hj
    obtain ⟨b', o', he', e1, e2⟩ := hra.at' j (by omega)
    rw [List.getElem_take]
    exact ⟨b', o', he', e1, e2⟩⟩
theorem cellsR_set1 : ∀ (l : List (Int × Int)) (k : Nat) (h : k < l.length) (c : Int), (cellsR l).set (k * 2 + 1) (.int .i64 c) = cellsR (l.set k (l[k].1, c))
  | r :: l, 0, _, _ => rfl
  | r :: l, k + 1, h, c => by
    have ih := cellsR_set1 l k (by simpa using h) c
    have e : ∀ (r : Int × Int) (l : List (Int × Int)), cellsR (r :: l) = .int .i64 r.1 :: .int .i64 r.2 :: cellsR l := fun _ _ => rfl
    rw [e, show (k + 1) * 2 + 1 = (k * 2 + 1) + 1 + 1 by omega, List.set_cons_succ, List.set_cons_succ, ih]
    rfl
theorem cellsR_set0 : ∀ (l : List (Int × Int)) (k : Nat) (h : k < l.length) (c : Int), (cellsR l).set (k * 2) (.int .i64 c) = cellsR (l.set k (c, l[k].2))
  | r :: l, 0, _, _ => rfl
  | r :: l, k + 1, h, c => by
    have ih := cellsR_set0 l k (by simpa using h) c
    have e : ∀ (r : Int × Int) (l : List (Int × Int)), cellsR (r :: l) = .int .i64 r.1 :: .int .i64 r.2 :: cellsR l := fun _ _ => rfl
    rw [e, show (k + 1) * 2 = (k * 2) + 1 + 1 by omega, List.set_cons_succ, List.set_cons_succ, ih]
    rfl
theorem OwnR.row {w : World} {base n : Nat} {v : Value} {l : List (Int × Int)} (h : OwnR w base v l) (hl : l.length = n) : w.ownsRow base 35 2 v n (cellsR l) := by
  subst hl
  exact h
theorem OwnR.put1 {w : World} {base g n cap : Nat} {l : List (Int × Int)} (h : OwnR w base (.slice (some ⟨g, 0, none⟩) n cap) l) (hl : l.length = n) (k : Nat) (hk : k < l.length) (c : Int) :
    OwnR (w.setCell ⟨g, k * 2 + 1, none⟩ (.int .i64 c)) base (.slice (some ⟨g, 0, none⟩) n cap) (l.set k (l[k].1, c)) := by
  have := (World.ownsRow.stored (h.row hl) (k * 2 + 1) (.int .i64 c)).1
  rw [cellsR_set1 l k hk] at this
  unfold OwnR
  rw [List.length_set, hl]
  exact this
theorem OwnR.put0 {w : World} {base g n cap : Nat} {l : List (Int × Int)} (h : OwnR w base (.slice (some ⟨g, 0, none⟩) n cap) l) (hl : l.length = n) (k : Nat) (hk : k < l.length) (c : Int) :
    OwnR (w.setCell ⟨g, k * 2, none⟩ (.int .i64 c)) base (.slice (some ⟨g, 0, none⟩) n cap) (l.set k (c, l[k].2)) := by
  have := (World.ownsRow.stored (h.row hl) (k * 2) (.int .i64 c)).1
  rw [cellsR_set0 l k hk] at this
  unfold OwnR
  rw [List.length_set, hl]
  exact this
theorem OwnR.cells2 {w : World} {base g n cap : Nat} {l : List (Int × Int)} (h : OwnR w base (.slice (some ⟨g, 0, none⟩) n cap) l) (hl : l.length = n) (k : Nat) (hk : k < l.length) :
    w.cell? ⟨g, k * 2, none⟩ = some (.int .i64 l[k].1) ∧ w.cell? ⟨g, k * 2 + 1, none⟩ = some (.int .i64 l[k].2) ∧ w.frozen? ⟨g, k * 2, none⟩ = false ∧ w.frozen? ⟨g, k * 2 + 1, none⟩ = false := by
  have hr := h.row hl
  obtain ⟨e1, e2⟩ := cellsR_at l k hk
  exact ⟨(World.ownsRow.cellAt hr (k * 2) (by omega)).trans e1, (World.ownsRow.cellAt hr (k * 2 + 1) (by omega)).trans e2, World.ownsRow.frozenAt hr _, World.ownsRow.frozenAt hr _⟩
/-- The two lists of the law's own. -/
structure Rows2 (B1 B2 : Nat) (ga gb ka kb na nb : Nat) (LA LB : List (Int × Int)) (w : World) : Prop where
  oa : OwnR w B1 (.slice (some ⟨ga, 0, none⟩) (na + 1) ka) LA
  ob : OwnR w B2 (.slice (some ⟨gb, 0, none⟩) (nb + 1) kb) LB
  la : LA.length = na + 1
  lb : LB.length = nb + 1
theorem Rows2.later {B1 B2 ga gb ka kb na nb : Nat} {LA LB : List (Int × Int)} {w w' : World} (h : Rows2 B1 B2 ga gb ka kb na nb LA LB w) (hb : Below w.heap.size w w') : Rows2 B1 B2 ga gb ka kb na nb LA LB w' := ⟨h.oa.later hb, h.ob.later hb, h.la, h.lb⟩
theorem OwnR.other {w : World} {base g g' o n cap : Nat} {l : List (Int × Int)} {u : Value} (h : OwnR w base (.slice (some ⟨g, 0, none⟩) n cap) l) (hne : g ≠ g') : OwnR (w.setCell ⟨g', o, none⟩ u) base (.slice (some ⟨g, 0, none⟩) n cap) l := by
  obtain ⟨h1, h2⟩ := h
  refine ⟨h1, ?_⟩
  rcases h2 with h2 | ⟨g1, cap1, cur, hv, hg, hh, r⟩
  · exact .inl h2
  · refine .inr ⟨g1, cap1, cur, hv, hg, ?_, r⟩
    simp only [Value.slice.injEq, Option.some.injEq, Addr.mk.injEq, and_true] at hv
    rw [← hv.1] at hh ⊢
    exact (Below.heap_setCell w ⟨g', o, none⟩ u g hne).trans hh
theorem Rows2.putA {B1 B2 ga gb ka kb na nb : Nat} {LA LB : List (Int × Int)} {w : World} (h : Rows2 B1 B2 ga gb ka kb na nb LA LB w) (hne : gb ≠ ga) (k : Nat) (hk : k < LA.length) (c : Int) :
    Rows2 B1 B2 ga gb ka kb na nb (LA.set k (LA[k].1, c)) LB (w.setCell ⟨ga, k * 2 + 1, none⟩ (.int .i64 c)) :=
  ⟨h.oa.put1 h.la k hk c, h.ob.other hne, by rw [List.length_set]; exact h.la, h.lb⟩
theorem Rows2.putB {B1 B2 ga gb ka kb na nb : Nat} {LA LB : List (Int × Int)} {w : World} (h : Rows2 B1 B2 ga gb ka kb na nb LA LB w) (hne : ga ≠ gb) (k : Nat) (hk : k < LB.length) (c : Int) :
    Rows2 B1 B2 ga gb ka kb na nb LA (LB.set k (c, LB[k].2)) (w.setCell ⟨gb, k * 2, none⟩ (.int .i64 c)) :=
  ⟨h.oa.other hne, h.ob.put0 h.lb k hk c, h.la, by rw [List.length_set]; exact h.lb⟩
set_option maxRecDepth 10000 in
set_option maxHeartbeats 1600000 in
theorem rangesAnswers_any (A : Nat → Addr) (a b : Option Addr) (ca cb : Nat) (la lb : List (Int × Int)) (p : Int) (h1 : la.length ≤ 1048576) (h2 : lb.length ≤ 1048576) (hca : a = none → ca = 0) (hcb : b = none → cb = 0) (w : World) (ha : RA w a la) (hb : RA w b lb) (hS : Sents w A) :
    Calls Tryd.prog 6 #[.agg #[.slice a la.length ca, .slice b lb.length cb, .int .i64 p]] w fun e w' => e = .returned (.bool true) ∧ Below w.heap.size w w' := by
  obtain ⟨i0, hi, hz0, hz1, hz2⟩ := info_parts infoRange
  have hB0 : Below w.heap.size w (w.alloc (.cells #[.slice a la.length ca, .slice b lb.length cb, .int .i64 p] 24)) := (Below.refl _ w).alloc (Nat.le_refl _) _
  have HX0 : Hid (BoxIn w A a b ca cb la lb p (w.alloc (.cells #[.slice a la.length ca, .slice b lb.length cb, .int .i64 p] 24))) := ⟨by simp, by simp, by simp, ha.later hB0, hb.later hB0, hS.below hB0, hB0⟩
  clear ha hb hS hB0
  go_enter Tryd.func6, Tryd.ntmps6
  have c0 := HX0.out.c0
  have c1 := HX0.out.c1
  have c2 := HX0.out.c2
  have M1 : Hid True := trivial
  have M2 : Hid True := trivial
  have M3 : Hid True := trivial
  go_wp2_with (first
    | (go_at_call 21; clear M1; refine (own_any la _ _ (by omega) hca _ HX0.out.ra).mono ?_; rintro e w1 ⟨va, rfl, hoa, hb⟩; generalize w.alloc (.cells #[.slice a la.length ca, .slice b lb.length cb, .int .i64 p] 24) = W0 at *; have HOa := hidE hoa; have HBa := hidE hb; have hsa := hb.size; clear hoa hb)
    | (go_at_call 22; refine (behind_any _).mono ?_; rintro e w9 ⟨rfl, rfl⟩)
    | (at_builtin; clear M2; refine wpList_append_own _ rfl _ _ 22 rfl W0.heap.size 35 i0 (.agg #[.int .i64 0, .int .i64 0]) 2 16 Tryd.underlying22 hi hz0 hz1 hz2 rfl (by decide) va la.length (cellsR la) rfl ((HOa.out.alloc _).alloc _) ⟨w1.heap.size + 1, 0, none⟩ 1 1 [.int .i64 77, .int .i64 7] rfl rfl (cell2_new2 _ (by simp) _ _ _) (by simp [Value.oneCell']) (by unfold maxLen; omega) (by omega) (by simp; omega) ?_; intro va2 w2 hown' hgrow hjk; clear hjk; have R := ownR_snoc (w := W0) (r := (77, 7)) (l := la) rfl (World.ownsRow.alloc HOa.out _) (by simpa using hown') hgrow rfl (HBa.out.alloc (by omega) _) (by omega);  have HX2 := hidE (HX0.out.of R.2); have HC2 := hidE R.2; have hs2 := R.2.size; obtain ⟨ga, ka, rfl, hga, hga2, hka⟩ := own_full (n := la.length) R.1 (by simp); have HOA := hidE R.1; clear c0 c1 c2 hown' hgrow R; have c0 := HX2.out.c0; have c1 := HX2.out.c1; have c2 := HX2.out.c2)
    | (go_at_call 21; refine (own_any lb _ _ (by omega) hcb _ HX2.out.rb).mono ?_; rintro e w3 ⟨vb, rfl, hob, hb⟩; have HOb := hidE hob; have HBb := hidE hb; have hsb := hb.size; clear hob hb)
    | (at_builtin; clear M3; refine wpList_append_own _ rfl _ _ 22 rfl w2.heap.size 35 i0 (.agg #[.int .i64 0, .int .i64 0]) 2 16 Tryd.underlying22 hi hz0 hz1 hz2 rfl (by decide) vb lb.length (cellsR lb) rfl ((HOb.out.alloc _).alloc _) ⟨w3.heap.size + 1, 0, none⟩ 1 1 [.int .i64 77, .int .i64 7] rfl rfl (cell2_new2 _ (by simp) _ _ _) (by simp [Value.oneCell']) (by unfold maxLen; omega) (by omega) (by simp; omega) ?_; intro vb2 w4 hown' hgrow hjk; clear hjk; have R := ownR_snoc (w := w2) (r := (77, 7)) (l := lb) rfl (World.ownsRow.alloc HOb.out _) (by simpa using hown') hgrow rfl (HBb.out.alloc (by omega) _) (by omega);  have HX4 := hidE (HX2.out.of R.2); have HC4 := hidE (chain3 R.2 HC2.out); have hs4 := R.2.size; obtain ⟨gb, kb, rfl, hgb, hgb2, hkb⟩ := own_full (n := lb.length) R.1 (by simp); have HRW : Hid (Rows2 W0.heap.size w2.heap.size ga gb ka kb la.length lb.length (la ++ [(77, 7)]) (lb ++ [(77, 7)]) w4) := ⟨HOA.out.later R.2, R.1, by simp, by simp⟩; clear c0 c1 c2 hown' hgrow R; have c0 := HX4.out.c0; have c1 := HX4.out.c1; have c2 := HX4.out.c2)
    | fail)
  go_big_quiet (fail)
  have HX5 := hidE (HX4.out.of (W0 := w4) (drewB w4 nq))
  have HR5 := hidE (HRW.out.later (drewB w4 nq))
  have HC5 := hidE (below_drewN HC4.out nq)
  have hs5 : w2.heap.size ≤ (w4.drewN nq).heap.size := hs4
  have hgb5 : gb < (w4.drewN nq).heap.size := hgb2
  generalize w4.drewN nq = w5 at *
  have z1 : (la.length : Int) + 1 ≤ (ka : Int) := by omega
  have z2 : (lb.length : Int) + 1 ≤ (kb : Int) := by omega
  clear c0 c1 c2 HX4 HRW hgb2 HOA HOa HOb HBa HBb HX2 HC4
  have c0 := HX5.out.c0
  have c1 := HX5.out.c1
  have c2 := HX5.out.c2
  have M4 : Hid True := trivial
  have z3 : (0 : Int) ≤ (la.length : Int) := by omega
  have z4 : (0 : Int) ≤ (lb.length : Int) := by omega
  have z5 : (la.length : Int) ≤ (ka : Int) := by omega
  have z6 : (lb.length : Int) ≤ (kb : Int) := by omega
  have tkA : (la ++ [((77 : Int), (7 : Int))]).take la.length = la := by simp
  have tkB : (lb ++ [((77 : Int), (7 : Int))]).take lb.length = lb := by simp
  have HFA := HR5.out.oa.front la.length
  have HFB := HR5.out.ob.front lb.length
  rw [tkA] at HFA
  rw [tkB] at HFB
  obtain ⟨aa, cc, heA, hraA⟩ := HR5.out.oa.ra
  obtain ⟨aa2, cc2, heB, hraB⟩ := HR5.out.ob.ra
  simp only [Value.slice.injEq] at heA heB
  obtain ⟨rfl, q1, q2⟩ := heA
  obtain ⟨rfl, q3, q4⟩ := heB
  clear q1 q2 q3 q4
  have HANS := hidE (fun W (hW : Below w5.heap.size w5 W) => answers_any A (some ⟨ga, 0, none⟩) (some ⟨gb, 0, none⟩) ka kb la lb p (by omega) (by omega) (fun h => by cases h) (fun h => by cases h) W (HFA.later hW) (HFB.later hW) (HX5.out.sents.below hW))
  have HKA := hidE (fun W (hW : Below w5.heap.size w5 W) => kept_any la ga ka a ca (by omega) (by omega) W (hraA.later hW) (HX5.out.ra.later hW))
  have HKB := hidE (fun W (hW : Below w5.heap.size w5 W) => kept_any lb gb kb b cb (by omega) (by omega) W (hraB.later hW) (HX5.out.rb.later hW))
  have HSo : Hid (∀ W, Below w5.heap.size w5 W → W.cell? ⟨w.heap.size, 0, none⟩ = some (.slice a la.length ca) ∧ W.cell? ⟨w.heap.size, 1, none⟩ = some (.slice b lb.length cb) ∧ W.cell? ⟨w.heap.size, 2, none⟩ = some (.int .i64 p) ∧ Below w5.heap.size w5 W) := fun W hW => ⟨(HX5.out.of hW).c0, (HX5.out.of hW).c1, (HX5.out.of hW).c2, hW⟩
  have hB5 := Below.refl w5.heap.size w5
  have HY := hidE (And.intro h1 h2)
  clear HFA HFB hraA hraB tkA tkB h1 h2
  generalize la.length = na at *
  generalize lb.length = nb at *
  go_wp2
  go_region_held3 (fun W => W.cell? ⟨w.heap.size, 0, none⟩ = some (.slice a na ca) ∧ W.cell? ⟨w.heap.size, 1, none⟩ = some (.slice b nb cb) ∧ W.cell? ⟨w.heap.size, 2, none⟩ = some (.int .i64 p) ∧ Below w5.heap.size w5 W) (first | exact HSo.out _ (by go_grown) | (go_split_ands; exact HSo.out _ (by go_grown)))
    (first
      | (go_at_call 23; go_split_ands; refine (HANS.out _ (by go_grown)).mono ?_; rintro e wx ⟨rfl, hx⟩; have hbx : Below w5.heap.size w5 wx := (chain3 hx (by go_grown)); have hsx := hbx.size; clear hx)
      | (go_at_call 24; clear M4; go_split_ands; refine (HKA.out _ (by go_grown)).mono ?_; rintro e wy ⟨rfl, hy⟩; have hby : Below w5.heap.size w5 wy := (chain3 hy (by go_grown)); have hsy := hby.size; clear hy)
      | (go_at_call 24; go_split_ands; refine (HKB.out _ (by go_grown)).mono ?_; rintro e wz ⟨rfl, hzz⟩; have hbz : Below w5.heap.size w5 wz := (chain3 hzz (by go_grown)); have hsz := hbz.size; clear hzz))
  have HR6 := hidE (HR5.out.later hbz)
  have HC6 := hidE (chain3 hbz HC5.out)
  have HX0' := HX0
  clear HX5 HR5 HC5 HANS HKA HKB HSo hB5 c0 c1 c2
  go_split_ands
  go_wp2
  have hne1 : gb ≠ ga := by omega
  have hne2 : ga ≠ gb := by omega
  have hgb0 : W0.heap.size ≤ gb := by omega
  have z7 : (na : Int) ≤ 1048576 := by have := HY.out.1; omega
  have z8 : (nb : Int) ≤ 1048576 := by have := HY.out.2; omega
  go_loopw [7] (fun i wr => ∃ (k : Nat) (LA : List (Int × Int)), k ≤ na ∧ i = .int .i64 (k : Int) ∧ Rows2 W0.heap.size w2.heap.size ga gb ka kb na nb LA (lb ++ [(77, 7)]) wr ∧ Below W0.heap.size W0 wr) (fun i _ => na - (intOf i).toNat)
  case atStart => exact ⟨0, _, Nat.zero_le _, rfl, HR6.out, HC6.out⟩
  case round =>
    obtain ⟨k, LA, hk, rfl, hrows, hBW⟩ := hrel
    have HRo := hidE hrows
    have HBW := hidE hBW
    clear hrows hBW HR6 HC6
    by_cases hlt : k < na
    · have hkl : k < LA.length := by have := HRo.out.la; omega
      obtain ⟨d0, d1, f0, f1⟩ := HRo.out.oa.cells2 HRo.out.la k hkl
      have HPut0 := hidE (HRo.out.putA hne1 k hkl LA[k].1)
      have hltz : (k : Int) < (na : Int) := by omega
      generalize LA[k] = r at *
      clear hkl
      go_wp2
      go_roundw
      case rel => exact ⟨k + 1, _, by omega, by go_num, HPut0.out, HBW.out.setCell (p := ⟨ga, k * 2 + 1, none⟩) hga _⟩
      case measure => simp [intOf]; omega
    · have hki : ¬ (k : Int) < (na : Int) := by omega
      go_wp2
      have HRp := HRo
      have HBp := HBW
      go_loopw [8] (fun i wr => ∃ (k : Nat) (LB : List (Int × Int)), k ≤ nb ∧ i = .int .i64 (k : Int) ∧ Rows2 W0.heap.size w2.heap.size ga gb ka kb na nb LA LB wr ∧ Below W0.heap.size W0 wr) (fun i _ => nb - (intOf i).toNat)
      case atStart => exact ⟨0, _, Nat.zero_le _, rfl, HRp.out, HBp.out⟩
      case round =>
        clear HRo HBW HRp HBp hki hlt hk
        obtain ⟨k, LB, hk, rfl, hrows, hBW⟩ := hrel
        have HRo := hidE hrows
        have HBW := hidE hBW
        clear hrows hBW
        by_cases hlt : k < nb
        · have hkl : k < LB.length := by have := HRo.out.lb; omega
          obtain ⟨d0, d1, f0, f1⟩ := HRo.out.ob.cells2 HRo.out.lb k hkl
          have HPut0 := hidE (HRo.out.putB hne2 k hkl LB[k].2)
          have hltz : (k : Int) < (nb : Int) := by omega
          generalize LB[k] = r at *
          clear hkl
          go_wp2
          go_roundw
          case rel => exact ⟨k + 1, _, by omega, by go_num, HPut0.out, HBW.out.setCell (p := ⟨gb, k * 2, none⟩) hgb0 _⟩
          case measure => simp [intOf]; omega
        · have hki : ¬ (k : Int) < (nb : Int) := by omega
          have HX := hidE (HX0'.out.of HBW.out)
          have c2 := HX.out.c2
          have tlA : (LA.take na).length = na := by rw [List.length_take, HRo.out.la]; omega
          have tlB : (LB.take nb).length = nb := by rw [List.length_take, HRo.out.lb]; omega
          have hlast := answers_any A (some ⟨ga, 0, none⟩) (some ⟨gb, 0, none⟩) ka kb (LA.take na) (LB.take nb) p (by rw [tlA]; have := HY.out.1; omega) (by rw [tlB]; have := HY.out.2; omega) (fun h => by cases h) (fun h => by cases h)
          rw [tlA, tlB] at hlast
          have HLast := hidE (fun W (hW : Below wr.heap.size wr W) => hlast W ((HRo.out.oa.front na).later hW) ((HRo.out.ob.front nb).later hW) (HX.out.sents.below hW))
          clear hlast tlA tlB
          have HSo : Hid (∀ W, Below wr.heap.size wr W → W.cell? ⟨w.heap.size, 2, none⟩ = some (.int .i64 p) ∧ Below wr.heap.size wr W) := fun W hW => ⟨(HX.out.of hW).c2, hW⟩
          have hBr := Below.refl wr.heap.size wr
          go_wp2
          go_region_held3 (fun W => W.cell? ⟨w.heap.size, 2, none⟩ = some (.int .i64 p) ∧ Below wr.heap.size wr W) (first | exact HSo.out _ (by go_grown) | (go_split_ands; exact HSo.out _ (by go_grown)))
            (first
              | (go_at_call 23; go_split_ands; refine (HLast.out _ (by go_grown)).mono ?_; rintro e wx ⟨rfl, hx⟩; have hbx : Below wr.heap.size wr wx := (chain3 hx (by go_grown)); have hsx := hbx.size; clear hx))
          all_goals
            go_wp2
            go_ret
            exact ⟨rfl, (HX.out.of hbx).bel⟩
end Go.Proofs.YtnkllhihdjjmnaaDoor
