/-
  FiQW.
-/
import Derived.Test.YtejanmleleiigaaDoorMfe
namespace Go.Proofs.YtejanmleleiigaaDoor
open Go.RowKit Go.Shelf Go.Maps
/-- What New answered, in one form. -/
def FnV (A : Nat → Addr) (V : World) (p : Prg) (sy bef : Int) (tr : List Int) (E : List (List Int)) (fv ev : Value) : Prop :=
  (fv = .pointer none ∧ ∃ k, ev = .iface 129 (.pointer (some (A k)))) ∨ (okN p sy bef tr E = true ∧ FlS p tr E ∧ ∃ (q2 : PrL) (f : FlL), fv = .pointer (some ⟨f.X, 0, none⟩) ∧ ev = .nilIface ∧ FlA V p q2 (decide (0 ≤ bef)) tr E bef f)
theorem FnV.past {A : Nat → Addr} {V V' : World} {p : Prg} {sy bef : Int} {tr : List Int} {E : List (List Int)} {fv ev : Value} (h : FnV A V p sy bef tr E fv ev) (hb : Below V.heap.size V V') : FnV A V' p sy bef tr E fv ev := by
  rcases h with h | ⟨h1, h2, q2, f, h3, h4, h5⟩
  · exact .inl h
  · exact .inr ⟨h1, h2, q2, f, h3, h4, h5.past hb⟩
/-- What the law is handed. -/
structure FwH (w : World) (p : Prg) (q : PrL) (tr : List Int) (aT : Option Addr) (E : List (List Int)) (aE : Option Addr) (cE : Nat) (T : List (List Int × List Int)) (aX : Option Addr) (M : List (List Int)) (aM : Option Addr) (cM : Nat) : Prop where
  ps : PrS p
  pr : PrA w p q
  ta : IA w aT tr
  tl : tr.length ≤ 1000000000
  ea : RwA w aE E
  en : aE = none → cE = 0
  el : ∀ e ∈ E, e.length ≤ 1000000000
  ell : E.length ≤ 1000000000
  ma : RwA w aM M
  mn : aM = none → cM = 0
  ml : ∀ e ∈ M, e.length ≤ 1000000000
  mll : M.length ≤ 1000000000
  xa : TxA w aX T
  xl : ∀ t ∈ T, t.1.length ≤ 100000000 ∧ t.2.length ≤ 100000000 ∧ ∀ c ∈ t.1, inI c
  xll : T.length ≤ 1000000000
set_option maxRecDepth 100000 in
set_option maxHeartbeats 16000000 in
theorem filterFewer_any (A : Nat → Addr) (p : Prg) (q : PrL) (sy bef : Int) (tr : List Int) (aT : Option Addr) (cT : Nat) (E : List (List Int)) (aE : Option Addr) (cE : Nat) (T : List (List Int × List Int)) (aX : Option Addr) (cX : Nat) (M : List (List Int)) (aM : Option Addr) (cM : Nat) (w : World) (h : FwH w p q tr aT E aE cE T aX M aM cM) (hS : Sents w A) :
    Calls Tryd.prog 3 #[.agg #[.int .i64 p.sl, .slice q.aN p.N.length q.cN, .slice q.aO p.O.length q.cO, .int .i64 p.sr, .slice q.aM p.M.length q.cM, .slice q.aP p.P.length q.cP, .slice q.aB p.B.length q.cB, .bool p.el, .int .i64 sy, .int .i64 bef, .slice aT tr.length cT, .slice aE E.length cE, .slice aX T.length cX, .slice aM M.length cM]] w fun e w' => e = .returned (.bool true) ∧ Below w.heap.size w w' := by
  obtain ⟨w0, hw0, b0, r0⟩ : ∃ w0, w.alloc (.cells #[.int .i64 p.sl, .slice q.aN p.N.length q.cN, .slice q.aO p.O.length q.cO, .int .i64 p.sr, .slice q.aM p.M.length q.cM, .slice q.aP p.P.length q.cP, .slice q.aB p.B.length q.cB, .bool p.el, .int .i64 sy, .int .i64 bef, .slice aT tr.length cT, .slice aE E.length cE, .slice aX T.length cX, .slice aM M.length cM] 33) = w0 ∧ Below w.heap.size w w0 ∧ w0.heap[w.heap.size]? = some (.cells #[.int .i64 p.sl, .slice q.aN p.N.length q.cN, .slice q.aO p.O.length q.cO, .int .i64 p.sr, .slice q.aM p.M.length q.cM, .slice q.aP p.P.length q.cP, .slice q.aB p.B.length q.cB, .bool p.el, .int .i64 sy, .int .i64 bef, .slice aT tr.length cT, .slice aE E.length cE, .slice aX T.length cX, .slice aM M.length cM] 33 (0, 0)) := ⟨_, rfl, (Below.refl _ _).alloc (Nat.le_refl _) _, heap_alloc_new _ _⟩
  have s0 : w0.heap.size = w.heap.size + 1 := by rw [← hw0]; simp
  have HC0 : Hid (∀ V : World, Below w0.heap.size w0 V → (V.cell? ⟨w.heap.size, 0, none⟩ = some (.int .i64 p.sl) ∧ V.cell? ⟨w.heap.size, 1, none⟩ = some (.slice q.aN p.N.length q.cN) ∧ V.cell? ⟨w.heap.size, 2, none⟩ = some (.slice q.aO p.O.length q.cO) ∧ V.cell? ⟨w.heap.size, 3, none⟩ = some (.int .i64 p.sr) ∧ V.cell? ⟨w.heap.size, 4, none⟩ = some (.slice q.aM p.M.length q.cM) ∧ V.cell? ⟨w.heap.size, 5, none⟩ = some (.slice q.aP p.P.length q.cP) ∧ V.cell? ⟨w.heap.size, 6, none⟩ = some (.slice q.aB p.B.length q.cB) ∧ V.cell? ⟨w.heap.size, 7, none⟩ = some (.bool p.el) ∧ V.cell? ⟨w.heap.size, 8, none⟩ = some (.int .i64 sy) ∧ V.cell? ⟨w.heap.size, 9, none⟩ = some (.int .i64 bef) ∧ V.cell? ⟨w.heap.size, 10, none⟩ = some (.slice aT tr.length cT) ∧ V.cell? ⟨w.heap.size, 11, none⟩ = some (.slice aE E.length cE) ∧ V.cell? ⟨w.heap.size, 12, none⟩ = some (.slice aX T.length cX)) ∧ V.cell? ⟨w.heap.size, 13, none⟩ = some (.slice aM M.length cM)) := hid0 (fun V hV => by
    have hr := (hV.block w.heap.size (by omega)).trans r0
    refine ⟨⟨?_, ?_, ?_, ?_, ?_, ?_, ?_, ?_, ?_, ?_, ?_, ?_, ?_⟩, ?_⟩ <;> (rw [cell_of_row _ _ _ _ _ _ hr]; rfl))
  have HIn : Hid (∀ V : World, Below w0.heap.size w0 V → PrA V p q ∧ IA V aT tr ∧ RwA V aE E ∧ RwA V aM M ∧ TxA V aX T ∧ Sents V A ∧ Below w.heap.size w V) := hid0 (fun V hV => by
    have hq := b0.trans (hV.mono (by omega))
    exact ⟨h.pr.past hq, h.ta.past hq, h.ea.past hq, h.ma.past hq, h.xa.past hq, hS.below hq, hq⟩)
  have HH := hid0 h
  have hell := h.ell
  have hmll := h.mll
  have hxll := h.xll
  have htl := h.tl
  have HKn := hid0 (known_any A w0 (HIn.out w0 (Below.refl _ _)).2.2.2.2.2.1)
  have hpn := @run_eql_pointer_nil Tryd.prog
  clear h hS b0 r0 s0
  go_enter Tryd.func3, Tryd.ntmps3
  go_upto_region 2 with (go_at_call 5; go_loud ((
    refine HKn.out.mono ?_
    rintro e w1 ⟨rfl, hb⟩
    have HB1 := hid0 hb
    clear hb HKn)))
  clear hw0
  obtain ⟨⟨x0, x1, x2, x3, x4, x5, x6, x7, x8, x9, x10, x11, x12⟩, x13⟩ := HC0.out w1 HB1.out
  go_upto_region 3 with (fail)
  clear x0 x1 x2 x3 x4 x5 x6 x7 x8 x9 x10 x11 x12 x13
  obtain ⟨w2, hw2, b2, r2⟩ : ∃ w2, w1.alloc (.cells #[.int .i64 p.sl, .slice q.aN p.N.length q.cN, .slice q.aO p.O.length q.cO, .int .i64 p.sr, .slice q.aM p.M.length q.cM, .slice q.aP p.P.length q.cP, .slice q.aB p.B.length q.cB, .bool p.el, .int .i64 sy, .int .i64 bef, .slice aT tr.length cT, .slice aE E.length cE, .slice aX T.length cX] 31) = w2 ∧ Below w1.heap.size w1 w2 ∧ w2.heap[w1.heap.size]? = some (.cells #[.int .i64 p.sl, .slice q.aN p.N.length q.cN, .slice q.aO p.O.length q.cO, .int .i64 p.sr, .slice q.aM p.M.length q.cM, .slice q.aP p.P.length q.cP, .slice q.aB p.B.length q.cB, .bool p.el, .int .i64 sy, .int .i64 bef, .slice aT tr.length cT, .slice aE E.length cE, .slice aX T.length cX] 31 (0, 0)) := ⟨_, rfl, (Below.refl _ _).alloc (Nat.le_refl _) _, heap_alloc_new _ _⟩
  rw [hw2]
  have HB2 : Hid (Below w0.heap.size w0 w2) := hid0 (Below.later HB1.out b2)
  have HC : Hid (∀ V : World, Below w2.heap.size w2 V → V.cell? ⟨w1.heap.size, 0, none⟩ = some (.int .i64 p.sl) ∧ V.cell? ⟨w1.heap.size, 1, none⟩ = some (.slice q.aN p.N.length q.cN) ∧ V.cell? ⟨w1.heap.size, 2, none⟩ = some (.slice q.aO p.O.length q.cO) ∧ V.cell? ⟨w1.heap.size, 3, none⟩ = some (.int .i64 p.sr) ∧ V.cell? ⟨w1.heap.size, 4, none⟩ = some (.slice q.aM p.M.length q.cM) ∧ V.cell? ⟨w1.heap.size, 5, none⟩ = some (.slice q.aP p.P.length q.cP) ∧ V.cell? ⟨w1.heap.size, 6, none⟩ = some (.slice q.aB p.B.length q.cB) ∧ V.cell? ⟨w1.heap.size, 7, none⟩ = some (.bool p.el) ∧ V.cell? ⟨w1.heap.size, 8, none⟩ = some (.int .i64 sy) ∧ V.cell? ⟨w1.heap.size, 9, none⟩ = some (.int .i64 bef) ∧ V.cell? ⟨w1.heap.size, 10, none⟩ = some (.slice aT tr.length cT) ∧ V.cell? ⟨w1.heap.size, 11, none⟩ = some (.slice aE E.length cE) ∧ V.cell? ⟨w1.heap.size, 12, none⟩ = some (.slice aX T.length cX)) := hid0 (fun V hV => by
    have hr := (hV.block _ (Array.getElem?_eq_some_iff.1 r2).1).trans r2
    refine ⟨?_, ?_, ?_, ?_, ?_, ?_, ?_, ?_, ?_, ?_, ?_, ?_, ?_⟩ <;> (rw [cell_of_row _ _ _ _ _ _ hr]; rfl))
  have HX : Hid (∀ V : World, Below w2.heap.size w2 V → PrA V p q ∧ IA V aT tr ∧ RwA V aE E ∧ RwA V aM M ∧ TxA V aX T ∧ Sents V A ∧ Below w.heap.size w V) := hid0 (fun V hV => HIn.out V (Below.later HB2.out hV))
  have HNw : Hid (∀ V : World, Below w2.heap.size w2 V → ∀ (bef' : Int) (E' : List (List Int)) (aE' : Option Addr) (cE' : Nat), RwA V aE' E' → (∀ e ∈ E', e.length ≤ 1000000000) → Calls Tryd.prog 6 #[.agg #[.int .i64 p.sl, .slice q.aN p.N.length q.cN, .slice q.aO p.O.length q.cO, .int .i64 p.sr, .slice q.aM p.M.length q.cM, .slice q.aP p.P.length q.cP, .slice q.aB p.B.length q.cB, .bool p.el], .int .i64 sy, .int .i64 bef', .slice aT tr.length cT, .slice aE' E'.length cE'] V fun e w' => ∃ fv ev, e = .returned (.tuple #[fv, ev]) ∧ Hid (FnV A w' p sy bef' tr E' fv ev) ∧ Below V.heap.size V w') := hid0 (fun V hV bef' E' aE' cE' hE hl => (fnew_any A p q sy bef' tr aT cT E' aE' cE' V HH.out.ps (HX.out V hV).1 (HX.out V hV).2.1 htl hE hl (HX.out V hV).2.2.2.2.2.1).mono (by
    rintro e w' ⟨hb, hr⟩
    rcases hr with ⟨_, k, rfl⟩ | ⟨h1, h2, q2, f, rfl, h3⟩
    · exact ⟨_, _, rfl, hid0 (.inl ⟨rfl, k, rfl⟩), hb⟩
    · exact ⟨_, _, rfl, hid0 (.inr ⟨h1, h2, q2, f, rfl, rfl, h3⟩), hb⟩))
  have xM := (HC0.out w2 HB2.out).2
  obtain ⟨x0, x1, x2, x3, x4, x5, x6, x7, x8, x9, x10, x11, x12⟩ := HC.out w2 (Below.refl _ _)
  have HXm : Hid (∀ V : World, Below w2.heap.size w2 V → V.cell? ⟨w.heap.size, 13, none⟩ = some (.slice aM M.length cM)) := hid0 (fun V hV => (HC0.out V (Below.later HB2.out hV)).2)
  have HEw := hid0 (HX.out w2 (Below.refl _ _)).2.2.1
  have HMw := hid0 (HX.out w2 (Below.refl _ _)).2.2.2.1
  clear hw2 b2 r2 xM
  go_upto_region 5 with (at_builtin; go_loud ((
    refine wpList_spreadL (w0 := w2) rfl _ _ rfl (.slice none 0 0) [] E [] aE cE rfl rfl HH.out.en (RwO.nil _ _) HEw.out (Below.refl _ _) (by simp) (by omega) ?_
    intro v3 w3 vs3 hr3 hb3
    have HR3 := hid0 hr3
    have HB3 := hid0 hb3
    clear hr3 hb3)))
  clear x0 x1 x2 x3 x4 x5 x6 x7 x8 x9 x10 x11 x12
  have xM := HXm.out w3 HB3.out
  obtain ⟨EM, hEM⟩ : ∃ EM, E ++ M = EM := ⟨_, rfl⟩
  have HEM := hid0 hEM
  clear hEM
  go_upto_region 6 with (at_builtin; go_loud ((
    refine wpList_spreadL (w0 := w2) rfl _ _ rfl v3 ([] ++ E) M vs3 aM cM rfl rfl HH.out.mn HR3.out HMw.out HB3.out (by simpa using hell) (by omega) ?_
    intro v4 w4 vs4 hr4 hb4
    have HR4 : Hid (RwO w2 w4 v4 EM vs4) := hid0 (by rw [List.nil_append, HEM.out] at hr4; exact hr4)
    have HB4 := hid0 hb4
    clear hr4 hb4)))
  clear xM HR3
  obtain ⟨aA, cA, hvA, _⟩ := HR4.out.rwa HB4.out
  subst hvA
  have HAl : Hid (∀ V : World, Below w4.heap.size w4 V → RwA V aA EM) := hid0 (fun V hV => by
    obtain ⟨a', c', e', hra⟩ := HR4.out.rwa HB4.out
    injection e' with e1
    rw [e1]
    exact hra.past hV)
  obtain ⟨x0, x1, x2, x3, x4, x5, x6, x7, x8, x9, x10, x11, x12⟩ := HC.out w4 HB4.out
  have HN0 := hid0 (HNw.out w4 HB4.out (bef) ([]) (none) (0) ⟨fun k hk => absurd hk (Nat.not_lt_zero _)⟩ (fun e he => nomatch he))
  go_upto_region 7 with (go_at_call 6; go_loud ((
    refine HN0.out.mono ?_
    rintro e w5 ⟨f0, e0, rfl, HF0, hb⟩
    have HBx0 := hid0 hb
    have HB5 : Hid (Below w2.heap.size w2 w5) := hid0 (Below.later HB4.out hb)
    clear hb HN0)))
  clear x0 x1 x2 x3 x4 x5 x6 x7 x8 x9 x10 x11 x12
  obtain ⟨x0, x1, x2, x3, x4, x5, x6, x7, x8, x9, x10, x11, x12⟩ := HC.out w5 HB5.out
  have HN1 := hid0 (HNw.out w5 HB5.out (-1) (E) (aE) (cE) (HX.out w5 HB5.out).2.2.1 HH.out.el)
  go_upto_region 8 with (go_at_call 6; go_loud ((
    refine HN1.out.mono ?_
    rintro e w6 ⟨f1, e1, rfl, HF1, hb⟩
    have HBx1 := hid0 hb
    have HB6 : Hid (Below w2.heap.size w2 w6) := hid0 (Below.later HB5.out hb)
    clear hb HN1)))
  clear x0 x1 x2 x3 x4 x5 x6 x7 x8 x9 x10 x11 x12
  obtain ⟨x0, x1, x2, x3, x4, x5, x6, x7, x8, x9, x10, x11, x12⟩ := HC.out w6 HB6.out
  have HN2 := hid0 (HNw.out w6 HB6.out (bef) (E) (aE) (cE) (HX.out w6 HB6.out).2.2.1 HH.out.el)
  go_upto_region 9 with (go_at_call 6; go_loud ((
    refine HN2.out.mono ?_
    rintro e w7 ⟨f2, e2, rfl, HF2, hb⟩
    have HBx2 := hid0 hb
    have HB7 : Hid (Below w2.heap.size w2 w7) := hid0 (Below.later HB6.out hb)
    clear hb HN2)))
  clear x0 x1 x2 x3 x4 x5 x6 x7 x8 x9 x10 x11 x12
  obtain ⟨x0, x1, x2, x3, x4, x5, x6, x7, x8, x9, x10, x11, x12⟩ := HC.out w7 HB7.out
  have HN3 := hid0 (HNw.out w7 HB7.out (bef) (EM) (aA) (cA) (HAl.out w7 (Below.later (Below.later HBx0.out HBx1.out) HBx2.out)) (fun e he => by rw [← HEM.out] at he; rcases List.mem_append.1 he with h | h; (· exact HH.out.el e h); exact HH.out.ml e h))
  go_upto_region 10 with (go_at_call 6; go_loud ((
    refine HN3.out.mono ?_
    rintro e w8 ⟨f3, e3, rfl, HF3, hb⟩
    have HBx3 := hid0 hb
    have HB8 : Hid (Below w2.heap.size w2 w8) := hid0 (Below.later HB7.out hb)
    clear hb HN3)))
  clear x0 x1 x2 x3 x4 x5 x6 x7 x8 x9 x10 x11 x12
  have HG0 := hid0 (((HF0.out.past HBx1.out).past HBx2.out).past HBx3.out)
  have HG1 := hid0 ((HF1.out.past HBx2.out).past HBx3.out)
  have HG2 := hid0 (HF2.out.past HBx3.out)
  have HG3 := HF3
  clear HF0 HF1 HF2 HBx0 HBx1 HBx2 HBx3
  go_cut [123] from 90 (fun c wx => ∃ bb : Bool, c = .bool bb ∧ wx = w8 ∧ Hid (bb = false → e0 = .nilIface ∧ e1 = .nilIface ∧ e2 = .nilIface ∧ e3 = .nilIface))
  case first =>
    rcases HG0.out with ⟨rfl, k, rfl⟩ | ⟨_, _, qa, fa, rfl, rfl, _⟩
    · go_wp2_with fail
      go_meet
      case rel => exact ⟨true, rfl, rfl, hid0 (by simp)⟩
    rcases HG1.out with ⟨rfl, k, rfl⟩ | ⟨_, _, qb, fb, rfl, rfl, _⟩
    · go_wp2_with fail
      go_meet
      case rel => exact ⟨true, rfl, rfl, hid0 (by simp)⟩
    rcases HG2.out with ⟨rfl, k, rfl⟩ | ⟨_, _, qc, fc, rfl, rfl, _⟩
    · go_wp2_with fail
      go_meet
      case rel => exact ⟨true, rfl, rfl, hid0 (by simp)⟩
    rcases HG3.out with ⟨rfl, k, rfl⟩ | ⟨_, _, qd, fd, rfl, rfl, _⟩
    · go_wp2_with fail
      go_meet
      case rel => exact ⟨true, rfl, rfl, hid0 (by simp)⟩
    · go_wp2_with fail
      go_meet
      case rel => exact ⟨false, rfl, rfl, hid0 (by simp)⟩
  case rest =>
  obtain ⟨bb, rfl, hw, HQ⟩ := hcut
  have hw := hw.symm
  subst hw
  cases bb with
  | true =>
    go_wp2
    go_ret
    exact ⟨rfl, (HX.out _ HB8.out).2.2.2.2.2.2⟩
  | false =>
    obtain ⟨z0, z1, z2, z3⟩ := HQ.out rfl
    rcases HG0.out with ⟨_, k, he⟩ | ⟨_, _, qa, fa, g0, _, ha0⟩
    · rw [z0] at he; cases he
    rcases HG1.out with ⟨_, k, he⟩ | ⟨_, _, qb, fb, g1, _, ha1⟩
    · rw [z1] at he; cases he
    rcases HG2.out with ⟨_, k, he⟩ | ⟨_, fs2, qc, fc, g2, _, ha2⟩
    · rw [z2] at he; cases he
    rcases HG3.out with ⟨_, k, he⟩ | ⟨_, fs3, qd, fd, g3, _, ha3⟩
    · rw [z3] at he; cases he
    have HA0 := hid0 ha0
    have HA1 := hid0 ha1
    have HA2 := hid0 ha2
    have HA3 := hid0 ha3
    have HFs2 := hid0 fs2
    have HFs3 := hid0 fs3
    have HFs0 : Hid (FlS p tr []) := hid0 ⟨fs2.ps, fs2.rs, fs2.tl, good_nil, by simp⟩
    subst z0 z1 z2 z3 g0 g1 g2 g3
    clear HQ HG0 HG1 HG2 HG3 HF3 ha0 ha1 ha2 ha3 fs2 fs3 HNw HXm HEw HMw HR4 HAl HB3 HB4 HB5 HB6 HB7
    have HCx : Hid (∀ V : World, Below w8.heap.size w8 V → V.cell? ⟨w1.heap.size, 0, none⟩ = some (.int .i64 p.sl) ∧ V.cell? ⟨w1.heap.size, 1, none⟩ = some (.slice q.aN p.N.length q.cN) ∧ V.cell? ⟨w1.heap.size, 2, none⟩ = some (.slice q.aO p.O.length q.cO) ∧ V.cell? ⟨w1.heap.size, 3, none⟩ = some (.int .i64 p.sr) ∧ V.cell? ⟨w1.heap.size, 4, none⟩ = some (.slice q.aM p.M.length q.cM) ∧ V.cell? ⟨w1.heap.size, 5, none⟩ = some (.slice q.aP p.P.length q.cP) ∧ V.cell? ⟨w1.heap.size, 6, none⟩ = some (.slice q.aB p.B.length q.cB) ∧ V.cell? ⟨w1.heap.size, 7, none⟩ = some (.bool p.el) ∧ V.cell? ⟨w1.heap.size, 8, none⟩ = some (.int .i64 sy) ∧ V.cell? ⟨w1.heap.size, 9, none⟩ = some (.int .i64 bef) ∧ V.cell? ⟨w1.heap.size, 10, none⟩ = some (.slice aT tr.length cT) ∧ V.cell? ⟨w1.heap.size, 11, none⟩ = some (.slice aE E.length cE) ∧ V.cell? ⟨w1.heap.size, 12, none⟩ = some (.slice aX T.length cX)) := hid0 (fun V hV => HC.out V (Below.later HB8.out hV))
    have HXx : Hid (∀ V : World, Below w8.heap.size w8 V → PrA V p q ∧ TxA V aX T ∧ Sents V A ∧ Below w.heap.size w V) := hid0 (fun V hV => by
      have h := HX.out V (Below.later HB8.out hV)
      exact ⟨h.1, h.2.2.2.2.1, h.2.2.2.2.2.1, h.2.2.2.2.2.2⟩)
    clear HC HX HC0 HIn
    go_wp2
    go_loopw [14] (fun x wr => ∃ i : Nat, i ≤ T.length ∧ x = .int .i64 (i : Int) ∧ Hid (Below w8.heap.size w8 wr)) (fun x _ => T.length - (intOf x).toNat)
    case atStart => exact ⟨0, Nat.zero_le _, rfl, hid0 (Below.refl _ _)⟩
    case round =>
      obtain ⟨i, hi, rfl, HB⟩ := hrel
      obtain ⟨x0, x1, x2, x3, x4, x5, x6, x7, x8, x9, x10, x11, x12⟩ := HCx.out wr HB.out
      by_cases hlt : i < T.length
      · have hiI : (i : Int) < (T.length : Int) := by omega
        have hiI0 : (0 : Int) ≤ (i : Int) := by omega
        obtain ⟨bt, ot, et, _, a1, c1, a2, c2, d1, d2, iP, il⟩ := (HXx.out wr HB.out).2.1.at' i hlt
        subst et
        obtain ⟨hP9, hl9, hI9⟩ := HH.out.xl _ (List.getElem_mem hlt)
        have HIP := hid0 iP
        have HIl := hid0 il
        have HI9 := hid0 hI9
        generalize (T[i]).1 = P at *
        generalize (T[i]).2 = l at *
        clear iP il hI9
        go_upto_region 16 with (fail)
        clear d1 d2 x0 x1 x2 x3 x4 x5 x6 x7 x8 x9 x10 x11 x12
        obtain ⟨W, hW, bW, rW⟩ : ∃ W, wr.alloc (.cells #[.slice a1 P.length c1, .slice a2 l.length c2] 41) = W ∧ Below wr.heap.size wr W ∧ W.heap[wr.heap.size]? = some (.cells #[.slice a1 P.length c1, .slice a2 l.length c2] 41 (0, 0)) := ⟨_, rfl, (Below.refl _ _).alloc (Nat.le_refl _) _, heap_alloc_new _ _⟩
        rw [hW]
        have HBW : Hid (Below w8.heap.size w8 W) := hid0 (Below.later HB.out bW)
        have HY : Hid (∀ V : World, Below W.heap.size W V → V.cell? ⟨wr.heap.size, 0, none⟩ = some (.slice a1 P.length c1) ∧ V.cell? ⟨wr.heap.size, 1, none⟩ = some (.slice a2 l.length c2)) := hid0 (fun V hV => by
          have hr := (hV.block _ (Array.getElem?_eq_some_iff.1 rW).1).trans rW
          exact ⟨by rw [cell_of_row _ _ _ _ _ _ hr]; rfl, by rw [cell_of_row _ _ _ _ _ _ hr]; rfl⟩)
        have HIP2 := hid0 (HIP.out.past bW)
        have HIl2 := hid0 (HIl.out.past bW)
        have HCw : Hid (∀ V : World, Below W.heap.size W V → V.cell? ⟨w1.heap.size, 0, none⟩ = some (.int .i64 p.sl) ∧ V.cell? ⟨w1.heap.size, 1, none⟩ = some (.slice q.aN p.N.length q.cN) ∧ V.cell? ⟨w1.heap.size, 2, none⟩ = some (.slice q.aO p.O.length q.cO) ∧ V.cell? ⟨w1.heap.size, 3, none⟩ = some (.int .i64 p.sr) ∧ V.cell? ⟨w1.heap.size, 4, none⟩ = some (.slice q.aM p.M.length q.cM) ∧ V.cell? ⟨w1.heap.size, 5, none⟩ = some (.slice q.aP p.P.length q.cP) ∧ V.cell? ⟨w1.heap.size, 6, none⟩ = some (.slice q.aB p.B.length q.cB) ∧ V.cell? ⟨w1.heap.size, 7, none⟩ = some (.bool p.el) ∧ V.cell? ⟨w1.heap.size, 8, none⟩ = some (.int .i64 sy) ∧ V.cell? ⟨w1.heap.size, 9, none⟩ = some (.int .i64 bef) ∧ V.cell? ⟨w1.heap.size, 10, none⟩ = some (.slice aT tr.length cT) ∧ V.cell? ⟨w1.heap.size, 11, none⟩ = some (.slice aE E.length cE) ∧ V.cell? ⟨w1.heap.size, 12, none⟩ = some (.slice (some ⟨bt, ot, none⟩) T.length cX)) := hid0 (fun V hV => HCx.out V (Below.later HBW.out hV))
        obtain ⟨okd, hokd⟩ : ∃ okd, okD p.sl p.N p.O p.sr p.M p.P p.B.length l = okd := ⟨_, rfl⟩
        obtain ⟨okf, hokf⟩ : ∃ okf, (decide (P.length = l.length) && okd) = okf := ⟨_, rfl⟩
        obtain ⟨D, hD⟩ : ∃ D, decF p.sl p.N p.O p.sr p.M p.P l = D := ⟨_, rfl⟩
        have hDl : D.length = l.length - 1 := by rw [← hD]; unfold decF; simp
        obtain ⟨sp, hsp⟩ : ∃ sp, decide (0 ≤ bef) = sp := ⟨_, rfl⟩
        have HPB : Hid (∀ V : World, Below W.heap.size W V → Calls Tryd.prog 7 #[.agg #[.int .i64 p.sl, .slice q.aN p.N.length q.cN, .slice q.aO p.O.length q.cO, .int .i64 p.sr, .slice q.aM p.M.length q.cM, .slice q.aP p.P.length q.cP, .slice q.aB p.B.length q.cB, .bool p.el], .slice a2 l.length c2] V fun e w' => ∃ a c, e = .returned (.tuple #[.slice a (if okd then brkF D p.B p.el l.length else []).length c, errC A okd]) ∧ Hid (IA w' a (if okd then brkF D p.B p.el l.length else [])) ∧ Below V.heap.size V w') := hid0 (fun V hV => by
          have hq := HXx.out V (Below.later HBW.out hV)
          have h := breaks_any A p.sl p.sr p.N p.O p.M p.P p.B p.el q.aN q.aO q.aM q.aP q.aB q.cN q.cO q.cM q.cP q.cB l a2 c2 V HH.out.ps hq.1 (by omega) (HIl2.out.past hV) hq.2.2.1
          rw [hokd, hD] at h
          refine h.mono ?_
          rintro e w' ⟨v, rfl, ho, hb⟩
          obtain ⟨a, c, rfl, hia, _⟩ := own_slice ho
          exact ⟨a, c, rfl, hid0 hia, hb⟩)
        have HFB : Hid (∀ (bef' : Int) (sup : Bool) (E' : List (List Int)) (q2 : PrL) (f : FlL), FlA w8 p q2 sup tr E' bef' f → FlS p tr E' → ∀ V : World, Below W.heap.size W V → Calls Tryd.prog 8 #[.pointer (some ⟨f.X, 0, none⟩), .slice a1 P.length c1, .slice a2 l.length c2] V fun e w' => ∃ a c, e = .returned (.tuple #[.slice a (if okf then fbF D p.B p.el bef' (hdF sup E' tr P l) l.length else []).length c, errC A okf]) ∧ Hid (IA w' a (if okf then fbF D p.B p.el bef' (hdF sup E' tr P l) l.length else [])) ∧ Below V.heap.size V w') := hid0 (fun bef' sup E' q2 f hfa hfs V hV => by
          have hq := Below.later HBW.out hV
          have h := fbreaks_any A P l a1 a2 c1 c2 (hfa.past hq) hfs (by omega) (HIP2.out.past hV) (HIl2.out.past hV) HI9.out (HXx.out V hq).2.2.1
          rw [hokd, hD, hokf] at h
          refine h.mono ?_
          rintro e w' ⟨v, rfl, ho, hb⟩
          obtain ⟨a, c, rfl, hia, _⟩ := own_slice ho
          exact ⟨a, c, rfl, hid0 hia, hb⟩)
        have HC0 := hid0 (HFB.out bef (decide (0 ≤ bef)) [] qa fa HA0.out HFs0.out)
        have HC1 := hid0 (HFB.out (-1) (decide ((0 : Int) ≤ -1)) E qb fb HA1.out HFs2.out)
        have HC2 := hid0 (HFB.out bef (decide (0 ≤ bef)) E qc fc HA2.out HFs2.out)
        have HC3 := hid0 (HFB.out bef (decide (0 ≤ bef)) EM qd fd HA3.out HFs3.out)
        have HR : Hid (okf = true → (fbF D p.B p.el bef (hdF (decide (0 ≤ bef)) [] tr P l) l.length = brkF D p.B p.el l.length ∧ fbF D p.B p.el (-1) (hdF (decide ((0 : Int) ≤ -1)) E tr P l) l.length = brkF D p.B p.el l.length) ∧ List.Sublist (fbF D p.B p.el bef (hdF (decide (0 ≤ bef)) E tr P l) l.length) (brkF D p.B p.el l.length) ∧ List.Sublist (fbF D p.B p.el bef (hdF (decide (0 ≤ bef)) EM tr P l) l.length) (fbF D p.B p.el bef (hdF (decide (0 ≤ bef)) E tr P l) l.length) ∧ (brkF D p.B p.el l.length).Pairwise (· < ·) ∧ (fbF D p.B p.el bef (hdF (decide (0 ≤ bef)) E tr P l) l.length).Pairwise (· < ·)) := hid0 (fun _ => by
          refine ⟨⟨fbF_none _ _ _ _ _ _ (hd_none _ _ _ _), fbF_none _ _ _ _ _ _ (fun i => hd_off E tr P l i)⟩, ?_, ?_, ?_, ?_⟩
          · rw [← fbF_none D p.B p.el bef l.length (fun _ => false) (fun _ => rfl)]
            exact fbF_sub _ _ _ _ _ (fun i hi => nomatch hi)
          · refine fbF_sub _ _ _ _ _ (fun i hi => ?_)
            rw [← HEM.out]
            exact hd_more HFs2.out.good.ne hi
          · rw [← fbF_none D p.B p.el bef l.length (fun _ => false) (fun _ => rfl)]
            exact fbF_rise _ _ _ _ _ _ hDl
          · exact fbF_rise _ _ _ _ _ _ hDl)
        have HLb : Hid (∀ (bef' : Int) (hd : Nat → Bool), (fbF D p.B p.el bef' hd l.length).length ≤ 100000002) := hid0 (fun bef' hd => by
          unfold fbF
          split
          · simp
          · rw [List.length_cons, List.length_append]
            have := fbK_len D p.B p.el bef' hd D.length
            simp
            omega)
        have HLp : Hid ((brkF D p.B p.el l.length).length ≤ 100000002) := hid0 (by rw [← fbF_none D p.B p.el bef l.length (fun _ => false) (fun _ => rfl)]; exact HLb.out _ _)
        have b02 := HLb.out bef (hdF (decide (0 ≤ bef)) E tr P l)
        have b03 := HLb.out bef (hdF (decide (0 ≤ bef)) EM tr P l)
        generalize fbF D p.B p.el bef (hdF (decide (0 ≤ bef)) [] tr P l) l.length = L0 at *
        generalize fbF D p.B p.el (-1) (hdF (decide ((0 : Int) ≤ -1)) E tr P l) l.length = L1 at *
        generalize fbF D p.B p.el bef (hdF (decide (0 ≤ bef)) E tr P l) l.length = L2 at *
        generalize fbF D p.B p.el bef (hdF (decide (0 ≤ bef)) EM tr P l) l.length = L3 at *
        generalize brkF D p.B p.el l.length = Lp at *
        clear hW bW rW HIP HIl HFB HLb hD hokd hsp hDl HIP2 HIl2
        have hbp := HLp.out
        clear HLp
        obtain ⟨ep, hep⟩ : ∃ ep, errC A okd = ep := ⟨_, rfl⟩
        obtain ⟨ef, hef⟩ : ∃ ef, errC A okf = ef := ⟨_, rfl⟩
        obtain ⟨Kp, hKp⟩ : ∃ K, (if okd then Lp else []) = K := ⟨_, rfl⟩
        obtain ⟨K0, hK0⟩ : ∃ K, (if okf then L0 else []) = K := ⟨_, rfl⟩
        obtain ⟨K1, hK1⟩ : ∃ K, (if okf then L1 else []) = K := ⟨_, rfl⟩
        obtain ⟨K2, hK2⟩ : ∃ K, (if okf then L2 else []) = K := ⟨_, rfl⟩
        obtain ⟨K3, hK3⟩ : ∃ K, (if okf then L3 else []) = K := ⟨_, rfl⟩
        rw [hep, hKp] at HPB
        rw [hef, hK0] at HC0
        rw [hef, hK1] at HC1
        rw [hef, hK2] at HC2
        rw [hef, hK3] at HC3
        have HE : Hid (errC A okd = ep ∧ errC A okf = ef ∧ (if okd then Lp else []) = Kp ∧ (if okf then L0 else []) = K0 ∧ (if okf then L1 else []) = K1 ∧ (if okf then L2 else []) = K2 ∧ (if okf then L3 else []) = K3 ∧ (decide (P.length = l.length) && okd) = okf) := hid0 ⟨hep, hef, hKp, hK0, hK1, hK2, hK3, hokf⟩
        clear hep hef hKp hK0 hK1 hK2 hK3 hokf
        obtain ⟨x0, x1, x2, x3, x4, x5, x6, x7, x8, x9, x10, x11, x12⟩ := HCw.out W (Below.refl _ _)
        obtain ⟨y0, y1⟩ := HY.out W (Below.refl _ _)
        have HP0 := hid0 (HPB.out W (Below.refl _ _))
        clear HPB
        go_upto_region 17 with (go_at_call 7; go_loud ((
          refine HP0.out.mono ?_
          rintro e v1 ⟨aL, cL, rfl, HIL, hb⟩
          have HV1 := hid0 hb
          clear hb HP0)))
        clear x0 x1 x2 x3 x4 x5 x6 x7 x8 x9 x10 x11 x12 y0 y1
        obtain ⟨y0, y1⟩ := HY.out v1 HV1.out
        have HP0 := hid0 (HC0.out v1 HV1.out)
        clear HC0
        go_upto_region 18 with (go_at_call 8; go_loud ((
          refine HP0.out.mono ?_
          rintro e v2 ⟨b0, d0, rfl, HI0, hb⟩
          have HVx0 := hid0 hb
          have HV2 : Hid (Below W.heap.size W v2) := hid0 (Below.later HV1.out hb)
          clear hb HP0)))
        clear y0 y1
        obtain ⟨y0, y1⟩ := HY.out v2 HV2.out
        have HP0 := hid0 (HC1.out v2 HV2.out)
        clear HC1
        go_upto_region 19 with (go_at_call 8; go_loud ((
          refine HP0.out.mono ?_
          rintro e v3 ⟨b1, d1, rfl, HI1, hb⟩
          have HVx1 := hid0 hb
          have HV3 : Hid (Below W.heap.size W v3) := hid0 (Below.later HV2.out hb)
          clear hb HP0)))
        clear y0 y1
        obtain ⟨y0, y1⟩ := HY.out v3 HV3.out
        have HP0 := hid0 (HC2.out v3 HV3.out)
        clear HC2
        go_upto_region 20 with (go_at_call 8; go_loud ((
          refine HP0.out.mono ?_
          rintro e v4 ⟨b2, d2, rfl, HI2, hb⟩
          have HVx2 := hid0 hb
          have HV4 : Hid (Below W.heap.size W v4) := hid0 (Below.later HV3.out hb)
          clear hb HP0)))
        clear y0 y1
        obtain ⟨y0, y1⟩ := HY.out v4 HV4.out
        have HP0 := hid0 (HC3.out v4 HV4.out)
        clear HC3
        go_upto_region 21 with (go_at_call 8; go_loud ((
          refine HP0.out.mono ?_
          rintro e v5 ⟨b3, d3, rfl, HI3, hb⟩
          have HVx3 := hid0 hb
          have HV5 : Hid (Below W.heap.size W v5) := hid0 (Below.later HV4.out hb)
          clear hb HP0)))
        clear y0 y1
        have HIA : Hid (∀ V : World, Below v5.heap.size v5 V → IA V aL Kp ∧ IA V b0 K0 ∧ IA V b1 K1 ∧ IA V b2 K2 ∧ IA V b3 K3) := hid0 (fun V hV => by
          have q3 := Below.later HVx3.out hV
          have q2 := Below.later HVx2.out q3
          have q1 := Below.later HVx1.out q2
          have q0 := Below.later HVx0.out q1
          exact ⟨HIL.out.past q0, HI0.out.past q1, HI1.out.past q2, HI2.out.past q3, HI3.out.past hV⟩)
        have HSt : Hid (∀ V : World, Below v5.heap.size v5 V → Sents V A ∧ Below w8.heap.size w8 V) := hid0 (fun V hV => by
          have hq := Below.later HBW.out (Below.later HV5.out hV)
          exact ⟨(HXx.out V hq).2.2.1, hq⟩)
        obtain ⟨y0, y1⟩ := HY.out v5 HV5.out
        clear HIL HI0 HI1 HI2 HI3 HVx0 HVx1 HVx2 HVx3 HV1 HV2 HV3 HV4 HCw HY
        by_cases hPl : P.length = l.length
        · have hPlI : (P.length : Int) = (l.length : Int) := by omega
          obtain ⟨h1, h2, h3, h4, h5, h6, h7, h8⟩ := HE.out
          have h9 : okf = okd := by rw [← h8, decide_eq_true hPl]; rfl
          subst h9
          cases okf with
          | false =>
            have h1' : ep = .iface 129 (.pointer (some (A 0))) := h1.symm
            have h2' : ef = .iface 129 (.pointer (some (A 0))) := h2.symm
            subst h1' h2'
            clear h1 h2 h3 h4 h5 h6 h7 h8 HE HR HIA
            go_wp2_with fail
            go_roundw
            case rel => exact ⟨i + 1, hlt, by go_num, hid0 (HSt.out _ (Below.refl _ _)).2⟩
            case measure => simp [intOf]; omega
          | true =>
            have h1' : ep = .nilIface := h1.symm
            have h2' : ef = .nilIface := h2.symm
            replace h3 : Lp = Kp := h3
            replace h4 : L0 = K0 := h4
            replace h5 : L1 = K1 := h5
            replace h6 : L2 = K2 := h6
            replace h7 : L3 = K3 := h7
            obtain ⟨⟨r0, r1⟩, r2, r3, r4, r5⟩ := HR.out rfl
            subst h3 h4 h5 h6 h7 h1' h2'
            replace r0 := r0.symm
            replace r1 := r1.symm
            subst r0
            subst r1
            have HS0 : Hid (∀ (b : Option Addr) (c : Nat) (V : World), IA v5 b Lp → Below v5.heap.size v5 V → Calls Tryd.prog 10 #[.slice b Lp.length c, .slice aL Lp.length cL] V fun e w' => e = .returned (.bool true) ∧ Below V.heap.size V w') := hid0 (fun b c V hb hV => (sameInts_any Lp Lp b aL c cL V (by omega) (hb.past hV) (HIA.out V hV).1).mono (by
              rintro e w' ⟨rfl, n, rfl⟩
              exact ⟨by simp, below_drew' (Below.refl _ _) n⟩))
            have HSa := hid0 (HS0.out b0 d0 v5 (HIA.out v5 (Below.refl _ _)).2.1 (Below.refl _ _))
            have HSb := hid0 (fun V => HS0.out b1 d1 V (HIA.out v5 (Below.refl _ _)).2.2.1)
            have HWa : Hid (∀ V : World, Below v5.heap.size v5 V → Calls Tryd.prog 11 #[.slice b2 L2.length d2, .slice aL Lp.length cL] V fun e w' => e = .returned (.bool true) ∧ Below V.heap.size V w') := hid0 (fun V hV => (within_any L2 Lp b2 aL d2 cL V (by omega) (by omega) (HIA.out V hV).2.2.2.1 (HIA.out V hV).1 r2 r4).mono (by
              rintro e w' ⟨rfl, n, rfl⟩
              exact ⟨rfl, below_drew' (Below.refl _ _) n⟩))
            have HWb : Hid (∀ V : World, Below v5.heap.size v5 V → Calls Tryd.prog 11 #[.slice b3 L3.length d3, .slice b2 L2.length d2] V fun e w' => e = .returned (.bool true) ∧ Below V.heap.size V w') := hid0 (fun V hV => (within_any L3 L2 b3 b2 d3 d2 V (by omega) (by omega) (HIA.out V hV).2.2.2.2 (HIA.out V hV).2.2.2.1 r3 r5).mono (by
              rintro e w' ⟨rfl, n, rfl⟩
              exact ⟨rfl, below_drew' (Below.refl _ _) n⟩))
            clear h1 h2 h8 HE HR HS0 r2 r3 r4 r5 HIA
            go_upto_region 28 with (go_at_call 10; go_loud ((
              refine HSa.out.mono ?_
              rintro e v6 ⟨rfl, hb⟩
              have HV6 := hid0 hb
              clear hb HSa y0 y1)))
            have HSc := hid0 (HSb.out v6 HV6.out)
            clear HSb
            go_upto_region 29 with (go_at_call 10; go_loud ((
              refine HSc.out.mono ?_
              rintro e v7 ⟨rfl, hb⟩
              have HV7 := hid0 (Below.later HV6.out hb)
              clear hb HSc)))
            have HWc := hid0 (HWa.out v7 HV7.out)
            clear HWa
            go_wp2_with (first
              | (go_at_call 11; have hq := HV8.out; clear hq; refine (HWb.out v8 HV8.out).mono ?_; rintro e v9 ⟨rfl, hb⟩; have HV9 := hid0 (Below.later HV8.out hb); clear hb)
              | (go_at_call 11; refine HWc.out.mono ?_; rintro e v8 ⟨rfl, hb⟩; have HV8 := hid0 (Below.later HV7.out hb); clear hb HWc))
            go_roundw
            case rel => exact ⟨i + 1, hlt, by go_num, hid0 (HSt.out _ HV9.out).2⟩
            case measure => simp [intOf]; omega
        · have hPlI : ¬ (P.length : Int) = (l.length : Int) := by omega
          obtain ⟨h1, h2, h3, h4, h5, h6, h7, h8⟩ := HE.out
          have h9 : okf = false := by rw [← h8, decide_eq_false hPl]; rfl
          rw [h9] at h2
          have h2' : ef = .iface 129 (.pointer (some (A 0))) := h2.symm
          have HNu := hid0 (kitNum_at v5 A (HSt.out v5 (Below.refl _ _)).1 0 (by omega))
          subst h2'
          have hr0 : refNo 0 = 1 := rfl
          rw [hr0] at HNu
          clear h1 h2 h3 h4 h5 h6 h7 h8 h9 HE HR HIA hr0
          go_wp2_with (go_at_call 9; refine HNu.out.mono ?_; rintro e wz ⟨rfl, rfl⟩)
          go_roundw
          case rel => exact ⟨i + 1, hlt, by go_num, hid0 (HSt.out _ (Below.refl _ _)).2⟩
          case measure => simp [intOf]; omega
      · have hiI : ¬ (i : Int) < (T.length : Int) := by omega
        go_wp2
        go_ret
        exact ⟨rfl, (HXx.out _ HB.out).2.2.2⟩
end Go.Proofs.YtejanmleleiigaaDoor
