/-
  FjTM, FjTW.
-/
import Derived.Test.YtekimkdaoblcgaaDoorMfi
namespace Go.Proofs.YtekimkdaoblcgaaDoor
open Go.RowKit Go.Shelf Go.Maps
theorem nwK_val : ∀ (L dn : List (List Int)) (k : Nat), nwK dn L = some k → k = 0 ∨ k = 2 ∨ k = 4
  | [], dn, k, h => by cases h
  | e :: r, dn, k, h => by
    unfold nwK at h
    split at h
    · rename_i j hj
      simp only [Option.some.injEq] at h
      subst h
      unfold chkN at hj
      split at hj
      · cases hj; exact .inl rfl
      · split at hj
        · cases hj; exact .inr (.inl rfl)
        · cases hj
    · split at h
      · cases h; exact .inr (.inr rfl)
      · exact nwK_val r _ k h
theorem nwE_val {p : Prg} {sy bef : Int} {tr : List Int} {E : List (List Int)} {k : Nat} (h : nwE p sy bef tr E = some k) : k = 0 ∨ k = 2 ∨ k = 4 := by
  unfold nwE at h
  split at h
  · cases h; exact .inl rfl
  · split at h
    · cases h; exact .inl rfl
    · unfold newE at h
      split at h
      · cases h; exact .inr (.inl rfl)
      · exact nwK_val _ _ _ h
theorem numE {A : Nat → Addr} {w : World} (hS : Sents w A) {p : Prg} {sy bef : Int} {tr : List Int} {E : List (List Int)} {k : Nat} (h : nwE p sy bef tr E = some k) : Calls Tryd.prog 9 #[.iface 129 (.pointer (some (A k)))] w fun e w' => e = .returned (.int .i64 ((k : Int) + 1)) ∧ w' = w := by
  rcases nwE_val h with rfl | rfl | rfl
  · exact kitNum_at w A hS 0 (by omega)
  · exact kitNum_at w A hS 2 (by omega)
  · exact kitNum_at w A hS 4 (by omega)
theorem put8 {V : World} {g : Nat} {t : TypeId} {cs : Array Value} (h : V.heap[g]? = some (.cells cs t (0, 0))) (k : Nat) (v : Value) {cs' : Array Value} (e : cs.setIfInBounds k v = cs') : (V.setCell ⟨g, k, none⟩ v).heap[g]? = some (.cells cs' t (0, 0)) := by rw [heap_setCell_same _ _ k _ _ v h, e]
theorem box8 (W : World) (t : TypeId) (b0 b1 b2 b3 b4 b5 b6 b7 a0 a1 a2 a3 a4 a5 a6 a7 : Value) : ∃ V, ((((((((W.alloc (.cells #[b0, b1, b2, b3, b4, b5, b6, b7] t)).setCell ⟨W.heap.size, 0, none⟩ a0).setCell ⟨W.heap.size, 1, none⟩ a1).setCell ⟨W.heap.size, 2, none⟩ a2).setCell ⟨W.heap.size, 3, none⟩ a3).setCell ⟨W.heap.size, 4, none⟩ a4).setCell ⟨W.heap.size, 5, none⟩ a5).setCell ⟨W.heap.size, 6, none⟩ a6).setCell ⟨W.heap.size, 7, none⟩ a7 = V ∧ V.heap[W.heap.size]? = some (.cells #[a0, a1, a2, a3, a4, a5, a6, a7] t (0, 0)) ∧ Below W.heap.size W V ∧ V.heap.size = W.heap.size + 1 := by
  refine ⟨_, rfl, ?_, ?_, ?_⟩
  · have h := heap_alloc_new W (.cells #[b0, b1, b2, b3, b4, b5, b6, b7] t)
    have h0 := put8 (cs' := #[a0, b1, b2, b3, b4, b5, b6, b7]) h 0 a0 (by simp)
    have h1 := put8 (cs' := #[a0, a1, b2, b3, b4, b5, b6, b7]) h0 1 a1 (by simp)
    have h2 := put8 (cs' := #[a0, a1, a2, b3, b4, b5, b6, b7]) h1 2 a2 (by simp)
    have h3 := put8 (cs' := #[a0, a1, a2, a3, b4, b5, b6, b7]) h2 3 a3 (by simp)
    have h4 := put8 (cs' := #[a0, a1, a2, a3, a4, b5, b6, b7]) h3 4 a4 (by simp)
    have h5 := put8 (cs' := #[a0, a1, a2, a3, a4, a5, b6, b7]) h4 5 a5 (by simp)
    have h6 := put8 (cs' := #[a0, a1, a2, a3, a4, a5, a6, b7]) h5 6 a6 (by simp)
    have h7 := put8 (cs' := #[a0, a1, a2, a3, a4, a5, a6, a7]) h6 7 a7 (by simp)
    exact h7
  · have h : Below W.heap.size W (W.alloc (.cells #[b0, b1, b2, b3, b4, b5, b6, b7] t)) := (Below.refl _ _).alloc (Nat.le_refl _) _
    have k : ∀ {V : World}, Below W.heap.size W V → ∀ (i : Nat) (v : Value), Below W.heap.size W (V.setCell ⟨W.heap.size, i, none⟩ v) := fun hV i v => hV.setCell (p := ⟨W.heap.size, i, none⟩) (Nat.le_refl _) v
    exact k (k (k (k (k (k (k (k h 0 a0) 1 a1) 2 a2) 3 a3) 4 a4) 5 a5) 6 a6) 7 a7
  · rw [set_size, set_size, set_size, set_size, set_size, set_size, set_size, set_size]
    simp
section
variable {w w' : World} {D D' : Nat → Prop} {q : PrL} {nN nO nM nP nB nT nE n : Nat} {aT aE a : Option Addr}
theorem XI.mono (h : XI w D a n) (hd : ∀ b, D b → D' b) : XI w D' a n := ⟨fun j hj => by
  obtain ⟨b, o, e, h1, h2⟩ := h.at' j hj
  exact ⟨b, o, e, hd b h1, h2⟩⟩
theorem XB.mono (h : XB w D a n) (hd : ∀ b, D b → D' b) : XB w D' a n := ⟨fun j hj => by
  obtain ⟨b, o, e, h1, h2⟩ := h.at' j hj
  exact ⟨b, o, e, hd b h1, h2⟩⟩
theorem XR.mono (h : XR w D a n) (hd : ∀ b, D b → D' b) : XR w D' a n := ⟨fun k hk => by
  obtain ⟨b, o, e, h1, a1, n1, c1, h2, h3, h4, h5, h6⟩ := h.at' k hk
  exact ⟨b, o, e, h1, a1, n1, c1, h2, h3, h4, h5.mono hd, h6⟩⟩
theorem PX.mono (h : PX w D q nN nO nM nP nB) (hd : ∀ b, D b → D' b) : PX w D' q nN nO nM nP nB := ⟨h.n.mono hd, h.o.mono hd, h.m.mono hd, h.p'.mono hd, h.b.mono hd⟩
theorem FX.read (h : FX w D q nN nO nM nP nB aT nT aE nE) (sl sr : Int) (el : Bool) (hn : nN ≤ 1000000000) (hm : nM ≤ 1000000000) (hB : nB ≤ 1000000000) : ∃ N O M P B tr E, (N.length = nN ∧ O.length = nO ∧ M.length = nM ∧ P.length = nP ∧ B.length = nB ∧ tr.length = nT ∧ E.length = nE) ∧ PrX w ⟨sl, N, O, sr, M, P, B, el⟩ q ∧ PrS ⟨sl, N, O, sr, M, P, B, el⟩ ∧ IA w aT tr ∧ RwX w aE E ∧ ∀ e ∈ E, e.length ≤ 1000000000 := by
  obtain ⟨N, O, M, P, B, e1, e2, e3, e4, e5, h1, h2⟩ := h.px.read sl sr el hn hm hB
  obtain ⟨tr, e6, h3⟩ := h.t.read
  obtain ⟨E, e7, h4, h5⟩ := h.e.read
  exact ⟨N, O, M, P, B, tr, E, ⟨e1, e2, e3, e4, e5, e6, e7⟩, h1, h2, h3, h4, h5⟩
end
/-- What New hands out. -/
def FnS (A : Nat → Addr) (lo : Nat) (p : Prg) (sy bef : Int) (tr : List Int) (E : List (List Int)) (fv ev : Value) (w' : World) : Prop :=
  (∃ k, nwE p sy bef tr E = some k ∧ fv = .pointer none ∧ ev = .iface 129 (.pointer (some (A k)))) ∨ (nwE p sy bef tr E = none ∧ FlS p tr E ∧ ∃ (q2 : PrL) (f : FlL), fv = .pointer (some ⟨f.X, 0, none⟩) ∧ ev = .nilIface ∧ ∀ V : World, Agree w' V lo → FlA V p q2 (decide (0 ≤ bef)) tr E bef f)
theorem FNewS.fns {A : Nat → Addr} {w w' : World} {p : Prg} {sy bef : Int} {tr : List Int} {E : List (List Int)} {e : Ending} (h : FNewS A w p sy bef tr E e w') : ∃ fv ev, e = .returned (.tuple #[fv, ev]) ∧ Hid (FnS A w.heap.size p sy bef tr E fv ev w') ∧ Below w.heap.size w w' := by
  obtain ⟨hb, ⟨k, h1, rfl⟩ | ⟨h1, h2, q2, f, rfl, h3⟩⟩ := h
  · exact ⟨_, _, rfl, hid0 (.inl ⟨k, h1, rfl, rfl⟩), hb⟩
  · exact ⟨_, _, rfl, hid0 (.inr ⟨h1, h2, q2, f, rfl, rfl, h3⟩), hb⟩
/-- What the document's New hands out. -/
theorem RfN.some {w w' : World} {p : Prg} {q : PrL} {sy bef : Int} {tr : List Int} {aT : Option Addr} {cT : Nat} {E : List (List Int)} {aE : Option Addr} {cE : Nat} {e : Ending} (h : RfN w p q sy bef tr aT cT E aE cE e w') {k : Nat} (hk : nwE p sy bef tr E = some k) : e = .returned (.tuple #[.pointer none, .int .i64 ((k : Int) + 1)]) ∧ Below w.heap.size w w' := by
  obtain ⟨hb, ⟨j, h1, rfl⟩ | ⟨h1, _⟩⟩ := h
  · rw [hk] at h1
    injection h1 with h1
    subst h1
    exact ⟨rfl, hb⟩
  · rw [hk] at h1
    cases h1
theorem RfN.made {w w' : World} {p : Prg} {q : PrL} {sy bef : Int} {tr : List Int} {aT : Option Addr} {cT : Nat} {E : List (List Int)} {aE : Option Addr} {cE : Nat} {e : Ending} (h : RfN w p q sy bef tr aT cT E aE cE e w') (hk : nwE p sy bef tr E = none) : ∃ X : Nat, e = .returned (.tuple #[.pointer (Option.some ⟨X, 0, none⟩), .int .i64 0]) ∧ (RfA w' p q sy bef tr E ⟨X, aT, cT, aE, cE⟩ ∧ w.heap.size ≤ X) ∧ Below w.heap.size w w' := by
  obtain ⟨hb, ⟨j, h1, rfl⟩ | ⟨_, X, rfl, hX, h2⟩⟩ := h
  · rw [hk] at h1
    cases h1
  · exact ⟨X, rfl, ⟨h2, hX⟩, hb⟩
/-- Both of what the document's New hands out. -/
theorem RfN.both {w w' : World} {p : Prg} {q : PrL} {sy bef : Int} {tr : List Int} {aT : Option Addr} {cT : Nat} {E : List (List Int)} {aE : Option Addr} {cE : Nat} {e : Ending} (h : RfN w p q sy bef tr aT cT E aE cE e w') : ∃ dv mz, e = .returned (.tuple #[dv, .int .i64 mz]) ∧ Hid ((∃ k : Nat, nwE p sy bef tr E = Option.some k ∧ dv = .pointer none ∧ mz = (k : Int) + 1) ∨ (nwE p sy bef tr E = none ∧ ∃ X : Nat, dv = .pointer (Option.some ⟨X, 0, none⟩) ∧ mz = 0 ∧ RfA w' p q sy bef tr E ⟨X, aT, cT, aE, cE⟩)) ∧ Below w.heap.size w w' := by
  obtain ⟨hb, ⟨j, h1, rfl⟩ | ⟨h1, X, rfl, _, h2⟩⟩ := h
  · exact ⟨_, _, rfl, hid0 (.inl ⟨j, h1, rfl, rfl⟩), hb⟩
  · exact ⟨_, _, rfl, hid0 (.inr ⟨h1, X, rfl, rfl, h2⟩), hb⟩
theorem RfA.kpd {w w' : World} {D : Nat → Prop} {p : Prg} {q : PrL} {sy bef : Int} {tr : List Int} {E : List (List Int)} {g : RfL} (h : RfA w p q sy bef tr E g) (hk : Kpd w w' D) (hd : ¬ D g.X) (h1 : PrA w' p q) (h2 : IA w' g.aT tr) (h3 : RwA w' g.aE E) : RfA w' p q sy bef tr E g := by
  obtain ⟨⟨k0, k1, k2, k3⟩, k4, k5, k6, k7⟩ := h.pc
  exact ⟨Nat.lt_of_lt_of_le h.lt hk.size, ⟨⟨hk.cell hd k0, hk.cell hd k1, hk.cell hd k2, hk.cell hd k3⟩, hk.cell hd k4, hk.cell hd k5, hk.cell hd k6, hk.cell hd k7⟩, hk.cell hd h.c8, hk.cell hd h.c9, hk.cell hd h.c10, hk.cell hd h.c11, h1, h2, h3⟩
/-- What the law is handed. -/
structure FpH (w : World) (p : Prg) (q : PrL) (tr : List Int) (aT : Option Addr) (cT : Nat) (E : List (List Int)) (aE : Option Addr) (T : List (List Int × List Int)) (aX : Option Addr) : Prop where
  ps : PrS p
  po : p.O.length ≤ 1000000000
  pp : p.P.length ≤ 1000000000
  pr : PrX w p q
  pb : q.aB = none → q.cB = 0
  ta : IA w aT tr
  tn : aT = none → cT = 0
  tl : tr.length ≤ 1000000000
  ea : RwX w aE E
  el : ∀ e ∈ E, e.length ≤ 1000000000
  ell : E.length ≤ 1000000000
  xa : TxX w aX T
  xl : ∀ t ∈ T, t.1.length ≤ 100000000 ∧ t.2.length ≤ 100000000 ∧ ∀ c ∈ t.1, inI c
  xll : T.length ≤ 1000000000
theorem Kpd.below {w a b : World} {D : Nat → Prop} {lo : Nat} (h : Below lo w a) (k : Kpd a b D) (hl : lo ≤ a.heap.size) (hd : ∀ b, D b → lo ≤ b) : Below lo w b :=
  h.trans ⟨k.os, k.tape, k.output, k.size, fun i hi => k.oth i (by omega) (fun h => by have := hd i h; omega)⟩
theorem Kpd.agree {w a b : World} {D : Nat → Prop} {lo : Nat} (h : Agree w a lo) (k : Kpd a b D) (hd : ∀ b, D b → b < lo) : Agree w b lo :=
  ⟨Nat.le_trans h.size k.size, fun i h1 h2 => (k.oth i (Nat.lt_of_lt_of_le h2 h.size) (fun h => by have := hd i h; omega)).trans (h.block i h1 h2)⟩
end Go.Proofs.YtekimkdaoblcgaaDoor
namespace Go.Proofs.YtekimkdaoblcgaaDoor
open Go.RowKit Go.Shelf Go.Maps
set_option maxRecDepth 100000 in
set_option maxHeartbeats 16000000 in
theorem filterPlays_any (A : Nat → Addr) (p : Prg) (q : PrL) (sy bef : Int) (tr : List Int) (aT : Option Addr) (cT : Nat) (E : List (List Int)) (aE : Option Addr) (cE : Nat) (T : List (List Int × List Int)) (aX : Option Addr) (cX : Nat) (w : World) (h : FpH w p q tr aT cT E aE T aX) (hS : Sents w A) :
    Calls Tryd.prog 4 #[.agg #[.int .i64 p.sl, .slice q.aN p.N.length q.cN, .slice q.aO p.O.length q.cO, .int .i64 p.sr, .slice q.aM p.M.length q.cM, .slice q.aP p.P.length q.cP, .slice q.aB p.B.length q.cB, .bool p.el, .int .i64 sy, .int .i64 bef, .slice aT tr.length cT, .slice aE E.length cE, .slice aX T.length cX]] w fun e w' => e = .returned (.bool true) ∧ Below w.heap.size w w' := by
  obtain ⟨w0, hw0, b0, r0⟩ : ∃ w0, w.alloc (.cells #[.int .i64 p.sl, .slice q.aN p.N.length q.cN, .slice q.aO p.O.length q.cO, .int .i64 p.sr, .slice q.aM p.M.length q.cM, .slice q.aP p.P.length q.cP, .slice q.aB p.B.length q.cB, .bool p.el, .int .i64 sy, .int .i64 bef, .slice aT tr.length cT, .slice aE E.length cE, .slice aX T.length cX] 31) = w0 ∧ Below w.heap.size w w0 ∧ w0.heap[w.heap.size]? = some (.cells #[.int .i64 p.sl, .slice q.aN p.N.length q.cN, .slice q.aO p.O.length q.cO, .int .i64 p.sr, .slice q.aM p.M.length q.cM, .slice q.aP p.P.length q.cP, .slice q.aB p.B.length q.cB, .bool p.el, .int .i64 sy, .int .i64 bef, .slice aT tr.length cT, .slice aE E.length cE, .slice aX T.length cX] 31 (0, 0)) := ⟨_, rfl, (Below.refl _ _).alloc (Nat.le_refl _) _, heap_alloc_new _ _⟩
  have s0 : w0.heap.size = w.heap.size + 1 := by rw [← hw0]; simp
  have HC0 : Hid (∀ V : World, Below w0.heap.size w0 V → V.cell? ⟨w.heap.size, 0, none⟩ = some (.int .i64 p.sl) ∧ V.cell? ⟨w.heap.size, 1, none⟩ = some (.slice q.aN p.N.length q.cN) ∧ V.cell? ⟨w.heap.size, 2, none⟩ = some (.slice q.aO p.O.length q.cO) ∧ V.cell? ⟨w.heap.size, 3, none⟩ = some (.int .i64 p.sr) ∧ V.cell? ⟨w.heap.size, 4, none⟩ = some (.slice q.aM p.M.length q.cM) ∧ V.cell? ⟨w.heap.size, 5, none⟩ = some (.slice q.aP p.P.length q.cP) ∧ V.cell? ⟨w.heap.size, 6, none⟩ = some (.slice q.aB p.B.length q.cB) ∧ V.cell? ⟨w.heap.size, 7, none⟩ = some (.bool p.el) ∧ V.cell? ⟨w.heap.size, 8, none⟩ = some (.int .i64 sy) ∧ V.cell? ⟨w.heap.size, 9, none⟩ = some (.int .i64 bef) ∧ V.cell? ⟨w.heap.size, 10, none⟩ = some (.slice aT tr.length cT) ∧ V.cell? ⟨w.heap.size, 11, none⟩ = some (.slice aE E.length cE) ∧ V.cell? ⟨w.heap.size, 12, none⟩ = some (.slice aX T.length cX)) := hid0 (fun V hV => by
    have hr := (hV.block w.heap.size (by omega)).trans r0
    refine ⟨?_, ?_, ?_, ?_, ?_, ?_, ?_, ?_, ?_, ?_, ?_, ?_, ?_⟩ <;> (rw [cell_of_row _ _ _ _ _ _ hr]; rfl))
  have HIn : Hid (∀ V : World, Below w0.heap.size w0 V → PrX V p q ∧ IA V aT tr ∧ RwX V aE E ∧ TxX V aX T ∧ Sents V A ∧ Below w.heap.size w V) := hid0 (fun V hV => by
    have hq := b0.trans (hV.mono (by omega))
    exact ⟨h.pr.past hq, h.ta.past hq, h.ea.past hq, h.xa.past hq, hS.below hq, hq⟩)
  have HH := hid0 h
  have hell := h.ell
  have htl := h.tl
  have hpn := @run_eql_pointer_nil Tryd.prog
  have HPg := hid0 (pairing_any p.sl p.sr p.N p.O p.M p.P p.B p.el q.aN q.aO q.aM q.aP q.aB q.cN q.cO q.cM q.cP q.cB w0 h.ps (HIn.out w0 (Below.refl _ _)).1 h.po h.pp h.pb)
  obtain ⟨x0, x1, x2, x3, x4, x5, x6, x7, x8, x9, x10, x11, x12⟩ := HC0.out w0 (Below.refl _ _)
  clear h hS b0 r0 s0
  go_enter Tryd.func4, Tryd.ntmps4
  go_upto_region 2 with (go_at_call 12; go_loud ((
    refine HPg.out.mono ?_
    rintro e W1 ⟨G1, G2, G3, G4, g7, d1, d2, d3, d4, c7, rfl, hm1, b1⟩
    dsimp only
    have HM1 : Hid (PgM W1 w0.heap.size p G1 G2 G3 G4 g7 d1 d2 d3 d4 c7) := hid0 hm1
    have HB1 := hid0 b1
    obtain ⟨V1, hV1, rV1, bV1, zV1⟩ : ∃ V1, W1.alloc (.cells #[.int .i64 p.sl, .slice (some ⟨G1, 0, none⟩) p.N.length d1, .slice (some ⟨G2, 0, none⟩) p.O.length d2, .int .i64 p.sr, .slice (some ⟨G3, 0, none⟩) p.M.length d3, .slice (some ⟨G4, 0, none⟩) p.P.length d4, .slice (some ⟨g7, 0, none⟩) p.B.length c7, .bool p.el] 27) = V1 ∧ V1.heap[W1.heap.size]? = some (.cells #[.int .i64 p.sl, .slice (some ⟨G1, 0, none⟩) p.N.length d1, .slice (some ⟨G2, 0, none⟩) p.O.length d2, .int .i64 p.sr, .slice (some ⟨G3, 0, none⟩) p.M.length d3, .slice (some ⟨G4, 0, none⟩) p.P.length d4, .slice (some ⟨g7, 0, none⟩) p.B.length c7, .bool p.el] 27 (0, 0)) ∧ Below W1.heap.size W1 V1 ∧ V1.heap.size = W1.heap.size + 1 := ⟨_, rfl, heap_alloc_new _ _, (Below.refl _ _).alloc (Nat.le_refl _) _, by simp⟩
    have HV1 := hid0 (And.intro rV1 (And.intro bV1 zV1))
    clear hm1 b1 HPg rV1 bV1 zV1 x0 x1 x2 x3 x4 x5 x6 x7 x8 x9 x10 x11 x12)))
  try rw [hV1]
  clear hw0 hV1
  have HT1 : Hid (Below w0.heap.size w0 V1) := hid0 (Below.later HB1.out HV1.out.2.1)
  have HCP : Hid (∀ V : World, V.heap[W1.heap.size]? = V1.heap[W1.heap.size]? → V.cell? ⟨W1.heap.size, 0, none⟩ = some (.int .i64 p.sl) ∧ V.cell? ⟨W1.heap.size, 1, none⟩ = some (.slice (some ⟨G1, 0, none⟩) p.N.length d1) ∧ V.cell? ⟨W1.heap.size, 2, none⟩ = some (.slice (some ⟨G2, 0, none⟩) p.O.length d2) ∧ V.cell? ⟨W1.heap.size, 3, none⟩ = some (.int .i64 p.sr) ∧ V.cell? ⟨W1.heap.size, 4, none⟩ = some (.slice (some ⟨G3, 0, none⟩) p.M.length d3) ∧ V.cell? ⟨W1.heap.size, 5, none⟩ = some (.slice (some ⟨G4, 0, none⟩) p.P.length d4) ∧ V.cell? ⟨W1.heap.size, 6, none⟩ = some (.slice (some ⟨g7, 0, none⟩) p.B.length c7) ∧ V.cell? ⟨W1.heap.size, 7, none⟩ = some (.bool p.el)) := hid0 (fun V hV => by
    have hr := hV.trans HV1.out.1
    refine ⟨?_, ?_, ?_, ?_, ?_, ?_, ?_, ?_⟩ <;> (rw [cell_of_row _ _ _ _ _ _ hr]; rfl))
  have HM2 := hid0 (marked_any tr aT cT V1 htl (HIn.out V1 HT1.out).2.1 HH.out.tn)
  obtain ⟨x0, x1, x2, x3, x4, x5, x6, x7, x8, x9, x10, x11, x12⟩ := HC0.out V1 HT1.out
  go_upto_region 3 with (go_at_call 13; go_loud ((
    refine HM2.out.mono ?_
    rintro e W2 ⟨gT, cT', rfl, hm2, b2⟩
    have HK2 := hid0 hm2
    have HB2 := hid0 b2
    have HT2 : Hid (Below w0.heap.size w0 W2) := hid0 (Below.later HT1.out b2)
    clear hm2 b2 HM2)))
  clear x0 x1 x2 x3 x4 x5 x6 x7 x8 x9 x10 x11 x12
  have HM3 := hid0 (rows16_any E aE cE W2 hell HH.out.el (HIn.out W2 HT2.out).2.2.1)
  obtain ⟨x0, x1, x2, x3, x4, x5, x6, x7, x8, x9, x10, x11, x12⟩ := HC0.out W2 HT2.out
  go_upto_region 4 with (go_at_call 14; go_loud ((
    refine HM3.out.mono ?_
    rintro e W3 ⟨gE, cE', rfl, hm3, b3⟩
    have HK3 := hid0 hm3
    have HB3 := hid0 b3
    have HT3 : Hid (Below w0.heap.size w0 W3) := hid0 (Below.later HT2.out b3)
    clear hm3 b3 HM3)))
  clear x0 x1 x2 x3 x4 x5 x6 x7 x8 x9 x10 x11 x12
  have HS3 : Hid (W1.heap.size < V1.heap.size ∧ V1.heap.size ≤ W2.heap.size ∧ W2.heap.size ≤ W3.heap.size ∧ w0.heap.size ≤ W1.heap.size) := hid0 ⟨by have := HV1.out.2.2; omega, HB2.out.size, HB3.out.size, HB1.out.size⟩
  have HVW : Hid (Below V1.heap.size V1 W3) := hid0 (Below.later HB2.out HB3.out)
  have HP3 : Hid (PgM W3 w0.heap.size p G1 G2 G3 G4 g7 d1 d2 d3 d4 c7) := hid0 ((HM1.out.past HV1.out.2.1).past HVW.out)
  have HK4 : Hid (MkL W3 V1.heap.size gT cT' tr) := hid0 (HK2.out.past HB3.out)
  obtain ⟨D, hD⟩ : ∃ D : Nat → Prop, D = fun b => (w0.heap.size ≤ b ∧ b < W1.heap.size) ∨ (V1.heap.size ≤ b ∧ b < W3.heap.size) := ⟨_, rfl⟩
  have HD : Hid (∀ b, D b → w0.heap.size ≤ b ∧ b ≠ W1.heap.size ∧ b < W3.heap.size) := hid0 (fun b hb => by have h3 := HS3.out; rw [hD] at hb; rcases hb with hb | hb <;> omega)
  have HF3 : Hid (FX W3 D ⟨some ⟨G1, 0, none⟩, some ⟨G2, 0, none⟩, some ⟨G3, 0, none⟩, some ⟨G4, 0, none⟩, some ⟨g7, 0, none⟩, d1, d2, d3, d4, c7⟩ p.N.length p.O.length p.M.length p.P.length p.B.length (some ⟨gT, 0, none⟩) tr.length (some ⟨gE, 0, none⟩) E.length) := hid0 (by
    have hx1 := ((HM1.out.px HH.out.ps (Nat.le_refl _)).past HV1.out.2.1).past HVW.out
    refine ⟨hx1.mono (fun b hb => by rw [hD]; exact .inl hb), HK4.out.xi (by rw [hD]; exact .inr ⟨HK4.out.ty.1, HK4.out.ty.2.1⟩), (HK3.out.xr (Nat.le_refl _) HH.out.el).mono (fun b hb => by rw [hD]; have h3 := HS3.out; exact .inr (by omega))⟩)
  have HNw : Hid (Calls Tryd.prog 6 #[.agg #[.int .i64 p.sl, .slice (some ⟨G1, 0, none⟩) p.N.length d1, .slice (some ⟨G2, 0, none⟩) p.O.length d2, .int .i64 p.sr, .slice (some ⟨G3, 0, none⟩) p.M.length d3, .slice (some ⟨G4, 0, none⟩) p.P.length d4, .slice (some ⟨g7, 0, none⟩) p.B.length c7, .bool p.el], .int .i64 sy, .int .i64 bef, .slice (some ⟨gT, 0, none⟩) tr.length cT', .slice (some ⟨gE, 0, none⟩) E.length cE'] W3 fun e w' => ∃ fv ev, e = .returned (.tuple #[fv, ev]) ∧ Hid (FnS A W3.heap.size p sy bef tr E fv ev w') ∧ Below W3.heap.size W3 w') := hid0 ((fnewS_any A p ⟨some ⟨G1, 0, none⟩, some ⟨G2, 0, none⟩, some ⟨G3, 0, none⟩, some ⟨G4, 0, none⟩, some ⟨g7, 0, none⟩, d1, d2, d3, d4, c7⟩ sy bef tr (some ⟨gT, 0, none⟩) cT' E (some ⟨gE, 0, none⟩) cE' W3 HH.out.ps HP3.out.prx.pra HK4.out.ia htl HK3.out.rwx.rwc.rwa HH.out.el (HIn.out W3 HT3.out).2.2.2.2.1).mono (fun _ _ hh => hh.fns))
  obtain ⟨x0, x1, x2, x3, x4, x5, x6, x7, x8, x9, x10, x11, x12⟩ := HC0.out W3 HT3.out
  obtain ⟨y0, y1, y2, y3, y4, y5, y6, y7⟩ := HCP.out W3 (HVW.out.block _ HS3.out.1)
  clear hD HK2 HM1 HB1 HB2 HB3 HT1 HT2
  go_upto_region 5 with (go_at_call 6; go_loud ((
    refine HNw.out.mono ?_
    rintro e W4 ⟨fv, ev, rfl, HF4, b4⟩
    have HB4 := hid0 b4
    have HT4 : Hid (Below w0.heap.size w0 W4) := hid0 (Below.later HT3.out b4)
    clear b4 HNw)))
  clear x0 x1 x2 x3 x4 x5 x6 x7 x8 x9 x10 x11 x12 y0 y1 y2 y3 y4 y5 y6 y7
  obtain ⟨x0, x1, x2, x3, x4, x5, x6, x7, x8, x9, x10, x11, x12⟩ := HC0.out W4 HT4.out
  have HBx : Hid (∀ V : World, Below W4.heap.size W4 V → V.heap[W1.heap.size]? = V1.heap[W1.heap.size]?) := hid0 (fun V hV => by
    have h3 := HS3.out
    exact ((Below.later HB4.out hV).block _ (by omega)).trans (HVW.out.block _ h3.1))
  rcases HF4.out with hF | hF
  · clear HF4
    obtain ⟨k, hk, rfl, rfl⟩ := hF
    have HKn := hid0 hk
    have HRn : Hid (Calls Tryd.prog 15 #[.agg #[.int .i64 p.sl, .slice q.aN p.N.length q.cN, .slice q.aO p.O.length q.cO, .int .i64 p.sr, .slice q.aM p.M.length q.cM, .slice q.aP p.P.length q.cP, .slice q.aB p.B.length q.cB, .bool p.el], .int .i64 sy, .int .i64 bef, .slice aT tr.length cT, .slice aE E.length cE] W4 fun e w' => e = .returned (.tuple #[.pointer none, .int .i64 ((k : Int) + 1)]) ∧ Below W4.heap.size W4 w') := hid0 ((refFNew_any p q sy bef tr aT cT E aE cE W4 HH.out.ps (HIn.out W4 HT4.out).1.pra (HIn.out W4 HT4.out).2.1 htl (HIn.out W4 HT4.out).2.2.1.rwc.rwa HH.out.el).mono (fun _ _ hh => hh.some hk))
    have HNu : Hid (∀ V : World, Below w0.heap.size w0 V → Calls Tryd.prog 9 #[.iface 129 (.pointer (some (A k)))] V fun e w' => e = .returned (.int .i64 ((k : Int) + 1)) ∧ w' = V) := hid0 (fun V hV => numE (HIn.out V hV).2.2.2.2.1 hk)
    have hk4 : (k : Int) ≤ 4 := by rcases nwE_val hk with rfl | rfl | rfl <;> omega
    clear hk
    go_upto_region 6 with (go_at_call 15; go_loud ((
        refine HRn.out.mono ?_
        rintro e W5 ⟨rfl, b5⟩
        have HB5 := hid0 b5
        have HT5 : Hid (Below w0.heap.size w0 W5) := hid0 (Below.later HT4.out b5)
        clear b5 HRn)))
    clear x0 x1 x2 x3 x4 x5 x6 x7 x8 x9 x10 x11 x12
    obtain ⟨x0, x1, x2, x3, x4, x5, x6, x7, x8, x9, x10, x11, x12⟩ := HC0.out W5 HT5.out
    obtain ⟨y0, y1, y2, y3, y4, y5, y6, y7⟩ := HCP.out W5 (HBx.out W5 HB5.out)
    have HP5 : Hid (∀ V : World, Below W5.heap.size W5 V → PgM V w0.heap.size p G1 G2 G3 G4 g7 d1 d2 d3 d4 c7 ∧ MkL V V1.heap.size gT cT' tr ∧ RkL V W2.heap.size gE cE' E ∧ FX V D ⟨some ⟨G1, 0, none⟩, some ⟨G2, 0, none⟩, some ⟨G3, 0, none⟩, some ⟨G4, 0, none⟩, some ⟨g7, 0, none⟩, d1, d2, d3, d4, c7⟩ p.N.length p.O.length p.M.length p.P.length p.B.length (some ⟨gT, 0, none⟩) tr.length (some ⟨gE, 0, none⟩) E.length) := hid0 (fun V hV => by
      have hb := Below.later (Below.later HB4.out HB5.out) hV
      exact ⟨HP3.out.past hb, HK4.out.past hb, HK3.out.past hb, HF3.out.past hb⟩)
    have HWh := hid0 (whole_any p.sl p.sr p.N p.O p.M p.P p.B p.el q.aN q.aO q.aM q.aP q.aB q.cN q.cO q.cM q.cP q.cB w0.heap.size G1 G2 G3 G4 g7 d1 d2 d3 d4 c7 W5 HH.out.ps (HP5.out W5 (Below.refl _ _)).1 (HIn.out W5 HT5.out).1 HH.out.po HH.out.pp)
    go_upto_region 7 with (go_at_call 16; go_loud ((
        refine HWh.out.mono ?_
        rintro e W6 ⟨rfl, b6⟩
        have HB6 := hid0 b6
        have HT6 : Hid (Below w0.heap.size w0 W6) := hid0 (Below.later HT5.out b6)
        clear b6 HWh)))
    clear x0 x1 x2 x3 x4 x5 x6 x7 x8 x9 x10 x11 x12 y0 y1 y2 y3 y4 y5 y6 y7
    obtain ⟨x0, x1, x2, x3, x4, x5, x6, x7, x8, x9, x10, x11, x12⟩ := HC0.out W6 HT6.out
    have HSt : Hid (Calls Tryd.prog 17 #[.slice (some ⟨gT, 0, none⟩) tr.length cT', .slice aT tr.length cT] W6 fun e w' => e = .returned (.bool true) ∧ ∃ m, w' = W6.drewN m) := hid0 (by
      have hx := still_any tr tr V1.heap.size gT cT' aT cT W6 htl (HP5.out W6 HB6.out).2.1 (HIn.out W6 HT6.out).2.1
      rw [decide_eq_true rfl] at hx
      exact hx)
    have HSy : Hid (∀ n, Calls Tryd.prog 18 #[.slice (some ⟨gE, 0, none⟩) E.length cE', .slice aE E.length cE] (W6.drewN n) fun e w' => e = .returned (.bool true) ∧ ∃ m, w' = (W6.drewN n).drewN m) := hid0 (fun n => stay_any E W2.heap.size gE cE' aE cE (W6.drewN n) hell HH.out.el ((HP5.out W6 HB6.out).2.2.1.past (below_drew' (Below.refl _ _) n)) ((HIn.out W6 HT6.out).2.2.1.past (below_drew' (Below.refl _ _) n)))
    go_upto_region 8 with (go_at_call 17; go_loud ((
        refine HSt.out.mono ?_
        rintro e W7 ⟨rfl, m7, rfl⟩
        clear HSt)))
    go_upto_region 9 with (go_at_call 18; go_loud ((
        refine (HSy.out m7).mono ?_
        rintro e W8 ⟨rfl, m8, rfl⟩
        clear HSy)))
    have HT8 : Hid (Below w0.heap.size w0 (W6.drewN (m7 + m8))) := hid0 (below_drew' HT6.out _)
    have HB8 : Hid (Below W5.heap.size W5 (W6.drewN (m7 + m8))) := hid0 (below_drew' HB6.out _)
    go_upto_region 11 with (go_at_call 9; go_loud ((
        refine (HNu.out _ HT8.out).mono ?_
        rintro e W9 ⟨rfl, rfl⟩
        clear HNu)))
    clear x0 x1 x2 x3 x4 x5 x6 x7 x8 x9 x10 x11 x12
    generalize W6.drewN (m7 + m8) = W9 at *
    obtain ⟨y0, y1, y2, y3, y4, y5, y6, y7⟩ := HCP.out W9 (HBx.out W9 (Below.later HB5.out HB8.out))
    have HWr := hid0 (wreck_any p.sl p.sr p.el p.N.length p.O.length p.M.length p.P.length p.B.length tr.length E.length d1 d2 d3 d4 c7 _ _ _ _ _ (some ⟨gT, 0, none⟩) (some ⟨gE, 0, none⟩) D W9 (fun b hb => by have h1 := HD.out b hb; have h2 := HB4.out.size; have h3 := HB5.out.size; have h4 := HB8.out.size; omega) (HP5.out W9 HB8.out).2.2.2 HH.out.ps.n HH.out.po HH.out.ps.m HH.out.pp HH.out.ps.b)
    go_upto_region 12 with (go_at_call 19; go_loud ((
        refine HWr.out.mono ?_
        rintro e Wb ⟨rfl, hfb, hkb⟩
        have HFb := hid0 hfb
        have HKb := hid0 hkb
        clear hfb hkb HWr)))
    clear y0 y1 y2 y3 y4 y5 y6 y7
    obtain ⟨F, hF⟩ : ∃ F : World → Prop, F = fun V => FX V D ⟨some ⟨G1, 0, none⟩, some ⟨G2, 0, none⟩, some ⟨G3, 0, none⟩, some ⟨G4, 0, none⟩, some ⟨g7, 0, none⟩, d1, d2, d3, d4, c7⟩ p.N.length p.O.length p.M.length p.P.length p.B.length (some ⟨gT, 0, none⟩) tr.length (some ⟨gE, 0, none⟩) E.length := ⟨_, rfl⟩
    have HFI : Hid (∀ V, F V → XI V D (some ⟨gT, 0, none⟩) tr.length ∧ XR V D (some ⟨gE, 0, none⟩) E.length) := hid0 (fun V hV => by rw [hF] at hV; exact ⟨hV.t, hV.e⟩)
    have HFS : Hid (∀ (V : World) (a : Addr) (z0 z : Int), F V → V.cell? a = some (.int .i64 z0) → F (V.setCell a (.int .i64 z))) := hid0 (fun V a z0 z hV ha => by rw [hF] at hV ⊢; exact hV.setI ha z)
    have HFX : Hid (∀ V, F V → FX V D ⟨some ⟨G1, 0, none⟩, some ⟨G2, 0, none⟩, some ⟨G3, 0, none⟩, some ⟨G4, 0, none⟩, some ⟨g7, 0, none⟩, d1, d2, d3, d4, c7⟩ p.N.length p.O.length p.M.length p.P.length p.B.length (some ⟨gT, 0, none⟩) tr.length (some ⟨gE, 0, none⟩) E.length) := hid0 (fun V hV => by rw [hF] at hV; exact hV)
    replace HFb : Hid (F Wb) := hid0 (by rw [hF]; exact HFb.out)
    clear hF
    go_wp2
    go_loopw [13] (fun x wr => ∃ i : Nat, i ≤ tr.length ∧ x = .int .i64 (i : Int) ∧ Hid (F wr) ∧ Hid (Kpd W9 wr D)) (fun x _ => tr.length - (intOf x).toNat)
    case atStart => exact ⟨0, Nat.zero_le _, rfl, HFb, HKb⟩
    case round =>
      clear HFb HKb
      obtain ⟨i, hi, rfl, HFb, HKb⟩ := hrel
      by_cases hlt : i < tr.length
      · have hiI : (i : Int) < (tr.length : Int) := by omega
        have hiI0 : (0 : Int) ≤ (i : Int) := by omega
        obtain ⟨b1, o1, e1, hd, _, ⟨z, m1⟩, f1⟩ := (HFI.out wr HFb.out).1.at' i hlt
        injection e1 with e1
        injection e1 with e11 e12
        subst e11 e12
        rw [Nat.zero_add] at m1 f1
        have HF2 : Hid (F (wr.setCell ⟨gT, i, none⟩ (.int .i64 (i : Int)))) := hid0 (HFS.out wr _ z _ HFb.out m1)
        have HK2 : Hid (Kpd W9 (wr.setCell ⟨gT, i, none⟩ (.int .i64 (i : Int))) D) := hid0 (HKb.out.trans (Kpd.set _ hd _ _))
        clear HFb HKb hd
        go_wp2
        go_roundw
        case rel => exact ⟨i + 1, hlt, by go_num, HF2, HK2⟩
        case measure => simp [intOf]; omega
      · have hiI : ¬ (i : Int) < (tr.length : Int) := by omega
        clear hi hlt
        go_wp2
        go_loopw [14, 15] (fun x _ wr => ∃ i : Nat, i ≤ E.length ∧ x = .int .i64 (i : Int) ∧ Hid (F wr) ∧ Hid (Kpd W9 wr D)) (fun x _ _ => E.length - (intOf x).toNat)
        case atStart => exact ⟨0, Nat.zero_le _, rfl, HFb, HKb⟩
        case round =>
          clear HFb HKb
          obtain ⟨i2, hi, rfl, HFb, HKb⟩ := hrel
          by_cases hlt : i2 < E.length
          · have hiI2 : (i2 : Int) < (E.length : Int) := by omega
            have hiI20 : (0 : Int) ≤ (i2 : Int) := by omega
            obtain ⟨b1, o1, e1, _, a1, n1, c1, m1, hn1, _, hxi, _⟩ := (HFI.out wr HFb.out).2.at' i2 hlt
            injection e1 with e1
            injection e1 with e11 e12
            subst e11 e12
            rw [Nat.zero_add] at m1
            have HXI := hid0 hxi
            have HD1 := hid0 m1
            clear hxi m1
            go_wp2
            go_loopw [15] (fun x wr => ∃ c : Nat, c ≤ n1 ∧ x = .int .i64 (c : Int) ∧ Hid (F wr) ∧ Hid (Kpd W9 wr D) ∧ Hid (wr.cell? ⟨gE, i2, none⟩ = some (.slice a1 n1 c1)) ∧ Hid (XI wr D a1 n1)) (fun x _ => n1 - (intOf x).toNat)
            case atStart => exact ⟨0, Nat.zero_le _, rfl, HFb, HKb, HD1, HXI⟩
            case round =>
              clear HFb HKb HD1 HXI
              obtain ⟨c, hc, rfl, HFb, HKb, HD1, HXI⟩ := hrel
              have m1 := HD1.out
              by_cases hcn : c < n1
              · have hcI : (c : Int) < (n1 : Int) := by omega
                have hcI0 : (0 : Int) ≤ (c : Int) := by omega
                obtain ⟨b2, o2, e2, hd, _, ⟨z, m2⟩, f2⟩ := HXI.out.at' c hcn
                have HF2 : Hid (F (wr.setCell ⟨b2, o2 + c, none⟩ (.int .i64 (65 + (i2 : Int))))) := hid0 (HFS.out wr _ z _ HFb.out m2)
                have HK2 : Hid (Kpd W9 (wr.setCell ⟨b2, o2 + c, none⟩ (.int .i64 (65 + (i2 : Int)))) D) := hid0 (HKb.out.trans (Kpd.set _ hd _ _))
                have HD2 := hid0 (cellS_setI m1 m2 (65 + (i2 : Int)))
                have HXI2 : Hid (XI (wr.setCell ⟨b2, o2 + c, none⟩ (.int .i64 (65 + (i2 : Int)))) D a1 n1) := hid0 (HXI.out.setI _ _)
                subst e2
                clear HFb HKb HD1 HXI hd
                go_wp2
                go_roundw
                case rel => exact ⟨c + 1, hcn, by go_num, HF2, HK2, HD2, HXI2⟩
                case measure => simp [intOf]; omega
              · have hcI : ¬ (c : Int) < (n1 : Int) := by omega
                go_wp2
                go_roundw
                case rel => exact ⟨i2 + 1, hlt, by go_num, HFb, HKb⟩
                case measure => simp [intOf]; omega
          · have hiI2 : ¬ (i2 : Int) < (E.length : Int) := by omega
            clear hi hlt
            obtain ⟨Wb, hWb⟩ : ∃ Wb, Wb = wr := ⟨_, rfl⟩
            have HTb : Hid (Below w0.heap.size w0 Wb) := hid0 (by rw [hWb]; exact HKb.out.below HT8.out HT8.out.size (fun b hb => (HD.out b hb).1))
            have HBb : Hid (Wb.heap[W1.heap.size]? = V1.heap[W1.heap.size]?) := hid0 (by
              rw [hWb]
              have h2 := HB4.out.size
              have h3 := HB5.out.size
              have h4 := HB8.out.size
              have h5 := HS3.out
              exact (HKb.out.oth _ (by omega) (fun hb => (HD.out _ hb).2.1 rfl)).trans (HBx.out W9 (Below.later HB5.out HB8.out)))
            replace HFb : Hid (F Wb) := hid0 (by rw [hWb]; exact HFb.out)
            subst hWb
            obtain ⟨x0, x1, x2, x3, x4, x5, x6, x7, x8, x9, x10, x11, x12⟩ := HC0.out Wb HTb.out
            go_upto_region 27 with (fail)
            clear x0 x1 x2 x3 x4 x5 x6 x7 x8 x9 x10 x11 x12
            obtain ⟨N', O', M', P', B', tr', E', ⟨lN, lO, lM, lP, lB, lT, lE⟩, hprx, hprs, hta, hea, hel⟩ := (HFX.out Wb HFb.out).read p.sl p.sr p.el HH.out.ps.n HH.out.ps.m HH.out.ps.b
            have HSv : Hid (∀ V : World, Below Wb.heap.size Wb V → (V.cell? ⟨W1.heap.size, 0, none⟩ = some (.int .i64 p.sl) ∧ V.cell? ⟨W1.heap.size, 1, none⟩ = some (.slice (some ⟨G1, 0, none⟩) p.N.length d1) ∧ V.cell? ⟨W1.heap.size, 2, none⟩ = some (.slice (some ⟨G2, 0, none⟩) p.O.length d2) ∧ V.cell? ⟨W1.heap.size, 3, none⟩ = some (.int .i64 p.sr) ∧ V.cell? ⟨W1.heap.size, 4, none⟩ = some (.slice (some ⟨G3, 0, none⟩) p.M.length d3) ∧ V.cell? ⟨W1.heap.size, 5, none⟩ = some (.slice (some ⟨G4, 0, none⟩) p.P.length d4) ∧ V.cell? ⟨W1.heap.size, 6, none⟩ = some (.slice (some ⟨g7, 0, none⟩) p.B.length c7) ∧ V.cell? ⟨W1.heap.size, 7, none⟩ = some (.bool p.el)) ∧ V.cell? ⟨w.heap.size, 8, none⟩ = some (.int .i64 sy) ∧ V.cell? ⟨w.heap.size, 9, none⟩ = some (.int .i64 bef)) := hid0 (fun V hV => by
              have hx := HC0.out V (Below.later HTb.out hV)
              exact ⟨HCP.out V ((hV.block _ (heap_lt (HBb.out.trans HV1.out.1))).trans HBb.out), hx.2.2.2.2.2.2.2.2.1, hx.2.2.2.2.2.2.2.2.2.1⟩)
            have HQ : Hid (∀ V : World, Below Wb.heap.size Wb V → PrX V ⟨p.sl, N', O', p.sr, M', P', B', p.el⟩ ⟨some ⟨G1, 0, none⟩, some ⟨G2, 0, none⟩, some ⟨G3, 0, none⟩, some ⟨G4, 0, none⟩, some ⟨g7, 0, none⟩, d1, d2, d3, d4, c7⟩ ∧ IA V (some ⟨gT, 0, none⟩) tr' ∧ RwX V (some ⟨gE, 0, none⟩) E' ∧ Sents V A ∧ Below w0.heap.size w0 V) := hid0 (fun V hV => by
              have hq := Below.later HTb.out hV
              exact ⟨hprx.past hV, hta.past hV, hea.past hV, (HIn.out V hq).2.2.2.2.1, hq⟩)
            have HPs := hid0 (show PrS ⟨p.sl, N', O', p.sr, M', P', B', p.el⟩ from hprs)
            have HEl' := hid0 hel
            have HPg2 : Hid (∀ V : World, Below Wb.heap.size Wb V → Calls Tryd.prog 12 #[.agg #[.int .i64 p.sl, .slice (some ⟨G1, 0, none⟩) p.N.length d1, .slice (some ⟨G2, 0, none⟩) p.O.length d2, .int .i64 p.sr, .slice (some ⟨G3, 0, none⟩) p.M.length d3, .slice (some ⟨G4, 0, none⟩) p.P.length d4, .slice (some ⟨g7, 0, none⟩) p.B.length c7, .bool p.el]] V fun e w' => ∃ H1 H2 H3 H4 h7 j1 j2 j3 j4 j7, e = .returned (.agg #[.int .i64 p.sl, .slice (some ⟨H1, 0, none⟩) p.N.length j1, .slice (some ⟨H2, 0, none⟩) p.O.length j2, .int .i64 p.sr, .slice (some ⟨H3, 0, none⟩) p.M.length j3, .slice (some ⟨H4, 0, none⟩) p.P.length j4, .slice (some ⟨h7, 0, none⟩) p.B.length j7, .bool p.el]) ∧ PgM w' V.heap.size ⟨p.sl, N', O', p.sr, M', P', B', p.el⟩ H1 H2 H3 H4 h7 j1 j2 j3 j4 j7 ∧ Below V.heap.size V w') := hid0 (fun V hV => by
              have hx := pairing_any p.sl p.sr N' O' M' P' B' p.el (some ⟨G1, 0, none⟩) (some ⟨G2, 0, none⟩) (some ⟨G3, 0, none⟩) (some ⟨G4, 0, none⟩) (some ⟨g7, 0, none⟩) d1 d2 d3 d4 c7 V HPs.out (HQ.out V hV).1 (by rw [lO]; exact HH.out.po) (by rw [lP]; exact HH.out.pp) (fun e => nomatch e)
              unfold PgR at hx
              dsimp only at hx
              rw [lN, lO, lM, lP, lB] at hx
              exact hx)
            have HMk2 : Hid (∀ V : World, Below Wb.heap.size Wb V → Calls Tryd.prog 13 #[.slice (some ⟨gT, 0, none⟩) tr.length cT'] V fun r w' => ∃ g c, r = .returned (.slice (some ⟨g, 0, none⟩) tr.length c) ∧ MkL w' V.heap.size g c tr' ∧ Below V.heap.size V w') := hid0 (fun V hV => by
              have hx := marked_any tr' (some ⟨gT, 0, none⟩) cT' V (by rw [lT]; exact htl) (HQ.out V hV).2.1 (fun e => nomatch e)
              rw [lT] at hx
              exact hx)
            have HRw2 : Hid (∀ V : World, Below Wb.heap.size Wb V → Calls Tryd.prog 14 #[.slice (some ⟨gE, 0, none⟩) E.length cE'] V fun r w' => ∃ g c, r = .returned (.slice (some ⟨g, 0, none⟩) E.length c) ∧ RkL w' V.heap.size g c E' ∧ Below V.heap.size V w') := hid0 (fun V hV => by
              have hx := rows16_any E' (some ⟨gE, 0, none⟩) cE' V (by rw [lE]; exact hell) HEl'.out (HQ.out V hV).2.2.1
              rw [lE] at hx
              exact hx)
            have HRn2 : Hid (∀ (V : World) (q' : PrL) (aT2 aE2 : Option Addr) (cT2 cE2 : Nat), PrA V ⟨p.sl, N', O', p.sr, M', P', B', p.el⟩ q' → IA V aT2 tr' → RwA V aE2 E' → Calls Tryd.prog 15 #[.agg #[.int .i64 p.sl, .slice q'.aN p.N.length q'.cN, .slice q'.aO p.O.length q'.cO, .int .i64 p.sr, .slice q'.aM p.M.length q'.cM, .slice q'.aP p.P.length q'.cP, .slice q'.aB p.B.length q'.cB, .bool p.el], .int .i64 sy, .int .i64 bef, .slice aT2 tr.length cT2, .slice aE2 E.length cE2] V fun e w' => ∃ dv mz, e = .returned (.tuple #[dv, .int .i64 mz]) ∧ Hid ((∃ k : Nat, nwE ⟨p.sl, N', O', p.sr, M', P', B', p.el⟩ sy bef tr' E' = some k ∧ dv = .pointer none ∧ mz = (k : Int) + 1) ∨ (nwE ⟨p.sl, N', O', p.sr, M', P', B', p.el⟩ sy bef tr' E' = none ∧ ∃ X : Nat, dv = .pointer (some ⟨X, 0, none⟩) ∧ mz = 0 ∧ RfA w' ⟨p.sl, N', O', p.sr, M', P', B', p.el⟩ q' sy bef tr' E' ⟨X, aT2, cT2, aE2, cE2⟩)) ∧ Below V.heap.size V w') := hid0 (fun V q' aT2 aE2 cT2 cE2 h1 h2 h3 => by
              have hx := (refFNew_any ⟨p.sl, N', O', p.sr, M', P', B', p.el⟩ q' sy bef tr' aT2 cT2 E' aE2 cE2 V HPs.out h1 h2 (by rw [lT]; exact htl) h3 HEl'.out).mono (fun _ _ hh => hh.both)
              dsimp only at hx
              rw [lN, lO, lM, lP, lB, lT, lE] at hx
              exact hx)
            have HNw2 : Hid (∀ V : World, Below Wb.heap.size Wb V → Calls Tryd.prog 6 #[.agg #[.int .i64 p.sl, .slice (some ⟨G1, 0, none⟩) p.N.length d1, .slice (some ⟨G2, 0, none⟩) p.O.length d2, .int .i64 p.sr, .slice (some ⟨G3, 0, none⟩) p.M.length d3, .slice (some ⟨G4, 0, none⟩) p.P.length d4, .slice (some ⟨g7, 0, none⟩) p.B.length c7, .bool p.el], .int .i64 sy, .int .i64 bef, .slice (some ⟨gT, 0, none⟩) tr.length cT', .slice (some ⟨gE, 0, none⟩) E.length cE'] V fun e w' => ∃ fv ev, e = .returned (.tuple #[fv, ev]) ∧ Hid (FnS A V.heap.size ⟨p.sl, N', O', p.sr, M', P', B', p.el⟩ sy bef tr' E' fv ev w') ∧ Below V.heap.size V w') := hid0 (fun V hV => by
              have hx := (fnewS_any A ⟨p.sl, N', O', p.sr, M', P', B', p.el⟩ ⟨some ⟨G1, 0, none⟩, some ⟨G2, 0, none⟩, some ⟨G3, 0, none⟩, some ⟨G4, 0, none⟩, some ⟨g7, 0, none⟩, d1, d2, d3, d4, c7⟩ sy bef tr' (some ⟨gT, 0, none⟩) cT' E' (some ⟨gE, 0, none⟩) cE' V HPs.out (HQ.out V hV).1.pra (HQ.out V hV).2.1 (by rw [lT]; exact htl) (HQ.out V hV).2.2.1.rwc.rwa HEl'.out (HQ.out V hV).2.2.2.1).mono (fun _ _ hh => hh.fns)
              dsimp only at hx
              rw [lN, lO, lM, lP, lB, lT, lE] at hx
              exact hx)
            clear hprx hprs hta hea hel lN lO lM lP lB lT lE
            refine wp_region_noPanic ?_
            refine wp_region_held_drew (S := (fun V => (V.cell? ⟨W1.heap.size, 0, none⟩ = some (.int .i64 p.sl) ∧ V.cell? ⟨W1.heap.size, 1, none⟩ = some (.slice (some ⟨G1, 0, none⟩) p.N.length d1) ∧ V.cell? ⟨W1.heap.size, 2, none⟩ = some (.slice (some ⟨G2, 0, none⟩) p.O.length d2) ∧ V.cell? ⟨W1.heap.size, 3, none⟩ = some (.int .i64 p.sr) ∧ V.cell? ⟨W1.heap.size, 4, none⟩ = some (.slice (some ⟨G3, 0, none⟩) p.M.length d3) ∧ V.cell? ⟨W1.heap.size, 5, none⟩ = some (.slice (some ⟨G4, 0, none⟩) p.P.length d4) ∧ V.cell? ⟨W1.heap.size, 6, none⟩ = some (.slice (some ⟨g7, 0, none⟩) p.B.length c7) ∧ V.cell? ⟨W1.heap.size, 7, none⟩ = some (.bool p.el)) ∧ V.cell? ⟨w.heap.size, 8, none⟩ = some (.int .i64 sy) ∧ V.cell? ⟨w.heap.size, 9, none⟩ = some (.int .i64 bef))) (by kernel_rfl) ?_ (fun hHeld => ?_)
            · exact HSv.out Wb (Below.refl _ _)
            refine tkV (i := 0) (d := some 135) (v := ?_) rfl (by kernel_rfl) (by kernel_rfl) (by kernel_rfl) rfl (fun _ _ _ h => h) (by rfl) ?_ (by assumption) ?_
            rotate_left
            · (intro w hSw; (try dsimp only at hSw); (try simp only [List.getElem_toArray, List.getElem_cons_zero]); go_simp; try with_reducible rfl)
            try simp only [Act.put, List.setIfInBounds_toArray, List.set_cons_zero, List.set_cons_succ]
            refine tkV (i := 2) (d := some 137) (v := ?_) rfl (by kernel_rfl) (by kernel_rfl) (by kernel_rfl) rfl (fun _ _ _ h => h) (by rfl) ?_ (by assumption) ?_
            rotate_left
            · (intro w hSw; (try dsimp only at hSw); (try simp only [List.getElem_toArray, List.getElem_cons_zero, List.getElem_cons_succ]); go_simp; try with_reducible rfl)
            try simp only [Act.put, List.setIfInBounds_toArray, List.set_cons_zero, List.set_cons_succ]
            refine tkV (i := 3) (d := some 138) (v := ?_) rfl (by kernel_rfl) (by kernel_rfl) (by kernel_rfl) rfl (fun _ _ _ h => h) (by rfl) ?_ (by assumption) ?_
            rotate_left
            · (intro w hSw; (try dsimp only at hSw); (try simp only [List.getElem_toArray, List.getElem_cons_zero, List.getElem_cons_succ]); go_simp; try with_reducible rfl)
            try simp only [Act.put, List.setIfInBounds_toArray, List.set_cons_zero, List.set_cons_succ]
            refine tkV (i := 4) (d := some 139) (v := ?_) rfl (by kernel_rfl) (by kernel_rfl) (by kernel_rfl) rfl (fun _ _ _ h => h) (by rfl) ?_ (by assumption) ?_
            rotate_left
            · (intro w hSw; (try dsimp only at hSw); (try simp only [List.getElem_toArray, List.getElem_cons_zero, List.getElem_cons_succ]); go_simp; try with_reducible rfl)
            try simp only [Act.put, List.setIfInBounds_toArray, List.set_cons_zero, List.set_cons_succ]
            refine tkV (i := 5) (d := some 140) (v := ?_) rfl (by kernel_rfl) (by kernel_rfl) (by kernel_rfl) rfl (fun _ _ _ h => h) (by rfl) ?_ (by assumption) ?_
            rotate_left
            · (intro w hSw; (try dsimp only at hSw); (try simp only [List.getElem_toArray, List.getElem_cons_zero, List.getElem_cons_succ]); go_simp; try with_reducible rfl)
            try simp only [Act.put, List.setIfInBounds_toArray, List.set_cons_zero, List.set_cons_succ]
            refine tkV (i := 6) (d := some 141) (v := ?_) rfl (by kernel_rfl) (by kernel_rfl) (by kernel_rfl) rfl (fun _ _ _ h => h) (by rfl) ?_ (by assumption) ?_
            rotate_left
            · (intro w hSw; (try dsimp only at hSw); (try simp only [List.getElem_toArray, List.getElem_cons_zero, List.getElem_cons_succ]); go_simp; try with_reducible rfl)
            try simp only [Act.put, List.setIfInBounds_toArray, List.set_cons_zero, List.set_cons_succ]
            refine tkV (i := 8) (d := some 143) (v := ?_) rfl (by kernel_rfl) (by kernel_rfl) (by kernel_rfl) rfl (fun _ _ _ h => h) (by rfl) ?_ (by assumption) ?_
            rotate_left
            · (intro w hSw; (try dsimp only at hSw); (try simp only [List.getElem_toArray, List.getElem_cons_zero, List.getElem_cons_succ]); go_simp; try with_reducible rfl)
            try simp only [Act.put, List.setIfInBounds_toArray, List.set_cons_zero, List.set_cons_succ]
            refine wpAnyH_ready (rs := [1]) (by kernel_rfl) (by simp) (AllReadyH.cons rfl (fun K hK => ?_) AllReadyH.nil)
            try simp only [List.getElem_toArray, List.getElem_cons_zero, List.getElem_cons_succ]
            go_simp
            refine (HPg2.out Wb.drew ⟨rfl, rfl, rfl, Nat.le_refl _, fun _ _ => rfl⟩).mono ?_
            rintro e U1 ⟨H1, H2, H3, H4, h7, j1, j2, j3, j4, j7, rfl, um1, ub1⟩
            have HU1 := hid0 um1
            have HUB1 : Hid (Below Wb.heap.size Wb U1) := hid0 ((⟨rfl, rfl, rfl, Nat.le_refl _, fun _ _ => rfl⟩ : Below Wb.heap.size Wb Wb.drew).trans ub1)
            clear um1 ub1 HPg2
            go_wp2_with fail
            refine hK.out _ _ ?_ (fun hHeld1 => ?_)
            · exact HSv.out U1 HUB1.out
            clear hK K
            (try simp only [Act.put]); (try simp only [List.setIfInBounds_toArray]); (try simp only [List.set_cons_succ]); (try simp only [List.set_cons_zero])
            refine wpAnyH_ready (rs := [7]) (by kernel_rfl) (by simp) (AllReadyH.cons rfl (fun K hK => ?_) AllReadyH.nil)
            try simp only [List.getElem_toArray, List.getElem_cons_zero, List.getElem_cons_succ]
            go_simp
            refine (HMk2.out U1 HUB1.out).mono ?_
            rintro e U2 ⟨gU, cU, rfl, um2, ub2⟩
            have HU2 := hid0 um2
            have HUb2 := hid0 ub2
            have HUB2 : Hid (Below Wb.heap.size Wb U2) := hid0 (Below.later HUB1.out ub2)
            clear um2 ub2 HMk2
            go_wp2_with fail
            refine hK.out _ _ ?_ (fun hHeld7 => ?_)
            · exact HSv.out U2 HUB2.out
            clear hK K
            (try simp only [Act.put]); (try simp only [List.setIfInBounds_toArray]); (try simp only [List.set_cons_succ]); (try simp only [List.set_cons_zero])
            refine wpAnyH_ready (rs := [9]) (by kernel_rfl) (by simp) (AllReadyH.cons rfl (fun K hK => ?_) AllReadyH.nil)
            try simp only [List.getElem_toArray, List.getElem_cons_zero, List.getElem_cons_succ]
            go_simp
            refine (HRw2.out U2 HUB2.out).mono ?_
            rintro e U3 ⟨gR, cR, rfl, um3, ub3⟩
            have HU3 := hid0 um3
            have HUb3 := hid0 ub3
            have HUB3 : Hid (Below Wb.heap.size Wb U3) := hid0 (Below.later HUB2.out ub3)
            clear um3 ub3 HRw2
            go_wp2_with fail
            refine hK.out _ _ ?_ (fun hHeld9 => ?_)
            · exact HSv.out U3 HUB3.out
            clear hK K
            (try simp only [Act.put]); (try simp only [List.setIfInBounds_toArray]); (try simp only [List.set_cons_succ]); (try simp only [List.set_cons_zero])
            refine wpAnyH_ready (rs := [10]) (by kernel_rfl) (by simp) (AllReadyH.cons rfl (fun K hK => ?_) AllReadyH.nil)
            try simp only [List.getElem_toArray, List.getElem_cons_zero, List.getElem_cons_succ]
            go_simp
            refine (HRn2.out U3 ⟨some ⟨H1, 0, none⟩, some ⟨H2, 0, none⟩, some ⟨H3, 0, none⟩, some ⟨H4, 0, none⟩, some ⟨h7, 0, none⟩, j1, j2, j3, j4, j7⟩ (some ⟨gU, 0, none⟩) (some ⟨gR, 0, none⟩) cU cR ((HU1.out.past HUb2.out).past HUb3.out).prx.pra (HU2.out.past HUb3.out).ia HU3.out.rwx.rwc.rwa).mono ?_
            rintro e U4 ⟨dv, mz, rfl, HR4, ub4⟩
            have HUB4 : Hid (Below Wb.heap.size Wb U4) := hid0 (Below.later HUB3.out ub4)
            clear ub4 HRn2
            go_wp2_with fail
            refine hK.out _ _ ?_ (fun hHeld10 => ?_)
            · exact HSv.out U4 HUB4.out
            clear hK K
            (try simp only [Act.put]); (try simp only [List.setIfInBounds_toArray]); (try simp only [List.set_cons_succ]); (try simp only [List.set_cons_zero])
            refine tkV (i := 11) (d := some 134) (v := ?_) rfl (by kernel_rfl) (by kernel_rfl) (by kernel_rfl) rfl (fun _ _ _ h => h) (by rfl) ?_ (by assumption) ?_
            rotate_left
            · (intro w hSw; (try dsimp only at hSw); (try simp only [List.getElem_toArray, List.getElem_cons_zero, List.getElem_cons_succ]); go_simp; try with_reducible rfl)
            try simp only [Act.put, List.setIfInBounds_toArray, List.set_cons_zero, List.set_cons_succ]
            refine tkV (i := 12) (d := some 146) (v := ?_) rfl (by kernel_rfl) (by kernel_rfl) (by kernel_rfl) rfl (fun _ _ _ h => h) (by rfl) ?_ (by assumption) ?_
            rotate_left
            · (intro w hSw; (try dsimp only at hSw); (try simp only [List.getElem_toArray, List.getElem_cons_zero, List.getElem_cons_succ]); go_simp; try with_reducible rfl)
            try simp only [Act.put, List.setIfInBounds_toArray, List.set_cons_zero, List.set_cons_succ]
            refine tkV (i := 13) (d := some 147) (v := ?_) rfl (by kernel_rfl) (by kernel_rfl) (by kernel_rfl) rfl (fun _ _ _ h => h) (by rfl) ?_ (by assumption) ?_
            rotate_left
            · (intro w hSw; (try dsimp only at hSw); (try simp only [List.getElem_toArray, List.getElem_cons_zero, List.getElem_cons_succ]); go_simp; try with_reducible rfl)
            try simp only [Act.put, List.setIfInBounds_toArray, List.set_cons_zero, List.set_cons_succ]
            refine tkV (i := 14) (d := some 17) (v := ?_) rfl (by kernel_rfl) (by kernel_rfl) (by kernel_rfl) rfl (fun _ _ _ h => h) (by rfl) ?_ (by assumption) ?_
            rotate_left
            · (intro w hSw; (try dsimp only at hSw); (try simp only [List.getElem_toArray, List.getElem_cons_zero, List.getElem_cons_succ]); go_simp; try with_reducible rfl)
            try simp only [Act.put, List.setIfInBounds_toArray, List.set_cons_zero, List.set_cons_succ]
            refine tkV (i := 15) (d := some 18) (v := ?_) rfl (by kernel_rfl) (by kernel_rfl) (by kernel_rfl) rfl (fun _ _ _ h => h) (by rfl) ?_ (by assumption) ?_
            rotate_left
            · (intro w hSw; (try dsimp only at hSw); (try simp only [List.getElem_toArray, List.getElem_cons_zero, List.getElem_cons_succ]); go_simp; try with_reducible rfl)
            try simp only [Act.put, List.setIfInBounds_toArray, List.set_cons_zero, List.set_cons_succ]
            refine wpAnyH_done (by kernel_rfl) ?_ _
            refine NoPanic.normal ?_
            clear hHeld hHeld1 hHeld7 hHeld9 hHeld10
            obtain ⟨⟨y0, y1, y2, y3, y4, y5, y6, y7⟩, x8, x9⟩ := HSv.out U4 HUB4.out
            go_upto_region 29 with (go_at_call 6; go_loud ((
                refine (HNw2.out U4 HUB4.out).mono ?_
                rintro e U5 ⟨fw, ew, rfl, HF5, ub5⟩
                have HUb5 := hid0 ub5
                have HUB5 : Hid (Below Wb.heap.size Wb U5) := hid0 (Below.later HUB4.out ub5)
                clear ub5 HNw2)))
            clear y0 y1 y2 y3 y4 y5 y6 y7 x8 x9
            rcases HF5.out with hG | hG
            · clear HF5
              obtain ⟨kk, hkk, rfl, rfl⟩ := hG
              obtain ⟨rfl, rfl⟩ : dv = .pointer none ∧ mz = (kk : Int) + 1 := by
                rcases HR4.out with ⟨k2, h1, h2, h3⟩ | ⟨h1, _⟩
                · rw [hkk] at h1
                  injection h1 with h1
                  subst h1
                  exact ⟨h2, h3⟩
                · rw [hkk] at h1
                  cases h1
              have HNu2 := hid0 (numE (HQ.out U5 HUB5.out).2.2.2.1 hkk)
              have HEn := hid0 ((HIn.out U5 (HQ.out U5 HUB5.out).2.2.2.2).2.2.2.2.2)
              have hkk4 : (kk : Int) ≤ 4 := by rcases nwE_val hkk with rfl | rfl | rfl <;> omega
              clear HR4 hkk
              go_wp2_with (go_at_call 9; go_loud ((
                refine HNu2.out.mono ?_
                rintro e U6 ⟨rfl, rfl⟩)))
              go_ret
              exact ⟨rfl, HEn.out⟩
            · clear HF5
              obtain ⟨hkk, hfs2, q3, f3, rfl, rfl, hfa2⟩ := hG
              obtain ⟨X3, rfl, rfl, hrf3⟩ : ∃ X3 : Nat, dv = .pointer (some ⟨X3, 0, none⟩) ∧ mz = 0 ∧ RfA U4 ⟨p.sl, N', O', p.sr, M', P', B', p.el⟩ ⟨some ⟨H1, 0, none⟩, some ⟨H2, 0, none⟩, some ⟨H3, 0, none⟩, some ⟨H4, 0, none⟩, some ⟨h7, 0, none⟩, j1, j2, j3, j4, j7⟩ sy bef tr' E' ⟨X3, some ⟨gU, 0, none⟩, cU, some ⟨gR, 0, none⟩, cR⟩ := by
                rcases HR4.out with ⟨k2, h1, _⟩ | ⟨_, h2⟩
                · rw [hkk] at h1
                  cases h1
                · exact h2
              have HTw := hid0 (texts_any A T aX cX (hfa2 U5 (Agree.refl _ _)) hfs2 (hrf3.past HUb5.out) (HIn.out U5 (HQ.out U5 HUB5.out).2.2.2.2).2.2.2.1 HH.out.xll HH.out.xl (HQ.out U5 HUB5.out).2.2.2.1)
              have HEn := hid0 ((HIn.out U5 (HQ.out U5 HUB5.out).2.2.2.2).2.2.2.2.2)
              have HNu2 := hid0 (kitNum_nil U5)
              obtain ⟨x0, x1, x2, x3, x4, x5, x6, x7, x8, x9, x10, x11, x12⟩ := HC0.out U5 (HQ.out U5 HUB5.out).2.2.2.2
              clear HR4 hkk hfs2 hfa2 hrf3
              go_wp2_with (first
                | (go_at_call 9; go_loud ((
                    refine HNu2.out.mono ?_
                    rintro e U6 ⟨rfl, rfl⟩)))
                | (go_at_call 20; go_loud ((
                    refine HTw.out.mono ?_
                    rintro e U7 ⟨rfl, ub7⟩
                    have HU7 := hid0 ub7
                    clear ub7))))
              go_ret
              exact ⟨rfl, Below.later HEn.out HU7.out⟩
  · clear HF4
    obtain ⟨hk, hfs, q2, f, rfl, rfl, hfa⟩ := hF
    have HFs := hid0 hfs
    have HFa := hid0 hfa
    have HRn : Hid (Calls Tryd.prog 15 #[.agg #[.int .i64 p.sl, .slice q.aN p.N.length q.cN, .slice q.aO p.O.length q.cO, .int .i64 p.sr, .slice q.aM p.M.length q.cM, .slice q.aP p.P.length q.cP, .slice q.aB p.B.length q.cB, .bool p.el], .int .i64 sy, .int .i64 bef, .slice aT tr.length cT, .slice aE E.length cE] W4 fun e w' => ∃ X2 : Nat, e = .returned (.tuple #[.pointer (some ⟨X2, 0, none⟩), .int .i64 0]) ∧ (RfA w' p q sy bef tr E ⟨X2, aT, cT, aE, cE⟩ ∧ W4.heap.size ≤ X2) ∧ Below W4.heap.size W4 w') := hid0 ((refFNew_any p q sy bef tr aT cT E aE cE W4 HH.out.ps (HIn.out W4 HT4.out).1.pra (HIn.out W4 HT4.out).2.1 htl (HIn.out W4 HT4.out).2.2.1.rwc.rwa HH.out.el).mono (fun _ _ hh => hh.made hk))
    have HNu : Hid (∀ V : World, Below w0.heap.size w0 V → Calls Tryd.prog 9 #[.nilIface] V fun e w' => e = .returned (.int .i64 0) ∧ w' = V) := hid0 (fun V hV => kitNum_nil V)
    clear hk hfs hfa
    go_upto_region 6 with (go_at_call 15; go_loud ((
        refine HRn.out.mono ?_
        rintro e W5 ⟨X2, rfl, hrf, b5⟩
        have HRf := hid0 hrf
        clear hrf
        have HB5 := hid0 b5
        have HT5 : Hid (Below w0.heap.size w0 W5) := hid0 (Below.later HT4.out b5)
        clear b5 HRn)))
    clear x0 x1 x2 x3 x4 x5 x6 x7 x8 x9 x10 x11 x12
    obtain ⟨x0, x1, x2, x3, x4, x5, x6, x7, x8, x9, x10, x11, x12⟩ := HC0.out W5 HT5.out
    obtain ⟨y0, y1, y2, y3, y4, y5, y6, y7⟩ := HCP.out W5 (HBx.out W5 HB5.out)
    have HP5 : Hid (∀ V : World, Below W5.heap.size W5 V → PgM V w0.heap.size p G1 G2 G3 G4 g7 d1 d2 d3 d4 c7 ∧ MkL V V1.heap.size gT cT' tr ∧ RkL V W2.heap.size gE cE' E ∧ FX V D ⟨some ⟨G1, 0, none⟩, some ⟨G2, 0, none⟩, some ⟨G3, 0, none⟩, some ⟨G4, 0, none⟩, some ⟨g7, 0, none⟩, d1, d2, d3, d4, c7⟩ p.N.length p.O.length p.M.length p.P.length p.B.length (some ⟨gT, 0, none⟩) tr.length (some ⟨gE, 0, none⟩) E.length) := hid0 (fun V hV => by
      have hb := Below.later (Below.later HB4.out HB5.out) hV
      exact ⟨HP3.out.past hb, HK4.out.past hb, HK3.out.past hb, HF3.out.past hb⟩)
    have HWh := hid0 (whole_any p.sl p.sr p.N p.O p.M p.P p.B p.el q.aN q.aO q.aM q.aP q.aB q.cN q.cO q.cM q.cP q.cB w0.heap.size G1 G2 G3 G4 g7 d1 d2 d3 d4 c7 W5 HH.out.ps (HP5.out W5 (Below.refl _ _)).1 (HIn.out W5 HT5.out).1 HH.out.po HH.out.pp)
    go_upto_region 7 with (go_at_call 16; go_loud ((
        refine HWh.out.mono ?_
        rintro e W6 ⟨rfl, b6⟩
        have HB6 := hid0 b6
        have HT6 : Hid (Below w0.heap.size w0 W6) := hid0 (Below.later HT5.out b6)
        clear b6 HWh)))
    clear x0 x1 x2 x3 x4 x5 x6 x7 x8 x9 x10 x11 x12 y0 y1 y2 y3 y4 y5 y6 y7
    obtain ⟨x0, x1, x2, x3, x4, x5, x6, x7, x8, x9, x10, x11, x12⟩ := HC0.out W6 HT6.out
    have HSt : Hid (Calls Tryd.prog 17 #[.slice (some ⟨gT, 0, none⟩) tr.length cT', .slice aT tr.length cT] W6 fun e w' => e = .returned (.bool true) ∧ ∃ m, w' = W6.drewN m) := hid0 (by
      have hx := still_any tr tr V1.heap.size gT cT' aT cT W6 htl (HP5.out W6 HB6.out).2.1 (HIn.out W6 HT6.out).2.1
      rw [decide_eq_true rfl] at hx
      exact hx)
    have HSy : Hid (∀ n, Calls Tryd.prog 18 #[.slice (some ⟨gE, 0, none⟩) E.length cE', .slice aE E.length cE] (W6.drewN n) fun e w' => e = .returned (.bool true) ∧ ∃ m, w' = (W6.drewN n).drewN m) := hid0 (fun n => stay_any E W2.heap.size gE cE' aE cE (W6.drewN n) hell HH.out.el ((HP5.out W6 HB6.out).2.2.1.past (below_drew' (Below.refl _ _) n)) ((HIn.out W6 HT6.out).2.2.1.past (below_drew' (Below.refl _ _) n)))
    go_upto_region 8 with (go_at_call 17; go_loud ((
        refine HSt.out.mono ?_
        rintro e W7 ⟨rfl, m7, rfl⟩
        clear HSt)))
    go_upto_region 9 with (go_at_call 18; go_loud ((
        refine (HSy.out m7).mono ?_
        rintro e W8 ⟨rfl, m8, rfl⟩
        clear HSy)))
    have HT8 : Hid (Below w0.heap.size w0 (W6.drewN (m7 + m8))) := hid0 (below_drew' HT6.out _)
    have HB8 : Hid (Below W5.heap.size W5 (W6.drewN (m7 + m8))) := hid0 (below_drew' HB6.out _)
    go_upto_region 11 with (go_at_call 9; go_loud ((
        refine (HNu.out _ HT8.out).mono ?_
        rintro e W9 ⟨rfl, rfl⟩
        clear HNu)))
    clear x0 x1 x2 x3 x4 x5 x6 x7 x8 x9 x10 x11 x12
    generalize W6.drewN (m7 + m8) = W9 at *
    obtain ⟨y0, y1, y2, y3, y4, y5, y6, y7⟩ := HCP.out W9 (HBx.out W9 (Below.later HB5.out HB8.out))
    have HWr := hid0 (wreck_any p.sl p.sr p.el p.N.length p.O.length p.M.length p.P.length p.B.length tr.length E.length d1 d2 d3 d4 c7 _ _ _ _ _ (some ⟨gT, 0, none⟩) (some ⟨gE, 0, none⟩) D W9 (fun b hb => by have h1 := HD.out b hb; have h2 := HB4.out.size; have h3 := HB5.out.size; have h4 := HB8.out.size; omega) (HP5.out W9 HB8.out).2.2.2 HH.out.ps.n HH.out.po HH.out.ps.m HH.out.pp HH.out.ps.b)
    go_upto_region 12 with (go_at_call 19; go_loud ((
        refine HWr.out.mono ?_
        rintro e Wb ⟨rfl, hfb, hkb⟩
        have HFb := hid0 hfb
        have HKb := hid0 hkb
        clear hfb hkb HWr)))
    clear y0 y1 y2 y3 y4 y5 y6 y7
    obtain ⟨F, hF⟩ : ∃ F : World → Prop, F = fun V => FX V D ⟨some ⟨G1, 0, none⟩, some ⟨G2, 0, none⟩, some ⟨G3, 0, none⟩, some ⟨G4, 0, none⟩, some ⟨g7, 0, none⟩, d1, d2, d3, d4, c7⟩ p.N.length p.O.length p.M.length p.P.length p.B.length (some ⟨gT, 0, none⟩) tr.length (some ⟨gE, 0, none⟩) E.length := ⟨_, rfl⟩
    have HFI : Hid (∀ V, F V → XI V D (some ⟨gT, 0, none⟩) tr.length ∧ XR V D (some ⟨gE, 0, none⟩) E.length) := hid0 (fun V hV => by rw [hF] at hV; exact ⟨hV.t, hV.e⟩)
    have HFS : Hid (∀ (V : World) (a : Addr) (z0 z : Int), F V → V.cell? a = some (.int .i64 z0) → F (V.setCell a (.int .i64 z))) := hid0 (fun V a z0 z hV ha => by rw [hF] at hV ⊢; exact hV.setI ha z)
    have HFX : Hid (∀ V, F V → FX V D ⟨some ⟨G1, 0, none⟩, some ⟨G2, 0, none⟩, some ⟨G3, 0, none⟩, some ⟨G4, 0, none⟩, some ⟨g7, 0, none⟩, d1, d2, d3, d4, c7⟩ p.N.length p.O.length p.M.length p.P.length p.B.length (some ⟨gT, 0, none⟩) tr.length (some ⟨gE, 0, none⟩) E.length) := hid0 (fun V hV => by rw [hF] at hV; exact hV)
    replace HFb : Hid (F Wb) := hid0 (by rw [hF]; exact HFb.out)
    clear hF
    go_wp2
    go_loopw [13] (fun x wr => ∃ i : Nat, i ≤ tr.length ∧ x = .int .i64 (i : Int) ∧ Hid (F wr) ∧ Hid (Kpd W9 wr D)) (fun x _ => tr.length - (intOf x).toNat)
    case atStart => exact ⟨0, Nat.zero_le _, rfl, HFb, HKb⟩
    case round =>
      clear HFb HKb
      obtain ⟨i, hi, rfl, HFb, HKb⟩ := hrel
      by_cases hlt : i < tr.length
      · have hiI : (i : Int) < (tr.length : Int) := by omega
        have hiI0 : (0 : Int) ≤ (i : Int) := by omega
        obtain ⟨b1, o1, e1, hd, _, ⟨z, m1⟩, f1⟩ := (HFI.out wr HFb.out).1.at' i hlt
        injection e1 with e1
        injection e1 with e11 e12
        subst e11 e12
        rw [Nat.zero_add] at m1 f1
        have HF2 : Hid (F (wr.setCell ⟨gT, i, none⟩ (.int .i64 (i : Int)))) := hid0 (HFS.out wr _ z _ HFb.out m1)
        have HK2 : Hid (Kpd W9 (wr.setCell ⟨gT, i, none⟩ (.int .i64 (i : Int))) D) := hid0 (HKb.out.trans (Kpd.set _ hd _ _))
        clear HFb HKb hd
        go_wp2
        go_roundw
        case rel => exact ⟨i + 1, hlt, by go_num, HF2, HK2⟩
        case measure => simp [intOf]; omega
      · have hiI : ¬ (i : Int) < (tr.length : Int) := by omega
        clear hi hlt
        go_wp2
        go_loopw [14, 15] (fun x _ wr => ∃ i : Nat, i ≤ E.length ∧ x = .int .i64 (i : Int) ∧ Hid (F wr) ∧ Hid (Kpd W9 wr D)) (fun x _ _ => E.length - (intOf x).toNat)
        case atStart => exact ⟨0, Nat.zero_le _, rfl, HFb, HKb⟩
        case round =>
          clear HFb HKb
          obtain ⟨i2, hi, rfl, HFb, HKb⟩ := hrel
          by_cases hlt : i2 < E.length
          · have hiI2 : (i2 : Int) < (E.length : Int) := by omega
            have hiI20 : (0 : Int) ≤ (i2 : Int) := by omega
            obtain ⟨b1, o1, e1, _, a1, n1, c1, m1, hn1, _, hxi, _⟩ := (HFI.out wr HFb.out).2.at' i2 hlt
            injection e1 with e1
            injection e1 with e11 e12
            subst e11 e12
            rw [Nat.zero_add] at m1
            have HXI := hid0 hxi
            have HD1 := hid0 m1
            clear hxi m1
            go_wp2
            go_loopw [15] (fun x wr => ∃ c : Nat, c ≤ n1 ∧ x = .int .i64 (c : Int) ∧ Hid (F wr) ∧ Hid (Kpd W9 wr D) ∧ Hid (wr.cell? ⟨gE, i2, none⟩ = some (.slice a1 n1 c1)) ∧ Hid (XI wr D a1 n1)) (fun x _ => n1 - (intOf x).toNat)
            case atStart => exact ⟨0, Nat.zero_le _, rfl, HFb, HKb, HD1, HXI⟩
            case round =>
              clear HFb HKb HD1 HXI
              obtain ⟨c, hc, rfl, HFb, HKb, HD1, HXI⟩ := hrel
              have m1 := HD1.out
              by_cases hcn : c < n1
              · have hcI : (c : Int) < (n1 : Int) := by omega
                have hcI0 : (0 : Int) ≤ (c : Int) := by omega
                obtain ⟨b2, o2, e2, hd, _, ⟨z, m2⟩, f2⟩ := HXI.out.at' c hcn
                have HF2 : Hid (F (wr.setCell ⟨b2, o2 + c, none⟩ (.int .i64 (65 + (i2 : Int))))) := hid0 (HFS.out wr _ z _ HFb.out m2)
                have HK2 : Hid (Kpd W9 (wr.setCell ⟨b2, o2 + c, none⟩ (.int .i64 (65 + (i2 : Int)))) D) := hid0 (HKb.out.trans (Kpd.set _ hd _ _))
                have HD2 := hid0 (cellS_setI m1 m2 (65 + (i2 : Int)))
                have HXI2 : Hid (XI (wr.setCell ⟨b2, o2 + c, none⟩ (.int .i64 (65 + (i2 : Int)))) D a1 n1) := hid0 (HXI.out.setI _ _)
                subst e2
                clear HFb HKb HD1 HXI hd
                go_wp2
                go_roundw
                case rel => exact ⟨c + 1, hcn, by go_num, HF2, HK2, HD2, HXI2⟩
                case measure => simp [intOf]; omega
              · have hcI : ¬ (c : Int) < (n1 : Int) := by omega
                go_wp2
                go_roundw
                case rel => exact ⟨i2 + 1, hlt, by go_num, HFb, HKb⟩
                case measure => simp [intOf]; omega
          · have hiI2 : ¬ (i2 : Int) < (E.length : Int) := by omega
            clear hi hlt
            obtain ⟨Wb, hWb⟩ : ∃ Wb, Wb = wr := ⟨_, rfl⟩
            have HTb : Hid (Below w0.heap.size w0 Wb) := hid0 (by rw [hWb]; exact HKb.out.below HT8.out HT8.out.size (fun b hb => (HD.out b hb).1))
            have HBb : Hid (Wb.heap[W1.heap.size]? = V1.heap[W1.heap.size]?) := hid0 (by
              rw [hWb]
              have h2 := HB4.out.size
              have h3 := HB5.out.size
              have h4 := HB8.out.size
              have h5 := HS3.out
              exact (HKb.out.oth _ (by omega) (fun hb => (HD.out _ hb).2.1 rfl)).trans (HBx.out W9 (Below.later HB5.out HB8.out)))
            have HAg : Hid (Agree W4 Wb W3.heap.size) := hid0 (by
              rw [hWb]
              have hbe := Below.later HB5.out HB8.out
              have hag : Agree W4 W9 W3.heap.size := ⟨hbe.size, fun i _ h2 => hbe.block i h2⟩
              exact HKb.out.agree hag (fun b hb => (HD.out b hb).2.2))
            replace HFb : Hid (F Wb) := hid0 (by rw [hWb]; exact HFb.out)
            have HRf2 : Hid (RfA Wb p q sy bef tr E ⟨X2, aT, cT, aE, cE⟩) := hid0 (by
              have h1 := HIn.out Wb HTb.out
              rw [hWb] at h1 ⊢
              exact (HRf.out.1.past HB8.out).kpd HKb.out (fun hb => by have h2 := HD.out _ hb; have h3 := HRf.out.2; have h4 := HB4.out.size; have h5 : X2 < W3.heap.size := h2.2.2; omega) h1.1.pra h1.2.1 h1.2.2.1.rwc.rwa)
            subst hWb
            obtain ⟨x0, x1, x2, x3, x4, x5, x6, x7, x8, x9, x10, x11, x12⟩ := HC0.out Wb HTb.out
            have HTx := hid0 (texts_any A T aX cX (HFa.out Wb HAg.out) HFs.out HRf2.out (HIn.out Wb HTb.out).2.2.2.1 HH.out.xll HH.out.xl (HIn.out Wb HTb.out).2.2.2.2.1)
            go_upto_region 27 with (go_at_call 20; go_loud ((
                refine HTx.out.mono ?_
                rintro e Wc ⟨rfl, bc⟩
                have HBc := hid0 bc
                clear bc HTx)))
            clear x0 x1 x2 x3 x4 x5 x6 x7 x8 x9 x10 x11 x12
            have HTc : Hid (Below w0.heap.size w0 Wc) := hid0 (Below.later HTb.out HBc.out)
            have HBc2 : Hid (Wc.heap[W1.heap.size]? = V1.heap[W1.heap.size]?) := hid0 (by
              have h2 := HB4.out.size
              have h5 := HS3.out
              have h6 := HAg.out.size
              exact (HBc.out.block _ (by omega)).trans HBb.out)
            have HFc : Hid (FX Wc D ⟨some ⟨G1, 0, none⟩, some ⟨G2, 0, none⟩, some ⟨G3, 0, none⟩, some ⟨G4, 0, none⟩, some ⟨g7, 0, none⟩, d1, d2, d3, d4, c7⟩ p.N.length p.O.length p.M.length p.P.length p.B.length (some ⟨gT, 0, none⟩) tr.length (some ⟨gE, 0, none⟩) E.length) := hid0 ((HFX.out Wb HFb.out).past HBc.out)
            obtain ⟨N', O', M', P', B', tr', E', ⟨lN, lO, lM, lP, lB, lT, lE⟩, hprx, hprs, hta, hea, hel⟩ := HFc.out.read p.sl p.sr p.el HH.out.ps.n HH.out.ps.m HH.out.ps.b
            have HSv : Hid (∀ V : World, Below Wc.heap.size Wc V → (V.cell? ⟨W1.heap.size, 0, none⟩ = some (.int .i64 p.sl) ∧ V.cell? ⟨W1.heap.size, 1, none⟩ = some (.slice (some ⟨G1, 0, none⟩) p.N.length d1) ∧ V.cell? ⟨W1.heap.size, 2, none⟩ = some (.slice (some ⟨G2, 0, none⟩) p.O.length d2) ∧ V.cell? ⟨W1.heap.size, 3, none⟩ = some (.int .i64 p.sr) ∧ V.cell? ⟨W1.heap.size, 4, none⟩ = some (.slice (some ⟨G3, 0, none⟩) p.M.length d3) ∧ V.cell? ⟨W1.heap.size, 5, none⟩ = some (.slice (some ⟨G4, 0, none⟩) p.P.length d4) ∧ V.cell? ⟨W1.heap.size, 6, none⟩ = some (.slice (some ⟨g7, 0, none⟩) p.B.length c7) ∧ V.cell? ⟨W1.heap.size, 7, none⟩ = some (.bool p.el)) ∧ V.cell? ⟨w.heap.size, 8, none⟩ = some (.int .i64 sy) ∧ V.cell? ⟨w.heap.size, 9, none⟩ = some (.int .i64 bef)) := hid0 (fun V hV => by
              have hx := HC0.out V (Below.later HTc.out hV)
              exact ⟨HCP.out V ((hV.block _ (heap_lt (HBc2.out.trans HV1.out.1))).trans HBc2.out), hx.2.2.2.2.2.2.2.2.1, hx.2.2.2.2.2.2.2.2.2.1⟩)
            have HQ : Hid (∀ V : World, Below Wc.heap.size Wc V → PrX V ⟨p.sl, N', O', p.sr, M', P', B', p.el⟩ ⟨some ⟨G1, 0, none⟩, some ⟨G2, 0, none⟩, some ⟨G3, 0, none⟩, some ⟨G4, 0, none⟩, some ⟨g7, 0, none⟩, d1, d2, d3, d4, c7⟩ ∧ IA V (some ⟨gT, 0, none⟩) tr' ∧ RwX V (some ⟨gE, 0, none⟩) E' ∧ Sents V A ∧ Below w0.heap.size w0 V) := hid0 (fun V hV => by
              have hq := Below.later HTc.out hV
              exact ⟨hprx.past hV, hta.past hV, hea.past hV, (HIn.out V hq).2.2.2.2.1, hq⟩)
            have HPs := hid0 (show PrS ⟨p.sl, N', O', p.sr, M', P', B', p.el⟩ from hprs)
            have HEl' := hid0 hel
            have HPg2 : Hid (∀ V : World, Below Wc.heap.size Wc V → Calls Tryd.prog 12 #[.agg #[.int .i64 p.sl, .slice (some ⟨G1, 0, none⟩) p.N.length d1, .slice (some ⟨G2, 0, none⟩) p.O.length d2, .int .i64 p.sr, .slice (some ⟨G3, 0, none⟩) p.M.length d3, .slice (some ⟨G4, 0, none⟩) p.P.length d4, .slice (some ⟨g7, 0, none⟩) p.B.length c7, .bool p.el]] V fun e w' => ∃ H1 H2 H3 H4 h7 j1 j2 j3 j4 j7, e = .returned (.agg #[.int .i64 p.sl, .slice (some ⟨H1, 0, none⟩) p.N.length j1, .slice (some ⟨H2, 0, none⟩) p.O.length j2, .int .i64 p.sr, .slice (some ⟨H3, 0, none⟩) p.M.length j3, .slice (some ⟨H4, 0, none⟩) p.P.length j4, .slice (some ⟨h7, 0, none⟩) p.B.length j7, .bool p.el]) ∧ PgM w' V.heap.size ⟨p.sl, N', O', p.sr, M', P', B', p.el⟩ H1 H2 H3 H4 h7 j1 j2 j3 j4 j7 ∧ Below V.heap.size V w') := hid0 (fun V hV => by
              have hx := pairing_any p.sl p.sr N' O' M' P' B' p.el (some ⟨G1, 0, none⟩) (some ⟨G2, 0, none⟩) (some ⟨G3, 0, none⟩) (some ⟨G4, 0, none⟩) (some ⟨g7, 0, none⟩) d1 d2 d3 d4 c7 V HPs.out (HQ.out V hV).1 (by rw [lO]; exact HH.out.po) (by rw [lP]; exact HH.out.pp) (fun e => nomatch e)
              unfold PgR at hx
              dsimp only at hx
              rw [lN, lO, lM, lP, lB] at hx
              exact hx)
            have HMk2 : Hid (∀ V : World, Below Wc.heap.size Wc V → Calls Tryd.prog 13 #[.slice (some ⟨gT, 0, none⟩) tr.length cT'] V fun r w' => ∃ g c, r = .returned (.slice (some ⟨g, 0, none⟩) tr.length c) ∧ MkL w' V.heap.size g c tr' ∧ Below V.heap.size V w') := hid0 (fun V hV => by
              have hx := marked_any tr' (some ⟨gT, 0, none⟩) cT' V (by rw [lT]; exact htl) (HQ.out V hV).2.1 (fun e => nomatch e)
              rw [lT] at hx
              exact hx)
            have HRw2 : Hid (∀ V : World, Below Wc.heap.size Wc V → Calls Tryd.prog 14 #[.slice (some ⟨gE, 0, none⟩) E.length cE'] V fun r w' => ∃ g c, r = .returned (.slice (some ⟨g, 0, none⟩) E.length c) ∧ RkL w' V.heap.size g c E' ∧ Below V.heap.size V w') := hid0 (fun V hV => by
              have hx := rows16_any E' (some ⟨gE, 0, none⟩) cE' V (by rw [lE]; exact hell) HEl'.out (HQ.out V hV).2.2.1
              rw [lE] at hx
              exact hx)
            have HRn2 : Hid (∀ (V : World) (q' : PrL) (aT2 aE2 : Option Addr) (cT2 cE2 : Nat), PrA V ⟨p.sl, N', O', p.sr, M', P', B', p.el⟩ q' → IA V aT2 tr' → RwA V aE2 E' → Calls Tryd.prog 15 #[.agg #[.int .i64 p.sl, .slice q'.aN p.N.length q'.cN, .slice q'.aO p.O.length q'.cO, .int .i64 p.sr, .slice q'.aM p.M.length q'.cM, .slice q'.aP p.P.length q'.cP, .slice q'.aB p.B.length q'.cB, .bool p.el], .int .i64 sy, .int .i64 bef, .slice aT2 tr.length cT2, .slice aE2 E.length cE2] V fun e w' => ∃ dv mz, e = .returned (.tuple #[dv, .int .i64 mz]) ∧ Hid ((∃ k : Nat, nwE ⟨p.sl, N', O', p.sr, M', P', B', p.el⟩ sy bef tr' E' = some k ∧ dv = .pointer none ∧ mz = (k : Int) + 1) ∨ (nwE ⟨p.sl, N', O', p.sr, M', P', B', p.el⟩ sy bef tr' E' = none ∧ ∃ X : Nat, dv = .pointer (some ⟨X, 0, none⟩) ∧ mz = 0 ∧ RfA w' ⟨p.sl, N', O', p.sr, M', P', B', p.el⟩ q' sy bef tr' E' ⟨X, aT2, cT2, aE2, cE2⟩)) ∧ Below V.heap.size V w') := hid0 (fun V q' aT2 aE2 cT2 cE2 h1 h2 h3 => by
              have hx := (refFNew_any ⟨p.sl, N', O', p.sr, M', P', B', p.el⟩ q' sy bef tr' aT2 cT2 E' aE2 cE2 V HPs.out h1 h2 (by rw [lT]; exact htl) h3 HEl'.out).mono (fun _ _ hh => hh.both)
              dsimp only at hx
              rw [lN, lO, lM, lP, lB, lT, lE] at hx
              exact hx)
            have HNw2 : Hid (∀ V : World, Below Wc.heap.size Wc V → Calls Tryd.prog 6 #[.agg #[.int .i64 p.sl, .slice (some ⟨G1, 0, none⟩) p.N.length d1, .slice (some ⟨G2, 0, none⟩) p.O.length d2, .int .i64 p.sr, .slice (some ⟨G3, 0, none⟩) p.M.length d3, .slice (some ⟨G4, 0, none⟩) p.P.length d4, .slice (some ⟨g7, 0, none⟩) p.B.length c7, .bool p.el], .int .i64 sy, .int .i64 bef, .slice (some ⟨gT, 0, none⟩) tr.length cT', .slice (some ⟨gE, 0, none⟩) E.length cE'] V fun e w' => ∃ fv ev, e = .returned (.tuple #[fv, ev]) ∧ Hid (FnS A V.heap.size ⟨p.sl, N', O', p.sr, M', P', B', p.el⟩ sy bef tr' E' fv ev w') ∧ Below V.heap.size V w') := hid0 (fun V hV => by
              have hx := (fnewS_any A ⟨p.sl, N', O', p.sr, M', P', B', p.el⟩ ⟨some ⟨G1, 0, none⟩, some ⟨G2, 0, none⟩, some ⟨G3, 0, none⟩, some ⟨G4, 0, none⟩, some ⟨g7, 0, none⟩, d1, d2, d3, d4, c7⟩ sy bef tr' (some ⟨gT, 0, none⟩) cT' E' (some ⟨gE, 0, none⟩) cE' V HPs.out (HQ.out V hV).1.pra (HQ.out V hV).2.1 (by rw [lT]; exact htl) (HQ.out V hV).2.2.1.rwc.rwa HEl'.out (HQ.out V hV).2.2.2.1).mono (fun _ _ hh => hh.fns)
              dsimp only at hx
              rw [lN, lO, lM, lP, lB, lT, lE] at hx
              exact hx)
            clear hprx hprs hta hea hel lN lO lM lP lB lT lE
            refine wp_region_noPanic ?_
            refine wp_region_held_drew (S := (fun V => (V.cell? ⟨W1.heap.size, 0, none⟩ = some (.int .i64 p.sl) ∧ V.cell? ⟨W1.heap.size, 1, none⟩ = some (.slice (some ⟨G1, 0, none⟩) p.N.length d1) ∧ V.cell? ⟨W1.heap.size, 2, none⟩ = some (.slice (some ⟨G2, 0, none⟩) p.O.length d2) ∧ V.cell? ⟨W1.heap.size, 3, none⟩ = some (.int .i64 p.sr) ∧ V.cell? ⟨W1.heap.size, 4, none⟩ = some (.slice (some ⟨G3, 0, none⟩) p.M.length d3) ∧ V.cell? ⟨W1.heap.size, 5, none⟩ = some (.slice (some ⟨G4, 0, none⟩) p.P.length d4) ∧ V.cell? ⟨W1.heap.size, 6, none⟩ = some (.slice (some ⟨g7, 0, none⟩) p.B.length c7) ∧ V.cell? ⟨W1.heap.size, 7, none⟩ = some (.bool p.el)) ∧ V.cell? ⟨w.heap.size, 8, none⟩ = some (.int .i64 sy) ∧ V.cell? ⟨w.heap.size, 9, none⟩ = some (.int .i64 bef))) (by kernel_rfl) ?_ (fun hHeld => ?_)
            · exact HSv.out Wc (Below.refl _ _)
            refine tkV (i := 0) (d := some 135) (v := ?_) rfl (by kernel_rfl) (by kernel_rfl) (by kernel_rfl) rfl (fun _ _ _ h => h) (by rfl) ?_ (by assumption) ?_
            rotate_left
            · (intro w hSw; (try dsimp only at hSw); (try simp only [List.getElem_toArray, List.getElem_cons_zero]); go_simp; try with_reducible rfl)
            try simp only [Act.put, List.setIfInBounds_toArray, List.set_cons_zero, List.set_cons_succ]
            refine tkV (i := 2) (d := some 137) (v := ?_) rfl (by kernel_rfl) (by kernel_rfl) (by kernel_rfl) rfl (fun _ _ _ h => h) (by rfl) ?_ (by assumption) ?_
            rotate_left
            · (intro w hSw; (try dsimp only at hSw); (try simp only [List.getElem_toArray, List.getElem_cons_zero, List.getElem_cons_succ]); go_simp; try with_reducible rfl)
            try simp only [Act.put, List.setIfInBounds_toArray, List.set_cons_zero, List.set_cons_succ]
            refine tkV (i := 3) (d := some 138) (v := ?_) rfl (by kernel_rfl) (by kernel_rfl) (by kernel_rfl) rfl (fun _ _ _ h => h) (by rfl) ?_ (by assumption) ?_
            rotate_left
            · (intro w hSw; (try dsimp only at hSw); (try simp only [List.getElem_toArray, List.getElem_cons_zero, List.getElem_cons_succ]); go_simp; try with_reducible rfl)
            try simp only [Act.put, List.setIfInBounds_toArray, List.set_cons_zero, List.set_cons_succ]
            refine tkV (i := 4) (d := some 139) (v := ?_) rfl (by kernel_rfl) (by kernel_rfl) (by kernel_rfl) rfl (fun _ _ _ h => h) (by rfl) ?_ (by assumption) ?_
            rotate_left
            · (intro w hSw; (try dsimp only at hSw); (try simp only [List.getElem_toArray, List.getElem_cons_zero, List.getElem_cons_succ]); go_simp; try with_reducible rfl)
            try simp only [Act.put, List.setIfInBounds_toArray, List.set_cons_zero, List.set_cons_succ]
            refine tkV (i := 5) (d := some 140) (v := ?_) rfl (by kernel_rfl) (by kernel_rfl) (by kernel_rfl) rfl (fun _ _ _ h => h) (by rfl) ?_ (by assumption) ?_
            rotate_left
            · (intro w hSw; (try dsimp only at hSw); (try simp only [List.getElem_toArray, List.getElem_cons_zero, List.getElem_cons_succ]); go_simp; try with_reducible rfl)
            try simp only [Act.put, List.setIfInBounds_toArray, List.set_cons_zero, List.set_cons_succ]
            refine tkV (i := 6) (d := some 141) (v := ?_) rfl (by kernel_rfl) (by kernel_rfl) (by kernel_rfl) rfl (fun _ _ _ h => h) (by rfl) ?_ (by assumption) ?_
            rotate_left
            · (intro w hSw; (try dsimp only at hSw); (try simp only [List.getElem_toArray, List.getElem_cons_zero, List.getElem_cons_succ]); go_simp; try with_reducible rfl)
            try simp only [Act.put, List.setIfInBounds_toArray, List.set_cons_zero, List.set_cons_succ]
            refine tkV (i := 8) (d := some 143) (v := ?_) rfl (by kernel_rfl) (by kernel_rfl) (by kernel_rfl) rfl (fun _ _ _ h => h) (by rfl) ?_ (by assumption) ?_
            rotate_left
            · (intro w hSw; (try dsimp only at hSw); (try simp only [List.getElem_toArray, List.getElem_cons_zero, List.getElem_cons_succ]); go_simp; try with_reducible rfl)
            try simp only [Act.put, List.setIfInBounds_toArray, List.set_cons_zero, List.set_cons_succ]
            refine wpAnyH_ready (rs := [1]) (by kernel_rfl) (by simp) (AllReadyH.cons rfl (fun K hK => ?_) AllReadyH.nil)
            try simp only [List.getElem_toArray, List.getElem_cons_zero, List.getElem_cons_succ]
            go_simp
            refine (HPg2.out Wc.drew ⟨rfl, rfl, rfl, Nat.le_refl _, fun _ _ => rfl⟩).mono ?_
            rintro e U1 ⟨H1, H2, H3, H4, h7, j1, j2, j3, j4, j7, rfl, um1, ub1⟩
            have HU1 := hid0 um1
            have HUB1 : Hid (Below Wc.heap.size Wc U1) := hid0 ((⟨rfl, rfl, rfl, Nat.le_refl _, fun _ _ => rfl⟩ : Below Wc.heap.size Wc Wc.drew).trans ub1)
            clear um1 ub1 HPg2
            go_wp2_with fail
            refine hK.out _ _ ?_ (fun hHeld1 => ?_)
            · exact HSv.out U1 HUB1.out
            clear hK K
            (try simp only [Act.put]); (try simp only [List.setIfInBounds_toArray]); (try simp only [List.set_cons_succ]); (try simp only [List.set_cons_zero])
            refine wpAnyH_ready (rs := [7]) (by kernel_rfl) (by simp) (AllReadyH.cons rfl (fun K hK => ?_) AllReadyH.nil)
            try simp only [List.getElem_toArray, List.getElem_cons_zero, List.getElem_cons_succ]
            go_simp
            refine (HMk2.out U1 HUB1.out).mono ?_
            rintro e U2 ⟨gU, cU, rfl, um2, ub2⟩
            have HU2 := hid0 um2
            have HUb2 := hid0 ub2
            have HUB2 : Hid (Below Wc.heap.size Wc U2) := hid0 (Below.later HUB1.out ub2)
            clear um2 ub2 HMk2
            go_wp2_with fail
            refine hK.out _ _ ?_ (fun hHeld7 => ?_)
            · exact HSv.out U2 HUB2.out
            clear hK K
            (try simp only [Act.put]); (try simp only [List.setIfInBounds_toArray]); (try simp only [List.set_cons_succ]); (try simp only [List.set_cons_zero])
            refine wpAnyH_ready (rs := [9]) (by kernel_rfl) (by simp) (AllReadyH.cons rfl (fun K hK => ?_) AllReadyH.nil)
            try simp only [List.getElem_toArray, List.getElem_cons_zero, List.getElem_cons_succ]
            go_simp
            refine (HRw2.out U2 HUB2.out).mono ?_
            rintro e U3 ⟨gR, cR, rfl, um3, ub3⟩
            have HU3 := hid0 um3
            have HUb3 := hid0 ub3
            have HUB3 : Hid (Below Wc.heap.size Wc U3) := hid0 (Below.later HUB2.out ub3)
            clear um3 ub3 HRw2
            go_wp2_with fail
            refine hK.out _ _ ?_ (fun hHeld9 => ?_)
            · exact HSv.out U3 HUB3.out
            clear hK K
            (try simp only [Act.put]); (try simp only [List.setIfInBounds_toArray]); (try simp only [List.set_cons_succ]); (try simp only [List.set_cons_zero])
            refine wpAnyH_ready (rs := [10]) (by kernel_rfl) (by simp) (AllReadyH.cons rfl (fun K hK => ?_) AllReadyH.nil)
            try simp only [List.getElem_toArray, List.getElem_cons_zero, List.getElem_cons_succ]
            go_simp
            refine (HRn2.out U3 ⟨some ⟨H1, 0, none⟩, some ⟨H2, 0, none⟩, some ⟨H3, 0, none⟩, some ⟨H4, 0, none⟩, some ⟨h7, 0, none⟩, j1, j2, j3, j4, j7⟩ (some ⟨gU, 0, none⟩) (some ⟨gR, 0, none⟩) cU cR ((HU1.out.past HUb2.out).past HUb3.out).prx.pra (HU2.out.past HUb3.out).ia HU3.out.rwx.rwc.rwa).mono ?_
            rintro e U4 ⟨dv, mz, rfl, HR4, ub4⟩
            have HUB4 : Hid (Below Wc.heap.size Wc U4) := hid0 (Below.later HUB3.out ub4)
            clear ub4 HRn2
            go_wp2_with fail
            refine hK.out _ _ ?_ (fun hHeld10 => ?_)
            · exact HSv.out U4 HUB4.out
            clear hK K
            (try simp only [Act.put]); (try simp only [List.setIfInBounds_toArray]); (try simp only [List.set_cons_succ]); (try simp only [List.set_cons_zero])
            refine tkV (i := 11) (d := some 134) (v := ?_) rfl (by kernel_rfl) (by kernel_rfl) (by kernel_rfl) rfl (fun _ _ _ h => h) (by rfl) ?_ (by assumption) ?_
            rotate_left
            · (intro w hSw; (try dsimp only at hSw); (try simp only [List.getElem_toArray, List.getElem_cons_zero, List.getElem_cons_succ]); go_simp; try with_reducible rfl)
            try simp only [Act.put, List.setIfInBounds_toArray, List.set_cons_zero, List.set_cons_succ]
            refine tkV (i := 12) (d := some 146) (v := ?_) rfl (by kernel_rfl) (by kernel_rfl) (by kernel_rfl) rfl (fun _ _ _ h => h) (by rfl) ?_ (by assumption) ?_
            rotate_left
            · (intro w hSw; (try dsimp only at hSw); (try simp only [List.getElem_toArray, List.getElem_cons_zero, List.getElem_cons_succ]); go_simp; try with_reducible rfl)
            try simp only [Act.put, List.setIfInBounds_toArray, List.set_cons_zero, List.set_cons_succ]
            refine tkV (i := 13) (d := some 147) (v := ?_) rfl (by kernel_rfl) (by kernel_rfl) (by kernel_rfl) rfl (fun _ _ _ h => h) (by rfl) ?_ (by assumption) ?_
            rotate_left
            · (intro w hSw; (try dsimp only at hSw); (try simp only [List.getElem_toArray, List.getElem_cons_zero, List.getElem_cons_succ]); go_simp; try with_reducible rfl)
            try simp only [Act.put, List.setIfInBounds_toArray, List.set_cons_zero, List.set_cons_succ]
            refine tkV (i := 14) (d := some 17) (v := ?_) rfl (by kernel_rfl) (by kernel_rfl) (by kernel_rfl) rfl (fun _ _ _ h => h) (by rfl) ?_ (by assumption) ?_
            rotate_left
            · (intro w hSw; (try dsimp only at hSw); (try simp only [List.getElem_toArray, List.getElem_cons_zero, List.getElem_cons_succ]); go_simp; try with_reducible rfl)
            try simp only [Act.put, List.setIfInBounds_toArray, List.set_cons_zero, List.set_cons_succ]
            refine tkV (i := 15) (d := some 18) (v := ?_) rfl (by kernel_rfl) (by kernel_rfl) (by kernel_rfl) rfl (fun _ _ _ h => h) (by rfl) ?_ (by assumption) ?_
            rotate_left
            · (intro w hSw; (try dsimp only at hSw); (try simp only [List.getElem_toArray, List.getElem_cons_zero, List.getElem_cons_succ]); go_simp; try with_reducible rfl)
            try simp only [Act.put, List.setIfInBounds_toArray, List.set_cons_zero, List.set_cons_succ]
            refine wpAnyH_done (by kernel_rfl) ?_ _
            refine NoPanic.normal ?_
            clear hHeld hHeld1 hHeld7 hHeld9 hHeld10
            obtain ⟨⟨y0, y1, y2, y3, y4, y5, y6, y7⟩, x8, x9⟩ := HSv.out U4 HUB4.out
            go_upto_region 29 with (go_at_call 6; go_loud ((
                refine (HNw2.out U4 HUB4.out).mono ?_
                rintro e U5 ⟨fw, ew, rfl, HF5, ub5⟩
                have HUb5 := hid0 ub5
                have HUB5 : Hid (Below Wc.heap.size Wc U5) := hid0 (Below.later HUB4.out ub5)
                clear ub5 HNw2)))
            clear y0 y1 y2 y3 y4 y5 y6 y7 x8 x9
            rcases HF5.out with hG | hG
            · clear HF5
              obtain ⟨kk, hkk, rfl, rfl⟩ := hG
              obtain ⟨rfl, rfl⟩ : dv = .pointer none ∧ mz = (kk : Int) + 1 := by
                rcases HR4.out with ⟨k2, h1, h2, h3⟩ | ⟨h1, _⟩
                · rw [hkk] at h1
                  injection h1 with h1
                  subst h1
                  exact ⟨h2, h3⟩
                · rw [hkk] at h1
                  cases h1
              have HNu2 := hid0 (numE (HQ.out U5 HUB5.out).2.2.2.1 hkk)
              have HEn := hid0 ((HIn.out U5 (HQ.out U5 HUB5.out).2.2.2.2).2.2.2.2.2)
              have hkk4 : (kk : Int) ≤ 4 := by rcases nwE_val hkk with rfl | rfl | rfl <;> omega
              clear HR4 hkk
              go_wp2_with (go_at_call 9; go_loud ((
                refine HNu2.out.mono ?_
                rintro e U6 ⟨rfl, rfl⟩)))
              go_ret
              exact ⟨rfl, HEn.out⟩
            · clear HF5
              obtain ⟨hkk, hfs2, q3, f3, rfl, rfl, hfa2⟩ := hG
              obtain ⟨X3, rfl, rfl, hrf3⟩ : ∃ X3 : Nat, dv = .pointer (some ⟨X3, 0, none⟩) ∧ mz = 0 ∧ RfA U4 ⟨p.sl, N', O', p.sr, M', P', B', p.el⟩ ⟨some ⟨H1, 0, none⟩, some ⟨H2, 0, none⟩, some ⟨H3, 0, none⟩, some ⟨H4, 0, none⟩, some ⟨h7, 0, none⟩, j1, j2, j3, j4, j7⟩ sy bef tr' E' ⟨X3, some ⟨gU, 0, none⟩, cU, some ⟨gR, 0, none⟩, cR⟩ := by
                rcases HR4.out with ⟨k2, h1, _⟩ | ⟨_, h2⟩
                · rw [hkk] at h1
                  cases h1
                · exact h2
              have HTw := hid0 (texts_any A T aX cX (hfa2 U5 (Agree.refl _ _)) hfs2 (hrf3.past HUb5.out) (HIn.out U5 (HQ.out U5 HUB5.out).2.2.2.2).2.2.2.1 HH.out.xll HH.out.xl (HQ.out U5 HUB5.out).2.2.2.1)
              have HEn := hid0 ((HIn.out U5 (HQ.out U5 HUB5.out).2.2.2.2).2.2.2.2.2)
              have HNu2 := hid0 (kitNum_nil U5)
              obtain ⟨x0, x1, x2, x3, x4, x5, x6, x7, x8, x9, x10, x11, x12⟩ := HC0.out U5 (HQ.out U5 HUB5.out).2.2.2.2
              clear HR4 hkk hfs2 hfa2 hrf3
              go_wp2_with (first
                | (go_at_call 9; go_loud ((
                    refine HNu2.out.mono ?_
                    rintro e U6 ⟨rfl, rfl⟩)))
                | (go_at_call 20; go_loud ((
                    refine HTw.out.mono ?_
                    rintro e U7 ⟨rfl, ub7⟩
                    have HU7 := hid0 ub7
                    clear ub7))))
              go_ret
              exact ⟨rfl, Below.later HEn.out HU7.out⟩
end Go.Proofs.YtekimkdaoblcgaaDoor
