/-
  PrBM, PrDM, ExTk, PrEW, PrBW, PrFW, PrGM, PrHW, PrIW, PrCW.
-/
import Derived.Test.YtilnanefkbdbkaaDoorMxa
import Derived.Maps.OwnSet
import Derived.Maps.OwnOps
import Derived.DeepKeys4
import Derived.Test.YtilnanefkbdbkaaDoorProg
import Derived.WalkKit
import Derived.Deep.RegionHeld3
import Derived.Laws.EntriesVeiled
import Derived.Laws.OwnMore
import Derived.BigRegion
import Derived.Deep.Cut
namespace Go.Proofs.YtilnanefkbdbkaaDoor
open Go.RowKit Go.Shelf
/-- Lists of numbers in memory, with their room. -/
structure RwC (w : World) (a : Option Addr) (L : List (List Int)) : Prop where
  at' : ∀ k (h : k < L.length), ∃ b off, a = some ⟨b, off, none⟩ ∧ b < w.heap.size ∧ ∃ a1 c1, w.cell? ⟨b, off + k, none⟩ = some (.slice a1 (L[k]).length c1) ∧ IA w a1 L[k] ∧ (L[k]).length ≤ c1
theorem RwC.rwa {w : World} {a : Option Addr} {L : List (List Int)} (h : RwC w a L) : RwA w a L := ⟨fun k hk => by
  obtain ⟨b, off, e, h1, a1, c1, h2, h3, _⟩ := h.at' k hk
  exact ⟨b, off, e, h1, a1, c1, h2, h3⟩⟩
theorem RwC.past {w w' : World} {a : Option Addr} {L : List (List Int)} (h : RwC w a L) (hb : Below w.heap.size w w') : RwC w' a L := ⟨fun k hk => by
  obtain ⟨b, off, rfl, h1, a1, c1, h2, h3, h4⟩ := h.at' k hk
  exact ⟨b, off, rfl, Nat.lt_of_lt_of_le h1 hb.size, a1, c1, (hb.cell (p := ⟨b, off + k, none⟩) h1).trans h2, h3.past hb, h4⟩⟩
/-- Bools in memory. -/
structure BoA (w : World) (a : Option Addr) (L : List Bool) : Prop where
  at' : ∀ k (h : k < L.length), ∃ b off, a = some ⟨b, off, none⟩ ∧ b < w.heap.size ∧ w.cell? ⟨b, off + k, none⟩ = some (.bool L[k])
theorem BoA.past {w w' : World} {a : Option Addr} {L : List Bool} (h : BoA w a L) (hb : Below w.heap.size w w') : BoA w' a L := ⟨fun k hk => by
  obtain ⟨b, off, rfl, h1, h2⟩ := h.at' k hk
  exact ⟨b, off, rfl, Nat.lt_of_lt_of_le h1 hb.size, (hb.cell (p := ⟨b, off + k, none⟩) h1).trans h2⟩⟩
/-- A pairing, as lists. -/
structure Prg where
  sl : Int
  N : List (List Int)
  O : List (List Int)
  sr : Int
  M : List (List Int)
  P : List (List Int)
  B : List Bool
  el : Bool
/-- Where it lies. -/
structure PrL where
  aN : Option Addr
  aO : Option Addr
  aM : Option Addr
  aP : Option Addr
  aB : Option Addr
  cN : Nat
  cO : Nat
  cM : Nat
  cP : Nat
  cB : Nat
def prC (p : Prg) (q : PrL) : Array Value := #[.int .i64 p.sl, .slice q.aN p.N.length q.cN, .slice q.aO p.O.length q.cO, .int .i64 p.sr, .slice q.aM p.M.length q.cM, .slice q.aP p.P.length q.cP, .slice q.aB p.B.length q.cB, .bool p.el]
structure PrA (w : World) (p : Prg) (q : PrL) : Prop where
  n : RwC w q.aN p.N
  o : RwC w q.aO p.O
  m : RwC w q.aM p.M
  p' : RwC w q.aP p.P
  b : BoA w q.aB p.B
theorem PrA.past {w w' : World} {p : Prg} {q : PrL} (h : PrA w p q) (hb : Below w.heap.size w w') : PrA w' p q := ⟨h.n.past hb, h.o.past hb, h.m.past hb, h.p'.past hb, h.b.past hb⟩
structure PrS (p : Prg) : Prop where
  n : p.N.length ≤ 1000000000
  m : p.M.length ≤ 1000000000
  b : p.B.length ≤ 1000000000
  nr : ∀ r ∈ p.N, r.length ≤ 1000000000
  or : ∀ r ∈ p.O, r.length ≤ 1000000000
  mr : ∀ r ∈ p.M, r.length ≤ 1000000000
  pr : ∀ r ∈ p.P, r.length ≤ 1000000000
theorem row8p {W : World} {X : Nat} {t : TypeId} {a0 a1 a2 a3 a4 a5 a6 a7 : Value} (h : W.heap[X]? = some (.cells #[a0, a1, a2, a3, a4, a5, a6, a7] t (0, 0))) : (W.cell? ⟨X, 0, none⟩ = some a0 ∧ W.cell? ⟨X, 1, none⟩ = some a1 ∧ W.cell? ⟨X, 2, none⟩ = some a2 ∧ W.cell? ⟨X, 3, none⟩ = some a3) ∧ W.cell? ⟨X, 4, none⟩ = some a4 ∧ W.cell? ⟨X, 5, none⟩ = some a5 ∧ W.cell? ⟨X, 6, none⟩ = some a6 ∧ W.cell? ⟨X, 7, none⟩ = some a7 := by
  refine ⟨⟨?_, ?_, ?_, ?_⟩, ?_, ?_, ?_, ?_⟩ <;> (rw [cell_of_row _ _ _ _ _ _ h]; rfl)
/-- A pairing that is boxed. -/
theorem box_pr (w : World) (p : Prg) (q : PrL) : ∃ w0, w.alloc (.cells #[.int .i64 p.sl, .slice q.aN p.N.length q.cN, .slice q.aO p.O.length q.cO, .int .i64 p.sr, .slice q.aM p.M.length q.cM, .slice q.aP p.P.length q.cP, .slice q.aB p.B.length q.cB, .bool p.el] 27) = w0 ∧ Below w.heap.size w w0 ∧ w0.heap.size = w.heap.size + 1 ∧
    ∀ V : World, Below w0.heap.size w0 V → (V.cell? ⟨w.heap.size, 0, none⟩ = some (.int .i64 p.sl) ∧ V.cell? ⟨w.heap.size, 1, none⟩ = some (.slice q.aN p.N.length q.cN) ∧ V.cell? ⟨w.heap.size, 2, none⟩ = some (.slice q.aO p.O.length q.cO) ∧ V.cell? ⟨w.heap.size, 3, none⟩ = some (.int .i64 p.sr)) ∧ V.cell? ⟨w.heap.size, 4, none⟩ = some (.slice q.aM p.M.length q.cM) ∧ V.cell? ⟨w.heap.size, 5, none⟩ = some (.slice q.aP p.P.length q.cP) ∧ V.cell? ⟨w.heap.size, 6, none⟩ = some (.slice q.aB p.B.length q.cB) ∧ V.cell? ⟨w.heap.size, 7, none⟩ = some (.bool p.el) := by
  refine ⟨_, rfl, (Below.refl _ _).alloc (Nat.le_refl _) _, by simp, fun V hV => ?_⟩
  exact row8p ((hV.block _ (by simp)).trans (heap_alloc_new w _))
end Go.Proofs.YtilnanefkbdbkaaDoor
namespace Go.Proofs.YtilnanefkbdbkaaDoor
open Go.RowKit Go.Maps Go.ChangeShapes Go.Shelf
theorem law2 : Keyed Tryd.prog 64 := Keyed.of_law (deep_law_laid (m := 5) (by kernel_rfl) (by decide) (of_decide_eq_true (by kernel_rfl)) (by kernel_rfl) (by kernel_rfl))
theorem keyType2 : Tryd.prog.keyType 64 = true := by kernel_rfl
theorem cells2 : Tryd.prog.cellsOf 64 = 2 := by kernel_rfl
theorem cellsI1 : Tryd.prog.cellsOf 3 = 1 := by kernel_rfl
theorem types2 : ∃ m, Tryd.prog.types.size = m + 1 := ⟨Tryd.prog.types.size - 1, by kernel_rfl⟩
structure inN (x : Nat) : Prop where
  le : x ≤ 1000000000000
theorem wfN {x : Nat} (h : inN x) : (Lit.int .i64 (x : Int)).wf = true := by have h := h.le; simp [Lit.wf, IntKind.min, IntKind.max, IntKind.bits, IntKind.signed]; omega
theorem key2_some {x y : Nat} (hx : inN x) (hy : inN y) : ∃ l, keyOf Tryd.prog 64 (.agg #[.int .i64 (x : Int), .int .i64 (y : Int)]) = some l := by
  obtain ⟨m, hm⟩ := types2
  have one : ∀ z : Nat, inN z → Tryd.prog.keyLits (m + 1) 3 [.int .i64 (z : Int)] = some [.int .i64 (z : Int)] := fun z hz => by
    unfold Program.keyLits
    simp only [Tryd.underlying3]
    rw [if_pos ⟨trivial, wfN hz⟩]
  have hk : ∃ ls, Tryd.prog.keyLits (m + 1 + 1) 64 [.int .i64 (x : Int), .int .i64 (y : Int)] = some ls := by
    unfold Program.keyLits
    simp only [Tryd.underlying64]
    rw [if_pos (by rw [cells2]; rfl)]
    refine ⟨[.int .i64 (x : Int), .int .i64 (y : Int)], ?_⟩
    rw [cellsI1]
    have h0 : Tryd.prog.keyLits (m + 1) 3 ((([Value.int .i64 (x : Int), .int .i64 (y : Int)]).drop (0 * 1)).take 1) = some [.int .i64 (x : Int)] := one x hx
    have h1 : Tryd.prog.keyLits (m + 1) 3 ((([Value.int .i64 (x : Int), .int .i64 (y : Int)]).drop (1 * 1)).take 1) = some [.int .i64 (y : Int)] := one y hy
    have hr : List.range 2 = [0, 1] := rfl
    rw [hr]
    simp only [List.mapM_cons, List.mapM_nil, h0, h1]
    rfl
  obtain ⟨ls, hls⟩ := hk
  refine ⟨.string (keyBytes ls), ?_⟩
  unfold keyOf
  simp only [Tryd.underlying64]
  rw [if_pos (by simp [keyType2, Value.formed, Tryd.underlying64, cells2]), hm]
  simp only [Value.cells, hls, Option.map_some]
noncomputable def key2 (x y : Nat) : Lit := (keyOf Tryd.prog 64 (.agg #[.int .i64 (x : Int), .int .i64 (y : Int)])).getD (.bool false)
theorem key2_of {x y : Nat} (hx : inN x) (hy : inN y) : keyOf Tryd.prog 64 (.agg #[.int .i64 (x : Int), .int .i64 (y : Int)]) = some (key2 x y) := by
  obtain ⟨l, hl⟩ := key2_some hx hy
  rw [key2, hl]; rfl
theorem key2_inj {x y u v : Nat} (hx : inN x) (hy : inN y) (hu : inN u) (hv : inN v) (h : key2 x y = key2 u v) : x = u ∧ y = v := by
  have h1 := key2_of hx hy
  have h2 := key2_of hu hv
  rw [h] at h1
  have := law2.inj h1 h2
  simp only [Value.agg.injEq, Array.mk.injEq, List.cons.injEq, Value.int.injEq, true_and, and_true] at this
  omega
theorem key2_lit {x y : Nat} (hx : inN x) (hy : inN y) : WideAt.IsKeyLit (key2 x y) := law2.key (key2_of hx hy)
/-- The map in block B knows nothing but what f says; it has q entries at most. -/
def Kn2 (w : World) (B q : Nat) (f : Nat → Nat → Int) : Prop :=
  ∃ (n : Nat) (D : DataW Unit), w.ownsMap Tryd.prog 64 (plainElem Tryd.prog 3) B n D ∧ n ≤ q ∧ ∀ x y, inN x → inN y → Maps.has D (key2 x y) = true → D.atKey (key2 x y) (.lit (.int .i64 0)) = .lit (.int .i64 (f x y))
theorem Kn2.made (w : World) (f : Nat → Nat → Int) : Kn2 (w.alloc (.map #[] 0)) w.heap.size 0 f :=
  ⟨0, .map [], World.ownsMap_made w _ _ _, Nat.le_refl _, fun x y _ _ h => by cases h⟩
theorem Kn2.lt {w : World} {B q : Nat} {f : Nat → Nat → Int} (h : Kn2 w B q f) : B < w.heap.size := by
  obtain ⟨n, D, h1, _⟩ := h
  exact h1.lt
theorem Kn2.block {w w' : World} {B q : Nat} {f : Nat → Nat → Int} (h : Kn2 w B q f) (hb : w'.heap[B]? = w.heap[B]?) : Kn2 w' B q f := by
  obtain ⟨n, D, ⟨es, clock, h1, h2⟩, h3⟩ := h
  exact ⟨n, D, ⟨es, clock, hb.trans h1, h2⟩, h3⟩
/-- What a look says: what f says, or that it is not there. -/
theorem Kn2.look {w : World} {B q x y : Nat} {f : Nat → Nat → Int} (h : Kn2 w B q f) (hx : inN x) (hy : inN y) :
    (Instr.lookup 63 (.map (some B)) (.agg #[.int .i64 (x : Int), .int .i64 (y : Int)]) true).run Tryd.prog w = .ok (.tuple #[.int .i64 (f x y), .bool true]) w ∨ ∃ z, (Instr.lookup 63 (.map (some B)) (.agg #[.int .i64 (x : Int), .int .i64 (y : Int)]) true).run Tryd.prog w = .ok (.tuple #[.int .i64 z, .bool false]) w := by
  obtain ⟨n, D, h1, _, hs⟩ := h
  obtain ⟨v, ps, hrun, hv⟩ := h1.look_ok (t := 63) law2 Tryd.underlying63 (Tryd.zeroValue3 w) (plainElem_int Tryd.underlying3 (by decide)) (key2_of hx hy)
  obtain ⟨c, rfl, hcc, _⟩ := plainElem_int_inv Tryd.underlying3 hv
  cases e : Maps.has D (key2 x y) with
  | false => rw [e] at hrun; exact .inr ⟨c, hrun⟩
  | true =>
    rw [e] at hrun
    have e1 := congrArg Prod.fst hcc
    have e2 := hs x y hx hy e
    simp only [e2] at e1
    injection e1 with e1
    injection e1 with _ e1
    rw [← e1] at hrun
    exact .inl hrun
theorem kn_put {D : DataW Unit} {K : Nat → Nat → Lit} {x y : Nat} {f : Nat → Nat → Int} (hlit : WideAt.IsKeyLit (K x y)) (hinj : ∀ u v, inN u → inN v → K u v = K x y → u = x ∧ v = y) (hD : Maps.IsMap D) (h : ∀ u v, inN u → inN v → Maps.has D (K u v) = true → D.atKey (K u v) (.lit (.int .i64 0)) = .lit (.int .i64 (f u v))) :
    ∀ u v, inN u → inN v → Maps.has (D.put (K x y) (.lit (.int .i64 (f x y)))) (K u v) = true → (D.put (K x y) (.lit (.int .i64 (f x y)))).atKey (K u v) (.lit (.int .i64 0)) = .lit (.int .i64 (f u v)) := by
  intro u v hu hv hh
  by_cases e : u = x ∧ v = y
  · obtain ⟨e1, e2⟩ := e
    rw [e1, e2]
    exact Maps.atKey_put_same hD hlit _ _
  · have hne : K u v ≠ K x y := fun q => e (hinj u v hu hv q)
    rw [Maps.has_put_other hne] at hh
    rw [Maps.atKey_put_other hne]
    exact h u v hu hv hh
theorem key2_lit' (x y : Nat) (hx : inN x) (hy : inN y) (k : Lit) (hk : k = key2 x y) : WideAt.IsKeyLit k := by
  subst hk
  exact law2.key (key2_of hx hy)
set_option maxRecDepth 100000 in
theorem Kn2.put {w : World} {B q x y : Nat} {f : Nat → Nat → Int} (h : Kn2 w B q f) (hx : inN x) (hy : inN y) (hq : q ≤ 1000000000) (hf : (Lit.int .i64 (f x y)).wf = true) :
    ∃ w', (Instr.mapUpdate 63 (.map (some B)) (.agg #[.int .i64 (x : Int), .int .i64 (y : Int)]) (.int .i64 (f x y))).run Tryd.prog w = .ok () w' ∧ Kn2 w' B (q + 1) f ∧ w.grownBy w' (some B) := by
  obtain ⟨n, D, h1, hn, hs⟩ := h
  obtain ⟨w', hrun, h2, h3⟩ := h1.update (t := 63) law2 Tryd.underlying63 (by unfold maxLen; omega) (key2_of hx hy) (plainElem_int Tryd.underlying3 hf)
  have hl : WideAt.IsKeyLit (key2 x y) := law2.key (key2_of hx hy)
  have hI : ∀ u v, inN u → inN v → key2 u v = key2 x y → u = x ∧ v = y := fun u v hu hv q => key2_inj hu hv hx hy q
  have hp := kn_put (K := key2) (x := x) (y := y) (f := f) (D := D) hl hI (World.ownsMap.isMap h1) hs
  exact ⟨w', hrun, ⟨n + 1, _, h2, Nat.succ_le_succ hn, hp⟩, h3⟩
end Go.Proofs.YtilnanefkbdbkaaDoor
namespace Go.Proofs.YtilnanefkbdbkaaDoor
open Go.RowKit
section
variable {P : Program} {ops : Array Oper} {Q : Exit → Act → World → Prop} {md : Region.Mode} {S : World → Prop}
/-- An operation that yields a value is taken first. -/
theorem tkV {i : Nat} {oi : Oper} {d : Option Tmp} {v : Value} {fuel : Nat} {listed : Array Bool} {a : Act} {w : World} (hi : ops[i]? = some oi)
    (hs : Region.noSelect ops = true) (hf : Region.free md ops listed i = true) (hr : (Region.ready md ops listed).contains i = true) (hd : oi.dst = d)
    (hQ : ∀ c a w, Q (.panic c) (a.put d v) w → Q (.panic c) a w) (hw : Region.wanted oi (yielded ops a.tmps) = true) (hv : ∀ w, S w → (execOp a.eval oi).run P w = .ok (.value v) w) (hS : S w)
    (h : wpAnyH P md ops Q S fuel (listed.setIfInBounds i true) (a.put d v) w) : wpAnyH P md ops Q S (fuel + 1) listed a w := by
  subst hd
  exact wpAnyH_take hi hs hf hr hQ (.inl ⟨hw, hv⟩) hS h
/-- One that is not wanted. -/
theorem tkU {i : Nat} {oi : Oper} {d : Option Tmp} {fuel : Nat} {listed : Array Bool} {a : Act} {w : World} (hi : ops[i]? = some oi)
    (hs : Region.noSelect ops = true) (hf : Region.free md ops listed i = true) (hr : (Region.ready md ops listed).contains i = true) (hd : oi.dst = d)
    (hQ : ∀ c a w, Q (.panic c) (a.put d undef) w → Q (.panic c) a w) (hw : Region.wanted oi (yielded ops a.tmps) = false) (hS : S w)
    (h : wpAnyH P md ops Q S fuel (listed.setIfInBounds i true) (a.put d undef) w) : wpAnyH P md ops Q S (fuel + 1) listed a w := by
  subst hd
  exact wpAnyH_take hi hs hf hr hQ (.inr ⟨hw, rfl⟩) hS h
end
end Go.Proofs.YtilnanefkbdbkaaDoor
namespace Go.Proofs.YtilnanefkbdbkaaDoor
open Go.RowKit Go.Shelf
/-- Nothing but a block, and new ones, is another. -/
structure Exc (w w' : World) (B : Nat) : Prop where
  os : w'.os = w.os
  tape : w'.tape = w.tape
  output : w'.output = w.output
  size : w.heap.size ≤ w'.heap.size
  oth : ∀ k, k < w.heap.size → k ≠ B → w'.heap[k]? = w.heap[k]?
theorem Exc.refl (w : World) (B : Nat) : Exc w w B := ⟨rfl, rfl, rfl, Nat.le_refl _, fun _ _ _ => rfl⟩
theorem Exc.trans {a b c : World} {B : Nat} (h : Exc a b B) (k : Exc b c B) : Exc a c B := ⟨k.os.trans h.os, k.tape.trans h.tape, k.output.trans h.output, Nat.le_trans h.size k.size, fun i hi hd => (k.oth i (Nat.lt_of_lt_of_le hi h.size) hd).trans (h.oth i hi hd)⟩
theorem Exc.of {w w' : World} (h : Below w.heap.size w w') (B : Nat) : Exc w w' B := ⟨h.os, h.tape, h.output, h.size, fun k hk _ => h.block k hk⟩
theorem Exc.grown {w w' : World} {B : Nat} (h : w.grownBy w' (some B)) : Exc w w' B := ⟨h.os, h.tape, h.output, h.size, fun k hk hn => h.block k hk (fun e => hn (Option.some.inj e))⟩
theorem Exc.below {w w' : World} {B lo : Nat} (h : Exc w w' B) (hl : lo ≤ B) (hw : lo ≤ w.heap.size) : Below lo w w' := ⟨h.os, h.tape, h.output, h.size, fun k hk => h.oth k (by omega) (by omega)⟩
theorem Exc.cell {w w' : World} {B b o : Nat} {u : Value} (h : Exc w w' B) (hb : b ≠ B) (hc : w.cell? ⟨b, o, none⟩ = some u) : w'.cell? ⟨b, o, none⟩ = some u := (World.cell?_of_block (w := w) (h.oth b (World.block_lt_of_cell? _ _ hc) hb)).trans hc
/-- What is asked of the lists of what is told. -/
structure Tld (O P : List (List Int)) : Prop where
  o : ∀ j, j < O.length → Rs (O.getD j []) ∧ (O.getD j []).length ≤ 1000000000 ∧ ∀ z ∈ O.getD j [], 0 ≤ z ∧ z < 1000000000
  p : ∀ j, j < P.length → Rs (P.getD j []) ∧ (P.getD j []).length ≤ 1000000000
def fsF (O P : List (List Int)) (x y : Nat) : Int := lstF (O.getD x []) (P.getD y [])
theorem Tld.wf {O P : List (List Int)} (h : Tld O P) {x y : Nat} (hx : x < O.length) : (Lit.int .i64 (fsF O P x y)).wf = true := by
  have hb : -1 ≤ fsF O P x y ∧ fsF O P x y < 1000000000 := by
    by_cases e : fsF O P x y = -1
    · omega
    · have := (h.o x hx).2.2 _ (lstF_mem (b := P.getD y []) e)
      unfold fsF
      omega
  generalize fsF O P x y = z at *
  simp [Lit.wf, IntKind.min, IntKind.max, IntKind.bits, IntKind.signed]; omega
/-- What the closure leaves. -/
def FsR (w : World) (Bm q : Nat) (f : Nat → Nat → Int) (w' : World) : Prop := Kn2 w' Bm (q + 1) f ∧ Exc w w' Bm
set_option maxRecDepth 10000 in
set_option maxHeartbeats 1600000 in
theorem first_any (O P : List (List Int)) (x y Kb Pb Bm q cO cP : Nat) (aO aP : Option Addr) (w : World) (hO : RwC w aO O) (hP : RwC w aP P) (ht : Tld O P) (hx : x < O.length) (hy : y < P.length) (hxb : inN x) (hyb : inN y) (hq : q ≤ 1000000000)
    (k0 : w.cell? ⟨Kb, 0, none⟩ = some (.map (some Bm))) (p2 : w.cell? ⟨Pb, 2, none⟩ = some (.slice aO O.length cO)) (p5 : w.cell? ⟨Pb, 5, none⟩ = some (.slice aP P.length cP)) (hk : Kn2 w Bm q (fsF O P)) :
    Calls Tryd.prog 42 #[.int .i64 (x : Int), .int .i64 (y : Int), .pointer (some ⟨Kb, 0, none⟩), .pointer (some ⟨Pb, 0, none⟩)] w fun e w' => e = .returned (.int .i64 (fsF O P x y)) ∧ FsR w Bm q (fsF O P) w' := by
  obtain ⟨w1, hw1⟩ : ∃ w1, w1 = w.alloc (.cells #[.int .i64 (x : Int), .int .i64 (y : Int)] 64) := ⟨_, rfl⟩
  have hB1 : Below w.heap.size w w1 := by rw [hw1]; exact (Below.refl _ _).alloc (Nat.le_refl _) _
  have hY1 : w1.heap[w.heap.size]? = some (.cells #[.int .i64 (x : Int), .int .i64 (y : Int)] 64 (0, 0)) := by rw [hw1]; exact heap_alloc_new w _
  have y0 : w1.cell? ⟨w.heap.size, 0, none⟩ = some (.int .i64 (x : Int)) := by rw [cell_of_row _ _ _ _ _ _ hY1]; rfl
  have y1 : w1.cell? ⟨w.heap.size, 1, none⟩ = some (.int .i64 (y : Int)) := by rw [cell_of_row _ _ _ _ _ _ hY1]; rfl
  have k1 : w1.cell? ⟨Kb, 0, none⟩ = some (.map (some Bm)) := (hB1.cell (p := ⟨Kb, 0, none⟩) (World.block_lt_of_cell? _ _ k0)).trans k0
  have d1' : w1.cell? ⟨Pb, 2, none⟩ = some (.slice aO O.length cO) := (hB1.cell (p := ⟨Pb, 2, none⟩) (World.block_lt_of_cell? _ _ p2)).trans p2
  have d2' : w1.cell? ⟨Pb, 5, none⟩ = some (.slice aP P.length cP) := (hB1.cell (p := ⟨Pb, 5, none⟩) (World.block_lt_of_cell? _ _ p5)).trans p5
  have hk1 : Kn2 w1 Bm q (fsF O P) := hk.block (hB1.block _ hk.lt)
  have HK1 := hid0 hk1
  have HB1 := hid0 hB1
  have HT := hid0 ht
  obtain ⟨bO, oO, rfl, _, a1, c1, d3, ia1, hc1⟩ := (hO.past hB1).at' x hx
  obtain ⟨bP, oP, rfl, _, a2, c2, d4, ia2, hc2⟩ := (hP.past hB1).at' y hy
  obtain ⟨r1, hr1⟩ : ∃ r1, r1 = O[x] := ⟨_, rfl⟩
  obtain ⟨r2, hr2⟩ : ∃ r2, r2 = P[y] := ⟨_, rfl⟩
  rw [← hr1] at d3 ia1 hc1
  rw [← hr2] at d4 ia2 hc2
  have er1 : O.getD x [] = r1 := by rw [getD_at hx, hr1]
  have er2 : P.getD y [] = r2 := by rw [getD_at hy, hr2]
  have HLb := hid0 (leastOfBoth_any r1 r2 a1 a2 c1 c2 w1.drew (by have := (ht.o x hx).2.1; rw [er1] at this; exact this) (by have := (ht.p y hy).2; rw [er2] at this; exact this) hc1 hc2 (by have := (ht.o x hx).1; rw [er1] at this; exact this) (by have := (ht.p y hy).1; rw [er2] at this; exact this) ⟨ia1.at'⟩ ⟨ia2.at'⟩)
  have HF : Hid (lstF r1 r2 = fsF O P x y) := hid0 (by unfold fsF; rw [er1, er2])
  rw [HF.out] at HLb
  have HWf := hid0 (ht.wf (P := P) (y := y) hx)
  have hxI : (x : Int) < (O.length : Int) := by omega
  have hyI : (y : Int) < (P.length : Int) := by omega
  have hxI0 : (0 : Int) ≤ (x : Int) := by omega
  have hyI0 : (0 : Int) ≤ (y : Int) := by omega
  have hfold := hw1.symm
  have d1 := d1'
  have d2 := d2'
  clear hw1 hB1 hY1 k0 p2 p5 hk hk1 hO hP ht ia1 ia2 hr1 hr2 er1 er2 d1' d2' HF
  generalize hres : fsF O P x y = res at *
  have HRes := hid0 hres
  clear hres
  rcases HK1.out.look hxb hyb with hlk | ⟨z, hlk⟩
  · rw [HRes.out] at hlk
    go_enter Tryd.func42, Tryd.ntmps42
    go_wp2
    go_ret
    exact ⟨rfl, by obtain ⟨n, D, h1, h2, h3⟩ := HK1.out; exact ⟨n, D, h1, by omega, h3⟩, Exc.of HB1.out _⟩
  · go_enter Tryd.func42, Tryd.ntmps42
    go_wp2
    refine wp_region_noPanic ?_
    refine wp_region_held_drew (S := (fun V => V.cell? ⟨Pb, 2, none⟩ = some (.slice (some ⟨bO, oO, none⟩) O.length cO) ∧ V.cell? ⟨Pb, 5, none⟩ = some (.slice (some ⟨bP, oP, none⟩) P.length cP) ∧ V.cell? ⟨bO, oO + x, none⟩ = some (.slice a1 r1.length c1) ∧ V.cell? ⟨bP, oP + y, none⟩ = some (.slice a2 r2.length c2))) (by kernel_rfl) ?_ (fun hHeld => ?_)
    · exact ⟨d1, d2, d3, d4⟩
    refine tkV (i := 0) (d := some 21) (v := ?_) rfl (by kernel_rfl) (by kernel_rfl) (by kernel_rfl) rfl (fun _ _ _ h => h) (by rfl) ?_ (by assumption) ?_
    rotate_left
    · (intro w hSw; (try dsimp only at hSw); (try simp only [List.getElem_toArray, List.getElem_cons_zero]); go_simp; try with_reducible rfl)
    try simp only [Act.put, List.setIfInBounds_toArray, List.set_cons_zero, List.set_cons_succ]
    refine tkV (i := 1) (d := some 22) (v := ?_) rfl (by kernel_rfl) (by kernel_rfl) (by kernel_rfl) rfl (fun _ _ _ h => h) (by rfl) ?_ (by assumption) ?_
    rotate_left
    · (intro w hSw; (try dsimp only at hSw); (try simp only [List.getElem_toArray, List.getElem_cons_zero, List.getElem_cons_succ]); go_simp; try with_reducible rfl)
    try simp only [Act.put, List.setIfInBounds_toArray, List.set_cons_zero, List.set_cons_succ]
    refine tkV (i := 2) (d := some 23) (v := ?_) rfl (by kernel_rfl) (by kernel_rfl) (by kernel_rfl) rfl (fun _ _ _ h => h) (by rfl) ?_ (by assumption) ?_
    rotate_left
    · (intro w hSw; (try dsimp only at hSw); (try simp only [List.getElem_toArray, List.getElem_cons_zero, List.getElem_cons_succ]); go_simp; try with_reducible rfl)
    try simp only [Act.put, List.setIfInBounds_toArray, List.set_cons_zero, List.set_cons_succ]
    refine tkV (i := 3) (d := some 24) (v := ?_) rfl (by kernel_rfl) (by kernel_rfl) (by kernel_rfl) rfl (fun _ _ _ h => h) (by rfl) ?_ (by assumption) ?_
    rotate_left
    · (intro w hSw; (try dsimp only at hSw); (try simp only [List.getElem_toArray, List.getElem_cons_zero, List.getElem_cons_succ]); go_simp; try with_reducible rfl)
    try simp only [Act.put, List.setIfInBounds_toArray, List.set_cons_zero, List.set_cons_succ]
    refine tkV (i := 4) (d := some 25) (v := ?_) rfl (by kernel_rfl) (by kernel_rfl) (by kernel_rfl) rfl (fun _ _ _ h => h) (by rfl) ?_ (by assumption) ?_
    rotate_left
    · (intro w hSw; (try dsimp only at hSw); (try simp only [List.getElem_toArray, List.getElem_cons_zero, List.getElem_cons_succ]); go_simp; try with_reducible rfl)
    try simp only [Act.put, List.setIfInBounds_toArray, List.set_cons_zero, List.set_cons_succ]
    refine tkV (i := 5) (d := some 26) (v := ?_) rfl (by kernel_rfl) (by kernel_rfl) (by kernel_rfl) rfl (fun _ _ _ h => h) (by rfl) ?_ (by assumption) ?_
    rotate_left
    · (intro w hSw; (try dsimp only at hSw); (try simp only [List.getElem_toArray, List.getElem_cons_zero, List.getElem_cons_succ]); go_simp; try with_reducible rfl)
    try simp only [Act.put, List.setIfInBounds_toArray, List.set_cons_zero, List.set_cons_succ]
    refine tkV (i := 6) (d := some 27) (v := ?_) rfl (by kernel_rfl) (by kernel_rfl) (by kernel_rfl) rfl (fun _ _ _ h => h) (by rfl) ?_ (by assumption) ?_
    rotate_left
    · (intro w hSw; (try dsimp only at hSw); (try simp only [List.getElem_toArray, List.getElem_cons_zero, List.getElem_cons_succ]); go_simp; try with_reducible rfl)
    try simp only [Act.put, List.setIfInBounds_toArray, List.set_cons_zero, List.set_cons_succ]
    refine tkV (i := 7) (d := some 28) (v := ?_) rfl (by kernel_rfl) (by kernel_rfl) (by kernel_rfl) rfl (fun _ _ _ h => h) (by rfl) ?_ (by assumption) ?_
    rotate_left
    · (intro w hSw; (try dsimp only at hSw); (try simp only [List.getElem_toArray, List.getElem_cons_zero, List.getElem_cons_succ]); go_simp; try with_reducible rfl)
    try simp only [Act.put, List.setIfInBounds_toArray, List.set_cons_zero, List.set_cons_succ]
    refine tkV (i := 8) (d := some 29) (v := ?_) rfl (by kernel_rfl) (by kernel_rfl) (by kernel_rfl) rfl (fun _ _ _ h => h) (by rfl) ?_ (by assumption) ?_
    rotate_left
    · (intro w hSw; (try dsimp only at hSw); (try simp only [List.getElem_toArray, List.getElem_cons_zero, List.getElem_cons_succ]); go_simp; try with_reducible rfl)
    try simp only [Act.put, List.setIfInBounds_toArray, List.set_cons_zero, List.set_cons_succ]
    refine tkV (i := 9) (d := some 30) (v := ?_) rfl (by kernel_rfl) (by kernel_rfl) (by kernel_rfl) rfl (fun _ _ _ h => h) (by rfl) ?_ (by assumption) ?_
    rotate_left
    · (intro w hSw; (try dsimp only at hSw); (try simp only [List.getElem_toArray, List.getElem_cons_zero, List.getElem_cons_succ]); go_simp; try with_reducible rfl)
    try simp only [Act.put, List.setIfInBounds_toArray, List.set_cons_zero, List.set_cons_succ]
    refine tkV (i := 10) (d := some 31) (v := ?_) rfl (by kernel_rfl) (by kernel_rfl) (by kernel_rfl) rfl (fun _ _ _ h => h) (by rfl) ?_ (by assumption) ?_
    rotate_left
    · (intro w hSw; (try dsimp only at hSw); (try simp only [List.getElem_toArray, List.getElem_cons_zero, List.getElem_cons_succ]); go_simp; try with_reducible rfl)
    try simp only [Act.put, List.setIfInBounds_toArray, List.set_cons_zero, List.set_cons_succ]
    refine tkV (i := 11) (d := some 32) (v := ?_) rfl (by kernel_rfl) (by kernel_rfl) (by kernel_rfl) rfl (fun _ _ _ h => h) (by rfl) ?_ (by assumption) ?_
    rotate_left
    · (intro w hSw; (try dsimp only at hSw); (try simp only [List.getElem_toArray, List.getElem_cons_zero, List.getElem_cons_succ]); go_simp; try with_reducible rfl)
    try simp only [Act.put, List.setIfInBounds_toArray, List.set_cons_zero, List.set_cons_succ]
    refine wpAnyH_ready (rs := [12]) (by kernel_rfl) (by simp) (AllReadyH.cons rfl (fun K hK => ?_) AllReadyH.nil)
    try simp only [List.getElem_toArray, List.getElem_cons_zero, List.getElem_cons_succ]
    go_simp
    refine HLb.out.mono ?_
    rintro e w2 ⟨rfl, nq, hw2⟩
    have HS2 : Hid ((fun V => V.cell? ⟨Pb, 2, none⟩ = some (.slice (some ⟨bO, oO, none⟩) O.length cO) ∧ V.cell? ⟨Pb, 5, none⟩ = some (.slice (some ⟨bP, oP, none⟩) P.length cP) ∧ V.cell? ⟨bO, oO + x, none⟩ = some (.slice a1 r1.length c1) ∧ V.cell? ⟨bP, oP + y, none⟩ = some (.slice a2 r2.length c2)) w2) := hid0 (by rw [hw2]; exact ⟨d1, d2, d3, d4⟩)
    have HW2 := hid0 hw2
    clear hw2
    go_wp2_with fail
    refine hK.out _ _ ?_ (fun hHeld12 => ?_)
    · exact HS2.out
    clear hK K
    (try simp only [Act.put]); (try simp only [List.setIfInBounds_toArray]); (try simp only [List.set_cons_succ]); (try simp only [List.set_cons_zero])
    refine tkV (i := 13) (d := some 8) (v := ?_) rfl (by kernel_rfl) (by kernel_rfl) (by kernel_rfl) rfl (fun _ _ _ h => h) (by rfl) ?_ (by assumption) ?_
    rotate_left
    · (intro w hSw; (try dsimp only at hSw); (try simp only [List.getElem_toArray, List.getElem_cons_zero, List.getElem_cons_succ]); go_simp; try with_reducible rfl)
    try simp only [Act.put, List.setIfInBounds_toArray, List.set_cons_zero, List.set_cons_succ]
    refine wpAnyH_done (by kernel_rfl) ?_ _
    refine NoPanic.normal ?_
    have hk2 : Kn2 w2 Bm q (fsF O P) := by rw [HW2.out]; exact HK1.out.block rfl
    obtain ⟨w3, hrun, hk3, hg3⟩ := hk2.put (x := x) (y := y) hxb hyb hq (by rw [HRes.out]; exact HWf.out)
    rw [HRes.out] at hrun
    have HK3 := hid0 hk3
    have HE3 : Hid (Exc w w3 Bm) := hid0 ((Exc.of (HB1.out.trans (by rw [HW2.out]; exact ⟨rfl, rfl, rfl, Nat.le_refl _, fun _ _ => rfl⟩)) _).trans (Exc.grown hg3))
    have y0' : w2.cell? ⟨w.heap.size, 0, none⟩ = some (.int .i64 (x : Int)) := by rw [HW2.out]; exact y0
    have y1' : w2.cell? ⟨w.heap.size, 1, none⟩ = some (.int .i64 (y : Int)) := by rw [HW2.out]; exact y1
    have k2' : w2.cell? ⟨Kb, 0, none⟩ = some (.map (some Bm)) := by rw [HW2.out]; exact k1
    clear hk2 hk3 hg3 hHeld hHeld12 hfold
    go_wp2
    go_ret
    exact ⟨rfl, HK3.out, HE3.out⟩
end Go.Proofs.YtilnanefkbdbkaaDoor
namespace Go.Proofs.YtilnanefkbdbkaaDoor
open Go.RowKit Go.Shelf
set_option maxRecDepth 10000 in
set_option maxHeartbeats 1600000 in
theorem symbolsOf_any (sl sr : Int) (N O M P : List (List Int)) (B : List Bool) (el : Bool) (aN aO aM aP aB : Option Addr) (cN cO cM cP cB : Nat) (w : World) (hs : PrS ⟨sl, N, O, sr, M, P, B, el⟩) (ha : PrA w ⟨sl, N, O, sr, M, P, B, el⟩ ⟨aN, aO, aM, aP, aB, cN, cO, cM, cP, cB⟩) :
    Calls Tryd.prog 25 #[.agg #[.int .i64 sl, .slice aN N.length cN, .slice aO O.length cO, .int .i64 sr, .slice aM M.length cM, .slice aP P.length cP, .slice aB B.length cB, .bool el]] w fun e w' => e = .returned (.int .i64 (symF N : Int)) ∧ Below w.heap.size w w' := by
  obtain ⟨w0, hw0, hB0, hz0, hC0⟩ := box_pr w ⟨sl, N, O, sr, M, P, B, el⟩ ⟨aN, aO, aM, aP, aB, cN, cO, cM, cP, cB⟩
  have HC : Hid (∀ V : World, Below w0.heap.size w0 V → (V.cell? ⟨w.heap.size, 0, none⟩ = some (.int .i64 sl) ∧ V.cell? ⟨w.heap.size, 1, none⟩ = some (.slice aN N.length cN) ∧ V.cell? ⟨w.heap.size, 2, none⟩ = some (.slice aO O.length cO) ∧ V.cell? ⟨w.heap.size, 3, none⟩ = some (.int .i64 sr)) ∧ V.cell? ⟨w.heap.size, 4, none⟩ = some (.slice aM M.length cM) ∧ V.cell? ⟨w.heap.size, 5, none⟩ = some (.slice aP P.length cP) ∧ V.cell? ⟨w.heap.size, 6, none⟩ = some (.slice aB B.length cB) ∧ V.cell? ⟨w.heap.size, 7, none⟩ = some (.bool el)) := hid0 hC0
  replace hw0 : w.alloc (.cells #[.int .i64 sl, .slice aN N.length cN, .slice aO O.length cO, .int .i64 sr, .slice aM M.length cM, .slice aP P.length cP, .slice aB B.length cB, .bool el] 27) = w0 := hw0
  obtain ⟨⟨x0, x1, x2, x3⟩, x4, x5, x6, x7⟩ := HC.out w0 (Below.refl _ _)
  have HB0 := hid0 hB0
  have hrn : RwC w0 aN N := ha.n.past hB0
  have HRn := hid0 hrn
  clear hB0 hz0 hrn hC0
  by_cases h0 : N.length = 0
  · have HV : Hid (symF N = 0) := hid0 (by unfold symF; rw [List.eq_nil_of_length_eq_zero h0]; rfl)
    have h0I : ((N.length : Int) == 0) = true := by rw [beq_iff_eq]; omega
    have h0J : (N.length : Int) = 0 := by omega
    clear h0
    go_enter Tryd.func25, Tryd.ntmps25
    go_wp2
    go_ret
    exact ⟨by rw [HV.out]; rfl, HB0.out⟩
  · obtain ⟨b, off, rfl, _, a1, c1, d1, _, _⟩ := HRn.out.at' 0 (by omega)
    have HV : Hid (symF N = N[0].length) := hid0 (by unfold symF; rw [getD_at (by omega)])
    rw [Nat.add_zero] at d1
    have h0I : ((N.length : Int) == 0) = false := by simp; intro e; subst e; exact h0 rfl
    have h0J : ¬ (N.length : Int) = 0 := by omega
    have h0K : (0 : Int) < (N.length : Int) := by omega
    have h0L : 0 < N.length := by omega
    have h0M : ¬ N = [] := fun e => h0 (by rw [e]; rfl)
    generalize N[0] = r at *
    clear h0
    go_enter Tryd.func25, Tryd.ntmps25
    go_wp2
    go_ret
    exact ⟨by rw [HV.out]; rfl, HB0.out⟩
set_option maxRecDepth 10000 in
set_option maxHeartbeats 1600000 in
theorem refSymbols_any (sl sr : Int) (N O M P : List (List Int)) (B : List Bool) (el : Bool) (aN aO aM aP aB : Option Addr) (cN cO cM cP cB : Nat) (w : World) (hs : PrS ⟨sl, N, O, sr, M, P, B, el⟩) (ha : PrA w ⟨sl, N, O, sr, M, P, B, el⟩ ⟨aN, aO, aM, aP, aB, cN, cO, cM, cP, cB⟩) :
    Calls Tryd.prog 29 #[.agg #[.int .i64 sl, .slice aN N.length cN, .slice aO O.length cO, .int .i64 sr, .slice aM M.length cM, .slice aP P.length cP, .slice aB B.length cB, .bool el]] w fun e w' => e = .returned (.int .i64 (symF N : Int)) ∧ Below w.heap.size w w' := by
  obtain ⟨w0, hw0, hB0, hz0, hC0⟩ := box_pr w ⟨sl, N, O, sr, M, P, B, el⟩ ⟨aN, aO, aM, aP, aB, cN, cO, cM, cP, cB⟩
  have HC : Hid (∀ V : World, Below w0.heap.size w0 V → (V.cell? ⟨w.heap.size, 0, none⟩ = some (.int .i64 sl) ∧ V.cell? ⟨w.heap.size, 1, none⟩ = some (.slice aN N.length cN) ∧ V.cell? ⟨w.heap.size, 2, none⟩ = some (.slice aO O.length cO) ∧ V.cell? ⟨w.heap.size, 3, none⟩ = some (.int .i64 sr)) ∧ V.cell? ⟨w.heap.size, 4, none⟩ = some (.slice aM M.length cM) ∧ V.cell? ⟨w.heap.size, 5, none⟩ = some (.slice aP P.length cP) ∧ V.cell? ⟨w.heap.size, 6, none⟩ = some (.slice aB B.length cB) ∧ V.cell? ⟨w.heap.size, 7, none⟩ = some (.bool el)) := hid0 hC0
  replace hw0 : w.alloc (.cells #[.int .i64 sl, .slice aN N.length cN, .slice aO O.length cO, .int .i64 sr, .slice aM M.length cM, .slice aP P.length cP, .slice aB B.length cB, .bool el] 27) = w0 := hw0
  obtain ⟨⟨x0, x1, x2, x3⟩, x4, x5, x6, x7⟩ := HC.out w0 (Below.refl _ _)
  have HB0 := hid0 hB0
  have hrn : RwC w0 aN N := ha.n.past hB0
  have HRn := hid0 hrn
  clear hB0 hz0 hrn hC0
  by_cases h0 : N.length = 0
  · have HV : Hid (symF N = 0) := hid0 (by unfold symF; rw [List.eq_nil_of_length_eq_zero h0]; rfl)
    have h0I : ((N.length : Int) == 0) = true := by rw [beq_iff_eq]; omega
    have h0J : (N.length : Int) = 0 := by omega
    clear h0
    go_enter Tryd.func29, Tryd.ntmps29
    go_wp2
    go_ret
    exact ⟨by rw [HV.out]; rfl, HB0.out⟩
  · obtain ⟨b, off, rfl, _, a1, c1, d1, _, _⟩ := HRn.out.at' 0 (by omega)
    have HV : Hid (symF N = N[0].length) := hid0 (by unfold symF; rw [getD_at (by omega)])
    rw [Nat.add_zero] at d1
    have h0I : ((N.length : Int) == 0) = false := by simp; intro e; subst e; exact h0 rfl
    have h0J : ¬ (N.length : Int) = 0 := by omega
    have h0K : (0 : Int) < (N.length : Int) := by omega
    have h0L : 0 < N.length := by omega
    have h0M : ¬ N = [] := fun e => h0 (by rw [e]; rfl)
    generalize N[0] = r at *
    clear h0
    go_enter Tryd.func29, Tryd.ntmps29
    go_wp2
    go_ret
    exact ⟨by rw [HV.out]; rfl, HB0.out⟩
set_option maxRecDepth 10000 in
set_option maxHeartbeats 1600000 in
theorem size_any (sl sr : Int) (N O M P : List (List Int)) (B : List Bool) (el : Bool) (aN aO aM aP aB : Option Addr) (cN cO cM cP cB : Nat) (w : World) (hs : PrS ⟨sl, N, O, sr, M, P, B, el⟩) (_ha : PrA w ⟨sl, N, O, sr, M, P, B, el⟩ ⟨aN, aO, aM, aP, aB, cN, cO, cM, cP, cB⟩) :
    Calls Tryd.prog 12 #[.agg #[.int .i64 sl, .slice aN N.length cN, .slice aO O.length cO, .int .i64 sr, .slice aM M.length cM, .slice aP P.length cP, .slice aB B.length cB, .bool el]] w fun e w' => e = .returned (.int .i64 ((N.length : Int) + (M.length : Int))) ∧ Below w.heap.size w w' := by
  obtain ⟨w0, hw0, hB0, hz0, hC0⟩ := box_pr w ⟨sl, N, O, sr, M, P, B, el⟩ ⟨aN, aO, aM, aP, aB, cN, cO, cM, cP, cB⟩
  have HC : Hid (∀ V : World, Below w0.heap.size w0 V → (V.cell? ⟨w.heap.size, 0, none⟩ = some (.int .i64 sl) ∧ V.cell? ⟨w.heap.size, 1, none⟩ = some (.slice aN N.length cN) ∧ V.cell? ⟨w.heap.size, 2, none⟩ = some (.slice aO O.length cO) ∧ V.cell? ⟨w.heap.size, 3, none⟩ = some (.int .i64 sr)) ∧ V.cell? ⟨w.heap.size, 4, none⟩ = some (.slice aM M.length cM) ∧ V.cell? ⟨w.heap.size, 5, none⟩ = some (.slice aP P.length cP) ∧ V.cell? ⟨w.heap.size, 6, none⟩ = some (.slice aB B.length cB) ∧ V.cell? ⟨w.heap.size, 7, none⟩ = some (.bool el)) := hid0 hC0
  replace hw0 : w.alloc (.cells #[.int .i64 sl, .slice aN N.length cN, .slice aO O.length cO, .int .i64 sr, .slice aM M.length cM, .slice aP P.length cP, .slice aB B.length cB, .bool el] 27) = w0 := hw0
  obtain ⟨⟨x0, x1, x2, x3⟩, x4, x5, x6, x7⟩ := HC.out w0 (Below.refl _ _)
  have HB0 := hid0 hB0
  have h1 : N.length ≤ 1000000000 := hs.n
  have h2 : M.length ≤ 1000000000 := hs.m
  have hadd : IntKind.i64.wrap ((N.length : Int) + (M.length : Int)) = (N.length : Int) + (M.length : Int) := by simp [IntKind.wrap, IntKind.bits, IntKind.signed]; omega
  clear hB0 hz0 hC0
  go_enter Tryd.func12, Tryd.ntmps12
  go_wp2
  go_ret
  exact ⟨rfl, HB0.out⟩
set_option maxRecDepth 10000 in
set_option maxHeartbeats 1600000 in
theorem refSize_any (sl sr : Int) (N O M P : List (List Int)) (B : List Bool) (el : Bool) (aN aO aM aP aB : Option Addr) (cN cO cM cP cB : Nat) (w : World) (hs : PrS ⟨sl, N, O, sr, M, P, B, el⟩) (_ha : PrA w ⟨sl, N, O, sr, M, P, B, el⟩ ⟨aN, aO, aM, aP, aB, cN, cO, cM, cP, cB⟩) :
    Calls Tryd.prog 18 #[.agg #[.int .i64 sl, .slice aN N.length cN, .slice aO O.length cO, .int .i64 sr, .slice aM M.length cM, .slice aP P.length cP, .slice aB B.length cB, .bool el]] w fun e w' => e = .returned (.int .i64 ((N.length : Int) + (M.length : Int))) ∧ Below w.heap.size w w' := by
  obtain ⟨w0, hw0, hB0, hz0, hC0⟩ := box_pr w ⟨sl, N, O, sr, M, P, B, el⟩ ⟨aN, aO, aM, aP, aB, cN, cO, cM, cP, cB⟩
  have HC : Hid (∀ V : World, Below w0.heap.size w0 V → (V.cell? ⟨w.heap.size, 0, none⟩ = some (.int .i64 sl) ∧ V.cell? ⟨w.heap.size, 1, none⟩ = some (.slice aN N.length cN) ∧ V.cell? ⟨w.heap.size, 2, none⟩ = some (.slice aO O.length cO) ∧ V.cell? ⟨w.heap.size, 3, none⟩ = some (.int .i64 sr)) ∧ V.cell? ⟨w.heap.size, 4, none⟩ = some (.slice aM M.length cM) ∧ V.cell? ⟨w.heap.size, 5, none⟩ = some (.slice aP P.length cP) ∧ V.cell? ⟨w.heap.size, 6, none⟩ = some (.slice aB B.length cB) ∧ V.cell? ⟨w.heap.size, 7, none⟩ = some (.bool el)) := hid0 hC0
  replace hw0 : w.alloc (.cells #[.int .i64 sl, .slice aN N.length cN, .slice aO O.length cO, .int .i64 sr, .slice aM M.length cM, .slice aP P.length cP, .slice aB B.length cB, .bool el] 27) = w0 := hw0
  obtain ⟨⟨x0, x1, x2, x3⟩, x4, x5, x6, x7⟩ := HC.out w0 (Below.refl _ _)
  have HB0 := hid0 hB0
  have h1 : N.length ≤ 1000000000 := hs.n
  have h2 : M.length ≤ 1000000000 := hs.m
  have hadd : IntKind.i64.wrap ((N.length : Int) + (M.length : Int)) = (N.length : Int) + (M.length : Int) := by simp [IntKind.wrap, IntKind.bits, IntKind.signed]; omega
  clear hB0 hz0 hC0
  go_enter Tryd.func18, Tryd.ntmps18
  go_wp2
  go_ret
  exact ⟨rfl, HB0.out⟩
theorem errC_true (A : Nat → Addr) : errC A true = .nilIface := rfl
theorem errC_false (A : Nat → Addr) : errC A false = .iface 71 (.pointer (some (A 0))) := rfl
set_option maxRecDepth 10000 in
set_option maxHeartbeats 1600000 in
theorem pairCheck_any (A : Nat → Addr) (sl sr : Int) (N O M P : List (List Int)) (B : List Bool) (el : Bool) (aN aO aM aP aB : Option Addr) (cN cO cM cP cB : Nat) (sy : Int) (w : World) (hs : PrS ⟨sl, N, O, sr, M, P, B, el⟩) (ha : PrA w ⟨sl, N, O, sr, M, P, B, el⟩ ⟨aN, aO, aM, aP, aB, cN, cO, cM, cP, cB⟩) (he : Sents w A) :
    Calls Tryd.prog 6 #[.agg #[.int .i64 sl, .slice aN N.length cN, .slice aO O.length cO, .int .i64 sr, .slice aM M.length cM, .slice aP P.length cP, .slice aB B.length cB, .bool el], .int .i64 sy] w fun e w' => e = .returned (errC A (chkP sl N O sr M P B.length sy)) ∧ Below w.heap.size w w' := by
  obtain ⟨w0, hw0, hB0, hz0, hC0⟩ := box_pr w ⟨sl, N, O, sr, M, P, B, el⟩ ⟨aN, aO, aM, aP, aB, cN, cO, cM, cP, cB⟩
  have HC : Hid (∀ V : World, Below w0.heap.size w0 V → (V.cell? ⟨w.heap.size, 0, none⟩ = some (.int .i64 sl) ∧ V.cell? ⟨w.heap.size, 1, none⟩ = some (.slice aN N.length cN) ∧ V.cell? ⟨w.heap.size, 2, none⟩ = some (.slice aO O.length cO) ∧ V.cell? ⟨w.heap.size, 3, none⟩ = some (.int .i64 sr)) ∧ V.cell? ⟨w.heap.size, 4, none⟩ = some (.slice aM M.length cM) ∧ V.cell? ⟨w.heap.size, 5, none⟩ = some (.slice aP P.length cP) ∧ V.cell? ⟨w.heap.size, 6, none⟩ = some (.slice aB B.length cB) ∧ V.cell? ⟨w.heap.size, 7, none⟩ = some (.bool el)) := hid0 hC0
  replace hw0 : w.alloc (.cells #[.int .i64 sl, .slice aN N.length cN, .slice aO O.length cO, .int .i64 sr, .slice aM M.length cM, .slice aP P.length cP, .slice aB B.length cB, .bool el] 27) = w0 := hw0
  obtain ⟨⟨x0, x1, x2, x3⟩, x4, x5, x6, x7⟩ := HC.out w0 (Below.refl _ _)
  have HB0 := hid0 hB0
  have hb1 : B.length ≤ 1000000000 := hs.b
  have HK1 := hid0 (check_any A sl sy (B.length : Int) N O aN aO cN cO w0 (by have : N.length ≤ 1000000000 := hs.n; omega) (fun r hr => by have := hs.nr r hr; omega) (fun r hr => by have := hs.or r hr; omega) (by omega) (ha.n.past hB0).rwa (ha.o.past hB0).rwa (he.below hB0))
  have HK2 : Hid (∀ V : World, Below w0.heap.size w0 V → Calls Tryd.prog 24 #[.agg #[.int .i64 sr, .slice aM M.length cM, .slice aP P.length cP], .int .i64 sy, .int .i64 (B.length : Int)] V fun e w' => e = .returned (errC A (chkF sr M P sy (B.length : Int))) ∧ Below V.heap.size V w') := hid0 (fun V hV => check_any A sr sy (B.length : Int) M P aM aP cM cP V (by have : M.length ≤ 1000000000 := hs.m; omega) (fun r hr => by have := hs.mr r hr; omega) (fun r hr => by have := hs.pr r hr; omega) (by omega) ((ha.m.past hB0).past hV).rwa ((ha.p'.past hB0).past hV).rwa ((he.below hB0).below hV))
  have HZ0 := hid0 hz0
  clear hB0 hz0 hC0 ha hs he
  cases hq : chkF sl N O sy (B.length : Int) with
  | false =>
    have HV : Hid (chkP sl N O sr M P B.length sy = false) := hid0 (by unfold chkP; rw [hq]; rfl)
    rw [hq, errC_false] at HK1
    clear hq
    go_enter Tryd.func6, Tryd.ntmps6
    go_wp2_with (go_at_call 24; refine HK1.out.mono ?_; rintro e w1 ⟨rfl, hb⟩; have HB1 := hid0 hb; clear hb)
    go_ret
    exact ⟨by rw [HV.out]; rfl, HB0.out.trans (HB1.out.mono HB0.out.size)⟩
  | true =>
    have HV : Hid (chkP sl N O sr M P B.length sy = chkF sr M P sy (B.length : Int)) := hid0 (by unfold chkP; rw [hq]; rfl)
    rw [hq, errC_true] at HK1
    clear hq
    obtain ⟨ev, hev⟩ : ∃ ev, ev = errC A (chkF sr M P sy (B.length : Int)) := ⟨_, rfl⟩
    have HEv := hid0 hev
    rw [← hev] at HK2
    clear hev
    go_enter Tryd.func6, Tryd.ntmps6
    go_wp2_with (first
      | (go_at_call 24; have hq := HB1.out; refine (HK2.out _ hq).mono ?_; rintro e w2 ⟨rfl, hb⟩; have HB2 := hid0 (hq.trans (hb.mono hq.size)); clear hb hq)
      | (go_at_call 24; refine HK1.out.mono ?_; rintro e w1 ⟨rfl, hb⟩; have HB1 := hid0 hb; obtain ⟨⟨y0, y1, y2, y3⟩, y4, y5, y6, y7⟩ := HC.out w1 hb; clear hb HK1))
    go_ret
    exact ⟨by rw [HV.out, ← HEv.out]; rfl, HB0.out.trans (HB2.out.mono HB0.out.size)⟩
set_option maxRecDepth 10000 in
set_option maxHeartbeats 1600000 in
theorem refPairCheck_any (sl sr : Int) (N O M P : List (List Int)) (B : List Bool) (el : Bool) (aN aO aM aP aB : Option Addr) (cN cO cM cP cB : Nat) (sy : Int) (w : World) (hs : PrS ⟨sl, N, O, sr, M, P, B, el⟩) (ha : PrA w ⟨sl, N, O, sr, M, P, B, el⟩ ⟨aN, aO, aM, aP, aB, cN, cO, cM, cP, cB⟩) :
    Calls Tryd.prog 17 #[.agg #[.int .i64 sl, .slice aN N.length cN, .slice aO O.length cO, .int .i64 sr, .slice aM M.length cM, .slice aP P.length cP, .slice aB B.length cB, .bool el], .int .i64 sy] w fun e w' => e = .returned (.int .i64 (numC (chkP sl N O sr M P B.length sy))) ∧ Below w.heap.size w w' := by
  obtain ⟨w0, hw0, hB0, hz0, hC0⟩ := box_pr w ⟨sl, N, O, sr, M, P, B, el⟩ ⟨aN, aO, aM, aP, aB, cN, cO, cM, cP, cB⟩
  have HC : Hid (∀ V : World, Below w0.heap.size w0 V → (V.cell? ⟨w.heap.size, 0, none⟩ = some (.int .i64 sl) ∧ V.cell? ⟨w.heap.size, 1, none⟩ = some (.slice aN N.length cN) ∧ V.cell? ⟨w.heap.size, 2, none⟩ = some (.slice aO O.length cO) ∧ V.cell? ⟨w.heap.size, 3, none⟩ = some (.int .i64 sr)) ∧ V.cell? ⟨w.heap.size, 4, none⟩ = some (.slice aM M.length cM) ∧ V.cell? ⟨w.heap.size, 5, none⟩ = some (.slice aP P.length cP) ∧ V.cell? ⟨w.heap.size, 6, none⟩ = some (.slice aB B.length cB) ∧ V.cell? ⟨w.heap.size, 7, none⟩ = some (.bool el)) := hid0 hC0
  replace hw0 : w.alloc (.cells #[.int .i64 sl, .slice aN N.length cN, .slice aO O.length cO, .int .i64 sr, .slice aM M.length cM, .slice aP P.length cP, .slice aB B.length cB, .bool el] 27) = w0 := hw0
  obtain ⟨⟨x0, x1, x2, x3⟩, x4, x5, x6, x7⟩ := HC.out w0 (Below.refl _ _)
  have HB0 := hid0 hB0
  have hb1 : B.length ≤ 1000000000 := hs.b
  have HK1 := hid0 (refCheck_any sl sy (B.length : Int) N O aN aO cN cO w0 (by have : N.length ≤ 1000000000 := hs.n; omega) (fun r hr => by have := hs.nr r hr; omega) (fun r hr => by have := hs.or r hr; omega) (ha.n.past hB0).rwa (ha.o.past hB0).rwa)
  have HK2 : Hid (∀ V : World, Below w0.heap.size w0 V → Calls Tryd.prog 38 #[.agg #[.int .i64 sr, .slice aM M.length cM, .slice aP P.length cP], .int .i64 sy, .int .i64 (B.length : Int)] V fun e w' => e = .returned (.int .i64 (numC (chkF sr M P sy (B.length : Int)))) ∧ Below V.heap.size V w') := hid0 (fun V hV => refCheck_any sr sy (B.length : Int) M P aM aP cM cP V (by have : M.length ≤ 1000000000 := hs.m; omega) (fun r hr => by have := hs.mr r hr; omega) (fun r hr => by have := hs.pr r hr; omega) ((ha.m.past hB0).past hV).rwa ((ha.p'.past hB0).past hV).rwa)
  clear hB0 hz0 hC0 ha hs
  cases hq : chkF sl N O sy (B.length : Int) with
  | false =>
    have HV : Hid (chkP sl N O sr M P B.length sy = false) := hid0 (by unfold chkP; rw [hq]; rfl)
    rw [hq] at HK1
    have e1 : numC false = 1 := rfl
    rw [e1] at HK1
    clear hq e1
    go_enter Tryd.func17, Tryd.ntmps17
    go_wp2_with (go_at_call 38; refine HK1.out.mono ?_; rintro e w1 ⟨rfl, hb⟩; have HB1 := hid0 hb; clear hb)
    go_ret
    exact ⟨by rw [HV.out]; rfl, HB0.out.trans (HB1.out.mono HB0.out.size)⟩
  | true =>
    have HV : Hid (chkP sl N O sr M P B.length sy = chkF sr M P sy (B.length : Int)) := hid0 (by unfold chkP; rw [hq]; rfl)
    rw [hq] at HK1
    have e1 : numC true = 0 := rfl
    rw [e1] at HK1
    clear hq e1
    obtain ⟨ev, hev⟩ : ∃ ev, ev = numC (chkF sr M P sy (B.length : Int)) := ⟨_, rfl⟩
    have HEv := hid0 hev
    rw [← hev] at HK2
    clear hev
    go_enter Tryd.func17, Tryd.ntmps17
    go_wp2_with (first
      | (go_at_call 38; have hq := HB1.out; refine (HK2.out _ hq).mono ?_; rintro e w2 ⟨rfl, hb⟩; have HB2 := hid0 (hq.trans (hb.mono hq.size)); clear hb hq)
      | (go_at_call 38; refine HK1.out.mono ?_; rintro e w1 ⟨rfl, hb⟩; have HB1 := hid0 hb; obtain ⟨⟨y0, y1, y2, y3⟩, y4, y5, y6, y7⟩ := HC.out w1 hb; clear hb HK1))
    go_ret
    exact ⟨by rw [HV.out, ← HEv.out]; rfl, HB0.out.trans (HB2.out.mono HB0.out.size)⟩
set_option maxRecDepth 10000 in
set_option maxHeartbeats 1600000 in
theorem allBelow_any (n : Nat) (L : List Int) (a : Option Addr) (c : Nat) (w : World) (hl : L.length ≤ 1000000000) (ha : IA w a L) : Calls Tryd.prog 26 #[.slice a L.length c, .int .i64 (n : Int)] w fun e w' => e = .returned (.bool (L.all (oneOf n))) ∧ w' = w := by
  have HA := hid0 ha
  clear ha
  go_enter Tryd.func26, Tryd.ntmps26
  go_wp2
  go_loopw [9] (fun i wr => ∃ k : Nat, k ≤ L.length ∧ i = .int .i64 (k : Int) ∧ wr = w ∧ Hid ((L.drop k).all (oneOf n) = L.all (oneOf n))) (fun i _ => L.length - (intOf i).toNat)
  case atStart => exact ⟨0, Nat.zero_le _, rfl, rfl, hid0 rfl⟩
  case round =>
    obtain ⟨k, hk, rfl, rfl, HD⟩ := hrel
    by_cases hlt : k < L.length
    · obtain ⟨b, off, rfl, _, d1⟩ := HA.out.at' k hlt
      have hkI : (k : Int) < (L.length : Int) := by omega
      have hkI0 : (0 : Int) ≤ (k : Int) := by omega
      have HS := hid0 (all_drop (n := n) hlt)
      generalize L[k] = s at *
      by_cases h1 : s < 0
      · have HV : Hid (L.all (oneOf n) = false) := hid0 (by rw [← HD.out, HS.out, (oneOf_not _ _).2 (fun q => by omega)]; rfl)
        clear HS HD
        go_wp2
        go_ret
        exact ⟨by rw [HV.out]; rfl, rfl⟩
      · by_cases h2 : s ≥ (n : Int)
        · have HV : Hid (L.all (oneOf n) = false) := hid0 (by rw [← HD.out, HS.out, (oneOf_not _ _).2 (fun q => by omega)]; rfl)
          clear HS HD
          go_wp2
          go_ret
          exact ⟨by rw [HV.out]; rfl, rfl⟩
        · have HD2 : Hid ((L.drop (k + 1)).all (oneOf n) = L.all (oneOf n)) := hid0 (by rw [← HD.out, HS.out, (oneOf_iff _ _).2 ⟨by omega, by omega⟩, Bool.true_and])
          clear HS HD
          go_wp2
          go_roundw
          case rel => exact ⟨k + 1, by omega, by go_num, trivial, HD2⟩
          case measure => simp [intOf]; omega
    · have hkI : ¬ (k : Int) < (L.length : Int) := by omega
      have HV : Hid (L.all (oneOf n) = true) := hid0 (by rw [← HD.out]; exact all_end (by omega))
      clear HD
      go_wp2
      go_ret
      exact ⟨by rw [HV.out]; rfl, rfl⟩
set_option maxRecDepth 10000 in
set_option maxHeartbeats 1600000 in
theorem saysBreak_any (sl sr : Int) (N O M P : List (List Int)) (B : List Bool) (el : Bool) (aN aO aM aP aB : Option Addr) (cN cO cM cP cB : Nat) (d : Int) (w : World) (hd : d < (B.length : Int)) (_hs : PrS ⟨sl, N, O, sr, M, P, B, el⟩) (ha : PrA w ⟨sl, N, O, sr, M, P, B, el⟩ ⟨aN, aO, aM, aP, aB, cN, cO, cM, cP, cB⟩) :
    Calls Tryd.prog 33 #[.agg #[.int .i64 sl, .slice aN N.length cN, .slice aO O.length cO, .int .i64 sr, .slice aM M.length cM, .slice aP P.length cP, .slice aB B.length cB, .bool el], .int .i64 d] w fun e w' => e = .returned (.bool (sayF B el d)) ∧ Below w.heap.size w w' := by
  obtain ⟨w0, hw0, hB0, hz0, hC0⟩ := box_pr w ⟨sl, N, O, sr, M, P, B, el⟩ ⟨aN, aO, aM, aP, aB, cN, cO, cM, cP, cB⟩
  have HC : Hid (∀ V : World, Below w0.heap.size w0 V → (V.cell? ⟨w.heap.size, 0, none⟩ = some (.int .i64 sl) ∧ V.cell? ⟨w.heap.size, 1, none⟩ = some (.slice aN N.length cN) ∧ V.cell? ⟨w.heap.size, 2, none⟩ = some (.slice aO O.length cO) ∧ V.cell? ⟨w.heap.size, 3, none⟩ = some (.int .i64 sr)) ∧ V.cell? ⟨w.heap.size, 4, none⟩ = some (.slice aM M.length cM) ∧ V.cell? ⟨w.heap.size, 5, none⟩ = some (.slice aP P.length cP) ∧ V.cell? ⟨w.heap.size, 6, none⟩ = some (.slice aB B.length cB) ∧ V.cell? ⟨w.heap.size, 7, none⟩ = some (.bool el)) := hid0 hC0
  replace hw0 : w.alloc (.cells #[.int .i64 sl, .slice aN N.length cN, .slice aO O.length cO, .int .i64 sr, .slice aM M.length cM, .slice aP P.length cP, .slice aB B.length cB, .bool el] 27) = w0 := hw0
  obtain ⟨⟨x0, x1, x2, x3⟩, x4, x5, x6, x7⟩ := HC.out w0 (Below.refl _ _)
  have HB0 := hid0 hB0
  have hb : BoA w0 aB B := ha.b.past hB0
  have HBo := hid0 hb
  clear hB0 hz0 hC0 hb ha _hs
  by_cases h0 : d < 0
  · have HV : Hid (sayF B el d = el) := hid0 (by unfold sayF; rw [if_pos h0])
    have h1 : ¬ d ≥ 0 := by omega
    go_enter Tryd.func33, Tryd.ntmps33
    go_wp2
    go_ret
    exact ⟨by rw [HV.out]; rfl, HB0.out⟩
  · obtain ⟨k, rfl⟩ : ∃ k : Nat, d = (k : Int) := ⟨d.toNat, by omega⟩
    obtain ⟨b, off, rfl, _, d1⟩ := HBo.out.at' k (by omega)
    have HV : Hid (sayF B el (k : Int) = B[k]'(by omega)) := hid0 (by unfold sayF; rw [if_neg h0, Int.toNat_natCast, List.getD_eq_getElem?_getD, List.getElem?_eq_getElem (by omega)]; rfl)
    have hkI0 : (0 : Int) ≤ (k : Int) := by omega
    have h1 : (k : Int) ≥ 0 := by omega
    have hkn : k < B.length := by omega
    generalize B[k]'(by omega) = bv at *
    cases bv with
    | true =>
      go_enter Tryd.func33, Tryd.ntmps33
      go_wp2
      go_ret
      exact ⟨by rw [HV.out]; rfl, HB0.out⟩
    | false =>
      go_enter Tryd.func33, Tryd.ntmps33
      go_wp2
      go_ret
      exact ⟨by rw [HV.out]; rfl, HB0.out⟩
set_option maxRecDepth 10000 in
set_option maxHeartbeats 1600000 in
theorem refSays_any (sl sr : Int) (N O M P : List (List Int)) (B : List Bool) (el : Bool) (aN aO aM aP aB : Option Addr) (cN cO cM cP cB : Nat) (d : Int) (w : World) (hd : d < (B.length : Int)) (_hs : PrS ⟨sl, N, O, sr, M, P, B, el⟩) (ha : PrA w ⟨sl, N, O, sr, M, P, B, el⟩ ⟨aN, aO, aM, aP, aB, cN, cO, cM, cP, cB⟩) :
    Calls Tryd.prog 34 #[.agg #[.int .i64 sl, .slice aN N.length cN, .slice aO O.length cO, .int .i64 sr, .slice aM M.length cM, .slice aP P.length cP, .slice aB B.length cB, .bool el], .int .i64 d] w fun e w' => e = .returned (.bool (sayF B el d)) ∧ Below w.heap.size w w' := by
  obtain ⟨w0, hw0, hB0, hz0, hC0⟩ := box_pr w ⟨sl, N, O, sr, M, P, B, el⟩ ⟨aN, aO, aM, aP, aB, cN, cO, cM, cP, cB⟩
  have HC : Hid (∀ V : World, Below w0.heap.size w0 V → (V.cell? ⟨w.heap.size, 0, none⟩ = some (.int .i64 sl) ∧ V.cell? ⟨w.heap.size, 1, none⟩ = some (.slice aN N.length cN) ∧ V.cell? ⟨w.heap.size, 2, none⟩ = some (.slice aO O.length cO) ∧ V.cell? ⟨w.heap.size, 3, none⟩ = some (.int .i64 sr)) ∧ V.cell? ⟨w.heap.size, 4, none⟩ = some (.slice aM M.length cM) ∧ V.cell? ⟨w.heap.size, 5, none⟩ = some (.slice aP P.length cP) ∧ V.cell? ⟨w.heap.size, 6, none⟩ = some (.slice aB B.length cB) ∧ V.cell? ⟨w.heap.size, 7, none⟩ = some (.bool el)) := hid0 hC0
  replace hw0 : w.alloc (.cells #[.int .i64 sl, .slice aN N.length cN, .slice aO O.length cO, .int .i64 sr, .slice aM M.length cM, .slice aP P.length cP, .slice aB B.length cB, .bool el] 27) = w0 := hw0
  obtain ⟨⟨x0, x1, x2, x3⟩, x4, x5, x6, x7⟩ := HC.out w0 (Below.refl _ _)
  have HB0 := hid0 hB0
  have hb : BoA w0 aB B := ha.b.past hB0
  have HBo := hid0 hb
  clear hB0 hz0 hC0 hb ha _hs
  by_cases h0 : d < 0
  · have HV : Hid (sayF B el d = el) := hid0 (by unfold sayF; rw [if_pos h0])
    have h1 : ¬ d ≥ 0 := by omega
    go_enter Tryd.func34, Tryd.ntmps34
    go_wp2
    go_ret
    exact ⟨by rw [HV.out]; rfl, HB0.out⟩
  · obtain ⟨k, rfl⟩ : ∃ k : Nat, d = (k : Int) := ⟨d.toNat, by omega⟩
    obtain ⟨b, off, rfl, _, d1⟩ := HBo.out.at' k (by omega)
    have HV : Hid (sayF B el (k : Int) = B[k]'(by omega)) := hid0 (by unfold sayF; rw [if_neg h0, Int.toNat_natCast, List.getD_eq_getElem?_getD, List.getElem?_eq_getElem (by omega)]; rfl)
    have hkI0 : (0 : Int) ≤ (k : Int) := by omega
    have h1 : (k : Int) ≥ 0 := by omega
    have hkn : k < B.length := by omega
    generalize B[k]'(by omega) = bv at *
    cases bv with
    | true =>
      go_enter Tryd.func34, Tryd.ntmps34
      go_wp2
      go_ret
      exact ⟨by rw [HV.out]; rfl, HB0.out⟩
    | false =>
      go_enter Tryd.func34, Tryd.ntmps34
      go_wp2
      go_ret
      exact ⟨by rw [HV.out]; rfl, HB0.out⟩
end Go.Proofs.YtilnanefkbdbkaaDoor
namespace Go.Proofs.YtilnanefkbdbkaaDoor
open Go.RowKit Go.Shelf
/-- A closure that looks what it knows. -/
structure Clo (w : World) (lo Kb Pb Bm q cO cP : Nat) (O P : List (List Int)) (aO aP : Option Addr) : Prop where
  k0 : w.cell? ⟨Kb, 0, none⟩ = some (.map (some Bm))
  p2 : w.cell? ⟨Pb, 2, none⟩ = some (.slice aO O.length cO)
  p5 : w.cell? ⟨Pb, 5, none⟩ = some (.slice aP P.length cP)
  kn : Kn2 w Bm q (fsF O P)
  ne : Kb ≠ Bm ∧ Pb ≠ Bm
  lo : lo ≤ Kb ∧ lo ≤ Pb ∧ lo ≤ Bm
set_option maxRecDepth 10000 in
set_option maxHeartbeats 1600000 in
theorem firstOf_any (sl sr : Int) (N O M P : List (List Int)) (B : List Bool) (el : Bool) (aN aO aM aP aB : Option Addr) (cN cO cM cP cB : Nat) (w : World) :
    Calls Tryd.prog 28 #[.agg #[.int .i64 sl, .slice aN N.length cN, .slice aO O.length cO, .int .i64 sr, .slice aM M.length cM, .slice aP P.length cP, .slice aB B.length cB, .bool el]] w fun e w' => ∃ Kb Pb, e = .returned (.func (.func 42) #[] #[.pointer (some ⟨Kb, 0, none⟩), .pointer (some ⟨Pb, 0, none⟩)]) ∧ (∃ Bm, Clo w' w.heap.size Kb Pb Bm 0 cO cP O P aO aP) ∧ Below w.heap.size w w' := by
  obtain ⟨w0, hw0, hB0, hz0, hC0⟩ := box_pr w ⟨sl, N, O, sr, M, P, B, el⟩ ⟨aN, aO, aM, aP, aB, cN, cO, cM, cP, cB⟩
  have HC : Hid (∀ V : World, Below w0.heap.size w0 V → (V.cell? ⟨w.heap.size, 0, none⟩ = some (.int .i64 sl) ∧ V.cell? ⟨w.heap.size, 1, none⟩ = some (.slice aN N.length cN) ∧ V.cell? ⟨w.heap.size, 2, none⟩ = some (.slice aO O.length cO) ∧ V.cell? ⟨w.heap.size, 3, none⟩ = some (.int .i64 sr)) ∧ V.cell? ⟨w.heap.size, 4, none⟩ = some (.slice aM M.length cM) ∧ V.cell? ⟨w.heap.size, 5, none⟩ = some (.slice aP P.length cP) ∧ V.cell? ⟨w.heap.size, 6, none⟩ = some (.slice aB B.length cB) ∧ V.cell? ⟨w.heap.size, 7, none⟩ = some (.bool el)) := hid0 hC0
  replace hw0 : w.alloc (.cells #[.int .i64 sl, .slice aN N.length cN, .slice aO O.length cO, .int .i64 sr, .slice aM M.length cM, .slice aP P.length cP, .slice aB B.length cB, .bool el] 27) = w0 := hw0
  have hmf : ∀ (fn : Fn) (first cap : Array Value) (w : World), (Instr.makeFunc fn first cap).run Tryd.prog w = .ok (.func fn first cap) w := fun _ _ _ _ => rfl
  have hmm : ∀ w : World, (Instr.makeMap 63 none).run Tryd.prog w = .ok (.map (some w.heap.size)) (w.alloc (.map #[] 0)) := fun _ => rfl
  obtain ⟨w1, hw1⟩ : ∃ w1, w1 = w0.alloc (.map #[] 0) := ⟨_, rfl⟩
  obtain ⟨w2, hw2⟩ : ∃ w2, w2 = w1.alloc (.cells #[.map (some w0.heap.size)] 63) := ⟨_, rfl⟩
  have hb1 : Below w0.heap.size w0 w1 := by rw [hw1]; exact (Below.refl _ _).alloc (Nat.le_refl _) _
  have hb2 : Below w1.heap.size w1 w2 := by rw [hw2]; exact (Below.refl _ _).alloc (Nat.le_refl _) _
  have hz1 : w1.heap.size = w0.heap.size + 1 := by rw [hw1]; simp
  have hb02 : Below w0.heap.size w0 w2 := hb1.trans (hb2.mono hb1.size)
  have hk1 : Kn2 w1 w0.heap.size 0 (fsF O P) := by rw [hw1]; exact Kn2.made w0 _
  have hr2 : w2.heap[w1.heap.size]? = some (.cells #[.map (some w0.heap.size)] 63 (0, 0)) := by rw [hw2]; exact heap_alloc_new w1 _
  have HCl : Hid (Clo w2 w.heap.size w1.heap.size w.heap.size w0.heap.size 0 cO cP O P aO aP) := hid0 ⟨by rw [cell_of_row _ _ _ _ _ _ hr2]; rfl, (HC.out w2 hb02).1.2.2.1, (HC.out w2 hb02).2.2.1, hk1.block (hb2.block _ (by omega)), by omega, by omega⟩
  have HBw : Hid (Below w.heap.size w w2) := hid0 (hB0.trans (hb02.mono (by omega)))
  have hz1' : w1.heap.size = w0.heap.size + 1 := hz1
  have hz0' := hz0
  have HX1 := hid0 hz1
  have hf1 := hw1.symm
  have hf2 := hw2.symm
  clear hw1 hw2 hb1 hb2 hz1 hb02 hk1 hr2 hB0 hC0 HC hz0 hz1' hz0'
  go_enter Tryd.func28, Tryd.ntmps28
  go_wp2
  go_ret
  exact ⟨_, _, rfl, ⟨_, HCl.out⟩, HBw.out⟩
end Go.Proofs.YtilnanefkbdbkaaDoor
namespace Go.Proofs.YtilnanefkbdbkaaDoor
open Go.RowKit Go.Shelf
theorem make_zero (n : Nat) (w : World) (hn : n ≤ 1000000000) : ∃ w', (Instr.makeSlice 28 (.int .i64 (n : Int)) (.int .i64 (n : Int))).run Tryd.prog w = .ok (.slice (some ⟨w.heap.size, 0, none⟩) n n) w' ∧ w'.ownsRow w.heap.size 3 1 (.slice (some ⟨w.heap.size, 0, none⟩) n n) n ((List.replicate n (0 : Int)).map (Value.int .i64)) ∧ Below w.heap.size w w' := by
  obtain ⟨i, hi, hz0, hz1, hz2⟩ := info_parts infoInt
  obtain ⟨w', h1, h2, h3⟩ := run_make_full (P := Tryd.prog) w w.heap.size 28 3 i (.int .i64 0) 1 Tryd.underlying28 hi hz0 hz1 .i64 .i64 n (by rw [hz2]; omega) (by unfold maxLen; omega) (Nat.le_refl _)
  refine ⟨w', h1, ?_, (Below.refl _ _).grown h3 (Nat.le_refl _) (fun k hk => by cases hk)⟩
  have e : (madeCells (Value.int .i64 0).cells (n * 1)).toList = (List.replicate n (0 : Int)).map (Value.int .i64) := by
    apply List.ext_getElem
    · rw [Array.length_toList, size_madeCells]; simp
    · intro k h4 h5
      simp [madeCells, Value.cells, Nat.mod_one]
  rw [← e]
  exact h2
/-- What Decide's loop keeps: the places from q on are done. -/
structure Dc (wn V : World) (g n Kb Pb Bm cO cP q : Nat) (O P : List (List Int)) (aO aP : Option Addr) (D : Nat → Int) : Prop where
  own : ∃ Z : List Int, Z.length = n ∧ V.ownsRow wn.heap.size 3 1 (.slice (some ⟨g, 0, none⟩) n n) n (Z.map (Value.int .i64)) ∧ ∀ j, q ≤ j → j < n → Z[j]? = some (D j)
  clo : Clo V wn.heap.size Kb Pb Bm (n - q) cO cP O P aO aP
  ne : g ≠ Kb ∧ g ≠ Pb ∧ g ≠ Bm
  bel : Below wn.heap.size wn V
section
variable {wn V V' : World} {g n Kb Pb Bm cO cP q : Nat} {O P : List (List Int)} {aO aP : Option Addr} {D : Nat → Int}
theorem Clo.exc {lo k : Nat} (h : Clo V lo Kb Pb Bm k cO cP O P aO aP) (he : Exc V V' Bm) (hk : Kn2 V' Bm (k + 1) (fsF O P)) : Clo V' lo Kb Pb Bm (k + 1) cO cP O P aO aP :=
  ⟨he.cell h.ne.1 h.k0, he.cell h.ne.2 h.p2, he.cell h.ne.2 h.p5, hk, h.ne, h.lo⟩
/-- One place is looked at, and its number is written. -/
theorem Dc.step (h : Dc wn V g n Kb Pb Bm cO cP (q + 1) O P aO aP D) (hq : q < n) (hf : FsR V Bm (n - (q + 1)) (fsF O P) V') {d : Int} (hd : d = D q) : V'.frozen? ⟨g, q, none⟩ = false ∧ (∃ z, V'.cell? ⟨g, q, none⟩ = some (.int .i64 z)) ∧ Dc wn (V'.setCell ⟨g, q, none⟩ (.int .i64 d)) g n Kb Pb Bm cO cP q O P aO aP D := by
  obtain ⟨hk, he⟩ := hf
  obtain ⟨Z, hz, ho, hD⟩ := h.own
  have hg := World.ownsRow.lt ho g rfl
  have ho' : V'.ownsRow wn.heap.size 3 1 (.slice (some ⟨g, 0, none⟩) n n) n (Z.map (Value.int .i64)) := own_blk ho (fun k hk' => by
    have e : g = k := by simpa [Value.ownBlock] using hk'
    subst e
    exact he.oth g hg.2 h.ne.2.2)
  have hc := h.clo.exc he hk
  have hs := (World.ownsRow.stored ho' q (.int .i64 d)).1
  refine ⟨World.ownsRow.frozenAt ho' q, ⟨_, by rw [World.ownsRow.cellAt ho' q (by omega), List.getElem?_map, List.getElem?_eq_getElem (by omega)]; rfl⟩, ⟨⟨Z.set q d, by simpa using hz, by rw [List.map_set]; exact hs, fun j hj hjn => ?_⟩, ?_, h.ne, ?_⟩⟩
  · by_cases e : j = q
    · subst e
      rw [List.getElem?_set_self (by omega), hd]
    · rw [List.getElem?_set_ne (fun e2 => e e2.symm)]
      exact hD j (by omega) hjn
  · have e1 : n - (q + 1) + 1 = n - q := by omega
    rw [e1] at hc
    have oth : ∀ k, k ≠ g → (V'.setCell ⟨g, q, none⟩ (.int .i64 d)).heap[k]? = V'.heap[k]? := fun k hk' => Below.heap_setCell _ _ _ _ hk'
    exact ⟨(World.cell?_of_block (w := V') (oth Kb (fun e => h.ne.1 e.symm))).trans hc.k0, (World.cell?_of_block (w := V') (oth Pb (fun e => h.ne.2.1 e.symm))).trans hc.p2, (World.cell?_of_block (w := V') (oth Pb (fun e => h.ne.2.1 e.symm))).trans hc.p5, hc.kn.block (oth Bm (fun e => h.ne.2.2 e.symm)), hc.ne, hc.lo⟩
  · exact (h.bel.trans (he.below h.clo.lo.2.2 h.bel.size)).setCell (p := ⟨g, q, none⟩) hg.1 _
theorem Dc.done (h : Dc wn V g n Kb Pb Bm cO cP 0 O P aO aP D) : OwnI V wn.heap.size (.slice (some ⟨g, 0, none⟩) n n) ((List.range n).map D) := by
  obtain ⟨Z, hz, ho, hD⟩ := h.own
  have e : Z = (List.range n).map D := by
    apply List.ext_getElem?
    intro j
    rcases Nat.lt_or_ge j n with hj | hj
    · rw [hD j (Nat.zero_le _) hj]; simp [hj]
    · rw [List.getElem?_eq_none (by omega), List.getElem?_eq_none (by simpa using hj)]
  unfold OwnI
  rw [← e, hz]
  exact ho
end
theorem rev_at {l : List Int} {q : Nat} (hq : q < l.length) : l.reverse.getD (l.length - 1 - q) 0 = l[q] := by
  rw [List.getD_eq_getElem?_getD, List.getElem?_reverse (by omega), List.getElem?_eq_getElem (by omega)]
  show l[l.length - 1 - (l.length - 1 - q)] = l[q]
  congr 1
  omega
end Go.Proofs.YtilnanefkbdbkaaDoor
namespace Go.Proofs.YtilnanefkbdbkaaDoor
open Go.RowKit Go.Shelf
theorem Dc.drewN {wn V : World} {g n Kb Pb Bm cO cP q : Nat} {O P : List (List Int)} {aO aP : Option Addr} {D : Nat → Int} (h : Dc wn V g n Kb Pb Bm cO cP q O P aO aP D) (k : Nat) : Dc wn (V.drewN k) g n Kb Pb Bm cO cP q O P aO aP D := by
  obtain ⟨Z, h1, h2, h3⟩ := h.own
  exact ⟨⟨Z, h1, own_blk h2 (fun _ _ => rfl), h3⟩, ⟨h.clo.k0, h.clo.p2, h.clo.p5, h.clo.kn.block rfl, h.clo.ne, h.clo.lo⟩, h.ne, below_drew' h.bel k⟩
theorem tld_of {sl sr : Int} {N O M P : List (List Int)} {nb sy : Nat} (h1 : Fine sl N O sy nb) (h2 : Fine sr M P sy nb) (ho : ∀ r ∈ O, r.length ≤ 1000000000) (hp : ∀ r ∈ P, r.length ≤ 1000000000) (hb : nb ≤ 1000000000) : Tld O P := by
  refine ⟨fun j hj => ?_, fun j hj => ?_⟩
  · have hj' : j < N.length := by rw [← h1.out]; exact hj
    obtain ⟨q1, q2⟩ := h1.rise j hj'
    exact ⟨q1, ho _ (by rw [getD_at hj]; exact List.getElem_mem hj), fun z hz => by have := q2 z hz; omega⟩
  · have hj' : j < M.length := by rw [← h2.out]; exact hj
    exact ⟨(h2.rise j hj').1, hp _ (by rw [getD_at hj]; exact List.getElem_mem hj)⟩
/-- What Decide leaves. -/
def DecR (A : Nat → Addr) (w : World) (ok : Bool) (D : List Int) (e : Ending) (w' : World) : Prop := ∃ v, e = .returned (.tuple #[v, errC A ok]) ∧ OwnI w' w.heap.size v (if ok then D else []) ∧ Below w.heap.size w w'
set_option maxRecDepth 10000 in
set_option maxHeartbeats 1600000 in
theorem decide_long (A : Nat → Addr) (sl sr : Int) (N O M P : List (List Int)) (B : List Bool) (el : Bool) (aN aO aM aP aB : Option Addr) (cN cO cM cP cB : Nat) (l : List Int) (aw : Option Addr) (cw : Nat) (w : World) (hs : PrS ⟨sl, N, O, sr, M, P, B, el⟩) (ha : PrA w ⟨sl, N, O, sr, M, P, B, el⟩ ⟨aN, aO, aM, aP, aB, cN, cO, cM, cP, cB⟩) (hl : l.length ≤ 1000000000) (hw : IA w aw l) (he : Sents w A) (h1 : chkP sl N O sr M P B.length (symF N : Int) = true) (h2 : l.all (oneOf (symF N)) = true) (hlong : 2 ≤ l.length) :
    Calls Tryd.prog 7 #[.agg #[.int .i64 sl, .slice aN N.length cN, .slice aO O.length cO, .int .i64 sr, .slice aM M.length cM, .slice aP P.length cP, .slice aB B.length cB, .bool el], .slice aw l.length cw] w fun e w' => DecR A w true (decF sl N O sr M P l) e w' := by
  obtain ⟨w0, hw0, hB0, hz0, hC0⟩ := box_pr w ⟨sl, N, O, sr, M, P, B, el⟩ ⟨aN, aO, aM, aP, aB, cN, cO, cM, cP, cB⟩
  have HC : Hid (∀ V : World, Below w0.heap.size w0 V → (V.cell? ⟨w.heap.size, 0, none⟩ = some (.int .i64 sl) ∧ V.cell? ⟨w.heap.size, 1, none⟩ = some (.slice aN N.length cN) ∧ V.cell? ⟨w.heap.size, 2, none⟩ = some (.slice aO O.length cO) ∧ V.cell? ⟨w.heap.size, 3, none⟩ = some (.int .i64 sr)) ∧ V.cell? ⟨w.heap.size, 4, none⟩ = some (.slice aM M.length cM) ∧ V.cell? ⟨w.heap.size, 5, none⟩ = some (.slice aP P.length cP) ∧ V.cell? ⟨w.heap.size, 6, none⟩ = some (.slice aB B.length cB) ∧ V.cell? ⟨w.heap.size, 7, none⟩ = some (.bool el)) := hid0 hC0
  replace hw0 : w.alloc (.cells #[.int .i64 sl, .slice aN N.length cN, .slice aO O.length cO, .int .i64 sr, .slice aM M.length cM, .slice aP P.length cP, .slice aB B.length cB, .bool el] 27) = w0 := hw0
  have hf1 : Fine sl N O (symF N) B.length := fine_of (by unfold chkP at h1; simp only [Bool.and_eq_true] at h1; exact h1.1)
  have hf2 : Fine sr M P (symF N) B.length := fine_of (by unfold chkP at h1; simp only [Bool.and_eq_true] at h1; exact h1.2)
  have hsy : ∀ z ∈ l, 0 ≤ z ∧ z < (symF N : Int) := fun z hz => (oneOf_iff _ _).1 (List.all_eq_true.1 h2 z hz)
  have htl : Tld O P := tld_of hf1 hf2 hs.or hs.pr hs.b
  have HAl : Hid (∀ V : World, Below w0.heap.size w0 V → PrA V ⟨sl, N, O, sr, M, P, B, el⟩ ⟨aN, aO, aM, aP, aB, cN, cO, cM, cP, cB⟩ ∧ IA V aw l ∧ Sents V A ∧ Below w.heap.size w V) := hid0 (fun V hV => by
    have h := hB0.trans (hV.mono (by omega))
    exact ⟨ha.past h, hw.past h, he.below h, h⟩)
  have HSy := hid0 (symbolsOf_any sl sr N O M P B el aN aO aM aP aB cN cO cM cP cB w0 hs (HAl.out w0 (Below.refl _ _)).1)
  have HCk : Hid (∀ V : World, Below w0.heap.size w0 V → Calls Tryd.prog 6 #[.agg #[.int .i64 sl, .slice aN N.length cN, .slice aO O.length cO, .int .i64 sr, .slice aM M.length cM, .slice aP P.length cP, .slice aB B.length cB, .bool el], .int .i64 (symF N : Int)] V fun e w' => e = .returned .nilIface ∧ Below V.heap.size V w') := hid0 (fun V hV => by
    have h := pairCheck_any A sl sr N O M P B el aN aO aM aP aB cN cO cM cP cB (symF N : Int) V hs (HAl.out V hV).1 (HAl.out V hV).2.2.1
    rw [h1, errC_true] at h
    exact h)
  have HAb : Hid (∀ V : World, Below w0.heap.size w0 V → Calls Tryd.prog 26 #[.slice aw l.length cw, .int .i64 (symF N : Int)] V fun e w' => e = .returned (.bool true) ∧ w' = V) := hid0 (fun V hV => by
    have h := allBelow_any (symF N) l aw cw V hl (HAl.out V hV).2.1
    rw [h2] at h
    exact h)
  have hrun := hf1.run hsy
  have HRu : Hid (∀ V : World, Below w0.heap.size w0 V → Calls Tryd.prog 27 #[.agg #[.int .i64 sl, .slice aN N.length cN, .slice aO O.length cO], .slice aw l.length cw] V fun e w' => ∃ v, e = .returned (.tuple #[v, .nilIface]) ∧ OwnI w' V.heap.size v ((List.range (l.length + 1)).map fun k => (stK N sl.toNat l k : Int)) ∧ Below V.heap.size V w') := hid0 (fun V hV => by
    have h := run_any A sl N l aN aO aw cN O.length cO cw V (fun r hr => by have := hs.nr r hr; omega) (by omega) (HAl.out V hV).1.n.rwa (HAl.out V hV).2.1 (HAl.out V hV).2.2.1
    rw [hrun] at h
    exact h)
  have HFo : Hid (∀ V : World, Calls Tryd.prog 28 #[.agg #[.int .i64 sl, .slice aN N.length cN, .slice aO O.length cO, .int .i64 sr, .slice aM M.length cM, .slice aP P.length cP, .slice aB B.length cB, .bool el]] V fun e w' => ∃ Kb Pb, e = .returned (.func (.func 42) #[] #[.pointer (some ⟨Kb, 0, none⟩), .pointer (some ⟨Pb, 0, none⟩)]) ∧ (∃ Bm, Clo w' V.heap.size Kb Pb Bm 0 cO cP O P aO aP) ∧ Below V.heap.size V w') := hid0 (fun V => firstOf_any sl sr N O M P B el aN aO aM aP aB cN cO cM cP cB V)
  obtain ⟨n, hn⟩ : ∃ n, n = l.length - 1 := ⟨_, rfl⟩
  have hnl : l.length = n + 1 := by omega
  have hnI : (l.length : Int) - 1 = (n : Int) := by omega
  have hnW : IntKind.i64.wrap (n : Int) = (n : Int) := by simp [IntKind.wrap, IntKind.bits, IntKind.signed]; omega
  have hn1 : 1 ≤ n := by omega
  have hlt2 : ¬ (l.length : Int) < 2 := by omega
  have hnb : n ≤ 1000000000 := by omega
  have HF1 := hid0 hf1
  have HF2 := hid0 hf2
  have HSl := hid0 hsy
  have HTl := hid0 htl
  have HNl := hid0 hnl
  have HZ0 := hid0 hz0
  have hsr : 0 ≤ sr ∧ sr < (M.length : Int) := hf2.start
  obtain ⟨b0, rfl⟩ : ∃ b0 : Nat, sr = (b0 : Int) := ⟨sr.toNat, by omega⟩
  have hMs : M.length ≤ 1000000000 := hs.m
  have hNs : N.length ≤ 1000000000 := hs.n
  obtain ⟨⟨x0, x1, x2, x3⟩, x4, x5, x6, x7⟩ := HC.out w0 (Below.refl _ _)
  clear hf1 hf2 hsy htl hrun h1 h2 hB0 hC0 hn hnl hz0 ha hw he hs hsr
  generalize hsy : symF N = sy at *
  have HSyN := hid0 hsy
  clear hsy
  go_enter Tryd.func7, Tryd.ntmps7
  go_upto_region 2 with (go_at_call 25; refine HSy.out.mono ?_; rintro e w1 ⟨rfl, hb⟩; have HB1 := hid0 hb; clear hb; clear x0 x1 x2 x3 x4 x5 x6 x7)
  obtain ⟨⟨x0, x1, x2, x3⟩, x4, x5, x6, x7⟩ := HC.out w1 HB1.out
  go_upto_region 4 with (first
    | (go_at_call 26; refine (HAb.out w2 HB2.out).mono ?_; rintro e wq ⟨rfl, hq⟩; have hq' := hq.symm; subst hq'; clear hq)
    | (go_at_call 6; refine (HCk.out w1 HB1.out).mono ?_; rintro e w2 ⟨rfl, hb⟩; have HB2 : Hid (Below w0.heap.size w0 w2) := hid0 (HB1.out.trans (hb.mono HB1.out.size)); clear hb; clear x0 x1 x2 x3 x4 x5 x6 x7))
  obtain ⟨⟨x0, x1, x2, x3⟩, x4, x5, x6, x7⟩ := HC.out w2 HB2.out
  go_upto_region 9 with (go_at_call 27; go_loud ((
    refine (HRu.out w2 HB2.out).mono ?_
    rintro e w3 ⟨va, rfl, ho3, hb3⟩
    obtain ⟨xa, ca, rfl, ia3⟩ := ho3.ia
    have HB3 : Hid (Below w0.heap.size w0 w3) := hid0 (HB2.out.trans (hb3.mono HB2.out.size))
    have HIa := hid0 ia3
    clear ho3 hb3 ia3; clear x0 x1 x2 x3 x4 x5 x6 x7)))
  obtain ⟨w4, hmk, ho4, hb4⟩ := make_zero n w3 hnb
  have HO4 := hid0 ho4
  have HB4 : Hid (Below w0.heap.size w0 w4) := hid0 (HB3.out.trans (hb4.mono HB3.out.size))
  have HB34 := hid0 hb4
  obtain ⟨⟨x0, x1, x2, x3⟩, x4, x5, x6, x7⟩ := HC.out w4 HB4.out
  clear ho4 hb4
  go_upto_region 11 with (go_at_call 28; go_loud ((
    refine (HFo.out w4).mono ?_
    rintro e w5 ⟨Kb, Pb, rfl, hcl, hb5⟩
    obtain ⟨Bm, hcl⟩ := hcl
    have HCl := hid0 hcl
    have HB45 := hid0 hb5
    have HB5 : Hid (Below w0.heap.size w0 w5) := hid0 (HB4.out.trans (hb5.mono HB4.out.size))
    clear hcl hb5 hmk; clear x0 x1 x2 x3 x4 x5 x6 x7)))
  obtain ⟨⟨x0, x1, x2, x3⟩, x4, x5, x6, x7⟩ := HC.out w5 HB5.out
  have HD5 : Hid (Dc w3 w5 w3.heap.size n Kb Pb Bm cO cP n O P aO aP (decK sl N O (b0 : Int) M P l)) := hid0 (by
    have g4 := World.ownsRow.lt HO4.out w3.heap.size rfl
    have hlo := HCl.out.lo
    refine ⟨⟨List.replicate n 0, by simp, own_blk HO4.out (fun k hk => ?_), fun j h1 h2 => by omega⟩, ?_, by omega, HB34.out.trans (HB45.out.mono HB34.out.size)⟩
    · exact HB45.out.block k (World.ownsRow.lt HO4.out k hk).2
    · rw [Nat.sub_self]
      exact ⟨HCl.out.k0, HCl.out.p2, HCl.out.p5, HCl.out.kn, HCl.out.ne, by omega⟩)
  clear HCl HO4 HB34 HB45 HB4
  go_wp2
  clear x0 x1 x2 x3 x4 x5 x6 x7
  go_loopw [11, 12] (fun bv pv wr => ∃ q : Nat, q ≤ n ∧ bv = .int .i64 (stK M b0 l.reverse (n - q) : Int) ∧ pv = .int .i64 (q : Int) ∧ Hid (Dc w3 wr w3.heap.size n Kb Pb Bm cO cP q O P aO aP (decK sl N O (b0 : Int) M P l))) (fun _ pv _ => (intOf pv).toNat)
  case atStart => exact ⟨n, Nat.le_refl _, by rw [Nat.sub_self]; rfl, rfl, HD5⟩
  case round =>
    clear HD5
    obtain ⟨q, hq, rfl, rfl, HD⟩ := hrel
    have hbw : Below w0.heap.size w0 wr := HB3.out.trans (HD.out.bel.mono HB3.out.size)
    have HBw := hid0 hbw
    obtain ⟨⟨x0, x1, x2, x3⟩, x4, x5, x6, x7⟩ := HC.out wr hbw
    by_cases hq0 : q = 0
    · have hqI : ¬ (q : Int) > 0 := by omega
      have HFin : Hid (DecR A w true (decF sl N O (b0 : Int) M P l) (.returned (.tuple #[.slice (some ⟨w3.heap.size, 0, none⟩) n n, .nilIface])) wr) := hid0 (by
        refine ⟨_, rfl, ?_, (HAl.out wr hbw).2.2.2⟩
        rw [if_pos rfl]
        have h := HD.out
        rw [hq0] at h
        unfold decF
        rw [show l.length - 1 = n by have := HNl.out; omega]
        exact owns_lower h.done (by have := (HAl.out w3 HB3.out).2.2.2.size; exact this))
      clear hq0 hbw
      go_wp2
      go_returns
      exact HFin.out
    · obtain ⟨r, rfl⟩ : ∃ r, q = r + 1 := ⟨q - 1, by omega⟩
      have hqI : ((r + 1 : Nat) : Int) > 0 := by omega
      have hrl : r + 1 < l.length := by have := HNl.out; omega
      obtain ⟨bh, hbh⟩ : ∃ bh, bh = stK M b0 l.reverse (n - (r + 1)) := ⟨_, rfl⟩
      have hrev : ∀ z ∈ l.reverse, 0 ≤ z ∧ z < (sy : Int) := fun z hz => HSl.out z (List.mem_reverse.1 hz)
      have hbl : bh < M.length := by
        rw [hbh]
        have h := HF2.out.st hrev (n - (r + 1)) (by rw [List.length_reverse]; have := HNl.out; omega)
        rw [Int.toNat_natCast] at h
        exact h
      have hz := HSl.out _ (List.getElem_mem hrl)
      obtain ⟨zn, hzn⟩ : ∃ zn : Nat, l[r + 1] = (zn : Int) := ⟨l[r + 1].toNat, by omega⟩
      have hznS : zn < sy := by rw [hzn] at hz; omega
      have hrow := HF2.out.row bh hbl
      obtain ⟨n1, n2⟩ := HF2.out.next (s := bh) (z := l[r + 1]) hbl hz
      obtain ⟨b1, hb1⟩ : ∃ b1, b1 = nxS M bh l[r + 1] := ⟨_, rfl⟩
      have hst : stK M b0 l.reverse (n - r) = b1 := by
        have e : n - r = (n - (r + 1)) + 1 := by omega
        rw [e]
        show nxS M (stK M b0 l.reverse (n - (r + 1))) (l.reverse.getD (n - (r + 1)) 0) = b1
        have e2 : n - (r + 1) = l.length - 1 - (r + 1) := by have := HNl.out; omega
        rw [← hbh, hb1, e2, rev_at hrl]
      obtain ⟨ba, hba⟩ : ∃ ba, ba = stK N sl.toNat l (r + 1) := ⟨_, rfl⟩
      have hbal : ba < N.length := by rw [hba]; exact HF1.out.st HSl.out (r + 1) (by omega)
      have haO : ba < O.length := by rw [HF1.out.out]; exact hbal
      have hbP : b1 < P.length := by rw [HF2.out.out, hb1]; exact n1
      -- the row of the state behind
      have hpr := (HAl.out wr hbw).1
      obtain ⟨bM, oM, eM, _, a5, c5, d5, i5, _⟩ := hpr.m.at' bh hbl
      have eM' : aM = some ⟨bM, oM, none⟩ := eM
      have hl5 : (M[bh]).length = sy := by rw [← hrow, getD_at hbl]
      obtain ⟨b6, o6, rfl, _, d6⟩ := i5.at' zn (show zn < (M[bh]).length by omega)
      have hv6 : (M[bh])[zn]'(by omega) = (b1 : Int) := by
        rw [hb1, ← n2, getD_at hbl, List.getD_eq_getElem?_getD, hzn, Int.toNat_natCast, List.getElem?_eq_getElem (by omega)]
        rfl
      rw [hv6] at d6
      have d5' : wr.cell? ⟨bM, oM + bh, none⟩ = some (.slice (some ⟨b6, o6, none⟩) sy c5) := by rw [← hl5]; exact d5
      obtain ⟨b7, o7, eW, _, d7⟩ := (HAl.out wr hbw).2.1.at' (r + 1) hrl
      rw [hzn] at d7
      obtain ⟨b8, o8, e8, _, d8⟩ := (HIa.out.past HD.out.bel).at' (r + 1) (by simp; omega)
      have hv8 : ((List.range (l.length + 1)).map fun k => (stK N sl.toNat l k : Int))[r + 1]'(by simp; omega) = (ba : Int) := by rw [List.getElem_map, List.getElem_range, hba]
      rw [hv8] at d8
      have HFi : Hid (∀ k, Calls Tryd.prog 42 #[.int .i64 (ba : Int), .int .i64 (b1 : Int), .pointer (some ⟨Kb, 0, none⟩), .pointer (some ⟨Pb, 0, none⟩)] (wr.drewN k) fun e w' => e = .returned (.int .i64 (fsF O P ba b1)) ∧ FsR (wr.drewN k) Bm (n - (r + 1)) (fsF O P) w') := hid0 (fun k => by
        have hd := (HD.out.drewN k).clo
        have hp := hpr.past (below_drew' (Below.refl _ _) k)
        exact first_any O P ba b1 Kb Pb Bm (n - (r + 1)) cO cP aO aP (wr.drewN k) hp.o hp.p' HTl.out haO hbP ⟨by omega⟩ ⟨by have := n1; rw [← hb1] at this; omega⟩ (by omega) hd.k0 hd.p2 hd.p5 hd.kn)
      have HSt : Hid (∀ k V', FsR (wr.drewN k) Bm (n - (r + 1)) (fsF O P) V' → V'.frozen? ⟨w3.heap.size, r, none⟩ = false ∧ (∃ z, V'.cell? ⟨w3.heap.size, r, none⟩ = some (.int .i64 z)) ∧ Dc w3 (V'.setCell ⟨w3.heap.size, r, none⟩ (.int .i64 (fsF O P ba b1))) w3.heap.size n Kb Pb Bm cO cP r O P aO aP (decK sl N O (b0 : Int) M P l)) := hid0 (fun k V' hV => (HD.out.drewN k).step (by omega) hV (by
        unfold decK fsF
        rw [Int.toNat_natCast, show l.length - 1 - r = n - r by have := HNl.out; omega, hst, hba]))
      have hbhI : (bh : Int) < (M.length : Int) := by omega
      have hbhI0 : (0 : Int) ≤ (bh : Int) := by omega
      have hznI : (zn : Int) < (sy : Int) := by omega
      have hznI0 : (0 : Int) ≤ (zn : Int) := by omega
      have hrI : ((r + 1 : Nat) : Int) < (l.length : Int) := by omega
      have hrI0 : (0 : Int) ≤ ((r + 1 : Nat) : Int) := by omega
      obtain ⟨q, hq'⟩ : ∃ q, q = r + 1 := ⟨_, rfl⟩
      have hqr : (q : Int) - 1 = (r : Int) := by omega
      have hqW : IntKind.i64.wrap (r : Int) = (r : Int) := by simp [IntKind.wrap, IntKind.bits, IntKind.signed]; omega
      rw [← hbh]
      rw [← hq'] at hqI hrI hrI0 d7 d8 ⊢
      have hqn : q < l.length := by omega
      have hqa : (q : Int) < ((l.length + 1 : Nat) : Int) := by omega
      have hla : ((List.range (l.length + 1)).map fun k => (stK N sl.toNat l k : Int)).length = l.length + 1 := by simp
      have hrn : (r : Int) < (n : Int) := by omega
      have hrn0 : (0 : Int) ≤ (r : Int) := by omega
      subst eM'
      subst eW
      subst e8
      have HStk := hid0 hst
      have HQr := hid0 hq'
      generalize fsF O P ba b1 = dv at *
      clear hbh hrev hrow n1 n2 hb1 hst hba hpr eM hl5 hv6 hv8 i5 hz hzn hq' hq hbw d5 hq0
      go_wp2
      go_quiet ((fail))
      go_wp2_with (go_at_call 42; go_loud ((
        refine (HFi.out nq).mono ?_
        rintro e w6 ⟨rfl, hf⟩
        obtain ⟨fz, ⟨z6, c6⟩, hdc⟩ := HSt.out nq w6 hf
        have HD2 := hid0 hdc
        clear hf hdc)))
      go_roundw
      case rel => exact ⟨r, by omega, by rw [HStk.out], by have := HQr.out; go_num, HD2⟩
      case measure => have := HQr.out; simp [intOf]; omega
set_option maxRecDepth 10000 in
set_option maxHeartbeats 1600000 in
theorem decide_any (A : Nat → Addr) (sl sr : Int) (N O M P : List (List Int)) (B : List Bool) (el : Bool) (aN aO aM aP aB : Option Addr) (cN cO cM cP cB : Nat) (l : List Int) (aw : Option Addr) (cw : Nat) (w : World) (hs : PrS ⟨sl, N, O, sr, M, P, B, el⟩) (ha : PrA w ⟨sl, N, O, sr, M, P, B, el⟩ ⟨aN, aO, aM, aP, aB, cN, cO, cM, cP, cB⟩) (hl : l.length ≤ 1000000000) (hw : IA w aw l) (he : Sents w A) :
    Calls Tryd.prog 7 #[.agg #[.int .i64 sl, .slice aN N.length cN, .slice aO O.length cO, .int .i64 sr, .slice aM M.length cM, .slice aP P.length cP, .slice aB B.length cB, .bool el], .slice aw l.length cw] w fun e w' => DecR A w (okD sl N O sr M P B.length l) (decF sl N O sr M P l) e w' := by
  cases h1 : chkP sl N O sr M P B.length (symF N : Int) with
  | true =>
    cases h2 : l.all (oneOf (symF N)) with
    | true =>
      have hok : okD sl N O sr M P B.length l = true := by unfold okD; rw [h1, h2]; rfl
      rw [hok]
      by_cases hlong : 2 ≤ l.length
      · exact decide_long A sl sr N O M P B el aN aO aM aP aB cN cO cM cP cB l aw cw w hs ha hl hw he h1 h2 hlong
      · have HD0 : Hid (decF sl N O sr M P l = []) := hid0 (by unfold decF; rw [show l.length - 1 = 0 by omega]; rfl)
        obtain ⟨w0, hw0, hB0, hz0, hC0⟩ := box_pr w ⟨sl, N, O, sr, M, P, B, el⟩ ⟨aN, aO, aM, aP, aB, cN, cO, cM, cP, cB⟩
        have HC : Hid (∀ V : World, Below w0.heap.size w0 V → (V.cell? ⟨w.heap.size, 0, none⟩ = some (.int .i64 sl) ∧ V.cell? ⟨w.heap.size, 1, none⟩ = some (.slice aN N.length cN) ∧ V.cell? ⟨w.heap.size, 2, none⟩ = some (.slice aO O.length cO) ∧ V.cell? ⟨w.heap.size, 3, none⟩ = some (.int .i64 sr)) ∧ V.cell? ⟨w.heap.size, 4, none⟩ = some (.slice aM M.length cM) ∧ V.cell? ⟨w.heap.size, 5, none⟩ = some (.slice aP P.length cP) ∧ V.cell? ⟨w.heap.size, 6, none⟩ = some (.slice aB B.length cB) ∧ V.cell? ⟨w.heap.size, 7, none⟩ = some (.bool el)) := hid0 hC0
        replace hw0 : w.alloc (.cells #[.int .i64 sl, .slice aN N.length cN, .slice aO O.length cO, .int .i64 sr, .slice aM M.length cM, .slice aP P.length cP, .slice aB B.length cB, .bool el] 27) = w0 := hw0
        have HAl : Hid (∀ V : World, Below w0.heap.size w0 V → PrA V ⟨sl, N, O, sr, M, P, B, el⟩ ⟨aN, aO, aM, aP, aB, cN, cO, cM, cP, cB⟩ ∧ IA V aw l ∧ Sents V A ∧ Below w.heap.size w V) := hid0 (fun V hV => by
          have h := hB0.trans (hV.mono (by omega))
          exact ⟨ha.past h, hw.past h, he.below h, h⟩)
        have HSy := hid0 (symbolsOf_any sl sr N O M P B el aN aO aM aP aB cN cO cM cP cB w0 hs (HAl.out w0 (Below.refl _ _)).1)
        have HCk : Hid (∀ V : World, Below w0.heap.size w0 V → Calls Tryd.prog 6 #[.agg #[.int .i64 sl, .slice aN N.length cN, .slice aO O.length cO, .int .i64 sr, .slice aM M.length cM, .slice aP P.length cP, .slice aB B.length cB, .bool el], .int .i64 (symF N : Int)] V fun e w' => e = .returned .nilIface ∧ Below V.heap.size V w') := hid0 (fun V hV => by
          have h := pairCheck_any A sl sr N O M P B el aN aO aM aP aB cN cO cM cP cB (symF N : Int) V hs (HAl.out V hV).1 (HAl.out V hV).2.2.1
          rw [h1, errC_true] at h
          exact h)
        have HAb : Hid (∀ V : World, Below w0.heap.size w0 V → Calls Tryd.prog 26 #[.slice aw l.length cw, .int .i64 (symF N : Int)] V fun e w' => e = .returned (.bool true) ∧ w' = V) := hid0 (fun V hV => by
          have h := allBelow_any (symF N) l aw cw V hl (HAl.out V hV).2.1
          rw [h2] at h
          exact h)
        obtain ⟨⟨x0, x1, x2, x3⟩, x4, x5, x6, x7⟩ := HC.out w0 (Below.refl _ _)
        have hlt2 : (l.length : Int) < 2 := by omega
        clear hB0 hC0 hz0 ha hw he hs h1 h2 hok hlong
        generalize hsy : symF N = sy at *
        clear hsy
        go_enter Tryd.func7, Tryd.ntmps7
        go_wp2_with (first
          | (go_at_call 26; refine (HAb.out w2 HB2.out).mono ?_; rintro e wq ⟨rfl, hq⟩; have hq' := hq.symm; subst hq'; clear hq)
          | (go_at_call 6; refine (HCk.out w1 HB1.out).mono ?_; rintro e w2 ⟨rfl, hb⟩; have HB2 : Hid (Below w0.heap.size w0 w2) := hid0 (HB1.out.trans (hb.mono HB1.out.size)); clear hb)
          | (go_at_call 25; refine HSy.out.mono ?_; rintro e w1 ⟨rfl, hb⟩; have HB1 := hid0 hb; obtain ⟨⟨z0, z1, z2, z3⟩, z4, z5, z6, z7⟩ := HC.out w1 hb; clear hb))
        go_returns
        exact ⟨_, rfl, by rw [HD0.out]; exact World.ownsRow_nil _ _ _ _, (HAl.out w2 HB2.out).2.2.2⟩
    | false =>
      have hok : okD sl N O sr M P B.length l = false := by unfold okD; rw [h1, h2]; rfl
      rw [hok]
      obtain ⟨w0, hw0, hB0, hz0, hC0⟩ := box_pr w ⟨sl, N, O, sr, M, P, B, el⟩ ⟨aN, aO, aM, aP, aB, cN, cO, cM, cP, cB⟩
      have HC : Hid (∀ V : World, Below w0.heap.size w0 V → (V.cell? ⟨w.heap.size, 0, none⟩ = some (.int .i64 sl) ∧ V.cell? ⟨w.heap.size, 1, none⟩ = some (.slice aN N.length cN) ∧ V.cell? ⟨w.heap.size, 2, none⟩ = some (.slice aO O.length cO) ∧ V.cell? ⟨w.heap.size, 3, none⟩ = some (.int .i64 sr)) ∧ V.cell? ⟨w.heap.size, 4, none⟩ = some (.slice aM M.length cM) ∧ V.cell? ⟨w.heap.size, 5, none⟩ = some (.slice aP P.length cP) ∧ V.cell? ⟨w.heap.size, 6, none⟩ = some (.slice aB B.length cB) ∧ V.cell? ⟨w.heap.size, 7, none⟩ = some (.bool el)) := hid0 hC0
      replace hw0 : w.alloc (.cells #[.int .i64 sl, .slice aN N.length cN, .slice aO O.length cO, .int .i64 sr, .slice aM M.length cM, .slice aP P.length cP, .slice aB B.length cB, .bool el] 27) = w0 := hw0
      have HAl : Hid (∀ V : World, Below w0.heap.size w0 V → PrA V ⟨sl, N, O, sr, M, P, B, el⟩ ⟨aN, aO, aM, aP, aB, cN, cO, cM, cP, cB⟩ ∧ IA V aw l ∧ Sents V A ∧ Below w.heap.size w V) := hid0 (fun V hV => by
        have h := hB0.trans (hV.mono (by omega))
        exact ⟨ha.past h, hw.past h, he.below h, h⟩)
      have HSy := hid0 (symbolsOf_any sl sr N O M P B el aN aO aM aP aB cN cO cM cP cB w0 hs (HAl.out w0 (Below.refl _ _)).1)
      have HCk : Hid (∀ V : World, Below w0.heap.size w0 V → Calls Tryd.prog 6 #[.agg #[.int .i64 sl, .slice aN N.length cN, .slice aO O.length cO, .int .i64 sr, .slice aM M.length cM, .slice aP P.length cP, .slice aB B.length cB, .bool el], .int .i64 (symF N : Int)] V fun e w' => e = .returned .nilIface ∧ Below V.heap.size V w') := hid0 (fun V hV => by
        have h := pairCheck_any A sl sr N O M P B el aN aO aM aP aB cN cO cM cP cB (symF N : Int) V hs (HAl.out V hV).1 (HAl.out V hV).2.2.1
        rw [h1, errC_true] at h
        exact h)
      have HAb : Hid (∀ V : World, Below w0.heap.size w0 V → Calls Tryd.prog 26 #[.slice aw l.length cw, .int .i64 (symF N : Int)] V fun e w' => e = .returned (.bool false) ∧ w' = V) := hid0 (fun V hV => by
        have h := allBelow_any (symF N) l aw cw V hl (HAl.out V hV).2.1
        rw [h2] at h
        exact h)
      obtain ⟨⟨x0, x1, x2, x3⟩, x4, x5, x6, x7⟩ := HC.out w0 (Below.refl _ _)
      clear hB0 hC0 hz0 ha hw he hs h1 h2 hok
      generalize hsy : symF N = sy at *
      clear hsy
      go_enter Tryd.func7, Tryd.ntmps7
      go_wp2_with (first
        | (go_at_call 26; refine (HAb.out w2 HB2.out).mono ?_; rintro e wq ⟨rfl, hq⟩; have hq' := hq.symm; subst hq'; clear hq)
        | (go_at_call 6; refine (HCk.out w1 HB1.out).mono ?_; rintro e w2 ⟨rfl, hb⟩; have HB2 : Hid (Below w0.heap.size w0 w2) := hid0 (HB1.out.trans (hb.mono HB1.out.size)); clear hb)
        | (go_at_call 25; refine HSy.out.mono ?_; rintro e w1 ⟨rfl, hb⟩; have HB1 := hid0 hb; obtain ⟨⟨z0, z1, z2, z3⟩, z4, z5, z6, z7⟩ := HC.out w1 hb; clear hb))
      have e0 := (HAl.out w2 HB2.out).2.2.1.c0
      go_quiet ((fail))
      go_wp2
      go_returns
      exact ⟨_, rfl, World.ownsRow_nil _ _ _ _, below_drew' (HAl.out w2 HB2.out).2.2.2 _⟩
  | false =>
    have hok : okD sl N O sr M P B.length l = false := by unfold okD; rw [h1]; rfl
    rw [hok]
    obtain ⟨w0, hw0, hB0, hz0, hC0⟩ := box_pr w ⟨sl, N, O, sr, M, P, B, el⟩ ⟨aN, aO, aM, aP, aB, cN, cO, cM, cP, cB⟩
    have HC : Hid (∀ V : World, Below w0.heap.size w0 V → (V.cell? ⟨w.heap.size, 0, none⟩ = some (.int .i64 sl) ∧ V.cell? ⟨w.heap.size, 1, none⟩ = some (.slice aN N.length cN) ∧ V.cell? ⟨w.heap.size, 2, none⟩ = some (.slice aO O.length cO) ∧ V.cell? ⟨w.heap.size, 3, none⟩ = some (.int .i64 sr)) ∧ V.cell? ⟨w.heap.size, 4, none⟩ = some (.slice aM M.length cM) ∧ V.cell? ⟨w.heap.size, 5, none⟩ = some (.slice aP P.length cP) ∧ V.cell? ⟨w.heap.size, 6, none⟩ = some (.slice aB B.length cB) ∧ V.cell? ⟨w.heap.size, 7, none⟩ = some (.bool el)) := hid0 hC0
    replace hw0 : w.alloc (.cells #[.int .i64 sl, .slice aN N.length cN, .slice aO O.length cO, .int .i64 sr, .slice aM M.length cM, .slice aP P.length cP, .slice aB B.length cB, .bool el] 27) = w0 := hw0
    have HAl : Hid (∀ V : World, Below w0.heap.size w0 V → PrA V ⟨sl, N, O, sr, M, P, B, el⟩ ⟨aN, aO, aM, aP, aB, cN, cO, cM, cP, cB⟩ ∧ IA V aw l ∧ Sents V A ∧ Below w.heap.size w V) := hid0 (fun V hV => by
      have h := hB0.trans (hV.mono (by omega))
      exact ⟨ha.past h, hw.past h, he.below h, h⟩)
    have HSy := hid0 (symbolsOf_any sl sr N O M P B el aN aO aM aP aB cN cO cM cP cB w0 hs (HAl.out w0 (Below.refl _ _)).1)
    have HCk : Hid (∀ V : World, Below w0.heap.size w0 V → Calls Tryd.prog 6 #[.agg #[.int .i64 sl, .slice aN N.length cN, .slice aO O.length cO, .int .i64 sr, .slice aM M.length cM, .slice aP P.length cP, .slice aB B.length cB, .bool el], .int .i64 (symF N : Int)] V fun e w' => e = .returned (.iface 71 (.pointer (some (A 0)))) ∧ Below V.heap.size V w') := hid0 (fun V hV => by
      have h := pairCheck_any A sl sr N O M P B el aN aO aM aP aB cN cO cM cP cB (symF N : Int) V hs (HAl.out V hV).1 (HAl.out V hV).2.2.1
      rw [h1, errC_false] at h
      exact h)
    obtain ⟨⟨x0, x1, x2, x3⟩, x4, x5, x6, x7⟩ := HC.out w0 (Below.refl _ _)
    clear hB0 hC0 hz0 ha hw he hs h1 hok
    generalize hsy : symF N = sy at *
    clear hsy
    go_enter Tryd.func7, Tryd.ntmps7
    go_wp2_with (first
      | (go_at_call 6; refine (HCk.out w1 HB1.out).mono ?_; rintro e w2 ⟨rfl, hb⟩; have HB2 : Hid (Below w0.heap.size w0 w2) := hid0 (HB1.out.trans (hb.mono HB1.out.size)); clear hb)
      | (go_at_call 25; refine HSy.out.mono ?_; rintro e w1 ⟨rfl, hb⟩; have HB1 := hid0 hb; obtain ⟨⟨z0, z1, z2, z3⟩, z4, z5, z6, z7⟩ := HC.out w1 hb; clear hb))
    have e0 := (HAl.out w2 HB2.out).2.2.1.c0
    go_quiet ((fail))
    go_wp2
    go_returns
    exact ⟨_, rfl, World.ownsRow_nil _ _ _ _, below_drew' (HAl.out w2 HB2.out).2.2.2 _⟩
end Go.Proofs.YtilnanefkbdbkaaDoor
namespace Go.Proofs.YtilnanefkbdbkaaDoor
open Go.RowKit Go.Shelf
theorem dec_lt {sl sr : Int} {N O M P : List (List Int)} {nb : Nat} {l : List Int} (h : okD sl N O sr M P nb l = true) : ∀ d ∈ decF sl N O sr M P l, d < (nb : Int) ∨ d = -1 := by
  intro d hd
  unfold okD at h
  simp only [Bool.and_eq_true] at h
  have h1 := h.1
  unfold chkP at h1
  simp only [Bool.and_eq_true] at h1
  have hf1 := fine_of h1.1
  have hsy : ∀ z ∈ l, 0 ≤ z ∧ z < (symF N : Int) := fun z hz => (oneOf_iff _ _).1 (List.all_eq_true.1 h.2 z hz)
  unfold decF at hd
  obtain ⟨k, hk, rfl⟩ := List.mem_map.1 hd
  rw [List.mem_range] at hk
  by_cases e : decK sl N O sr M P l k = -1
  · exact .inr e
  · left
    have hm : decK sl N O sr M P l k ∈ O.getD (stK N sl.toNat l (k + 1)) [] := lstF_mem e
    have hs := hf1.st hsy (k + 1) (by omega)
    have := (hf1.rise _ hs).2 _ hm
    exact this.2
set_option maxRecDepth 10000 in
set_option maxHeartbeats 1600000 in
theorem breaks_any (A : Nat → Addr) (sl sr : Int) (N O M P : List (List Int)) (B : List Bool) (el : Bool) (aN aO aM aP aB : Option Addr) (cN cO cM cP cB : Nat) (l : List Int) (aw : Option Addr) (cw : Nat) (w : World) (hs : PrS ⟨sl, N, O, sr, M, P, B, el⟩) (ha : PrA w ⟨sl, N, O, sr, M, P, B, el⟩ ⟨aN, aO, aM, aP, aB, cN, cO, cM, cP, cB⟩) (hl : l.length ≤ 1000000000) (hw : IA w aw l) (he : Sents w A) :
    Calls Tryd.prog 9 #[.agg #[.int .i64 sl, .slice aN N.length cN, .slice aO O.length cO, .int .i64 sr, .slice aM M.length cM, .slice aP P.length cP, .slice aB B.length cB, .bool el], .slice aw l.length cw] w fun e w' => DecR A w (okD sl N O sr M P B.length l) (brkF (decF sl N O sr M P l) B el l.length) e w' := by
  obtain ⟨w0, hw0, hB0, hz0, hC0⟩ := box_pr w ⟨sl, N, O, sr, M, P, B, el⟩ ⟨aN, aO, aM, aP, aB, cN, cO, cM, cP, cB⟩
  have HC : Hid (∀ V : World, Below w0.heap.size w0 V → (V.cell? ⟨w.heap.size, 0, none⟩ = some (.int .i64 sl) ∧ V.cell? ⟨w.heap.size, 1, none⟩ = some (.slice aN N.length cN) ∧ V.cell? ⟨w.heap.size, 2, none⟩ = some (.slice aO O.length cO) ∧ V.cell? ⟨w.heap.size, 3, none⟩ = some (.int .i64 sr)) ∧ V.cell? ⟨w.heap.size, 4, none⟩ = some (.slice aM M.length cM) ∧ V.cell? ⟨w.heap.size, 5, none⟩ = some (.slice aP P.length cP) ∧ V.cell? ⟨w.heap.size, 6, none⟩ = some (.slice aB B.length cB) ∧ V.cell? ⟨w.heap.size, 7, none⟩ = some (.bool el)) := hid0 hC0
  replace hw0 : w.alloc (.cells #[.int .i64 sl, .slice aN N.length cN, .slice aO O.length cO, .int .i64 sr, .slice aM M.length cM, .slice aP P.length cP, .slice aB B.length cB, .bool el] 27) = w0 := hw0
  obtain ⟨i0, hi, hy0, hy1, hy2⟩ := info_parts infoInt
  have HAl : Hid (∀ V : World, Below w0.heap.size w0 V → PrA V ⟨sl, N, O, sr, M, P, B, el⟩ ⟨aN, aO, aM, aP, aB, cN, cO, cM, cP, cB⟩ ∧ IA V aw l ∧ Sents V A ∧ Below w.heap.size w V) := hid0 (fun V hV => by
    have h := hB0.trans (hV.mono (by omega))
    exact ⟨ha.past h, hw.past h, he.below h, h⟩)
  have HDe := hid0 (decide_any A sl sr N O M P B el aN aO aM aP aB cN cO cM cP cB l aw cw w0 hs (HAl.out w0 (Below.refl _ _)).1 hl (HAl.out w0 (Below.refl _ _)).2.1 (HAl.out w0 (Below.refl _ _)).2.2.1)
  obtain ⟨⟨x0, x1, x2, x3⟩, x4, x5, x6, x7⟩ := HC.out w0 (Below.refl _ _)
  have HS := hid0 hs
  have hB : B.length ≤ 1000000000 := hs.b
  clear hB0 hC0 hz0 ha hw he hs
  cases hok : okD sl N O sr M P B.length l with
  | false =>
    rw [hok] at HDe
    unfold DecR at HDe
    rw [errC_false] at HDe
    clear hok
    go_enter Tryd.func9, Tryd.ntmps9
    go_wp2_with (go_at_call 7; go_loud ((
      refine HDe.out.mono ?_
      rintro e w1 ⟨v, rfl, _, hb1⟩
      have HB1 := hid0 hb1
      clear hb1)))
    go_returns
    exact ⟨_, rfl, World.ownsRow_nil _ _ _ _, (HAl.out w1 HB1.out).2.2.2⟩
  | true =>
    have HLt := hid0 (dec_lt hok)
    have HLn : Hid ((decF sl N O sr M P l).length = l.length - 1) := hid0 (by unfold decF; simp)
    rw [hok] at HDe
    unfold DecR at HDe
    simp only [if_true] at HDe
    rw [errC_true] at HDe
    clear hok
    generalize decF sl N O sr M P l = D at *
    have hDl : D.length ≤ 1000000000 := by have := HLn.out; omega
    by_cases h0 : l.length = 0
    · have h0I : (l.length : Int) = 0 := by omega
      have h0b : ((l.length : Int) == 0) = true := by rw [beq_iff_eq]; omega
      have HV : Hid (brkF D B el l.length = []) := hid0 (by unfold brkF; rw [if_pos h0])
      clear h0
      go_enter Tryd.func9, Tryd.ntmps9
      go_wp2_with (go_at_call 7; go_loud ((
        refine HDe.out.mono ?_
        rintro e w1 ⟨v, rfl, _, hb1⟩
        have HB1 := hid0 hb1
        clear hb1)))
      go_returns
      exact ⟨_, rfl, by rw [if_pos rfl, HV.out]; exact World.ownsRow_nil _ _ _ _, (HAl.out w1 HB1.out).2.2.2⟩
    · have h0I : ¬ (l.length : Int) = 0 := by omega
      have h0b : ((l.length : Int) == 0) = false := by rw [beq_eq_false_iff_ne]; exact h0I
      have h0n : ¬ l = [] := fun e => h0 (by rw [e]; rfl)
      have HV : Hid (brkF D B el l.length = (0 :: brkK D B el D.length) ++ [(l.length : Int)]) := hid0 (by unfold brkF; rw [if_neg h0]; rfl)
      clear h0
      go_enter Tryd.func9, Tryd.ntmps9
      go_upto_region 4 with (go_at_call 7; go_loud ((
        refine HDe.out.mono ?_
        rintro e w1 ⟨v, rfl, ho1, hb1⟩
        obtain ⟨av, cv, rfl, iv⟩ := ho1.ia
        have HIv := hid0 iv
        have HB1 := hid0 hb1
        clear ho1 hb1 iv; clear x0 x1 x2 x3 x4 x5 x6 x7)))
      go_wp2
      go_loopw [8, 28] (fun pv kv wr => ∃ k : Nat, k ≤ D.length ∧ kv = .int .i64 (k : Int) ∧ Hid (OwnI wr w1.heap.size pv (0 :: brkK D B el k)) ∧ Hid (Below w1.heap.size w1 wr)) (fun _ kv _ => D.length - (intOf kv).toNat)
      case atStart => exact ⟨0, Nat.zero_le _, rfl, hid0 (own_one w1 _ 0 (Nat.le_refl _)), hid0 ((Below.refl _ _).alloc (Nat.le_refl _) _)⟩
      case round =>
        obtain ⟨k, hk, rfl, HO, HB⟩ := hrel
        have hbw : Below w0.heap.size w0 wr := HB1.out.trans (HB.out.mono HB1.out.size)
        have HBw := hid0 hbw
        have hsz := HB.out.size
        obtain ⟨pa, pc, ep, _⟩ := HO.out.ia
        subst ep
        have hbl := brkK_len D B el k
        by_cases hkl : k < D.length
        · have hkI : (k : Int) < (D.length : Int) := by omega
          have hkI0 : (0 : Int) ≤ (k : Int) := by omega
          obtain ⟨b1, o1, rfl, _, d1⟩ := (HIv.out.past HB.out).at' k hkl
          have hdm := HLt.out _ (List.getElem_mem hkl)
          have HG : Hid (D.getD k 0 = D[k]) := hid0 (by rw [List.getD_eq_getElem?_getD, List.getElem?_eq_getElem hkl]; rfl)
          have HSt := hid0 (brkK_step D B el k)
          rw [HG.out] at HSt
          have HSa := hid0 (saysBreak_any sl sr N O M P B el aN aO aM aP aB cN cO cM cP cB D[k] wr (by rcases hdm with h | h <;> omega) HS.out (HAl.out wr hbw).1)
          generalize D[k] = d at *
          obtain ⟨⟨x0, x1, x2, x3⟩, x4, x5, x6, x7⟩ := HC.out wr hbw
          clear hdm hbw
          cases hsy : sayF B el d with
          | false =>
            rw [hsy] at HSa HSt
            have HE : Hid (brkK D B el (k + 1) = brkK D B el k) := hid0 (by rw [HSt.out]; simp)
            clear hsy HSt
            go_wp2_with (go_at_call 33; refine HSa.out.mono ?_; rintro e w2 ⟨rfl, hb2⟩; have HB2 := hid0 hb2; clear hb2)
            go_roundw
            case rel => exact ⟨k + 1, by omega, by go_num, hid0 (by rw [HE.out]; exact HO.out.past HB2.out), hid0 (HB.out.trans (HB2.out.mono HB.out.size))⟩
            case measure => simp [intOf]; omega
          | true =>
            rw [hsy] at HSa HSt
            have HE : Hid (0 :: brkK D B el (k + 1) = (0 :: brkK D B el k) ++ [(k : Int) + 1]) := hid0 (by rw [HSt.out]; simp)
            have hadd : IntKind.i64.wrap ((k : Int) + 1) = (k : Int) + 1 := by simp [IntKind.wrap, IntKind.bits, IntKind.signed]; omega
            have hXl : (0 :: brkK D B el k).length ≤ 1000000001 := by rw [List.length_cons]; omega
            clear hsy HSt
            generalize (0 :: brkK D B el k) = X at *
            go_wp2_with (first
              | (go_at_call 33; refine HSa.out.mono ?_; rintro e w2 ⟨rfl, hb2⟩; have HB2 := hid0 hb2; have hs2 := hb2.size; clear hb2)
              | (at_builtin; go_loud ((
                  refine wpList_append_own_at _ rfl _ _ 28 rfl w1.heap.size 3 i0 (.int .i64 0) 1 8 Tryd.underlying28 hi hy0 hy1 hy2 rfl (by decide) _ X.length (X.map (Value.int .i64)) rfl (World.ownsRow.alloc (HO.out.past HB2.out) _) ⟨w2.heap.size, 0, none⟩ 1 1 [.int .i64 ((k : Int) + 1)] rfl rfl (cell_one_new _ _ _) (by simp [Value.oneCell']) (by unfold maxLen; omega) (by omega) (by simp; omega) ?_
                  intro v3 w3 hown3 hgrow3 _ _
                  have R := ownI_snoc rfl (HO.out.past HB2.out) hown3 hgrow3 (HB.out.trans (HB2.out.mono HB.out.size)) (Nat.le_refl _)
                  have HO3 := hid0 R.1
                  have HB3 := hid0 R.2
                  obtain ⟨av3, cv3, ev3, _⟩ := R.1.ia
                  rw [List.length_append, List.length_singleton] at ev3
                  subst ev3
                  clear R hown3 hgrow3))))
            go_roundw
            case rel => exact ⟨k + 1, by omega, by go_num, hid0 (by rw [HE.out]; exact HO3.out), HB3⟩
            case measure => simp [intOf]; omega
        · have hkI : ¬ (k : Int) < (D.length : Int) := by omega
          obtain rfl : k = D.length := by omega
          have hXl : (0 :: brkK D B el D.length).length ≤ 1000000001 := by rw [List.length_cons]; omega
          generalize (0 :: brkK D B el D.length) = X at *
          clear hbw
          go_wp2_with (at_builtin; go_loud ((
            refine wpList_append_own_at _ rfl _ _ 28 rfl w1.heap.size 3 i0 (.int .i64 0) 1 8 Tryd.underlying28 hi hy0 hy1 hy2 rfl (by decide) _ X.length (X.map (Value.int .i64)) rfl (World.ownsRow.alloc HO.out _) ⟨wr.heap.size, 0, none⟩ 1 1 [.int .i64 (l.length : Int)] rfl rfl (cell_one_new _ _ _) (by simp [Value.oneCell']) (by unfold maxLen; omega) (by omega) (by simp; omega) ?_
            intro v3 w3 hown3 hgrow3 _ _
            have R := ownI_snoc rfl HO.out hown3 hgrow3 HB.out (Nat.le_refl _)
            have HO3 := hid0 R.1
            have HB3 := hid0 R.2
            clear R hown3 hgrow3)))
          go_returns
          have hfin := (HAl.out w1 HB1.out).2.2.2
          exact ⟨_, rfl, by rw [if_pos rfl, HV.out]; exact owns_lower HO3.out hfin.size, hfin.trans (HB3.out.mono hfin.size)⟩
end Go.Proofs.YtilnanefkbdbkaaDoor
namespace Go.Proofs.YtilnanefkbdbkaaDoor
open Go.RowKit Go.Shelf
set_option maxRecDepth 10000 in
set_option maxHeartbeats 1600000 in
theorem least_any (P Q : List Int) (a b : Option Addr) (ca cb : Nat) (w : World) (hp : P.length ≤ 1000000000) (hq : Q.length ≤ 1000000000) (ha : IA w a P) (hb : IA w b Q) :
    Calls Tryd.prog 32 #[.slice a P.length ca, .slice b Q.length cb] w fun e w' => e = .returned (.int .i64 (lstF P Q)) ∧ ∃ n, w' = w.drewN n := by
  obtain ⟨res, hres⟩ : ∃ res, res = lstF P Q := ⟨_, rfl⟩
  have HR := hid0 hres
  have HA := hid0 ha
  have HB := hid0 hb
  rw [← hres]
  clear hres ha hb
  go_enter Tryd.func32, Tryd.ntmps32
  go_wp2
  go_loopw [5] (fun iv wr => ∃ i : Nat, i ≤ P.length ∧ iv = .int .i64 (i : Int) ∧ Hid (lstF (P.drop i) Q = res) ∧ ∃ n, wr = w.drewN n) (fun iv _ => P.length - (intOf iv).toNat)
  case atStart => exact ⟨0, Nat.zero_le _, rfl, hid0 (by rw [List.drop_zero, HR.out]), 0, rfl⟩
  case round =>
    obtain ⟨i, hi, rfl, HD, nd, rfl⟩ := hrel
    by_cases hil : i < P.length
    · have hiI : (i : Int) < (P.length : Int) := by omega
      have hiI0 : (0 : Int) ≤ (i : Int) := by omega
      have HDr : Hid (P.drop i = P[i] :: P.drop (i + 1)) := hid0 (List.drop_eq_getElem_cons hil)
      obtain ⟨b1, o1, rfl, _, d1⟩ := HA.out.at' i hil
      generalize P[i] = x at *
      go_wp2
      go_loopw [6] (fun kv wr => ∃ k : Nat, k ≤ Q.length ∧ kv = .int .i64 (k : Int) ∧ Hid (∀ z ∈ Q.take k, z ≠ x) ∧ ∃ n, wr = w.drewN n) (fun kv _ => Q.length - (intOf kv).toNat)
      case atStart => exact ⟨0, Nat.zero_le _, rfl, hid0 (fun z hz => (by simp at hz)), nd, rfl⟩
      case round =>
        obtain ⟨k, hk, rfl, HT, ne, rfl⟩ := hrel
        by_cases hkl : k < Q.length
        · have hkI : (k : Int) < (Q.length : Int) := by omega
          have hkI0 : (0 : Int) ≤ (k : Int) := by omega
          obtain ⟨b2, o2, rfl, _, d2⟩ := HB.out.at' k hkl
          have HQk : Hid (Q.take (k + 1) = Q.take k ++ [Q[k]]) := hid0 (List.take_succ_eq_append_getElem hkl)
          have HMe : Hid (Q[k] ∈ Q) := hid0 (List.getElem_mem hkl)
          generalize Q[k] = y at *
          by_cases hxy : x = y
          · have HV : Hid (res = x) := hid0 (by rw [← HD.out, HDr.out]; exact lstF_head (by rw [hxy]; exact HMe.out))
            have hxy' : (x == y) = true := by simpa using hxy
            clear hxy HD HDr HT HQk HMe
            go_wp2
            go_quiet ((fail))
            go_wp2
            go_ret
            exact ⟨by rw [HV.out]; rfl, _, rfl⟩
          · have hxy' : (x == y) = false := by simpa using hxy
            have HT2 : Hid (∀ z ∈ Q.take (k + 1), z ≠ x) := hid0 (fun z hz => by
              rw [HQk.out] at hz
              rcases List.mem_append.1 hz with hz | hz
              · exact HT.out z hz
              · rw [List.mem_singleton.1 hz]; exact fun e => hxy e.symm)
            clear hxy HT HQk HMe
            go_wp2
            go_quiet ((fail))
            go_wp2
            go_roundw
            case rel => exact ⟨k + 1, by omega, by go_num, HT2, _, rfl⟩
            case measure => simp [intOf]; omega
        · have hkI : ¬ (k : Int) < (Q.length : Int) := by omega
          have HD2 : Hid (lstF (P.drop (i + 1)) Q = res) := hid0 (by
            rw [← HD.out, HDr.out, lstF_skip]
            intro hm
            exact HT.out x (by rw [List.take_of_length_le (by omega)]; exact hm) rfl)
          clear HD HDr HT
          go_wp2
          go_roundw
          case rel => exact ⟨i + 1, by omega, by go_num, HD2, _, rfl⟩
          case measure => simp [intOf]; omega
    · have hiI : ¬ (i : Int) < (P.length : Int) := by omega
      have HV : Hid (res = -1) := hid0 (by rw [← HD.out, List.drop_of_length_le (by omega)]; rfl)
      clear HD
      go_wp2
      go_ret
      exact ⟨by rw [HV.out]; rfl, nd, rfl⟩
set_option maxRecDepth 10000 in
set_option maxHeartbeats 800000 in
theorem turned_any (Y : List Int) (a : Option Addr) (c : Nat) (w : World) (hl : Y.length ≤ 1000000000) (ha : IA w a Y) :
    Calls Tryd.prog 31 #[.slice a Y.length c] w fun e w' => ∃ v, e = .returned v ∧ OwnI w' w.heap.size v Y.reverse ∧ Below w.heap.size w w' := by
  obtain ⟨i0, hi, hz0, hz1, hz2⟩ := info_parts infoInt
  have HA := hid0 ha
  clear ha
  have hsub : IntKind.i64.wrap ((Y.length : Int) - 1) = (Y.length : Int) - 1 := by simp [IntKind.wrap, IntKind.bits, IntKind.signed]; omega
  go_enter Tryd.func31, Tryd.ntmps31
  go_wp2
  go_loopw [3, 4] (fun v k w2 => ∃ q : Nat, q ≤ Y.length ∧ k = .int .i64 ((q : Int) - 1) ∧ Hid (OwnI w2 w.heap.size v (Y.drop q).reverse) ∧ Hid (Below w.heap.size w w2)) (fun _ k _ => (intOf k + 1).toNat)
  case atStart => exact ⟨Y.length, Nat.le_refl _, rfl, hid0 (by rw [List.drop_length]; exact World.ownsRow_nil _ _ _ _), hid0 (Below.refl _ _)⟩
  case round =>
    obtain ⟨q, hq, rfl, HO2, HB2⟩ := hrel
    by_cases hq0 : q = 0
    · subst hq0
      go_wp2
      go_ret
      exact ⟨_, rfl, by have h := HO2.out; rw [List.drop_zero] at h; exact h, HB2.out⟩
    · obtain ⟨r, rfl⟩ : ∃ r, q = r + 1 := ⟨q - 1, by omega⟩
      have hrl : r < Y.length := by omega
      obtain ⟨b4, off4, rfl, _, d4⟩ := (HA.out.past HB2.out).at' r hrl
      have hrI : (r : Int) < (Y.length : Int) := by omega
      have hrI0 : (0 : Int) ≤ (r : Int) := by omega
      have hsz2 := HB2.out.size
      have HD : Hid ((Y.drop r).reverse = (Y.drop (r + 1)).reverse ++ [Y[r]]) := hid0 (by rw [List.drop_eq_getElem_cons hrl, List.reverse_cons])
      have hll : (Y.drop (r + 1)).reverse.length ≤ 1000000000 := by rw [List.length_reverse, List.length_drop]; omega
      generalize Y[r] = x at *
      obtain ⟨av3, cv3, ev3, _⟩ := HO2.out.ia
      subst ev3
      have ej : ((r + 1 : Nat) : Int) - 1 = (r : Int) := by omega
      rw [ej]
      generalize (Y.drop (r + 1)).reverse = X at *
      go_wp2_with (at_builtin; go_loud ((
        refine wpList_append_own_at _ rfl _ _ 28 rfl w.heap.size 3 i0 (.int .i64 0) 1 8 Tryd.underlying28 hi hz0 hz1 hz2 rfl (by decide) _ X.length (X.map (Value.int .i64)) rfl (World.ownsRow.alloc HO2.out _) ⟨wr.heap.size, 0, none⟩ 1 1 [.int .i64 x] rfl rfl (cell_one_new _ _ _) (by simp [Value.oneCell']) (by unfold maxLen; omega) (by omega) (by simp; omega) ?_
        intro v2 w3 hown2 hgrow2 _ _
        have R := ownI_snoc rfl HO2.out hown2 hgrow2 HB2.out (Nat.le_refl _)
        have HO3 := hid0 R.1
        have HB3 := hid0 R.2
        obtain ⟨av2, cv2, ev2, _⟩ := R.1.ia
        rw [List.length_append, List.length_singleton] at ev2
        subst ev2
        clear R hown2 hgrow2)))
      go_roundw
      case rel => exact ⟨r, by omega, by go_num, hid0 (by rw [HD.out]; exact HO3.out), HB3⟩
      case measure => simp [intOf]
end Go.Proofs.YtilnanefkbdbkaaDoor
