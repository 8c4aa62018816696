/-
  PrSW, PrTW, PrUW, PrVW, PrWM, PrXM.
-/
import Derived.Test.YtilnanefkbdbkaaDoorMxc
namespace Go.Proofs.YtilnanefkbdbkaaDoor
open Go.RowKit Go.Shelf
theorem three_boxes (w : World) (a b c : Array Value) (t : TypeId) : ∃ w0 w1 w2, w.alloc (.cells a t) = w0 ∧ w0.alloc (.cells b t) = w1 ∧ w1.alloc (.cells c t) = w2 ∧ w0.heap.size = w.heap.size + 1 ∧ w1.heap.size = w.heap.size + 2 ∧ w2.heap.size = w.heap.size + 3 ∧ w1.heap[w.heap.size]? = some (.cells a t (0, 0)) ∧ w2.heap[w.heap.size]? = some (.cells a t (0, 0)) ∧ w2.heap[w0.heap.size]? = some (.cells b t (0, 0)) ∧ w2.heap[w1.heap.size]? = some (.cells c t (0, 0)) ∧ Below w.heap.size w w2 := by
  have h0 : (w.alloc (.cells a t)).heap[w.heap.size]? = some (.cells a t (0, 0)) := heap_alloc_new w _
  have h1 : ((w.alloc (.cells a t)).alloc (.cells b t)).heap[w.heap.size]? = some (.cells a t (0, 0)) := by rw [Below.heap_alloc _ _ _ (by simp)]; exact h0
  refine ⟨_, _, _, rfl, rfl, rfl, by simp, by simp, by simp, h1, ?_, ?_, ?_, ?_⟩
  · rw [Below.heap_alloc _ _ _ (by simp; omega)]; exact h1
  · rw [Below.heap_alloc _ _ _ (by simp)]; exact heap_alloc_new _ _
  · exact heap_alloc_new _ _
  · exact (((Below.refl _ _).alloc (Nat.le_refl _) _).alloc (by simp) _).alloc (by simp; omega) _
theorem frz {V : World} {X : Nat} {cs : Array Value} {t : TypeId} (h : V.heap[X]? = some (.cells cs t (0, 0))) (k : Nat) : V.frozen? ⟨X, k, none⟩ = false := by simp [World.frozen?, h]
/-- The three boxes of Pairing. -/
structure Bx3 (w V : World) (X R Q : Nat) (p r q : Array Value) : Prop where
  x : V.heap[X]? = some (.cells p 27 (0, 0))
  r : V.heap[R]? = some (.cells r 27 (0, 0))
  q : V.heap[Q]? = some (.cells q 27 (0, 0))
  ne : X ≠ Q ∧ R ≠ Q ∧ X ≠ R
  lo : w.heap.size ≤ X ∧ w.heap.size ≤ R ∧ w.heap.size ≤ Q
  lt : X < V.heap.size ∧ R < V.heap.size ∧ Q < V.heap.size
  bel : Below w.heap.size w V
theorem Bx3.past {w V V' : World} {X R Q : Nat} {p r q : Array Value} (h : Bx3 w V X R Q p r q) (hb : Below V.heap.size V V') : Bx3 w V' X R Q p r q :=
  ⟨(hb.block _ h.lt.1).trans h.x, (hb.block _ h.lt.2.1).trans h.r, (hb.block _ h.lt.2.2).trans h.q, h.ne, h.lo, ⟨Nat.lt_of_lt_of_le h.lt.1 hb.size, Nat.lt_of_lt_of_le h.lt.2.1 hb.size, Nat.lt_of_lt_of_le h.lt.2.2 hb.size⟩, h.bel.trans (hb.mono h.bel.size)⟩
theorem Bx3.past' {w V V' : World} {X R Q B : Nat} {p r q : Array Value} (h : Bx3 w V X R Q p r q) (hb : Below B V V') (hx : X < B ∧ R < B ∧ Q < B) (hw : w.heap.size ≤ B) : Bx3 w V' X R Q p r q :=
  ⟨(hb.block _ hx.1).trans h.x, (hb.block _ hx.2.1).trans h.r, (hb.block _ hx.2.2).trans h.q, h.ne, h.lo, ⟨Nat.lt_of_lt_of_le h.lt.1 hb.size, Nat.lt_of_lt_of_le h.lt.2.1 hb.size, Nat.lt_of_lt_of_le h.lt.2.2 hb.size⟩, h.bel.trans (hb.mono hw)⟩
theorem Bx3.putR {w V : World} {X R Q : Nat} {p r q : Array Value} (h : Bx3 w V X R Q p r q) (k : Nat) (v : Value) : Bx3 w (V.setCell ⟨R, k, none⟩ v) X R Q p (r.setIfInBounds k v) q :=
  ⟨(Below.heap_setCell _ _ _ _ h.ne.2.2).trans h.x, heap_setCell_same _ _ k _ _ v h.r, (Below.heap_setCell _ _ _ _ (fun e => h.ne.2.1 e.symm)).trans h.q, h.ne, h.lo, by rw [set_size]; exact h.lt, h.bel.setCell (p := ⟨R, k, none⟩) h.lo.2.1 _⟩
theorem Bx3.put {w V : World} {X R Q : Nat} {p r q : Array Value} (h : Bx3 w V X R Q p r q) (k : Nat) (v : Value) : Bx3 w (V.setCell ⟨Q, k, none⟩ v) X R Q p r (q.setIfInBounds k v) :=
  ⟨(Below.heap_setCell _ _ _ _ h.ne.1).trans h.x, (Below.heap_setCell _ _ _ _ h.ne.2.1).trans h.r, heap_setCell_same _ _ k _ _ v h.q, h.ne, h.lo, by rw [set_size]; exact h.lt, h.bel.setCell (p := ⟨Q, k, none⟩) h.lo.2.2 _⟩
theorem Bx3.cells {w V : World} {X R Q : Nat} {p : Array Value} {q : Array Value} {r0 r1 r2 r3 r4 r5 r6 r7 : Value} (h : Bx3 w V X R Q p q #[r0, r1, r2, r3, r4, r5, r6, r7]) : (V.cell? ⟨Q, 0, none⟩ = some r0 ∧ V.cell? ⟨Q, 1, none⟩ = some r1 ∧ V.cell? ⟨Q, 2, none⟩ = some r2 ∧ V.cell? ⟨Q, 3, none⟩ = some r3) ∧ V.cell? ⟨Q, 4, none⟩ = some r4 ∧ V.cell? ⟨Q, 5, none⟩ = some r5 ∧ V.cell? ⟨Q, 6, none⟩ = some r6 ∧ V.cell? ⟨Q, 7, none⟩ = some r7 := row8p h.q
theorem Bx3.pcells {w V : World} {X R Q : Nat} {p : Array Value} {q : Array Value} {r0 r1 r2 r3 r4 r5 r6 r7 : Value} (h : Bx3 w V X R Q #[r0, r1, r2, r3, r4, r5, r6, r7] p q) : (V.cell? ⟨X, 0, none⟩ = some r0 ∧ V.cell? ⟨X, 1, none⟩ = some r1 ∧ V.cell? ⟨X, 2, none⟩ = some r2 ∧ V.cell? ⟨X, 3, none⟩ = some r3) ∧ V.cell? ⟨X, 4, none⟩ = some r4 ∧ V.cell? ⟨X, 5, none⟩ = some r5 ∧ V.cell? ⟨X, 6, none⟩ = some r6 ∧ V.cell? ⟨X, 7, none⟩ = some r7 := row8p h.x
def OwnB (w : World) (base : Nat) (v : Value) (ps : List Bool) : Prop := w.ownsRow base 4 1 v ps.length (ps.map Value.bool)
theorem OwnB.form {w : World} {base : Nat} {v : Value} {L : List Bool} (h : OwnB w base v L) : ∃ a c, v = .slice a L.length c := by
  rcases h.2 with ⟨e, h2⟩ | ⟨g, cap, cur, e, _⟩
  · have hl : L.length = 0 := by have := h.1; simp at h2; simp [h2]
    exact ⟨none, 0, by rw [e, hl]⟩
  · exact ⟨_, cap, e⟩
theorem infoBool : (Tryd.prog.info? 4).map (fun i => (i.zero, i.size, i.bytes)) = some (some (.bool false), 1, 1) := by kernel_rfl
theorem app_nilB (w : World) (ty : TypeId) : (Builtin.append_ #[25, 25] ty #[.slice none 0 0, .slice none 0 0]).run Tryd.prog w = .ok (.slice none 0 0) w := by
  go_simp
theorem wpList_spreadB {ops : Array Oper} {rest : List Oper} {op : Oper} {a : Act} {w : World} {Q : Exit → Act → World → Prop} (hgd : op.guard = none) (s x : Operand) (ho : op.op = .call { callee := .builtin .append, args := #[s, x], argTypes := #[25, 25] })
    (aN : Option Addr) (L : List Bool) (cN base : Nat) (hs : a.eval s = .slice none 0 0) (hx : a.eval x = .slice aN L.length cN) (hnil : aN = none → cN = 0) (ha : BoA w aN L) (hl : L.length ≤ 17592186044416) (hb : base ≤ w.heap.size)
    (h : ∀ v' w', OwnB w' base v' L → w.grownBy w' none → wpList Tryd.prog ops Q rest (a.put op.dst v') w') : wpList Tryd.prog ops Q (op :: rest) a w := by
  obtain ⟨i0, hi, hz0, hz1, hz2⟩ := info_parts infoBool
  cases aN with
  | none =>
    have hL : L = [] := by
      cases L with
      | nil => rfl
      | cons y r => obtain ⟨b, off, e, _⟩ := ha.at' 0 (by simp); cases e
    subst hL
    have hc := hnil rfl
    subst hc
    refine wpList_plain hgd fun K hK => ?_
    have hr := app_nilB w op.type
    unfold Oper.wp execOp
    simp only [ho, resolve, invoke, builtin, Sem.run_bind, Sem.run_pure, Result.andThen_ok, List.map_toArray, List.map_cons, List.map_nil, hs, hx, List.length_nil, hr]
    exact hK _ _ (h _ _ (World.ownsRow_nil _ _ _ _) ⟨rfl, rfl, rfl, Nat.le_refl _, fun _ _ _ => rfl⟩)
  | some ad =>
    refine wpList_append_own _ hgd s x 25 ho base 4 i0 (.bool false) 1 1 Tryd.underlying25 hi hz0 hz1 hz2 rfl (by decide) (.slice none 0 0) 0 [] hs (World.ownsRow_nil _ _ _ _) ad L.length cN (L.map (Value.bool)) hx (by simp) (fun j u hu => ?_) (fun u hu => by obtain ⟨y, _, rfl⟩ := List.mem_map.1 hu; rfl) (by unfold maxLen; omega) (by omega) hb (fun v' w' h1 h2 _ => h v' w' (by rw [Nat.zero_add] at h1; exact h1) h2)
    have hj : j < L.length := by have := (List.getElem?_eq_some_iff.1 hu).1; simpa using this
    obtain ⟨b, off, e, h1, h2⟩ := ha.at' j hj
    cases e
    rw [Addr.add_mid, h2]
    have : (L.map (Value.bool))[j]? = some (.bool L[j]) := by simp [hj]
    rw [this] at hu
    exact hu
theorem RowsK.putQ {V : World} {lo g c Q k : Nat} {L : List (List Int)} (h : RowsK V lo g c L) (hq : Q < lo) (v : Value) : RowsK (V.setCell ⟨Q, k, none⟩ v) lo g c L := h.keep (fun j hj _ => Below.heap_setCell _ _ _ _ (by show j ≠ Q; omega))
/-- A pairing that Pairing made. -/
structure PgK (w : World) (lo G1 G2 G3 G4 g7 d1 d2 d3 d4 c7 : Nat) (N O M P : List (List Int)) (B : List Bool) : Prop where
  n : RowsK w lo G1 d1 N
  o : RowsK w lo G2 d2 O
  m : RowsK w lo G3 d3 M
  p' : RowsK w lo G4 d4 P
  b : BoK w lo g7 c7 B
def PgR (w : World) (sl sr : Int) (N O M P : List (List Int)) (B : List Bool) (el : Bool) (e : Ending) (w' : World) : Prop := ∃ G1 G2 G3 G4 g7 d1 d2 d3 d4 c7, e = .returned (.agg #[.int .i64 sl, .slice (some ⟨G1, 0, none⟩) N.length d1, .slice (some ⟨G2, 0, none⟩) O.length d2, .int .i64 sr, .slice (some ⟨G3, 0, none⟩) M.length d3, .slice (some ⟨G4, 0, none⟩) P.length d4, .slice (some ⟨g7, 0, none⟩) B.length c7, .bool el]) ∧ PgK w' w.heap.size G1 G2 G3 G4 g7 d1 d2 d3 d4 c7 N O M P B ∧ Below w.heap.size w w'
set_option maxRecDepth 10000 in
set_option maxHeartbeats 1600000 in
theorem pairing_any (sl sr : Int) (N O M P : List (List Int)) (B : List Bool) (el : Bool) (aN aO aM aP aB : Option Addr) (cN cO cM cP cB : Nat) (w : World) (hs : PrS ⟨sl, N, O, sr, M, P, B, el⟩) (ha : PrA w ⟨sl, N, O, sr, M, P, B, el⟩ ⟨aN, aO, aM, aP, aB, cN, cO, cM, cP, cB⟩) (ho : O.length ≤ 1000000000) (hp : P.length ≤ 1000000000) (hnB : aB = none → cB = 0) :
    Calls Tryd.prog 5 #[.agg #[.int .i64 sl, .slice aN N.length cN, .slice aO O.length cO, .int .i64 sr, .slice aM M.length cM, .slice aP P.length cP, .slice aB B.length cB, .bool el]] w fun e w' => PgR w sl sr N O M P B el e w' := by
  obtain ⟨w0, w1, w2, hw0, hw1, hw2, hz0, hz1, hz2, g1, g2, g3, g4, hB⟩ := three_boxes w #[.int .i64 sl, .slice aN N.length cN, .slice aO O.length cO, .int .i64 sr, .slice aM M.length cM, .slice aP P.length cP, .slice aB B.length cB, .bool el] #[.int .i64 0, .slice none 0 0, .slice none 0 0, .int .i64 0, .slice none 0 0, .slice none 0 0, .slice none 0 0, .bool false] #[.int .i64 0, .slice none 0 0, .slice none 0 0, .int .i64 0, .slice none 0 0, .slice none 0 0, .slice none 0 0, .bool false] 27
  obtain ⟨_, _, _, _, y7⟩ := row8p g1
  obtain ⟨⟨q0, q1, q2, q3⟩, q4, q5, q6, q7⟩ := row8p g4
  have f0 := frz g4 0
  have f1 := frz g4 1
  have f2 := frz g4 2
  have f3 := frz g4 3
  have f4 := frz g4 4
  have f5 := frz g4 5
  have f6 := frz g4 6
  have f7 := frz g4 7
  have HX : Hid (Bx3 w ((((((((w2.setCell ⟨w1.heap.size, 0, none⟩ (.int .i64 0)).setCell ⟨w1.heap.size, 1, none⟩ (.slice none 0 0)).setCell ⟨w1.heap.size, 2, none⟩ (.slice none 0 0)).setCell ⟨w1.heap.size, 3, none⟩ (.int .i64 0)).setCell ⟨w1.heap.size, 4, none⟩ (.slice none 0 0)).setCell ⟨w1.heap.size, 5, none⟩ (.slice none 0 0)).setCell ⟨w1.heap.size, 6, none⟩ (.slice none 0 0)).setCell ⟨w1.heap.size, 7, none⟩ (.bool el)) w.heap.size w0.heap.size w1.heap.size #[.int .i64 sl, .slice aN N.length cN, .slice aO O.length cO, .int .i64 sr, .slice aM M.length cM, .slice aP P.length cP, .slice aB B.length cB, .bool el] #[.int .i64 0, .slice none 0 0, .slice none 0 0, .int .i64 0, .slice none 0 0, .slice none 0 0, .slice none 0 0, .bool false] #[.int .i64 0, .slice none 0 0, .slice none 0 0, .int .i64 0, .slice none 0 0, .slice none 0 0, .slice none 0 0, .bool el]) := hid0 (by
    have h : Bx3 w w2 w.heap.size w0.heap.size w1.heap.size #[.int .i64 sl, .slice aN N.length cN, .slice aO O.length cO, .int .i64 sr, .slice aM M.length cM, .slice aP P.length cP, .slice aB B.length cB, .bool el] #[.int .i64 0, .slice none 0 0, .slice none 0 0, .int .i64 0, .slice none 0 0, .slice none 0 0, .slice none 0 0, .bool false] #[.int .i64 0, .slice none 0 0, .slice none 0 0, .int .i64 0, .slice none 0 0, .slice none 0 0, .slice none 0 0, .bool false] := ⟨g2, g3, g4, by omega, by omega, by omega, hB⟩
    exact (((((((h.put 0 _).put 1 _).put 2 _).put 3 _).put 4 _).put 5 _).put 6 _).put 7 _)
  have HRn : Hid (∀ V : World, Below w.heap.size w V → Calls Tryd.prog 23 #[.slice aN N.length cN] V fun e w' => ∃ g c, e = .returned (.slice (some ⟨g, 0, none⟩) N.length c) ∧ RowsK w' V.heap.size g c N ∧ Below V.heap.size V w') := hid0 (fun V hV => (rows_any N aN cN V hs.n hs.nr (ha.past hV).n.rwa).mono (fun _ _ h => rowsK_of h))
  have HRo : Hid (∀ V : World, Below w.heap.size w V → Calls Tryd.prog 23 #[.slice aO O.length cO] V fun e w' => ∃ g c, e = .returned (.slice (some ⟨g, 0, none⟩) O.length c) ∧ RowsK w' V.heap.size g c O ∧ Below V.heap.size V w') := hid0 (fun V hV => (rows_any O aO cO V ho hs.or (ha.past hV).o.rwa).mono (fun _ _ h => rowsK_of h))
  have HRm : Hid (∀ V : World, Below w.heap.size w V → Calls Tryd.prog 23 #[.slice aM M.length cM] V fun e w' => ∃ g c, e = .returned (.slice (some ⟨g, 0, none⟩) M.length c) ∧ RowsK w' V.heap.size g c M ∧ Below V.heap.size V w') := hid0 (fun V hV => (rows_any M aM cM V hs.m hs.mr (ha.past hV).m.rwa).mono (fun _ _ h => rowsK_of h))
  have HRp : Hid (∀ V : World, Below w.heap.size w V → Calls Tryd.prog 23 #[.slice aP P.length cP] V fun e w' => ∃ g c, e = .returned (.slice (some ⟨g, 0, none⟩) P.length c) ∧ RowsK w' V.heap.size g c P ∧ Below V.heap.size V w') := hid0 (fun V hV => (rows_any P aP cP V hp hs.pr (ha.past hV).p'.rwa).mono (fun _ _ h => rowsK_of h))
  have HBo : Hid (∀ V : World, Below w.heap.size w V → BoA V aB B) := hid0 (fun V hV => (ha.past hV).b)
  have hBl : B.length ≤ 1000000000 := hs.b
  have HZ := hid0 (And.intro hz0 (And.intro hz1 hz2))
  clear g1 g2 g3 g4 hB ha hs hz0 hz1 hz2
  go_enter Tryd.func5, Tryd.ntmps5
  go_upto_region 2 with (fail)
  generalize ((((((((w2.setCell ⟨w1.heap.size, 0, none⟩ (.int .i64 0)).setCell ⟨w1.heap.size, 1, none⟩ (.slice none 0 0)).setCell ⟨w1.heap.size, 2, none⟩ (.slice none 0 0)).setCell ⟨w1.heap.size, 3, none⟩ (.int .i64 0)).setCell ⟨w1.heap.size, 4, none⟩ (.slice none 0 0)).setCell ⟨w1.heap.size, 5, none⟩ (.slice none 0 0)).setCell ⟨w1.heap.size, 6, none⟩ (.slice none 0 0)).setCell ⟨w1.heap.size, 7, none⟩ (.bool el)) = V3 at *
  clear hw0 hw1 hw2 q0 q1 q2 q3 q4 q5 q6 q7 f0 f1 f2 f3 f4 f5 f6 f7 y7 HZ
  generalize w1.heap.size = Q at *
  generalize w0.heap.size = R at *
  have HLo : Hid (Q < V3.heap.size ∧ w.heap.size ≤ V3.heap.size) := hid0 ⟨HX.out.lt.2.2, HX.out.bel.size⟩
  have HLr : Hid (R < V3.heap.size) := hid0 HX.out.lt.2.1
  refine wp_region_noPanic ?_
  refine wp_region_held_drew (S := (fun V => V.cell? ⟨w.heap.size, 0, none⟩ = some (.int .i64 sl) ∧ V.cell? ⟨w.heap.size, 1, none⟩ = some (.slice aN N.length cN) ∧ V.cell? ⟨w.heap.size, 2, none⟩ = some (.slice aO O.length cO))) (by kernel_rfl) ?_ (fun hHeld => ?_)
  · exact (by have h := HX.out.pcells; exact ⟨h.1.1, h.1.2.1, h.1.2.2.1⟩)
  refine tkV (i := 0) (d := some 7) (v := ?_) rfl (by kernel_rfl) (by kernel_rfl) (by kernel_rfl) rfl (fun _ _ _ h => h) (by rfl) ?_ (by assumption) ?_
  rotate_left
  · (intro w hSw; (try dsimp only at hSw); (try simp only [List.getElem_toArray, List.getElem_cons_zero]); go_simp; try with_reducible rfl)
  try simp only [Act.put, List.setIfInBounds_toArray, List.set_cons_zero, List.set_cons_succ]
  refine tkV (i := 1) (d := some 8) (v := ?_) rfl (by kernel_rfl) (by kernel_rfl) (by kernel_rfl) rfl (fun _ _ _ h => h) (by rfl) ?_ (by assumption) ?_
  rotate_left
  · (intro w hSw; (try dsimp only at hSw); (try simp only [List.getElem_toArray, List.getElem_cons_zero, List.getElem_cons_succ]); go_simp; try with_reducible rfl)
  try simp only [Act.put, List.setIfInBounds_toArray, List.set_cons_zero, List.set_cons_succ]
  refine tkV (i := 2) (d := some 9) (v := ?_) rfl (by kernel_rfl) (by kernel_rfl) (by kernel_rfl) rfl (fun _ _ _ h => h) (by rfl) ?_ (by assumption) ?_
  rotate_left
  · (intro w hSw; (try dsimp only at hSw); (try simp only [List.getElem_toArray, List.getElem_cons_zero, List.getElem_cons_succ]); go_simp; try with_reducible rfl)
  try simp only [Act.put, List.setIfInBounds_toArray, List.set_cons_zero, List.set_cons_succ]
  refine tkV (i := 3) (d := some 10) (v := ?_) rfl (by kernel_rfl) (by kernel_rfl) (by kernel_rfl) rfl (fun _ _ _ h => h) (by rfl) ?_ (by assumption) ?_
  rotate_left
  · (intro w hSw; (try dsimp only at hSw); (try simp only [List.getElem_toArray, List.getElem_cons_zero, List.getElem_cons_succ]); go_simp; try with_reducible rfl)
  try simp only [Act.put, List.setIfInBounds_toArray, List.set_cons_zero, List.set_cons_succ]
  refine tkV (i := 4) (d := some 11) (v := ?_) rfl (by kernel_rfl) (by kernel_rfl) (by kernel_rfl) rfl (fun _ _ _ h => h) (by rfl) ?_ (by assumption) ?_
  rotate_left
  · (intro w hSw; (try dsimp only at hSw); (try simp only [List.getElem_toArray, List.getElem_cons_zero, List.getElem_cons_succ]); go_simp; try with_reducible rfl)
  try simp only [Act.put, List.setIfInBounds_toArray, List.set_cons_zero, List.set_cons_succ]
  refine tkV (i := 5) (d := some 12) (v := ?_) rfl (by kernel_rfl) (by kernel_rfl) (by kernel_rfl) rfl (fun _ _ _ h => h) (by rfl) ?_ (by assumption) ?_
  rotate_left
  · (intro w hSw; (try dsimp only at hSw); (try simp only [List.getElem_toArray, List.getElem_cons_zero, List.getElem_cons_succ]); go_simp; try with_reducible rfl)
  try simp only [Act.put, List.setIfInBounds_toArray, List.set_cons_zero, List.set_cons_succ]
  refine tkV (i := 7) (d := some 14) (v := ?_) rfl (by kernel_rfl) (by kernel_rfl) (by kernel_rfl) rfl (fun _ _ _ h => h) (by rfl) ?_ (by assumption) ?_
  rotate_left
  · (intro w hSw; (try dsimp only at hSw); (try simp only [List.getElem_toArray, List.getElem_cons_zero, List.getElem_cons_succ]); go_simp; try with_reducible rfl)
  try simp only [Act.put, List.setIfInBounds_toArray, List.set_cons_zero, List.set_cons_succ]
  refine tkV (i := 8) (d := some 15) (v := ?_) rfl (by kernel_rfl) (by kernel_rfl) (by kernel_rfl) rfl (fun _ _ _ h => h) (by rfl) ?_ (by assumption) ?_
  rotate_left
  · (intro w hSw; (try dsimp only at hSw); (try simp only [List.getElem_toArray, List.getElem_cons_zero, List.getElem_cons_succ]); go_simp; try with_reducible rfl)
  try simp only [Act.put, List.setIfInBounds_toArray, List.set_cons_zero, List.set_cons_succ]
  refine tkV (i := 9) (d := some 16) (v := ?_) rfl (by kernel_rfl) (by kernel_rfl) (by kernel_rfl) rfl (fun _ _ _ h => h) (by rfl) ?_ (by assumption) ?_
  rotate_left
  · (intro w hSw; (try dsimp only at hSw); (try simp only [List.getElem_toArray, List.getElem_cons_zero, List.getElem_cons_succ]); go_simp; try with_reducible rfl)
  try simp only [Act.put, List.setIfInBounds_toArray, List.set_cons_zero, List.set_cons_succ]
  refine wpAnyH_ready (rs := [6]) (by kernel_rfl) (by simp) (AllReadyH.cons rfl (fun K hK => ?_) AllReadyH.nil)
  try simp only [List.getElem_toArray, List.getElem_cons_zero, List.getElem_cons_succ]
  go_simp
  refine (HRn.out V3.drew (HX.out.bel.trans ⟨rfl, rfl, rfl, Nat.le_refl _, fun _ _ => rfl⟩)).mono ?_
  rintro e W1 ⟨G1, d1, rfl, hk1, hb1⟩
  have HBW1 : Hid (Below V3.heap.size V3 W1) := hid0 ((⟨rfl, rfl, rfl, Nat.le_refl _, fun _ _ => rfl⟩ : Below V3.heap.size V3 V3.drew).trans hb1)
  have HXW1 := hid0 (HX.out.past HBW1.out)
  have HKG1 : Hid (RowsK W1 V3.heap.size G1 d1 N) := hid0 hk1
  have HSW1 : Hid ((fun V => V.cell? ⟨w.heap.size, 0, none⟩ = some (.int .i64 sl) ∧ V.cell? ⟨w.heap.size, 1, none⟩ = some (.slice aN N.length cN) ∧ V.cell? ⟨w.heap.size, 2, none⟩ = some (.slice aO O.length cO)) W1) := hid0 (by have h := HXW1.out.pcells; exact ⟨h.1.1, h.1.2.1, h.1.2.2.1⟩)
  clear hk1 hb1
  go_wp2_with fail
  refine hK.out _ _ ?_ (fun hHeld6 => ?_)
  · exact HSW1.out
  clear hK K
  (try simp only [Act.put]); (try simp only [List.setIfInBounds_toArray]); (try simp only [List.set_cons_succ]); (try simp only [List.set_cons_zero])
  refine wpAnyH_ready (rs := [10]) (by kernel_rfl) (by simp) (AllReadyH.cons rfl (fun K hK => ?_) AllReadyH.nil)
  try simp only [List.getElem_toArray, List.getElem_cons_zero, List.getElem_cons_succ]
  go_simp
  refine (HRo.out W1 HXW1.out.bel).mono ?_
  rintro e W2 ⟨G2, d2, rfl, hk1, hb1⟩
  have HBW2 : Hid (Below V3.heap.size V3 W2) := hid0 (HBW1.out.trans (hb1.mono HBW1.out.size))
  have HXW2 := hid0 (HXW1.out.past hb1)
  have HKG2 : Hid (RowsK W2 V3.heap.size G2 d2 O) := hid0 (hk1.lower HBW1.out.size)
  replace HKG1 := hid0 (HKG1.out.past hb1)
  have HSW2 : Hid ((fun V => V.cell? ⟨w.heap.size, 0, none⟩ = some (.int .i64 sl) ∧ V.cell? ⟨w.heap.size, 1, none⟩ = some (.slice aN N.length cN) ∧ V.cell? ⟨w.heap.size, 2, none⟩ = some (.slice aO O.length cO)) W2) := hid0 (by have h := HXW2.out.pcells; exact ⟨h.1.1, h.1.2.1, h.1.2.2.1⟩)
  have HYW2 : Hid (Bx3 w (((W2.setCell ⟨Q, 0, none⟩ (.int .i64 sl)).setCell ⟨Q, 1, none⟩ (.slice (some ⟨G1, 0, none⟩) N.length d1)).setCell ⟨Q, 2, none⟩ (.slice (some ⟨G2, 0, none⟩) O.length d2)) w.heap.size R Q #[.int .i64 sl, .slice aN N.length cN, .slice aO O.length cO, .int .i64 sr, .slice aM M.length cM, .slice aP P.length cP, .slice aB B.length cB, .bool el] #[.int .i64 0, .slice none 0 0, .slice none 0 0, .int .i64 0, .slice none 0 0, .slice none 0 0, .slice none 0 0, .bool false] #[.int .i64 sl, .slice (some ⟨G1, 0, none⟩) N.length d1, .slice (some ⟨G2, 0, none⟩) O.length d2, .int .i64 0, .slice none 0 0, .slice none 0 0, .slice none 0 0, .bool el]) := hid0 (((HXW2.out.put 0 _).put 1 _).put 2 _)
  have HZW2 : Hid ((fun V => V.cell? ⟨w.heap.size, 0, none⟩ = some (.int .i64 sl) ∧ V.cell? ⟨w.heap.size, 1, none⟩ = some (.slice aN N.length cN) ∧ V.cell? ⟨w.heap.size, 2, none⟩ = some (.slice aO O.length cO)) (((W2.setCell ⟨Q, 0, none⟩ (.int .i64 sl)).setCell ⟨Q, 1, none⟩ (.slice (some ⟨G1, 0, none⟩) N.length d1)).setCell ⟨Q, 2, none⟩ (.slice (some ⟨G2, 0, none⟩) O.length d2))) := hid0 (by have h := HYW2.out.pcells; exact ⟨h.1.1, h.1.2.1, h.1.2.2.1⟩)
  obtain ⟨⟨k0, k1, k2, k3⟩, k4, k5, k6, k7⟩ := HXW2.out.cells
  have f0 := frz HXW2.out.q 0
  have f1 := frz HXW2.out.q 1
  have f2 := frz HXW2.out.q 2
  clear hk1 hb1
  go_wp2_with fail
  refine hK.out _ _ ?_ (fun hHeld10 => ?_)
  · exact HSW2.out
  clear hK K
  (try simp only [Act.put]); (try simp only [List.setIfInBounds_toArray]); (try simp only [List.set_cons_succ]); (try simp only [List.set_cons_zero])
  refine tkV (i := 11) (d := some 18) (v := ?_) rfl (by kernel_rfl) (by kernel_rfl) (by kernel_rfl) rfl (fun _ _ _ h => h) (by rfl) ?_ (by assumption) ?_
  rotate_left
  · (intro w hSw; (try dsimp only at hSw); (try simp only [List.getElem_toArray, List.getElem_cons_zero, List.getElem_cons_succ]); go_simp; try with_reducible rfl)
  try simp only [Act.put, List.setIfInBounds_toArray, List.set_cons_zero, List.set_cons_succ]
  refine tkV (i := 12) (d := some 19) (v := ?_) rfl (by kernel_rfl) (by kernel_rfl) (by kernel_rfl) rfl (fun _ _ _ h => h) (by rfl) ?_ (by assumption) ?_
  rotate_left
  · (intro w hSw; (try dsimp only at hSw); (try simp only [List.getElem_toArray, List.getElem_cons_zero, List.getElem_cons_succ]); go_simp; try with_reducible rfl)
  try simp only [Act.put, List.setIfInBounds_toArray, List.set_cons_zero, List.set_cons_succ]
  refine wpAnyH_ready (rs := [13]) (by kernel_rfl) (by simp) (AllReadyH.cons rfl (fun K hK => ?_) AllReadyH.nil)
  try simp only [List.getElem_toArray, List.getElem_cons_zero, List.getElem_cons_succ]
  go_simp
  refine hK.out _ _ ?_ (fun hHeld13 => ?_)
  · exact HZW2.out
  clear hK K
  (try simp only [Act.put]); (try simp only [List.setIfInBounds_toArray]); (try simp only [List.set_cons_succ]); (try simp only [List.set_cons_zero])
  refine wpAnyH_done (by kernel_rfl) ?_ _
  refine NoPanic.normal ?_
  have HK1 : Hid (RowsK (((W2.setCell ⟨Q, 0, none⟩ (.int .i64 sl)).setCell ⟨Q, 1, none⟩ (.slice (some ⟨G1, 0, none⟩) N.length d1)).setCell ⟨Q, 2, none⟩ (.slice (some ⟨G2, 0, none⟩) O.length d2)) V3.heap.size G1 d1 N) := hid0 (((HKG1.out.putQ HLo.out.1 _).putQ HLo.out.1 _).putQ HLo.out.1 _)
  have HK2 : Hid (RowsK (((W2.setCell ⟨Q, 0, none⟩ (.int .i64 sl)).setCell ⟨Q, 1, none⟩ (.slice (some ⟨G1, 0, none⟩) N.length d1)).setCell ⟨Q, 2, none⟩ (.slice (some ⟨G2, 0, none⟩) O.length d2)) V3.heap.size G2 d2 O) := hid0 (((HKG2.out.putQ HLo.out.1 _).putQ HLo.out.1 _).putQ HLo.out.1 _)
  have HX4 := HYW2
  have HBz : Hid (V3.heap.size ≤ (((W2.setCell ⟨Q, 0, none⟩ (.int .i64 sl)).setCell ⟨Q, 1, none⟩ (.slice (some ⟨G1, 0, none⟩) N.length d1)).setCell ⟨Q, 2, none⟩ (.slice (some ⟨G2, 0, none⟩) O.length d2)).heap.size) := hid0 (by rw [set_size, set_size, set_size]; exact HBW2.out.size)
  clear hHeld hHeld6 hHeld10 hHeld13 k0 k1 k2 k3 k4 k5 k6 k7 f0 f1 f2 HYW2 HZW2 HSW2 HSW1 HKG1 HKG2 HXW1 HXW2 HX HBW1 HBW2
  generalize (((W2.setCell ⟨Q, 0, none⟩ (.int .i64 sl)).setCell ⟨Q, 1, none⟩ (.slice (some ⟨G1, 0, none⟩) N.length d1)).setCell ⟨Q, 2, none⟩ (.slice (some ⟨G2, 0, none⟩) O.length d2)) = V4 at *
  clear W1 W2
  go_upto_region 3 with (fail)
  refine wp_region_noPanic ?_
  refine wp_region_held_drew (S := (fun V => V.cell? ⟨w.heap.size, 3, none⟩ = some (.int .i64 sr) ∧ V.cell? ⟨w.heap.size, 4, none⟩ = some (.slice aM M.length cM) ∧ V.cell? ⟨w.heap.size, 5, none⟩ = some (.slice aP P.length cP))) (by kernel_rfl) ?_ (fun hHeld => ?_)
  · exact (by have h := HX4.out.pcells; exact ⟨h.1.2.2.2, h.2.1, h.2.2.1⟩)
  refine tkV (i := 0) (d := some 20) (v := ?_) rfl (by kernel_rfl) (by kernel_rfl) (by kernel_rfl) rfl (fun _ _ _ h => h) (by rfl) ?_ (by assumption) ?_
  rotate_left
  · (intro w hSw; (try dsimp only at hSw); (try simp only [List.getElem_toArray, List.getElem_cons_zero]); go_simp; try with_reducible rfl)
  try simp only [Act.put, List.setIfInBounds_toArray, List.set_cons_zero, List.set_cons_succ]
  refine tkV (i := 1) (d := some 21) (v := ?_) rfl (by kernel_rfl) (by kernel_rfl) (by kernel_rfl) rfl (fun _ _ _ h => h) (by rfl) ?_ (by assumption) ?_
  rotate_left
  · (intro w hSw; (try dsimp only at hSw); (try simp only [List.getElem_toArray, List.getElem_cons_zero, List.getElem_cons_succ]); go_simp; try with_reducible rfl)
  try simp only [Act.put, List.setIfInBounds_toArray, List.set_cons_zero, List.set_cons_succ]
  refine tkV (i := 2) (d := some 22) (v := ?_) rfl (by kernel_rfl) (by kernel_rfl) (by kernel_rfl) rfl (fun _ _ _ h => h) (by rfl) ?_ (by assumption) ?_
  rotate_left
  · (intro w hSw; (try dsimp only at hSw); (try simp only [List.getElem_toArray, List.getElem_cons_zero, List.getElem_cons_succ]); go_simp; try with_reducible rfl)
  try simp only [Act.put, List.setIfInBounds_toArray, List.set_cons_zero, List.set_cons_succ]
  refine tkV (i := 3) (d := some 23) (v := ?_) rfl (by kernel_rfl) (by kernel_rfl) (by kernel_rfl) rfl (fun _ _ _ h => h) (by rfl) ?_ (by assumption) ?_
  rotate_left
  · (intro w hSw; (try dsimp only at hSw); (try simp only [List.getElem_toArray, List.getElem_cons_zero, List.getElem_cons_succ]); go_simp; try with_reducible rfl)
  try simp only [Act.put, List.setIfInBounds_toArray, List.set_cons_zero, List.set_cons_succ]
  refine tkV (i := 4) (d := some 24) (v := ?_) rfl (by kernel_rfl) (by kernel_rfl) (by kernel_rfl) rfl (fun _ _ _ h => h) (by rfl) ?_ (by assumption) ?_
  rotate_left
  · (intro w hSw; (try dsimp only at hSw); (try simp only [List.getElem_toArray, List.getElem_cons_zero, List.getElem_cons_succ]); go_simp; try with_reducible rfl)
  try simp only [Act.put, List.setIfInBounds_toArray, List.set_cons_zero, List.set_cons_succ]
  refine tkV (i := 5) (d := some 25) (v := ?_) rfl (by kernel_rfl) (by kernel_rfl) (by kernel_rfl) rfl (fun _ _ _ h => h) (by rfl) ?_ (by assumption) ?_
  rotate_left
  · (intro w hSw; (try dsimp only at hSw); (try simp only [List.getElem_toArray, List.getElem_cons_zero, List.getElem_cons_succ]); go_simp; try with_reducible rfl)
  try simp only [Act.put, List.setIfInBounds_toArray, List.set_cons_zero, List.set_cons_succ]
  refine tkV (i := 7) (d := some 27) (v := ?_) rfl (by kernel_rfl) (by kernel_rfl) (by kernel_rfl) rfl (fun _ _ _ h => h) (by rfl) ?_ (by assumption) ?_
  rotate_left
  · (intro w hSw; (try dsimp only at hSw); (try simp only [List.getElem_toArray, List.getElem_cons_zero, List.getElem_cons_succ]); go_simp; try with_reducible rfl)
  try simp only [Act.put, List.setIfInBounds_toArray, List.set_cons_zero, List.set_cons_succ]
  refine tkV (i := 8) (d := some 28) (v := ?_) rfl (by kernel_rfl) (by kernel_rfl) (by kernel_rfl) rfl (fun _ _ _ h => h) (by rfl) ?_ (by assumption) ?_
  rotate_left
  · (intro w hSw; (try dsimp only at hSw); (try simp only [List.getElem_toArray, List.getElem_cons_zero, List.getElem_cons_succ]); go_simp; try with_reducible rfl)
  try simp only [Act.put, List.setIfInBounds_toArray, List.set_cons_zero, List.set_cons_succ]
  refine tkV (i := 9) (d := some 29) (v := ?_) rfl (by kernel_rfl) (by kernel_rfl) (by kernel_rfl) rfl (fun _ _ _ h => h) (by rfl) ?_ (by assumption) ?_
  rotate_left
  · (intro w hSw; (try dsimp only at hSw); (try simp only [List.getElem_toArray, List.getElem_cons_zero, List.getElem_cons_succ]); go_simp; try with_reducible rfl)
  try simp only [Act.put, List.setIfInBounds_toArray, List.set_cons_zero, List.set_cons_succ]
  refine wpAnyH_ready (rs := [6]) (by kernel_rfl) (by simp) (AllReadyH.cons rfl (fun K hK => ?_) AllReadyH.nil)
  try simp only [List.getElem_toArray, List.getElem_cons_zero, List.getElem_cons_succ]
  go_simp
  refine (HRm.out V4.drew (HX4.out.bel.trans ⟨rfl, rfl, rfl, Nat.le_refl _, fun _ _ => rfl⟩)).mono ?_
  rintro e W3 ⟨G3, d3, rfl, hk1, hb1⟩
  have HBW3 : Hid (Below V4.heap.size V4 W3) := hid0 ((⟨rfl, rfl, rfl, Nat.le_refl _, fun _ _ => rfl⟩ : Below V4.heap.size V4 V4.drew).trans hb1)
  have HXW3 := hid0 (HX4.out.past HBW3.out)
  have HKG3 : Hid (RowsK W3 V4.heap.size G3 d3 M) := hid0 hk1
  have HSW3 : Hid ((fun V => V.cell? ⟨w.heap.size, 3, none⟩ = some (.int .i64 sr) ∧ V.cell? ⟨w.heap.size, 4, none⟩ = some (.slice aM M.length cM) ∧ V.cell? ⟨w.heap.size, 5, none⟩ = some (.slice aP P.length cP)) W3) := hid0 (by have h := HXW3.out.pcells; exact ⟨h.1.2.2.2, h.2.1, h.2.2.1⟩)
  clear hk1 hb1
  go_wp2_with fail
  refine hK.out _ _ ?_ (fun hHeld6 => ?_)
  · exact HSW3.out
  clear hK K
  (try simp only [Act.put]); (try simp only [List.setIfInBounds_toArray]); (try simp only [List.set_cons_succ]); (try simp only [List.set_cons_zero])
  refine wpAnyH_ready (rs := [10]) (by kernel_rfl) (by simp) (AllReadyH.cons rfl (fun K hK => ?_) AllReadyH.nil)
  try simp only [List.getElem_toArray, List.getElem_cons_zero, List.getElem_cons_succ]
  go_simp
  refine (HRp.out W3 HXW3.out.bel).mono ?_
  rintro e W4 ⟨G4, d4, rfl, hk1, hb1⟩
  have HBW4 : Hid (Below V4.heap.size V4 W4) := hid0 (HBW3.out.trans (hb1.mono HBW3.out.size))
  have HXW4 := hid0 (HXW3.out.past hb1)
  have HKG4 : Hid (RowsK W4 V4.heap.size G4 d4 P) := hid0 (hk1.lower HBW3.out.size)
  replace HKG3 := hid0 (HKG3.out.past hb1)
  have HSW4 : Hid ((fun V => V.cell? ⟨w.heap.size, 3, none⟩ = some (.int .i64 sr) ∧ V.cell? ⟨w.heap.size, 4, none⟩ = some (.slice aM M.length cM) ∧ V.cell? ⟨w.heap.size, 5, none⟩ = some (.slice aP P.length cP)) W4) := hid0 (by have h := HXW4.out.pcells; exact ⟨h.1.2.2.2, h.2.1, h.2.2.1⟩)
  have HYW4 : Hid (Bx3 w (((W4.setCell ⟨Q, 3, none⟩ (.int .i64 sr)).setCell ⟨Q, 4, none⟩ (.slice (some ⟨G3, 0, none⟩) M.length d3)).setCell ⟨Q, 5, none⟩ (.slice (some ⟨G4, 0, none⟩) P.length d4)) w.heap.size R Q #[.int .i64 sl, .slice aN N.length cN, .slice aO O.length cO, .int .i64 sr, .slice aM M.length cM, .slice aP P.length cP, .slice aB B.length cB, .bool el] #[.int .i64 0, .slice none 0 0, .slice none 0 0, .int .i64 0, .slice none 0 0, .slice none 0 0, .slice none 0 0, .bool false] #[.int .i64 sl, .slice (some ⟨G1, 0, none⟩) N.length d1, .slice (some ⟨G2, 0, none⟩) O.length d2, .int .i64 sr, .slice (some ⟨G3, 0, none⟩) M.length d3, .slice (some ⟨G4, 0, none⟩) P.length d4, .slice none 0 0, .bool el]) := hid0 (((HXW4.out.put 3 _).put 4 _).put 5 _)
  have HZW4 : Hid ((fun V => V.cell? ⟨w.heap.size, 3, none⟩ = some (.int .i64 sr) ∧ V.cell? ⟨w.heap.size, 4, none⟩ = some (.slice aM M.length cM) ∧ V.cell? ⟨w.heap.size, 5, none⟩ = some (.slice aP P.length cP)) (((W4.setCell ⟨Q, 3, none⟩ (.int .i64 sr)).setCell ⟨Q, 4, none⟩ (.slice (some ⟨G3, 0, none⟩) M.length d3)).setCell ⟨Q, 5, none⟩ (.slice (some ⟨G4, 0, none⟩) P.length d4))) := hid0 (by have h := HYW4.out.pcells; exact ⟨h.1.2.2.2, h.2.1, h.2.2.1⟩)
  obtain ⟨⟨k0, k1, k2, k3⟩, k4, k5, k6, k7⟩ := HXW4.out.cells
  have f3 := frz HXW4.out.q 3
  have f4 := frz HXW4.out.q 4
  have f5 := frz HXW4.out.q 5
  clear hk1 hb1
  go_wp2_with fail
  refine hK.out _ _ ?_ (fun hHeld10 => ?_)
  · exact HSW4.out
  clear hK K
  (try simp only [Act.put]); (try simp only [List.setIfInBounds_toArray]); (try simp only [List.set_cons_succ]); (try simp only [List.set_cons_zero])
  refine tkV (i := 11) (d := some 31) (v := ?_) rfl (by kernel_rfl) (by kernel_rfl) (by kernel_rfl) rfl (fun _ _ _ h => h) (by rfl) ?_ (by assumption) ?_
  rotate_left
  · (intro w hSw; (try dsimp only at hSw); (try simp only [List.getElem_toArray, List.getElem_cons_zero, List.getElem_cons_succ]); go_simp; try with_reducible rfl)
  try simp only [Act.put, List.setIfInBounds_toArray, List.set_cons_zero, List.set_cons_succ]
  refine tkV (i := 12) (d := some 32) (v := ?_) rfl (by kernel_rfl) (by kernel_rfl) (by kernel_rfl) rfl (fun _ _ _ h => h) (by rfl) ?_ (by assumption) ?_
  rotate_left
  · (intro w hSw; (try dsimp only at hSw); (try simp only [List.getElem_toArray, List.getElem_cons_zero, List.getElem_cons_succ]); go_simp; try with_reducible rfl)
  try simp only [Act.put, List.setIfInBounds_toArray, List.set_cons_zero, List.set_cons_succ]
  refine wpAnyH_ready (rs := [13]) (by kernel_rfl) (by simp) (AllReadyH.cons rfl (fun K hK => ?_) AllReadyH.nil)
  try simp only [List.getElem_toArray, List.getElem_cons_zero, List.getElem_cons_succ]
  go_simp
  refine hK.out _ _ ?_ (fun hHeld13 => ?_)
  · exact HZW4.out
  clear hK K
  (try simp only [Act.put]); (try simp only [List.setIfInBounds_toArray]); (try simp only [List.set_cons_succ]); (try simp only [List.set_cons_zero])
  refine wpAnyH_done (by kernel_rfl) ?_ _
  refine NoPanic.normal ?_
  have HLq := HLo.out.1
  replace HK1 : Hid (RowsK (((W4.setCell ⟨Q, 3, none⟩ (.int .i64 sr)).setCell ⟨Q, 4, none⟩ (.slice (some ⟨G3, 0, none⟩) M.length d3)).setCell ⟨Q, 5, none⟩ (.slice (some ⟨G4, 0, none⟩) P.length d4)) V3.heap.size G1 d1 N) := hid0 ((((HK1.out.past HBW4.out).putQ HLq _).putQ HLq _).putQ HLq _)
  replace HK2 : Hid (RowsK (((W4.setCell ⟨Q, 3, none⟩ (.int .i64 sr)).setCell ⟨Q, 4, none⟩ (.slice (some ⟨G3, 0, none⟩) M.length d3)).setCell ⟨Q, 5, none⟩ (.slice (some ⟨G4, 0, none⟩) P.length d4)) V3.heap.size G2 d2 O) := hid0 ((((HK2.out.past HBW4.out).putQ HLq _).putQ HLq _).putQ HLq _)
  have HK3 : Hid (RowsK (((W4.setCell ⟨Q, 3, none⟩ (.int .i64 sr)).setCell ⟨Q, 4, none⟩ (.slice (some ⟨G3, 0, none⟩) M.length d3)).setCell ⟨Q, 5, none⟩ (.slice (some ⟨G4, 0, none⟩) P.length d4)) V3.heap.size G3 d3 M) := hid0 ((((HKG3.out.lower HBz.out).putQ HLq _).putQ HLq _).putQ HLq _)
  have HK4 : Hid (RowsK (((W4.setCell ⟨Q, 3, none⟩ (.int .i64 sr)).setCell ⟨Q, 4, none⟩ (.slice (some ⟨G3, 0, none⟩) M.length d3)).setCell ⟨Q, 5, none⟩ (.slice (some ⟨G4, 0, none⟩) P.length d4)) V3.heap.size G4 d4 P) := hid0 ((((HKG4.out.lower HBz.out).putQ HLq _).putQ HLq _).putQ HLq _)
  have HX5 := HYW4
  replace HBz : Hid (V3.heap.size ≤ (((W4.setCell ⟨Q, 3, none⟩ (.int .i64 sr)).setCell ⟨Q, 4, none⟩ (.slice (some ⟨G3, 0, none⟩) M.length d3)).setCell ⟨Q, 5, none⟩ (.slice (some ⟨G4, 0, none⟩) P.length d4)).heap.size) := hid0 (by rw [set_size, set_size, set_size]; exact Nat.le_trans HBz.out HBW4.out.size)
  clear hHeld hHeld6 hHeld10 hHeld13 k0 k1 k2 k3 k4 k5 k6 k7 f3 f4 f5 HYW4 HZW4 HSW4 HSW3 HKG3 HKG4 HXW3 HXW4 HX4 HBW3 HBW4 HLq
  generalize (((W4.setCell ⟨Q, 3, none⟩ (.int .i64 sr)).setCell ⟨Q, 4, none⟩ (.slice (some ⟨G3, 0, none⟩) M.length d3)).setCell ⟨Q, 5, none⟩ (.slice (some ⟨G4, 0, none⟩) P.length d4)) = V5 at *
  clear W3 W4
  obtain ⟨i0, hi, hy0, hy1, hy2⟩ := info_parts infoBool
  obtain ⟨⟨p0, p1, p2, p3⟩, p4, p5, p6, p7⟩ := HX5.out.pcells
  obtain ⟨⟨k0, k1, k2, k3⟩, k4, k5, k6, k7⟩ := HX5.out.cells
  have hBo5 := HBo.out V5 HX5.out.bel
  have HBo5 := hid0 hBo5
  clear hBo5
  go_upto_region 5 with (at_builtin; go_loud ((
    refine wpList_spreadB rfl _ _ rfl aB B cB V5.heap.size rfl rfl hnB HBo5.out (by omega) (Nat.le_refl _) ?_
    intro v6 W6 hown6 hgrow6
    obtain ⟨av, cv, rfl⟩ := OwnB.form hown6
    have HO6 := hid0 hown6
    have HB6 : Hid (Below V5.heap.size V5 W6) := hid0 ((Below.refl _ _).grown hgrow6 (Nat.le_refl _) (fun k hk => by cases hk))
    have HX6 := hid0 (HX5.out.past HB6.out)
    obtain ⟨_, _, _, j6, _⟩ := HX6.out.cells
    have f6 := frz HX6.out.q 6
    clear hown6 hgrow6 p0 p1 p2 p3 p4 p5 p6 p7 k0 k1 k2 k3 k4 k5 k6 k7)))
  have HL5 : Hid ((w.heap.size < V5.heap.size ∧ R < V5.heap.size ∧ Q < V5.heap.size) ∧ w.heap.size ≤ V5.heap.size) := hid0 ⟨HX5.out.lt, HX5.out.bel.size⟩
  have hle6 : V5.heap.size ≤ W6.heap.size := HB6.out.size
  have HX7 : Hid (Bx3 w (W6.setCell ⟨Q, 6, none⟩ (.slice av B.length cv)) w.heap.size R Q #[.int .i64 sl, .slice aN N.length cN, .slice aO O.length cO, .int .i64 sr, .slice aM M.length cM, .slice aP P.length cP, .slice aB B.length cB, .bool el] #[.int .i64 0, .slice none 0 0, .slice none 0 0, .int .i64 0, .slice none 0 0, .slice none 0 0, .slice none 0 0, .bool false] #[.int .i64 sl, .slice (some ⟨G1, 0, none⟩) N.length d1, .slice (some ⟨G2, 0, none⟩) O.length d2, .int .i64 sr, .slice (some ⟨G3, 0, none⟩) M.length d3, .slice (some ⟨G4, 0, none⟩) P.length d4, .slice av B.length cv, .bool el]) := hid0 (HX6.out.put 6 _)
  have HE7 : Hid (∀ k, V3.heap.size ≤ k → k < V5.heap.size → (W6.setCell ⟨Q, 6, none⟩ (.slice av B.length cv)).heap[k]? = V5.heap[k]?) := hid0 (fun k h1 h2 => (Below.heap_setCell _ _ _ _ (by show k ≠ Q; have := HLo.out.1; omega)).trans (HB6.out.block k h2))
  have HO7 : Hid (OwnB (W6.setCell ⟨Q, 6, none⟩ (.slice av B.length cv)) V5.heap.size (.slice av B.length cv) B) := hid0 (own_blk HO6.out (fun k hk => Below.heap_setCell _ _ _ _ (by show k ≠ Q; have := (World.ownsRow.lt HO6.out k hk).1; have := HL5.out.1.2.2; omega)))
  have hle : V5.heap.size ≤ (W6.setCell ⟨Q, 6, none⟩ (.slice av B.length cv)).heap.size := by rw [set_size]; exact hle6
  clear HX6 HO6 HB6 j6 f6 hle6
  generalize (W6.setCell ⟨Q, 6, none⟩ (.slice av B.length cv)) = V6 at *
  obtain ⟨⟨k0, k1, k2, k3⟩, k4, k5, k6, k7⟩ := HX7.out.cells
  go_upto_region 6 with (at_builtin; go_loud ((
    refine wpList_append_own _ (by rfl) _ _ 25 (by rfl) V5.heap.size 4 i0 (.bool false) 1 1 Tryd.underlying25 hi hy0 hy1 hy2 rfl (by decide) (.slice av B.length cv) B.length (B.map Value.bool) (by rfl) (World.ownsRow.alloc HO7.out _) ⟨V6.heap.size, 0, none⟩ 2 2 [.bool true, .bool false] (by rfl) (by rfl) (cell2_new V6 _ _ _) (fun u hu => by simp only [List.mem_cons, List.not_mem_nil, or_false] at hu; rcases hu with rfl | rfl <;> rfl) (by unfold maxLen; omega) (by omega) (by simp; omega) ?_
    intro v7 W7 hown7 hgrow7 _
    obtain ⟨g7, c7, rfl⟩ := Go.Joins.ownsRow_form hown7 (by omega)
    have HO8 : Hid (BoK W7 V5.heap.size g7 c7 B) := hid0 hown7
    have HB8 : Hid (Below V5.heap.size V6 W7) := hid0 (((Below.refl _ _).alloc hle _).grown hgrow7 (by simp; omega) (fun q hq => (World.ownsRow.lt HO7.out q hq).1))
    have HX8 := hid0 (HX7.out.past' HB8.out HL5.out.1 HL5.out.2)
    obtain ⟨_, _, _, j6, _⟩ := HX8.out.cells
    have f6 := frz HX8.out.q 6
    clear hown7 hgrow7 k0 k1 k2 k3 k4 k5 k6 k7)))
  have HX9 : Hid (Bx3 w (W7.setCell ⟨Q, 6, none⟩ (.slice (some ⟨g7, 0, none⟩) (B.length + 2) c7)) w.heap.size R Q #[.int .i64 sl, .slice aN N.length cN, .slice aO O.length cO, .int .i64 sr, .slice aM M.length cM, .slice aP P.length cP, .slice aB B.length cB, .bool el] #[.int .i64 0, .slice none 0 0, .slice none 0 0, .int .i64 0, .slice none 0 0, .slice none 0 0, .slice none 0 0, .bool false] #[.int .i64 sl, .slice (some ⟨G1, 0, none⟩) N.length d1, .slice (some ⟨G2, 0, none⟩) O.length d2, .int .i64 sr, .slice (some ⟨G3, 0, none⟩) M.length d3, .slice (some ⟨G4, 0, none⟩) P.length d4, .slice (some ⟨g7, 0, none⟩) (B.length + 2) c7, .bool el]) := hid0 (HX8.out.put 6 _)
  have HE9 : Hid (∀ k, V3.heap.size ≤ k → k < V5.heap.size → (W7.setCell ⟨Q, 6, none⟩ (.slice (some ⟨g7, 0, none⟩) (B.length + 2) c7)).heap[k]? = V5.heap[k]?) := hid0 (fun k h1 h2 => (Below.heap_setCell _ _ _ _ (by show k ≠ Q; have := HLo.out.1; omega)).trans ((HB8.out.block k h2).trans (HE7.out k h1 h2)))
  have HO9 : Hid (BoK (W7.setCell ⟨Q, 6, none⟩ (.slice (some ⟨g7, 0, none⟩) (B.length + 2) c7)) V5.heap.size g7 c7 B) := hid0 (own_blk HO8.out (fun k hk => Below.heap_setCell _ _ _ _ (by show k ≠ Q; have := (World.ownsRow.lt HO8.out k hk).1; have := HL5.out.1.2.2; omega)))
  have hcap := HO8.out.cap
  clear HX7 HX8 HE7 HO7 HO8 HB8 j6 f6 hle
  generalize (W7.setCell ⟨Q, 6, none⟩ (.slice (some ⟨g7, 0, none⟩) (B.length + 2) c7)) = V7 at *
  obtain ⟨_, _, _, k6, _⟩ := HX9.out.cells
  obtain ⟨_, _, _, p6, _⟩ := HX9.out.pcells
  have f6 := frz HX9.out.q 6
  go_upto_region 7 with (fail)
  have HXa : Hid (Bx3 w (V7.setCell ⟨Q, 6, none⟩ (.slice (some ⟨g7, 0, none⟩) B.length c7)) w.heap.size R Q #[.int .i64 sl, .slice aN N.length cN, .slice aO O.length cO, .int .i64 sr, .slice aM M.length cM, .slice aP P.length cP, .slice aB B.length cB, .bool el] #[.int .i64 0, .slice none 0 0, .slice none 0 0, .int .i64 0, .slice none 0 0, .slice none 0 0, .slice none 0 0, .bool false] #[.int .i64 sl, .slice (some ⟨G1, 0, none⟩) N.length d1, .slice (some ⟨G2, 0, none⟩) O.length d2, .int .i64 sr, .slice (some ⟨G3, 0, none⟩) M.length d3, .slice (some ⟨G4, 0, none⟩) P.length d4, .slice (some ⟨g7, 0, none⟩) B.length c7, .bool el]) := hid0 (HX9.out.put 6 _)
  have HEa : Hid (∀ k, V3.heap.size ≤ k → k < V5.heap.size → (V7.setCell ⟨Q, 6, none⟩ (.slice (some ⟨g7, 0, none⟩) B.length c7)).heap[k]? = V5.heap[k]?) := hid0 (fun k h1 h2 => (Below.heap_setCell _ _ _ _ (by show k ≠ Q; have := HLo.out.1; omega)).trans (HE9.out k h1 h2))
  have HOa : Hid (BoK (V7.setCell ⟨Q, 6, none⟩ (.slice (some ⟨g7, 0, none⟩) B.length c7)) V5.heap.size g7 c7 B) := hid0 (own_blk HO9.out (fun k hk => Below.heap_setCell _ _ _ _ (by show k ≠ Q; have := (World.ownsRow.lt HO9.out k hk).1; have := HL5.out.1.2.2; omega)))
  clear HX9 HE9 HO9 k6 p6 f6
  generalize (V7.setCell ⟨Q, 6, none⟩ (.slice (some ⟨g7, 0, none⟩) B.length c7)) = V8 at *
  obtain ⟨⟨k0, k1, k2, k3⟩, k4, k5, k6, k7⟩ := HXa.out.cells
  obtain ⟨⟨r0, r1, r2, r3⟩, r4, r5, r6, r7⟩ := row8p HXa.out.r
  have f0 := frz HXa.out.r 0
  have f1 := frz HXa.out.r 1
  have f2 := frz HXa.out.r 2
  have f3 := frz HXa.out.r 3
  have f4 := frz HXa.out.r 4
  have f5 := frz HXa.out.r 5
  have f6 := frz HXa.out.r 6
  have f7 := frz HXa.out.r 7
  go_wp2
  have HXb : Bx3 w ((((((((V8.setCell ⟨R, 0, none⟩ (.int .i64 sl)).setCell ⟨R, 1, none⟩ (.slice (some ⟨G1, 0, none⟩) N.length d1)).setCell ⟨R, 2, none⟩ (.slice (some ⟨G2, 0, none⟩) O.length d2)).setCell ⟨R, 3, none⟩ (.int .i64 sr)).setCell ⟨R, 4, none⟩ (.slice (some ⟨G3, 0, none⟩) M.length d3)).setCell ⟨R, 5, none⟩ (.slice (some ⟨G4, 0, none⟩) P.length d4)).setCell ⟨R, 6, none⟩ (.slice (some ⟨g7, 0, none⟩) B.length c7)).setCell ⟨R, 7, none⟩ (.bool el)) w.heap.size R Q #[.int .i64 sl, .slice aN N.length cN, .slice aO O.length cO, .int .i64 sr, .slice aM M.length cM, .slice aP P.length cP, .slice aB B.length cB, .bool el] #[.int .i64 sl, .slice (some ⟨G1, 0, none⟩) N.length d1, .slice (some ⟨G2, 0, none⟩) O.length d2, .int .i64 sr, .slice (some ⟨G3, 0, none⟩) M.length d3, .slice (some ⟨G4, 0, none⟩) P.length d4, .slice (some ⟨g7, 0, none⟩) B.length c7, .bool el] #[.int .i64 sl, .slice (some ⟨G1, 0, none⟩) N.length d1, .slice (some ⟨G2, 0, none⟩) O.length d2, .int .i64 sr, .slice (some ⟨G3, 0, none⟩) M.length d3, .slice (some ⟨G4, 0, none⟩) P.length d4, .slice (some ⟨g7, 0, none⟩) B.length c7, .bool el] := (((((((HXa.out.putR 0 _).putR 1 _).putR 2 _).putR 3 _).putR 4 _).putR 5 _).putR 6 _).putR 7 _
  obtain ⟨⟨z0, z1, z2, z3⟩, z4, z5, z6, z7⟩ := row8p HXb.r
  have HEb : ∀ k, k ≠ R → ((((((((V8.setCell ⟨R, 0, none⟩ (.int .i64 sl)).setCell ⟨R, 1, none⟩ (.slice (some ⟨G1, 0, none⟩) N.length d1)).setCell ⟨R, 2, none⟩ (.slice (some ⟨G2, 0, none⟩) O.length d2)).setCell ⟨R, 3, none⟩ (.int .i64 sr)).setCell ⟨R, 4, none⟩ (.slice (some ⟨G3, 0, none⟩) M.length d3)).setCell ⟨R, 5, none⟩ (.slice (some ⟨G4, 0, none⟩) P.length d4)).setCell ⟨R, 6, none⟩ (.slice (some ⟨g7, 0, none⟩) B.length c7)).setCell ⟨R, 7, none⟩ (.bool el)).heap[k]? = V8.heap[k]? := fun k hk => by
    repeat rw [Below.heap_setCell _ _ _ _ hk]
  refine bodyPost_ret (v := .agg #[.int .i64 sl, .slice (some ⟨G1, 0, none⟩) N.length d1, .slice (some ⟨G2, 0, none⟩) O.length d2, .int .i64 sr, .slice (some ⟨G3, 0, none⟩) M.length d3, .slice (some ⟨G4, 0, none⟩) P.length d4, .slice (some ⟨g7, 0, none⟩) B.length c7, .bool el]) (by simp [results, Tryd.results5, go_sem, z0, z1, z2, z3, z4, z5, z6, z7]) rfl ?_
  have hR := HL5.out.1.2.1
  have hk : ∀ k, V3.heap.size ≤ k → k < V5.heap.size → ((((((((V8.setCell ⟨R, 0, none⟩ (.int .i64 sl)).setCell ⟨R, 1, none⟩ (.slice (some ⟨G1, 0, none⟩) N.length d1)).setCell ⟨R, 2, none⟩ (.slice (some ⟨G2, 0, none⟩) O.length d2)).setCell ⟨R, 3, none⟩ (.int .i64 sr)).setCell ⟨R, 4, none⟩ (.slice (some ⟨G3, 0, none⟩) M.length d3)).setCell ⟨R, 5, none⟩ (.slice (some ⟨G4, 0, none⟩) P.length d4)).setCell ⟨R, 6, none⟩ (.slice (some ⟨g7, 0, none⟩) B.length c7)).setCell ⟨R, 7, none⟩ (.bool el)).heap[k]? = V5.heap[k]? := fun k h1 h2 => (HEb k (by have := HLr.out; omega)).trans (HEa.out k h1 h2)
  exact ⟨G1, G2, G3, G4, g7, d1, d2, d3, d4, c7, rfl, ⟨(HK1.out.keep hk).lower HLo.out.2, (HK2.out.keep hk).lower HLo.out.2, (HK3.out.keep hk).lower HLo.out.2, (HK4.out.keep hk).lower HLo.out.2, BoK.lower (own_blk HOa.out (fun k hk => HEb k (by have := (World.ownsRow.lt HOa.out k hk).1; omega))) HL5.out.2⟩, HXb.bel⟩
end Go.Proofs.YtilnanefkbdbkaaDoor
namespace Go.Proofs.YtilnanefkbdbkaaDoor
open Go.RowKit Go.Shelf
theorem PgK.past {w w' : World} {lo G1 G2 G3 G4 g7 d1 d2 d3 d4 c7 : Nat} {N O M P : List (List Int)} {B : List Bool} (h : PgK w lo G1 G2 G3 G4 g7 d1 d2 d3 d4 c7 N O M P B) (hb : Below w.heap.size w w') : PgK w' lo G1 G2 G3 G4 g7 d1 d2 d3 d4 c7 N O M P B := ⟨h.n.past hb, h.o.past hb, h.m.past hb, h.p'.past hb, h.b.past hb⟩
theorem PgK.pra {w : World} {lo G1 G2 G3 G4 g7 d1 d2 d3 d4 c7 : Nat} {N O M P : List (List Int)} {B : List Bool} (h : PgK w lo G1 G2 G3 G4 g7 d1 d2 d3 d4 c7 N O M P B) (sl sr : Int) (el : Bool) : PrA w ⟨sl, N, O, sr, M, P, B, el⟩ ⟨some ⟨G1, 0, none⟩, some ⟨G2, 0, none⟩, some ⟨G3, 0, none⟩, some ⟨G4, 0, none⟩, some ⟨g7, 0, none⟩, d1, d2, d3, d4, c7⟩ := ⟨h.n.rwc, h.o.rwc, h.m.rwc, h.p'.rwc, h.b.boa⟩
theorem PgK.px {w : World} {lo hi G1 G2 G3 G4 g7 d1 d2 d3 d4 c7 : Nat} {N O M P : List (List Int)} {B : List Bool} (h : PgK w lo G1 G2 G3 G4 g7 d1 d2 d3 d4 c7 N O M P B) (hh : w.heap.size ≤ hi) {sl sr : Int} {el : Bool} (hs : PrS ⟨sl, N, O, sr, M, P, B, el⟩) : PX w (fun b => lo ≤ b ∧ b < hi) ⟨some ⟨G1, 0, none⟩, some ⟨G2, 0, none⟩, some ⟨G3, 0, none⟩, some ⟨G4, 0, none⟩, some ⟨g7, 0, none⟩, d1, d2, d3, d4, c7⟩ N.length O.length M.length P.length B.length := ⟨h.n.xr hh hs.nr, h.o.xr hh hs.or, h.m.xr hh hs.mr, h.p'.xr hh hs.pr, h.b.xb hh⟩
set_option maxRecDepth 10000 in
set_option maxHeartbeats 1600000 in
theorem pairingLeft_any (sl sr : Int) (N O M P : List (List Int)) (B : List Bool) (el : Bool) (lo G1 G2 G3 G4 g7 d1 d2 d3 d4 c7 : Nat) (w : World) (hs : PrS ⟨sl, N, O, sr, M, P, B, el⟩) (h : PgK w lo G1 G2 G3 G4 g7 d1 d2 d3 d4 c7 N O M P B) (ho : O.length ≤ 1000000000) (hp : P.length ≤ 1000000000) :
    Calls Tryd.prog 14 #[.agg #[.int .i64 sl, .slice (some ⟨G1, 0, none⟩) N.length d1, .slice (some ⟨G2, 0, none⟩) O.length d2, .int .i64 sr, .slice (some ⟨G3, 0, none⟩) M.length d3, .slice (some ⟨G4, 0, none⟩) P.length d4, .slice (some ⟨g7, 0, none⟩) B.length c7, .bool el]] w fun e w' => e = .returned (.bool true) ∧ Below w.heap.size w w' := by
  obtain ⟨w0, hw0, hB0, hz0, hC0⟩ := box_pr w ⟨sl, N, O, sr, M, P, B, el⟩ ⟨some ⟨G1, 0, none⟩, some ⟨G2, 0, none⟩, some ⟨G3, 0, none⟩, some ⟨G4, 0, none⟩, some ⟨g7, 0, none⟩, d1, d2, d3, d4, c7⟩
  replace hw0 : w.alloc (.cells #[.int .i64 sl, .slice (some ⟨G1, 0, none⟩) N.length d1, .slice (some ⟨G2, 0, none⟩) O.length d2, .int .i64 sr, .slice (some ⟨G3, 0, none⟩) M.length d3, .slice (some ⟨G4, 0, none⟩) P.length d4, .slice (some ⟨g7, 0, none⟩) B.length c7, .bool el] 27) = w0 := hw0
  have HB0 := hid0 hB0
  have h0 := h.past hB0
  obtain ⟨⟨x0, x1, x2, x3⟩, x4, x5, x6, x7⟩ := hC0 w0 (Below.refl _ _)
  replace x1 : w0.cell? ⟨w.heap.size, 1, none⟩ = some (.slice (some ⟨G1, 0, none⟩) N.length d1) := x1
  replace x2 : w0.cell? ⟨w.heap.size, 2, none⟩ = some (.slice (some ⟨G2, 0, none⟩) O.length d2) := x2
  replace x4 : w0.cell? ⟨w.heap.size, 4, none⟩ = some (.slice (some ⟨G3, 0, none⟩) M.length d3) := x4
  replace x5 : w0.cell? ⟨w.heap.size, 5, none⟩ = some (.slice (some ⟨G4, 0, none⟩) P.length d4) := x5
  replace x6 : w0.cell? ⟨w.heap.size, 6, none⟩ = some (.slice (some ⟨g7, 0, none⟩) B.length c7) := x6
  have HL1 : Hid (∀ k, Calls Tryd.prog 35 #[.slice (some ⟨G1, 0, none⟩) N.length d1] (w0.drewN k) fun r w' => r = .returned (.bool true) ∧ ∃ n, w' = (w0.drewN k).drewN n) := hid0 (fun k => by
    have hk := h0.past (below_drew' (Below.refl _ _) k)
    exact rowsLeftK hs.n hs.nr hk.n)
  have HL2 : Hid (∀ k, Calls Tryd.prog 35 #[.slice (some ⟨G2, 0, none⟩) O.length d2] (w0.drewN k) fun r w' => r = .returned (.bool true) ∧ ∃ n, w' = (w0.drewN k).drewN n) := hid0 (fun k => by
    have hk := h0.past (below_drew' (Below.refl _ _) k)
    exact rowsLeftK ho hs.or hk.o)
  have HL3 : Hid (∀ k, Calls Tryd.prog 35 #[.slice (some ⟨G3, 0, none⟩) M.length d3] (w0.drewN k) fun r w' => r = .returned (.bool true) ∧ ∃ n, w' = (w0.drewN k).drewN n) := hid0 (fun k => by
    have hk := h0.past (below_drew' (Below.refl _ _) k)
    exact rowsLeftK hs.m hs.mr hk.m)
  have HL4 : Hid (∀ k, Calls Tryd.prog 35 #[.slice (some ⟨G4, 0, none⟩) P.length d4] (w0.drewN k) fun r w' => r = .returned (.bool true) ∧ ∃ n, w' = (w0.drewN k).drewN n) := hid0 (fun k => by
    have hk := h0.past (below_drew' (Below.refl _ _) k)
    exact rowsLeftK hp hs.pr hk.p')
  have HL0 := hid0 (HL1.out 0)
  obtain ⟨m1, m2⟩ := h0.b.marks
  have hcap := h0.b.cap
  have hB : B.length ≤ 1000000000 := hs.b
  have hn1 : (B.length : Int) + 2 ≤ (c7 : Int) := by omega
  clear h h0 hs hB0 hC0 hz0 ho hp
  go_enter Tryd.func14, Tryd.ntmps14
  go_upto_region 3 with (first
    | (go_at_call 35; have hq := HQ.out; refine (HL2.out n1).mono ?_; rintro e W2 ⟨rfl, n2, hw2⟩; rw [World.drewN_drewN] at hw2; subst hw2; clear hq)
    | (go_at_call 35; refine HL0.out.mono ?_; rintro e W1 ⟨rfl, n1, hw1⟩; rw [World.drewN_drewN, Nat.zero_add] at hw1; subst hw1; have HQ : Hid True := hid0 trivial; clear HL0))
  clear HQ
  go_upto_region 4 with (first
    | (go_at_call 35; have hq := HQ2.out; refine (HL4.out n3).mono ?_; rintro e W4 ⟨rfl, n4, hw4⟩; rw [World.drewN_drewN] at hw4; subst hw4; clear hq)
    | (go_at_call 35; refine (HL3.out _).mono ?_; rintro e W3 ⟨rfl, n3', hw3⟩; rw [World.drewN_drewN] at hw3; subst hw3; obtain ⟨n3, hn3⟩ : ∃ n3, n3 = n1 + n2 + n3' := ⟨_, rfl⟩; rw [← hn3]; have HQ2 : Hid True := hid0 trivial; clear hn3))
  go_wp2
  go_ret
  exact ⟨rfl, below_drew' HB0.out _⟩
end Go.Proofs.YtilnanefkbdbkaaDoor
namespace Go.Proofs.YtilnanefkbdbkaaDoor
open Go.RowKit Go.Shelf
theorem num_errC (A : Nat → Addr) (b : Bool) (w : World) (h : Sents w A) : Calls Tryd.prog 16 #[errC A b] w fun e w' => e = .returned (.int .i64 (numC b)) ∧ w' = w := by
  cases b with
  | true => exact kitNum_nil w
  | false => exact kitNum_at w A h 0 (by omega)
theorem brk_len (D : List Int) (B : List Bool) (el : Bool) (n : Nat) : (brkF D B el n).length ≤ D.length + 2 := by
  unfold brkF
  split
  · simp
  · have := brkK_len D B el D.length
    simp only [List.length_cons, List.length_append, List.length_nil]
    omega
set_option maxRecDepth 10000 in
set_option maxHeartbeats 1600000 in
theorem reads_any (A : Nat → Addr) (sl sr : Int) (N O M P : List (List Int)) (B : List Bool) (el : Bool) (aN aO aM aP aB : Option Addr) (cN cO cM cP cB : Nat) (sy : Int) (l : List Int) (aw : Option Addr) (cw : Nat) (w : World) (hs : PrS ⟨sl, N, O, sr, M, P, B, el⟩) (ha : PrA w ⟨sl, N, O, sr, M, P, B, el⟩ ⟨aN, aO, aM, aP, aB, cN, cO, cM, cP, cB⟩) (hl : l.length ≤ 999999000) (hw : IA w aw l) (he : Sents w A) :
    Calls Tryd.prog 20 #[.agg #[.int .i64 sl, .slice aN N.length cN, .slice aO O.length cO, .int .i64 sr, .slice aM M.length cM, .slice aP P.length cP, .slice aB B.length cB, .bool el], .int .i64 sy, .slice aw l.length cw] w fun e w' => e = .returned (.bool true) ∧ Below w.heap.size w w' := by
  obtain ⟨w0, hw0, hB0, hz0, hC0⟩ := box_pr w ⟨sl, N, O, sr, M, P, B, el⟩ ⟨aN, aO, aM, aP, aB, cN, cO, cM, cP, cB⟩
  have HC : Hid (∀ V : World, Below w0.heap.size w0 V → (V.cell? ⟨w.heap.size, 0, none⟩ = some (.int .i64 sl) ∧ V.cell? ⟨w.heap.size, 1, none⟩ = some (.slice aN N.length cN) ∧ V.cell? ⟨w.heap.size, 2, none⟩ = some (.slice aO O.length cO) ∧ V.cell? ⟨w.heap.size, 3, none⟩ = some (.int .i64 sr)) ∧ V.cell? ⟨w.heap.size, 4, none⟩ = some (.slice aM M.length cM) ∧ V.cell? ⟨w.heap.size, 5, none⟩ = some (.slice aP P.length cP) ∧ V.cell? ⟨w.heap.size, 6, none⟩ = some (.slice aB B.length cB) ∧ V.cell? ⟨w.heap.size, 7, none⟩ = some (.bool el)) := hid0 hC0
  replace hw0 : w.alloc (.cells #[.int .i64 sl, .slice aN N.length cN, .slice aO O.length cO, .int .i64 sr, .slice aM M.length cM, .slice aP P.length cP, .slice aB B.length cB, .bool el] 27) = w0 := hw0
  have HAl : Hid (∀ V : World, Below w0.heap.size w0 V → PrA V ⟨sl, N, O, sr, M, P, B, el⟩ ⟨aN, aO, aM, aP, aB, cN, cO, cM, cP, cB⟩ ∧ IA V aw l ∧ Sents V A ∧ Below w.heap.size w V) := hid0 (fun V hV => by
    have h := hB0.trans (hV.mono (by omega))
    exact ⟨ha.past h, hw.past h, he.below h, h⟩)
  have HS := hid0 hs
  have hDl : (decF sl N O sr M P l).length ≤ 999999000 := by unfold decF; simp; omega
  have hKl := brk_len (decF sl N O sr M P l) B el l.length
  have HSz : Hid (∀ V : World, Below w0.heap.size w0 V → Calls Tryd.prog 12 #[.agg #[.int .i64 sl, .slice aN N.length cN, .slice aO O.length cO, .int .i64 sr, .slice aM M.length cM, .slice aP P.length cP, .slice aB B.length cB, .bool el]] V fun e w' => e = .returned (.int .i64 ((N.length : Int) + (M.length : Int))) ∧ Below V.heap.size V w') := hid0 (fun V hV => size_any sl sr N O M P B el aN aO aM aP aB cN cO cM cP cB V hs (HAl.out V hV).1)
  have HNu : Hid (∀ (b : Bool) (V : World), Below w0.heap.size w0 V → Calls Tryd.prog 16 #[errC A b] V fun e w' => e = .returned (.int .i64 (numC b)) ∧ w' = V) := hid0 (fun b V hV => num_errC A b V (HAl.out V hV).2.2.1)
  have HCh := hid0 (refPairCheck_any sl sr N O M P B el aN aO aM aP aB cN cO cM cP cB sy w0 hs (HAl.out w0 (Below.refl _ _)).1)
  have HD := hid0 (fun V hV => refDecide_any sl sr N O M P B el aN aO aM aP aB cN cO cM cP cB l aw cw V hs (HAl.out V hV).1 (by omega) (HAl.out V hV).2.1)
  have HK := hid0 (fun V hV => refBreaks_any sl sr N O M P B el aN aO aM aP aB cN cO cM cP cB l aw cw V hs (HAl.out V hV).1 (by omega) (HAl.out V hV).2.1)
  have HZ := hid0 (fun V hV => refSize_any sl sr N O M P B el aN aO aM aP aB cN cO cM cP cB V hs (HAl.out V hV).1)
  have HPc := hid0 (fun V hV => pairCheck_any A sl sr N O M P B el aN aO aM aP aB cN cO cM cP cB sy V hs (HAl.out V hV).1 (HAl.out V hV).2.2.1)
  have HPd := hid0 (fun V hV => decide_any A sl sr N O M P B el aN aO aM aP aB cN cO cM cP cB l aw cw V hs (HAl.out V hV).1 (by omega) (HAl.out V hV).2.1 (HAl.out V hV).2.2.1)
  have HPb := hid0 (fun V hV => breaks_any A sl sr N O M P B el aN aO aM aP aB cN cO cM cP cB l aw cw V hs (HAl.out V hV).1 (by omega) (HAl.out V hV).2.1 (HAl.out V hV).2.2.1)
  unfold RDecR at HD HK
  unfold DecR at HPd HPb
  have hLd : (if okD sl N O sr M P B.length l then decF sl N O sr M P l else []).length ≤ 999999000 := by
    split
    · omega
    · simp
  have hLk : (if okD sl N O sr M P B.length l then brkF (decF sl N O sr M P l) B el l.length else []).length ≤ 1000000000 := by
    split
    · omega
    · simp
  clear hB0 hC0 hz0 ha hw he hs hDl hKl
  generalize (if okD sl N O sr M P B.length l then decF sl N O sr M P l else []) = LD at *
  generalize (if okD sl N O sr M P B.length l then brkF (decF sl N O sr M P l) B el l.length else []) = LK at *
  generalize okD sl N O sr M P B.length l = ok at *
  generalize chkP sl N O sr M P B.length sy = ck at *
  have hc1 : (numC ck == numC ck) = true := by simp
  have hc2 : (numC ok == numC ok) = true := by simp
  go_enter Tryd.func20, Tryd.ntmps20
  obtain ⟨⟨x0, x1, x2, x3⟩, x4, x5, x6, x7⟩ := HC.out w0 (Below.refl _ _)
  have HCall := HCh
  go_upto_region 2 with (go_at_call 17; go_loud ((
    refine HCall.out.mono ?_
    rintro e w1 ⟨rfl, hb⟩
    have HB1 : Hid (Below w0.heap.size w0 w1) := hid0 (hb)
    have HC1 : Hid (Below w0.heap.size w0 w1) := hid0 hb
    skip
    clear hb HCall; clear x0 x1 x2 x3 x4 x5 x6 x7)))
  obtain ⟨⟨x0, x1, x2, x3⟩, x4, x5, x6, x7⟩ := HC.out w1 HB1.out
  have HCall := hid0 (HD.out w1 HB1.out)
  go_upto_region 3 with (go_at_call 8; go_loud ((
    refine HCall.out.mono ?_
    rintro e w2 ⟨v, rfl, ho, hb⟩
    have HB2 : Hid (Below w0.heap.size w0 w2) := hid0 (HB1.out.trans (hb.mono HB1.out.size))
    have HC2 : Hid (Below w1.heap.size w1 w2) := hid0 hb
    obtain ⟨a2, c2, rfl, ii⟩ := ho.ia; have HI2 := hid0 ii; clear ho ii
    clear hb HCall; clear x0 x1 x2 x3 x4 x5 x6 x7)))
  obtain ⟨⟨x0, x1, x2, x3⟩, x4, x5, x6, x7⟩ := HC.out w2 HB2.out
  have HCall := hid0 (HK.out w2 HB2.out)
  go_upto_region 4 with (go_at_call 10; go_loud ((
    refine HCall.out.mono ?_
    rintro e w3 ⟨v, rfl, ho, hb⟩
    have HB3 : Hid (Below w0.heap.size w0 w3) := hid0 (HB2.out.trans (hb.mono HB2.out.size))
    have HC3 : Hid (Below w2.heap.size w2 w3) := hid0 hb
    obtain ⟨a3, c3, rfl, ii⟩ := ho.ia; have HI3 := hid0 ii; clear ho ii
    clear hb HCall; clear x0 x1 x2 x3 x4 x5 x6 x7)))
  obtain ⟨⟨x0, x1, x2, x3⟩, x4, x5, x6, x7⟩ := HC.out w3 HB3.out
  have HCall := hid0 (HZ.out w3 HB3.out)
  go_upto_region 5 with (go_at_call 18; go_loud ((
    refine HCall.out.mono ?_
    rintro e w4 ⟨rfl, hb⟩
    have HB4 : Hid (Below w0.heap.size w0 w4) := hid0 (HB3.out.trans (hb.mono HB3.out.size))
    have HC4 : Hid (Below w3.heap.size w3 w4) := hid0 hb
    skip
    clear hb HCall; clear x0 x1 x2 x3 x4 x5 x6 x7)))
  obtain ⟨⟨x0, x1, x2, x3⟩, x4, x5, x6, x7⟩ := HC.out w4 HB4.out
  have HCall := hid0 (HPc.out w4 HB4.out)
  go_upto_region 6 with (go_at_call 6; go_loud ((
    refine HCall.out.mono ?_
    rintro e w5 ⟨rfl, hb⟩
    have HB5 : Hid (Below w0.heap.size w0 w5) := hid0 (HB4.out.trans (hb.mono HB4.out.size))
    have HC5 : Hid (Below w4.heap.size w4 w5) := hid0 hb
    skip
    clear hb HCall; clear x0 x1 x2 x3 x4 x5 x6 x7)))
  obtain ⟨⟨x0, x1, x2, x3⟩, x4, x5, x6, x7⟩ := HC.out w5 HB5.out
  have HCall := hid0 (HPd.out w5 HB5.out)
  go_upto_region 7 with (go_at_call 7; go_loud ((
    refine HCall.out.mono ?_
    rintro e w6 ⟨v, rfl, ho, hb⟩
    have HB6 : Hid (Below w0.heap.size w0 w6) := hid0 (HB5.out.trans (hb.mono HB5.out.size))
    have HC6 : Hid (Below w5.heap.size w5 w6) := hid0 hb
    obtain ⟨a6, c6, rfl, ii⟩ := ho.ia; have HI6 := hid0 ii; clear ho ii
    clear hb HCall; clear x0 x1 x2 x3 x4 x5 x6 x7)))
  obtain ⟨⟨x0, x1, x2, x3⟩, x4, x5, x6, x7⟩ := HC.out w6 HB6.out
  have HCall := hid0 (HPb.out w6 HB6.out)
  go_upto_region 8 with (go_at_call 9; go_loud ((
    refine HCall.out.mono ?_
    rintro e w7 ⟨v, rfl, ho, hb⟩
    have HB7 : Hid (Below w0.heap.size w0 w7) := hid0 (HB6.out.trans (hb.mono HB6.out.size))
    have HC7 : Hid (Below w6.heap.size w6 w7) := hid0 hb
    obtain ⟨a7, c7, rfl, ii⟩ := ho.ia; have HI7 := hid0 ii; clear ho ii
    clear hb HCall; clear x0 x1 x2 x3 x4 x5 x6 x7)))
  have hp23 : Below w2.heap.size w2 w7 := HC3.out.trans ((HC4.out.trans ((HC5.out.trans ((HC6.out.trans (HC7.out.mono HC6.out.size)).mono HC5.out.size)).mono HC4.out.size)).mono HC3.out.size)
  have hp34 : Below w3.heap.size w3 w7 := HC4.out.trans ((HC5.out.trans ((HC6.out.trans (HC7.out.mono HC6.out.size)).mono HC5.out.size)).mono HC4.out.size)
  have HS1 := hid0 (sameI LD a6 a2 c6 c2 w7 (by omega) (HI6.out.past HC7.out) (HI2.out.past hp23))
  have HS2 : Hid (∀ k, Calls Tryd.prog 11 #[.slice a7 LK.length c7, .slice a3 LK.length c3] (w7.drewN k) fun e w' => e = .returned (.bool true) ∧ ∃ n, w' = (w7.drewN k).drewN n) := hid0 (fun k => sameI LK a7 a3 c7 c3 (w7.drewN k) (by omega) (HI7.out.past (below_drew' (Below.refl _ _) k)) ((HI3.out.past hp34).past (below_drew' (Below.refl _ _) k)))
  clear hp23 hp34
  go_upto_region 9 with (first
    | (go_at_call 11; have hq := HQ.out; refine (HS2.out n1).mono ?_; rintro e W2 ⟨rfl, n2, hw2⟩; rw [World.drewN_drewN] at hw2; subst hw2; clear hq)
    | (go_at_call 11; refine HS1.out.mono ?_; rintro e W1 ⟨rfl, n1, hw1⟩; subst hw1; have HQ : Hid True := hid0 trivial; clear HS1))
  have HB8 : Hid (Below w0.heap.size w0 (w7.drewN (n1 + n2))) := hid0 (below_drew' HB7.out _)
  generalize w7.drewN (n1 + n2) = w8 at *
  obtain ⟨⟨x0, x1, x2, x3⟩, x4, x5, x6, x7⟩ := HC.out w8 HB8.out
  have HN1 := hid0 (HNu.out ck w8 HB8.out)
  have HN2 := hid0 (HNu.out ok)
  have HZ2 := hid0 (HSz.out w8 HB8.out)
  clear HQ
  go_wp2_with (first
    | (go_at_call 12; go_loud ((refine HZ2.out.mono ?_; rintro e w9 ⟨rfl, hb⟩; have HB9 : Hid (Below w0.heap.size w0 w9) := hid0 (HB8.out.trans (hb.mono HB8.out.size)); clear hb; clear x0 x1 x2 x3 x4 x5 x6 x7)))
    | (go_at_call 16; have hq := HB9.out; clear hq; refine (HN2.out _ HB9.out).mono ?_; rintro e wz ⟨rfl, rfl⟩)
    | (go_at_call 16; refine HN1.out.mono ?_; rintro e wz ⟨rfl, rfl⟩; clear HN1))
  go_ret
  exact ⟨rfl, (HAl.out _ HB9.out).2.2.2⟩
end Go.Proofs.YtilnanefkbdbkaaDoor
namespace Go.Proofs.YtilnanefkbdbkaaDoor
open Go.RowKit Go.Shelf
/-- A pairing and a word whose contents are whatever they are. -/
structure OvX (w : World) (D : Nat → Prop) (q : PrL) (nN nO nM nP nB : Nat) (aw : Option Addr) (nw : Nat) : Prop where
  px : PX w D q nN nO nM nP nB
  xi : XI w D aw nw
section
variable {w w' : World} {D : Nat → Prop} {q : PrL} {nN nO nM nP nB nw : Nat} {aw : Option Addr}
theorem OvX.past (h : OvX w D q nN nO nM nP nB aw nw) (hb : Below w.heap.size w w') : OvX w' D q nN nO nM nP nB aw nw := ⟨h.px.past hb, h.xi.past hb⟩
theorem OvX.setI (h : OvX w D q nN nO nM nP nB aw nw) {p : Addr} {z0 : Int} (hp : w.cell? p = some (.int .i64 z0)) (z : Int) : OvX (w.setCell p (.int .i64 z)) D q nN nO nM nP nB aw nw := ⟨h.px.setI hp z, h.xi.setI p z⟩
theorem OvX.setB (h : OvX w D q nN nO nM nP nB aw nw) {p : Addr} {z0 : Bool} (hp : w.cell? p = some (.bool z0)) (z : Bool) : OvX (w.setCell p (.bool z)) D q nN nO nM nP nB aw nw := ⟨h.px.setB hp z, h.xi.setB hp z⟩
end
set_option maxRecDepth 10000 in
set_option maxHeartbeats 1600000 in
theorem over_any (sl sr : Int) (el : Bool) (nN nO nM nP nB nw cN cO cM cP cB : Nat) (aN aO aM aP aB aw : Option Addr) (D : Nat → Prop) (w : World) (hD : ∀ k, D k → k < w.heap.size) (hx : OvX w D ⟨aN, aO, aM, aP, aB, cN, cO, cM, cP, cB⟩ nN nO nM nP nB aw nw) :
    Calls Tryd.prog 21 #[.agg #[.int .i64 sl, .slice aN nN cN, .slice aO nO cO, .int .i64 sr, .slice aM nM cM, .slice aP nP cP, .slice aB nB cB, .bool el]] w fun e w' => e = .returned (.tuple #[]) ∧ OvX w' D ⟨aN, aO, aM, aP, aB, cN, cO, cM, cP, cB⟩ nN nO nM nP nB aw nw ∧ Kpd w w' D := by
  obtain ⟨w0, hw0, hb0, h0⟩ : ∃ w0, w.alloc (.cells #[.int .i64 sl, .slice aN nN cN, .slice aO nO cO, .int .i64 sr, .slice aM nM cM, .slice aP nP cP, .slice aB nB cB, .bool el] 27) = w0 ∧ Below w.heap.size w w0 ∧ w0.heap[w.heap.size]? = some (.cells #[.int .i64 sl, .slice aN nN cN, .slice aO nO cO, .int .i64 sr, .slice aM nM cM, .slice aP nP cP, .slice aB nB cB, .bool el] 27 (0, 0)) := ⟨_, rfl, (Below.refl _ _).alloc (Nat.le_refl _) _, heap_alloc_new _ _⟩
  have hnd : ¬ D w.heap.size := fun h => by have := hD _ h; omega
  have HC : Hid (∀ V : World, Kpd w0 V D → (V.cell? ⟨w.heap.size, 0, none⟩ = some (.int .i64 sl) ∧ V.cell? ⟨w.heap.size, 1, none⟩ = some (.slice aN nN cN) ∧ V.cell? ⟨w.heap.size, 2, none⟩ = some (.slice aO nO cO) ∧ V.cell? ⟨w.heap.size, 3, none⟩ = some (.int .i64 sr)) ∧ V.cell? ⟨w.heap.size, 4, none⟩ = some (.slice aM nM cM) ∧ V.cell? ⟨w.heap.size, 5, none⟩ = some (.slice aP nP cP) ∧ V.cell? ⟨w.heap.size, 6, none⟩ = some (.slice aB nB cB) ∧ V.cell? ⟨w.heap.size, 7, none⟩ = some (.bool el)) := hid0 (fun V hV => by
    have h := row8p h0
    exact ⟨⟨hV.cell hnd h.1.1, hV.cell hnd h.1.2.1, hV.cell hnd h.1.2.2.1, hV.cell hnd h.1.2.2.2⟩, hV.cell hnd h.2.1, hV.cell hnd h.2.2.1, hV.cell hnd h.2.2.2.1, hV.cell hnd h.2.2.2.2⟩)
  have HP0 := hid0 (hx.past hb0)
  have HK0 := hid0 (Kpd.of hb0 D)
  have HKr := hid0 (Kpd.refl w0 D)
  clear hx hb0 h0
  go_enter Tryd.func21, Tryd.ntmps21
  obtain ⟨⟨x0, x1, x2, x3⟩, x4, x5, x6, x7⟩ := HC.out w0 HKr.out
  by_cases hnB : nB = 0
  · have hiB : ¬ (nB : Int) > 0 := by omega
    clear hnB
    go_upto_region 3 with (fail)
    clear x0 x1 x2 x3 x4 x5 x6 x7
    obtain ⟨⟨x0, x1, x2, x3⟩, x4, x5, x6, x7⟩ := HC.out w0 HKr.out
    by_cases hn2 : nO = 0
    · have hi2 : ¬ (nO : Int) > 0 := by omega
      clear hn2
      go_upto_region 5 with (fail)
      clear x0 x1 x2 x3 x4 x5 x6 x7
      obtain ⟨⟨x0, x1, x2, x3⟩, x4, x5, x6, x7⟩ := HC.out w0 HKr.out
      by_cases hn4 : nM = 0
      · have hi4 : ¬ (nM : Int) > 0 := by omega
        clear hn4
        go_wp2
        clear x0 x1 x2 x3 x4 x5 x6 x7
        refine bodyPost_end (results_none rfl _ _ _) rfl ?_
        exact ⟨rfl, HP0.out, HK0.out.trans HKr.out⟩
      · obtain ⟨b4, o4, e4, _, a4, m4, c4, d4, _, _, y4⟩ := HP0.out.px.m.at' 0 (by omega)
        cases e4
        have hi4 : (nM : Int) > 0 := by omega
        have hI4 : (0 : Int) < (nM : Int) := by omega
        rw [Nat.add_zero] at d4
        clear hn4
        by_cases hm4 : m4 = 0
        · have hj4 : ¬ (m4 : Int) > 0 := by omega
          clear hm4 y4
          go_wp2
          clear x0 x1 x2 x3 x4 x5 x6 x7
          refine bodyPost_end (results_none rfl _ _ _) rfl ?_
          exact ⟨rfl, HP0.out, HK0.out.trans HKr.out⟩
        · have hj4 : (m4 : Int) > 0 := by omega
          have hJ4 : (0 : Int) < (m4 : Int) := by omega
          obtain ⟨b4', o4', e4', hd4, _, ⟨z4, g4⟩, f4⟩ := y4.at' 0 (by omega)
          cases e4'
          rw [Nat.add_zero] at g4 f4
          have HP4 : Hid (OvX (w0.setCell ⟨b4', o4', none⟩ (.int .i64 0)) D ⟨aN, aO, (some ⟨b4, o4, none⟩), aP, aB, cN, cO, cM, cP, cB⟩ nN nO nM nP nB aw nw) := hid0 (HP0.out.setI g4 0)
          have HK4 : Hid (Kpd w0 (w0.setCell ⟨b4', o4', none⟩ (.int .i64 0)) D) := hid0 (HKr.out.trans (Kpd.set _ hd4 _ _))
          clear hm4 y4
          go_wp2
          clear x0 x1 x2 x3 x4 x5 x6 x7 d4 g4 f4
          refine bodyPost_end (results_none rfl _ _ _) rfl ?_
          exact ⟨rfl, HP4.out, HK0.out.trans HK4.out⟩
    · obtain ⟨b2, o2, e2, _, a2, m2, c2, d2, _, _, y2⟩ := HP0.out.px.o.at' 0 (by omega)
      cases e2
      have hi2 : (nO : Int) > 0 := by omega
      have hI2 : (0 : Int) < (nO : Int) := by omega
      rw [Nat.add_zero] at d2
      clear hn2
      by_cases hm2 : m2 = 0
      · have hj2 : ¬ (m2 : Int) > 0 := by omega
        clear hm2 y2
        go_upto_region 5 with (fail)
        clear x0 x1 x2 x3 x4 x5 x6 x7
        obtain ⟨⟨x0, x1, x2, x3⟩, x4, x5, x6, x7⟩ := HC.out w0 HKr.out
        by_cases hn4 : nM = 0
        · have hi4 : ¬ (nM : Int) > 0 := by omega
          clear hn4
          go_wp2
          clear x0 x1 x2 x3 x4 x5 x6 x7
          refine bodyPost_end (results_none rfl _ _ _) rfl ?_
          exact ⟨rfl, HP0.out, HK0.out.trans HKr.out⟩
        · obtain ⟨b4, o4, e4, _, a4, m4, c4, d4, _, _, y4⟩ := HP0.out.px.m.at' 0 (by omega)
          cases e4
          have hi4 : (nM : Int) > 0 := by omega
          have hI4 : (0 : Int) < (nM : Int) := by omega
          rw [Nat.add_zero] at d4
          clear hn4
          by_cases hm4 : m4 = 0
          · have hj4 : ¬ (m4 : Int) > 0 := by omega
            clear hm4 y4
            go_wp2
            clear x0 x1 x2 x3 x4 x5 x6 x7
            refine bodyPost_end (results_none rfl _ _ _) rfl ?_
            exact ⟨rfl, HP0.out, HK0.out.trans HKr.out⟩
          · have hj4 : (m4 : Int) > 0 := by omega
            have hJ4 : (0 : Int) < (m4 : Int) := by omega
            obtain ⟨b4', o4', e4', hd4, _, ⟨z4, g4⟩, f4⟩ := y4.at' 0 (by omega)
            cases e4'
            rw [Nat.add_zero] at g4 f4
            have HP4 : Hid (OvX (w0.setCell ⟨b4', o4', none⟩ (.int .i64 0)) D ⟨aN, (some ⟨b2, o2, none⟩), (some ⟨b4, o4, none⟩), aP, aB, cN, cO, cM, cP, cB⟩ nN nO nM nP nB aw nw) := hid0 (HP0.out.setI g4 0)
            have HK4 : Hid (Kpd w0 (w0.setCell ⟨b4', o4', none⟩ (.int .i64 0)) D) := hid0 (HKr.out.trans (Kpd.set _ hd4 _ _))
            clear hm4 y4
            go_wp2
            clear x0 x1 x2 x3 x4 x5 x6 x7 d4 g4 f4
            refine bodyPost_end (results_none rfl _ _ _) rfl ?_
            exact ⟨rfl, HP4.out, HK0.out.trans HK4.out⟩
      · have hj2 : (m2 : Int) > 0 := by omega
        have hJ2 : (0 : Int) < (m2 : Int) := by omega
        obtain ⟨b2', o2', e2', hd2, _, ⟨z2, g2⟩, f2⟩ := y2.at' 0 (by omega)
        cases e2'
        rw [Nat.add_zero] at g2 f2
        have HP2 : Hid (OvX (w0.setCell ⟨b2', o2', none⟩ (.int .i64 0)) D ⟨aN, (some ⟨b2, o2, none⟩), aM, aP, aB, cN, cO, cM, cP, cB⟩ nN nO nM nP nB aw nw) := hid0 (HP0.out.setI g2 0)
        have HK2 : Hid (Kpd w0 (w0.setCell ⟨b2', o2', none⟩ (.int .i64 0)) D) := hid0 (HKr.out.trans (Kpd.set _ hd2 _ _))
        clear hm2 y2
        go_upto_region 5 with (fail)
        clear x0 x1 x2 x3 x4 x5 x6 x7 d2 g2 f2
        generalize (w0.setCell ⟨b2', o2', none⟩ (.int .i64 0)) = V2 at *
        obtain ⟨⟨x0, x1, x2, x3⟩, x4, x5, x6, x7⟩ := HC.out V2 HK2.out
        by_cases hn4 : nM = 0
        · have hi4 : ¬ (nM : Int) > 0 := by omega
          clear hn4
          go_wp2
          clear x0 x1 x2 x3 x4 x5 x6 x7
          refine bodyPost_end (results_none rfl _ _ _) rfl ?_
          exact ⟨rfl, HP2.out, HK0.out.trans HK2.out⟩
        · obtain ⟨b4, o4, e4, _, a4, m4, c4, d4, _, _, y4⟩ := HP2.out.px.m.at' 0 (by omega)
          cases e4
          have hi4 : (nM : Int) > 0 := by omega
          have hI4 : (0 : Int) < (nM : Int) := by omega
          rw [Nat.add_zero] at d4
          clear hn4
          by_cases hm4 : m4 = 0
          · have hj4 : ¬ (m4 : Int) > 0 := by omega
            clear hm4 y4
            go_wp2
            clear x0 x1 x2 x3 x4 x5 x6 x7
            refine bodyPost_end (results_none rfl _ _ _) rfl ?_
            exact ⟨rfl, HP2.out, HK0.out.trans HK2.out⟩
          · have hj4 : (m4 : Int) > 0 := by omega
            have hJ4 : (0 : Int) < (m4 : Int) := by omega
            obtain ⟨b4', o4', e4', hd4, _, ⟨z4, g4⟩, f4⟩ := y4.at' 0 (by omega)
            cases e4'
            rw [Nat.add_zero] at g4 f4
            have HP4 : Hid (OvX (V2.setCell ⟨b4', o4', none⟩ (.int .i64 0)) D ⟨aN, (some ⟨b2, o2, none⟩), (some ⟨b4, o4, none⟩), aP, aB, cN, cO, cM, cP, cB⟩ nN nO nM nP nB aw nw) := hid0 (HP2.out.setI g4 0)
            have HK4 : Hid (Kpd w0 (V2.setCell ⟨b4', o4', none⟩ (.int .i64 0)) D) := hid0 (HK2.out.trans (Kpd.set _ hd4 _ _))
            clear hm4 y4
            go_wp2
            clear x0 x1 x2 x3 x4 x5 x6 x7 d4 g4 f4
            refine bodyPost_end (results_none rfl _ _ _) rfl ?_
            exact ⟨rfl, HP4.out, HK0.out.trans HK4.out⟩
  obtain ⟨b1, o1, eB, hd1, _, ⟨z1, d1⟩, f1⟩ := HP0.out.px.b.at' 0 (by omega)
  cases eB
  have hiB : (nB : Int) > 0 := by omega
  have hIB : (0 : Int) < (nB : Int) := by omega
  clear hnB
  rw [Nat.add_zero] at d1 f1
  have HP1 : Hid (OvX ((w0.setCell ⟨b1, o1, none⟩ (.bool (!z1))).drew) D ⟨aN, aO, aM, aP, (some ⟨b1, o1, none⟩), cN, cO, cM, cP, cB⟩ nN nO nM nP nB aw nw) := hid0 ((HP0.out.setB d1 (!z1)).past ⟨rfl, rfl, rfl, Nat.le_refl _, fun _ _ => rfl⟩)
  have HK1 : Hid (Kpd w0 ((w0.setCell ⟨b1, o1, none⟩ (.bool (!z1))).drew) D) := hid0 ((Kpd.set w0 hd1 o1 (.bool (!z1))).trans ⟨rfl, rfl, rfl, Nat.le_refl _, fun _ _ _ => rfl⟩)
  have HX6 : Hid ((fun V => V.cell? ⟨w.heap.size, 6, none⟩ = some (.slice (some ⟨b1, o1, none⟩) nB cB)) ((w0.setCell ⟨b1, o1, none⟩ (.bool (!z1))).drew)) := hid0 (HC.out _ HK1.out).2.2.2.1
  have d1' : w0.drew.cell? ⟨b1, o1, none⟩ = some (.bool z1) := d1
  have f1' : w0.drew.frozen? ⟨b1, o1, none⟩ = false := f1
  go_upto_region 2 with (fail)
  refine wp_region_noPanic ?_
  refine wp_region_held_drew (S := (fun V => V.cell? ⟨w.heap.size, 6, none⟩ = some (.slice (some ⟨b1, o1, none⟩) nB cB))) (by kernel_rfl) ?_ (fun hHeld => ?_)
  · exact x6
  refine tkV (i := 0) (d := some 6) (v := ?_) rfl (by kernel_rfl) (by kernel_rfl) (by kernel_rfl) rfl (fun _ _ _ h => h) (by rfl) ?_ (by assumption) ?_
  rotate_left
  · (intro w hSw; (try dsimp only at hSw); (try simp only [List.getElem_toArray, List.getElem_cons_zero]); go_simp; try with_reducible rfl)
  try simp only [Act.put, List.setIfInBounds_toArray, List.set_cons_zero, List.set_cons_succ]
  refine tkV (i := 1) (d := some 7) (v := ?_) rfl (by kernel_rfl) (by kernel_rfl) (by kernel_rfl) rfl (fun _ _ _ h => h) (by rfl) ?_ (by assumption) ?_
  rotate_left
  · (intro w hSw; (try dsimp only at hSw); (try simp only [List.getElem_toArray, List.getElem_cons_zero, List.getElem_cons_succ]); go_simp; try with_reducible rfl)
  try simp only [Act.put, List.setIfInBounds_toArray, List.set_cons_zero, List.set_cons_succ]
  refine tkV (i := 2) (d := some 8) (v := ?_) rfl (by kernel_rfl) (by kernel_rfl) (by kernel_rfl) rfl (fun _ _ _ h => h) (by rfl) ?_ (by assumption) ?_
  rotate_left
  · (intro w hSw; (try dsimp only at hSw); (try simp only [List.getElem_toArray, List.getElem_cons_zero, List.getElem_cons_succ]); go_simp; try with_reducible rfl)
  try simp only [Act.put, List.setIfInBounds_toArray, List.set_cons_zero, List.set_cons_succ]
  refine tkV (i := 3) (d := some 9) (v := ?_) rfl (by kernel_rfl) (by kernel_rfl) (by kernel_rfl) rfl (fun _ _ _ h => h) (by rfl) ?_ (by assumption) ?_
  rotate_left
  · (intro w hSw; (try dsimp only at hSw); (try simp only [List.getElem_toArray, List.getElem_cons_zero, List.getElem_cons_succ]); go_simp; try with_reducible rfl)
  try simp only [Act.put, List.setIfInBounds_toArray, List.set_cons_zero, List.set_cons_succ]
  refine tkV (i := 4) (d := some 10) (v := ?_) rfl (by kernel_rfl) (by kernel_rfl) (by kernel_rfl) rfl (fun _ _ _ h => h) (by rfl) ?_ (by assumption) ?_
  rotate_left
  · (intro w hSw; (try dsimp only at hSw); (try simp only [List.getElem_toArray, List.getElem_cons_zero, List.getElem_cons_succ]); go_simp; try with_reducible rfl)
  try simp only [Act.put, List.setIfInBounds_toArray, List.set_cons_zero, List.set_cons_succ]
  refine wpAnyH_ready (rs := [5]) (by kernel_rfl) (by simp) (AllReadyH.cons rfl (fun K hK => ?_) AllReadyH.nil)
  try simp only [List.getElem_toArray, List.getElem_cons_zero, List.getElem_cons_succ]
  go_simp
  refine hK.out _ _ ?_ (fun hHeld5 => ?_)
  · exact x6
  clear hK K
  (try simp only [Act.put]); (try simp only [List.setIfInBounds_toArray]); (try simp only [List.set_cons_succ]); (try simp only [List.set_cons_zero])
  refine tkV (i := 6) (d := some 12) (v := ?_) rfl (by kernel_rfl) (by kernel_rfl) (by kernel_rfl) rfl (fun _ _ _ h => h) (by rfl) ?_ (by assumption) ?_
  rotate_left
  · (intro w hSw; (try dsimp only at hSw); (try simp only [List.getElem_toArray, List.getElem_cons_zero, List.getElem_cons_succ]); go_simp; try with_reducible rfl)
  try simp only [Act.put, List.setIfInBounds_toArray, List.set_cons_zero, List.set_cons_succ]
  refine tkV (i := 7) (d := some 13) (v := ?_) rfl (by kernel_rfl) (by kernel_rfl) (by kernel_rfl) rfl (fun _ _ _ h => h) (by rfl) ?_ (by assumption) ?_
  rotate_left
  · (intro w hSw; (try dsimp only at hSw); (try simp only [List.getElem_toArray, List.getElem_cons_zero, List.getElem_cons_succ]); go_simp; try with_reducible rfl)
  try simp only [Act.put, List.setIfInBounds_toArray, List.set_cons_zero, List.set_cons_succ]
  refine wpAnyH_ready (rs := [8]) (by kernel_rfl) (by simp) (AllReadyH.cons rfl (fun K hK => ?_) AllReadyH.nil)
  try simp only [List.getElem_toArray, List.getElem_cons_zero, List.getElem_cons_succ]
  go_simp
  refine hK.out _ _ ?_ (fun hHeld8 => ?_)
  · exact HX6.out
  clear hK K
  (try simp only [Act.put]); (try simp only [List.setIfInBounds_toArray]); (try simp only [List.set_cons_succ]); (try simp only [List.set_cons_zero])
  refine wpAnyH_done (by kernel_rfl) ?_ _
  refine NoPanic.normal ?_
  clear hHeld hHeld5 hHeld8 x0 x1 x2 x3 x4 x5 x6 x7 d1 d1' f1 f1' HX6
  generalize ((w0.setCell ⟨b1, o1, none⟩ (.bool (!z1))).drew) = V1 at *
  go_upto_region 3 with (fail)
  obtain ⟨⟨x0, x1, x2, x3⟩, x4, x5, x6, x7⟩ := HC.out V1 HK1.out
  by_cases hn2 : nO = 0
  · have hi2 : ¬ (nO : Int) > 0 := by omega
    clear hn2
    go_upto_region 5 with (fail)
    clear x0 x1 x2 x3 x4 x5 x6 x7
    obtain ⟨⟨x0, x1, x2, x3⟩, x4, x5, x6, x7⟩ := HC.out V1 HK1.out
    by_cases hn4 : nM = 0
    · have hi4 : ¬ (nM : Int) > 0 := by omega
      clear hn4
      go_wp2
      clear x0 x1 x2 x3 x4 x5 x6 x7
      refine bodyPost_end (results_none rfl _ _ _) rfl ?_
      exact ⟨rfl, HP1.out, HK0.out.trans HK1.out⟩
    · obtain ⟨b4, o4, e4, _, a4, m4, c4, d4, _, _, y4⟩ := HP1.out.px.m.at' 0 (by omega)
      cases e4
      have hi4 : (nM : Int) > 0 := by omega
      have hI4 : (0 : Int) < (nM : Int) := by omega
      rw [Nat.add_zero] at d4
      clear hn4
      by_cases hm4 : m4 = 0
      · have hj4 : ¬ (m4 : Int) > 0 := by omega
        clear hm4 y4
        go_wp2
        clear x0 x1 x2 x3 x4 x5 x6 x7
        refine bodyPost_end (results_none rfl _ _ _) rfl ?_
        exact ⟨rfl, HP1.out, HK0.out.trans HK1.out⟩
      · have hj4 : (m4 : Int) > 0 := by omega
        have hJ4 : (0 : Int) < (m4 : Int) := by omega
        obtain ⟨b4', o4', e4', hd4, _, ⟨z4, g4⟩, f4⟩ := y4.at' 0 (by omega)
        cases e4'
        rw [Nat.add_zero] at g4 f4
        have HP4 : Hid (OvX (V1.setCell ⟨b4', o4', none⟩ (.int .i64 0)) D ⟨aN, aO, (some ⟨b4, o4, none⟩), aP, (some ⟨b1, o1, none⟩), cN, cO, cM, cP, cB⟩ nN nO nM nP nB aw nw) := hid0 (HP1.out.setI g4 0)
        have HK4 : Hid (Kpd w0 (V1.setCell ⟨b4', o4', none⟩ (.int .i64 0)) D) := hid0 (HK1.out.trans (Kpd.set _ hd4 _ _))
        clear hm4 y4
        go_wp2
        clear x0 x1 x2 x3 x4 x5 x6 x7 d4 g4 f4
        refine bodyPost_end (results_none rfl _ _ _) rfl ?_
        exact ⟨rfl, HP4.out, HK0.out.trans HK4.out⟩
  · obtain ⟨b2, o2, e2, _, a2, m2, c2, d2, _, _, y2⟩ := HP1.out.px.o.at' 0 (by omega)
    cases e2
    have hi2 : (nO : Int) > 0 := by omega
    have hI2 : (0 : Int) < (nO : Int) := by omega
    rw [Nat.add_zero] at d2
    clear hn2
    by_cases hm2 : m2 = 0
    · have hj2 : ¬ (m2 : Int) > 0 := by omega
      clear hm2 y2
      go_upto_region 5 with (fail)
      clear x0 x1 x2 x3 x4 x5 x6 x7
      obtain ⟨⟨x0, x1, x2, x3⟩, x4, x5, x6, x7⟩ := HC.out V1 HK1.out
      by_cases hn4 : nM = 0
      · have hi4 : ¬ (nM : Int) > 0 := by omega
        clear hn4
        go_wp2
        clear x0 x1 x2 x3 x4 x5 x6 x7
        refine bodyPost_end (results_none rfl _ _ _) rfl ?_
        exact ⟨rfl, HP1.out, HK0.out.trans HK1.out⟩
      · obtain ⟨b4, o4, e4, _, a4, m4, c4, d4, _, _, y4⟩ := HP1.out.px.m.at' 0 (by omega)
        cases e4
        have hi4 : (nM : Int) > 0 := by omega
        have hI4 : (0 : Int) < (nM : Int) := by omega
        rw [Nat.add_zero] at d4
        clear hn4
        by_cases hm4 : m4 = 0
        · have hj4 : ¬ (m4 : Int) > 0 := by omega
          clear hm4 y4
          go_wp2
          clear x0 x1 x2 x3 x4 x5 x6 x7
          refine bodyPost_end (results_none rfl _ _ _) rfl ?_
          exact ⟨rfl, HP1.out, HK0.out.trans HK1.out⟩
        · have hj4 : (m4 : Int) > 0 := by omega
          have hJ4 : (0 : Int) < (m4 : Int) := by omega
          obtain ⟨b4', o4', e4', hd4, _, ⟨z4, g4⟩, f4⟩ := y4.at' 0 (by omega)
          cases e4'
          rw [Nat.add_zero] at g4 f4
          have HP4 : Hid (OvX (V1.setCell ⟨b4', o4', none⟩ (.int .i64 0)) D ⟨aN, (some ⟨b2, o2, none⟩), (some ⟨b4, o4, none⟩), aP, (some ⟨b1, o1, none⟩), cN, cO, cM, cP, cB⟩ nN nO nM nP nB aw nw) := hid0 (HP1.out.setI g4 0)
          have HK4 : Hid (Kpd w0 (V1.setCell ⟨b4', o4', none⟩ (.int .i64 0)) D) := hid0 (HK1.out.trans (Kpd.set _ hd4 _ _))
          clear hm4 y4
          go_wp2
          clear x0 x1 x2 x3 x4 x5 x6 x7 d4 g4 f4
          refine bodyPost_end (results_none rfl _ _ _) rfl ?_
          exact ⟨rfl, HP4.out, HK0.out.trans HK4.out⟩
    · have hj2 : (m2 : Int) > 0 := by omega
      have hJ2 : (0 : Int) < (m2 : Int) := by omega
      obtain ⟨b2', o2', e2', hd2, _, ⟨z2, g2⟩, f2⟩ := y2.at' 0 (by omega)
      cases e2'
      rw [Nat.add_zero] at g2 f2
      have HP2 : Hid (OvX (V1.setCell ⟨b2', o2', none⟩ (.int .i64 0)) D ⟨aN, (some ⟨b2, o2, none⟩), aM, aP, (some ⟨b1, o1, none⟩), cN, cO, cM, cP, cB⟩ nN nO nM nP nB aw nw) := hid0 (HP1.out.setI g2 0)
      have HK2 : Hid (Kpd w0 (V1.setCell ⟨b2', o2', none⟩ (.int .i64 0)) D) := hid0 (HK1.out.trans (Kpd.set _ hd2 _ _))
      clear hm2 y2
      go_upto_region 5 with (fail)
      clear x0 x1 x2 x3 x4 x5 x6 x7 d2 g2 f2
      generalize (V1.setCell ⟨b2', o2', none⟩ (.int .i64 0)) = V2 at *
      obtain ⟨⟨x0, x1, x2, x3⟩, x4, x5, x6, x7⟩ := HC.out V2 HK2.out
      by_cases hn4 : nM = 0
      · have hi4 : ¬ (nM : Int) > 0 := by omega
        clear hn4
        go_wp2
        clear x0 x1 x2 x3 x4 x5 x6 x7
        refine bodyPost_end (results_none rfl _ _ _) rfl ?_
        exact ⟨rfl, HP2.out, HK0.out.trans HK2.out⟩
      · obtain ⟨b4, o4, e4, _, a4, m4, c4, d4, _, _, y4⟩ := HP2.out.px.m.at' 0 (by omega)
        cases e4
        have hi4 : (nM : Int) > 0 := by omega
        have hI4 : (0 : Int) < (nM : Int) := by omega
        rw [Nat.add_zero] at d4
        clear hn4
        by_cases hm4 : m4 = 0
        · have hj4 : ¬ (m4 : Int) > 0 := by omega
          clear hm4 y4
          go_wp2
          clear x0 x1 x2 x3 x4 x5 x6 x7
          refine bodyPost_end (results_none rfl _ _ _) rfl ?_
          exact ⟨rfl, HP2.out, HK0.out.trans HK2.out⟩
        · have hj4 : (m4 : Int) > 0 := by omega
          have hJ4 : (0 : Int) < (m4 : Int) := by omega
          obtain ⟨b4', o4', e4', hd4, _, ⟨z4, g4⟩, f4⟩ := y4.at' 0 (by omega)
          cases e4'
          rw [Nat.add_zero] at g4 f4
          have HP4 : Hid (OvX (V2.setCell ⟨b4', o4', none⟩ (.int .i64 0)) D ⟨aN, (some ⟨b2, o2, none⟩), (some ⟨b4, o4, none⟩), aP, (some ⟨b1, o1, none⟩), cN, cO, cM, cP, cB⟩ nN nO nM nP nB aw nw) := hid0 (HP2.out.setI g4 0)
          have HK4 : Hid (Kpd w0 (V2.setCell ⟨b4', o4', none⟩ (.int .i64 0)) D) := hid0 (HK2.out.trans (Kpd.set _ hd4 _ _))
          clear hm4 y4
          go_wp2
          clear x0 x1 x2 x3 x4 x5 x6 x7 d4 g4 f4
          refine bodyPost_end (results_none rfl _ _ _) rfl ?_
          exact ⟨rfl, HP4.out, HK0.out.trans HK4.out⟩
end Go.Proofs.YtilnanefkbdbkaaDoor
namespace Go.Proofs.YtilnanefkbdbkaaDoor
open Go.RowKit Go.Shelf
theorem Sents.kpd {w w' : World} {A : Nat → Addr} {D : Nat → Prop} {lo : Nat} (h : Sents w A) (hk : Kpd w w' D) (hl : ∀ k, D k → lo ≤ k) (hg : ∀ k, k < 11 → (A k).block < lo) (hv : 0 < lo ∧ 1 < lo ∧ 2 < lo ∧ 3 < lo ∧ 4 < lo ∧ 6 < lo ∧ 5 < lo ∧ 7 < lo ∧ 8 < lo ∧ 9 < lo ∧ 10 < lo) : Sents w' A := by
  have key : ∀ {b : Nat} {u : Value}, b < lo → w.cell? ⟨b, 0, none⟩ = some u → w'.cell? ⟨b, 0, none⟩ = some u := fun hb hc => hk.cell (fun hd => absurd (hl _ hd) (by omega)) hc
  obtain ⟨v0, v1, v2, v3, v4, v5, v6, v7, v8, v9, v10⟩ := hv
  exact ⟨key v0 h.c0, key v1 h.c1, key v2 h.c2, key v3 h.c3, key v4 h.c4, key v5 h.c5, key v6 h.c6, key v7 h.c7, key v8 h.c8, key v9 h.c9, key v10 h.c10, h.ne, fun i hi => by
    obtain ⟨c, t, hc⟩ := h.blk i hi
    exact ⟨c, t, (hk.oth _ (Array.getElem?_eq_some_iff.1 hc).1 (fun hd => absurd (hl _ hd) (by have := hg i hi; omega))).trans hc⟩⟩
structure Low (A : Nat → Addr) (lo : Nat) : Prop where
  a : ∀ k, k < 11 → (A k).block < lo
  g : 0 < lo ∧ 1 < lo ∧ 2 < lo ∧ 3 < lo ∧ 4 < lo ∧ 6 < lo ∧ 5 < lo ∧ 7 < lo ∧ 8 < lo ∧ 9 < lo ∧ 10 < lo
theorem Sents.low {w : World} {A : Nat → Addr} (h : Sents w A) : Low A w.heap.size := by
  refine ⟨fun k hk => by obtain ⟨c, t, hc⟩ := h.blk k hk; exact (Array.getElem?_eq_some_iff.1 hc).1, ?_⟩
  have key : ∀ {b : Nat} {u : Value}, w.cell? ⟨b, 0, none⟩ = some u → b < w.heap.size := fun hc => World.block_lt_of_cell? w _ hc
  exact ⟨key h.c0, key h.c1, key h.c2, key h.c3, key h.c4, key h.c5, key h.c6, key h.c7, key h.c8, key h.c9, key h.c10⟩
set_option maxRecDepth 10000 in
theorem pick_any (k : Int) (n : Nat) (hn : n ≤ 1125899906842624) (w : World) :
    Calls Tryd.prog 19 #[.int .i64 k, .int .i64 (n : Int)] w fun e w' => ∃ a : Nat, e = .returned (.int .i64 (a : Int)) ∧ a ≤ n ∧ w' = w := by
  by_cases h1 : n < 1
  · go_enter Tryd.func19, Tryd.ntmps19
    go_wp2
    go_ret
    exact ⟨0, rfl, by omega, rfl⟩
  · have hm1 : k.tmod n < n := Int.tmod_lt_of_pos k (by omega)
    have hm2 : -(n : Int) < k.tmod n := by
      have := Int.lt_tmod_of_pos k (show (0 : Int) < n by omega)
      omega
    by_cases h2 : k.tmod n < 0
    · go_enter Tryd.func19, Tryd.ntmps19
      go_wp2
      go_ret
      exact ⟨(k.tmod n + n).toNat, congrArg (fun x => Ending.returned (.int .i64 x)) (by omega), by omega, rfl⟩
    · go_enter Tryd.func19, Tryd.ntmps19
      go_wp2
      go_ret
      exact ⟨(k.tmod n).toNat, congrArg (fun x => Ending.returned (.int .i64 x)) (by omega), by omega, rfl⟩
theorem readsX (A : Nat → Addr) (sl sr sy : Int) (el : Bool) (nN nO nM nP nB nw cN cO cM cP cB cw : Nat) (aN aO aM aP aB aw : Option Addr) (D : Nat → Prop) (w : World) (hx : OvX w D ⟨aN, aO, aM, aP, aB, cN, cO, cM, cP, cB⟩ nN nO nM nP nB aw nw) (hn : nN ≤ 1000000000) (hm : nM ≤ 1000000000) (hb : nB ≤ 1000000000) (hw : nw ≤ 999999000) (he : Sents w A) :
    Calls Tryd.prog 20 #[.agg #[.int .i64 sl, .slice aN nN cN, .slice aO nO cO, .int .i64 sr, .slice aM nM cM, .slice aP nP cP, .slice aB nB cB, .bool el], .int .i64 sy, .slice aw nw cw] w fun e w' => e = .returned (.bool true) ∧ Below w.heap.size w w' := by
  obtain ⟨N, O, M, P, B, rfl, rfl, rfl, rfl, rfl, ha, hs⟩ := hx.px.read sl sr el hn hm hb
  obtain ⟨l, rfl, hl⟩ := hx.xi.read
  exact reads_any A sl sr N O M P B el aN aO aM aP aB cN cO cM cP cB sy l aw cw w hs ha hw hl he
theorem OvX.less {w : World} {D : Nat → Prop} {q : PrL} {nN nO nM nP nB nw : Nat} {aw : Option Addr} (h : OvX w D q nN nO nM nP nB aw nw) {mN mO : Nat} (h1 : mN ≤ nN) (h2 : mO ≤ nO) : OvX w D q mN mO nM nP nB aw nw := ⟨⟨h.px.n.less h1, h.px.o.less h2, h.px.m, h.px.p', h.px.b⟩, h.xi⟩
theorem XI.widen {w : World} {D E : Nat → Prop} {a : Option Addr} {n : Nat} (h : XI w D a n) (he : ∀ k, D k → E k) : XI w E a n := ⟨fun j hj => by
  obtain ⟨b, o, e, hd, r⟩ := h.at' j hj
  exact ⟨b, o, e, he _ hd, r⟩⟩
theorem XB.widen {w : World} {D E : Nat → Prop} {a : Option Addr} {n : Nat} (h : XB w D a n) (he : ∀ k, D k → E k) : XB w E a n := ⟨fun j hj => by
  obtain ⟨b, o, e, hd, r⟩ := h.at' j hj
  exact ⟨b, o, e, he _ hd, r⟩⟩
theorem XR.widen {w : World} {D E : Nat → Prop} {a : Option Addr} {n : Nat} (h : XR w D a n) (he : ∀ k, D k → E k) : XR w E a n := ⟨fun j hj => by
  obtain ⟨b, o, e, hb, a1, n1, c1, h1, h2, h3, h4⟩ := h.at' j hj
  exact ⟨b, o, e, hb, a1, n1, c1, h1, h2, h3, h4.widen he⟩⟩
/-- What was lent, as contents whatever they are. -/
theorem ovx_of {V3 w : World} {lo l1 hi g c G1 G2 G3 G4 g7 d1 d2 d3 d4 c7 : Nat} {N O M P : List (List Int)} {B : List Bool} {l : List Int} {sl sr : Int} {el : Bool} (h : PgK V3 l1 G1 G2 G3 G4 g7 d1 d2 d3 d4 c7 N O M P B) (hl : LW V3 lo g c l) (hs : PrS ⟨sl, N, O, sr, M, P, B, el⟩) (h1 : lo ≤ l1) (h2 : V3.heap.size ≤ hi) (hb : Below V3.heap.size V3 w) : OvX w (fun b => lo ≤ b ∧ b < hi) ⟨some ⟨G1, 0, none⟩, some ⟨G2, 0, none⟩, some ⟨G3, 0, none⟩, some ⟨G4, 0, none⟩, some ⟨g7, 0, none⟩, d1, d2, d3, d4, c7⟩ N.length O.length M.length P.length B.length (some ⟨g, 0, none⟩) l.length := by
  have hp := h.px h2 hs
  have hw : ∀ k, (l1 ≤ k ∧ k < hi) → (lo ≤ k ∧ k < hi) := fun k hk => ⟨by omega, hk.2⟩
  exact OvX.past ⟨⟨hp.n.widen hw, hp.o.widen hw, hp.m.widen hw, hp.p'.widen hw, hp.b.widen hw⟩, hl.xi ⟨hl.lt.1, by have := hl.lt.2; omega⟩⟩ hb
end Go.Proofs.YtilnanefkbdbkaaDoor
namespace Go.Proofs.YtilnanefkbdbkaaDoor
open Go.RowKit Go.Shelf
theorem XI.setO {w : World} {D : Nat → Prop} {a : Option Addr} {n : Nat} (h : XI w D a n) {b0 o0 : Nat} (hd : ¬ D b0) (v : Value) : XI (w.setCell ⟨b0, o0, none⟩ v) D a n := ⟨fun j hj => by
  obtain ⟨b, o, e, hb, h1, ⟨y, h2⟩, h3⟩ := h.at' j hj
  have hne : (⟨b0, o0, none⟩ : Addr) ≠ ⟨b, o + j, none⟩ := fun q => by injection q with q; subst q; exact hd hb
  exact ⟨b, o, e, hb, by rw [set_size]; exact h1, ⟨y, (World.cell?_setCell_other _ _ _ _ hne).trans h2⟩, by rw [frozen_set]; exact h3⟩⟩
theorem XB.setO {w : World} {D : Nat → Prop} {a : Option Addr} {n : Nat} (h : XB w D a n) {b0 o0 : Nat} (hd : ¬ D b0) (v : Value) : XB (w.setCell ⟨b0, o0, none⟩ v) D a n := ⟨fun j hj => by
  obtain ⟨b, o, e, hb, h1, ⟨y, h2⟩, h3⟩ := h.at' j hj
  have hne : (⟨b0, o0, none⟩ : Addr) ≠ ⟨b, o + j, none⟩ := fun q => by injection q with q; subst q; exact hd hb
  exact ⟨b, o, e, hb, by rw [set_size]; exact h1, ⟨y, (World.cell?_setCell_other _ _ _ _ hne).trans h2⟩, by rw [frozen_set]; exact h3⟩⟩
theorem XR.setO {w : World} {D : Nat → Prop} {G n : Nat} (h : XR w D (some ⟨G, 0, none⟩) n) {b0 o0 : Nat} (hd : ¬ D b0) (hg : G ≠ b0) (v : Value) : XR (w.setCell ⟨b0, o0, none⟩ v) D (some ⟨G, 0, none⟩) n := ⟨fun k hk => by
  obtain ⟨b, o, e, h1, a1, n1, c1, h2, h3, h4, h5⟩ := h.at' k hk
  injection e with e
  injection e with e1 e2
  have hne : (⟨b0, o0, none⟩ : Addr) ≠ ⟨b, o + k, none⟩ := fun q => by injection q with q; omega
  exact ⟨b, o, by rw [e1, e2], by rw [set_size]; exact h1, a1, n1, c1, (World.cell?_setCell_other _ _ _ _ hne).trans h2, h3, h4, h5.setO hd v⟩⟩
structure Sd (V W0 : World) (A : Nat → Addr) (Xb Pb lo : Nat) (sy sl sr : Int) (el : Bool) (G1 G2 G3 G4 g7 d1 d2 d3 d4 c7 nN nO nM nP nB g nw : Nat) : Prop where
  x8 : V.cell? ⟨Xb, 8, none⟩ = some (.int .i64 sy)
  row : V.heap[Pb]? = some (.cells #[.int .i64 sl, .slice (some ⟨G1, 0, none⟩) nN d1, .slice (some ⟨G2, 0, none⟩) nO d2, .int .i64 sr, .slice (some ⟨G3, 0, none⟩) nM d3, .slice (some ⟨G4, 0, none⟩) nP d4, .slice (some ⟨g7, 0, none⟩) nB c7, .bool el] 27 (0, 0))
  ov : OvX V (fun b => lo ≤ b ∧ b < Pb) ⟨some ⟨G1, 0, none⟩, some ⟨G2, 0, none⟩, some ⟨G3, 0, none⟩, some ⟨G4, 0, none⟩, some ⟨g7, 0, none⟩, d1, d2, d3, d4, c7⟩ nN nO nM nP nB (some ⟨g, 0, none⟩) nw
  se : Sents V A
  lw : Low A lo
  xl : Xb < lo
  pl : lo ≤ Pb
  gs : G1 ≠ Pb ∧ G2 ≠ Pb ∧ G3 ≠ Pb ∧ G4 ≠ Pb
  bl : Below Xb W0 V
section
variable {V V' W0 : World} {A : Nat → Addr} {Xb Pb lo : Nat} {sy sl sr : Int} {el : Bool} {G1 G2 G3 G4 g7 d1 d2 d3 d4 c7 nN nO nM nP nB g nw : Nat}
theorem Sd.plt (h : Sd V W0 A Xb Pb lo sy sl sr el G1 G2 G3 G4 g7 d1 d2 d3 d4 c7 nN nO nM nP nB g nw) : Pb < V.heap.size := by
  have h := h.row
  rcases Nat.lt_or_ge Pb V.heap.size with h2 | h2
  · exact h2
  · rw [Array.getElem?_eq_none h2] at h; cases h
theorem Sd.past (h : Sd V W0 A Xb Pb lo sy sl sr el G1 G2 G3 G4 g7 d1 d2 d3 d4 c7 nN nO nM nP nB g nw) (hb : Below V.heap.size V V') : Sd V' W0 A Xb Pb lo sy sl sr el G1 G2 G3 G4 g7 d1 d2 d3 d4 c7 nN nO nM nP nB g nw :=
  ⟨(hb.cell (p := ⟨Xb, 8, none⟩) (World.block_lt_of_cell? _ _ h.x8)).trans h.x8, (hb.block _ h.plt).trans h.row, h.ov.past hb, h.se.below hb, h.lw, h.xl, h.pl, h.gs, h.bl.trans (hb.mono (Nat.le_of_lt (World.block_lt_of_cell? _ _ h.x8)))⟩
theorem Sd.kpd (h : Sd V W0 A Xb Pb lo sy sl sr el G1 G2 G3 G4 g7 d1 d2 d3 d4 c7 nN nO nM nP nB g nw) (hk : Kpd V V' (fun b => lo ≤ b ∧ b < Pb)) (ho : OvX V' (fun b => lo ≤ b ∧ b < Pb) ⟨some ⟨G1, 0, none⟩, some ⟨G2, 0, none⟩, some ⟨G3, 0, none⟩, some ⟨G4, 0, none⟩, some ⟨g7, 0, none⟩, d1, d2, d3, d4, c7⟩ nN nO nM nP nB (some ⟨g, 0, none⟩) nw) : Sd V' W0 A Xb Pb lo sy sl sr el G1 G2 G3 G4 g7 d1 d2 d3 d4 c7 nN nO nM nP nB g nw :=
  ⟨hk.cell (fun q => by have := h.xl; have := q.1; omega) h.x8, (hk.oth _ h.plt (fun q => by have := q.2; omega)).trans h.row, ho, h.se.kpd hk (fun _ q => q.1) h.lw.a h.lw.g, h.lw, h.xl, h.pl, h.gs, h.bl.trans ⟨hk.os, hk.tape, hk.output, hk.size, fun k q => hk.oth k (Nat.lt_trans q (World.block_lt_of_cell? _ _ h.x8)) (fun q2 => by have := h.xl; have := q2.1; omega)⟩⟩
theorem Sd.setI (h : Sd V W0 A Xb Pb lo sy sl sr el G1 G2 G3 G4 g7 d1 d2 d3 d4 c7 nN nO nM nP nB g nw) {b o : Nat} {z0 : Int} (hb : lo ≤ b ∧ b < Pb) (hc : V.cell? ⟨b, o, none⟩ = some (.int .i64 z0)) (z : Int) : Sd (V.setCell ⟨b, o, none⟩ (.int .i64 z)) W0 A Xb Pb lo sy sl sr el G1 G2 G3 G4 g7 d1 d2 d3 d4 c7 nN nO nM nP nB g nw := h.kpd (Kpd.set V hb o _) (h.ov.setI hc z)
theorem Sd.less (h : Sd V W0 A Xb Pb lo sy sl sr el G1 G2 G3 G4 g7 d1 d2 d3 d4 c7 nN nO nM nP nB g nw) {m1 m2 : Nat} (h1 : m1 ≤ nN) (h2 : m2 ≤ nO) : Sd ((V.setCell ⟨Pb, 1, none⟩ (.slice (some ⟨G1, 0, none⟩) m1 d1)).setCell ⟨Pb, 2, none⟩ (.slice (some ⟨G2, 0, none⟩) m2 d2)) W0 A Xb Pb lo sy sl sr el G1 G2 G3 G4 g7 d1 d2 d3 d4 c7 m1 m2 nM nP nB g nw := by
  have hn : ¬ (fun b => lo ≤ b ∧ b < Pb) Pb := fun q => by have := q.2; omega
  have hx : ∀ o, (⟨Pb, o, none⟩ : Addr) ≠ ⟨Xb, 8, none⟩ := fun o q => by injection q with q; have := h.xl; have := h.pl; omega
  have hl := h.ov.less h1 h2
  obtain ⟨g1, g2, g3, g4⟩ := h.gs
  refine ⟨?_, heap_setCell_same _ _ 2 _ _ _ (heap_setCell_same _ _ 1 _ _ _ h.row), ?_, ?_, h.lw, h.xl, h.pl, h.gs, (h.bl.setCell (p := ⟨Pb, 1, none⟩) (by have := h.xl; have := h.pl; show Xb ≤ Pb; omega) _).setCell (p := ⟨Pb, 2, none⟩) (by have := h.xl; have := h.pl; show Xb ≤ Pb; omega) _⟩
  · rw [World.cell?_setCell_other _ _ _ _ (hx 2), World.cell?_setCell_other _ _ _ _ (hx 1)]; exact h.x8
  · exact ⟨⟨(hl.px.n.setO hn g1 _).setO hn g1 _, (hl.px.o.setO hn g2 _).setO hn g2 _, (hl.px.m.setO hn g3 _).setO hn g3 _, (hl.px.p'.setO hn g4 _).setO hn g4 _, (hl.px.b.setO hn _).setO hn _⟩, (hl.xi.setO hn _).setO hn _⟩
  · refine h.se.kpd (D := fun b => b = Pb) (lo := lo) ?_ (fun k q => by subst q; exact h.pl) h.lw.a h.lw.g
    exact (Kpd.set V (D := fun b => b = Pb) rfl 1 _).trans (Kpd.set _ (D := fun b => b = Pb) rfl 2 _)
end
end Go.Proofs.YtilnanefkbdbkaaDoor
