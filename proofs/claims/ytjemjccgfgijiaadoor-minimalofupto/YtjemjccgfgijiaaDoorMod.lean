/-
  MiRM, MlRM, MlRW, MlHW, MlIW.
-/
import Derived.Test.YtjemjccgfgijiaaDoorMoc
namespace Go.Proofs.YtjemjccgfgijiaaDoor
open Go.RowKit Go.Shelf
/-- Nothing but blocks of a kind, and new ones, is another. -/
structure Kpd (w w' : World) (D : Nat → Prop) : Prop where
  os : w'.os = w.os
  tape : w'.tape = w.tape
  output : w'.output = w.output
  size : w.heap.size ≤ w'.heap.size
  oth : ∀ k, k < w.heap.size → ¬ D k → w'.heap[k]? = w.heap[k]?
theorem Kpd.refl (w : World) (D : Nat → Prop) : Kpd w w D := ⟨rfl, rfl, rfl, Nat.le_refl _, fun _ _ _ => rfl⟩
theorem Kpd.trans {a b c : World} {D : Nat → Prop} (h : Kpd a b D) (k : Kpd b c D) : Kpd a c D := ⟨k.os.trans h.os, k.tape.trans h.tape, k.output.trans h.output, Nat.le_trans h.size k.size, fun i hi hd => (k.oth i (Nat.lt_of_lt_of_le hi h.size) hd).trans (h.oth i hi hd)⟩
theorem Kpd.of {w w' : World} (h : Below w.heap.size w w') (D : Nat → Prop) : Kpd w w' D := ⟨h.os, h.tape, h.output, h.size, fun k hk _ => h.block k hk⟩
theorem Kpd.drew (w : World) (D : Nat → Prop) : Kpd w w.drew D := ⟨rfl, rfl, rfl, Nat.le_refl _, fun _ _ _ => rfl⟩
theorem Kpd.set (w : World) {D : Nat → Prop} {b : Nat} (hb : D b) (o : Nat) (v : Value) : Kpd w (w.setCell ⟨b, o, none⟩ v) D := ⟨rfl, rfl, rfl, by simp [World.setCell], fun k _ hk => Below.heap_setCell w _ _ k (fun e => hk (by subst e; exact hb))⟩
theorem Kpd.cell {w w' : World} {D : Nat → Prop} (h : Kpd w w' D) {b o : Nat} {u : Value} (hb : ¬ D b) (hc : w.cell? ⟨b, o, none⟩ = some u) : w'.cell? ⟨b, o, none⟩ = some u := (World.cell?_of_block (w := w) (h.oth b (World.block_lt_of_cell? _ _ hc) hb)).trans hc
/-- Such lists: D says in which blocks their numbers lie. -/
structure RwX (w : World) (a : Option Addr) (ns : List Nat) (D : Nat → Prop) : Prop where
  at' : ∀ k (h : k < ns.length), ∃ b off, a = some ⟨b, off, none⟩ ∧ b < w.heap.size ∧ ∃ a1 c1, w.cell? ⟨b, off + k, none⟩ = some (.slice a1 ns[k] c1) ∧ ∀ j, j < ns[k] → ∃ b' o', a1 = some ⟨b', o', none⟩ ∧ D b' ∧ b' < w.heap.size ∧ (∃ z, w.cell? ⟨b', o' + j, none⟩ = some (.int .i64 z)) ∧ ∃ cs t, w.heap[b']? = some (.cells cs t (0, 0))
theorem RwX.later {w w' : World} {a : Option Addr} {ns : List Nat} {D : Nat → Prop} (h : RwX w a ns D) (hb : Below w.heap.size w w') : RwX w' a ns D := ⟨fun k hk => by
  obtain ⟨b, off, rfl, h1, a1, c1, h2, h3⟩ := h.at' k hk
  refine ⟨b, off, rfl, Nat.lt_of_lt_of_le h1 hb.size, a1, c1, (hb.cell (p := ⟨b, off + k, none⟩) h1).trans h2, fun j hj => ?_⟩
  obtain ⟨b', o', e, hd, h4, ⟨z, h5⟩, cs, t, h6⟩ := h3 j hj
  exact ⟨b', o', e, hd, Nat.lt_of_lt_of_le h4 hb.size, ⟨z, (hb.cell (p := ⟨b', o' + j, none⟩) h4).trans h5⟩, cs, t, (hb.block _ h4).trans h6⟩⟩
/-- A number is written over another. -/
theorem RwX.set {w : World} {a : Option Addr} {ns : List Nat} {D : Nat → Prop} (h : RwX w a ns D) {p : Nat} {q : Nat} {z0 : Int} (hp : w.cell? ⟨p, q, none⟩ = some (.int .i64 z0)) (z : Int) : RwX (w.setCell ⟨p, q, none⟩ (.int .i64 z)) a ns D := ⟨fun k hk => by
  obtain ⟨b, off, rfl, h1, a1, c1, h2, h3⟩ := h.at' k hk
  have hsz : (w.setCell ⟨p, q, none⟩ (.int .i64 z)).heap.size = w.heap.size := by simp [World.setCell]
  have hne : (⟨p, q, none⟩ : Addr) ≠ ⟨b, off + k, none⟩ := fun e => by
    rw [← e, hp] at h2
    cases h2
  refine ⟨b, off, rfl, by rw [hsz]; exact h1, a1, c1, (World.cell?_setCell_other _ _ _ _ hne).trans h2, fun j hj => ?_⟩
  obtain ⟨b', o', e, hd, h4, h5, cs, t, h6⟩ := h3 j hj
  refine ⟨b', o', e, hd, by rw [hsz]; exact h4, someInt_setCell h5 _ z, ?_⟩
  by_cases hb : b' = p
  · subst hb
    exact ⟨_, t, heap_setCell_same w b' q _ _ _ h6⟩
  · exact ⟨cs, t, (Below.heap_setCell w _ _ _ hb).trans h6⟩⟩
theorem choose2 {n : Nat} {P : Nat → Int → Prop} (h : ∀ j, j < n → ∃ z, P j z) : ∃ l : List Int, l.length = n ∧ ∀ j (hj : j < l.length), P j l[j] := by
  have h2 : ∀ j, ∃ z, j < n → P j z := fun j => by
    by_cases hj : j < n
    · obtain ⟨z, hz⟩ := h j hj; exact ⟨z, fun _ => hz⟩
    · exact ⟨0, fun q => absurd q hj⟩
  obtain ⟨f, hf⟩ := Classical.axiomOfChoice h2
  refine ⟨(List.range n).map f, by simp, fun j hj => ?_⟩
  have : j < n := by simpa using hj
  simpa using hf j this
theorem choose3 {n : Nat} {P : Nat → List Int → Prop} (h : ∀ j, j < n → ∃ z, P j z) : ∃ l : List (List Int), l.length = n ∧ ∀ j (hj : j < l.length), P j l[j] := by
  have h2 : ∀ j, ∃ z, j < n → P j z := fun j => by
    by_cases hj : j < n
    · obtain ⟨z, hz⟩ := h j hj; exact ⟨z, fun _ => hz⟩
    · exact ⟨[], fun q => absurd q hj⟩
  obtain ⟨f, hf⟩ := Classical.axiomOfChoice h2
  refine ⟨(List.range n).map f, by simp, fun j hj => ?_⟩
  have : j < n := by simpa using hj
  simpa using hf j this
/-- They read as some lists. -/
theorem RwX.read {w : World} {a : Option Addr} {ns : List Nat} {D : Nat → Prop} (h : RwX w a ns D) : ∃ L : List (List Int), L.map List.length = ns ∧ RwA w a L := by
  obtain ⟨L, hl, hL⟩ := choose3 (n := ns.length) (P := fun k r => ∃ (h : k < ns.length) (b off : Nat), r.length = ns[k] ∧ a = some ⟨b, off, none⟩ ∧ b < w.heap.size ∧ ∃ a1 c1, w.cell? ⟨b, off + k, none⟩ = some (.slice a1 ns[k] c1) ∧ IA w a1 r) (fun k hk => by
    obtain ⟨b, off, e, h1, a1, c1, h2, h3⟩ := h.at' k hk
    obtain ⟨r, hr, hP⟩ := choose2 (n := ns[k]) (P := fun j z => ∃ b' o', a1 = some ⟨b', o', none⟩ ∧ b' < w.heap.size ∧ w.cell? ⟨b', o' + j, none⟩ = some (.int .i64 z)) (fun j hj => by
      obtain ⟨b', o', e1, _, h4, ⟨z, h5⟩, _⟩ := h3 j hj
      exact ⟨z, b', o', e1, h4, h5⟩)
    exact ⟨r, hk, b, off, hr, e, h1, a1, c1, h2, ⟨fun j hj => hP j hj⟩⟩)
  refine ⟨L, ?_, ⟨fun k hk => ?_⟩⟩
  · apply List.ext_getElem
    · simpa using hl
    · intro k h1 h2
      obtain ⟨_, _, _, e, _⟩ := hL k (by simpa using h1)
      simpa using e
  · obtain ⟨hk', b, off, e1, e2, h1, a1, c1, h2, h3⟩ := hL k hk
    exact ⟨b, off, e2, h1, a1, c1, by rw [e1]; exact h2, h3⟩
theorem Tz.rwx {w : World} {base G c hi : Nat} {L : List (List Int)} (h : Tz w base G c L) (hh : w.heap.size ≤ hi) : RwX w (some ⟨G, 0, none⟩) (L.map List.length) (fun b => base ≤ b ∧ b < hi) := ⟨fun k hk => by
  have hk' : k < L.length := by simpa using hk
  obtain ⟨g, cg, h1, _, h2, _, h3, h4, h5⟩ := h.row hk'
  refine ⟨G, 0, rfl, h.cap.2.2, some ⟨g, 0, none⟩, cg, by rw [Nat.zero_add, List.getElem_map]; exact h1, fun j hj => ?_⟩
  have hj' : j < L[k].length := by simpa using hj
  obtain ⟨b', o', e, h6, h7⟩ := h2.at' j hj'
  cases e
  refine ⟨g, 0, rfl, ⟨h3, by omega⟩, h4, ⟨_, h7⟩, ?_⟩
  obtain ⟨qs, q1, q2⟩ := h.at'
  obtain ⟨x, hx, ex⟩ := q2.row hk'
  obtain ⟨g', cg', e1, hl, ho⟩ := q1.row x (List.mem_of_getElem? hx)
  have hc := q1.cell q2.len.symm hx
  rw [h1, e1] at hc
  simp only [Option.some.injEq, Value.slice.injEq, Addr.mk.injEq] at hc
  obtain ⟨⟨rfl, _⟩, _⟩ := hc
  obtain ⟨cs, h8⟩ := own_typ ho rfl
  exact ⟨cs, _, h8⟩⟩
/-- What turned leaves. -/
def TurR (w : World) (aN aO : Option Addr) (ns os : List Nat) (D : Nat → Prop) (w' : World) : Prop := RwX w' aN ns D ∧ RwX w' aO os D ∧ Kpd w w' D
end Go.Proofs.YtjemjccgfgijiaaDoor
namespace Go.Proofs.YtjemjccgfgijiaaDoor
open Go.RowKit Go.Shelf
structure RwY (w : World) (a : Option Addr) (ns : List Nat) (D : Nat → Prop) : Prop where
  at' : ∀ k (h : k < ns.length), ∃ b off, a = some ⟨b, off, none⟩ ∧ b < w.heap.size ∧ ∃ a1 c1, w.cell? ⟨b, off + k, none⟩ = some (.slice a1 ns[k] c1) ∧ (a1 = none → c1 = 0) ∧ ∀ j, j < ns[k] → ∃ b' o', a1 = some ⟨b', o', none⟩ ∧ D b' ∧ b' < w.heap.size ∧ (∃ z, w.cell? ⟨b', o' + j, none⟩ = some (.int .i64 z) ∧ z < 9223372036854775808) ∧ ∃ cs t, w.heap[b']? = some (.cells cs t (0, 0))
theorem RwY.later {w w' : World} {a : Option Addr} {ns : List Nat} {D : Nat → Prop} (h : RwY w a ns D) (hb : Below w.heap.size w w') : RwY w' a ns D := ⟨fun k hk => by
  obtain ⟨b, off, rfl, h1, a1, c1, h2, h0, h3⟩ := h.at' k hk
  refine ⟨b, off, rfl, Nat.lt_of_lt_of_le h1 hb.size, a1, c1, (hb.cell (p := ⟨b, off + k, none⟩) h1).trans h2, h0, fun j hj => ?_⟩
  obtain ⟨b', o', e, hd, h4, ⟨z, h5, hz⟩, cs, t, h6⟩ := h3 j hj
  exact ⟨b', o', e, hd, Nat.lt_of_lt_of_le h4 hb.size, ⟨z, (hb.cell (p := ⟨b', o' + j, none⟩) h4).trans h5, hz⟩, cs, t, (hb.block _ h4).trans h6⟩⟩
theorem RwY.set {w : World} {a : Option Addr} {ns : List Nat} {D : Nat → Prop} (h : RwY w a ns D) {p : Nat} {q : Nat} {z0 : Int} (hp : w.cell? ⟨p, q, none⟩ = some (.int .i64 z0)) (z : Int) (hz : z < 9223372036854775808) : RwY (w.setCell ⟨p, q, none⟩ (.int .i64 z)) a ns D := ⟨fun k hk => by
  obtain ⟨b, off, rfl, h1, a1, c1, h2, h0, h3⟩ := h.at' k hk
  have hsz : (w.setCell ⟨p, q, none⟩ (.int .i64 z)).heap.size = w.heap.size := by simp [World.setCell]
  have hne : (⟨p, q, none⟩ : Addr) ≠ ⟨b, off + k, none⟩ := fun e => by
    rw [← e, hp] at h2
    cases h2
  refine ⟨b, off, rfl, by rw [hsz]; exact h1, a1, c1, (World.cell?_setCell_other _ _ _ _ hne).trans h2, h0, fun j hj => ?_⟩
  obtain ⟨b', o', e, hd, h4, ⟨z5, h5, hz5⟩, cs, t, h6⟩ := h3 j hj
  refine ⟨b', o', e, hd, by rw [hsz]; exact h4, ?_, ?_⟩
  · by_cases e2 : (⟨p, q, none⟩ : Addr) = ⟨b', o' + j, none⟩
    · rw [← e2]
      exact ⟨z, World.cell?_setCell_same _ _ _ hp, hz⟩
    · exact ⟨z5, (World.cell?_setCell_other _ _ _ _ e2).trans h5, hz5⟩
  · by_cases hb : b' = p
    · subst hb
      exact ⟨_, t, heap_setCell_same w b' q _ _ _ h6⟩
    · exact ⟨cs, t, (Below.heap_setCell w _ _ _ hb).trans h6⟩⟩
theorem RwY.read {w : World} {a : Option Addr} {ns : List Nat} {D : Nat → Prop} (h : RwY w a ns D) : ∃ L : List (List Int), L.map List.length = ns ∧ RwN w a L ∧ ∀ r ∈ L, ∀ z ∈ r, z < 9223372036854775808 := by
  obtain ⟨L, hl, hL⟩ := choose3 (n := ns.length) (P := fun k r => ∃ (h : k < ns.length) (b off : Nat), r.length = ns[k] ∧ a = some ⟨b, off, none⟩ ∧ b < w.heap.size ∧ ∃ a1 c1, w.cell? ⟨b, off + k, none⟩ = some (.slice a1 ns[k] c1) ∧ IA w a1 r ∧ (a1 = none → c1 = 0) ∧ ∀ z ∈ r, z < 9223372036854775808) (fun k hk => by
    obtain ⟨b, off, e, h1, a1, c1, h2, h0, h3⟩ := h.at' k hk
    obtain ⟨r, hr, hP⟩ := choose2 (n := ns[k]) (P := fun j z => z < 9223372036854775808 ∧ ∃ b' o', a1 = some ⟨b', o', none⟩ ∧ b' < w.heap.size ∧ w.cell? ⟨b', o' + j, none⟩ = some (.int .i64 z)) (fun j hj => by
      obtain ⟨b', o', e1, _, h4, ⟨z, h5, hz⟩, _⟩ := h3 j hj
      exact ⟨z, hz, b', o', e1, h4, h5⟩)
    exact ⟨r, hk, b, off, hr, e, h1, a1, c1, h2, ⟨fun j hj => (hP j hj).2⟩, h0, fun z hz => by
      obtain ⟨j, hj, rfl⟩ := List.getElem_of_mem hz
      exact (hP j hj).1⟩)
  refine ⟨L, ?_, ⟨fun k hk => ?_⟩, fun r hr => ?_⟩
  · apply List.ext_getElem
    · simpa using hl
    · intro k h1 h2
      obtain ⟨_, _, _, e, _⟩ := hL k (by simpa using h1)
      simpa using e
  · obtain ⟨hk', b, off, e1, e2, h1, a1, c1, h2, h3, h4, _⟩ := hL k hk
    exact ⟨b, off, e2, h1, a1, c1, by rw [e1]; exact h2, h3, h4⟩
  · obtain ⟨k, hk, rfl⟩ := List.getElem_of_mem hr
    obtain ⟨_, _, _, _, _, _, _, _, _, _, _, h5⟩ := hL k hk
    exact h5
theorem Tz.rwy {w : World} {base G c hi : Nat} {L : List (List Int)} (h : Tz w base G c L) (hh : w.heap.size ≤ hi) (hz : ∀ r ∈ L, ∀ z ∈ r, z < 9223372036854775808) : RwY w (some ⟨G, 0, none⟩) (L.map List.length) (fun b => base ≤ b ∧ b < hi) := ⟨fun k hk => by
  have hk' : k < L.length := by simpa using hk
  obtain ⟨g, cg, h1, _, h2, _, h3, h4, h5⟩ := h.row hk'
  refine ⟨G, 0, rfl, h.cap.2.2, some ⟨g, 0, none⟩, cg, by rw [Nat.zero_add, List.getElem_map]; exact h1, (fun e => by cases e), fun j hj => ?_⟩
  have hj' : j < L[k].length := by simpa using hj
  obtain ⟨b', o', e, h6, h7⟩ := h2.at' j hj'
  cases e
  refine ⟨g, 0, rfl, ⟨h3, by omega⟩, h4, ⟨_, h7, hz _ (List.getElem_mem hk') _ (List.getElem_mem hj')⟩, ?_⟩
  obtain ⟨qs, q1, q2⟩ := h.at'
  obtain ⟨x, hx, ex⟩ := q2.row hk'
  obtain ⟨g', cg', e1, hl, ho⟩ := q1.row x (List.mem_of_getElem? hx)
  have hc := q1.cell q2.len.symm hx
  rw [h1, e1] at hc
  simp only [Option.some.injEq, Value.slice.injEq, Addr.mk.injEq] at hc
  obtain ⟨⟨rfl, _⟩, _⟩ := hc
  obtain ⟨cs, h8⟩ := own_typ ho rfl
  exact ⟨cs, _, h8⟩⟩
/-- What turned leaves. -/
def TurY (w : World) (aN aO : Option Addr) (ns os : List Nat) (D : Nat → Prop) (w' : World) : Prop := RwY w' aN ns D ∧ RwY w' aO os D ∧ Kpd w w' D
end Go.Proofs.YtjemjccgfgijiaaDoor
namespace Go.Proofs.YtjemjccgfgijiaaDoor
open Go.RowKit Go.Shelf
set_option maxRecDepth 10000 in
set_option maxHeartbeats 1600000 in
theorem turnedY_any (st : Int) (ns os : List Nat) (aN aO : Option Addr) (cN cO : Nat) (D : Nat → Prop) (w : World) (hD : ∀ k, D k → k < w.heap.size) (hn : ns.length ≤ 2200000) (hnr : ∀ n ∈ ns, n ≤ 2200000) (hor : ∀ n ∈ os, n ≤ 2200000) (hol : os.length ≤ 2200000) (hN : RwY w aN ns D) (hO : RwY w aO os D) :
    Calls Tryd.prog 26 #[.agg #[.int .i64 st, .slice aN ns.length cN, .slice aO os.length cO]] w fun e w' => e = .returned (.tuple #[]) ∧ TurY w aN aO ns os D w' := by
  obtain ⟨w0, hw0⟩ : ∃ w0, w0 = w.alloc (.cells #[.int .i64 st, .slice aN ns.length cN, .slice aO os.length cO] 24) := ⟨_, rfl⟩
  have hB0 : Below w.heap.size w w0 := by rw [hw0]; exact (Below.refl _ _).alloc (Nat.le_refl _) _
  have hX0 : w0.heap[w.heap.size]? = some (.cells #[.int .i64 st, .slice aN ns.length cN, .slice aO os.length cO] 24 (0, 0)) := by rw [hw0]; exact heap_alloc_new w _
  have hXD : ¬ D w.heap.size := fun h => absurd (hD _ h) (Nat.lt_irrefl _)
  have HX : Hid (∀ V : World, Kpd w0 V D → V.cell? ⟨w.heap.size, 1, none⟩ = some (.slice aN ns.length cN) ∧ V.cell? ⟨w.heap.size, 2, none⟩ = some (.slice aO os.length cO)) := hid0 (fun V hV => by
    obtain ⟨_, h1, h2⟩ := row3c hX0
    exact ⟨hV.cell hXD h1, hV.cell hXD h2⟩)
  have HN0 := hid0 (hN.later hB0)
  have HO0 := hid0 (hO.later hB0)
  have HK0 : Hid (Kpd w w0 D) := hid0 (Kpd.of hB0 D)
  have HNr := hid0 hnr
  have HOr := hid0 hor
  obtain ⟨x0, y0⟩ := HX.out w0 (Kpd.refl _ _)
  have hfold := hw0.symm
  clear hw0 hB0 hX0 hN hO hnr hor
  go_enter Tryd.func26, Tryd.ntmps26
  go_wp2
  clear hfold x0 y0
  go_loopw [2] (fun iv wr => ∃ i : Nat, i ≤ ns.length ∧ iv = .int .i64 (i : Int) ∧ Hid (RwY wr aN ns D) ∧ Hid (RwY wr aO os D) ∧ Hid (Kpd w0 wr D)) (fun iv _ => ns.length - (intOf iv).toNat)
  case atStart => exact ⟨0, Nat.zero_le _, rfl, HN0, HO0, hid0 (Kpd.refl _ _)⟩
  case round =>
    obtain ⟨i, hi, rfl, HN, HO, HK⟩ := hrel
    obtain ⟨x1, x2⟩ := HX.out wr HK.out
    by_cases hil : i < ns.length
    · have hiI : (i : Int) < (ns.length : Int) := by omega
      have hiI0 : (0 : Int) ≤ (i : Int) := by omega
      have hnz : ¬ (ns.length : Int) = 0 := by omega
      have hnz2 : ¬ ns = [] := fun e => by subst e; exact absurd hil (Nat.not_lt_zero _)
      obtain ⟨n, hn'⟩ : ∃ n, n = ns[i] := ⟨_, rfl⟩
      have hnb : n ≤ 2200000 := by rw [hn']; exact HNr.out _ (List.getElem_mem hil)
      have HNi := hid0 hn'
      clear hn'
      go_wp2
      clear x1 x2
      go_loopw [3] (fun kv wr => ∃ k : Nat, k ≤ n ∧ kv = .int .i64 (k : Int) ∧ Hid (RwY wr aN ns D) ∧ Hid (RwY wr aO os D) ∧ Hid (Kpd w0 wr D)) (fun kv _ => n - (intOf kv).toNat)
      case atStart => exact ⟨0, Nat.zero_le _, rfl, HN, HO, HK⟩
      case round =>
        clear HN HO HK
        obtain ⟨k, hk, rfl, HN, HO, HK⟩ := hrel
        obtain ⟨x1, x2⟩ := HX.out wr HK.out
        obtain ⟨b, off, rfl, _, a1, c1, d1, h0z, hj⟩ := HN.out.at' i hil
        clear h0z
        rw [← HNi.out] at d1 hj
        by_cases hkn : k < n
        · have hkI : (k : Int) < (n : Int) := by omega
          have hkI0 : (0 : Int) ≤ (k : Int) := by omega
          obtain ⟨b', o', rfl, hd, _, ⟨z0, e0, _⟩, cs, t, hbl⟩ := hj k hkn
          have hfz : wr.frozen? ⟨b', o' + k, none⟩ = false := by simp [World.frozen?, hbl]
          obtain ⟨z1, hz1⟩ : ∃ z1, z1 = Int.tmod (k : Int) (ns.length : Int) := ⟨_, rfl⟩
          have hzb : z1 < 9223372036854775808 := by
            have e : Int.tmod (k : Int) (ns.length : Int) = ((k % ns.length : Nat) : Int) := by rw [Int.tmod_eq_emod_of_nonneg (by omega)]; rfl
            have := Nat.mod_le k ns.length
            rw [hz1, e]
            omega
          have HN2 := hid0 ((HN.out.later (w' := wr.drew) ⟨rfl, rfl, rfl, Nat.le_refl _, fun _ _ => rfl⟩).set (p := b') (q := o' + k) e0 z1 hzb)
          have HO2 := hid0 ((HO.out.later (w' := wr.drew) ⟨rfl, rfl, rfl, Nat.le_refl _, fun _ _ => rfl⟩).set (p := b') (q := o' + k) e0 z1 hzb)
          clear hzb
          have HK2 : Hid (Kpd w0 (wr.drew.setCell ⟨b', o' + k, none⟩ (.int .i64 z1)) D) := hid0 ((HK.out.trans (Kpd.drew _ _)).trans (Kpd.set _ hd _ _))
          have HS2 : Hid ((wr.drew.setCell ⟨b', o' + k, none⟩ (.int .i64 z1)).cell? ⟨w.heap.size, 1, none⟩ = some (.slice (some ⟨b, off, none⟩) ns.length cN) ∧ (wr.drew.setCell ⟨b', o' + k, none⟩ (.int .i64 z1)).cell? ⟨b, off + i, none⟩ = some (.slice (some ⟨b', o', none⟩) n c1)) := hid0 (by
            refine ⟨(HX.out _ HK2.out).1, (World.cell?_setCell_other _ _ _ _ (fun e => ?_)).trans d1⟩
            rw [← e] at d1
            rw [e0] at d1
            cases d1)
          have hz1' := hz1.symm
          clear hj hbl HN HO HK hz1
          go_wp2
          refine wp_region_noPanic ?_
          refine wp_region_held_drew (S := (fun V => V.cell? ⟨w.heap.size, 1, none⟩ = some (.slice (some ⟨b, off, none⟩) ns.length cN) ∧ V.cell? ⟨b, off + i, none⟩ = some (.slice (some ⟨b', o', none⟩) n c1))) (by kernel_rfl) ?_ (fun hHeld => ?_)
          · exact ⟨x1, d1⟩
          refine tkV (i := 0) (d := some 23) (v := ?_) rfl (by kernel_rfl) (by kernel_rfl) (by kernel_rfl) rfl (fun _ _ _ h => h) (by rfl) ?_ (by assumption) ?_
          rotate_left
          · (intro w hSw; (try dsimp only at hSw); (try simp only [List.getElem_toArray, List.getElem_cons_zero]); go_simp; try with_reducible rfl)
          try simp only [Act.put, List.setIfInBounds_toArray, List.set_cons_zero, List.set_cons_succ]
          refine tkV (i := 1) (d := some 24) (v := ?_) rfl (by kernel_rfl) (by kernel_rfl) (by kernel_rfl) rfl (fun _ _ _ h => h) (by rfl) ?_ (by assumption) ?_
          rotate_left
          · (intro w hSw; (try dsimp only at hSw); (try simp only [List.getElem_toArray, List.getElem_cons_zero, List.getElem_cons_succ]); go_simp; try with_reducible rfl)
          try simp only [Act.put, List.setIfInBounds_toArray, List.set_cons_zero, List.set_cons_succ]
          refine tkV (i := 2) (d := some 25) (v := ?_) rfl (by kernel_rfl) (by kernel_rfl) (by kernel_rfl) rfl (fun _ _ _ h => h) (by rfl) ?_ (by assumption) ?_
          rotate_left
          · (intro w hSw; (try dsimp only at hSw); (try simp only [List.getElem_toArray, List.getElem_cons_zero, List.getElem_cons_succ]); go_simp; try with_reducible rfl)
          try simp only [Act.put, List.setIfInBounds_toArray, List.set_cons_zero, List.set_cons_succ]
          refine tkV (i := 3) (d := some 26) (v := ?_) rfl (by kernel_rfl) (by kernel_rfl) (by kernel_rfl) rfl (fun _ _ _ h => h) (by rfl) ?_ (by assumption) ?_
          rotate_left
          · (intro w hSw; (try dsimp only at hSw); (try simp only [List.getElem_toArray, List.getElem_cons_zero, List.getElem_cons_succ]); go_simp; try with_reducible rfl)
          try simp only [Act.put, List.setIfInBounds_toArray, List.set_cons_zero, List.set_cons_succ]
          refine tkV (i := 4) (d := some 27) (v := ?_) rfl (by kernel_rfl) (by kernel_rfl) (by kernel_rfl) rfl (fun _ _ _ h => h) (by rfl) ?_ (by assumption) ?_
          rotate_left
          · (intro w hSw; (try dsimp only at hSw); (try simp only [List.getElem_toArray, List.getElem_cons_zero, List.getElem_cons_succ]); go_simp; try with_reducible rfl)
          try simp only [Act.put, List.setIfInBounds_toArray, List.set_cons_zero, List.set_cons_succ]
          refine tkV (i := 5) (d := some 28) (v := ?_) rfl (by kernel_rfl) (by kernel_rfl) (by kernel_rfl) rfl (fun _ _ _ h => h) (by rfl) ?_ (by assumption) ?_
          rotate_left
          · (intro w hSw; (try dsimp only at hSw); (try simp only [List.getElem_toArray, List.getElem_cons_zero, List.getElem_cons_succ]); go_simp; try with_reducible rfl)
          try simp only [Act.put, List.setIfInBounds_toArray, List.set_cons_zero, List.set_cons_succ]
          refine tkV (i := 6) (d := some 29) (v := ?_) rfl (by kernel_rfl) (by kernel_rfl) (by kernel_rfl) rfl (fun _ _ _ h => h) (by rfl) ?_ (by assumption) ?_
          rotate_left
          · (intro w hSw; (try dsimp only at hSw); (try simp only [List.getElem_toArray, List.getElem_cons_zero, List.getElem_cons_succ]); go_simp; try with_reducible rfl)
          try simp only [Act.put, List.setIfInBounds_toArray, List.set_cons_zero, List.set_cons_succ]
          refine tkV (i := 7) (d := some 30) (v := ?_) rfl (by kernel_rfl) (by kernel_rfl) (by kernel_rfl) rfl (fun _ _ _ h => h) (by rfl) ?_ (by assumption) ?_
          rotate_left
          · (intro w hSw; (try dsimp only at hSw); (try simp only [List.getElem_toArray, List.getElem_cons_zero, List.getElem_cons_succ]); go_simp; try with_reducible rfl)
          try simp only [Act.put, List.setIfInBounds_toArray, List.set_cons_zero, List.set_cons_succ]
          refine tkV (i := 8) (d := some 31) (v := ?_) rfl (by kernel_rfl) (by kernel_rfl) (by kernel_rfl) rfl (fun _ _ _ h => h) (by rfl) ?_ (by assumption) ?_
          rotate_left
          · (intro w hSw; (try dsimp only at hSw); (try simp only [List.getElem_toArray, List.getElem_cons_zero, List.getElem_cons_succ]); go_simp; try with_reducible rfl)
          try simp only [Act.put, List.setIfInBounds_toArray, List.set_cons_zero, List.set_cons_succ]
          refine tkV (i := 9) (d := some 32) (v := ?_) rfl (by kernel_rfl) (by kernel_rfl) (by kernel_rfl) rfl (fun _ _ _ h => h) (by rfl) ?_ (by assumption) ?_
          rotate_left
          · (intro w hSw; (try dsimp only at hSw); (try simp only [List.getElem_toArray, List.getElem_cons_zero, List.getElem_cons_succ]); go_simp; try with_reducible rfl)
          try simp only [Act.put, List.setIfInBounds_toArray, List.set_cons_zero, List.set_cons_succ]
          refine tkV (i := 10) (d := some 33) (v := .int .i64 z1) rfl (by kernel_rfl) (by kernel_rfl) (by kernel_rfl) rfl (fun _ _ _ h => h) (by rfl) ?_ (by assumption) ?_
          · (intro w hSw; (try dsimp only at hSw); (try simp only [List.getElem_toArray, List.getElem_cons_zero, List.getElem_cons_succ]); go_simp; try with_reducible rfl)
          try simp only [Act.put, List.setIfInBounds_toArray, List.set_cons_zero, List.set_cons_succ]
          refine tkV (i := 11) (d := some 34) (v := ?_) rfl (by kernel_rfl) (by kernel_rfl) (by kernel_rfl) rfl (fun _ _ _ h => h) (by rfl) ?_ (by assumption) ?_
          rotate_left
          · (intro w hSw; (try dsimp only at hSw); (try simp only [List.getElem_toArray, List.getElem_cons_zero, List.getElem_cons_succ]); go_simp; try with_reducible rfl)
          try simp only [Act.put, List.setIfInBounds_toArray, List.set_cons_zero, List.set_cons_succ]
          refine wpAnyH_ready (rs := [12]) (by kernel_rfl) (by simp) (AllReadyH.cons rfl (fun K hK => ?_) AllReadyH.nil)
          try simp only [List.getElem_toArray, List.getElem_cons_zero, List.getElem_cons_succ]
          go_simp
          refine hK.out _ _ ?_ (fun hHeld12 => ?_)
          · exact HS2.out
          clear hK K
          (try simp only [Act.put]); (try simp only [List.setIfInBounds_toArray]); (try simp only [List.set_cons_succ]); (try simp only [List.set_cons_zero])
          refine wpAnyH_done (by kernel_rfl) ?_ _
          refine NoPanic.normal ?_
          clear hHeld hHeld12
          go_wp2
          go_roundw
          case rel => exact ⟨k + 1, by omega, by go_num, HN2, HO2, HK2⟩
          case measure => simp [intOf]; omega
        · have hkI : ¬ (k : Int) < (n : Int) := by omega
          clear hj
          go_wp2
          go_roundw
          case rel => exact ⟨i + 1, by omega, by go_num, HN, HO, HK⟩
          case measure => simp [intOf]; omega
    · have hiI : ¬ (i : Int) < (ns.length : Int) := by omega
      go_wp2
      clear x1 x2
      go_loopw [4] (fun iv wr => ∃ i : Nat, i ≤ os.length ∧ iv = .int .i64 (i : Int) ∧ Hid (RwY wr aN ns D) ∧ Hid (RwY wr aO os D) ∧ Hid (Kpd w0 wr D)) (fun iv _ => os.length - (intOf iv).toNat)
      case atStart => exact ⟨0, Nat.zero_le _, rfl, HN, HO, HK⟩
      case round =>
        clear HN HO HK
        obtain ⟨i, hi, rfl, HN, HO, HK⟩ := hrel
        obtain ⟨x1, x2⟩ := HX.out wr HK.out
        by_cases hil : i < os.length
        · have hiI : (i : Int) < (os.length : Int) := by omega
          have hiI0 : (0 : Int) ≤ (i : Int) := by omega
          obtain ⟨n, hn'⟩ : ∃ n, n = os[i] := ⟨_, rfl⟩
          have hnb : n ≤ 2200000 := by rw [hn']; exact HOr.out _ (List.getElem_mem hil)
          have HNi := hid0 hn'
          clear hn'
          go_wp2
          clear x1 x2
          go_loopw [5] (fun kv wr => ∃ k : Nat, k ≤ n ∧ kv = .int .i64 (k : Int) ∧ Hid (RwY wr aN ns D) ∧ Hid (RwY wr aO os D) ∧ Hid (Kpd w0 wr D)) (fun kv _ => n - (intOf kv).toNat)
          case atStart => exact ⟨0, Nat.zero_le _, rfl, HN, HO, HK⟩
          case round =>
            clear HN HO HK
            obtain ⟨k, hk, rfl, HN, HO, HK⟩ := hrel
            obtain ⟨x1, x2⟩ := HX.out wr HK.out
            obtain ⟨b, off, rfl, _, a1, c1, d1, h0z, hj⟩ := HO.out.at' i hil
            clear h0z
            rw [← HNi.out] at d1 hj
            by_cases hkn : k < n
            · have hkI : (k : Int) < (n : Int) := by omega
              have hkI0 : (0 : Int) ≤ (k : Int) := by omega
              obtain ⟨b', o', rfl, hd, _, ⟨z0, e0, _⟩, cs, t, hbl⟩ := hj k hkn
              have hfz : wr.frozen? ⟨b', o' + k, none⟩ = false := by simp [World.frozen?, hbl]
              obtain ⟨r3, hr3⟩ : ∃ r3, r3 = Int.tmod (i : Int) 3 := ⟨_, rfl⟩
              obtain ⟨z1, hz1⟩ : ∃ z1, z1 = IntKind.i64.wrap ((k : Int) + r3) := ⟨_, rfl⟩
              have hzb : z1 < 9223372036854775808 := by
                have e : Int.tmod (i : Int) 3 = ((i % 3 : Nat) : Int) := by rw [Int.tmod_eq_emod_of_nonneg (by omega)]; rfl
                rw [hz1, hr3, e]
                simp [IntKind.wrap, IntKind.bits, IntKind.signed]
                omega
              have HN2 := hid0 (HN.out.set (p := b') (q := o' + k) e0 z1 hzb)
              have HO2 := hid0 (HO.out.set (p := b') (q := o' + k) e0 z1 hzb)
              clear hzb
              have HK2 : Hid (Kpd w0 (wr.setCell ⟨b', o' + k, none⟩ (.int .i64 z1)) D) := hid0 (HK.out.trans (Kpd.set _ hd _ _))
              have hr3' := hr3.symm
              have hz1' := hz1.symm
              clear hj hbl HN HO HK hr3 hz1
              go_wp2
              go_roundw
              case rel => exact ⟨k + 1, by omega, by go_num, HN2, HO2, HK2⟩
              case measure => simp [intOf]; omega
            · have hkI : ¬ (k : Int) < (n : Int) := by omega
              clear hj
              go_wp2
              go_roundw
              case rel => exact ⟨i + 1, by omega, by go_num, HN, HO, HK⟩
              case measure => simp [intOf]; omega
        · have hiI : ¬ (i : Int) < (os.length : Int) := by omega
          go_wp2
          refine bodyPost_end (results_none rfl _ _ _) rfl ?_
          exact ⟨rfl, HN.out, HO.out, HK0.out.trans HK.out⟩
end Go.Proofs.YtjemjccgfgijiaaDoor
namespace Go.Proofs.YtjemjccgfgijiaaDoor
open Go.RowKit Go.Shelf
theorem kpd_below {w W W' : World} {D : Nat → Prop} {lo : Nat} (hb : Below lo w W) (hk : Kpd W W' D) (hd : ∀ k, D k → lo ≤ k) (hlo : lo ≤ w.heap.size) : Below lo w W' := ⟨hk.os.trans hb.os, hk.tape.trans hb.tape, hk.output.trans hb.output, Nat.le_trans hb.size hk.size, fun k hkl => (hk.oth k (by have := hb.size; omega) (fun h => by have := hd k h; omega)).trans (hb.block k hkl)⟩
theorem SmlO.relen {N O N5 O5 : List (List Int)} (h : SmlO N O) (hN : N5.map List.length = N.map List.length) (hO : O5.map List.length = O.map List.length) (hz : ∀ r ∈ O5, ∀ z ∈ r, z < 9223372036854775808) : SmlO N5 O5 ∧ N5.length = N.length ∧ O5.length = O.length := by
  have l1 : N5.length = N.length := by have := congrArg List.length hN; simpa using this
  have l2 : O5.length = O.length := by have := congrArg List.length hO; simpa using this
  refine ⟨⟨by rw [l1]; exact h.n, fun r hr => ?_, fun r hr => ?_, hz, fun m hm => ?_⟩, l1, l2⟩
  · have h1 : r.length ∈ N.map List.length := by rw [← hN]; exact List.mem_map_of_mem hr
    obtain ⟨x, hx, e⟩ := List.mem_map.1 h1
    rw [← e]
    exact h.nr x hx
  · have h1 : r.length ∈ O.map List.length := by rw [← hO]; exact List.mem_map_of_mem hr
    obtain ⟨x, hx, e⟩ := List.mem_map.1 h1
    rw [← e]
    exact h.or x hx
  · rw [l1]
    refine h.nm m (fun r hr => ?_)
    have h1 : r.length ∈ N5.map List.length := by rw [hN]; exact List.mem_map_of_mem hr
    obtain ⟨x, hx, e⟩ := List.mem_map.1 h1
    rw [← e]
    exact hm x hx
/-- A twin whose numbers have been turned. -/
theorem turned_twin {w4 w5 : World} {lo hi G H _c _d : Nat} {N O : List (List Int)} (hs : SmlO N O) (ht : TurY w4 (some ⟨G, 0, none⟩) (some ⟨H, 0, none⟩) (N.map List.length) (O.map List.length) (fun b => lo ≤ b ∧ b < hi) w5) : ∃ N5 O5, SmlO N5 O5 ∧ N5.length = N.length ∧ O5.length = O.length ∧ RwN w5 (some ⟨G, 0, none⟩) N5 ∧ RwN w5 (some ⟨H, 0, none⟩) O5 := by
  obtain ⟨h1, h2, _⟩ := ht
  obtain ⟨N5, e1, r1, _⟩ := h1.read
  obtain ⟨O5, e2, r2, z2⟩ := h2.read
  obtain ⟨k1, k2, k3⟩ := hs.relen e1 e2 z2
  exact ⟨N5, O5, k1, k2, k3, r1, r2⟩
/-- turned of a twin. -/
theorem turned_of (st : Int) (G H c d lo hi : Nat) (N O : List (List Int)) (w1 w4 : World) (hs : SmlO N O) (hol : O.length ≤ 2200000) (hz : ∀ r ∈ N, ∀ z ∈ r, z < 9223372036854775808) (h1 : Tz w1 lo G c N) (h2 : Tz w1 lo H d O) (hhi : hi = w1.heap.size) (hb : Below w1.heap.size w1 w4) :
    Calls Tryd.prog 26 #[.agg #[.int .i64 st, .slice (some ⟨G, 0, none⟩) N.length c, .slice (some ⟨H, 0, none⟩) O.length d]] w4 fun e w' => e = .returned (.tuple #[]) ∧ TurY w4 (some ⟨G, 0, none⟩) (some ⟨H, 0, none⟩) (N.map List.length) (O.map List.length) (fun b => lo ≤ b ∧ b < hi) w' := by
  have h := turnedY_any st (N.map List.length) (O.map List.length) (some ⟨G, 0, none⟩) (some ⟨H, 0, none⟩) c d (fun b => lo ≤ b ∧ b < hi) w4 (fun k hk => by have := hb.size; have := hk.2; omega) (by rw [List.length_map]; exact hs.n) (fun n hn => by
    obtain ⟨r, hr, rfl⟩ := List.mem_map.1 hn
    exact hs.nr r hr) (fun n hn => by
    obtain ⟨r, hr, rfl⟩ := List.mem_map.1 hn
    exact hs.or r hr) (by rw [List.length_map]; exact hol) ((h1.rwy (hi := hi) (by omega) hz).later hb) ((h2.rwy (hi := hi) (by omega) hs.oz).later hb)
  rw [List.length_map, List.length_map] at h
  exact h
end Go.Proofs.YtjemjccgfgijiaaDoor
namespace Go.Proofs.YtjemjccgfgijiaaDoor
open Go.RowKit Go.Shelf
set_option maxRecDepth 10000 in
set_option maxHeartbeats 3200000 in
theorem minimalOf_any (A : Nat → Addr) (sa sb sy : Int) (N O : List (List Int)) (aN aO : Option Addr) (vM vP vW : Value) (cN cO : Nat) (w : World) (hs : SmlO N O) (hol : O.length ≤ 2200000) (hzN : ∀ r ∈ N, ∀ z ∈ r, z < 9223372036854775808) (rN : RwN w aN N) (rO : RwN w aO O) (he : Sents w A) :
    Calls Tryd.prog 7 #[.agg #[.int .i64 sa, .slice aN N.length cN, .slice aO O.length cO, .int .i64 sb, vM, vP, .int .i64 sy, vW]] w fun e w' => e = .returned (.bool true) ∧ Below w.heap.size w w' := by
  obtain ⟨w0, hw0⟩ : ∃ w0, w0 = w.alloc (.cells #[.int .i64 sa, .slice aN N.length cN, .slice aO O.length cO, .int .i64 sb, vM, vP, .int .i64 sy, vW] 27) := ⟨_, rfl⟩
  have hB0 : Below w.heap.size w w0 := by rw [hw0]; exact below_alloc _ _
  have hX0 : CBox w0 w.heap.size sa sb sy (.slice aN N.length cN) (.slice aO O.length cO) vM vP vW := ⟨by rw [hw0]; exact heap_alloc_new w _⟩
  have HAl : Hid (∀ V : World, Below w0.heap.size w0 V → (RwN V aN N ∧ RwN V aO O) ∧ Sents V A ∧ Below w.heap.size w V ∧ CBox V w.heap.size sa sb sy (.slice aN N.length cN) (.slice aO O.length cO) vM vP vW) := hid0 (fun V hV => by
    have h := Below.later hB0 hV
    exact ⟨⟨rN.past h, rO.past h⟩, he.below h, h, hX0.past hV⟩)
  obtain ⟨x0, x1, x2, x6, x7⟩ := hX0.c
  have HTw := hid0 (twin_any sa N O aN aO cN cO w0 hs.sml hol (HAl.out w0 (below_refl0 w0)).1.1 (HAl.out w0 (below_refl0 w0)).1.2)
  have HSm := hid0 (And.intro hs (And.intro hol hzN))
  have hfold := hw0.symm
  clear hw0 hB0 hX0 rN rO he hs hol hzN
  go_enter Tryd.func7, Tryd.ntmps7
  go_upto_region 2 with (go_at_call 20; go_loud ((refine HTw.out.mono ?_; rintro e w1 ⟨G, c, H, d, rfl, t1, t2, hb1⟩; have HT1 := hid0 t1; have HT2 := hid0 t2; have HB1 := hid0 hb1; clear t1 t2 hb1)))
  obtain ⟨w2, hw2⟩ : ∃ w2, w2 = w1.alloc (.cells #[.int .i64 sa, .slice (some ⟨G, 0, none⟩) N.length c, .slice (some ⟨H, 0, none⟩) O.length d] 24) := ⟨_, rfl⟩
  have hB12 : Below w1.heap.size w1 w2 := by rw [hw2]; exact below_alloc _ _
  have hX2 : MBox w2 w1.heap.size sa (.slice (some ⟨G, 0, none⟩) N.length c) (.slice (some ⟨H, 0, none⟩) O.length d) := by rw [hw2]; exact MBox.new _ _ _ _
  have HX2 := hid0 hX2
  have HB12 := hid0 hB12
  have HB02 := hid0 (Below.later HB1.out hB12)
  have HLe : Hid (Calls Tryd.prog 25 #[.agg #[.int .i64 sa, .slice (some ⟨G, 0, none⟩) N.length c, .slice (some ⟨H, 0, none⟩) O.length d], .agg #[.int .i64 sa, .slice aN N.length cN, .slice aO O.length cO], .int .i64 sy] w2 fun e w' => e = .returned (.bool true) ∧ Below w2.heap.size w2 w') := hid0 (least_any A sa sy N O _ _ aN aO c d cN cO w2 HSm.out.1 HSm.out.2.1 (HT1.out.later hB12).rwa (HT2.out.later hB12).rwa (HAl.out w2 HB02.out).1.1.rwa (HAl.out w2 HB02.out).1.2 (HAl.out w2 HB02.out).2.1)
  have HKe : Hid (∀ V : World, Below w2.heap.size w2 V → Calls Tryd.prog 24 #[.agg #[.int .i64 sa, .slice (some ⟨G, 0, none⟩) N.length c, .slice (some ⟨H, 0, none⟩) O.length d], .agg #[.int .i64 sa, .slice aN N.length cN, .slice aO O.length cO]] V fun e w' => e = .returned (.bool true) ∧ Below V.heap.size V w') := hid0 (fun V hV => kept_any sa N O _ _ G H c d cN cO aN aO V HSm.out.1.sml HSm.out.2.1 ((HT1.out.later HB12.out).later hV) ((HT2.out.later HB12.out).later hV) ⟨(HAl.out V (Below.later HB02.out hV)).1.1.rwa, (HAl.out V (Below.later HB02.out hV)).1.2.rwa⟩)
  have HTu : Hid (∀ V : World, Below w2.heap.size w2 V → Calls Tryd.prog 26 #[.agg #[.int .i64 sa, .slice (some ⟨G, 0, none⟩) N.length c, .slice (some ⟨H, 0, none⟩) O.length d]] V fun e w' => e = .returned (.tuple #[]) ∧ TurY V (some ⟨G, 0, none⟩) (some ⟨H, 0, none⟩) (N.map List.length) (O.map List.length) (fun b => w0.heap.size ≤ b ∧ b < w1.heap.size) w') := hid0 (fun V hV => turned_of sa G H c d w0.heap.size w1.heap.size N O w1 V HSm.out.1 HSm.out.2.1 HSm.out.2.2 HT1.out HT2.out rfl (Below.later HB12.out hV))
  obtain ⟨z0, z1, z2⟩ := hX2.c
  obtain ⟨y0, y1, y2, y6, _⟩ := (HAl.out w2 HB02.out).2.2.2.c
  have q2 := hw2.symm
  clear x0 x1 x2 x6 x7 hfold hw2 hB12 hX2 HTw
  go_upto_region 7 with (first
    | (go_at_call 25; go_loud ((refine HLe.out.mono ?_; rintro e w3 ⟨rfl, hb3⟩; have HB3 := hid0 hb3; clear z0 z1 z2 y0 y1 y2 y6 q2; obtain ⟨z0, z1, z2⟩ := (HX2.out.past hb3).c; obtain ⟨y0, y1, y2, y6, _⟩ := (HAl.out w3 (Below.later HB02.out hb3)).2.2.2.c; clear hb3)))
    | (go_at_call 24; go_loud ((refine (HKe.out w3 HB3.out).mono ?_; rintro e w4 ⟨rfl, hb4⟩; have HB4 := hid0 (Below.later HB3.out hb4); clear hb4 z0 z1 z2 y0 y1 y2 y6; obtain ⟨z0, z1, z2⟩ := (HX2.out.past HB4.out).c)))
    | (go_at_call 26; go_loud ((refine (HTu.out w4 HB4.out).mono ?_; rintro e w5 ⟨rfl, ht5⟩; have HT5 := hid0 ht5; clear ht5 z0 z1 z2))))
  have hB04 := Below.later HB02.out HB4.out
  have hB05 : Below w0.heap.size w0 w5 := kpd_below hB04 HT5.out.2.2 (fun k hk => hk.1) (Nat.le_refl _)
  have hX5 : MBox w5 w1.heap.size sa (.slice (some ⟨G, 0, none⟩) N.length c) (.slice (some ⟨H, 0, none⟩) O.length d) := by
    have h4 := (HX2.out.past HB4.out).r
    exact ⟨(HT5.out.2.2.oth _ (Array.getElem?_eq_some_iff.1 h4).1 (fun h => by have := h.2; omega)).trans h4⟩
  have HLe5 : Hid (Calls Tryd.prog 25 #[.agg #[.int .i64 sa, .slice (some ⟨G, 0, none⟩) N.length c, .slice (some ⟨H, 0, none⟩) O.length d], .agg #[.int .i64 sa, .slice (some ⟨G, 0, none⟩) N.length c, .slice (some ⟨H, 0, none⟩) O.length d], .int .i64 sy] w5 fun e w' => e = .returned (.bool true) ∧ Below w5.heap.size w5 w') := hid0 (by
    obtain ⟨N5, O5, hs5, l1, l2, r1, r2⟩ := turned_twin (_c := c) (_d := d) HSm.out.1 HT5.out
    have h := least_any A sa sy N5 O5 _ _ _ _ c d c d w5 hs5 (by rw [l2]; exact HSm.out.2.1) r1.rwa r2.rwa r1.rwa r2 (HAl.out w5 hB05).2.1
    rw [l1, l2] at h
    exact h)
  have HB05 := hid0 hB05
  obtain ⟨z0, z1, z2⟩ := hX5.c
  obtain ⟨y0, y1, y2, y6, _⟩ := (HAl.out w5 hB05).2.2.2.c
  clear hB04 hB05 hX5 HT5 HTu HKe HLe HX2 HB12 HB4 HB3 HT1 HT2
  cases hmay : mayF sa N O sy with
  | false =>
    have HOf : Hid (∀ V : World, Below w0.heap.size w0 V → Calls Tryd.prog 21 #[.agg #[.int .i64 sa, .slice aN N.length cN, .slice aO O.length cO], .int .i64 sy] V fun e w' => e = .returned (.tuple #[.agg #[.int .i64 0, .slice none 0 0, .slice none 0 0], .int .i64 1]) ∧ Below V.heap.size V w') := hid0 (fun V hV => refOf_no sa sy N O aN aO cN cO V hmay HSm.out.1 (HAl.out V hV).1.1.rwa (HAl.out V hV).1.2.rwa)
    clear hmay
    go_wp2_with (first
      | (go_at_call 25; go_loud ((refine HLe5.out.mono ?_; rintro e w6 ⟨rfl, hb6⟩; have HB06 := hid0 (Below.later HB05.out hb6); clear hb6 z0 z1 z2 y0 y1 y2 y6; obtain ⟨y0, y1, y2, y6, _⟩ := (HAl.out w6 HB06.out).2.2.2.c)))
      | (go_at_call 21; go_loud ((refine (HOf.out w6 HB06.out).mono ?_; rintro e w7 ⟨rfl, hb7⟩; have HB07 := hid0 (Below.later HB06.out hb7); have HB08 := hid0 (Below.later HB07.out (below_alloc w7 (.cells #[.int .i64 0, .slice none 0 0, .slice none 0 0] 24))); clear hb7))))
    go_ret
    exact ⟨rfl, (HAl.out _ HB08.out).2.2.1⟩
  | true =>
    obtain ⟨m, hm, hmy⟩ := mayF_may hmay
    subst hm
    obtain ⟨s0, rfl⟩ : ∃ s0 : Nat, sa = (s0 : Int) := ⟨sa.toNat, by have := hmy.start; omega⟩
    have HOf : Hid (∀ V : World, Below w0.heap.size w0 V → Calls Tryd.prog 21 #[.agg #[.int .i64 (s0 : Int), .slice aN N.length cN, .slice aO O.length cO], .int .i64 (m : Int)] V fun e w' => DofR V w' m s0 N O e) := hid0 (fun V hV => refOf_yes s0 m N O aN aO cN cO V hmay HSm.out.1 (HAl.out V hV).1.1.rwa (HAl.out V hV).1.2)
    have HMy := hid0 hmay
    clear hmay hmy
    go_upto_region 11 with (first
      | (go_at_call 25; go_loud ((refine HLe5.out.mono ?_; rintro e w6 ⟨rfl, hb6⟩; have HB06 := hid0 (Below.later HB05.out hb6); clear hb6 z0 z1 z2 y0 y1 y2 y6; obtain ⟨y0, y1, y2, y6, _⟩ := (HAl.out w6 HB06.out).2.2.2.c)))
      | (go_at_call 21; go_loud ((refine (HOf.out w6 HB06.out).mono ?_; rintro e w7 ⟨N2, O2, aD, aE, cD, cE, rfl, hl, hdb, hb7⟩; have HB07 := hid0 (Below.later HB06.out hb7); have HQ := hid0 (And.intro hl hdb); clear hl hdb hb7 y0 y1 y2 y6))))
    obtain ⟨w8, hw8⟩ : ∃ w8, w8 = w7.alloc (.cells #[.int .i64 0, .slice aD N2.length cD, .slice aE O2.length cE] 24) := ⟨_, rfl⟩
    obtain ⟨hl, hdb⟩ := HQ.out
    have hB78 : Below w7.heap.size w7 w8 := by rw [hw8]; exact below_alloc _ _
    have hX8 : MBox w8 w7.heap.size 0 (.slice aD N2.length cD) (.slice aE O2.length cE) := by rw [hw8]; exact MBox.new _ _ _ _
    have HB08 := hid0 (Below.later HB07.out hB78)
    have hs2 : SmlO N2 O2 := hl.sml HSm.out.1 HMy.out
    have ho2 : O2.length ≤ 2200000 := by have := hl.red.may'.out; have := hs2.n; omega
    have hz2 : ∀ r ∈ N2, ∀ z ∈ r, z < 9223372036854775808 := fun r hr z hz => by have := (hl.red.may'.num r hr z hz).2; have := hs2.n; omega
    have HTw8 := hid0 (twin_any 0 N2 O2 aD aE cD cE w8 hs2.sml ho2 (hdb.later hB78).rwn.1 (hdb.later hB78).rwn.2)
    have HS2 := hid0 (And.intro hs2 (And.intro ho2 hz2))
    have HRd := hid0 hl.red
    obtain ⟨z0, z1, z2⟩ := hX8.c
    have q8 := hw8.symm
    clear hw8 hl hdb hB78 hX8 hs2 ho2 hz2 HQ HOf
    go_upto_region 12 with (go_at_call 20; go_loud ((refine HTw8.out.mono ?_; rintro e w9 ⟨G2, c2, H2, d2, rfl, t1, t2, hb9⟩; have HT1 := hid0 t1; have HT2 := hid0 t2; have HB9 := hid0 hb9; clear t1 t2 hb9)))
    obtain ⟨w10, hw10⟩ : ∃ w10, w10 = w9.alloc (.cells #[.int .i64 0, .slice (some ⟨G2, 0, none⟩) N2.length c2, .slice (some ⟨H2, 0, none⟩) O2.length d2] 24) := ⟨_, rfl⟩
    have hB910 : Below w9.heap.size w9 w10 := by rw [hw10]; exact below_alloc _ _
    have hX10 : MBox w10 w9.heap.size 0 (.slice (some ⟨G2, 0, none⟩) N2.length c2) (.slice (some ⟨H2, 0, none⟩) O2.length d2) := by rw [hw10]; exact MBox.new _ _ _ _
    have HX10 := hid0 hX10
    have HB010 := hid0 (Below.later HB08.out (Below.later HB9.out hB910))
    have HIs : Hid (Calls Tryd.prog 15 #[.agg #[.int .i64 0, .slice (some ⟨G2, 0, none⟩) N2.length c2, .slice (some ⟨H2, 0, none⟩) O2.length d2], .int .i64 (m : Int)] w10 fun e w' => e = .returned (.bool true) ∧ Below w10.heap.size w10 w') := hid0 (by
      have h := is_any (A 0) 0 (m : Int) N2 O2 _ _ c2 d2 w10 HS2.out.1 (HT1.out.later hB910).rwa (HT2.out.later hB910).rwa (HAl.out w10 HB010.out).2.1.e1
      rw [isB_yes HRd.out] at h
      exact h)
    have HTu : Hid (∀ V : World, Below w10.heap.size w10 V → Calls Tryd.prog 26 #[.agg #[.int .i64 0, .slice (some ⟨G2, 0, none⟩) N2.length c2, .slice (some ⟨H2, 0, none⟩) O2.length d2]] V fun e w' => e = .returned (.tuple #[]) ∧ TurY V (some ⟨G2, 0, none⟩) (some ⟨H2, 0, none⟩) (N2.map List.length) (O2.map List.length) (fun b => w8.heap.size ≤ b ∧ b < w9.heap.size) w') := hid0 (fun V hV => turned_of 0 G2 H2 c2 d2 w8.heap.size w9.heap.size N2 O2 w9 V HS2.out.1 HS2.out.2.1 HS2.out.2.2 HT1.out HT2.out rfl (Below.later hB910 hV))
    have HB810 := hid0 (Below.later HB9.out hB910)
    have HS89 := hid0 HB9.out.size
    obtain ⟨x0, x1, x2⟩ := hX10.c
    obtain ⟨y0, y1, y2, y6, _⟩ := (HAl.out w10 HB010.out).2.2.2.c
    have q10 := hw10.symm
    clear hw10 hB910 hX10 z0 z1 z2 q8 HTw8
    go_upto_region 14 with (first
      | (go_at_call 15; go_loud ((refine HIs.out.mono ?_; rintro e w11 ⟨rfl, hb11⟩; have HB11 := hid0 hb11; clear hb11 x0 x1 x2 y0 y1 y2 y6 q10; obtain ⟨x0, x1, x2⟩ := (HX10.out.past HB11.out).c)))
      | (go_at_call 26; go_loud ((refine (HTu.out w11 HB11.out).mono ?_; rintro e w12 ⟨rfl, ht12⟩; have HT12 := hid0 ht12; clear ht12 x0 x1 x2))))
    have hB012 : Below w0.heap.size w0 w12 := by
      have h8 := HB08.out.size
      exact kpd_below (Below.later HB010.out HB11.out) HT12.out.2.2 (fun k hk => by have := hk.1; omega) (Nat.le_refl _)
    have hX12 : MBox w12 w9.heap.size 0 (.slice (some ⟨G2, 0, none⟩) N2.length c2) (.slice (some ⟨H2, 0, none⟩) O2.length d2) := by
      have h4 := (HX10.out.past HB11.out).r
      exact ⟨(HT12.out.2.2.oth _ (Array.getElem?_eq_some_iff.1 h4).1 (fun h => by have := h.2; omega)).trans h4⟩
    obtain ⟨t, HRi, HIs2⟩ : ∃ t : Bool, Hid (Calls Tryd.prog 27 #[.agg #[.int .i64 0, .slice (some ⟨G2, 0, none⟩) N2.length c2, .slice (some ⟨H2, 0, none⟩) O2.length d2], .int .i64 (m : Int)] w12 fun e w' => e = .returned (.bool t) ∧ Below w12.heap.size w12 w') ∧ Hid (∀ V : World, Below w12.heap.size w12 V → Calls Tryd.prog 15 #[.agg #[.int .i64 0, .slice (some ⟨G2, 0, none⟩) N2.length c2, .slice (some ⟨H2, 0, none⟩) O2.length d2], .int .i64 (m : Int)] V fun e w' => e = .returned (.bool t) ∧ Below V.heap.size V w') := by
      obtain ⟨N6, O6, hs6, l1, l2, r1, r2⟩ := turned_twin (_c := c2) (_d := d2) HS2.out.1 HT12.out
      refine ⟨isB 0 N6 O6 (m : Int), hid0 ?_, hid0 (fun V hV => ?_)⟩
      · have h := refIs_any 0 (m : Int) N6 O6 _ _ c2 d2 w12 hs6 (by rw [l2]; have := HS2.out.2.1; omega) r1.rwa r2
        rw [l1, l2] at h
        exact h
      · have h := is_any (A 0) 0 (m : Int) N6 O6 _ _ c2 d2 V hs6 (r1.past hV).rwa (r2.past hV).rwa (HAl.out V (Below.later hB012 hV)).2.1.e1
        rw [l1, l2] at h
        exact h
    have HX12 := hid0 hX12
    have HB012 := hid0 hB012
    obtain ⟨x0, x1, x2⟩ := hX12.c
    obtain ⟨y0, y1, y2, y6, _⟩ := (HAl.out w12 hB012).2.2.2.c
    have hself : (t == t) = true := by simp
    clear hB012 hX12 HT12 HTu HIs HX10 HB11 HT1 HT2 HS89
    go_wp2_with (first
      | (go_at_call 27; go_loud ((refine HRi.out.mono ?_; rintro e w13 ⟨rfl, hb13⟩; have HB13 := hid0 hb13; clear hb13 x0 x1 x2 y0 y1 y2 y6; obtain ⟨x0, x1, x2⟩ := (HX12.out.past HB13.out).c; obtain ⟨y0, y1, y2, y6, _⟩ := (HAl.out w13 (Below.later HB012.out HB13.out)).2.2.2.c)))
      | (go_at_call 15; go_loud ((refine (HIs2.out w13 HB13.out).mono ?_; rintro e w14 ⟨rfl, hb14⟩; have HB14 := hid0 (Below.later HB012.out (Below.later HB13.out hb14)); clear hb14))))
    go_ret
    exact ⟨rfl, (HAl.out _ HB14.out).2.2.1⟩
end Go.Proofs.YtjemjccgfgijiaaDoor
