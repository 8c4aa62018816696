/-
  MxSM, MxTW.
-/
import Derived.Test.YtbbejfkgopcjoaaDoorNebh
namespace Go.Proofs.YtbbejfkgopcjoaaDoor
open Go.RowKit Go.Shelf
/-- Numbers, whatever they are. -/
structure YI (w : World) (lo : Nat) (a : Option Addr) (n : Nat) : Prop where
  at' : ∀ j, j < n → ∃ b o, a = some ⟨b, o, none⟩ ∧ (lo ≤ b ∧ b < w.heap.size) ∧ (∃ z, w.cell? ⟨b, o + j, none⟩ = some (.int .i64 z)) ∧ w.frozen? ⟨b, o + j, none⟩ = false
/-- Lists of them, of these lengths. -/
structure YR (w : World) (lo : Nat) (a : Option Addr) (L : List (List Int)) : Prop where
  at' : ∀ k (h : k < L.length), ∃ b o, a = some ⟨b, o, none⟩ ∧ b < w.heap.size ∧ ∃ a1 c1, w.cell? ⟨b, o + k, none⟩ = some (.slice a1 (L[k]).length c1) ∧ YI w lo a1 (L[k]).length
/-- Patterns of these lengths. -/
structure YP (w : World) (lo G : Nat) (rs : List Pr) : Prop where
  at' : ∀ i (h : i < rs.length), ∃ (aL aF aA aO : Option Addr) (cL cF cA cO : Nat) (em an : Bool), w.cell? ⟨G, i * 6, none⟩ = some (.slice aL (rs[i]).Le.length cL) ∧ w.cell? ⟨G, i * 6 + 1, none⟩ = some (.slice aF (rs[i]).Fi.length cF) ∧ w.cell? ⟨G, i * 6 + 2, none⟩ = some (.slice aA (rs[i]).La.length cA) ∧ w.cell? ⟨G, i * 6 + 3, none⟩ = some (.slice aO (rs[i]).Fo.length cO) ∧ w.cell? ⟨G, i * 6 + 4, none⟩ = some (.bool em) ∧ w.cell? ⟨G, i * 6 + 5, none⟩ = some (.bool an) ∧ (aL = none → cL = 0) ∧ YR w lo aL (rs[i]).Le ∧ YI w lo aF (rs[i]).Fi.length ∧ YI w lo aA (rs[i]).La.length ∧ YR w lo aO (rs[i]).Fo
  lt : G < w.heap.size
  ge : lo ≤ G
  fz : ∀ i, w.frozen? ⟨G, i, none⟩ = false
section
variable {w w' : World} {lo : Nat} {a : Option Addr} {n : Nat} {L : List (List Int)} {G : Nat} {rs : List Pr}
theorem set_sizeY (w : World) (p : Addr) (v : Value) : (w.setCell p v).heap.size = w.heap.size := by simp [World.setCell]
theorem YI.past (h : YI w lo a n) (hb : Below w.heap.size w w') : YI w' lo a n := ⟨fun j hj => by
  obtain ⟨b, o, e, h1, ⟨z, h2⟩, h3⟩ := h.at' j hj
  exact ⟨b, o, e, ⟨h1.1, Nat.lt_of_lt_of_le h1.2 hb.size⟩, ⟨z, (hb.cell (p := ⟨b, o + j, none⟩) h1.2).trans h2⟩, by rw [frozen_pastP hb h1.2]; exact h3⟩⟩
theorem YR.past (h : YR w lo a L) (hb : Below w.heap.size w w') : YR w' lo a L := ⟨fun k hk => by
  obtain ⟨b, o, e, h1, a1, c1, h2, h3⟩ := h.at' k hk
  exact ⟨b, o, e, Nat.lt_of_lt_of_le h1 hb.size, a1, c1, (hb.cell (p := ⟨b, o + k, none⟩) h1).trans h2, h3.past hb⟩⟩
theorem YP.past (h : YP w lo G rs) (hb : Below w.heap.size w w') : YP w' lo G rs := ⟨fun i hi => by
  obtain ⟨aL, aF, aA, aO, cL, cF, cA, cO, em, an, y0, y1, y2, y3, y4, y5, y6, r1, r2, r3, r4⟩ := h.at' i hi
  have tr : ∀ k, w'.cell? ⟨G, k, none⟩ = w.cell? ⟨G, k, none⟩ := fun k => hb.cell (p := ⟨G, k, none⟩) h.lt
  exact ⟨aL, aF, aA, aO, cL, cF, cA, cO, em, an, (tr _).trans y0, (tr _).trans y1, (tr _).trans y2, (tr _).trans y3, (tr _).trans y4, (tr _).trans y5, y6, r1.past hb, r2.past hb, r3.past hb, r4.past hb⟩, Nat.lt_of_lt_of_le h.lt hb.size, h.ge, fun i => by rw [frozen_pastP hb h.lt]; exact h.fz i⟩
/-- A number is written where a number stands. -/
theorem YI.setI (h : YI w lo a n) {p : Addr} {z0 : Int} (hp : w.cell? p = some (.int .i64 z0)) (z : Int) : YI (w.setCell p (.int .i64 z)) lo a n := ⟨fun j hj => by
  obtain ⟨b, o, e, h1, ⟨y, h2⟩, h3⟩ := h.at' j hj
  refine ⟨b, o, e, by rw [set_sizeY]; exact h1, ?_, by rw [World.frozen?_setCell]; exact h3⟩
  by_cases hq : p = ⟨b, o + j, none⟩
  · subst hq
    exact ⟨z, World.cell?_setCell_same _ _ _ hp⟩
  · exact ⟨y, (World.cell?_setCell_other _ _ _ _ hq).trans h2⟩⟩
theorem YR.setI (h : YR w lo a L) {p : Addr} {z0 : Int} (hp : w.cell? p = some (.int .i64 z0)) (z : Int) : YR (w.setCell p (.int .i64 z)) lo a L := ⟨fun k hk => by
  obtain ⟨b, o, e, h1, a1, c1, h2, h3⟩ := h.at' k hk
  have hne : p ≠ ⟨b, o + k, none⟩ := fun e => by rw [← e, hp] at h2; cases h2
  exact ⟨b, o, e, by rw [set_sizeY]; exact h1, a1, c1, (World.cell?_setCell_other _ _ _ _ hne).trans h2, h3.setI hp z⟩⟩
theorem YP.setI (h : YP w lo G rs) {p : Addr} {z0 : Int} (hp : w.cell? p = some (.int .i64 z0)) (z : Int) : YP (w.setCell p (.int .i64 z)) lo G rs := ⟨fun i hi => by
  obtain ⟨aL, aF, aA, aO, cL, cF, cA, cO, em, an, y0, y1, y2, y3, y4, y5, y6, r1, r2, r3, r4⟩ := h.at' i hi
  have tr : ∀ (k : Nat) (u : Value), w.cell? ⟨G, k, none⟩ = some u → (∀ x, u ≠ .int .i64 x) → (w.setCell p (.int .i64 z)).cell? ⟨G, k, none⟩ = some u := fun k u hu hn => (World.cell?_setCell_other _ _ _ _ (fun e => by rw [← e, hp] at hu; injection hu with hu; exact hn _ hu.symm)).trans hu
  exact ⟨aL, aF, aA, aO, cL, cF, cA, cO, em, an, tr _ _ y0 (by simp), tr _ _ y1 (by simp), tr _ _ y2 (by simp), tr _ _ y3 (by simp), tr _ _ y4 (by simp), tr _ _ y5 (by simp), y6, r1.setI hp z, r2.setI hp z, r3.setI hp z, r4.setI hp z⟩, by rw [set_sizeY]; exact h.lt, h.ge, fun i => by rw [World.frozen?_setCell]; exact h.fz i⟩
/-- A truth is written where a truth stands. -/
theorem YI.setB (h : YI w lo a n) {p : Addr} {z0 : Bool} (hp : w.cell? p = some (.bool z0)) (z : Bool) : YI (w.setCell p (.bool z)) lo a n := ⟨fun j hj => by
  obtain ⟨b, o, e, h1, ⟨y, h2⟩, h3⟩ := h.at' j hj
  have hne : p ≠ ⟨b, o + j, none⟩ := fun e => by rw [← e, hp] at h2; cases h2
  exact ⟨b, o, e, by rw [set_sizeY]; exact h1, ⟨y, (World.cell?_setCell_other _ _ _ _ hne).trans h2⟩, by rw [World.frozen?_setCell]; exact h3⟩⟩
theorem YR.setB (h : YR w lo a L) {p : Addr} {z0 : Bool} (hp : w.cell? p = some (.bool z0)) (z : Bool) : YR (w.setCell p (.bool z)) lo a L := ⟨fun k hk => by
  obtain ⟨b, o, e, h1, a1, c1, h2, h3⟩ := h.at' k hk
  have hne : p ≠ ⟨b, o + k, none⟩ := fun e => by rw [← e, hp] at h2; cases h2
  exact ⟨b, o, e, by rw [set_sizeY]; exact h1, a1, c1, (World.cell?_setCell_other _ _ _ _ hne).trans h2, h3.setB hp z⟩⟩
theorem YP.setB (h : YP w lo G rs) {p : Addr} {z0 : Bool} (hp : w.cell? p = some (.bool z0)) (z : Bool) : YP (w.setCell p (.bool z)) lo G rs := ⟨fun i hi => by
  obtain ⟨aL, aF, aA, aO, cL, cF, cA, cO, em, an, y0, y1, y2, y3, y4, y5, y6, r1, r2, r3, r4⟩ := h.at' i hi
  have tr : ∀ (k : Nat) (u : Value), w.cell? ⟨G, k, none⟩ = some u → (∀ x, u ≠ .bool x) → (w.setCell p (.bool z)).cell? ⟨G, k, none⟩ = some u := fun k u hu hn => (World.cell?_setCell_other _ _ _ _ (fun e => by rw [← e, hp] at hu; injection hu with hu; exact hn _ hu.symm)).trans hu
  have tb : ∀ (k : Nat) (b : Bool), w.cell? ⟨G, k, none⟩ = some (.bool b) → ∃ b', (w.setCell p (.bool z)).cell? ⟨G, k, none⟩ = some (.bool b') := fun k b hu => by
    by_cases hq : p = ⟨G, k, none⟩
    · subst hq
      exact ⟨z, World.cell?_setCell_same _ _ _ hp⟩
    · exact ⟨b, (World.cell?_setCell_other _ _ _ _ hq).trans hu⟩
  obtain ⟨em', z4⟩ := tb _ _ y4
  obtain ⟨an', z5⟩ := tb _ _ y5
  exact ⟨aL, aF, aA, aO, cL, cF, cA, cO, em', an', tr _ _ y0 (by simp), tr _ _ y1 (by simp), tr _ _ y2 (by simp), tr _ _ y3 (by simp), z4, z5, y6, r1.setB hp z, r2.setB hp z, r3.setB hp z, r4.setB hp z⟩, by rw [set_sizeY]; exact h.lt, h.ge, fun i => by rw [World.frozen?_setCell]; exact h.fz i⟩
end
theorem Lk.LK.yi {w : World} {lo g c : Nat} {L : List Int} (h : Lk.LK w lo g c L) : YI w lo (some ⟨g, 0, none⟩) L.length := ⟨fun j hj => by
  obtain ⟨b, o, e, h1, h2⟩ := h.ia.at' j hj
  cases e
  exact ⟨g, 0, rfl, h.lt, ⟨_, h2⟩, h.frozen _⟩⟩
theorem Lk.RwK.yr {w : World} {lo : Nat} {a : Option Addr} {L : List (List Int)} (h : Lk.RwK w lo a L) : YR w lo a L := ⟨fun k hk => by
  obtain ⟨b, e, ⟨cs, hcs⟩, g, c, h2, h3⟩ := h.at' k hk
  exact ⟨b, 0, e, (Array.getElem?_eq_some_iff.1 hcs).1, some ⟨g, 0, none⟩, c, by rw [Nat.zero_add]; exact h2, h3.yi⟩⟩
theorem PatK.yp {W : World} {lo G c : Nat} {rs : List Pr} (h : PatK W lo G c rs) (hg : lo ≤ G) : YP W lo G rs := ⟨fun i hi => by
  obtain ⟨aL, aO, gF, gA, cL, cF, cA, cO, y0, y1, y2, y3, y4, y5, y6, r1, r2, r3, r4⟩ := h.at' i hi
  exact ⟨aL, some ⟨gF, 0, none⟩, some ⟨gA, 0, none⟩, aO, cL, cF, cA, cO, _, _, y0, y1, y2, y3, y4, y5, y6, r1.yr, r2.yi, r3.yi, r4.yr⟩, h.lt, hg, h.fz⟩
theorem chooseY {α : Type} {n : Nat} (d : α) {P : Nat → α → Prop} (h : ∀ j, j < n → ∃ z, P j z) : ∃ l : List α, l.length = n ∧ ∀ j (hj : j < l.length), P j l[j] := by
  have h2 : ∀ j, ∃ z, j < n → P j z := fun j => by
    by_cases hj : j < n
    · obtain ⟨z, hz⟩ := h j hj; exact ⟨z, fun _ => hz⟩
    · exact ⟨d, fun q => absurd q hj⟩
  obtain ⟨f, hf⟩ := Classical.axiomOfChoice h2
  refine ⟨(List.range n).map f, by simp, fun j hj => ?_⟩
  have : j < n := by simpa using hj
  simpa using hf j this
/-- Of the same lengths. -/
structure Shp (r r' : Pr) : Prop where
  le : r'.Le.map List.length = r.Le.map List.length
  fi : r'.Fi.length = r.Fi.length
  la : r'.La.length = r.La.length
  fo : r'.Fo.map List.length = r.Fo.map List.length
structure ShpL (rs rs' : List Pr) : Prop where
  len : rs'.length = rs.length
  at' : ∀ i (h : i < rs.length), Shp rs[i] (rs'[i]'(by omega))
theorem YI.read {w : World} {lo : Nat} {a : Option Addr} {n : Nat} (h : YI w lo a n) : ∃ L : List Int, L.length = n ∧ IA w a L := by
  obtain ⟨L, h1, h2⟩ := chooseY (n := n) (0 : Int) (P := fun j z => ∃ b o, a = some ⟨b, o, none⟩ ∧ b < w.heap.size ∧ w.cell? ⟨b, o + j, none⟩ = some (.int .i64 z)) (fun j hj => by
    obtain ⟨b, o, e, h3, ⟨z, h4⟩, _⟩ := h.at' j hj
    exact ⟨z, b, o, e, h3.2, h4⟩)
  exact ⟨L, h1, ⟨fun j hj => h2 j hj⟩⟩
theorem YR.read {w : World} {lo : Nat} {a : Option Addr} {L : List (List Int)} (h : YR w lo a L) : ∃ L' : List (List Int), L'.map List.length = L.map List.length ∧ RwA w a L' := by
  obtain ⟨L', h1, h2⟩ := chooseY (n := L.length) ([] : List Int) (P := fun k r => ∃ hk : k < L.length, r.length = (L[k]).length ∧ ∃ b o, a = some ⟨b, o, none⟩ ∧ b < w.heap.size ∧ ∃ a1 c1, w.cell? ⟨b, o + k, none⟩ = some (.slice a1 r.length c1) ∧ IA w a1 r) (fun k hk => by
    obtain ⟨b, o, e, h3, a1, c1, h4, h5⟩ := h.at' k hk
    obtain ⟨r, e1, h8⟩ := h5.read
    exact ⟨r, hk, e1, b, o, e, h3, a1, c1, by rw [e1]; exact h4, h8⟩)
  refine ⟨L', List.ext_getElem (by simp [h1]) (fun k q1 q2 => ?_), ⟨fun j hj => ?_⟩⟩
  · rw [List.getElem_map, List.getElem_map]
    obtain ⟨hk, e, _⟩ := h2 k (by simpa using q1)
    exact e
  · obtain ⟨_, _, b, o, e, h3, a1, c1, h4, h5⟩ := h2 j hj
    exact ⟨b, o, e, h3, a1, c1, h4, h5⟩
theorem len_of_map {L L' : List (List Int)} (h : L'.map List.length = L.map List.length) : L'.length = L.length := by have := congrArg List.length h; simpa using this
theorem mem_of_map {L L' : List (List Int)} (h : L'.map List.length = L.map List.length) {m : Nat} (hm : ∀ l ∈ L, l.length ≤ m) : ∀ l ∈ L', l.length ≤ m := fun l hl => by
  have h1 : l.length ∈ L'.map List.length := List.mem_map_of_mem hl
  rw [h] at h1
  obtain ⟨x, hx, e⟩ := List.mem_map.1 h1
  rw [← e]
  exact hm x hx
theorem YP.read {w : World} {lo G : Nat} {rs : List Pr} (h : YP w lo G rs) (hz : ∀ r ∈ rs, PrZ r) : ∃ rs', ShpL rs rs' ∧ PaI w (some ⟨G, 0, none⟩) rs' := by
  obtain ⟨T, h1, h2⟩ := chooseY (n := rs.length) (⟨[], [], [], [], false, false⟩ : Pr) (P := fun i r => ∃ hi : i < rs.length, Shp rs[i] r ∧ ∃ (aL aF aA aO : Option Addr) (cL cF cA cO : Nat), w.cell? ⟨G, 0 + i * 6, none⟩ = some (.slice aL r.Le.length cL) ∧ w.cell? ⟨G, 0 + i * 6 + 1, none⟩ = some (.slice aF r.Fi.length cF) ∧ w.cell? ⟨G, 0 + i * 6 + 2, none⟩ = some (.slice aA r.La.length cA) ∧ w.cell? ⟨G, 0 + i * 6 + 3, none⟩ = some (.slice aO r.Fo.length cO) ∧ w.cell? ⟨G, 0 + i * 6 + 4, none⟩ = some (.bool r.em) ∧ w.cell? ⟨G, 0 + i * 6 + 5, none⟩ = some (.bool r.an) ∧ (aL = none → cL = 0) ∧ PosA w aL aF aA aO r.Le r.Fo r.Fi r.La) (fun i hi => by
    obtain ⟨aL, aF, aA, aO, cL, cF, cA, cO, em, an, y0, y1, y2, y3, y4, y5, y6, r1, r2, r3, r4⟩ := h.at' i hi
    have z := hz _ (List.getElem_mem hi)
    obtain ⟨Le, q1, s1⟩ := r1.read
    obtain ⟨Fi, q2, s2⟩ := r2.read
    obtain ⟨La, q3, s3⟩ := r3.read
    obtain ⟨Fo, q4, s4⟩ := r4.read
    have l1 := len_of_map q1
    have l4 := len_of_map q4
    refine ⟨⟨Le, Fi, La, Fo, em, an⟩, hi, ⟨q1, q2, q3, q4⟩, aL, aF, aA, aO, cL, cF, cA, cO, ?_, ?_, ?_, ?_, ?_, ?_, y6, s1, s2, s3, s4, ?_, ?_, ?_, ?_, mem_of_map q1 z.r1, mem_of_map q4 z.r4⟩
    · rw [Nat.zero_add]; show _ = some (Value.slice aL Le.length cL); rw [l1]; exact y0
    · rw [Nat.zero_add]; show _ = some (Value.slice aF Fi.length cF); rw [q2]; exact y1
    · rw [Nat.zero_add]; show _ = some (Value.slice aA La.length cA); rw [q3]; exact y2
    · rw [Nat.zero_add]; show _ = some (Value.slice aO Fo.length cO); rw [l4]; exact y3
    · rw [Nat.zero_add]; exact y4
    · rw [Nat.zero_add]; exact y5
    · have := z.l1; show Le.length ≤ _; omega
    · have := z.l2; show Fi.length ≤ _; omega
    · have := z.l3; show La.length ≤ _; omega
    · have := z.l4; show Fo.length ≤ _; omega)
  refine ⟨T, ⟨h1, fun i hi => (h2 i (by omega)).2.1⟩, ⟨fun i hi => ?_⟩⟩
  obtain ⟨_, _, aL, aF, aA, aO, cL, cF, cA, cO, y⟩ := h2 i hi
  exact ⟨G, 0, rfl, h.lt, aL, aF, aA, aO, cL, cF, cA, cO, y⟩
end Go.Proofs.YtbbejfkgopcjoaaDoor
namespace Go.Proofs.YtbbejfkgopcjoaaDoor
open Go.RowKit Go.Shelf
/-- While one pattern is bent. -/
structure BnS (w wr : World) (lo G P : Nat) (rs : List Pr) (r : Pr) (aL aF aA aO : Option Addr) (cL cF cA cO : Nat) (em : Bool) : Prop where
  yp : YP wr lo G rs
  le : YR wr lo aL r.Le
  fi : YI wr lo aF r.Fi.length
  la : YI wr lo aA r.La.length
  fo : YR wr lo aO r.Fo
  b0 : wr.cell? ⟨P, 0, none⟩ = some (.slice aL r.Le.length cL)
  b1 : wr.cell? ⟨P, 1, none⟩ = some (.slice aF r.Fi.length cF)
  b2 : wr.cell? ⟨P, 2, none⟩ = some (.slice aA r.La.length cA)
  b3 : wr.cell? ⟨P, 3, none⟩ = some (.slice aO r.Fo.length cO)
  bel : Below lo w wr
theorem cell_keepI {W : World} {p q : Addr} {z0 z : Int} {u : Value} (hp : W.cell? p = some (.int .i64 z0)) (hq : W.cell? q = some u) (hu : ∀ x, u ≠ .int .i64 x) : (W.setCell p (.int .i64 z)).cell? q = some u := (World.cell?_setCell_other _ _ _ _ (fun e => by rw [← e, hp] at hq; injection hq with hq; exact hu _ hq.symm)).trans hq
theorem BnS.setI {w wr : World} {lo G P : Nat} {rs : List Pr} {r : Pr} {aL aF aA aO : Option Addr} {cL cF cA cO : Nat} {em : Bool} (h : BnS w wr lo G P rs r aL aF aA aO cL cF cA cO em) {b k : Nat} {z0 : Int} (hp : wr.cell? ⟨b, k, none⟩ = some (.int .i64 z0)) (hb : lo ≤ b) (z : Int) : BnS w (wr.setCell ⟨b, k, none⟩ (.int .i64 z)) lo G P rs r aL aF aA aO cL cF cA cO em :=
  ⟨h.yp.setI hp z, h.le.setI hp z, h.fi.setI hp z, h.la.setI hp z, h.fo.setI hp z, cell_keepI hp h.b0 (by simp), cell_keepI hp h.b1 (by simp), cell_keepI hp h.b2 (by simp), cell_keepI hp h.b3 (by simp), h.bel.setCell (p := ⟨b, k, none⟩) hb _⟩
theorem YI.one {w : World} {lo : Nat} {a : Option Addr} {n : Nat} (h : YI w lo a n) (hn : n = 1) : ∃ b o z, a = some ⟨b, o, none⟩ ∧ lo ≤ b ∧ w.cell? ⟨b, o, none⟩ = some (.int .i64 z) ∧ w.frozen? ⟨b, o, none⟩ = false := by
  obtain ⟨b, o, e, h1, ⟨z, h2⟩, h3⟩ := h.at' 0 (by omega)
  exact ⟨b, o, z, e, h1.1, h2, h3⟩
set_option maxRecDepth 10000 in
set_option maxHeartbeats 6400000 in
theorem bend_any (G c lo : Nat) (sy : Int) (rs : List Pr) (w : World) (hP : YP w lo G rs) (hlo : lo ≤ w.heap.size) (hz : ∀ r ∈ rs, PrZ r) (hrl : rs.length ≤ 10000000) (hs63 : sy ≤ 9223372036854775807) :
    Calls Tryd.prog 25 #[.slice (some ⟨G, 0, none⟩) rs.length c, .int .i64 sy] w fun e w' => (∃ v, e = .returned v) ∧ Hid (YP w' lo G rs ∧ Below lo w w') := by
  obtain ⟨n, hn⟩ : ∃ x, x = rs.length := ⟨_, rfl⟩
  have HP : Hid (YP w lo G rs ∧ Below lo w w) := hid0 ⟨hP, Below.refl _ _⟩
  have HN := hid0 hn
  have HZ := hid0 hz
  rw [← hn] at hrl ⊢
  clear hP hn hz
  go_enter Tryd.func25, Tryd.ntmps25
  go_wp2
  go_loopw [4] (fun q wr => ∃ k : Nat, k ≤ n ∧ q = .int .i64 (k : Int) ∧ Hid (YP wr lo G rs ∧ Below lo w wr)) (fun q _ => n - (intOf q).toNat)
  case atStart => exact ⟨0, Nat.zero_le _, rfl, HP⟩
  case round =>
    clear HP
    obtain ⟨k, hk, rfl, HY⟩ := hrel
    by_cases hlt : k < n
    · have hkI : (k : Int) < (n : Int) := by omega
      have hkI0 : (0 : Int) ≤ (k : Int) := by omega
      have hkr : k < rs.length := by rw [← HN.out]; exact hlt
      have hls : lo ≤ wr.heap.size := Nat.le_trans hlo HY.out.2.size
      obtain ⟨aL, aF, aA, aO, cL, cF, cA, cO, em, an, y0, y1, y2, y3, y4, y5, y6, r1, r2, r3, r4⟩ := HY.out.1.at' k hkr
      have hzk := HZ.out _ (List.getElem_mem hkr)
      obtain ⟨r, hr⟩ : ∃ r, r = rs[k] := ⟨_, rfl⟩
      rw [← hr] at y0 y1 y2 y3 r1 r2 r3 r4 hzk
      obtain ⟨w1, hw1⟩ : ∃ w1, w1 = wr.alloc (.cells #[.slice aL r.Le.length cL, .slice aF r.Fi.length cF, .slice aA r.La.length cA, .slice aO r.Fo.length cO, .bool em] 46) := ⟨_, rfl⟩
      have hb1 : Below wr.heap.size wr w1 := by rw [hw1]; exact (Below.refl _ _).alloc (Nat.le_refl _) _
      have hr1 : w1.heap[wr.heap.size]? = some (.cells #[.slice aL r.Le.length cL, .slice aF r.Fi.length cF, .slice aA r.La.length cA, .slice aO r.Fo.length cO, .bool em] 46 (0, 0)) := by rw [hw1]; exact heap_alloc_new wr _
      obtain ⟨P, hPe⟩ : ∃ P, P = wr.heap.size := ⟨_, rfl⟩
      rw [← hPe] at hr1
      obtain ⟨x0, x1, x2, x3, _⟩ := row5 hr1
      have HS : Hid (BnS w w1 lo G P rs r aL aF aA aO cL cF cA cO em) := hid0 ⟨HY.out.1.past hb1, r1.past hb1, r2.past hb1, r3.past hb1, r4.past hb1, x0, x1, x2, x3, HY.out.2.trans (hb1.mono hls)⟩
      have hfold := hw1.symm
      have l1 := hzk.l1
      have l2 := hzk.l2
      have l3 := hzk.l3
      have l4 := hzk.l4
      have HZr := hid0 hzk
      clear hw1 hb1 hr1 x0 x1 x2 x3 r1 r2 r3 r4 hr HY hzk y6
      go_wp2
      rw [← hPe] at *
      clear y0 y1 y2 y3 y4 y5 hfold
      go_loopw [6] (fun q wr => ∃ i : Nat, i ≤ r.Le.length ∧ q = .int .i64 (i : Int) ∧ Hid (BnS w wr lo G P rs r aL aF aA aO cL cF cA cO em)) (fun q _ => r.Le.length - (intOf q).toNat)
      case atStart => exact ⟨0, Nat.zero_le _, rfl, HS⟩
      case round =>
        clear HS
        obtain ⟨i, hi, rfl, HS⟩ := hrel
        have x0 := HS.out.b0
        by_cases hil : i < r.Le.length
        · obtain ⟨bb, oo, rfl, hbb, a1, c1, d1, e1⟩ := HS.out.le.at' i hil
          obtain ⟨m, hm⟩ : ∃ m, m = (r.Le[i]).length := ⟨_, rfl⟩
          have hml : m ≤ 4000000 := by rw [hm]; exact HZr.out.r1 _ (List.getElem_mem hil)
          rw [← hm] at d1 e1
          have HE := hid0 e1
          clear e1 hm
          generalize r.Le.length = nL at *
          have hiI : (i : Int) < (nL : Int) := by omega
          have hiI0 : (0 : Int) ≤ (i : Int) := by omega
          by_cases hm1 : m = 1
          · obtain ⟨b1, o1, z, rfl, hlb, d2, f2⟩ := HE.out.one hm1
            subst hm1
            by_cases hs0 : sy > 0
            · have hw : IntKind.i64.wrap (sy - 1) = sy - 1 := by rw [IntKind.wrap_i64]; omega
              have HS2 := hid0 (HS.out.setI d2 hlb (sy - 1))
              go_wp2
              go_roundw
              case rel => exact ⟨i + 1, by omega, by go_num, HS2⟩
              case measure => simp [intOf]; omega
            · go_wp2
              go_roundw
              case rel => exact ⟨i + 1, by omega, by go_num, HS⟩
              case measure => simp [intOf]; omega
          · have hm1I : ¬ (m : Int) = 1 := by omega
            go_wp2
            go_roundw
            case rel => exact ⟨i + 1, by omega, by go_num, HS⟩
            case measure => simp [intOf]; omega
        · have hiI : ¬ (i : Int) < (r.Le.length : Int) := by omega
          have HS0 := HS
          clear HS
          go_wp2
          clear x0
          go_loopw [7] (fun q wr => ∃ i : Nat, i ≤ r.Fo.length ∧ q = .int .i64 (i : Int) ∧ Hid (BnS w wr lo G P rs r aL aF aA aO cL cF cA cO em)) (fun q _ => r.Fo.length - (intOf q).toNat)
          case atStart => exact ⟨0, Nat.zero_le _, rfl, HS0⟩
          case round =>
            clear HS0
            obtain ⟨i, hi, rfl, HS⟩ := hrel
            have x3 := HS.out.b3
            by_cases hil : i < r.Fo.length
            · obtain ⟨bb, oo, rfl, hbb, a1, c1, d1, e1⟩ := HS.out.fo.at' i hil
              obtain ⟨m, hm⟩ : ∃ m, m = (r.Fo[i]).length := ⟨_, rfl⟩
              have hml : m ≤ 4000000 := by rw [hm]; exact HZr.out.r4 _ (List.getElem_mem hil)
              rw [← hm] at d1 e1
              have HE := hid0 e1
              clear e1 hm
              generalize r.Fo.length = nO at *
              have hiI : (i : Int) < (nO : Int) := by omega
              have hiI0 : (0 : Int) ≤ (i : Int) := by omega
              by_cases hm1 : m = 1
              · obtain ⟨b1, o1, z, rfl, hlb, d2, f2⟩ := HE.out.one hm1
                subst hm1
                have HS2 := hid0 (HS.out.setI d2 hlb 0)
                go_wp2
                go_roundw
                case rel => exact ⟨i + 1, by omega, by go_num, HS2⟩
                case measure => simp [intOf]; omega
              · have hm1I : ¬ (m : Int) = 1 := by omega
                go_wp2
                go_roundw
                case rel => exact ⟨i + 1, by omega, by go_num, HS⟩
                case measure => simp [intOf]; omega
            · have hiI : ¬ (i : Int) < (r.Fo.length : Int) := by omega
              have x0 := HS.out.b0
              have x1 := HS.out.b1
              have x2 := HS.out.b2
              have hw : IntKind.i64.wrap ((r.Le.length : Int) - 1) = (r.Le.length : Int) - 1 := by rw [IntKind.wrap_i64]; omega
              have HFi := hid0 HS.out.fi
              have HLa := hid0 HS.out.la
              generalize r.Fo.length = nO at *
              generalize r.Le.length = nL at *
              obtain ⟨nF, hnF⟩ : ∃ x, x = r.Fi.length := ⟨_, rfl⟩
              obtain ⟨nA, hnA⟩ : ∃ x, x = r.La.length := ⟨_, rfl⟩
              rw [← hnF] at x1 HFi
              rw [← hnA] at x2 HLa
              clear hnF hnA
              by_cases hF1 : nF = 1
              · obtain ⟨bF, oF, zF, rfl, hlF, dF, fF⟩ := HFi.out.one hF1
                have HS2 := hid0 (HS.out.setI dF hlF 0)
                have HLa2 := hid0 (HLa.out.setI dF 0)
                have x0' := cell_keepI (z := 0) dF x0 (by simp)
                have x2' := cell_keepI (z := 0) dF x2 (by simp)
                subst hF1
                by_cases hA1 : nA = 1
                · obtain ⟨bA, oA, zA, rfl, hlA, dA, fA⟩ := HLa2.out.one hA1
                  have HS3 := hid0 (HS2.out.setI dA hlA ((nL : Int) - 1))
                  subst hA1
                  go_wp2
                  go_roundw
                  case rel => exact ⟨k + 1, by omega, by go_num, hid0 ⟨HS3.out.yp, HS3.out.bel⟩⟩
                  case measure => simp [intOf]; omega
                · have hA1I : ¬ (nA : Int) = 1 := by omega
                  go_wp2
                  go_roundw
                  case rel => exact ⟨k + 1, by omega, by go_num, hid0 ⟨HS2.out.yp, HS2.out.bel⟩⟩
                  case measure => simp [intOf]; omega
              · have hF1I : ¬ (nF : Int) = 1 := by omega
                by_cases hA1 : nA = 1
                · obtain ⟨bA, oA, zA, rfl, hlA, dA, fA⟩ := HLa.out.one hA1
                  have HS3 := hid0 (HS.out.setI dA hlA ((nL : Int) - 1))
                  subst hA1
                  go_wp2
                  go_roundw
                  case rel => exact ⟨k + 1, by omega, by go_num, hid0 ⟨HS3.out.yp, HS3.out.bel⟩⟩
                  case measure => simp [intOf]; omega
                · have hA1I : ¬ (nA : Int) = 1 := by omega
                  go_wp2
                  go_roundw
                  case rel => exact ⟨k + 1, by omega, by go_num, hid0 ⟨HS.out.yp, HS.out.bel⟩⟩
                  case measure => simp [intOf]; omega
    · have hkI : ¬ (k : Int) < (n : Int) := by omega
      go_wp2
      go_end0
      exact ⟨⟨_, rfl⟩, HY⟩
end Go.Proofs.YtbbejfkgopcjoaaDoor
