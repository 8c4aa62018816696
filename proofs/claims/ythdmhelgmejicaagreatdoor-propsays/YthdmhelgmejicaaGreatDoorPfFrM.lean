/-
  What propfile's reading keeps; its state in memory.
-/
import Derived.Test.YthdmhelgmejicaaGreatDoorPfPlM
import Derived.Test.YthdmhelgmejicaaGreatDoorPfMk2W
import Derived.RangeFuncOwn
namespace Go.Proofs.YthdmhelgmejicaaGreatDoor
open Go.RowKit Go.Shelf
/-- w' is w below base, but for the blocks R and G; what is no row stays. -/
structure Frm (base R G : Nat) (w w' : World) : Prop where
  os : w'.os = w.os
  tape : w'.tape = w.tape
  output : w'.output = w.output
  size : w.heap.size ≤ w'.heap.size
  kept : ∀ i, i < base → i < w.heap.size → ¬ i = R → ¬ i = G → w'.heap[i]? = w.heap[i]?
  others : KeepsOthers w w'
theorem Frm.refl (base R G : Nat) (w : World) : Frm base R G w w := ⟨rfl, rfl, rfl, Nat.le_refl _, fun _ _ _ _ _ => rfl, KeepsOthers.refl w⟩
theorem Frm.trans {base R G : Nat} {a b c : World} (h : Frm base R G a b) (k : Frm base R G b c) : Frm base R G a c :=
  ⟨k.os.trans h.os, k.tape.trans h.tape, k.output.trans h.output, Nat.le_trans h.size k.size, fun i hi hl h1 h2 => (k.kept i hi (Nat.lt_of_lt_of_le hl h.size) h1 h2).trans (h.kept i hi hl h1 h2), h.others.trans k.others⟩
theorem Frm.ofBelow {base R G : Nat} {w w' : World} (h : Below w.heap.size w w') : Frm base R G w w' :=
  ⟨h.os, h.tape, h.output, h.size, fun i _ hl _ _ => h.block i hl, ⟨h.size, fun k _ hk _ => (h.block k (Array.getElem?_eq_some_iff.1 hk).1).trans hk⟩⟩
theorem Frm.alloc {base R G : Nat} (w : World) (o : Obj) : Frm base R G w (w.alloc o) := Frm.ofBelow ((Below.refl _ _).alloc (Nat.le_refl _) o)
theorem Frm.drewN {base R G : Nat} (w : World) (n : Nat) : Frm base R G w (w.drewN n) := ⟨rfl, rfl, rfl, Nat.le_refl _, fun _ _ _ _ _ => rfl, ⟨Nat.le_refl _, fun _ _ h _ => h⟩⟩
theorem Frm.setCell {base R G : Nat} (w : World) (b off : Nat) (u : Value) (h : b = R ∨ b = G ∨ base ≤ b) : Frm base R G w (w.setCell ⟨b, off, none⟩ u) :=
  ⟨rfl, rfl, rfl, by simp [World.setCell], fun i hi _ h1 h2 => Below.heap_setCell w _ u i (fun e => by have e' : i = b := e; rcases h with h | h | h; exact h1 (e'.trans h); exact h2 (e'.trans h); omega), KeepsOthers.setCell w _ u⟩
theorem Frm.grown {base R G : Nat} {w w' : World} {row : Option Nat} (hg : w.grownBy w' row) (hr : ∀ g, row = some g → base ≤ g ∧ ∃ c t z, w.heap[g]? = some (.cells c t z)) : Frm base R G w w' :=
  ⟨hg.os, hg.tape, hg.output, hg.size, fun i hi hl _ _ => hg.block i hl (fun e => by have := (hr i e.symm).1; omega), KeepsOthers.of_grownBy hg (fun j o e ho => by obtain ⟨_, c, t, z, h⟩ := hr j e; rw [h] at ho; obtain rfl := Option.some.inj ho; rfl)⟩
theorem Frm.ofOnly {base R G : Nat} {w w' : World} (h : Only w w' (fun i => i = G)) (hG : ∃ c t z, w.heap[G]? = some (.cells c t z)) : Frm base R G w w' :=
  ⟨h.os, h.tape, h.output, h.size, fun i _ hl _ h2 => h.block i hl h2, ⟨h.size, fun k o hk ho => (h.block k (Array.getElem?_eq_some_iff.1 hk).1 (fun e => by subst e; obtain ⟨c, t, z, hc⟩ := hG; rw [hc] at hk; obtain rfl := Option.some.inj hk; simp [Obj.isCells] at ho)).trans hk⟩⟩
theorem Frm.below {base R G b : Nat} {w w' : World} (h : Frm base R G w w') (h0 : b ≤ base) (h1 : b ≤ R) (h2 : b ≤ G) (h3 : b ≤ w.heap.size) : Below b w w' :=
  ⟨h.os, h.tape, h.output, h.size, fun i hi => h.kept i (by omega) (by omega) (by omega) (by omega)⟩
theorem row_cells {w : World} {base : Nat} {t : TypeId} {s n : Nat} {v : Value} {xs : List Value} (h : w.ownsRow base t s v n xs) : ∀ g, v.ownBlock = some g → base ≤ g ∧ ∃ c t z, w.heap[g]? = some (.cells c t z) := by
  rcases h.2 with ⟨rfl, _⟩ | ⟨g, cap, cur, rfl, hb, hh, _⟩
  · intro g hg; simp [Value.ownBlock] at hg
  · intro g' hg'
    simp only [Value.ownBlock, Option.some.injEq] at hg'
    subst hg'
    exact ⟨hb, _, _, _, hh⟩
/-- Is a point said? -/
def saidB (cl : List Sp) (q : Nat) : Bool := cl.any fun t => decide (t.1 ≤ (q : Int)) && decide ((q : Int) ≤ t.2.1)
theorem said_snoc (cl : List Sp) (lo hi : Nat) (n : Int) : (fun q => (decide (lo ≤ q) && decide (q ≤ hi)) || saidB cl q) = saidB (cl ++ [((lo : Int), (hi : Int), n)]) := by
  funext q
  unfold saidB
  rw [List.any_append]
  simp only [List.any_cons, List.any_nil, Bool.or_false]
  rw [Bool.or_comm]
  congr 1
  rw [Bool.eq_iff_iff]; simp
theorem said_meets (st : PS) (hk : st.Ok) (lo hi : Nat) (h : lo ≤ hi) (n : Int) : (∃ q, lo ≤ q ∧ q ≤ hi ∧ saidB st.cl q = true) ↔ st.sp.any (meets ((lo : Int), (hi : Int), n)) = true := by
  rw [List.any_eq_true]
  constructor
  · rintro ⟨q, h1, h2, h3⟩
    obtain ⟨t, ht, h4⟩ := List.any_eq_true.1 h3
    simp only [Bool.and_eq_true, decide_eq_true_eq] at h4
    refine ⟨t, (hk.mem t).2 ht, ?_⟩
    simp only [meets, Bool.and_eq_true, decide_eq_true_eq]
    omega
  · rintro ⟨t, ht, h1⟩
    simp only [meets, Bool.and_eq_true, decide_eq_true_eq] at h1
    have h2 := hk.rise.1 t ht
    have h3 := hk.bnd t ((hk.mem t).1 ht)
    refine ⟨max lo t.1.toNat, by omega, by omega, List.any_eq_true.2 ⟨t, (hk.mem t).1 ht, ?_⟩⟩
    simp only [Bool.and_eq_true, decide_eq_true_eq]
    omega
theorem row_keep {w w' : World} {base : Nat} {t : TypeId} {s n : Nat} {v : Value} {xs : List Value} (h : w.ownsRow base t s v n xs) (hk : ∀ i, base ≤ i → i < w.heap.size → w'.heap[i]? = w.heap[i]?) : w'.ownsRow base t s v n xs := by
  obtain ⟨g1, g2⟩ := h
  refine ⟨g1, ?_⟩
  rcases g2 with g2 | ⟨g, cap, cur, hv, hg, hh, r⟩
  · exact .inl g2
  · exact .inr ⟨g, cap, cur, hv, hg, (hk g hg (Array.getElem?_eq_some_iff.1 hh).1).trans hh, r⟩
theorem Pl.keep {w w' : World} {base : Nat} {v : Value} {vs : List Value} {F : Nat → List (Int × Int)} (h : Pl w base v vs F) (hk : ∀ i, base ≤ i → i < w.heap.size → w'.heap[i]? = w.heap[i]?) : Pl w' base v vs F :=
  ⟨row_keep h.outer hk, fun k h' => row_keep (h.row k h') hk, h.apart⟩
theorem Bits.cells {w : World} {R G N cap : Nat} {f : Nat → Bool} (h : Bits w R G N cap f) : ∃ c t z, w.heap[G]? = some (.cells c t z) := by
  obtain ⟨cur, h1, _⟩ := h.row
  exact ⟨_, _, _, h1⟩
/-- The reading in memory. -/
structure RS (w : World) (base R G N cap n : Nat) (names : List ByteArray) (F : Nat → List (Int × Int)) (f : Nat → Bool) (vN vP : Value) (vs : List Value) : Prop where
  box : w.heap[R]? = some (.cells #[.int .i64 (n : Int), vN, vP, .slice (some ⟨G, 0, none⟩) N cap] 58 (0, 0))
  names : OwnS w base vN names
  parts : Pl w base vP vs F
  bits : ∃ cur, w.heap[G]? = some (.cells cur 151 (0, 0)) ∧ ∀ i, i < N → cur[i]? = some (.int .u64 (wordOf f i : Int))
  ltR : R < base
  ltG : G < base
  ne : ¬ R = G
section
variable {w w' w1 : World} {base R G N cap n : Nat} {names : List ByteArray} {F : Nat → List (Int × Int)} {f : Nat → Bool} {vN vP : Value} {vs : List Value}
theorem RS.cell (h : RS w base R G N cap n names F f vN vP vs) : w.cell? ⟨R, 0, none⟩ = some (.int .i64 (n : Int)) ∧ w.cell? ⟨R, 1, none⟩ = some vN ∧ w.cell? ⟨R, 2, none⟩ = some vP ∧ w.cell? ⟨R, 3, none⟩ = some (.slice (some ⟨G, 0, none⟩) N cap) ∧ ∀ j, w.frozen? ⟨R, j, none⟩ = false :=
  ⟨by rw [cell_of_row _ _ _ _ _ _ h.box]; rfl, by rw [cell_of_row _ _ _ _ _ _ h.box]; rfl, by rw [cell_of_row _ _ _ _ _ _ h.box]; rfl, by rw [cell_of_row _ _ _ _ _ _ h.box]; rfl, fun j => frozen_of_row _ _ _ _ _ h.box⟩
theorem RS.bit (h : RS w base R G N cap n names F f vN vP vs) : Bits w R G N cap f := ⟨h.cell.2.2.2.1, h.bits, h.ne⟩
theorem RS.later (h : RS w base R G N cap n names F f vN vP vs) (hb : Below w.heap.size w w') : RS w' base R G N cap n names F f vN vP vs := by
  obtain ⟨cur, h1, h2⟩ := h.bits
  exact ⟨(hb.block R (Array.getElem?_eq_some_iff.1 h.box).1).trans h.box, row_later h.names hb, h.parts.later hb, ⟨cur, (hb.block G (Array.getElem?_eq_some_iff.1 h1).1).trans h1, h2⟩, h.ltR, h.ltG, h.ne⟩
theorem RS.drewN (h : RS w base R G N cap n names F f vN vP vs) (k : Nat) : RS (w.drewN k) base R G N cap n names F f vN vP vs := h.later ⟨rfl, rfl, rfl, Nat.le_refl _, fun _ _ => rfl⟩
theorem RS.count (h : RS w base R G N cap n names F f vN vP vs) (m : Nat) : RS (w.setCell ⟨R, 0, none⟩ (.int .i64 (m : Int))) base R G N cap m names F f vN vP vs := by
  obtain ⟨cur, h1, h2⟩ := h.bits
  exact ⟨heap_setCell_same w R 0 _ _ _ h.box, ownsRow_setCell_below h.names h.ltR _, h.parts.below h.ltR _, ⟨cur, (Below.heap_setCell w _ _ G (fun e => h.ne e.symm)).trans h1, h2⟩, h.ltR, h.ltG, h.ne⟩
theorem RS.setN (h : RS w base R G N cap n names F f vN vP vs) {vN' : Value} {names' : List ByteArray} (hN : OwnS w base vN' names') : RS (w.setCell ⟨R, 1, none⟩ vN') base R G N cap n names' F f vN' vP vs := by
  obtain ⟨cur, h1, h2⟩ := h.bits
  exact ⟨heap_setCell_same w R 1 _ _ _ h.box, ownsRow_setCell_below hN h.ltR _, h.parts.below h.ltR _, ⟨cur, (Below.heap_setCell w _ _ G (fun e => h.ne e.symm)).trans h1, h2⟩, h.ltR, h.ltG, h.ne⟩
theorem RS.setP (h : RS w base R G N cap n names F f vN vP vs) {vP' : Value} {vs' : List Value} {F' : Nat → List (Int × Int)} (hP : Pl w base vP' vs' F') : RS (w.setCell ⟨R, 2, none⟩ vP') base R G N cap n names F' f vN vP' vs' := by
  obtain ⟨cur, h1, h2⟩ := h.bits
  exact ⟨heap_setCell_same w R 2 _ _ _ h.box, ownsRow_setCell_below h.names h.ltR _, hP.below h.ltR _, ⟨cur, (Below.heap_setCell w _ _ G (fun e => h.ne e.symm)).trans h1, h2⟩, h.ltR, h.ltG, h.ne⟩
theorem RS.mark (h : RS w base R G N cap n names F f vN vP vs) {f' : Nat → Bool} (ho : Only w w' (fun i => i = G)) (hb : Bits w' R G N cap f') : RS w' base R G N cap n names F f' vN vP vs :=
  have hk : ∀ i, base ≤ i → i < w.heap.size → w'.heap[i]? = w.heap[i]? := fun i hi hl => ho.block i hl (fun e => by have := h.ltG; omega)
  ⟨(ho.block R (Array.getElem?_eq_some_iff.1 h.box).1 h.ne).trans h.box, row_keep h.names hk, h.parts.keep hk, hb.row, h.ltR, h.ltG, h.ne⟩
/-- A row of the reading's own has grown: the other parts stand as they stood. -/
theorem RS.grown (h : RS w base R G N cap n names F f vN vP vs) {row : Option Nat} (hg : w.grownBy w' row) (hr : ∀ g, row = some g → base ≤ g) : w'.heap[R]? = w.heap[R]? ∧ w'.heap[G]? = w.heap[G]? := by
  obtain ⟨cur, h1, h2⟩ := h.bits
  exact ⟨hg.block R (Array.getElem?_eq_some_iff.1 h.box).1 (fun e => by have := hr R e.symm; have := h.ltR; omega), hg.block G (Array.getElem?_eq_some_iff.1 h1).1 (fun e => by have := hr G e.symm; have := h.ltG; omega)⟩
theorem RS.name {c : ByteArray} {vN' : Value} {o : Obj} {m : Nat} (hm : m = names.length) (h : RS w base R G N cap n names F f vN vP vs) (hown' : w1.ownsRow base 9 1 vN' (m + 1) (cellsS names ++ [.string c])) (hgrow : (w.alloc o).grownBy w1 vN.ownBlock) :
    RS (w1.setCell ⟨R, 1, none⟩ vN') base R G N cap n (names ++ [c]) F f vN' vP vs := by
  subst hm
  have h2 := h.later ((Below.refl _ _).alloc (Nat.le_refl _) o)
  have hN2 : (w.alloc o).ownsRow base 9 1 vN names.length (cellsS names) := h2.names
  obtain ⟨e1, e2⟩ := h2.grown hgrow (fun g hg => (World.ownsRow.lt hN2 g hg).1)
  obtain ⟨cur, b1, b2⟩ := h2.bits
  have hN : OwnS w1 base vN' (names ++ [c]) := by
    unfold OwnS
    rw [List.length_append, List.length_singleton, cellsS, List.map_append]
    exact hown'
  have hP := h2.parts.kept hN2 (by decide) (by decide) hgrow
  obtain ⟨x1, x2, x3, x4, x5, x6, x7⟩ := h2
  exact ⟨heap_setCell_same w1 R 1 _ _ _ (e1.trans x1), ownsRow_setCell_below hN h.ltR _, hP.below h.ltR _, ⟨cur, (Below.heap_setCell w1 _ _ G (fun e => h.ne e.symm)).trans (e2.trans b1), b2⟩, h.ltR, h.ltG, h.ne⟩
theorem RS.part {vP' : Value} {o : Obj} {m : Nat} (hm : m = vs.length) (h : RS w base R G N cap n names F f vN vP vs) (hF : F m = []) (hown' : w1.ownsRow base 93 1 vP' (m + 1) (vs ++ [.slice none 0 0])) (hgrow : (w.alloc o).grownBy w1 vP.ownBlock) :
    RS (w1.setCell ⟨R, 2, none⟩ vP') base R G N cap n names F f vN vP' (vs ++ [.slice none 0 0]) := by
  have h2 := h.later ((Below.refl _ _).alloc (Nat.le_refl _) o)
  obtain ⟨e1, e2⟩ := h2.grown hgrow (fun g hg => (World.ownsRow.lt h2.parts.outer g hg).1)
  obtain ⟨cur, b1, b2⟩ := h2.bits
  have hN2 : (w.alloc o).ownsRow base 9 1 vN names.length (cellsS names) := h2.names
  have hN : OwnS w1 base vN names := World.ownsRow.kept hN2 hgrow (rows_ne hN2 h2.parts.outer (by decide))
  have hP := h.parts.push hm hF hown' hgrow
  exact ⟨heap_setCell_same w1 R 2 _ _ _ (e1.trans h2.box), ownsRow_setCell_below hN h.ltR _, hP.below h.ltR _, ⟨cur, (Below.heap_setCell w1 _ _ G (fun e => h.ne e.symm)).trans (e2.trans b1), b2⟩, h.ltR, h.ltG, h.ne⟩
theorem RS.range {x' : Value} {o : Obj} {m : Nat} (h : RS w base R G N cap n names F f vN vP vs) (k : Nat) (hk : k < vs.length) (r : Int × Int) (hm : m = (F k).length)
    (hown' : w1.ownsRow base 86 2 x' (m + 1) (cellsR (F k) ++ [.int .i64 r.1, .int .i64 r.2])) (hgrow : (w.alloc o).grownBy w1 vs[k].ownBlock) (hat : x'.ownBlock = vs[k].ownBlock ∨ x'.ownBlock = some (w.alloc o).heap.size)
    {gO : Nat} (hv : vP.ownBlock = some gO) : RS (w1.setCell ⟨gO, k, none⟩ x') base R G N cap n names (fun j => if j = k then F k ++ [r] else F j) f vN vP (vs.set k x') := by
  have h2 := h.later ((Below.refl _ _).alloc (Nat.le_refl _) o)
  obtain ⟨e1, e2⟩ := h2.grown hgrow (fun g hg => (World.ownsRow.lt (h2.parts.row k hk) g hg).1)
  obtain ⟨cur, b1, b2⟩ := h2.bits
  have hN2 : (w.alloc o).ownsRow base 9 1 vN names.length (cellsS names) := h2.names
  have hN : w1.ownsRow base 9 1 vN names.length (cellsS names) := World.ownsRow.kept hN2 hgrow (rows_ne hN2 (h2.parts.row k hk) (by decide))
  have hO : w1.ownsRow base 93 1 vP vs.length vs := World.ownsRow.kept h2.parts.outer hgrow (rows_ne h2.parts.outer (h2.parts.row k hk) (by decide))
  have hgO := (World.ownsRow.lt hO gO hv).1
  have hP := h.parts.grow k hk r hm hown' hgrow hat hv
  have hR := h.ltR
  have hG := h.ltG
  exact ⟨(Below.heap_setCell w1 ⟨gO, k, none⟩ x' R (fun e => by simp at e; omega)).trans (e1.trans h2.box), ownsRow_setCell_other hN (rows_ne' hN hO (by decide) hv) _, hP, ⟨cur, (Below.heap_setCell w1 ⟨gO, k, none⟩ x' G (fun e => by simp at e; omega)).trans (e2.trans b1), b2⟩, h.ltR, h.ltG, h.ne⟩
end
end Go.Proofs.YthdmhelgmejicaaGreatDoor
