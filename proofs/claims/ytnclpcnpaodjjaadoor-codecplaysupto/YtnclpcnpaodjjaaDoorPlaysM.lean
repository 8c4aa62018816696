/-
  What CodecPlays needs of its two readers side by side.
-/
import Derived.Test.YtnclpcnpaodjjaaDoorRtAnyW
import Derived.Test.YtnclpcnpaodjjaaDoorRefRtW
import Derived.Test.YtnclpcnpaodjjaaDoorKeptW
namespace Go.Proofs.YtnclpcnpaodjjaaDoor
open Go.RowKit
/-- The boxed parameter, in a later world. -/
structure LP (w wr : World) (a b c : Value) : Prop where
  bel : Below w.heap.size w wr
  box : wr.cell? ⟨w.heap.size, 0, none⟩ = some a ∧ wr.cell? ⟨w.heap.size, 1, none⟩ = some b ∧ wr.cell? ⟨w.heap.size, 2, none⟩ = some c
  lt : w.heap.size < wr.heap.size
theorem LP.next {w w2 w3 : World} {a b c : Value} (h : LP w w2 a b c) (hb : Below w2.heap.size w2 w3) : LP w w3 a b c :=
  ⟨h.bel.trans (hb.mono h.bel.size), ⟨(hb.cell (p := ⟨w.heap.size, 0, none⟩) h.lt).trans h.box.1, (hb.cell (p := ⟨w.heap.size, 1, none⟩) h.lt).trans h.box.2.1, (hb.cell (p := ⟨w.heap.size, 2, none⟩) h.lt).trans h.box.2.2⟩, Nat.lt_of_lt_of_le h.lt hb.size⟩
theorem LP.drewN {w w2 : World} {a b c : Value} (h : LP w w2 a b c) (k : Nat) : LP w (w2.drewN k) a b c := h.next (below_drewN (Below.refl _ _) k)
theorem LP.only {w w2 w3 : World} {a b c : Value} {S : Nat → Prop} (h : LP w w2 a b c) (ho : Only w2 w3 S) (hs : ∀ i, S i → w.heap.size < i) : LP w w3 a b c :=
  ⟨h.bel.trans (ho.below h.bel.size (fun i hi => Nat.le_of_lt (hs i hi))), ⟨(ho.cell (p := ⟨w.heap.size, 0, none⟩) h.lt (fun hi => Nat.lt_irrefl _ (hs _ hi))).trans h.box.1, (ho.cell (p := ⟨w.heap.size, 1, none⟩) h.lt (fun hi => Nat.lt_irrefl _ (hs _ hi))).trans h.box.2.1, (ho.cell (p := ⟨w.heap.size, 2, none⟩) h.lt (fun hi => Nat.lt_irrefl _ (hs _ hi))).trans h.box.2.2⟩, Nat.lt_of_lt_of_le h.lt ho.size⟩
theorem LP.start (w : World) (a b c : Value) (t : TypeId) : LP w (w.alloc (.cells #[a, b, c] t)) a b c :=
  ⟨alloc_below w _, by refine ⟨?_, ?_, ?_⟩ <;> (rw [cell_of_row _ w.heap.size _ _ _ _ (heap_alloc_new w _)]; rfl), by simp⟩
/-- The two readers over the same bytes, and the list that was handed in. -/
structure Pl (w wr : World) (R B g n cap : Nat) (u v a b c : Value) (L : List UInt8) (p : Nat) (m : List UInt8) : Prop where
  lp : LP w wr a b c
  hR : w.heap.size < R
  hB : w.heap.size < B
  hg : w.heap.size < g
  rd : Rd wr R u (L.drop p)
  rr : RRd wr B v L p
  gv : Own wr 0 (.slice (some ⟨g, 0, none⟩) n cap) m
theorem Pl.later {w wr w' : World} {R B g n cap : Nat} {u v a b c : Value} {L m : List UInt8} {p : Nat} (h : Pl w wr R B g n cap u v a b c L p m) (hb : Below wr.heap.size wr w') : Pl w w' R B g n cap u v a b c L p m :=
  ⟨h.lp.next hb, h.hR, h.hB, h.hg, ⟨(hb.block R h.rd.lt).trans h.rd.blk, h.rd.seg.later hb⟩, h.rr.later hb, h.gv.kept hb h.gv.lt_size⟩
theorem Pl.drewN {w wr : World} {R B g n cap : Nat} {u v a b c : Value} {L m : List UInt8} {p : Nat} (h : Pl w wr R B g n cap u v a b c L p m) (k : Nat) : Pl w (wr.drewN k) R B g n cap u v a b c L p m := h.later (below_drewN (Below.refl _ _) k)
/-- The one reader has gone on, the other has not yet. -/
structure PlH (w wr : World) (R B g n cap : Nat) (u v a b c : Value) (L : List UInt8) (p q : Nat) (m : List UInt8) : Prop where
  lp : LP w wr a b c
  hR : w.heap.size < R
  hB : w.heap.size < B
  hg : w.heap.size < g
  rd : Rd wr R u (L.drop q)
  rr : RRd wr B v L p
  gv : Own wr 0 (.slice (some ⟨g, 0, none⟩) n cap) m
theorem PlH.drewN {w wr : World} {R B g n cap : Nat} {u v a b c : Value} {L m : List UInt8} {p q : Nat} (h : PlH w wr R B g n cap u v a b c L p q m) (k : Nat) : PlH w (wr.drewN k) R B g n cap u v a b c L p q m :=
  ⟨h.lp.drewN k, h.hR, h.hB, h.hg, h.rd.drewN k, h.rr.drewN k, h.gv.kept (below_drewN (Below.refl _ _) k) h.gv.lt_size⟩
theorem Pl.first {w wr w' : World} {R B g n cap : Nat} {u u' v a b c : Value} {L m : List UInt8} {p q : Nat} (h : Pl w wr R B g n cap u v a b c L p m) (hr : Rd w' R u' (L.drop q)) (ho : Only wr w' (fun i => i = R)) : PlH w w' R B g n cap u' v a b c L p q m := by
  have hne : ¬ B = R := fun e => by
    have h1 := h.rd.blk; have h2 := h.rr.blk; rw [e, h1] at h2; simp at h2
  have hv : ∀ k, v.ownBlock = some k → ¬ k = R := fun k hk e => h.rr.own.seg.ne (t := 62) h.rd.blk (by decide) (e ▸ hk)
  have hgR : ∀ k, (Value.slice (some ⟨g, 0, none⟩) n cap).ownBlock = some k → ¬ k = R := fun k hk e => h.gv.seg.ne (t := 62) h.rd.blk (by decide) (e ▸ hk)
  exact ⟨h.lp.only ho (fun i hi => hi ▸ h.hR), h.hR, h.hB, h.hg, hr, h.rr.only ho hne hv, ho.own h.gv hgR⟩
theorem PlH.second {w wr w' : World} {R B g n cap : Nat} {u v a b c : Value} {L m : List UInt8} {p q : Nat} (h : PlH w wr R B g n cap u v a b c L p q m) (hr : RRd w' B v L q) (ho : Only wr w' (fun i => i = B)) : Pl w w' R B g n cap u v a b c L q m := by
  have hne : ¬ R = B := fun e => by
    have h1 := h.rd.blk; have h2 := h.rr.blk; rw [e, h2] at h1; simp at h1
  have hv : ∀ k, u.ownBlock = some k → ¬ k = B := fun k hk e => h.rd.seg.ne (t := 64) h.rr.blk (by decide) (e ▸ hk)
  have hgB : ∀ k, (Value.slice (some ⟨g, 0, none⟩) n cap).ownBlock = some k → ¬ k = B := fun k hk e => h.gv.seg.ne (t := 64) h.rr.blk (by decide) (e ▸ hk)
  exact ⟨h.lp.only ho (fun i hi => hi ▸ h.hB), h.hR, h.hB, h.hg, h.rd.only ho hne hv, hr, ho.own h.gv hgB⟩
/-- A refusal and its number. -/
def KN (Z : Nat → Addr) (E : Value) (c : Int) : Prop := ∀ W, Sents W Z → Calls Tryd.prog 15 #[E] W fun e w' => e = .returned (.int .i64 c) ∧ w' = W
theorem kn_nil (Z : Nat → Addr) : KN Z .nilIface 0 := fun W _ => kitNum_nil W
theorem kn_many (Z : Nat → Addr) : KN Z (.iface 87 (.pointer (some (Z 2)))) 3 := fun W h => kitNum_at W Z h 2 (by omega)
theorem kn_short (Z : Nat → Addr) : KN Z (.iface 87 (.pointer (some (Z 3)))) 4 := fun W h => kitNum_at W Z h 3 (by omega)
theorem kn_form (Z : Nat → Addr) : KN Z (.iface 87 (.pointer (some (Z 9)))) 10 := fun W h => kitNum_at W Z h 9 (by omega)
/-- What both readers' Text answer. -/
theorem text_out (Z : Nat → Addr) (L : List UInt8) (p : Nat) (most : Int) (hp : p ≤ L.length) :
    ∃ s E c q, q ≤ L.length ∧ rdTextVal (.iface 87 (.pointer (some (Z 3)))) (.iface 87 (.pointer (some (Z 9)))) (.iface 87 (.pointer (some (Z 2)))) (L.drop p) most (num (L.drop p)) = .tuple #[.string s, E] ∧ rdTextRest (L.drop p) most (num (L.drop p)) = L.drop q ∧
      textVal (L.drop p) most (num (L.drop p)) = .tuple #[.string s, .int .i64 c] ∧ textAt (L.drop p) most p (num (L.drop p)) = q ∧ KN Z E c := by
  cases num (L.drop p) with
  | form => exact ⟨_, _, _, p, hp, rfl, rfl, rfl, rfl, kn_form Z⟩
  | short => exact ⟨_, _, _, p, hp, rfl, rfl, rfl, rfl, kn_short Z⟩
  | ok n k =>
    by_cases h1 : most < (n : Int)
    · simp only [rdTextVal, rdTextRest, textVal, textAt, if_pos h1]
      exact ⟨_, _, _, p, hp, rfl, rfl, rfl, rfl, kn_many Z⟩
    · by_cases h2 : (L.drop p).length < k + n
      · simp only [rdTextVal, rdTextRest, textVal, textAt, if_neg h1, if_pos h2]
        exact ⟨_, _, _, p, hp, rfl, rfl, rfl, rfl, kn_short Z⟩
      · simp only [rdTextVal, rdTextRest, textVal, textAt, if_neg h1, if_neg h2]
        exact ⟨_, _, _, p + (k + n), by simp at h2; omega, rfl, by rw [List.drop_drop], rfl, rfl, kn_nil Z⟩
/-- What both readers' Num answer. -/
theorem num_out (Z : Nat → Addr) (L : List UInt8) (p : Nat) (hp : p ≤ L.length) :
    ∃ x E c q, q ≤ L.length ∧ rdVal (.iface 87 (.pointer (some (Z 3)))) (.iface 87 (.pointer (some (Z 9)))) (num (L.drop p)) = .tuple #[.int .i64 x, E] ∧ rdRest (L.drop p) (num (L.drop p)) = L.drop q ∧
      refVal (num (L.drop p)) = .tuple #[.int .i64 x, .int .i64 c] ∧ refAt p (num (L.drop p)) = q ∧ KN Z E c := by
  cases hr : num (L.drop p) with
  | form => exact ⟨_, _, _, p, hp, rfl, rfl, rfl, rfl, kn_form Z⟩
  | short => exact ⟨_, _, _, p, hp, rfl, rfl, rfl, rfl, kn_short Z⟩
  | ok n k =>
    have h2 := (numFrom_le 0 0 _ n k hr).2
    exact ⟨_, _, _, p + k, by simp at h2; omega, rfl, by rw [rdRest, List.drop_drop], rfl, rfl, kn_nil Z⟩
theorem num_seven (k : Nat) : num (List.replicate (k + 1) 7) = .ok 7 1 := by
  rw [List.replicate_succ]; simp [num, numFrom]
end Go.Proofs.YtnclpcnpaodjjaaDoor
