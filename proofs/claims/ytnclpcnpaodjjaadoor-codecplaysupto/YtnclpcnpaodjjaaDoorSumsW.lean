/-
  The walk of caesuralaw1.CodecSums.
-/
import Derived.Test.YtnclpcnpaodjjaaDoorKeptW
namespace Go.Proofs.YtnclpcnpaodjjaaDoor
open Go.RowKit
theorem alloc_below (w : World) (o : Obj) : Below w.heap.size w (w.alloc o) := (Below.refl _ _).alloc (Nat.le_refl _) o
/-- What spare hands back, its shape written out. -/
theorem spare_at (s : ByteArray) (w : World) (hs : s.size ≤ 140737488351232) :
    Calls Tryd.prog 6 #[.string s] w fun e w' => ∃ g cap, e = .returned (.slice (some ⟨g, 0, none⟩) (s.size + 64) cap) ∧ w.heap.size ≤ g ∧ g < w'.heap.size ∧ s.size + 64 ≤ cap ∧
      Own w' w.heap.size (.slice (some ⟨g, 0, none⟩) (s.size + 64) cap) (s.data.toList ++ marks 64) ∧ Below w.heap.size w w' := by
  refine (spare_any s w hs).mono ?_
  rintro e w' ⟨v, rfl, hown, hbel⟩
  have hlen : (s.data.toList ++ marks 64).length = s.size + 64 := by simp [marks_length]
  have h0 := hown
  unfold Own at hown
  rw [hlen] at hown
  rcases hown.2 with ⟨rfl, hn⟩ | ⟨g, cap, cur, rfl, hg, hh, hcap, _⟩
  · omega
  · exact ⟨g, cap, rfl, hg, (Array.getElem?_eq_some_iff.1 hh).1, hcap, h0, hbel⟩
/-- The cells of an owned row. -/
theorem Own.cell {w : World} {base g n cap : Nat} {l : List UInt8} (h : Own w base (.slice (some ⟨g, 0, none⟩) n cap) l) (k : Nat) (hk : k < l.length) : w.cell? ⟨g, 0 + k, none⟩ = some (.int .u8 (l[k].toNat : Int)) := by
  rcases h.bytesAt with ⟨h', _⟩ | ⟨b, off, c, h', hc⟩
  · simp at h'
  · simp only [Value.slice.injEq, Option.some.injEq, Addr.mk.injEq, and_true] at h'
    obtain ⟨⟨rfl, rfl⟩, _, _⟩ := h'
    exact hc k hk
theorem Own.front {w : World} {base g n cap : Nat} {l m : List UInt8} {c : Nat} (h : Own w base (.slice (some ⟨g, 0, none⟩) n cap) (l ++ m)) (hc : c = l.length) : BytesAt w (.slice (some ⟨g, 0, none⟩) c cap) l := by
  subst hc
  refine .inr ⟨g, 0, cap, rfl, fun k hk => ?_⟩
  rw [h.cell k (by simp; omega), List.getElem_append_left hk]
theorem Own.kept {w w' : World} {base g n cap B : Nat} {l : List UInt8} (h : Own w base (.slice (some ⟨g, 0, none⟩) n cap) l) (hb : Below B w w') (hg : g < B) : Own w' base (.slice (some ⟨g, 0, none⟩) n cap) l := by
  obtain ⟨h1, h2⟩ := h
  refine ⟨h1, ?_⟩
  rcases h2 with h2 | ⟨g', cap', cur, hv, hg', hh, r⟩
  · exact .inl h2
  · refine .inr ⟨g', cap', cur, hv, hg', ?_, r⟩
    simp only [Value.slice.injEq, Option.some.injEq, Addr.mk.injEq, and_true] at hv
    obtain ⟨rfl, _, _⟩ := hv
    rw [hb.block g hg]; exact hh
theorem Own.free {w : World} {base g n cap : Nat} {l : List UInt8} (h : Own w base (.slice (some ⟨g, 0, none⟩) n cap) l) (k : Nat) : w.frozen? ⟨g, k, none⟩ = false := by
  have h0 := h
  rcases h.2 with ⟨h', _⟩ | ⟨g', cap', cur, h', _⟩
  · simp at h'
  · simp only [Value.slice.injEq, Option.some.injEq, Addr.mk.injEq, and_true] at h'
    obtain ⟨_, rfl, _⟩ := h'
    exact World.ownsRow.frozenAt h0 k
theorem Own.lt_size {w : World} {base g n cap : Nat} {l : List UInt8} (h : Own w base (.slice (some ⟨g, 0, none⟩) n cap) l) : g < w.heap.size := (World.ownsRow.lt h g rfl).2
theorem inMem_at {w : World} {g n cap : Nat} (h : g < w.heap.size) : InMem w (.slice (some ⟨g, 0, none⟩) n cap) := by
  intro b off c m e
  simp only [Value.slice.injEq, Option.some.injEq, Addr.mk.injEq, and_true] at e
  omega
/-- The same list, with other bytes in its first k places. -/
def other (k : Nat) : List UInt8 := (List.range k).map fun j => UInt8.ofNat (j + 1)
def over (l : List UInt8) (k : Nat) : List UInt8 := other k ++ l.drop k
theorem other_length (k : Nat) : (other k).length = k := by simp [other]
theorem over_zero (l : List UInt8) : over l 0 = l := by simp [over, other]
theorem over_length (l : List UInt8) (k : Nat) (h : k ≤ l.length) : (over l k).length = l.length := by simp [over, other_length]; omega
theorem over_succ (l : List UInt8) (k : Nat) (h : k < l.length) : over l (k + 1) = (over l k).set k (UInt8.ofNat (k + 1)) := by
  unfold over
  rw [List.set_append_right _ _ (by rw [other_length]; omega), other_length, Nat.sub_self, List.drop_eq_getElem_cons h, List.set_cons_zero]
  simp [other, List.range_succ]
theorem over_at (l m : List UInt8) : over (l ++ m) l.length = other l.length ++ m := by simp [over]
theorem Own.stored {w : World} {base g n cap : Nat} {l : List UInt8} (h : Own w base (.slice (some ⟨g, 0, none⟩) n cap) l) (k : Nat) (c : UInt8) :
    Own (w.setCell ⟨g, k, none⟩ (.int .u8 (c.toNat : Int))) base (.slice (some ⟨g, 0, none⟩) n cap) (l.set k c) := by
  have h0 := h
  rcases h.2 with ⟨h', _⟩ | ⟨g', cap', cur, h', _⟩
  · simp at h'
  · simp only [Value.slice.injEq, Option.some.injEq, Addr.mk.injEq, and_true] at h'
    obtain ⟨_, rfl, _⟩ := h'
    have := (World.ownsRow.stored h0 k (.int .u8 (c.toNat : Int))).1
    unfold Own
    rw [List.length_set]
    simpa [cellsOf, List.map_set] using this
/-- The boxed parameter's two cells, later on. -/
theorem box2 {w w2 : World} {a b : Value} {t : TypeId} (h : Below (w.heap.size + 1) (w.alloc (.cells #[a, b] t)) w2) :
    w2.cell? ⟨w.heap.size, 0, none⟩ = some a ∧ w2.cell? ⟨w.heap.size, 1, none⟩ = some b :=
  ⟨(h.cell (p := ⟨w.heap.size, 0, none⟩) (by simp)).trans (by simp), (h.cell (p := ⟨w.heap.size, 1, none⟩) (by simp)).trans (by simp)⟩
end Go.Proofs.YtnclpcnpaodjjaaDoor
