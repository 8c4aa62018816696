/-
  The walks of caesuralaw2.first and caesuralaw2.UnitsPieces.
-/
import Derived.Test.YtoopigkndomdgabDoorSameUW
import Derived.Test.YtoopigkndomdgabDoorPiecesM
import Derived.Laws.Concat
import Derived.Deep.RegionHeld3
namespace Go.Proofs.YtoopigkndomdgabDoor
open Go.RowKit
theorem first_units : unitsOf (⟨#[97, 195, 169, 128]⟩ : ByteArray).data.toList = [(97, 0, 1), (233, 1, 3), (-1, 3, 4)] := by decide +kernel
theorem units_of_new (w : World) (us : List (Int × Nat × Nat)) (n : Nat) (cs : Array Value) (hn : n = us.length) (hc : cs.toList = cellsU us) (t : TypeId) : UnitsAt (w.alloc (.cells cs t)) (.slice (some ⟨w.heap.size, 0, none⟩) n n) us := by
  subst hn
  refine .inr ⟨w.heap.size, 0, _, rfl, fun k hk => ?_⟩
  obtain ⟨a, b, c⟩ := cellsU_at us k hk
  rw [cell_of_row _ w.heap.size _ _ _ _ (heap_alloc_new w _), cell_of_row _ w.heap.size _ _ _ _ (heap_alloc_new w _), cell_of_row _ w.heap.size _ _ _ _ (heap_alloc_new w _), Nat.zero_add]
  rw [← Array.getElem?_toList, ← Array.getElem?_toList, ← Array.getElem?_toList, hc]
  exact ⟨a, b, c⟩
set_option maxRecDepth 10000 in
set_option maxHeartbeats 400000 in
theorem first_any (w : World) (hT : SeqAt w) :
    Calls Tryd.prog 6 #[] w fun e w' => e = .returned (.bool true) ∧ Below w.heap.size w w' := by
  have hs := split_any ⟨#[97, 195, 169, 128]⟩ (by decide) w hT
  rw [first_units] at hs
  have HS := hid hs
  clear hs hT
  go_enter Tryd.func6, Tryd.ntmps6
  go_wp2_with (first
    | (go_at_call 7; refine HS.out.mono ?_; rintro e w1 ⟨v1, rfl, ho1, hb1⟩; have HO1 := hid ho1; clear ho1)
    | (go_at_call 17; refine (sameU_any [(97, 0, 1), (233, 1, 3), (-1, 3, 4)] _ _ _ (by decide) (HO1.out.later (alloc_below _ _)).at (units_of_new _ _ _ _ rfl rfl _)).mono ?_; rintro e w3 ⟨rfl, q, rfl⟩)
    | fail)
  go_ret
  exact ⟨rfl, below_drewN (hb1.alloc hb1.size _) _⟩
theorem mark_cut : cutOf (⟨#[97, 226, 130]⟩ : ByteArray).data.toList = 2 := by decide +kernel
/-- The two strings in the parameter's box, and the table, later on. -/
structure BoxW (w : World) (B : Nat) (x y : Value) (t : TypeId) (w2 : World) : Prop where
  box : w2.heap[B]? = some (.cells #[x, y] t (0, 0))
  seq : SeqAt w2
  bel : Below w.heap.size w w2
theorem BoxW.start {w : World} {x y : Value} {t : TypeId} (h : SeqAt w) : BoxW w w.heap.size x y t (w.alloc (.cells #[x, y] t)) := ⟨heap_alloc_new _ _, h.later (alloc_below _ _), alloc_below _ _⟩
theorem BoxW.next {w w2 w3 : World} {B : Nat} {x y : Value} {t : TypeId} (h : BoxW w B x y t w2) (hb : Below w2.heap.size w2 w3) : BoxW w B x y t w3 :=
  ⟨(hb.block B (Array.getElem?_eq_some_iff.1 h.box).1).trans h.box, h.seq.later hb, h.bel.trans (hb.mono h.bel.size)⟩
theorem BoxW.cells {w w2 : World} {B : Nat} {x y : Value} {t : TypeId} (h : BoxW w B x y t w2) : w2.cell? ⟨B, 0, none⟩ = some x ∧ w2.cell? ⟨B, 1, none⟩ = some y := by
  constructor <;> (rw [cell_of_row w2 B _ _ _ _ h.box]; rfl)
theorem BoxW.drewN {w w2 : World} {B : Nat} {x y : Value} {t : TypeId} (h : BoxW w B x y t w2) (q : Nat) : BoxW w B x y t (w2.drewN q) := ⟨h.box, fun i hi k hk => h.seq i hi k hk, below_drewN h.bel q⟩
theorem OwnU.drewN {w : World} {base : Nat} {v : Value} {us : List (Int × Nat × Nat)} (h : OwnU w base v us) (q : Nat) : OwnU (w.drewN q) base v us := h
theorem unitsF_bound : ∀ (f k : Nat) (l : List UInt8), ∀ u ∈ unitsF f k l, u.2.1 < k + l.length ∧ u.2.2 ≤ k + l.length := by
  intro f
  induction f with
  | zero => intro k l u hu; simp [unitsF] at hu
  | succ f ih =>
    intro k l u hu
    cases l with
    | nil => simp [unitsF] at hu
    | cons a l =>
      have hs := uni_size a l
      rw [unitsF] at hu
      rcases List.mem_cons.1 hu with rfl | h
      · simp only [List.length_cons]; omega
      · have := ih _ _ u h
        rw [List.length_drop] at this
        simp only [List.length_cons] at this ⊢
        omega
theorem units_bound (s : ByteArray) : ∀ u ∈ unitsOf s.data.toList, u.2.1 ≤ s.size ∧ u.2.2 ≤ s.size := by
  intro u hu
  have := unitsF_bound _ _ _ u hu
  rw [List.drop_zero, bsize] at this
  omega
theorem OwnU.cell3 {w : World} {base g n cap : Nat} {us : List (Int × Nat × Nat)} (h : OwnU w base (.slice (some ⟨g, 0, none⟩) n cap) us) (k : Nat) (hk : k < us.length) :
    w.cell? ⟨g, k * 3, none⟩ = some (.int .i64 us[k].1) ∧ w.cell? ⟨g, k * 3 + 1, none⟩ = some (.int .i64 (us[k].2.1 : Int)) ∧ w.cell? ⟨g, k * 3 + 2, none⟩ = some (.int .i64 (us[k].2.2 : Int)) := by
  rcases h.at with ⟨h', _⟩ | ⟨b, off, c, h', hc⟩
  · simp at h'
  · simp only [Value.slice.injEq, Option.some.injEq, Addr.mk.injEq, and_true] at h'
    obtain ⟨⟨rfl, rfl⟩, _, rfl⟩ := h'
    simpa using hc k hk
theorem extract_end (s : ByteArray) (k : Nat) : (s.extract k s.size).data.toList = s.data.toList.drop k := by
  have h : s.data.toList.length = s.size := bsize s
  rw [ByteArray.data_extract, Array.toList_extract, List.extract_eq_take_drop]
  apply List.take_of_length_le
  rw [List.length_drop, h]
  exact Nat.le_refl _
theorem str_size {u : ByteArray} {l : List UInt8} (h : u.data.toList = l) : u.size = l.length := by rw [← h]; simp
theorem app_list (A B : ByteArray) : (A ++ B).data.toList = A.data.toList ++ B.data.toList := by simp
theorem OwnU.front {w : World} {base g n cap : Nat} {us vs : List (Int × Nat × Nat)} {m : Nat} (h : OwnU w base (.slice (some ⟨g, 0, none⟩) n cap) (us ++ vs)) (hm : m = us.length) : UnitsAt w (.slice (some ⟨g, 0, none⟩) m cap) us := by
  subst hm
  rcases h.at with ⟨h', _⟩ | ⟨b, off, c, h', hc⟩
  · simp at h'
  · simp only [Value.slice.injEq, Option.some.injEq, Addr.mk.injEq, and_true] at h'
    obtain ⟨⟨rfl, rfl⟩, _, rfl⟩ := h'
    refine .inr ⟨g, 0, cap, rfl, fun k hk => ?_⟩
    have := hc k (by simp; omega)
    simpa [List.getElem_append_left hk] using this
end Go.Proofs.YtoopigkndomdgabDoor
