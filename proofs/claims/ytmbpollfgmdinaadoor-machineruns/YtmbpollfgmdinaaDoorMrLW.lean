/-
  The walk of caesuralaw12's changes.
-/
import Derived.Test.YtmbpollfgmdinaaDoorMrIW
namespace Go.Proofs.YtmbpollfgmdinaaDoor
open Go.RowKit Go.Shelf
theorem neq_same (w : World) (a : Addr) :
    (binOp .neq 34 (.iface 47 (.pointer (some a))) (.iface 47 (.pointer (some a)))).run Tryd.prog w = .ok (.bool false) w := by
  obtain ⟨ti, h1, h2⟩ := Option.map_eq_some_iff.1 compErr
  obtain ⟨tj, h3, h4⟩ := Option.map_eq_some_iff.1 sizeErr
  simp only [binOp]
  simp [Op.equal, Op.maxDepth, run_equalIn_iface_ptr_same (P := Tryd.prog) (w := w) 9998 a Tryd.underlying34 Tryd.underlying47 h1 h2 h3]
/-- The machine of one state over one symbol, that leads to z. -/
structure Lit (W : World) (G : Nat) (z : Int) : Prop where
  own : OwnI W G (.slice (some ⟨G, 0, none⟩) 1 1) [z]
  h1 : W.heap[G + 1]? = some (.cells #[.slice (some ⟨G, 0, none⟩) 1 1] 25 (0, 0))
  h2 : W.heap[G + 1 + 1]? = some (.cells #[.slice none 0 0] 25 (0, 0))
  h3 : W.heap[G + 1 + 1 + 1]? = some (.cells #[.int .i64 0, .slice (some ⟨G + 1, 0, none⟩) 1 1, .slice (some ⟨G + 1 + 1, 0, none⟩) 1 1] 24 (0, 0))
theorem Lit.later {W W' : World} {G : Nat} {z : Int} (h : Lit W G z) (hb : Below W.heap.size W W') : Lit W' G z :=
  ⟨h.own.past hb, (hb.block _ (Array.getElem?_eq_some_iff.1 h.h1).1).trans h.h1, (hb.block _ (Array.getElem?_eq_some_iff.1 h.h2).1).trans h.h2, (hb.block _ (Array.getElem?_eq_some_iff.1 h.h3).1).trans h.h3⟩
theorem Lit.put {W : World} {G : Nat} {z : Int} (h : Lit W G z) (y : Int) : Lit (W.setCell ⟨G, 0, none⟩ (.int .i64 y)) G y :=
  ⟨(World.ownsRow.stored h.own 0 (.int .i64 y)).1, (Below.heap_setCell W _ _ _ (by show G + 1 ≠ G; omega)).trans h.h1, (Below.heap_setCell W _ _ _ (by show G + 1 + 1 ≠ G; omega)).trans h.h2, (Below.heap_setCell W _ _ _ (by show G + 1 + 1 + 1 ≠ G; omega)).trans h.h3⟩
theorem Lit.next {W : World} {G : Nat} {z : Int} (h : Lit W G z) : RwA W (some ⟨G + 1, 0, none⟩) [[z]] := ⟨fun k hk => by
  have hk0 : k = 0 := by simp at hk; omega
  subst hk0
  obtain ⟨a, c, e, hi⟩ := h.own.ia
  simp only [Value.slice.injEq] at e
  obtain ⟨rfl, _, rfl⟩ := e
  exact ⟨G + 1, 0, rfl, (Array.getElem?_eq_some_iff.1 h.h1).1, some ⟨G, 0, none⟩, 1, by rw [cell_of_row _ _ _ _ _ _ h.h1]; rfl, hi⟩⟩
theorem Lit.outs {W : World} {G : Nat} {z : Int} (h : Lit W G z) : RwA W (some ⟨G + 1 + 1, 0, none⟩) [[]] := ⟨fun k hk => by
  have hk0 : k = 0 := by simp at hk; omega
  subst hk0
  exact ⟨G + 1 + 1, 0, rfl, (Array.getElem?_eq_some_iff.1 h.h2).1, none, 0, by rw [cell_of_row _ _ _ _ _ _ h.h2]; rfl, ⟨fun k hk => absurd hk (Nat.not_lt_zero _)⟩⟩⟩
theorem Lit.cells {W : World} {G : Nat} {z : Int} (h : Lit W G z) : W.cell? ⟨G + 1 + 1 + 1, 0, none⟩ = some (.int .i64 0) ∧ W.cell? ⟨G + 1 + 1 + 1, 1, none⟩ = some (.slice (some ⟨G + 1, 0, none⟩) 1 1) ∧ W.cell? ⟨G + 1 + 1 + 1, 2, none⟩ = some (.slice (some ⟨G + 1 + 1, 0, none⟩) 1 1) ∧
    W.cell? ⟨G + 1, 0, none⟩ = some (.slice (some ⟨G, 0, none⟩) 1 1) ∧ W.cell? ⟨G, 0, none⟩ = some (.int .i64 z) ∧ W.frozen? ⟨G, 0, none⟩ = false :=
  ⟨by rw [cell_of_row _ _ _ _ _ _ h.h3]; rfl, by rw [cell_of_row _ _ _ _ _ _ h.h3]; rfl, by rw [cell_of_row _ _ _ _ _ _ h.h3]; rfl, by rw [cell_of_row _ _ _ _ _ _ h.h1]; rfl, (World.ownsRow.cellAt h.own 0 (by decide)).trans rfl, World.ownsRow.frozenAt h.own 0⟩
theorem Lit.check {W : World} {G : Nat} {z : Int} {A : Nat → Addr} (h : Lit W G z) (he : Sents W A) :
    Calls Tryd.prog 15 #[.agg #[.int .i64 0, .slice (some ⟨G + 1, 0, none⟩) 1 1, .slice (some ⟨G + 1 + 1, 0, none⟩) 1 1], .int .i64 1, .int .i64 0] W fun e w' => e = .returned (errC A (chkF 0 [[z]] [[]] 1 0)) ∧ Below W.heap.size W w' :=
  check_any A 0 1 0 [[z]] [[]] _ _ 1 1 W (by simp) (by simp) (by simp) (by decide) h.next h.outs he
theorem Lit.made (w : World) : Lit ((((w.alloc (.cells #[.int .i64 0] 3)).alloc (.cells #[.slice (some ⟨w.heap.size, 0, none⟩) 1 1] 25)).alloc (.cells #[.slice none 0 0] 25)).alloc
    (.cells #[.int .i64 0, .slice (some ⟨w.heap.size + 1, 0, none⟩) 1 1, .slice (some ⟨w.heap.size + 1 + 1, 0, none⟩) 1 1] 24)) w.heap.size 0 := by
  obtain ⟨w1, h1⟩ : ∃ w1, w1 = w.alloc (.cells #[.int .i64 0] 3) := ⟨_, rfl⟩
  rw [← h1]
  have s1 : w1.heap.size = w.heap.size + 1 := by rw [h1]; simp
  have o1 : OwnI w1 w.heap.size (.slice (some ⟨w.heap.size, 0, none⟩) 1 1) [0] := by rw [h1]; exact own_one w _ 0 (Nat.le_refl _)
  obtain ⟨w2, h2⟩ : ∃ w2, w2 = w1.alloc (.cells #[.slice (some ⟨w.heap.size, 0, none⟩) 1 1] 25) := ⟨_, rfl⟩
  rw [← h2]
  have b2 : Below w1.heap.size w1 w2 := by rw [h2]; exact (Below.refl _ _).alloc (Nat.le_refl _) _
  have s2 : w2.heap.size = w.heap.size + 1 + 1 := by rw [h2]; simp [s1]
  have r2 : w2.heap[w.heap.size + 1]? = some (.cells #[.slice (some ⟨w.heap.size, 0, none⟩) 1 1] 25 (0, 0)) := by rw [h2, ← s1]; exact heap_alloc_new w1 _
  obtain ⟨w3, h3⟩ : ∃ w3, w3 = w2.alloc (.cells #[.slice none 0 0] 25) := ⟨_, rfl⟩
  rw [← h3]
  have b3 : Below w2.heap.size w2 w3 := by rw [h3]; exact (Below.refl _ _).alloc (Nat.le_refl _) _
  have s3 : w3.heap.size = w.heap.size + 1 + 1 + 1 := by rw [h3]; simp [s2]
  have r3 : w3.heap[w.heap.size + 1 + 1]? = some (.cells #[.slice none 0 0] 25 (0, 0)) := by rw [h3, ← s2]; exact heap_alloc_new w2 _
  have b4 : Below w3.heap.size w3 (w3.alloc (.cells #[.int .i64 0, .slice (some ⟨w.heap.size + 1, 0, none⟩) 1 1, .slice (some ⟨w.heap.size + 1 + 1, 0, none⟩) 1 1] 24)) := (Below.refl _ _).alloc (Nat.le_refl _) _
  refine ⟨((o1.past b2).past b3).past b4, ?_, ?_, ?_⟩
  · exact (b4.block _ (by omega)).trans ((b3.block _ (by omega)).trans r2)
  · exact (b4.block _ (by omega)).trans r3
  · rw [← s3]; exact heap_alloc_new w3 _
theorem Below.made (w : World) (a b c d : Obj) : Below w.heap.size w ((((w.alloc a).alloc b).alloc c).alloc d) :=
  ((((Below.refl _ _).alloc (Nat.le_refl _) a).alloc (by simp) b).alloc (by simp; omega) c).alloc (by simp; omega) d
set_option maxRecDepth 10000 in
set_option maxHeartbeats 1600000 in
theorem changes_any (A : Nat → Addr) (w : World) (he : Sents w A) :
    Calls Tryd.prog 11 #[] w fun e w' => e = .returned (.bool true) ∧ Below w.heap.size w w' := by
  have HE := hid0 he
  clear he
  have k0 : chkF 0 [[0]] [[]] 1 0 = true := by decide
  have k7 : chkF 0 [[7]] [[]] 1 0 = false := by decide
  have hnq := neq_same
  have HC0 : Hid (∀ W, Lit W w.heap.size 0 → Sents W A → Calls Tryd.prog 15 #[.agg #[.int .i64 0, .slice (some ⟨w.heap.size + 1, 0, none⟩) 1 1, .slice (some ⟨w.heap.size + 1 + 1, 0, none⟩) 1 1], .int .i64 1, .int .i64 0] W fun e w' => e = .returned .nilIface ∧ Below W.heap.size W w') := hid0 (fun W h1 h2 => by have h := h1.check h2; rw [k0] at h; exact h)
  have HC7 : Hid (∀ W, Lit W w.heap.size 7 → Sents W A → Calls Tryd.prog 15 #[.agg #[.int .i64 0, .slice (some ⟨w.heap.size + 1, 0, none⟩) 1 1, .slice (some ⟨w.heap.size + 1 + 1, 0, none⟩) 1 1], .int .i64 1, .int .i64 0] W fun e w' => e = .returned (.iface 47 (.pointer (some (A 0)))) ∧ Below W.heap.size W w') := hid0 (fun W h1 h2 => by have h := h1.check h2; rw [k7] at h; exact h)
  clear k0 k7
  have HL0 := hid0 (Lit.made w)
  have HB0 := hid0 (Below.made w (.cells #[.int .i64 0] 3) (.cells #[.slice (some ⟨w.heap.size, 0, none⟩) 1 1] 25) (.cells #[.slice none 0 0] 25) (.cells #[.int .i64 0, .slice (some ⟨w.heap.size + 1, 0, none⟩) 1 1, .slice (some ⟨w.heap.size + 1 + 1, 0, none⟩) 1 1] 24))
  go_enter Tryd.func11, Tryd.ntmps11
  go_wp2_with (first
    | (go_at_call 15; refine (HC0.out _ HL0.out (HE.out.below HB0.out)).mono ?_; rintro e w1 ⟨rfl, h⟩; have HL1 := hid0 (HL0.out.later h); have HB1 := hid0 (Below.later HB0.out h); clear h HB0 HL0; obtain ⟨x0, x1, x2, x3, x4, x5⟩ := HL1.out.cells)
    | fail)
  have HL2 := hid0 (HL1.out.put 7)
  have HB2 := hid0 (HB1.out.setCell (p := ⟨w.heap.size, 0, none⟩) (Nat.le_refl _) (.int .i64 7))
  generalize w1.setCell ⟨w.heap.size, 0, none⟩ (.int .i64 7) = w2 at *
  clear x0 x1 x2 x3 x4 x5 HL1 HB1
  obtain ⟨x0, x1, x2, x3, x4, x5⟩ := HL2.out.cells
  have e0 := (HE.out.below HB2.out).c0
  have HD : Hid (Below w2.heap.size w2 w2.drew) := hid0 ⟨rfl, rfl, rfl, Nat.le_refl _, fun _ _ => rfl⟩
  go_region_with (go_at_call 15; refine (HC7.out _ (HL2.out.later HD.out) ((HE.out.below HB2.out).below HD.out)).mono ?_; rintro e w3 ⟨rfl, h⟩; have HL3 := hid0 ((HL2.out.later HD.out).later h); have HB3 := hid0 (Below.later (Below.later HB2.out HD.out) h); have e3 := (HE.out.below HB3.out).c0; clear h)
  all_goals
    clear x0 x1 x2 x3 x4 x5 HL2 HB2 HD
    obtain ⟨x0, x1, x2, x3, x4, x5⟩ := HL3.out.cells
    have HL4 := hid0 (HL3.out.put 0)
    have HB4 := hid0 (HB3.out.setCell (p := ⟨w.heap.size, 0, none⟩) (Nat.le_refl _) (.int .i64 0))
    obtain ⟨y0, y1, y2, _, _, _⟩ := HL4.out.cells
    go_wp2_with (first
      | (go_at_call 15; refine (HC0.out _ HL4.out (HE.out.below HB4.out)).mono ?_; rintro e w5 ⟨rfl, h⟩; have HB5 := hid0 (Below.later HB4.out h); clear h)
      | fail)
    go_ret
    exact ⟨rfl, HB5.out⟩
end Go.Proofs.YtmbpollfgmdinaaDoor
