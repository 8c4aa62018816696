/-
  ExDW, ExE0W, ExE1W, ExE2W, ExE3W, ExE4W, ExE5W, ExE6W, ExE7W, ExFW, ExQW, ExMW, ExGdM.
-/
import Derived.Test.YtiapefdklojhdaaDoorMpc
import Derived.Test.YtiapefdklojhdaaDoorMpa
import Derived.Deep.RegionHeld3
import Derived.StillTailTactics
import Derived.Defers
import Derived.Recover
import Derived.Laws.Pointers
import Derived.Test.YtiapefdklojhdaaDoorMpb
namespace Go.Proofs.YtiapefdklojhdaaDoor
open Go.RowKit Go.Shelf
theorem box1 (w : World) (x0 x1 x2 x3 x4 : Value) : ∃ w0, w0 = w.alloc (.cells #[x0, x1, x2, x3, x4] 28) ∧ Below w.heap.size w w0 ∧ w0.heap.size = w.heap.size + 1 ∧ ∀ W, Below w0.heap.size w0 W → W.cell? ⟨w.heap.size, 0, none⟩ = some x0 ∧ W.cell? ⟨w.heap.size, 1, none⟩ = some x1 ∧ W.cell? ⟨w.heap.size, 2, none⟩ = some x2 ∧ W.cell? ⟨w.heap.size, 3, none⟩ = some x3 ∧ W.cell? ⟨w.heap.size, 4, none⟩ = some x4 := by
  refine ⟨_, rfl, (Below.refl _ _).alloc (Nat.le_refl _) _, by simp, fun W hW => ?_⟩
  have h := (hW.block w.heap.size (by simp)).trans (heap_alloc_new w (.cells #[x0, x1, x2, x3, x4] 28))
  exact ⟨by rw [cell_of_row _ _ _ _ _ _ h]; rfl, by rw [cell_of_row _ _ _ _ _ _ h]; rfl, by rw [cell_of_row _ _ _ _ _ _ h]; rfl, by rw [cell_of_row _ _ _ _ _ _ h]; rfl, by rw [cell_of_row _ _ _ _ _ _ h]; rfl⟩
set_option maxRecDepth 10000 in
set_option maxHeartbeats 3200000 in
theorem isWhole_any (may : List ByteArray → List (Int × Int) → Bool) (k : Int) (nt : Bool) (N : List ByteArray) (P : List (Int × Int)) (n : Nat) (a b c : Option Addr) (ca cb cc : Nat) (w : World) (hP : P.length ≤ 1000000000) (hM : MayC may N P) (ha : SA w a N) (hb : RA w b P) :
    Calls Tryd.prog 51 #[.agg #[.int .i64 k, .bool nt, .slice a N.length ca, .slice b P.length cb, .slice c n cc]] w fun e w' => e = .returned (.bool (wholeF may k nt N P n)) ∧ Below w.heap.size w w' := by
  obtain ⟨w0, hw0, hb0, _, hx⟩ := box1 w (.int .i64 k) (.bool nt) (.slice a N.length ca) (.slice b P.length cb) (.slice c n cc)
  obtain ⟨x0, x1, x2, x3, x4⟩ := hx w0 (Below.refl _ _)
  have HZ := hid0 (isZero_any nt a b N.length P.length ca cb w0)
  have HM := hid0 (hM nt a b ca cb w0 hP (ha.below hb0) (hb.below hb0))
  have HB0 := hid0 hb0
  have hf := hw0.symm
  have HZF : Hid (zeroF nt N P = (!nt && N.length == 0 && P.length == 0)) := hid0 rfl
  unfold wholeF
  clear hw0 hb0 hx hM ha hb
  by_cases hk1 : k = 1
  · subst hk1
    by_cases hn : n = 0
    · subst hn
      have hwf : (if (1 : Int) = 1 then (0 == 0) && zeroF nt N P else if (1 : Int) = 2 then (0 == 0) && may N P else if (1 : Int) = 3 ∨ (1 : Int) = 4 then zeroF nt N P else if (1 : Int) = 5 ∨ (1 : Int) = 6 ∨ (1 : Int) = 7 then (0 == 1) && zeroF nt N P else false) = zeroF nt N P := by simp
      rw [hwf]
      clear hwf
      rw [HZF.out]
      go_enter Tryd.func51, Tryd.ntmps51
      go_wp2_with (go_at_call 63; refine HZ.out.mono ?_; rintro e w1 ⟨rfl, hb1⟩)
      go_ret
      exact ⟨rfl, Below.later HB0.out hb1⟩
    · have hnI : ¬ (n : Int) = 0 := by omega
      have hwf : (if (1 : Int) = 1 then n == 0 && zeroF nt N P else if (1 : Int) = 2 then n == 0 && may N P else if (1 : Int) = 3 ∨ (1 : Int) = 4 then zeroF nt N P else if (1 : Int) = 5 ∨ (1 : Int) = 6 ∨ (1 : Int) = 7 then n == 1 && zeroF nt N P else false) = false := by simp [hn]
      rw [hwf]
      clear hwf
      go_enter Tryd.func51, Tryd.ntmps51
      go_wp2
      go_ret
      exact ⟨rfl, HB0.out⟩
  by_cases hk2 : k = 2
  · subst hk2
    by_cases hn : n = 0
    · subst hn
      have hwf : (if (2 : Int) = 1 then (0 == 0) && zeroF nt N P else if (2 : Int) = 2 then (0 == 0) && may N P else if (2 : Int) = 3 ∨ (2 : Int) = 4 then zeroF nt N P else if (2 : Int) = 5 ∨ (2 : Int) = 6 ∨ (2 : Int) = 7 then (0 == 1) && zeroF nt N P else false) = may N P := by simp
      rw [hwf]
      clear hwf
      go_enter Tryd.func51, Tryd.ntmps51
      go_wp2_with (go_at_call 23; refine HM.out.mono ?_; rintro e w1 ⟨rfl, hb1⟩)
      go_ret
      exact ⟨rfl, Below.later HB0.out hb1⟩
    · have hnI : ¬ (n : Int) = 0 := by omega
      have hwf : (if (2 : Int) = 1 then n == 0 && zeroF nt N P else if (2 : Int) = 2 then n == 0 && may N P else if (2 : Int) = 3 ∨ (2 : Int) = 4 then zeroF nt N P else if (2 : Int) = 5 ∨ (2 : Int) = 6 ∨ (2 : Int) = 7 then n == 1 && zeroF nt N P else false) = false := by simp [hn]
      rw [hwf]
      clear hwf
      go_enter Tryd.func51, Tryd.ntmps51
      go_wp2
      go_ret
      exact ⟨rfl, HB0.out⟩
  by_cases hk3 : k = 3
  · subst hk3
    have hwf : (if (3 : Int) = 1 then n == 0 && zeroF nt N P else if (3 : Int) = 2 then n == 0 && may N P else if (3 : Int) = 3 ∨ (3 : Int) = 4 then zeroF nt N P else if (3 : Int) = 5 ∨ (3 : Int) = 6 ∨ (3 : Int) = 7 then n == 1 && zeroF nt N P else false) = zeroF nt N P := by simp
    rw [hwf]
    clear hwf
    rw [HZF.out]
    go_enter Tryd.func51, Tryd.ntmps51
    go_wp2_with (go_at_call 63; refine HZ.out.mono ?_; rintro e w1 ⟨rfl, hb1⟩)
    go_ret
    exact ⟨rfl, Below.later HB0.out hb1⟩
  by_cases hk4 : k = 4
  · subst hk4
    have hwf : (if (4 : Int) = 1 then n == 0 && zeroF nt N P else if (4 : Int) = 2 then n == 0 && may N P else if (4 : Int) = 3 ∨ (4 : Int) = 4 then zeroF nt N P else if (4 : Int) = 5 ∨ (4 : Int) = 6 ∨ (4 : Int) = 7 then n == 1 && zeroF nt N P else false) = zeroF nt N P := by simp
    rw [hwf]
    clear hwf
    rw [HZF.out]
    go_enter Tryd.func51, Tryd.ntmps51
    go_wp2_with (go_at_call 63; refine HZ.out.mono ?_; rintro e w1 ⟨rfl, hb1⟩)
    go_ret
    exact ⟨rfl, Below.later HB0.out hb1⟩
  by_cases hk5 : k = 5
  · subst hk5
    by_cases hn : n = 1
    · subst hn
      have hwf : (if (5 : Int) = 1 then (1 == 0) && zeroF nt N P else if (5 : Int) = 2 then (1 == 0) && may N P else if (5 : Int) = 3 ∨ (5 : Int) = 4 then zeroF nt N P else if (5 : Int) = 5 ∨ (5 : Int) = 6 ∨ (5 : Int) = 7 then (1 == 1) && zeroF nt N P else false) = zeroF nt N P := by simp
      rw [hwf]
      clear hwf
      rw [HZF.out]
      go_enter Tryd.func51, Tryd.ntmps51
      go_wp2_with (go_at_call 63; refine HZ.out.mono ?_; rintro e w1 ⟨rfl, hb1⟩)
      go_ret
      exact ⟨rfl, Below.later HB0.out hb1⟩
    · have hnI : ¬ (n : Int) = 1 := by omega
      have hwf : (if (5 : Int) = 1 then n == 0 && zeroF nt N P else if (5 : Int) = 2 then n == 0 && may N P else if (5 : Int) = 3 ∨ (5 : Int) = 4 then zeroF nt N P else if (5 : Int) = 5 ∨ (5 : Int) = 6 ∨ (5 : Int) = 7 then n == 1 && zeroF nt N P else false) = false := by simp [hn]
      rw [hwf]
      clear hwf
      go_enter Tryd.func51, Tryd.ntmps51
      go_wp2
      go_ret
      exact ⟨rfl, HB0.out⟩
  by_cases hk6 : k = 6
  · subst hk6
    by_cases hn : n = 1
    · subst hn
      have hwf : (if (6 : Int) = 1 then (1 == 0) && zeroF nt N P else if (6 : Int) = 2 then (1 == 0) && may N P else if (6 : Int) = 3 ∨ (6 : Int) = 4 then zeroF nt N P else if (6 : Int) = 5 ∨ (6 : Int) = 6 ∨ (6 : Int) = 7 then (1 == 1) && zeroF nt N P else false) = zeroF nt N P := by simp
      rw [hwf]
      clear hwf
      rw [HZF.out]
      go_enter Tryd.func51, Tryd.ntmps51
      go_wp2_with (go_at_call 63; refine HZ.out.mono ?_; rintro e w1 ⟨rfl, hb1⟩)
      go_ret
      exact ⟨rfl, Below.later HB0.out hb1⟩
    · have hnI : ¬ (n : Int) = 1 := by omega
      have hwf : (if (6 : Int) = 1 then n == 0 && zeroF nt N P else if (6 : Int) = 2 then n == 0 && may N P else if (6 : Int) = 3 ∨ (6 : Int) = 4 then zeroF nt N P else if (6 : Int) = 5 ∨ (6 : Int) = 6 ∨ (6 : Int) = 7 then n == 1 && zeroF nt N P else false) = false := by simp [hn]
      rw [hwf]
      clear hwf
      go_enter Tryd.func51, Tryd.ntmps51
      go_wp2
      go_ret
      exact ⟨rfl, HB0.out⟩
  by_cases hk7 : k = 7
  · subst hk7
    by_cases hn : n = 1
    · subst hn
      have hwf : (if (7 : Int) = 1 then (1 == 0) && zeroF nt N P else if (7 : Int) = 2 then (1 == 0) && may N P else if (7 : Int) = 3 ∨ (7 : Int) = 4 then zeroF nt N P else if (7 : Int) = 5 ∨ (7 : Int) = 6 ∨ (7 : Int) = 7 then (1 == 1) && zeroF nt N P else false) = zeroF nt N P := by simp
      rw [hwf]
      clear hwf
      rw [HZF.out]
      go_enter Tryd.func51, Tryd.ntmps51
      go_wp2_with (go_at_call 63; refine HZ.out.mono ?_; rintro e w1 ⟨rfl, hb1⟩)
      go_ret
      exact ⟨rfl, Below.later HB0.out hb1⟩
    · have hnI : ¬ (n : Int) = 1 := by omega
      have hwf : (if (7 : Int) = 1 then n == 0 && zeroF nt N P else if (7 : Int) = 2 then n == 0 && may N P else if (7 : Int) = 3 ∨ (7 : Int) = 4 then zeroF nt N P else if (7 : Int) = 5 ∨ (7 : Int) = 6 ∨ (7 : Int) = 7 then n == 1 && zeroF nt N P else false) = false := by simp [hn]
      rw [hwf]
      clear hwf
      go_enter Tryd.func51, Tryd.ntmps51
      go_wp2
      go_ret
      exact ⟨rfl, HB0.out⟩
  rw [if_neg hk1, if_neg hk2, if_neg (by rintro (h | h) <;> contradiction), if_neg (by rintro (h | h | h) <;> contradiction)]
  go_enter Tryd.func51, Tryd.ntmps51
  go_wp2
  go_ret
  exact ⟨rfl, HB0.out⟩
set_option maxRecDepth 10000 in
set_option maxHeartbeats 3200000 in
theorem isInForm_any (k : Int) (nt : Bool) (a b c : Option Addr) (n ca m cb cc : Nat) (L : List Ex) (vs : Nat → EV) (Q : Nat → Prop) (w : World) (hl : L.length ≤ 1000000000) (hL : LA w Q c L vs) :
    Calls Tryd.prog 52 #[.agg #[.int .i64 k, .bool nt, .slice a n ca, .slice b m cb, .slice c L.length cc]] w fun e w' => e = .returned (.bool (formF k L)) ∧ Below w.heap.size w w' := by
  obtain ⟨w0, hw0, hb0, _, hx⟩ := box1 w (.int .i64 k) (.bool nt) (.slice a n ca) (.slice b m cb) (.slice c L.length cc)
  have HX := hid0 hx
  obtain ⟨x0, x1, x2, x3, x4⟩ := hx w0 (Below.refl _ _)
  have HH : Hid (∀ q W, Below w0.heap.size w0 W → Calls Tryd.prog 64 #[.agg #[.int .i64 k, .bool nt, .slice a n ca, .slice b m cb, .slice c L.length cc], .int .i64 q] W fun e w' => e = .returned (.bool (hasK L q)) ∧ Below W.heap.size W w') := hid0 (fun q W hW => hasPart_any k nt a b c n ca m cb cc L vs Q q W hl ((hL.keeps (Keeps.past hb0)).keeps (Keeps.past hW)))
  have HB0 := hid0 hb0
  have HR := hid0 (Below.refl w0.heap.size w0)
  have hf := hw0.symm
  unfold formF
  clear hw0 hb0 hx hL
  by_cases hk3 : k = 3
  · subst hk3
    rw [if_pos rfl]
    by_cases hn : 2 ≤ L.length
    · have hnI : (2 : Int) ≤ (L.length : Int) := by omega
      rw [decide_eq_true hn]
      have H3 := hid0 (fun W hW => HH.out 3 W hW)
      have H1 := hid0 (fun W hW => HH.out 1 W hW)
      clear HH
      cases h3 : hasK L 3 with
      | true =>
        rw [h3] at H3
        clear h3
        go_enter Tryd.func52, Tryd.ntmps52
        go_wp2_with (go_at_call 64; refine (H3.out _ HR.out).mono ?_; rintro e w1 ⟨rfl, hb1⟩)
        go_ret
        exact ⟨rfl, Below.later HB0.out hb1⟩
      | false =>
        rw [h3] at H3
        clear h3
        generalize hasK L 1 = t1 at *
        have M1 : Hid True := trivial
        go_enter Tryd.func52, Tryd.ntmps52
        go_wp2_with (first
          | (clear M1; go_at_call 64; refine (H3.out _ HR.out).mono ?_; rintro e w1 ⟨rfl, hb1⟩; obtain ⟨y0, y1, y2, y3, y4⟩ := HX.out w1 hb1; have HB1 := hid0 hb1; have M2 : Hid True := trivial; clear hb1)
          | (clear M2; go_at_call 64; refine (H1.out _ HB1.out).mono ?_; rintro e w2 ⟨rfl, hb2⟩; have HB2 := hid0 (Below.later HB1.out hb2); clear hb2)
          | fail)
        go_ret
        exact ⟨by cases t1 <;> rfl, Below.later HB0.out HB2.out⟩
    · have hnI : ¬ (2 : Int) ≤ (L.length : Int) := by omega
      rw [decide_eq_false hn]
      clear HH
      go_enter Tryd.func52, Tryd.ntmps52
      go_wp2
      go_ret
      exact ⟨rfl, HB0.out⟩
  · by_cases hk4 : k = 4
    · subst hk4
      rw [if_neg (by decide), if_pos rfl]
      by_cases hn : 2 ≤ L.length
      · have hnI : (2 : Int) ≤ (L.length : Int) := by omega
        rw [decide_eq_true hn]
        have H4 := hid0 (HH.out 4 w0 HR.out)
        clear HH
        generalize hasK L 4 = t1 at *
        go_enter Tryd.func52, Tryd.ntmps52
        go_wp2_with (go_at_call 64; refine H4.out.mono ?_; rintro e w1 ⟨rfl, hb1⟩)
        go_ret
        exact ⟨by cases t1 <;> rfl, Below.later HB0.out hb1⟩
      · have hnI : ¬ (2 : Int) ≤ (L.length : Int) := by omega
        rw [decide_eq_false hn]
        clear HH
        go_enter Tryd.func52, Tryd.ntmps52
        go_wp2
        go_ret
        exact ⟨rfl, HB0.out⟩
    · rw [if_neg hk3, if_neg hk4]
      clear HH
      go_enter Tryd.func52, Tryd.ntmps52
      go_wp2
      go_ret
      exact ⟨rfl, HB0.out⟩
end Go.Proofs.YtiapefdklojhdaaDoor
namespace Go.Proofs.YtiapefdklojhdaaDoor
open Go.RowKit Go.Shelf
theorem lt_of_rowC {W : World} {k : Nat} {o : Obj} (h : W.heap[k]? = some o) : k < W.heap.size := (Array.getElem?_eq_some_iff.1 h).1
/-- The three refusals that Check knows. -/
structure E3 (w : World) (A : Nat → Addr) : Prop where
  c0 : w.cell? ⟨1, 0, none⟩ = some (.iface 144 (.pointer (some (A 0))))
  c1 : w.cell? ⟨0, 0, none⟩ = some (.iface 144 (.pointer (some (A 1))))
  c2 : w.cell? ⟨2, 0, none⟩ = some (.iface 144 (.pointer (some (A 2))))
def Far (B : Nat) : Prop := B ≠ 1 ∧ B ≠ 0 ∧ B ≠ 2
theorem E3.only {w w' : World} {A : Nat → Addr} {B : Nat} (h : E3 w A) (k : Only w w' (fun b => b = B)) (hB : Far B) : E3 w' A :=
  ⟨(k.cell (p := ⟨1, 0, none⟩) (World.block_lt_of_cell? w _ h.c0) (fun e => hB.1 e.symm)).trans h.c0, (k.cell (p := ⟨0, 0, none⟩) (World.block_lt_of_cell? w _ h.c1) (fun e => hB.2.1 e.symm)).trans h.c1, (k.cell (p := ⟨2, 0, none⟩) (World.block_lt_of_cell? w _ h.c2) (fun e => hB.2.2 e.symm)).trans h.c2⟩
theorem E3.below {w w' : World} {A : Nat → Addr} (h : E3 w A) (k : Below w.heap.size w w') : E3 w' A :=
  ⟨(k.cell (p := ⟨1, 0, none⟩) (World.block_lt_of_cell? w _ h.c0)).trans h.c0, (k.cell (p := ⟨0, 0, none⟩) (World.block_lt_of_cell? w _ h.c1)).trans h.c1, (k.cell (p := ⟨2, 0, none⟩) (World.block_lt_of_cell? w _ h.c2)).trans h.c2⟩
theorem Only.past {w w' : World} {S : Nat → Prop} (h : Below w.heap.size w w') : Only w w' S := ⟨h.os, h.tape, h.output, h.size, fun k hk _ => h.block k hk⟩
theorem Keeps.only {Q : Nat → Prop} {w w' : World} {B : Nat} (h : Only w w' (fun b => b = B)) (hB : ¬ Q B) : Keeps Q w w' := ⟨h.size, fun g o hg hl => h.cell (p := ⟨g, o, none⟩) hl (fun e => hB (e ▸ hg))⟩
theorem Keeps.trans {Q : Nat → Prop} {a b c : World} (h : Keeps Q a b) (k : Keeps Q b c) : Keeps Q a c := ⟨Nat.le_trans h.size k.size, fun g o hg hl => (k.cell g o hg (Nat.lt_of_lt_of_le hl h.size)).trans (h.cell g o hg hl)⟩
theorem Only.step {a b c : World} {B : Nat} (h : Only a b (fun k => k = B)) (k : Only b c (fun k => k = B)) : Only a c (fun k => k = B) := h.trans k (fun _ e => .inl e)
/-- A set's contract at every node. -/
inductive AllM (may : List ByteArray → List (Int × Int) → Bool) : Ex → Prop
  | mk (k : Int) (nt : Bool) (N : List ByteArray) (P : List (Int × Int)) (L : List Ex) : MayC may N P → (∀ e, e ∈ L → AllM may e) → AllM may (.mk k nt N P L)
/-- What going through leaves. -/
def GoR (A : Nat → Addr) (B : Nat) (r : Ending) (W' : World) : CR → Prop
  | .ok n s => r = .returned (.tuple #[]) ∧ W'.heap[B]? = some (.cells #[.int .i64 (n : Int), .int .i64 (s : Int)] 66 (0, 0))
  | .bad f => r = .panicked [{ v := faultV (.iface 144 (.pointer (some (A f)))), recovered := false }]
def GoP (may : List ByteArray → List (Int × Int) → Bool) (w : World) (Q : Nat → Prop) (e : Ex) (x : EV) : Prop := ∀ (W : World) (B : Nat) (A : Nat → Addr) (d n s : Nat), Keeps Q w W → ¬ Q B → Far B → E3 W A →
  W.heap[B]? = some (.cells #[.int .i64 (n : Int), .int .i64 (s : Int)] 66 (0, 0)) → n ≤ 4000 → s ≤ 65536 → d ≤ 129 →
  Calls Tryd.prog 30 #[.pointer (some ⟨B, 0, none⟩), x.v, .int .i64 (d : Int)] W fun r W' => GoR A B r W' (chkE may e d n s) ∧ Only W W' (fun k => k = B)
/-- The counts, told. -/
theorem go_counts (W : World) (B n s : Nat) (x0 x1 x2 x3 x4 v v' : Value) (hB : W.heap[B]? = some (.cells #[.int .i64 (n : Int), .int .i64 (s : Int)] 66 (0, 0))) :
    ∃ W2, W2 = ((((W.alloc (.cells #[x0, x1, x2, x3, x4] 28)).setCell ⟨B, 0, none⟩ v).setCell ⟨B, 1, none⟩ v').drew) ∧ W2.heap[B]? = some (.cells #[v, v'] 66 (0, 0)) ∧ Only W W2 (fun k => k = B) ∧ W2.heap[W.heap.size]? = some (.cells #[x0, x1, x2, x3, x4] 28 (0, 0)) ∧ W2.heap.size = W.heap.size + 1 := by
  have hl := lt_of_rowC hB
  have h0 : (W.alloc (.cells #[x0, x1, x2, x3, x4] 28)).heap[B]? = some (.cells #[.int .i64 (n : Int), .int .i64 (s : Int)] 66 (0, 0)) := (Below.heap_alloc W _ B hl).trans hB
  have h1 := heap_setCell_same _ B 0 _ _ v h0
  have h2 := heap_setCell_same _ B 1 _ _ v' h1
  refine ⟨_, rfl, h2, ⟨rfl, rfl, rfl, by simp [World.setCell], fun k hk hn => ?_⟩, ?_, by simp [World.setCell]⟩
  · exact (Below.heap_setCell _ _ v' k hn).trans ((Below.heap_setCell _ _ v k hn).trans (Below.heap_alloc W _ k hk))
  · exact (Below.heap_setCell _ _ v' W.heap.size (by simp; omega)).trans ((Below.heap_setCell _ _ v W.heap.size (by simp; omega)).trans (heap_alloc_new W _))
end Go.Proofs.YtiapefdklojhdaaDoor
namespace Go.Proofs.YtiapefdklojhdaaDoor
open Go.RowKit Go.Shelf
set_option maxRecDepth 10000 in
set_option maxHeartbeats 3200000 in
theorem go_many1 (k : Int) (nt : Bool) (a b c : Option Addr) (n1 ca n2 cb n3 cc d n s B : Nat) (A : Nat → Addr) (W : World) (l1 : n1 ≤ 1000000000) (l2 : n2 ≤ 1000000000) (hE : E3 W A) (hF : Far B) (hn : n ≤ 4000) (hs : s ≤ 65536) (_hd : d ≤ 129)
    (hB : W.heap[B]? = some (.cells #[.int .i64 (n : Int), .int .i64 (s : Int)] 66 (0, 0))) (hbad : ¬ n + 1 ≤ 4000) :
    Calls Tryd.prog 30 #[.pointer (some ⟨B, 0, none⟩), .agg #[.int .i64 k, .bool nt, .slice a n1 ca, .slice b n2 cb, .slice c n3 cc], .int .i64 (d : Int)] W fun r W' => GoR A B r W' (.bad 0) ∧ Only W W' (fun k => k = B) := by
  have h1I : ¬ (n : Int) + 1 ≤ 4000 := by omega
  obtain ⟨W2, hW2, hB2, hO2, hX2, hs2⟩ := go_counts W B n s (.int .i64 k) (.bool nt) (.slice a n1 ca) (.slice b n2 cb) (.slice c n3 cc) (.int .i64 ((n : Int) + 1)) (.int .i64 ((s : Int) + ((n1 : Int) + (n2 : Int)))) hB
  have hBl := lt_of_rowC hB
  have e1 : IntKind.i64.wrap ((n : Int) + 1) = (n : Int) + 1 := by simp [IntKind.wrap, IntKind.bits, IntKind.signed]; omega
  have e2 : IntKind.i64.wrap ((n1 : Int) + (n2 : Int)) = (n1 : Int) + (n2 : Int) := by simp [IntKind.wrap, IntKind.bits, IntKind.signed]; omega
  have e3 : IntKind.i64.wrap ((s : Int) + ((n1 : Int) + (n2 : Int))) = (s : Int) + ((n1 : Int) + (n2 : Int)) := by simp [IntKind.wrap, IntKind.bits, IntKind.signed]; omega
  obtain ⟨Wa, hWa⟩ : ∃ Wa, Wa = W.alloc (.cells #[.int .i64 k, .bool nt, .slice a n1 ca, .slice b n2 cb, .slice c n3 cc] 28) := ⟨_, rfl⟩
  have hBa : Wa.heap[B]? = some (.cells #[.int .i64 (n : Int), .int .i64 (s : Int)] 66 (0, 0)) := by rw [hWa]; exact (Below.heap_alloc W _ B hBl).trans hB
  have hXa : Wa.heap[W.heap.size]? = some (.cells #[.int .i64 k, .bool nt, .slice a n1 ca, .slice b n2 cb, .slice c n3 cc] 28 (0, 0)) := by rw [hWa]; exact heap_alloc_new W _
  obtain ⟨Wb, hWb⟩ : ∃ Wb, Wb = Wa.setCell ⟨B, 0, none⟩ (.int .i64 ((n : Int) + 1)) := ⟨_, rfl⟩
  have hBb : Wb.heap[B]? = some (.cells #[.int .i64 ((n : Int) + 1), .int .i64 (s : Int)] 66 (0, 0)) := by rw [hWb]; exact heap_setCell_same _ B 0 _ _ _ hBa
  have hXb : Wb.heap[W.heap.size]? = some (.cells #[.int .i64 k, .bool nt, .slice a n1 ca, .slice b n2 cb, .slice c n3 cc] 28 (0, 0)) := by rw [hWb]; exact (Below.heap_setCell _ _ _ W.heap.size (by simp; omega)).trans hXa
  have a0 : Wa.cell? ⟨B, 0, none⟩ = some (.int .i64 (n : Int)) := by rw [cell_of_row _ _ _ _ _ _ hBa]; rfl
  have a1 : Wa.frozen? ⟨B, 0, none⟩ = false := frozen_of_row _ _ _ _ _ hBa
  have b0 : Wb.cell? ⟨B, 1, none⟩ = some (.int .i64 (s : Int)) := by rw [cell_of_row _ _ _ _ _ _ hBb]; rfl
  have b1 : Wb.frozen? ⟨B, 1, none⟩ = false := frozen_of_row _ _ _ _ _ hBb
  have b2 : Wb.cell? ⟨W.heap.size, 2, none⟩ = some (.slice a n1 ca) := by rw [cell_of_row _ _ _ _ _ _ hXb]; rfl
  have b3 : Wb.cell? ⟨W.heap.size, 3, none⟩ = some (.slice b n2 cb) := by rw [cell_of_row _ _ _ _ _ _ hXb]; rfl
  have p0 : W2.cell? ⟨B, 0, none⟩ = some (.int .i64 ((n : Int) + 1)) := by rw [cell_of_row _ _ _ _ _ _ hB2]; rfl
  have p1 : W2.cell? ⟨B, 1, none⟩ = some (.int .i64 ((s : Int) + ((n1 : Int) + (n2 : Int)))) := by rw [cell_of_row _ _ _ _ _ _ hB2]; rfl
  have hE2 := hE.only hO2 hF
  have p2 := hE2.c0
  have HO2 := hid0 hO2
  have HB2 := hid0 hB2
  have HX2 := hid0 hX2
  have HS2 := hid0 hs2
  have HE2 := hid0 hE2
  have hfa := hWa.symm
  have hfb := hWb.symm
  have hf2 : (Wb.setCell ⟨B, 1, none⟩ (.int .i64 ((s : Int) + ((n1 : Int) + (n2 : Int))))).drew = W2 := by rw [hW2, hWb, hWa]
  clear hW2 hB2 hO2 hX2 hWa hBa hXa hWb hBb hXb hE2 hB hE hs2
  go_enter Tryd.func30, Tryd.ntmps30
  go_wp2
  go_region
  go_wp2
  refine wp_region_held_drew (S := (fun V => V.cell? ⟨B, 0, none⟩ = some (.int .i64 ((n : Int) + 1)) ∧ V.cell? ⟨B, 1, none⟩ = some (.int .i64 ((s : Int) + ((n1 : Int) + (n2 : Int)))) ∧ V.cell? ⟨1, 0, none⟩ = some (.iface 144 (.pointer (some (A 0)))))) (by kernel_rfl) ?_ (fun hHeld => ?_)
  · exact ⟨p0, p1, p2⟩
  refine tkV (i := 0) (d := some 31) (v := ?_) rfl (by kernel_rfl) (by kernel_rfl) (by kernel_rfl) rfl (fun _ _ _ h => h) (by rfl) ?_ (by assumption) ?_
  rotate_left
  · (intro w hSw; (try dsimp only at hSw); (try simp only [List.getElem_toArray, List.getElem_cons_zero]); go_simp; try with_reducible rfl)
  simp only [Act.put, List.setIfInBounds_toArray, List.set_cons_zero, List.set_cons_succ]
  refine tkV (i := 1) (d := some 32) (v := ?_) rfl (by kernel_rfl) (by kernel_rfl) (by kernel_rfl) rfl (fun _ _ _ h => h) (by rfl) ?_ (by assumption) ?_
  rotate_left
  · (intro w hSw; (try dsimp only at hSw); (try simp only [List.getElem_toArray, List.getElem_cons_zero, List.getElem_cons_succ]); go_simp; try with_reducible rfl)
  simp only [Act.put, List.setIfInBounds_toArray, List.set_cons_zero, List.set_cons_succ]
  refine tkV (i := 2) (d := some 33) (v := ?_) rfl (by kernel_rfl) (by kernel_rfl) (by kernel_rfl) rfl (fun _ _ _ h => h) (by rfl) ?_ (by assumption) ?_
  rotate_left
  · (intro w hSw; (try dsimp only at hSw); (try simp only [List.getElem_toArray, List.getElem_cons_zero, List.getElem_cons_succ]); go_simp; try with_reducible rfl)
  simp only [Act.put, List.setIfInBounds_toArray, List.set_cons_zero, List.set_cons_succ]
  refine tkV (i := 3) (d := some 34) (v := ?_) rfl (by kernel_rfl) (by kernel_rfl) (by kernel_rfl) rfl (fun _ _ _ h => h) (by rfl) ?_ (by assumption) ?_
  rotate_left
  · (intro w hSw; (try dsimp only at hSw); (try simp only [List.getElem_toArray, List.getElem_cons_zero, List.getElem_cons_succ]); go_simp; try with_reducible rfl)
  simp only [Act.put, List.setIfInBounds_toArray, List.set_cons_zero, List.set_cons_succ]
  refine tkV (i := 4) (d := some 35) (v := .bool false) rfl (by kernel_rfl) (by kernel_rfl) (by kernel_rfl) rfl (fun _ _ _ h => h) (by rfl) ?_ (by assumption) ?_
  · (intro w hSw; (try dsimp only at hSw); (try simp only [List.getElem_toArray, List.getElem_cons_zero, List.getElem_cons_succ]); go_simp; try omega)
  simp only [Act.put, List.setIfInBounds_toArray, List.set_cons_zero, List.set_cons_succ]
  refine tkV (i := 5) (d := some 36) (v := ?_) rfl (by kernel_rfl) (by kernel_rfl) (by kernel_rfl) rfl (fun _ _ _ h => h) (by rfl) ?_ (by assumption) ?_
  rotate_left
  · (intro w hSw; (try dsimp only at hSw); (try simp only [List.getElem_toArray, List.getElem_cons_zero, List.getElem_cons_succ]); go_simp; try with_reducible rfl)
  simp only [Act.put, List.setIfInBounds_toArray, List.set_cons_zero, List.set_cons_succ]
  refine tkU (i := 6) (d := some 37) rfl (by kernel_rfl) (by kernel_rfl) (by kernel_rfl) rfl (fun _ _ _ h => h) (by rfl) (by assumption) ?_
  simp only [Act.put, List.setIfInBounds_toArray, List.set_cons_zero, List.set_cons_succ]
  refine tkU (i := 7) (d := some 38) rfl (by kernel_rfl) (by kernel_rfl) (by kernel_rfl) rfl (fun _ _ _ h => h) (by rfl) (by assumption) ?_
  simp only [Act.put, List.setIfInBounds_toArray, List.set_cons_zero, List.set_cons_succ]
  refine tkV (i := 8) (d := some 39) (v := ?_) rfl (by kernel_rfl) (by kernel_rfl) (by kernel_rfl) rfl (fun _ _ _ h => h) (by rfl) ?_ (by assumption) ?_
  rotate_left
  · (intro w hSw; (try dsimp only at hSw); (try simp only [List.getElem_toArray, List.getElem_cons_zero, List.getElem_cons_succ]); go_simp; try with_reducible rfl)
  simp only [Act.put, List.setIfInBounds_toArray, List.set_cons_zero, List.set_cons_succ]
  refine tkV (i := 9) (d := some 40) (v := ?_) rfl (by kernel_rfl) (by kernel_rfl) (by kernel_rfl) rfl (fun _ _ _ h => h) (by rfl) ?_ (by assumption) ?_
  rotate_left
  · (intro w hSw; (try dsimp only at hSw); (try simp only [List.getElem_toArray, List.getElem_cons_zero, List.getElem_cons_succ]); go_simp; try with_reducible rfl)
  simp only [Act.put, List.setIfInBounds_toArray, List.set_cons_zero, List.set_cons_succ]
  refine tkU (i := 10) (d := some 41) rfl (by kernel_rfl) (by kernel_rfl) (by kernel_rfl) rfl (fun _ _ _ h => h) (by rfl) (by assumption) ?_
  simp only [Act.put, List.setIfInBounds_toArray, List.set_cons_zero, List.set_cons_succ]
  refine tkU (i := 11) (d := some 42) rfl (by kernel_rfl) (by kernel_rfl) (by kernel_rfl) rfl (fun _ _ _ h => h) (by rfl) (by assumption) ?_
  simp only [Act.put, List.setIfInBounds_toArray, List.set_cons_zero, List.set_cons_succ]
  refine tkU (i := 12) (d := some 43) rfl (by kernel_rfl) (by kernel_rfl) (by kernel_rfl) rfl (fun _ _ _ h => h) (by rfl) (by assumption) ?_
  simp only [Act.put, List.setIfInBounds_toArray, List.set_cons_zero, List.set_cons_succ]
  refine tkU (i := 13) (d := some 44) rfl (by kernel_rfl) (by kernel_rfl) (by kernel_rfl) rfl (fun _ _ _ h => h) (by rfl) (by assumption) ?_
  simp only [Act.put, List.setIfInBounds_toArray, List.set_cons_zero, List.set_cons_succ]
  refine tkU (i := 14) (d := some 45) rfl (by kernel_rfl) (by kernel_rfl) (by kernel_rfl) rfl (fun _ _ _ h => h) (by rfl) (by assumption) ?_
  simp only [Act.put, List.setIfInBounds_toArray, List.set_cons_zero, List.set_cons_succ]
  refine tkV (i := 15) (d := some 46) (v := ?_) rfl (by kernel_rfl) (by kernel_rfl) (by kernel_rfl) rfl (fun _ _ _ h => h) (by rfl) ?_ (by assumption) ?_
  rotate_left
  · (intro w hSw; (try dsimp only at hSw); (try simp only [List.getElem_toArray, List.getElem_cons_zero, List.getElem_cons_succ]); go_simp; try with_reducible rfl)
  simp only [Act.put, List.setIfInBounds_toArray, List.set_cons_zero, List.set_cons_succ]
  refine tkV (i := 16) (d := some 47) (v := ?_) rfl (by kernel_rfl) (by kernel_rfl) (by kernel_rfl) rfl (fun _ _ _ h => h) (by rfl) ?_ (by assumption) ?_
  rotate_left
  · (intro w hSw; (try dsimp only at hSw); (try simp only [List.getElem_toArray, List.getElem_cons_zero, List.getElem_cons_succ]); go_simp; try with_reducible rfl)
  simp only [Act.put, List.setIfInBounds_toArray, List.set_cons_zero, List.set_cons_succ]
  refine wpAnyH_ready (rs := [17]) (by kernel_rfl) (by simp) (AllReadyH.cons rfl (fun K hK => ?_) AllReadyH.nil)
  try simp only [List.getElem_toArray, List.getElem_cons_zero, List.getElem_cons_succ]
  go_simp
  go_split_ands
  refine (need_fb _ _ _ _ (by first | rfl | (exact decide_eq_false (by omega)))).mono ?_
  rintro e w7 ⟨rfl, hw7⟩
  subst hw7
  exact ⟨rfl, rfl, HO2.out.step (Only.drewN _ 1 _)⟩
end Go.Proofs.YtiapefdklojhdaaDoor
namespace Go.Proofs.YtiapefdklojhdaaDoor
open Go.RowKit Go.Shelf
set_option maxRecDepth 10000 in
set_option maxHeartbeats 3200000 in
theorem go_many2 (k : Int) (nt : Bool) (a b c : Option Addr) (n1 ca n2 cb n3 cc d n s B : Nat) (A : Nat → Addr) (W : World) (l1 : n1 ≤ 1000000000) (l2 : n2 ≤ 1000000000) (hE : E3 W A) (hF : Far B) (hn : n ≤ 4000) (hs : s ≤ 65536) (hd : d ≤ 129)
    (hB : W.heap[B]? = some (.cells #[.int .i64 (n : Int), .int .i64 (s : Int)] 66 (0, 0))) (h1 : n + 1 ≤ 4000) (hbad : ¬ d ≤ 128) :
    Calls Tryd.prog 30 #[.pointer (some ⟨B, 0, none⟩), .agg #[.int .i64 k, .bool nt, .slice a n1 ca, .slice b n2 cb, .slice c n3 cc], .int .i64 (d : Int)] W fun r W' => GoR A B r W' (.bad 0) ∧ Only W W' (fun k => k = B) := by
  have h1I : (n : Int) + 1 ≤ 4000 := by omega
  obtain ⟨W2, hW2, hB2, hO2, hX2, hs2⟩ := go_counts W B n s (.int .i64 k) (.bool nt) (.slice a n1 ca) (.slice b n2 cb) (.slice c n3 cc) (.int .i64 ((n : Int) + 1)) (.int .i64 ((s : Int) + ((n1 : Int) + (n2 : Int)))) hB
  have hBl := lt_of_rowC hB
  have e1 : IntKind.i64.wrap ((n : Int) + 1) = (n : Int) + 1 := by simp [IntKind.wrap, IntKind.bits, IntKind.signed]; omega
  have e2 : IntKind.i64.wrap ((n1 : Int) + (n2 : Int)) = (n1 : Int) + (n2 : Int) := by simp [IntKind.wrap, IntKind.bits, IntKind.signed]; omega
  have e3 : IntKind.i64.wrap ((s : Int) + ((n1 : Int) + (n2 : Int))) = (s : Int) + ((n1 : Int) + (n2 : Int)) := by simp [IntKind.wrap, IntKind.bits, IntKind.signed]; omega
  obtain ⟨Wa, hWa⟩ : ∃ Wa, Wa = W.alloc (.cells #[.int .i64 k, .bool nt, .slice a n1 ca, .slice b n2 cb, .slice c n3 cc] 28) := ⟨_, rfl⟩
  have hBa : Wa.heap[B]? = some (.cells #[.int .i64 (n : Int), .int .i64 (s : Int)] 66 (0, 0)) := by rw [hWa]; exact (Below.heap_alloc W _ B hBl).trans hB
  have hXa : Wa.heap[W.heap.size]? = some (.cells #[.int .i64 k, .bool nt, .slice a n1 ca, .slice b n2 cb, .slice c n3 cc] 28 (0, 0)) := by rw [hWa]; exact heap_alloc_new W _
  obtain ⟨Wb, hWb⟩ : ∃ Wb, Wb = Wa.setCell ⟨B, 0, none⟩ (.int .i64 ((n : Int) + 1)) := ⟨_, rfl⟩
  have hBb : Wb.heap[B]? = some (.cells #[.int .i64 ((n : Int) + 1), .int .i64 (s : Int)] 66 (0, 0)) := by rw [hWb]; exact heap_setCell_same _ B 0 _ _ _ hBa
  have hXb : Wb.heap[W.heap.size]? = some (.cells #[.int .i64 k, .bool nt, .slice a n1 ca, .slice b n2 cb, .slice c n3 cc] 28 (0, 0)) := by rw [hWb]; exact (Below.heap_setCell _ _ _ W.heap.size (by simp; omega)).trans hXa
  have a0 : Wa.cell? ⟨B, 0, none⟩ = some (.int .i64 (n : Int)) := by rw [cell_of_row _ _ _ _ _ _ hBa]; rfl
  have a1 : Wa.frozen? ⟨B, 0, none⟩ = false := frozen_of_row _ _ _ _ _ hBa
  have b0 : Wb.cell? ⟨B, 1, none⟩ = some (.int .i64 (s : Int)) := by rw [cell_of_row _ _ _ _ _ _ hBb]; rfl
  have b1 : Wb.frozen? ⟨B, 1, none⟩ = false := frozen_of_row _ _ _ _ _ hBb
  have b2 : Wb.cell? ⟨W.heap.size, 2, none⟩ = some (.slice a n1 ca) := by rw [cell_of_row _ _ _ _ _ _ hXb]; rfl
  have b3 : Wb.cell? ⟨W.heap.size, 3, none⟩ = some (.slice b n2 cb) := by rw [cell_of_row _ _ _ _ _ _ hXb]; rfl
  have p0 : W2.cell? ⟨B, 0, none⟩ = some (.int .i64 ((n : Int) + 1)) := by rw [cell_of_row _ _ _ _ _ _ hB2]; rfl
  have p1 : W2.cell? ⟨B, 1, none⟩ = some (.int .i64 ((s : Int) + ((n1 : Int) + (n2 : Int)))) := by rw [cell_of_row _ _ _ _ _ _ hB2]; rfl
  have hE2 := hE.only hO2 hF
  have p2 := hE2.c0
  have HO2 := hid0 hO2
  have HB2 := hid0 hB2
  have HX2 := hid0 hX2
  have HS2 := hid0 hs2
  have HE2 := hid0 hE2
  have hfa := hWa.symm
  have hfb := hWb.symm
  have hf2 : (Wb.setCell ⟨B, 1, none⟩ (.int .i64 ((s : Int) + ((n1 : Int) + (n2 : Int))))).drew = W2 := by rw [hW2, hWb, hWa]
  clear hW2 hB2 hO2 hX2 hWa hBa hXa hWb hBb hXb hE2 hB hE hs2
  go_enter Tryd.func30, Tryd.ntmps30
  go_wp2
  go_region
  go_wp2
  refine wp_region_held_drew (S := (fun V => V.cell? ⟨B, 0, none⟩ = some (.int .i64 ((n : Int) + 1)) ∧ V.cell? ⟨B, 1, none⟩ = some (.int .i64 ((s : Int) + ((n1 : Int) + (n2 : Int)))) ∧ V.cell? ⟨1, 0, none⟩ = some (.iface 144 (.pointer (some (A 0)))))) (by kernel_rfl) ?_ (fun hHeld => ?_)
  · exact ⟨p0, p1, p2⟩
  refine tkV (i := 0) (d := some 31) (v := ?_) rfl (by kernel_rfl) (by kernel_rfl) (by kernel_rfl) rfl (fun _ _ _ h => h) (by rfl) ?_ (by assumption) ?_
  rotate_left
  · (intro w hSw; (try dsimp only at hSw); (try simp only [List.getElem_toArray, List.getElem_cons_zero]); go_simp; try with_reducible rfl)
  simp only [Act.put, List.setIfInBounds_toArray, List.set_cons_zero, List.set_cons_succ]
  refine tkV (i := 1) (d := some 32) (v := ?_) rfl (by kernel_rfl) (by kernel_rfl) (by kernel_rfl) rfl (fun _ _ _ h => h) (by rfl) ?_ (by assumption) ?_
  rotate_left
  · (intro w hSw; (try dsimp only at hSw); (try simp only [List.getElem_toArray, List.getElem_cons_zero, List.getElem_cons_succ]); go_simp; try with_reducible rfl)
  simp only [Act.put, List.setIfInBounds_toArray, List.set_cons_zero, List.set_cons_succ]
  refine tkV (i := 2) (d := some 33) (v := ?_) rfl (by kernel_rfl) (by kernel_rfl) (by kernel_rfl) rfl (fun _ _ _ h => h) (by rfl) ?_ (by assumption) ?_
  rotate_left
  · (intro w hSw; (try dsimp only at hSw); (try simp only [List.getElem_toArray, List.getElem_cons_zero, List.getElem_cons_succ]); go_simp; try with_reducible rfl)
  simp only [Act.put, List.setIfInBounds_toArray, List.set_cons_zero, List.set_cons_succ]
  refine tkV (i := 3) (d := some 34) (v := ?_) rfl (by kernel_rfl) (by kernel_rfl) (by kernel_rfl) rfl (fun _ _ _ h => h) (by rfl) ?_ (by assumption) ?_
  rotate_left
  · (intro w hSw; (try dsimp only at hSw); (try simp only [List.getElem_toArray, List.getElem_cons_zero, List.getElem_cons_succ]); go_simp; try with_reducible rfl)
  simp only [Act.put, List.setIfInBounds_toArray, List.set_cons_zero, List.set_cons_succ]
  refine tkV (i := 4) (d := some 35) (v := ?_) rfl (by kernel_rfl) (by kernel_rfl) (by kernel_rfl) rfl (fun _ _ _ h => h) (by rfl) ?_ (by assumption) ?_
  rotate_left
  · (intro w hSw; (try dsimp only at hSw); (try simp only [List.getElem_toArray, List.getElem_cons_zero, List.getElem_cons_succ]); go_simp; try with_reducible rfl)
  simp only [Act.put, List.setIfInBounds_toArray, List.set_cons_zero, List.set_cons_succ]
  refine tkV (i := 5) (d := some 36) (v := ?_) rfl (by kernel_rfl) (by kernel_rfl) (by kernel_rfl) rfl (fun _ _ _ h => h) (by rfl) ?_ (by assumption) ?_
  rotate_left
  · (intro w hSw; (try dsimp only at hSw); (try simp only [List.getElem_toArray, List.getElem_cons_zero, List.getElem_cons_succ]); go_simp; try with_reducible rfl)
  simp only [Act.put, List.setIfInBounds_toArray, List.set_cons_zero, List.set_cons_succ]
  refine tkV (i := 6) (d := some 37) (v := ?_) rfl (by kernel_rfl) (by kernel_rfl) (by kernel_rfl) rfl (fun _ _ _ h => h) (by rfl) ?_ (by assumption) ?_
  rotate_left
  · (intro w hSw; (try dsimp only at hSw); (try simp only [List.getElem_toArray, List.getElem_cons_zero, List.getElem_cons_succ]); go_simp; try with_reducible rfl)
  simp only [Act.put, List.setIfInBounds_toArray, List.set_cons_zero, List.set_cons_succ]
  refine tkV (i := 7) (d := some 38) (v := .bool false) rfl (by kernel_rfl) (by kernel_rfl) (by kernel_rfl) rfl (fun _ _ _ h => h) (by rfl) ?_ (by assumption) ?_
  · (intro w hSw; (try dsimp only at hSw); (try simp only [List.getElem_toArray, List.getElem_cons_zero, List.getElem_cons_succ]); go_simp; try omega)
  simp only [Act.put, List.setIfInBounds_toArray, List.set_cons_zero, List.set_cons_succ]
  refine tkV (i := 8) (d := some 39) (v := ?_) rfl (by kernel_rfl) (by kernel_rfl) (by kernel_rfl) rfl (fun _ _ _ h => h) (by rfl) ?_ (by assumption) ?_
  rotate_left
  · (intro w hSw; (try dsimp only at hSw); (try simp only [List.getElem_toArray, List.getElem_cons_zero, List.getElem_cons_succ]); go_simp; try with_reducible rfl)
  simp only [Act.put, List.setIfInBounds_toArray, List.set_cons_zero, List.set_cons_succ]
  refine tkV (i := 9) (d := some 40) (v := ?_) rfl (by kernel_rfl) (by kernel_rfl) (by kernel_rfl) rfl (fun _ _ _ h => h) (by rfl) ?_ (by assumption) ?_
  rotate_left
  · (intro w hSw; (try dsimp only at hSw); (try simp only [List.getElem_toArray, List.getElem_cons_zero, List.getElem_cons_succ]); go_simp; try with_reducible rfl)
  simp only [Act.put, List.setIfInBounds_toArray, List.set_cons_zero, List.set_cons_succ]
  refine tkU (i := 10) (d := some 41) rfl (by kernel_rfl) (by kernel_rfl) (by kernel_rfl) rfl (fun _ _ _ h => h) (by rfl) (by assumption) ?_
  simp only [Act.put, List.setIfInBounds_toArray, List.set_cons_zero, List.set_cons_succ]
  refine tkU (i := 11) (d := some 42) rfl (by kernel_rfl) (by kernel_rfl) (by kernel_rfl) rfl (fun _ _ _ h => h) (by rfl) (by assumption) ?_
  simp only [Act.put, List.setIfInBounds_toArray, List.set_cons_zero, List.set_cons_succ]
  refine tkU (i := 12) (d := some 43) rfl (by kernel_rfl) (by kernel_rfl) (by kernel_rfl) rfl (fun _ _ _ h => h) (by rfl) (by assumption) ?_
  simp only [Act.put, List.setIfInBounds_toArray, List.set_cons_zero, List.set_cons_succ]
  refine tkU (i := 13) (d := some 44) rfl (by kernel_rfl) (by kernel_rfl) (by kernel_rfl) rfl (fun _ _ _ h => h) (by rfl) (by assumption) ?_
  simp only [Act.put, List.setIfInBounds_toArray, List.set_cons_zero, List.set_cons_succ]
  refine tkU (i := 14) (d := some 45) rfl (by kernel_rfl) (by kernel_rfl) (by kernel_rfl) rfl (fun _ _ _ h => h) (by rfl) (by assumption) ?_
  simp only [Act.put, List.setIfInBounds_toArray, List.set_cons_zero, List.set_cons_succ]
  refine tkV (i := 15) (d := some 46) (v := ?_) rfl (by kernel_rfl) (by kernel_rfl) (by kernel_rfl) rfl (fun _ _ _ h => h) (by rfl) ?_ (by assumption) ?_
  rotate_left
  · (intro w hSw; (try dsimp only at hSw); (try simp only [List.getElem_toArray, List.getElem_cons_zero, List.getElem_cons_succ]); go_simp; try with_reducible rfl)
  simp only [Act.put, List.setIfInBounds_toArray, List.set_cons_zero, List.set_cons_succ]
  refine tkV (i := 16) (d := some 47) (v := ?_) rfl (by kernel_rfl) (by kernel_rfl) (by kernel_rfl) rfl (fun _ _ _ h => h) (by rfl) ?_ (by assumption) ?_
  rotate_left
  · (intro w hSw; (try dsimp only at hSw); (try simp only [List.getElem_toArray, List.getElem_cons_zero, List.getElem_cons_succ]); go_simp; try with_reducible rfl)
  simp only [Act.put, List.setIfInBounds_toArray, List.set_cons_zero, List.set_cons_succ]
  refine wpAnyH_ready (rs := [17]) (by kernel_rfl) (by simp) (AllReadyH.cons rfl (fun K hK => ?_) AllReadyH.nil)
  try simp only [List.getElem_toArray, List.getElem_cons_zero, List.getElem_cons_succ]
  go_simp
  go_split_ands
  refine (need_fb _ _ _ _ (by first | rfl | (exact decide_eq_false (by omega)))).mono ?_
  rintro e w7 ⟨rfl, hw7⟩
  subst hw7
  exact ⟨rfl, rfl, HO2.out.step (Only.drewN _ 1 _)⟩
end Go.Proofs.YtiapefdklojhdaaDoor
namespace Go.Proofs.YtiapefdklojhdaaDoor
open Go.RowKit Go.Shelf
set_option maxRecDepth 10000 in
set_option maxHeartbeats 3200000 in
theorem go_many3 (k : Int) (nt : Bool) (a b c : Option Addr) (n1 ca n2 cb n3 cc d n s B : Nat) (A : Nat → Addr) (W : World) (l1 : n1 ≤ 1000000000) (l2 : n2 ≤ 1000000000) (hE : E3 W A) (hF : Far B) (hn : n ≤ 4000) (hs : s ≤ 65536) (hd : d ≤ 129)
    (hB : W.heap[B]? = some (.cells #[.int .i64 (n : Int), .int .i64 (s : Int)] 66 (0, 0))) (h1 : n + 1 ≤ 4000) (h2 : d ≤ 128) (hbad : ¬ s + (n1 + n2) ≤ 65536) :
    Calls Tryd.prog 30 #[.pointer (some ⟨B, 0, none⟩), .agg #[.int .i64 k, .bool nt, .slice a n1 ca, .slice b n2 cb, .slice c n3 cc], .int .i64 (d : Int)] W fun r W' => GoR A B r W' (.bad 0) ∧ Only W W' (fun k => k = B) := by
  have h1I : (n : Int) + 1 ≤ 4000 := by omega
  have h2I : (d : Int) ≤ 128 := by omega
  have h3I : ¬ (s : Int) + ((n1 : Int) + (n2 : Int)) ≤ 65536 := by omega
  obtain ⟨W2, hW2, hB2, hO2, hX2, hs2⟩ := go_counts W B n s (.int .i64 k) (.bool nt) (.slice a n1 ca) (.slice b n2 cb) (.slice c n3 cc) (.int .i64 ((n : Int) + 1)) (.int .i64 ((s : Int) + ((n1 : Int) + (n2 : Int)))) hB
  have hBl := lt_of_rowC hB
  have e1 : IntKind.i64.wrap ((n : Int) + 1) = (n : Int) + 1 := by simp [IntKind.wrap, IntKind.bits, IntKind.signed]; omega
  have e2 : IntKind.i64.wrap ((n1 : Int) + (n2 : Int)) = (n1 : Int) + (n2 : Int) := by simp [IntKind.wrap, IntKind.bits, IntKind.signed]; omega
  have e3 : IntKind.i64.wrap ((s : Int) + ((n1 : Int) + (n2 : Int))) = (s : Int) + ((n1 : Int) + (n2 : Int)) := by simp [IntKind.wrap, IntKind.bits, IntKind.signed]; omega
  obtain ⟨Wa, hWa⟩ : ∃ Wa, Wa = W.alloc (.cells #[.int .i64 k, .bool nt, .slice a n1 ca, .slice b n2 cb, .slice c n3 cc] 28) := ⟨_, rfl⟩
  have hBa : Wa.heap[B]? = some (.cells #[.int .i64 (n : Int), .int .i64 (s : Int)] 66 (0, 0)) := by rw [hWa]; exact (Below.heap_alloc W _ B hBl).trans hB
  have hXa : Wa.heap[W.heap.size]? = some (.cells #[.int .i64 k, .bool nt, .slice a n1 ca, .slice b n2 cb, .slice c n3 cc] 28 (0, 0)) := by rw [hWa]; exact heap_alloc_new W _
  obtain ⟨Wb, hWb⟩ : ∃ Wb, Wb = Wa.setCell ⟨B, 0, none⟩ (.int .i64 ((n : Int) + 1)) := ⟨_, rfl⟩
  have hBb : Wb.heap[B]? = some (.cells #[.int .i64 ((n : Int) + 1), .int .i64 (s : Int)] 66 (0, 0)) := by rw [hWb]; exact heap_setCell_same _ B 0 _ _ _ hBa
  have hXb : Wb.heap[W.heap.size]? = some (.cells #[.int .i64 k, .bool nt, .slice a n1 ca, .slice b n2 cb, .slice c n3 cc] 28 (0, 0)) := by rw [hWb]; exact (Below.heap_setCell _ _ _ W.heap.size (by simp; omega)).trans hXa
  have a0 : Wa.cell? ⟨B, 0, none⟩ = some (.int .i64 (n : Int)) := by rw [cell_of_row _ _ _ _ _ _ hBa]; rfl
  have a1 : Wa.frozen? ⟨B, 0, none⟩ = false := frozen_of_row _ _ _ _ _ hBa
  have b0 : Wb.cell? ⟨B, 1, none⟩ = some (.int .i64 (s : Int)) := by rw [cell_of_row _ _ _ _ _ _ hBb]; rfl
  have b1 : Wb.frozen? ⟨B, 1, none⟩ = false := frozen_of_row _ _ _ _ _ hBb
  have b2 : Wb.cell? ⟨W.heap.size, 2, none⟩ = some (.slice a n1 ca) := by rw [cell_of_row _ _ _ _ _ _ hXb]; rfl
  have b3 : Wb.cell? ⟨W.heap.size, 3, none⟩ = some (.slice b n2 cb) := by rw [cell_of_row _ _ _ _ _ _ hXb]; rfl
  have p0 : W2.cell? ⟨B, 0, none⟩ = some (.int .i64 ((n : Int) + 1)) := by rw [cell_of_row _ _ _ _ _ _ hB2]; rfl
  have p1 : W2.cell? ⟨B, 1, none⟩ = some (.int .i64 ((s : Int) + ((n1 : Int) + (n2 : Int)))) := by rw [cell_of_row _ _ _ _ _ _ hB2]; rfl
  have hE2 := hE.only hO2 hF
  have p2 := hE2.c0
  have HO2 := hid0 hO2
  have HB2 := hid0 hB2
  have HX2 := hid0 hX2
  have HS2 := hid0 hs2
  have HE2 := hid0 hE2
  have hfa := hWa.symm
  have hfb := hWb.symm
  have hf2 : (Wb.setCell ⟨B, 1, none⟩ (.int .i64 ((s : Int) + ((n1 : Int) + (n2 : Int))))).drew = W2 := by rw [hW2, hWb, hWa]
  clear hW2 hB2 hO2 hX2 hWa hBa hXa hWb hBb hXb hE2 hB hE hs2
  go_enter Tryd.func30, Tryd.ntmps30
  go_wp2
  go_region
  go_wp2
  refine wp_region_held_drew (S := (fun V => V.cell? ⟨B, 0, none⟩ = some (.int .i64 ((n : Int) + 1)) ∧ V.cell? ⟨B, 1, none⟩ = some (.int .i64 ((s : Int) + ((n1 : Int) + (n2 : Int)))) ∧ V.cell? ⟨1, 0, none⟩ = some (.iface 144 (.pointer (some (A 0)))))) (by kernel_rfl) ?_ (fun hHeld => ?_)
  · exact ⟨p0, p1, p2⟩
  refine tkV (i := 0) (d := some 31) (v := ?_) rfl (by kernel_rfl) (by kernel_rfl) (by kernel_rfl) rfl (fun _ _ _ h => h) (by rfl) ?_ (by assumption) ?_
  rotate_left
  · (intro w hSw; (try dsimp only at hSw); (try simp only [List.getElem_toArray, List.getElem_cons_zero]); go_simp; try with_reducible rfl)
  simp only [Act.put, List.setIfInBounds_toArray, List.set_cons_zero, List.set_cons_succ]
  refine tkV (i := 1) (d := some 32) (v := ?_) rfl (by kernel_rfl) (by kernel_rfl) (by kernel_rfl) rfl (fun _ _ _ h => h) (by rfl) ?_ (by assumption) ?_
  rotate_left
  · (intro w hSw; (try dsimp only at hSw); (try simp only [List.getElem_toArray, List.getElem_cons_zero, List.getElem_cons_succ]); go_simp; try with_reducible rfl)
  simp only [Act.put, List.setIfInBounds_toArray, List.set_cons_zero, List.set_cons_succ]
  refine tkV (i := 2) (d := some 33) (v := ?_) rfl (by kernel_rfl) (by kernel_rfl) (by kernel_rfl) rfl (fun _ _ _ h => h) (by rfl) ?_ (by assumption) ?_
  rotate_left
  · (intro w hSw; (try dsimp only at hSw); (try simp only [List.getElem_toArray, List.getElem_cons_zero, List.getElem_cons_succ]); go_simp; try with_reducible rfl)
  simp only [Act.put, List.setIfInBounds_toArray, List.set_cons_zero, List.set_cons_succ]
  refine tkV (i := 3) (d := some 34) (v := ?_) rfl (by kernel_rfl) (by kernel_rfl) (by kernel_rfl) rfl (fun _ _ _ h => h) (by rfl) ?_ (by assumption) ?_
  rotate_left
  · (intro w hSw; (try dsimp only at hSw); (try simp only [List.getElem_toArray, List.getElem_cons_zero, List.getElem_cons_succ]); go_simp; try with_reducible rfl)
  simp only [Act.put, List.setIfInBounds_toArray, List.set_cons_zero, List.set_cons_succ]
  refine tkV (i := 4) (d := some 35) (v := ?_) rfl (by kernel_rfl) (by kernel_rfl) (by kernel_rfl) rfl (fun _ _ _ h => h) (by rfl) ?_ (by assumption) ?_
  rotate_left
  · (intro w hSw; (try dsimp only at hSw); (try simp only [List.getElem_toArray, List.getElem_cons_zero, List.getElem_cons_succ]); go_simp; try with_reducible rfl)
  simp only [Act.put, List.setIfInBounds_toArray, List.set_cons_zero, List.set_cons_succ]
  refine tkV (i := 5) (d := some 36) (v := ?_) rfl (by kernel_rfl) (by kernel_rfl) (by kernel_rfl) rfl (fun _ _ _ h => h) (by rfl) ?_ (by assumption) ?_
  rotate_left
  · (intro w hSw; (try dsimp only at hSw); (try simp only [List.getElem_toArray, List.getElem_cons_zero, List.getElem_cons_succ]); go_simp; try with_reducible rfl)
  simp only [Act.put, List.setIfInBounds_toArray, List.set_cons_zero, List.set_cons_succ]
  refine tkV (i := 6) (d := some 37) (v := ?_) rfl (by kernel_rfl) (by kernel_rfl) (by kernel_rfl) rfl (fun _ _ _ h => h) (by rfl) ?_ (by assumption) ?_
  rotate_left
  · (intro w hSw; (try dsimp only at hSw); (try simp only [List.getElem_toArray, List.getElem_cons_zero, List.getElem_cons_succ]); go_simp; try with_reducible rfl)
  simp only [Act.put, List.setIfInBounds_toArray, List.set_cons_zero, List.set_cons_succ]
  refine tkV (i := 7) (d := some 38) (v := ?_) rfl (by kernel_rfl) (by kernel_rfl) (by kernel_rfl) rfl (fun _ _ _ h => h) (by rfl) ?_ (by assumption) ?_
  rotate_left
  · (intro w hSw; (try dsimp only at hSw); (try simp only [List.getElem_toArray, List.getElem_cons_zero, List.getElem_cons_succ]); go_simp; try with_reducible rfl)
  simp only [Act.put, List.setIfInBounds_toArray, List.set_cons_zero, List.set_cons_succ]
  refine tkV (i := 8) (d := some 39) (v := ?_) rfl (by kernel_rfl) (by kernel_rfl) (by kernel_rfl) rfl (fun _ _ _ h => h) (by rfl) ?_ (by assumption) ?_
  rotate_left
  · (intro w hSw; (try dsimp only at hSw); (try simp only [List.getElem_toArray, List.getElem_cons_zero, List.getElem_cons_succ]); go_simp; try with_reducible rfl)
  simp only [Act.put, List.setIfInBounds_toArray, List.set_cons_zero, List.set_cons_succ]
  refine tkV (i := 9) (d := some 40) (v := ?_) rfl (by kernel_rfl) (by kernel_rfl) (by kernel_rfl) rfl (fun _ _ _ h => h) (by rfl) ?_ (by assumption) ?_
  rotate_left
  · (intro w hSw; (try dsimp only at hSw); (try simp only [List.getElem_toArray, List.getElem_cons_zero, List.getElem_cons_succ]); go_simp; try with_reducible rfl)
  simp only [Act.put, List.setIfInBounds_toArray, List.set_cons_zero, List.set_cons_succ]
  refine tkV (i := 10) (d := some 41) (v := ?_) rfl (by kernel_rfl) (by kernel_rfl) (by kernel_rfl) rfl (fun _ _ _ h => h) (by rfl) ?_ (by assumption) ?_
  rotate_left
  · (intro w hSw; (try dsimp only at hSw); (try simp only [List.getElem_toArray, List.getElem_cons_zero, List.getElem_cons_succ]); go_simp; try with_reducible rfl)
  simp only [Act.put, List.setIfInBounds_toArray, List.set_cons_zero, List.set_cons_succ]
  refine tkV (i := 11) (d := some 42) (v := ?_) rfl (by kernel_rfl) (by kernel_rfl) (by kernel_rfl) rfl (fun _ _ _ h => h) (by rfl) ?_ (by assumption) ?_
  rotate_left
  · (intro w hSw; (try dsimp only at hSw); (try simp only [List.getElem_toArray, List.getElem_cons_zero, List.getElem_cons_succ]); go_simp; try with_reducible rfl)
  simp only [Act.put, List.setIfInBounds_toArray, List.set_cons_zero, List.set_cons_succ]
  refine tkV (i := 12) (d := some 43) (v := ?_) rfl (by kernel_rfl) (by kernel_rfl) (by kernel_rfl) rfl (fun _ _ _ h => h) (by rfl) ?_ (by assumption) ?_
  rotate_left
  · (intro w hSw; (try dsimp only at hSw); (try simp only [List.getElem_toArray, List.getElem_cons_zero, List.getElem_cons_succ]); go_simp; try with_reducible rfl)
  simp only [Act.put, List.setIfInBounds_toArray, List.set_cons_zero, List.set_cons_succ]
  refine tkV (i := 13) (d := some 44) (v := ?_) rfl (by kernel_rfl) (by kernel_rfl) (by kernel_rfl) rfl (fun _ _ _ h => h) (by rfl) ?_ (by assumption) ?_
  rotate_left
  · (intro w hSw; (try dsimp only at hSw); (try simp only [List.getElem_toArray, List.getElem_cons_zero, List.getElem_cons_succ]); go_simp; try with_reducible rfl)
  simp only [Act.put, List.setIfInBounds_toArray, List.set_cons_zero, List.set_cons_succ]
  refine tkV (i := 14) (d := some 45) (v := ?_) rfl (by kernel_rfl) (by kernel_rfl) (by kernel_rfl) rfl (fun _ _ _ h => h) (by rfl) ?_ (by assumption) ?_
  rotate_left
  · (intro w hSw; (try dsimp only at hSw); (try simp only [List.getElem_toArray, List.getElem_cons_zero, List.getElem_cons_succ]); go_simp; try with_reducible rfl)
  simp only [Act.put, List.setIfInBounds_toArray, List.set_cons_zero, List.set_cons_succ]
  refine tkV (i := 15) (d := some 46) (v := ?_) rfl (by kernel_rfl) (by kernel_rfl) (by kernel_rfl) rfl (fun _ _ _ h => h) (by rfl) ?_ (by assumption) ?_
  rotate_left
  · (intro w hSw; (try dsimp only at hSw); (try simp only [List.getElem_toArray, List.getElem_cons_zero, List.getElem_cons_succ]); go_simp; try with_reducible rfl)
  simp only [Act.put, List.setIfInBounds_toArray, List.set_cons_zero, List.set_cons_succ]
  refine tkV (i := 16) (d := some 47) (v := ?_) rfl (by kernel_rfl) (by kernel_rfl) (by kernel_rfl) rfl (fun _ _ _ h => h) (by rfl) ?_ (by assumption) ?_
  rotate_left
  · (intro w hSw; (try dsimp only at hSw); (try simp only [List.getElem_toArray, List.getElem_cons_zero, List.getElem_cons_succ]); go_simp; try with_reducible rfl)
  simp only [Act.put, List.setIfInBounds_toArray, List.set_cons_zero, List.set_cons_succ]
  refine wpAnyH_ready (rs := [17]) (by kernel_rfl) (by simp) (AllReadyH.cons rfl (fun K hK => ?_) AllReadyH.nil)
  try simp only [List.getElem_toArray, List.getElem_cons_zero, List.getElem_cons_succ]
  go_simp
  go_split_ands
  refine (need_fb _ _ _ _ (by first | rfl | (exact decide_eq_false (by omega)))).mono ?_
  rintro e w7 ⟨rfl, hw7⟩
  subst hw7
  exact ⟨rfl, rfl, HO2.out.step (Only.drewN _ 1 _)⟩
end Go.Proofs.YtiapefdklojhdaaDoor
namespace Go.Proofs.YtiapefdklojhdaaDoor
open Go.RowKit Go.Shelf
/-- Where a node's parts are gone through. -/
structure T4 (W : World) (B : Nat) (A : Nat → Addr) (n s : Int) (x0 x1 x2 x3 x4 : Value) (V : World) : Prop where
  o : Only W V (fun k => k = B)
  b : V.heap[B]? = some (.cells #[.int .i64 n, .int .i64 s] 66 (0, 0))
  x : V.heap[W.heap.size]? = some (.cells #[x0, x1, x2, x3, x4] 28 (0, 0))
  e : E3 V A
theorem T4.later {W V V' : World} {B : Nat} {A : Nat → Addr} {n s : Int} {x0 x1 x2 x3 x4 : Value} (h : T4 W B A n s x0 x1 x2 x3 x4 V) (k : Below V.heap.size V V') : T4 W B A n s x0 x1 x2 x3 x4 V' :=
  ⟨h.o.step (Only.past k), (k.block _ (lt_of_rowC h.b)).trans h.b, (k.block _ (lt_of_rowC h.x)).trans h.x, h.e.below k⟩
theorem T4.drewN {W V : World} {B : Nat} {A : Nat → Addr} {n s : Int} {x0 x1 x2 x3 x4 : Value} (h : T4 W B A n s x0 x1 x2 x3 x4 V) (q : Nat) : T4 W B A n s x0 x1 x2 x3 x4 (V.drewN q) := h.later ⟨rfl, rfl, rfl, Nat.le_refl _, fun _ _ => rfl⟩
theorem T4.cells {W V : World} {B : Nat} {A : Nat → Addr} {n s : Int} {x0 x1 x2 x3 x4 : Value} (h : T4 W B A n s x0 x1 x2 x3 x4 V) : V.cell? ⟨W.heap.size, 0, none⟩ = some x0 ∧ V.cell? ⟨W.heap.size, 1, none⟩ = some x1 ∧ V.cell? ⟨W.heap.size, 2, none⟩ = some x2 ∧ V.cell? ⟨W.heap.size, 3, none⟩ = some x3 ∧ V.cell? ⟨W.heap.size, 4, none⟩ = some x4 ∧ V.cell? ⟨0, 0, none⟩ = some (.iface 144 (.pointer (some (A 1)))) ∧ V.cell? ⟨2, 0, none⟩ = some (.iface 144 (.pointer (some (A 2)))) :=
  ⟨by rw [cell_of_row _ _ _ _ _ _ h.x]; rfl, by rw [cell_of_row _ _ _ _ _ _ h.x]; rfl, by rw [cell_of_row _ _ _ _ _ _ h.x]; rfl, by rw [cell_of_row _ _ _ _ _ _ h.x]; rfl, by rw [cell_of_row _ _ _ _ _ _ h.x]; rfl, h.e.c1, h.e.c2⟩
end Go.Proofs.YtiapefdklojhdaaDoor
namespace Go.Proofs.YtiapefdklojhdaaDoor
open Go.RowKit Go.Shelf
set_option maxRecDepth 10000 in
set_option maxHeartbeats 6400000 in
theorem go_bad1 (k : Int) (nt : Bool) (a b c : Option Addr) (n1 ca n2 cb n3 cc d n s B : Nat) (A : Nat → Addr) (W : World) (l1 : n1 ≤ 1000000000) (l2 : n2 ≤ 1000000000) (hE : E3 W A) (hF : Far B) (hn : n ≤ 4000) (hs : s ≤ 65536)
    (hB : W.heap[B]? = some (.cells #[.int .i64 (n : Int), .int .i64 (s : Int)] 66 (0, 0))) (h1 : n + 1 ≤ 4000) (h2 : d ≤ 128) (h3 : s + (n1 + n2) ≤ 65536)
    (hW : ∀ V, Only W V (fun k => k = B) → Calls Tryd.prog 51 #[.agg #[.int .i64 k, .bool nt, .slice a n1 ca, .slice b n2 cb, .slice c n3 cc]] V fun e w' => e = .returned (.bool false) ∧ Below V.heap.size V w') :
    Calls Tryd.prog 30 #[.pointer (some ⟨B, 0, none⟩), .agg #[.int .i64 k, .bool nt, .slice a n1 ca, .slice b n2 cb, .slice c n3 cc], .int .i64 (d : Int)] W fun r W' => GoR A B r W' (.bad 1) ∧ Only W W' (fun k => k = B) := by
  have h1I : (n : Int) + 1 ≤ 4000 := by omega
  have h2I : (d : Int) ≤ 128 := by omega
  have h3I : (s : Int) + ((n1 : Int) + (n2 : Int)) ≤ 65536 := by omega
  have HWc := hid0 hW
  clear hW
  obtain ⟨W2, hW2, hB2, hO2, hX2, hs2⟩ := go_counts W B n s (.int .i64 k) (.bool nt) (.slice a n1 ca) (.slice b n2 cb) (.slice c n3 cc) (.int .i64 ((n : Int) + 1)) (.int .i64 ((s : Int) + ((n1 : Int) + (n2 : Int)))) hB
  have hBl := lt_of_rowC hB
  have e1 : IntKind.i64.wrap ((n : Int) + 1) = (n : Int) + 1 := by simp [IntKind.wrap, IntKind.bits, IntKind.signed]; omega
  have e2 : IntKind.i64.wrap ((n1 : Int) + (n2 : Int)) = (n1 : Int) + (n2 : Int) := by simp [IntKind.wrap, IntKind.bits, IntKind.signed]; omega
  have e3 : IntKind.i64.wrap ((s : Int) + ((n1 : Int) + (n2 : Int))) = (s : Int) + ((n1 : Int) + (n2 : Int)) := by simp [IntKind.wrap, IntKind.bits, IntKind.signed]; omega
  obtain ⟨Wa, hWa⟩ : ∃ Wa, Wa = W.alloc (.cells #[.int .i64 k, .bool nt, .slice a n1 ca, .slice b n2 cb, .slice c n3 cc] 28) := ⟨_, rfl⟩
  have hBa : Wa.heap[B]? = some (.cells #[.int .i64 (n : Int), .int .i64 (s : Int)] 66 (0, 0)) := by rw [hWa]; exact (Below.heap_alloc W _ B hBl).trans hB
  have hXa : Wa.heap[W.heap.size]? = some (.cells #[.int .i64 k, .bool nt, .slice a n1 ca, .slice b n2 cb, .slice c n3 cc] 28 (0, 0)) := by rw [hWa]; exact heap_alloc_new W _
  obtain ⟨Wb, hWb⟩ : ∃ Wb, Wb = Wa.setCell ⟨B, 0, none⟩ (.int .i64 ((n : Int) + 1)) := ⟨_, rfl⟩
  have hBb : Wb.heap[B]? = some (.cells #[.int .i64 ((n : Int) + 1), .int .i64 (s : Int)] 66 (0, 0)) := by rw [hWb]; exact heap_setCell_same _ B 0 _ _ _ hBa
  have hXb : Wb.heap[W.heap.size]? = some (.cells #[.int .i64 k, .bool nt, .slice a n1 ca, .slice b n2 cb, .slice c n3 cc] 28 (0, 0)) := by rw [hWb]; exact (Below.heap_setCell _ _ _ W.heap.size (by simp; omega)).trans hXa
  have a0 : Wa.cell? ⟨B, 0, none⟩ = some (.int .i64 (n : Int)) := by rw [cell_of_row _ _ _ _ _ _ hBa]; rfl
  have a1 : Wa.frozen? ⟨B, 0, none⟩ = false := frozen_of_row _ _ _ _ _ hBa
  have b0 : Wb.cell? ⟨B, 1, none⟩ = some (.int .i64 (s : Int)) := by rw [cell_of_row _ _ _ _ _ _ hBb]; rfl
  have b1 : Wb.frozen? ⟨B, 1, none⟩ = false := frozen_of_row _ _ _ _ _ hBb
  have b2 : Wb.cell? ⟨W.heap.size, 2, none⟩ = some (.slice a n1 ca) := by rw [cell_of_row _ _ _ _ _ _ hXb]; rfl
  have b3 : Wb.cell? ⟨W.heap.size, 3, none⟩ = some (.slice b n2 cb) := by rw [cell_of_row _ _ _ _ _ _ hXb]; rfl
  have p0 : W2.cell? ⟨B, 0, none⟩ = some (.int .i64 ((n : Int) + 1)) := by rw [cell_of_row _ _ _ _ _ _ hB2]; rfl
  have p1 : W2.cell? ⟨B, 1, none⟩ = some (.int .i64 ((s : Int) + ((n1 : Int) + (n2 : Int)))) := by rw [cell_of_row _ _ _ _ _ _ hB2]; rfl
  have hE2 := hE.only hO2 hF
  have p2 := hE2.c0
  have HO2 := hid0 hO2
  have HB2 := hid0 hB2
  have HX2 := hid0 hX2
  have HS2 := hid0 hs2
  have HE2 := hid0 hE2
  have hfa := hWa.symm
  have hfb := hWb.symm
  have hf2 : (Wb.setCell ⟨B, 1, none⟩ (.int .i64 ((s : Int) + ((n1 : Int) + (n2 : Int))))).drew = W2 := by rw [hW2, hWb, hWa]
  clear hW2 hB2 hO2 hX2 hWa hBa hXa hWb hBb hXb hE2 hB hE hs2
  go_enter Tryd.func30, Tryd.ntmps30
  go_wp2
  go_region
  go_wp2
  have HT : Hid (T4 W B A ((n : Int) + 1) ((s : Int) + ((n1 : Int) + (n2 : Int))) (.int .i64 k) (.bool nt) (.slice a n1 ca) (.slice b n2 cb) (.slice c n3 cc) W2) := hid0 ⟨HO2.out, HB2.out, HX2.out, HE2.out⟩
  go_quiet ((go_at_call 50; exact Calls.quiet_of_same (need_tb _ _ _ (by first | rfl | exact decide_eq_true (by omega)))))
  go_wp2
  have HTq := hid0 (HT.out.drewN nq)
  generalize W2.drewN nq = W3 at *
  clear HT HO2 HB2 HX2 HE2 HS2 p0 p1 p2 a0 a1 b0 b1 b2 b3 hfa hfb hf2 e1 e2 e3
  have HSop : Hid (∀ V, T4 W B A ((n : Int) + 1) ((s : Int) + ((n1 : Int) + (n2 : Int))) (.int .i64 k) (.bool nt) (.slice a n1 ca) (.slice b n2 cb) (.slice c n3 cc) V → (fun V => V.cell? ⟨W.heap.size, 0, none⟩ = some (.int .i64 k) ∧ V.cell? ⟨W.heap.size, 1, none⟩ = some (.bool nt) ∧ V.cell? ⟨W.heap.size, 2, none⟩ = some (.slice a n1 ca) ∧ V.cell? ⟨W.heap.size, 3, none⟩ = some (.slice b n2 cb) ∧ V.cell? ⟨W.heap.size, 4, none⟩ = some (.slice c n3 cc) ∧ V.cell? ⟨0, 0, none⟩ = some (.iface 144 (.pointer (some (A 1)))) ∧ T4 W B A ((n : Int) + 1) ((s : Int) + ((n1 : Int) + (n2 : Int))) (.int .i64 k) (.bool nt) (.slice a n1 ca) (.slice b n2 cb) (.slice c n3 cc) V) V) := hid0 (fun V h => by obtain ⟨q0, q1, q2, q3, q4, q5, q6⟩ := h.cells; exact ⟨q0, q1, q2, q3, q4, q5, h⟩)
  refine wp_region_held_drew (S := (fun V => V.cell? ⟨W.heap.size, 0, none⟩ = some (.int .i64 k) ∧ V.cell? ⟨W.heap.size, 1, none⟩ = some (.bool nt) ∧ V.cell? ⟨W.heap.size, 2, none⟩ = some (.slice a n1 ca) ∧ V.cell? ⟨W.heap.size, 3, none⟩ = some (.slice b n2 cb) ∧ V.cell? ⟨W.heap.size, 4, none⟩ = some (.slice c n3 cc) ∧ V.cell? ⟨0, 0, none⟩ = some (.iface 144 (.pointer (some (A 1)))) ∧ T4 W B A ((n : Int) + 1) ((s : Int) + ((n1 : Int) + (n2 : Int))) (.int .i64 k) (.bool nt) (.slice a n1 ca) (.slice b n2 cb) (.slice c n3 cc) V)) (by kernel_rfl) ?_ (fun hHeld => ?_)
  · exact HSop.out _ (HTq.out.drewN 1)
  have HTap := hid0 hHeld.2.2.2.2.2.2
  refine tkV (i := 0) (d := some 49) (v := ?_) rfl (by kernel_rfl) (by kernel_rfl) (by kernel_rfl) rfl (fun _ _ _ h => h) (by rfl) ?_ (by assumption) ?_
  rotate_left
  · (intro w hSw; (try dsimp only at hSw); (try simp only [List.getElem_toArray, List.getElem_cons_zero]); go_simp; try with_reducible rfl)
  simp only [Act.put, List.setIfInBounds_toArray, List.set_cons_zero, List.set_cons_succ]
  refine tkV (i := 2) (d := some 51) (v := ?_) rfl (by kernel_rfl) (by kernel_rfl) (by kernel_rfl) rfl (fun _ _ _ h => h) (by rfl) ?_ (by assumption) ?_
  rotate_left
  · (intro w hSw; (try dsimp only at hSw); (try simp only [List.getElem_toArray, List.getElem_cons_zero, List.getElem_cons_succ]); go_simp; try with_reducible rfl)
  simp only [Act.put, List.setIfInBounds_toArray, List.set_cons_zero, List.set_cons_succ]
  refine wpAnyH_ready (rs := [1]) (by kernel_rfl) (by simp) (AllReadyH.cons rfl (fun K hK => ?_) AllReadyH.nil)
  try simp only [List.getElem_toArray, List.getElem_cons_zero, List.getElem_cons_succ]
  go_simp
  go_split_ands
  refine (HWc.out _ HTap.out.o).mono ?_
  rintro e w6p ⟨rfl, hb6⟩
  have HTbp := hid0 (HTap.out.later hb6)
  clear hb6
  go_wp2_with fail
  refine hK.out _ _ ?_ (fun hHeld2 => ?_)
  · exact HSop.out _ HTbp.out
  clear hK K
  (try simp only [Act.put]); (try simp only [List.setIfInBounds_toArray]); (try simp only [List.set_cons_succ]); (try simp only [List.set_cons_zero])
  refine wpAnyH_ready (rs := [3]) (by kernel_rfl) (by simp) (AllReadyH.cons rfl (fun K hK => ?_) AllReadyH.nil)
  try simp only [List.getElem_toArray, List.getElem_cons_zero, List.getElem_cons_succ]
  go_simp
  go_split_ands
  refine (need_f _ _ _).mono ?_
  rintro e w7 ⟨rfl, hw7⟩
  subst hw7
  exact ⟨rfl, rfl, HTbp.out.o⟩
end Go.Proofs.YtiapefdklojhdaaDoor
namespace Go.Proofs.YtiapefdklojhdaaDoor
open Go.RowKit Go.Shelf
set_option maxRecDepth 10000 in
set_option maxHeartbeats 6400000 in
theorem go_bad2 (k : Int) (nt : Bool) (a b c : Option Addr) (n1 ca n2 cb n3 cc d n s B : Nat) (A : Nat → Addr) (W : World) (l1 : n1 ≤ 1000000000) (l2 : n2 ≤ 1000000000) (hE : E3 W A) (hF : Far B) (hn : n ≤ 4000) (hs : s ≤ 65536)
    (hB : W.heap[B]? = some (.cells #[.int .i64 (n : Int), .int .i64 (s : Int)] 66 (0, 0))) (h1 : n + 1 ≤ 4000) (h2 : d ≤ 128) (h3 : s + (n1 + n2) ≤ 65536)
    (hW : ∀ V, Only W V (fun k => k = B) → Calls Tryd.prog 51 #[.agg #[.int .i64 k, .bool nt, .slice a n1 ca, .slice b n2 cb, .slice c n3 cc]] V fun e w' => e = .returned (.bool true) ∧ Below V.heap.size V w')
    (hI : ∀ V, Only W V (fun k => k = B) → Calls Tryd.prog 52 #[.agg #[.int .i64 k, .bool nt, .slice a n1 ca, .slice b n2 cb, .slice c n3 cc]] V fun e w' => e = .returned (.bool false) ∧ Below V.heap.size V w') :
    Calls Tryd.prog 30 #[.pointer (some ⟨B, 0, none⟩), .agg #[.int .i64 k, .bool nt, .slice a n1 ca, .slice b n2 cb, .slice c n3 cc], .int .i64 (d : Int)] W fun r W' => GoR A B r W' (.bad 2) ∧ Only W W' (fun k => k = B) := by
  have h1I : (n : Int) + 1 ≤ 4000 := by omega
  have h2I : (d : Int) ≤ 128 := by omega
  have h3I : (s : Int) + ((n1 : Int) + (n2 : Int)) ≤ 65536 := by omega
  have HWc := hid0 hW
  have HIc := hid0 hI
  clear hW hI
  obtain ⟨W2, hW2, hB2, hO2, hX2, hs2⟩ := go_counts W B n s (.int .i64 k) (.bool nt) (.slice a n1 ca) (.slice b n2 cb) (.slice c n3 cc) (.int .i64 ((n : Int) + 1)) (.int .i64 ((s : Int) + ((n1 : Int) + (n2 : Int)))) hB
  have hBl := lt_of_rowC hB
  have e1 : IntKind.i64.wrap ((n : Int) + 1) = (n : Int) + 1 := by simp [IntKind.wrap, IntKind.bits, IntKind.signed]; omega
  have e2 : IntKind.i64.wrap ((n1 : Int) + (n2 : Int)) = (n1 : Int) + (n2 : Int) := by simp [IntKind.wrap, IntKind.bits, IntKind.signed]; omega
  have e3 : IntKind.i64.wrap ((s : Int) + ((n1 : Int) + (n2 : Int))) = (s : Int) + ((n1 : Int) + (n2 : Int)) := by simp [IntKind.wrap, IntKind.bits, IntKind.signed]; omega
  obtain ⟨Wa, hWa⟩ : ∃ Wa, Wa = W.alloc (.cells #[.int .i64 k, .bool nt, .slice a n1 ca, .slice b n2 cb, .slice c n3 cc] 28) := ⟨_, rfl⟩
  have hBa : Wa.heap[B]? = some (.cells #[.int .i64 (n : Int), .int .i64 (s : Int)] 66 (0, 0)) := by rw [hWa]; exact (Below.heap_alloc W _ B hBl).trans hB
  have hXa : Wa.heap[W.heap.size]? = some (.cells #[.int .i64 k, .bool nt, .slice a n1 ca, .slice b n2 cb, .slice c n3 cc] 28 (0, 0)) := by rw [hWa]; exact heap_alloc_new W _
  obtain ⟨Wb, hWb⟩ : ∃ Wb, Wb = Wa.setCell ⟨B, 0, none⟩ (.int .i64 ((n : Int) + 1)) := ⟨_, rfl⟩
  have hBb : Wb.heap[B]? = some (.cells #[.int .i64 ((n : Int) + 1), .int .i64 (s : Int)] 66 (0, 0)) := by rw [hWb]; exact heap_setCell_same _ B 0 _ _ _ hBa
  have hXb : Wb.heap[W.heap.size]? = some (.cells #[.int .i64 k, .bool nt, .slice a n1 ca, .slice b n2 cb, .slice c n3 cc] 28 (0, 0)) := by rw [hWb]; exact (Below.heap_setCell _ _ _ W.heap.size (by simp; omega)).trans hXa
  have a0 : Wa.cell? ⟨B, 0, none⟩ = some (.int .i64 (n : Int)) := by rw [cell_of_row _ _ _ _ _ _ hBa]; rfl
  have a1 : Wa.frozen? ⟨B, 0, none⟩ = false := frozen_of_row _ _ _ _ _ hBa
  have b0 : Wb.cell? ⟨B, 1, none⟩ = some (.int .i64 (s : Int)) := by rw [cell_of_row _ _ _ _ _ _ hBb]; rfl
  have b1 : Wb.frozen? ⟨B, 1, none⟩ = false := frozen_of_row _ _ _ _ _ hBb
  have b2 : Wb.cell? ⟨W.heap.size, 2, none⟩ = some (.slice a n1 ca) := by rw [cell_of_row _ _ _ _ _ _ hXb]; rfl
  have b3 : Wb.cell? ⟨W.heap.size, 3, none⟩ = some (.slice b n2 cb) := by rw [cell_of_row _ _ _ _ _ _ hXb]; rfl
  have p0 : W2.cell? ⟨B, 0, none⟩ = some (.int .i64 ((n : Int) + 1)) := by rw [cell_of_row _ _ _ _ _ _ hB2]; rfl
  have p1 : W2.cell? ⟨B, 1, none⟩ = some (.int .i64 ((s : Int) + ((n1 : Int) + (n2 : Int)))) := by rw [cell_of_row _ _ _ _ _ _ hB2]; rfl
  have hE2 := hE.only hO2 hF
  have p2 := hE2.c0
  have HO2 := hid0 hO2
  have HB2 := hid0 hB2
  have HX2 := hid0 hX2
  have HS2 := hid0 hs2
  have HE2 := hid0 hE2
  have hfa := hWa.symm
  have hfb := hWb.symm
  have hf2 : (Wb.setCell ⟨B, 1, none⟩ (.int .i64 ((s : Int) + ((n1 : Int) + (n2 : Int))))).drew = W2 := by rw [hW2, hWb, hWa]
  clear hW2 hB2 hO2 hX2 hWa hBa hXa hWb hBb hXb hE2 hB hE hs2
  go_enter Tryd.func30, Tryd.ntmps30
  go_wp2
  go_region
  go_wp2
  have HT : Hid (T4 W B A ((n : Int) + 1) ((s : Int) + ((n1 : Int) + (n2 : Int))) (.int .i64 k) (.bool nt) (.slice a n1 ca) (.slice b n2 cb) (.slice c n3 cc) W2) := hid0 ⟨HO2.out, HB2.out, HX2.out, HE2.out⟩
  go_quiet ((go_at_call 50; exact Calls.quiet_of_same (need_tb _ _ _ (by first | rfl | exact decide_eq_true (by omega)))))
  go_wp2
  have HTq := hid0 (HT.out.drewN nq)
  generalize W2.drewN nq = W3 at *
  clear HT HO2 HB2 HX2 HE2 HS2 p0 p1 p2 a0 a1 b0 b1 b2 b3 hfa hfb hf2 e1 e2 e3
  have HSop : Hid (∀ V, T4 W B A ((n : Int) + 1) ((s : Int) + ((n1 : Int) + (n2 : Int))) (.int .i64 k) (.bool nt) (.slice a n1 ca) (.slice b n2 cb) (.slice c n3 cc) V → (fun V => V.cell? ⟨W.heap.size, 0, none⟩ = some (.int .i64 k) ∧ V.cell? ⟨W.heap.size, 1, none⟩ = some (.bool nt) ∧ V.cell? ⟨W.heap.size, 2, none⟩ = some (.slice a n1 ca) ∧ V.cell? ⟨W.heap.size, 3, none⟩ = some (.slice b n2 cb) ∧ V.cell? ⟨W.heap.size, 4, none⟩ = some (.slice c n3 cc) ∧ V.cell? ⟨0, 0, none⟩ = some (.iface 144 (.pointer (some (A 1)))) ∧ T4 W B A ((n : Int) + 1) ((s : Int) + ((n1 : Int) + (n2 : Int))) (.int .i64 k) (.bool nt) (.slice a n1 ca) (.slice b n2 cb) (.slice c n3 cc) V) V) := hid0 (fun V h => by obtain ⟨q0, q1, q2, q3, q4, q5, q6⟩ := h.cells; exact ⟨q0, q1, q2, q3, q4, q5, h⟩)
  refine wp_region_held_drew (S := (fun V => V.cell? ⟨W.heap.size, 0, none⟩ = some (.int .i64 k) ∧ V.cell? ⟨W.heap.size, 1, none⟩ = some (.bool nt) ∧ V.cell? ⟨W.heap.size, 2, none⟩ = some (.slice a n1 ca) ∧ V.cell? ⟨W.heap.size, 3, none⟩ = some (.slice b n2 cb) ∧ V.cell? ⟨W.heap.size, 4, none⟩ = some (.slice c n3 cc) ∧ V.cell? ⟨0, 0, none⟩ = some (.iface 144 (.pointer (some (A 1)))) ∧ T4 W B A ((n : Int) + 1) ((s : Int) + ((n1 : Int) + (n2 : Int))) (.int .i64 k) (.bool nt) (.slice a n1 ca) (.slice b n2 cb) (.slice c n3 cc) V)) (by kernel_rfl) ?_ (fun hHeld => ?_)
  · exact HSop.out _ (HTq.out.drewN 1)
  have HTap := hid0 hHeld.2.2.2.2.2.2
  refine tkV (i := 0) (d := some 49) (v := ?_) rfl (by kernel_rfl) (by kernel_rfl) (by kernel_rfl) rfl (fun _ _ _ h => h) (by rfl) ?_ (by assumption) ?_
  rotate_left
  · (intro w hSw; (try dsimp only at hSw); (try simp only [List.getElem_toArray, List.getElem_cons_zero]); go_simp; try with_reducible rfl)
  simp only [Act.put, List.setIfInBounds_toArray, List.set_cons_zero, List.set_cons_succ]
  refine tkV (i := 2) (d := some 51) (v := ?_) rfl (by kernel_rfl) (by kernel_rfl) (by kernel_rfl) rfl (fun _ _ _ h => h) (by rfl) ?_ (by assumption) ?_
  rotate_left
  · (intro w hSw; (try dsimp only at hSw); (try simp only [List.getElem_toArray, List.getElem_cons_zero, List.getElem_cons_succ]); go_simp; try with_reducible rfl)
  simp only [Act.put, List.setIfInBounds_toArray, List.set_cons_zero, List.set_cons_succ]
  refine wpAnyH_ready (rs := [1]) (by kernel_rfl) (by simp) (AllReadyH.cons rfl (fun K hK => ?_) AllReadyH.nil)
  try simp only [List.getElem_toArray, List.getElem_cons_zero, List.getElem_cons_succ]
  go_simp
  go_split_ands
  refine (HWc.out _ HTap.out.o).mono ?_
  rintro e w6p ⟨rfl, hb6⟩
  have HTbp := hid0 (HTap.out.later hb6)
  clear hb6
  go_wp2_with fail
  refine hK.out _ _ ?_ (fun hHeld2 => ?_)
  · exact HSop.out _ HTbp.out
  clear hK K
  (try simp only [Act.put]); (try simp only [List.setIfInBounds_toArray]); (try simp only [List.set_cons_succ]); (try simp only [List.set_cons_zero])
  refine wpAnyH_ready (rs := [3]) (by kernel_rfl) (by simp) (AllReadyH.cons rfl (fun K hK => ?_) AllReadyH.nil)
  try simp only [List.getElem_toArray, List.getElem_cons_zero, List.getElem_cons_succ]
  go_simp
  go_split_ands
  refine (need_t _ _).mono ?_
  rintro e w7 ⟨rfl, hw7⟩
  have hw7' := hw7.symm
  subst hw7'
  clear hw7
  go_wp2_with fail
  refine hK.out _ _ ?_ (fun hHeld3 => ?_)
  · exact HSop.out _ HTbp.out
  clear hK K
  (try simp only [Act.put]); (try simp only [List.setIfInBounds_toArray]); (try simp only [List.set_cons_succ]); (try simp only [List.set_cons_zero])
  refine wpAnyH_done (by kernel_rfl) ?_ _
  try clear hHeld3
  clear HSop HTap
  go_wp2
  have HSoq : Hid (∀ V, T4 W B A ((n : Int) + 1) ((s : Int) + ((n1 : Int) + (n2 : Int))) (.int .i64 k) (.bool nt) (.slice a n1 ca) (.slice b n2 cb) (.slice c n3 cc) V → (fun V => V.cell? ⟨W.heap.size, 0, none⟩ = some (.int .i64 k) ∧ V.cell? ⟨W.heap.size, 1, none⟩ = some (.bool nt) ∧ V.cell? ⟨W.heap.size, 2, none⟩ = some (.slice a n1 ca) ∧ V.cell? ⟨W.heap.size, 3, none⟩ = some (.slice b n2 cb) ∧ V.cell? ⟨W.heap.size, 4, none⟩ = some (.slice c n3 cc) ∧ V.cell? ⟨2, 0, none⟩ = some (.iface 144 (.pointer (some (A 2)))) ∧ T4 W B A ((n : Int) + 1) ((s : Int) + ((n1 : Int) + (n2 : Int))) (.int .i64 k) (.bool nt) (.slice a n1 ca) (.slice b n2 cb) (.slice c n3 cc) V) V) := hid0 (fun V h => by obtain ⟨q0, q1, q2, q3, q4, q5, q6⟩ := h.cells; exact ⟨q0, q1, q2, q3, q4, q6, h⟩)
  refine wp_region_held_drew (S := (fun V => V.cell? ⟨W.heap.size, 0, none⟩ = some (.int .i64 k) ∧ V.cell? ⟨W.heap.size, 1, none⟩ = some (.bool nt) ∧ V.cell? ⟨W.heap.size, 2, none⟩ = some (.slice a n1 ca) ∧ V.cell? ⟨W.heap.size, 3, none⟩ = some (.slice b n2 cb) ∧ V.cell? ⟨W.heap.size, 4, none⟩ = some (.slice c n3 cc) ∧ V.cell? ⟨2, 0, none⟩ = some (.iface 144 (.pointer (some (A 2)))) ∧ T4 W B A ((n : Int) + 1) ((s : Int) + ((n1 : Int) + (n2 : Int))) (.int .i64 k) (.bool nt) (.slice a n1 ca) (.slice b n2 cb) (.slice c n3 cc) V)) (by kernel_rfl) ?_ (fun hHeld => ?_)
  · exact HSoq.out _ (HTbp.out.drewN 1)
  have HTaq := hid0 hHeld.2.2.2.2.2.2
  refine tkV (i := 0) (d := some 53) (v := ?_) rfl (by kernel_rfl) (by kernel_rfl) (by kernel_rfl) rfl (fun _ _ _ h => h) (by rfl) ?_ (by assumption) ?_
  rotate_left
  · (intro w hSw; (try dsimp only at hSw); (try simp only [List.getElem_toArray, List.getElem_cons_zero]); go_simp; try with_reducible rfl)
  simp only [Act.put, List.setIfInBounds_toArray, List.set_cons_zero, List.set_cons_succ]
  refine tkV (i := 2) (d := some 55) (v := ?_) rfl (by kernel_rfl) (by kernel_rfl) (by kernel_rfl) rfl (fun _ _ _ h => h) (by rfl) ?_ (by assumption) ?_
  rotate_left
  · (intro w hSw; (try dsimp only at hSw); (try simp only [List.getElem_toArray, List.getElem_cons_zero, List.getElem_cons_succ]); go_simp; try with_reducible rfl)
  simp only [Act.put, List.setIfInBounds_toArray, List.set_cons_zero, List.set_cons_succ]
  refine wpAnyH_ready (rs := [1]) (by kernel_rfl) (by simp) (AllReadyH.cons rfl (fun K hK => ?_) AllReadyH.nil)
  try simp only [List.getElem_toArray, List.getElem_cons_zero, List.getElem_cons_succ]
  go_simp
  go_split_ands
  refine (HIc.out _ HTaq.out.o).mono ?_
  rintro e w6q ⟨rfl, hb6⟩
  have HTbq := hid0 (HTaq.out.later hb6)
  clear hb6
  go_wp2_with fail
  refine hK.out _ _ ?_ (fun hHeld2 => ?_)
  · exact HSoq.out _ HTbq.out
  clear hK K
  (try simp only [Act.put]); (try simp only [List.setIfInBounds_toArray]); (try simp only [List.set_cons_succ]); (try simp only [List.set_cons_zero])
  refine wpAnyH_ready (rs := [3]) (by kernel_rfl) (by simp) (AllReadyH.cons rfl (fun K hK => ?_) AllReadyH.nil)
  try simp only [List.getElem_toArray, List.getElem_cons_zero, List.getElem_cons_succ]
  go_simp
  go_split_ands
  refine (need_f _ _ _).mono ?_
  rintro e w7 ⟨rfl, hw7⟩
  subst hw7
  exact ⟨rfl, rfl, HTbq.out.o⟩
end Go.Proofs.YtiapefdklojhdaaDoor
namespace Go.Proofs.YtiapefdklojhdaaDoor
open Go.RowKit Go.Shelf
set_option maxRecDepth 10000 in
set_option maxHeartbeats 6400000 in
theorem go_parts (k : Int) (nt : Bool) (a b c : Option Addr) (n1 ca n2 cb n3 cc d n s B : Nat) (A : Nat → Addr) (W : World) (l1 : n1 ≤ 1000000000) (l2 : n2 ≤ 1000000000) (hE : E3 W A) (hF : Far B) (hn : n ≤ 4000) (hs : s ≤ 65536)
    (hB : W.heap[B]? = some (.cells #[.int .i64 (n : Int), .int .i64 (s : Int)] 66 (0, 0))) (h1 : n + 1 ≤ 4000) (h2 : d ≤ 128) (h3 : s + (n1 + n2) ≤ 65536)
    (hW : ∀ V, Only W V (fun k => k = B) → Calls Tryd.prog 51 #[.agg #[.int .i64 k, .bool nt, .slice a n1 ca, .slice b n2 cb, .slice c n3 cc]] V fun e w' => e = .returned (.bool true) ∧ Below V.heap.size V w')
    (hI : ∀ V, Only W V (fun k => k = B) → Calls Tryd.prog 52 #[.agg #[.int .i64 k, .bool nt, .slice a n1 ca, .slice b n2 cb, .slice c n3 cc]] V fun e w' => e = .returned (.bool true) ∧ Below V.heap.size V w')
    (may : List ByteArray → List (Int × Int) → Bool) (w : World) (Q : Nat → Prop) (L : List Ex) (vs : Nat → EV) (hl3 : n3 = L.length) (l3 : n3 ≤ 1000000000) (hK : Keeps Q w W) (hQ : ¬ Q B) (hL : LA w Q c L vs) (IH : ∀ i (h : i < L.length), GoP may w Q L[i] (vs i)) :
    Calls Tryd.prog 30 #[.pointer (some ⟨B, 0, none⟩), .agg #[.int .i64 k, .bool nt, .slice a n1 ca, .slice b n2 cb, .slice c n3 cc], .int .i64 (d : Int)] W fun r W' => GoR A B r W' (chkL may L (d + 1) (n + 1) (s + (n1 + n2))) ∧ Only W W' (fun k => k = B) := by
  have h1I : (n : Int) + 1 ≤ 4000 := by omega
  have h2I : (d : Int) ≤ 128 := by omega
  have h3I : (s : Int) + ((n1 : Int) + (n2 : Int)) ≤ 65536 := by omega
  have HWc := hid0 hW
  have HLA := hid0 hL
  have HIH := hid0 IH
  have HKw := hid0 hK
  have HL3 := hid0 hl3
  clear hL IH hK hl3
  have HIc := hid0 hI
  clear hW hI
  obtain ⟨W2, hW2, hB2, hO2, hX2, hs2⟩ := go_counts W B n s (.int .i64 k) (.bool nt) (.slice a n1 ca) (.slice b n2 cb) (.slice c n3 cc) (.int .i64 ((n : Int) + 1)) (.int .i64 ((s : Int) + ((n1 : Int) + (n2 : Int)))) hB
  have hBl := lt_of_rowC hB
  have e1 : IntKind.i64.wrap ((n : Int) + 1) = (n : Int) + 1 := by simp [IntKind.wrap, IntKind.bits, IntKind.signed]; omega
  have e2 : IntKind.i64.wrap ((n1 : Int) + (n2 : Int)) = (n1 : Int) + (n2 : Int) := by simp [IntKind.wrap, IntKind.bits, IntKind.signed]; omega
  have e3 : IntKind.i64.wrap ((s : Int) + ((n1 : Int) + (n2 : Int))) = (s : Int) + ((n1 : Int) + (n2 : Int)) := by simp [IntKind.wrap, IntKind.bits, IntKind.signed]; omega
  obtain ⟨Wa, hWa⟩ : ∃ Wa, Wa = W.alloc (.cells #[.int .i64 k, .bool nt, .slice a n1 ca, .slice b n2 cb, .slice c n3 cc] 28) := ⟨_, rfl⟩
  have hBa : Wa.heap[B]? = some (.cells #[.int .i64 (n : Int), .int .i64 (s : Int)] 66 (0, 0)) := by rw [hWa]; exact (Below.heap_alloc W _ B hBl).trans hB
  have hXa : Wa.heap[W.heap.size]? = some (.cells #[.int .i64 k, .bool nt, .slice a n1 ca, .slice b n2 cb, .slice c n3 cc] 28 (0, 0)) := by rw [hWa]; exact heap_alloc_new W _
  obtain ⟨Wb, hWb⟩ : ∃ Wb, Wb = Wa.setCell ⟨B, 0, none⟩ (.int .i64 ((n : Int) + 1)) := ⟨_, rfl⟩
  have hBb : Wb.heap[B]? = some (.cells #[.int .i64 ((n : Int) + 1), .int .i64 (s : Int)] 66 (0, 0)) := by rw [hWb]; exact heap_setCell_same _ B 0 _ _ _ hBa
  have hXb : Wb.heap[W.heap.size]? = some (.cells #[.int .i64 k, .bool nt, .slice a n1 ca, .slice b n2 cb, .slice c n3 cc] 28 (0, 0)) := by rw [hWb]; exact (Below.heap_setCell _ _ _ W.heap.size (by simp; omega)).trans hXa
  have a0 : Wa.cell? ⟨B, 0, none⟩ = some (.int .i64 (n : Int)) := by rw [cell_of_row _ _ _ _ _ _ hBa]; rfl
  have a1 : Wa.frozen? ⟨B, 0, none⟩ = false := frozen_of_row _ _ _ _ _ hBa
  have b0 : Wb.cell? ⟨B, 1, none⟩ = some (.int .i64 (s : Int)) := by rw [cell_of_row _ _ _ _ _ _ hBb]; rfl
  have b1 : Wb.frozen? ⟨B, 1, none⟩ = false := frozen_of_row _ _ _ _ _ hBb
  have b2 : Wb.cell? ⟨W.heap.size, 2, none⟩ = some (.slice a n1 ca) := by rw [cell_of_row _ _ _ _ _ _ hXb]; rfl
  have b3 : Wb.cell? ⟨W.heap.size, 3, none⟩ = some (.slice b n2 cb) := by rw [cell_of_row _ _ _ _ _ _ hXb]; rfl
  have p0 : W2.cell? ⟨B, 0, none⟩ = some (.int .i64 ((n : Int) + 1)) := by rw [cell_of_row _ _ _ _ _ _ hB2]; rfl
  have p1 : W2.cell? ⟨B, 1, none⟩ = some (.int .i64 ((s : Int) + ((n1 : Int) + (n2 : Int)))) := by rw [cell_of_row _ _ _ _ _ _ hB2]; rfl
  have hE2 := hE.only hO2 hF
  have p2 := hE2.c0
  have HO2 := hid0 hO2
  have HB2 := hid0 hB2
  have HX2 := hid0 hX2
  have HS2 := hid0 hs2
  have HE2 := hid0 hE2
  have hfa := hWa.symm
  have hfb := hWb.symm
  have hf2 : (Wb.setCell ⟨B, 1, none⟩ (.int .i64 ((s : Int) + ((n1 : Int) + (n2 : Int))))).drew = W2 := by rw [hW2, hWb, hWa]
  clear hW2 hB2 hO2 hX2 hWa hBa hXa hWb hBb hXb hE2 hB hE hs2
  go_enter Tryd.func30, Tryd.ntmps30
  go_wp2
  go_region
  go_wp2
  have HT : Hid (T4 W B A ((n : Int) + 1) ((s : Int) + ((n1 : Int) + (n2 : Int))) (.int .i64 k) (.bool nt) (.slice a n1 ca) (.slice b n2 cb) (.slice c n3 cc) W2) := hid0 ⟨HO2.out, HB2.out, HX2.out, HE2.out⟩
  go_quiet ((go_at_call 50; exact Calls.quiet_of_same (need_tb _ _ _ (by first | rfl | exact decide_eq_true (by omega)))))
  go_wp2
  have HTq := hid0 (HT.out.drewN nq)
  generalize W2.drewN nq = W3 at *
  clear HT HO2 HB2 HX2 HE2 HS2 p0 p1 p2 a0 a1 b0 b1 b2 b3 hfa hfb hf2 e1 e2 e3
  have HSop : Hid (∀ V, T4 W B A ((n : Int) + 1) ((s : Int) + ((n1 : Int) + (n2 : Int))) (.int .i64 k) (.bool nt) (.slice a n1 ca) (.slice b n2 cb) (.slice c n3 cc) V → (fun V => V.cell? ⟨W.heap.size, 0, none⟩ = some (.int .i64 k) ∧ V.cell? ⟨W.heap.size, 1, none⟩ = some (.bool nt) ∧ V.cell? ⟨W.heap.size, 2, none⟩ = some (.slice a n1 ca) ∧ V.cell? ⟨W.heap.size, 3, none⟩ = some (.slice b n2 cb) ∧ V.cell? ⟨W.heap.size, 4, none⟩ = some (.slice c n3 cc) ∧ V.cell? ⟨0, 0, none⟩ = some (.iface 144 (.pointer (some (A 1)))) ∧ T4 W B A ((n : Int) + 1) ((s : Int) + ((n1 : Int) + (n2 : Int))) (.int .i64 k) (.bool nt) (.slice a n1 ca) (.slice b n2 cb) (.slice c n3 cc) V) V) := hid0 (fun V h => by obtain ⟨q0, q1, q2, q3, q4, q5, q6⟩ := h.cells; exact ⟨q0, q1, q2, q3, q4, q5, h⟩)
  refine wp_region_held_drew (S := (fun V => V.cell? ⟨W.heap.size, 0, none⟩ = some (.int .i64 k) ∧ V.cell? ⟨W.heap.size, 1, none⟩ = some (.bool nt) ∧ V.cell? ⟨W.heap.size, 2, none⟩ = some (.slice a n1 ca) ∧ V.cell? ⟨W.heap.size, 3, none⟩ = some (.slice b n2 cb) ∧ V.cell? ⟨W.heap.size, 4, none⟩ = some (.slice c n3 cc) ∧ V.cell? ⟨0, 0, none⟩ = some (.iface 144 (.pointer (some (A 1)))) ∧ T4 W B A ((n : Int) + 1) ((s : Int) + ((n1 : Int) + (n2 : Int))) (.int .i64 k) (.bool nt) (.slice a n1 ca) (.slice b n2 cb) (.slice c n3 cc) V)) (by kernel_rfl) ?_ (fun hHeld => ?_)
  · exact HSop.out _ (HTq.out.drewN 1)
  have HTap := hid0 hHeld.2.2.2.2.2.2
  refine tkV (i := 0) (d := some 49) (v := ?_) rfl (by kernel_rfl) (by kernel_rfl) (by kernel_rfl) rfl (fun _ _ _ h => h) (by rfl) ?_ (by assumption) ?_
  rotate_left
  · (intro w hSw; (try dsimp only at hSw); (try simp only [List.getElem_toArray, List.getElem_cons_zero]); go_simp; try with_reducible rfl)
  simp only [Act.put, List.setIfInBounds_toArray, List.set_cons_zero, List.set_cons_succ]
  refine tkV (i := 2) (d := some 51) (v := ?_) rfl (by kernel_rfl) (by kernel_rfl) (by kernel_rfl) rfl (fun _ _ _ h => h) (by rfl) ?_ (by assumption) ?_
  rotate_left
  · (intro w hSw; (try dsimp only at hSw); (try simp only [List.getElem_toArray, List.getElem_cons_zero, List.getElem_cons_succ]); go_simp; try with_reducible rfl)
  simp only [Act.put, List.setIfInBounds_toArray, List.set_cons_zero, List.set_cons_succ]
  refine wpAnyH_ready (rs := [1]) (by kernel_rfl) (by simp) (AllReadyH.cons rfl (fun K hK => ?_) AllReadyH.nil)
  try simp only [List.getElem_toArray, List.getElem_cons_zero, List.getElem_cons_succ]
  go_simp
  go_split_ands
  refine (HWc.out _ HTap.out.o).mono ?_
  rintro e w6p ⟨rfl, hb6⟩
  have HTbp := hid0 (HTap.out.later hb6)
  clear hb6
  go_wp2_with fail
  refine hK.out _ _ ?_ (fun hHeld2 => ?_)
  · exact HSop.out _ HTbp.out
  clear hK K
  (try simp only [Act.put]); (try simp only [List.setIfInBounds_toArray]); (try simp only [List.set_cons_succ]); (try simp only [List.set_cons_zero])
  refine wpAnyH_ready (rs := [3]) (by kernel_rfl) (by simp) (AllReadyH.cons rfl (fun K hK => ?_) AllReadyH.nil)
  try simp only [List.getElem_toArray, List.getElem_cons_zero, List.getElem_cons_succ]
  go_simp
  go_split_ands
  refine (need_t _ _).mono ?_
  rintro e w7 ⟨rfl, hw7⟩
  have hw7' := hw7.symm
  subst hw7'
  clear hw7
  go_wp2_with fail
  refine hK.out _ _ ?_ (fun hHeld3 => ?_)
  · exact HSop.out _ HTbp.out
  clear hK K
  (try simp only [Act.put]); (try simp only [List.setIfInBounds_toArray]); (try simp only [List.set_cons_succ]); (try simp only [List.set_cons_zero])
  refine wpAnyH_done (by kernel_rfl) ?_ _
  try clear hHeld3
  clear HSop HTap
  go_wp2
  have HSoq : Hid (∀ V, T4 W B A ((n : Int) + 1) ((s : Int) + ((n1 : Int) + (n2 : Int))) (.int .i64 k) (.bool nt) (.slice a n1 ca) (.slice b n2 cb) (.slice c n3 cc) V → (fun V => V.cell? ⟨W.heap.size, 0, none⟩ = some (.int .i64 k) ∧ V.cell? ⟨W.heap.size, 1, none⟩ = some (.bool nt) ∧ V.cell? ⟨W.heap.size, 2, none⟩ = some (.slice a n1 ca) ∧ V.cell? ⟨W.heap.size, 3, none⟩ = some (.slice b n2 cb) ∧ V.cell? ⟨W.heap.size, 4, none⟩ = some (.slice c n3 cc) ∧ V.cell? ⟨2, 0, none⟩ = some (.iface 144 (.pointer (some (A 2)))) ∧ T4 W B A ((n : Int) + 1) ((s : Int) + ((n1 : Int) + (n2 : Int))) (.int .i64 k) (.bool nt) (.slice a n1 ca) (.slice b n2 cb) (.slice c n3 cc) V) V) := hid0 (fun V h => by obtain ⟨q0, q1, q2, q3, q4, q5, q6⟩ := h.cells; exact ⟨q0, q1, q2, q3, q4, q6, h⟩)
  refine wp_region_held_drew (S := (fun V => V.cell? ⟨W.heap.size, 0, none⟩ = some (.int .i64 k) ∧ V.cell? ⟨W.heap.size, 1, none⟩ = some (.bool nt) ∧ V.cell? ⟨W.heap.size, 2, none⟩ = some (.slice a n1 ca) ∧ V.cell? ⟨W.heap.size, 3, none⟩ = some (.slice b n2 cb) ∧ V.cell? ⟨W.heap.size, 4, none⟩ = some (.slice c n3 cc) ∧ V.cell? ⟨2, 0, none⟩ = some (.iface 144 (.pointer (some (A 2)))) ∧ T4 W B A ((n : Int) + 1) ((s : Int) + ((n1 : Int) + (n2 : Int))) (.int .i64 k) (.bool nt) (.slice a n1 ca) (.slice b n2 cb) (.slice c n3 cc) V)) (by kernel_rfl) ?_ (fun hHeld => ?_)
  · exact HSoq.out _ (HTbp.out.drewN 1)
  have HTaq := hid0 hHeld.2.2.2.2.2.2
  refine tkV (i := 0) (d := some 53) (v := ?_) rfl (by kernel_rfl) (by kernel_rfl) (by kernel_rfl) rfl (fun _ _ _ h => h) (by rfl) ?_ (by assumption) ?_
  rotate_left
  · (intro w hSw; (try dsimp only at hSw); (try simp only [List.getElem_toArray, List.getElem_cons_zero]); go_simp; try with_reducible rfl)
  simp only [Act.put, List.setIfInBounds_toArray, List.set_cons_zero, List.set_cons_succ]
  refine tkV (i := 2) (d := some 55) (v := ?_) rfl (by kernel_rfl) (by kernel_rfl) (by kernel_rfl) rfl (fun _ _ _ h => h) (by rfl) ?_ (by assumption) ?_
  rotate_left
  · (intro w hSw; (try dsimp only at hSw); (try simp only [List.getElem_toArray, List.getElem_cons_zero, List.getElem_cons_succ]); go_simp; try with_reducible rfl)
  simp only [Act.put, List.setIfInBounds_toArray, List.set_cons_zero, List.set_cons_succ]
  refine wpAnyH_ready (rs := [1]) (by kernel_rfl) (by simp) (AllReadyH.cons rfl (fun K hK => ?_) AllReadyH.nil)
  try simp only [List.getElem_toArray, List.getElem_cons_zero, List.getElem_cons_succ]
  go_simp
  go_split_ands
  refine (HIc.out _ HTaq.out.o).mono ?_
  rintro e w6q ⟨rfl, hb6⟩
  have HTbq := hid0 (HTaq.out.later hb6)
  clear hb6
  go_wp2_with fail
  refine hK.out _ _ ?_ (fun hHeld2 => ?_)
  · exact HSoq.out _ HTbq.out
  clear hK K
  (try simp only [Act.put]); (try simp only [List.setIfInBounds_toArray]); (try simp only [List.set_cons_succ]); (try simp only [List.set_cons_zero])
  refine wpAnyH_ready (rs := [3]) (by kernel_rfl) (by simp) (AllReadyH.cons rfl (fun K hK => ?_) AllReadyH.nil)
  try simp only [List.getElem_toArray, List.getElem_cons_zero, List.getElem_cons_succ]
  go_simp
  go_split_ands
  refine (need_t _ _).mono ?_
  rintro e w7 ⟨rfl, hw7⟩
  have hw7' := hw7.symm
  subst hw7'
  clear hw7
  go_wp2_with fail
  refine hK.out _ _ ?_ (fun hHeld3 => ?_)
  · exact HSoq.out _ HTbq.out
  clear hK K
  (try simp only [Act.put]); (try simp only [List.setIfInBounds_toArray]); (try simp only [List.set_cons_succ]); (try simp only [List.set_cons_zero])
  refine wpAnyH_done (by kernel_rfl) ?_ _
  try clear hHeld3
  clear HSoq HTaq
  obtain ⟨q0, q1, q2, q3, q4, q5, q6⟩ := HTbq.out.cells
  clear q0 q1 q2 q3 q5 q6
  go_wp2
  go_loopw [7, 60] (fun _ i V => ∃ (m n' s' : Nat), m ≤ n3 ∧ i = .int .i64 (m : Int) ∧ Hid (chkL may (L.take m) (d + 1) (n + 1) (s + (n1 + n2)) = .ok n' s') ∧ Hid (T4 W B A (n' : Int) (s' : Int) (.int .i64 k) (.bool nt) (.slice a n1 ca) (.slice b n2 cb) (.slice c n3 cc) V)) (fun _ i _ => n3 - (intOf i).toNat)
  case atStart => exact ⟨0, n + 1, s + (n1 + n2), Nat.zero_le _, rfl, hid0 (by simp [chkL]), hid0 (by have h := HTbq.out; exact ⟨h.o, by have hb := h.b; simpa using hb, h.x, h.e⟩)⟩
  case round =>
    clear HTbq HTbp HTq q4
    obtain ⟨m, n', s', hm, rfl, HC, HV⟩ := hrel
    have hbd := chkL_ok may (L.take m) (d + 1) (n + 1) (s + (n1 + n2)) n' s' h1 h3 HC.out
    by_cases hlt : m < n3
    · have hmI : (m : Int) < (n3 : Int) := by omega
      have hm0 : (0 : Int) ≤ (m : Int) := by omega
      have hmL : m < L.length := by have := HL3.out; omega
      have hkV : Keeps Q w wr := HKw.out.trans (Keeps.only HV.out.o hQ)
      have hla := HLA.out.keeps hkV
      obtain ⟨g1, o1, rfl, hgq, e0, e1, e2, e3, e4⟩ := hla.at' m hmL
      obtain ⟨f0, ⟨t5, f1⟩, ⟨a5, m5, c5, f2⟩, ⟨b5, n5, d5, f3⟩, ⟨g5, l5, z5, f4⟩⟩ := (hla.is m hmL).form
      rw [f0] at e0
      rw [f1] at e1
      rw [f2] at e2
      rw [f3] at e3
      rw [f4] at e4
      obtain ⟨wA, hwA⟩ : ∃ wA, wA = wr.alloc (.cells #[.int .i64 L[m].kind, .bool t5, .slice a5 m5 c5, .slice b5 n5 d5, .slice g5 l5 z5] 28) := ⟨_, rfl⟩
      have hBA : Below wr.heap.size wr wA := by rw [hwA]; exact (Below.refl _ _).alloc (Nat.le_refl _) _
      have hYA : wA.heap[wr.heap.size]? = some (.cells #[.int .i64 L[m].kind, .bool t5, .slice a5 m5 c5, .slice b5 n5 d5, .slice g5 l5 z5] 28 (0, 0)) := by rw [hwA]; exact heap_alloc_new wr _
      have y0 : wA.cell? ⟨wr.heap.size, 0, none⟩ = some (.int .i64 L[m].kind) := by rw [cell_of_row _ _ _ _ _ _ hYA]; rfl
      have y1 : wA.cell? ⟨wr.heap.size, 1, none⟩ = some (.bool t5) := by rw [cell_of_row _ _ _ _ _ _ hYA]; rfl
      have y2 : wA.cell? ⟨wr.heap.size, 2, none⟩ = some (.slice a5 m5 c5) := by rw [cell_of_row _ _ _ _ _ _ hYA]; rfl
      have y3 : wA.cell? ⟨wr.heap.size, 3, none⟩ = some (.slice b5 n5 d5) := by rw [cell_of_row _ _ _ _ _ _ hYA]; rfl
      have y4 : wA.cell? ⟨wr.heap.size, 4, none⟩ = some (.slice g5 l5 z5) := by rw [cell_of_row _ _ _ _ _ _ hYA]; rfl
      have HTA := hid0 (HV.out.later hBA)
      have hcall := HIH.out m hmL wA B A (d + 1) n' s' (hkV.trans (Keeps.past hBA)) hQ hF HTA.out.e HTA.out.b (by omega) (by omega) (by omega)
      unfold EV.v at hcall
      rw [f0, f1, f2, f3, f4] at hcall
      have hdI : ((d + 1 : Nat) : Int) = (d : Int) + 1 := by omega
      rw [hdI] at hcall
      have hwd : IntKind.i64.wrap ((d : Int) + 1) = (d : Int) + 1 := by simp [IntKind.wrap, IntKind.bits, IntKind.signed]; omega
      have HCa := hid0 hcall
      have htk : L.take (m + 1) = L.take m ++ [L[m]] := by rw [List.take_add_one, List.getElem?_eq_getElem hmL]; rfl
      have hsn := chkL_snoc may (L.take m) L[m] (d + 1) (n + 1) (s + (n1 + n2))
      rw [← htk, HC.out] at hsn
      simp only at hsn
      have hbl : B < W.heap.size := hBl
      have hfA := hwA.symm
      generalize L[m].kind = lk at *
      cases hce : chkE may L[m] (d + 1) n' s' with
      | ok n9 s9 =>
        rw [hce] at HCa hsn
        unfold GoR at HCa
        have HSn := hid0 hsn
        clear hwA hYA hBA hla hcall hsn hce htk hdI f0 f1 f2 f3 f4 hgq hkV hbd
        go_wp2_with (go_at_call 30; refine HCa.out.mono ?_; rintro e w8 ⟨⟨rfl, hb8⟩, ho8⟩; have HT8 : Hid (T4 W B A (n9 : Int) (s9 : Int) (.int .i64 k) (.bool nt) (.slice a n1 ca) (.slice b n2 cb) (.slice (some ⟨g1, o1, none⟩) n3 cc) w8) := hid0 ⟨HTA.out.o.step ho8, hb8, (ho8.block _ (lt_of_rowC HTA.out.x) (by omega)).trans HTA.out.x, HTA.out.e.only ho8 hF⟩; clear hb8 ho8)
        go_roundw
        case rel => exact ⟨m + 1, n9, s9, by omega, by go_num, HSn, HT8⟩
        case measure => simp [intOf]; omega
      | bad f =>
        rw [hce] at HCa hsn
        unfold GoR at HCa
        have HSn : Hid (chkL may L (d + 1) (n + 1) (s + (n1 + n2)) = .bad f) := hid0 (by
          have h := chkL_stop may (L.take (m + 1)) (L.drop (m + 1)) (d + 1) (n + 1) (s + (n1 + n2)) f hsn
          rwa [List.take_append_drop] at h)
        clear hwA hYA hBA hla hcall hsn hce htk hdI f0 f1 f2 f3 f4 hgq hkV hbd
        go_wp2_with (go_at_call 30; refine HCa.out.mono ?_; rintro e w8 ⟨rfl, ho8⟩; have HO8 := hid0 (HTA.out.o.step ho8); clear ho8)
        refine ⟨rfl, ?_, HO8.out⟩
        rw [HSn.out]
        rfl
    · have hmI : ¬ (m : Int) < (n3 : Int) := by omega
      have HSn : Hid (chkL may L (d + 1) (n + 1) (s + (n1 + n2)) = .ok n' s') := hid0 (by have h := HC.out; rw [List.take_of_length_le (by have := HL3.out; omega)] at h; exact h)
      go_wp2
      go_end0
      refine ⟨?_, HV.out.o⟩
      rw [HSn.out]
      exact ⟨rfl, HV.out.b⟩
end Go.Proofs.YtiapefdklojhdaaDoor
namespace Go.Proofs.YtiapefdklojhdaaDoor
open Go.RowKit Go.Shelf
theorem go_any (may : List ByteArray → List (Int × Int) → Bool) {w : World} {Q : Nat → Prop} {e : Ex} {x : EV} (h : ExIs w Q e x) : AllM may e → GoP may w Q e x := by
  induction h with
  | mk k nt N P L a ca b cb c cc vs hN hP lN lP lL hL hR ih =>
    intro hA W B A d n s hK hQ hF hE hB hn hs hd
    cases hA with
    | mk _ _ _ _ _ hM hAL =>
      have hwc : ∀ V, Only W V (fun k => k = B) → Calls Tryd.prog 51 #[.agg #[.int .i64 k, .bool nt, .slice a N.length ca, .slice b P.length cb, .slice c L.length cc]] V fun e w' => e = .returned (.bool (wholeF may k nt N P L.length)) ∧ Below V.heap.size V w' := fun V hV =>
        isWhole_any may k nt N P L.length a b c ca cb cc V lP hM (hN.keeps (hK.trans (Keeps.only hV hQ))).sa (hP.keeps (hK.trans (Keeps.only hV hQ))).ra
      have hic : ∀ V, Only W V (fun k => k = B) → Calls Tryd.prog 52 #[.agg #[.int .i64 k, .bool nt, .slice a N.length ca, .slice b P.length cb, .slice c L.length cc]] V fun e w' => e = .returned (.bool (formF k L)) ∧ Below V.heap.size V w' := fun V hV =>
        isInForm_any k nt a b c N.length ca P.length cb cc L vs Q V lL (LA.keeps ⟨hL, hR⟩ (hK.trans (Keeps.only hV hQ)))
      unfold EV.v
      simp only [chkE]
      by_cases h1 : n + 1 ≤ 4000
      · by_cases h2 : d ≤ 128
        · by_cases h3 : s + (N.length + P.length) ≤ 65536
          · rw [if_pos ⟨h1, h2, h3⟩]
            cases hw : wholeF may k nt N P L.length with
            | false =>
              rw [hw] at hwc
              exact go_bad1 k nt a b c N.length ca P.length cb L.length cc d n s B A W lN lP hE hF hn hs hB h1 h2 h3 hwc
            | true =>
              rw [hw] at hwc
              cases hf : formF k L with
              | false =>
                rw [hf] at hic
                exact go_bad2 k nt a b c N.length ca P.length cb L.length cc d n s B A W lN lP hE hF hn hs hB h1 h2 h3 hwc hic
              | true =>
                rw [hf] at hic
                exact go_parts k nt a b c N.length ca P.length cb L.length cc d n s B A W lN lP hE hF hn hs hB h1 h2 h3 hwc hic may w Q L vs rfl lL hK hQ ⟨hL, hR⟩ (fun i hi => ih i hi (hAL _ (List.getElem_mem hi)))
          · rw [if_neg (fun h => h3 h.2.2)]
            exact go_many3 k nt a b c N.length ca P.length cb L.length cc d n s B A W lN lP hE hF hn hs hd hB h1 h2 h3
        · rw [if_neg (fun h => h2 h.2.1)]
          exact go_many2 k nt a b c N.length ca P.length cb L.length cc d n s B A W lN lP hE hF hn hs hd hB h1 h2
      · rw [if_neg (fun h => h1 h.1)]
        exact go_many1 k nt a b c N.length ca P.length cb L.length cc d n s B A W lN lP hE hF hn hs hd hB h1
set_option maxRecDepth 10000 in
theorem faultOf_any (x : Value) (ty : TypeId) (y : Value) (hx : x = .iface ty y) (w : World) : Calls Tryd.prog 29 #[faultV x] w fun e w' => e = .returned (.agg #[x]) ∧ Below w.heap.size w w' := by
  subst hx
  have hta : ∀ w, (Instr.typeAssert (.iface 63 (.agg #[.iface ty y])) 20 63 true).run Tryd.prog w = .ok (.tuple #[.agg #[.iface ty y], .bool true]) w := fun _ => by kernel_rfl
  unfold faultV
  go_enter Tryd.func29, Tryd.ntmps29
  go_wp2
  have h0 : ((w.alloc (.cells #[.iface ty y] 63)).alloc (.cells #[.iface ty y] 63)).cell? ⟨w.heap.size, 0, none⟩ = some (.iface ty y) := by
    rw [World.cell?_of_block (Below.heap_alloc _ _ w.heap.size (by simp))]
    rw [cell_of_row _ _ _ _ _ _ (heap_alloc_new w _)]; rfl
  refine bodyPost_ret (v := .agg #[.iface ty y]) (by simp [results, Tryd.results29, go_sem, h0]) rfl ⟨rfl, ?_⟩
  exact ((Below.refl _ _).alloc (Nat.le_refl _) _).alloc (by simp) _
set_option maxRecDepth 10000 in
theorem catch_idle (p : Addr) (w : World) :
    CallsD Tryd.prog 28 #[.pointer (some p)] .returning w fun e u' w' => e = .returned (.tuple #[]) ∧ u' = .returning ∧ w' = w := by
  refine callsD_of_wpS Tryd.func28 rfl fun c₀ cs hu => ?_
  apply wpS_seq
  apply wpS_region
  simp [wpOpsS, go_sem, recoverD, hu, Tryd.ntmps28, Exit.thenS]
  refine wpS_of_wp ?_
  go_wp2
  cases c₀
  simp_all [bodyPostS, results, Tryd.results28]
set_option maxRecDepth 10000 in
set_option maxHeartbeats 1600000 in
theorem catch_gave (C : Nat) (ve : Value) (ty : TypeId) (y : Value) (w : World) (hn : w.heap[C]? = some (.cells #[ve] 36 (0, 0))) :
    CallsD Tryd.prog 28 #[.pointer (some ⟨C, 0, none⟩)] (.panicking [{ v := faultV (.iface ty y), recovered := false }]) w fun e u' w' => e = .returned (.tuple #[]) ∧ u' = .panicking [{ v := faultV (.iface ty y), recovered := true }] ∧ w'.heap[C]? = some (.cells #[.iface ty y] 36 (0, 0)) ∧ Only w w' (fun k => k = C) := by
  have HFa := hid0 (fun W => faultOf_any (.iface ty y) ty y rfl W)
  have hfd : ∀ W, (Instr.field 63 (.agg #[.iface ty y]) 0).run Tryd.prog W = .ok (.iface ty y) W := fun _ => by kernel_rfl
  have HN := hid0 hn
  unfold faultV at *
  clear hn
  refine callsD_of_wpS Tryd.func28 rfl fun c₀ cs hu => ?_
  apply wpS_seq
  apply wpS_region
  simp [wpOpsS, go_sem, recoverD, hu, Tryd.ntmps28, Exit.thenS]
  refine wpS_of_wp ?_
  go_wp2_with (go_at_call 29; refine (HFa.out _).mono ?_; rintro e w5 ⟨rfl, hb5⟩; have hr5 := (hb5.block C (lt_of_rowC HN.out)).trans HN.out; have c5 : w5.cell? ⟨C, 0, none⟩ = some ve := (by rw [cell_of_row _ _ _ _ _ _ hr5]; rfl); have f5 : w5.frozen? ⟨C, 0, none⟩ = false := frozen_of_row _ _ _ _ _ hr5; have HR5 := hid0 hr5; have HB5 := hid0 hb5; clear hr5 hb5)
  have h6 := heap_setCell_same w5 C 0 _ _ (.iface ty y) HR5.out
  have ho : Only w (w5.setCell ⟨C, 0, none⟩ (.iface ty y)) (fun k => k = C) := (Only.past HB5.out).trans (Only.setCell w5 C 0 _) (fun i h => .inl h)
  clear c5 f5 HR5 HB5 HFa hfd HN
  generalize w5.setCell ⟨C, 0, none⟩ (.iface ty y) = w6 at *
  cases c₀
  simp_all [bodyPostS, results, Tryd.results28]
/-- Check's answer. -/
def errC (A : Nat → Addr) : CR → Value
  | .ok _ _ => .nilIface
  | .bad f => .iface 144 (.pointer (some (A f)))
set_option maxRecDepth 10000 in
set_option maxHeartbeats 1600000 in
theorem check_any (may : List ByteArray → List (Int × Int) → Bool) (e : Ex) (x : EV) (Q : Nat → Prop) (A : Nat → Addr) (w : World) (hx : ExIs w Q e x) (hA : AllM may e) (hE : E3 w A) :
    Calls Tryd.prog 10 #[x.v] w fun r w' => r = .returned (errC A (chkE may e 1 0 0)) ∧ Below w.heap.size w w' := by
  have hx0 := hx.mono (Q' := fun g => g < w.heap.size) (fun g hg _ => hg)
  obtain ⟨k5, t5, a5, m5, c5, b5, n5, d5, g5, l5, z5, rfl⟩ : ∃ k5 t5 a5 m5 c5 b5 n5 d5 g5 l5 z5, x = ⟨.int .i64 k5, .bool t5, .slice a5 m5 c5, .slice b5 n5 d5, .slice g5 l5 z5⟩ := by
    cases hx with
    | mk k nt N P L a ca b cb c cc vs => exact ⟨k, nt, a, _, ca, b, _, cb, c, _, cc, rfl⟩
  have hmf : ∀ (fn : Fn) (first cap : Array Value) (w : World), (Instr.makeFunc fn first cap).run Tryd.prog w = .ok (.func fn first cap) w := fun _ _ _ _ => rfl
  obtain ⟨W, hW⟩ : ∃ W, W = ((w.alloc (.cells #[.int .i64 k5, .bool t5, .slice a5 m5 c5, .slice b5 n5 d5, .slice g5 l5 z5] 28)).alloc (.cells #[.nilIface] 36)).alloc (.cells #[.int .i64 0, .int .i64 0] 66) := ⟨_, rfl⟩
  have hbW : Below w.heap.size w W := by rw [hW]; exact (((Below.refl _ _).alloc (Nat.le_refl _) _).alloc (by simp) _).alloc (by simp; omega) _
  have hsW : W.heap.size = w.heap.size + 3 := by rw [hW]; simp
  have r0 : W.heap[w.heap.size]? = some (.cells #[.int .i64 k5, .bool t5, .slice a5 m5 c5, .slice b5 n5 d5, .slice g5 l5 z5] 28 (0, 0)) := by
    rw [hW, Below.heap_alloc _ _ _ (by simp; omega), Below.heap_alloc _ _ _ (by simp)]; exact heap_alloc_new w _
  have r1 : W.heap[w.heap.size + 1]? = some (.cells #[.nilIface] 36 (0, 0)) := by
    rw [hW, Below.heap_alloc _ _ _ (by simp)]
    have h := heap_alloc_new (w.alloc (.cells #[.int .i64 k5, .bool t5, .slice a5 m5 c5, .slice b5 n5 d5, .slice g5 l5 z5] 28)) (.cells #[.nilIface] 36)
    simp only [World.size_alloc] at h
    exact h
  have r2 : W.heap[w.heap.size + 2]? = some (.cells #[.int .i64 0, .int .i64 0] 66 (0, 0)) := by
    rw [hW]
    have h := heap_alloc_new ((w.alloc (.cells #[.int .i64 k5, .bool t5, .slice a5 m5 c5, .slice b5 n5 d5, .slice g5 l5 z5] 28)).alloc (.cells #[.nilIface] 36)) (.cells #[.int .i64 0, .int .i64 0] 66)
    simp only [World.size_alloc] at h
    exact h
  have x0 : W.cell? ⟨w.heap.size, 0, none⟩ = some (.int .i64 k5) := by rw [cell_of_row _ _ _ _ _ _ r0]; rfl
  have x1 : W.cell? ⟨w.heap.size, 1, none⟩ = some (.bool t5) := by rw [cell_of_row _ _ _ _ _ _ r0]; rfl
  have x2 : W.cell? ⟨w.heap.size, 2, none⟩ = some (.slice a5 m5 c5) := by rw [cell_of_row _ _ _ _ _ _ r0]; rfl
  have x3 : W.cell? ⟨w.heap.size, 3, none⟩ = some (.slice b5 n5 d5) := by rw [cell_of_row _ _ _ _ _ _ r0]; rfl
  have x4 : W.cell? ⟨w.heap.size, 4, none⟩ = some (.slice g5 l5 z5) := by rw [cell_of_row _ _ _ _ _ _ r0]; rfl
  have g0 := World.block_lt_of_cell? w _ hE.c0
  have g1 := World.block_lt_of_cell? w _ hE.c1
  have g2 := World.block_lt_of_cell? w _ hE.c2
  simp only at g0 g1 g2
  have hcall := go_any may hx0 hA W (w.heap.size + 2) A 1 0 0 (Keeps.ofBelow hbW) (by omega) ⟨by omega, by omega, by omega⟩ (hE.below hbW) r2 (by omega) (by omega) (by omega)
  unfold EV.v at hcall
  simp only at hcall
  have HG := hid0 hcall
  have HR1 := hid0 r1
  have HBW := hid0 hbW
  have HSW := hid0 hsW
  have hfold := hW.symm
  unfold EV.v
  clear hx hA hE hW hbW hsW r0 r1 r2 hcall hx0 g0 g1 g2
  generalize chkE may e 1 0 0 = res at *
  cases res with
  | bad f =>
    unfold GoR at HG
    go_enter_defers Tryd.func10, Tryd.ntmps10
    go_wp2_with (go_at_call 30; refine HG.out.mono ?_; rintro r w1 ⟨rfl, ho1⟩; have HN1 := hid0 ((ho1.block (w.heap.size + 1) (by have := HSW.out; omega) (by omega)).trans HR1.out); have HO1 := hid0 ho1; clear ho1)
    refine leaves_cons (f := 28) (args := #[.pointer (some ⟨w.heap.size + 1, 0, none⟩)]) (by simp) (by simp [go_sem]) ?_
    refine (catch_gave (w.heap.size + 1) _ _ _ w1 HN1.out).mono ?_
    rintro r u' w2 ⟨rfl, rfl, hN2, ho2⟩
    have k0 : w2.cell? ⟨w.heap.size + 1, 0, none⟩ = some (.iface 144 (.pointer (some (A f)))) := by rw [cell_of_row _ _ _ _ _ _ hN2]; rfl
    have hb : Below w.heap.size w w2 := (HBW.out.trans (HO1.out.below (by have := HSW.out; omega) (fun i h => by omega))).trans (ho2.below (by have := HO1.out.size; have := HSW.out; omega) (fun i h => by omega))
    simp [Leaves, settle, results, Tryd.results10, go_sem, k0, hb, errC]
  | ok n s =>
    unfold GoR at HG
    go_enter_defers Tryd.func10, Tryd.ntmps10
    go_wp2_with (go_at_call 30; refine HG.out.mono ?_; rintro r w1 ⟨⟨rfl, hb1⟩, ho1⟩; have hN1 := (ho1.block (w.heap.size + 1) (by have := HSW.out; omega) (by omega)).trans HR1.out; have c1 : w1.cell? ⟨w.heap.size + 1, 0, none⟩ = some .nilIface := (by rw [cell_of_row _ _ _ _ _ _ hN1]; rfl); have f1 : w1.frozen? ⟨w.heap.size + 1, 0, none⟩ = false := frozen_of_row _ _ _ _ _ hN1; have HN1 := hid0 hN1; have HO1 := hid0 ho1; clear ho1 hb1 hN1)
    refine leaves_cons (f := 28) (args := #[.pointer (some ⟨w.heap.size + 1, 0, none⟩)]) (by simp) (by simp [go_sem]) ?_
    refine (catch_idle _ _).mono ?_
    rintro r u' w2 ⟨rfl, rfl, rfl⟩
    have k0 : (w1.setCell ⟨w.heap.size + 1, 0, none⟩ .nilIface).cell? ⟨w.heap.size + 1, 0, none⟩ = some .nilIface := by rw [cell_of_row _ _ _ _ _ _ (heap_setCell_same w1 _ 0 _ _ .nilIface HN1.out)]; rfl
    have hb : Below w.heap.size w (w1.setCell ⟨w.heap.size + 1, 0, none⟩ .nilIface) := (HBW.out.trans (HO1.out.below (by have := HSW.out; omega) (fun i h => by omega))).setCell (p := ⟨w.heap.size + 1, 0, none⟩) (by simp) _
    clear c1 f1 HN1 HO1
    change Leaves _ _ _ _ _ _ (w1.setCell ⟨w.heap.size + 1, 0, none⟩ .nilIface)
    generalize w1.setCell ⟨w.heap.size + 1, 0, none⟩ .nilIface = w3 at *
    simp [Leaves, settle, results, Tryd.results10, go_sem, k0, hb, errC]
end Go.Proofs.YtiapefdklojhdaaDoor
namespace Go.Proofs.YtiapefdklojhdaaDoor
open Go.RowKit Go.Shelf
theorem vis_len (G : List Nd) (p : Int) : ∀ (f : Nat), (∀ x s s', vis G p f x s = some s' → s'.wait.length + left G p s' ≤ s.wait.length + left G p s) ∧ (∀ ys s s', visL G p f ys s = some s' → s'.wait.length + left G p s' ≤ s.wait.length + left G p s) := by
  have lift : ∀ f, (∀ x s s', vis G p f x s = some s' → s'.wait.length + left G p s' ≤ s.wait.length + left G p s) → ∀ ys s s', visL G p f ys s = some s' → s'.wait.length + left G p s' ≤ s.wait.length + left G p s := by
    intro f hf ys
    induction ys with
    | nil => intro s s' h; simp only [visL, Option.some.injEq] at h; subst h; exact Nat.le_refl _
    | cons y ys ih =>
      intro s s' h
      simp only [visL] at h
      cases hv : vis G p f y s with
      | none => rw [hv] at h; cases h
      | some s1 => rw [hv] at h; exact Nat.le_trans (ih s1 s' h) (hf y s s1 hv)
  intro f
  induction f with
  | zero => exact ⟨fun x s s' h => by simp [vis] at h, lift 0 (fun x s s' h => by simp [vis] at h)⟩
  | succ f ih =>
    have h1 : ∀ x s s', vis G p (f + 1) x s = some s' → s'.wait.length + left G p s' ≤ s.wait.length + left G p s := by
      intro x s s' h
      simp only [vis] at h
      cases hx : G[x]? with
      | none => rw [hx] at h; cases h
      | some d =>
        rw [hx] at h
        have hxl := (List.getElem?_eq_some_iff.1 hx).1
        cases d with
        | hole => cases h
        | fin => cases h; exact Nat.le_refl _
        | tramp y => exact ih.1 _ _ _ h
        | set nt N P nx =>
          simp only at h
          by_cases hp : s.last x = p
          · rw [if_pos hp] at h; cases h; exact Nat.le_refl _
          · rw [if_neg hp] at h
            cases h
            have := left_mark G p s x hxl hp
            have e : left G p ((s.mark x p).push x) = left G p (s.mark x p) := rfl
            rw [e]
            simp only [St.push, List.length_append, List.length_singleton]
            simp only [St.mark] at this ⊢
            omega
        | fork ys =>
          simp only at h
          by_cases hp : s.last x = p
          · rw [if_pos hp] at h; cases h; exact Nat.le_refl _
          · rw [if_neg hp] at h
            have := left_mark G p s x hxl hp
            have h2 := ih.2 _ _ _ h
            have e : (s.mark x p).wait.length = s.wait.length := rfl
            omega
    exact ⟨h1, lift (f + 1) h1⟩
theorem takeF_len {G : List Nd} {p : Int} {u : Kd} {ys : List Nat} {s s' : St} (hy : ∀ y, y ∈ ys → isSet G y) (hs : s.wait = []) (h : takeF G p u ys s = some s') : s'.wait.length ≤ G.length := by
  rw [takeF_eq p u ys hy] at h
  have h1 := (vis_len G p _).2 _ _ _ h
  have h2 := left_le G p s
  rw [hs] at h1
  simp only [List.length_nil] at h1
  omega
/-- A word in memory. -/
structure KA (w : World) (B : Nat) (a : Option Addr) (l : List Kd) : Prop where
  at' : ∀ k (h : k < l.length), ∃ b off, a = some ⟨b, off, none⟩ ∧ b < B ∧ w.cell? ⟨b, off + k * 2, none⟩ = some (.string l[k].1) ∧ w.cell? ⟨b, off + k * 2 + 1, none⟩ = some (.int .i64 l[k].2)
theorem KA.below {w w' : World} {B : Nat} {a : Option Addr} {l : List Kd} (h : KA w B a l) (k : Below B w w') : KA w' B a l := ⟨fun i hi => by
  obtain ⟨b, off, e, hb, h1, h2⟩ := h.at' i hi
  exact ⟨b, off, e, hb, (k.cell (p := ⟨b, off + i * 2, none⟩) hb).trans h1, (k.cell (p := ⟨b, off + i * 2 + 1, none⟩) hb).trans h2⟩⟩
/-- The state that a reading begins with. -/
def St.zero : St := ⟨fun _ => -1, [], -1⟩
theorem Bd.wf {w : World} {base R : Nat} {Y : Lay} {F : Nat → Nat → Prop} {G : List Nd} (h : Bd w base R Y F G) (hh : ∀ (j : Nat), G[j]? ≠ some .hole) : WF G ∧ SetsOk G ∧ ∀ (x : Nat) (ys : List Nat), G[x]? = some (Nd.fork ys) → ys.length ≤ 1000000 :=
  ⟨⟨fun x _ hx y hy => (h.ok x _ hx).2 y hy, fun x _ _ _ _ hx => (h.ok x _ hx).1, fun x _ hx => h.ok x _ hx, hh⟩, fun i _ _ _ _ hx => (h.ok i _ hx).2, fun x _ hx => (h.ok x _ hx).1⟩
theorem Bd.sin {w : World} {base R : Nat} {Y : Lay} {F : Nat → Nat → Prop} {G : List Nd} (h : Bd w base R Y F G) (hb : base ≤ R) (hR : w.heap[R]? = some (.cells #[.slice none 0 0, .slice none 0 0, .int .i64 (-1)] 88 (0, 0))) : SIn w base R Y G [] (.slice none 0 0) St.zero :=
  ⟨(h.mono (F' := fun _ _ => True) (fun _ _ _ _ _ => trivial)).g, ⟨⟨.slice none 0 0, hR, World.ownsRow_nil _ _ _ _, World.ownsRow_nil _ _ _ _, fun g e => by cases e⟩, hb⟩⟩
/-- The nodes that making begins with: the end alone. -/
theorem Bd.first {w : World} {base R : Nat} {Y : Lay} (hY : Y.val 0 = finV R) : Bd w base R Y (fun _ _ => True) [.fin] := by
  have hat : ∀ (i : Nat) (d : Nd), [Nd.fin][i]? = some d → i = 0 ∧ d = .fin := fun i d hi => by
    cases i with
    | zero => simp at hi; exact ⟨rfl, hi.symm⟩
    | succ i => simp at hi
  refine ⟨⟨fun i d hi => ?_, fun i j d e hi hj hd => ?_, fun i nt N P nx hi => ?_⟩, fun i d hi => ?_⟩
  · obtain ⟨rfl, rfl⟩ := hat i d hi; exact .fin hY
  · obtain ⟨_, rfl⟩ := hat i d hi; cases hd
  · obtain ⟨_, e⟩ := hat i _ hi; cases e
  · obtain ⟨_, rfl⟩ := hat i d hi; trivial
theorem CallV.gen {v : Value} {p : Int} {w : World} {Q : Ending → World → Prop} (h : CallV v p w Q) : ∃ k cap, v = .func (.func k) #[] cap ∧ (∀ args w, (callFunc k args).run Tryd.prog w = .ok (.enter k args) w) ∧ Calls Tryd.prog k (#[.int .i64 p] ++ cap) w Q := by
  rcases h with ⟨b, e, h⟩ | ⟨l, o, e, h⟩ | ⟨b, e, h⟩
  · exact ⟨_, _, e, enters_of Tryd.func54 (by kernel_rfl) rfl, h⟩
  · exact ⟨_, _, e, enters_of Tryd.func78 (by kernel_rfl) rfl, h⟩
  · exact ⟨_, _, e, enters_of Tryd.func81 (by kernel_rfl) rfl, h⟩
/-- An answer whether a word is met. -/
def MatchR (e : Ex) (l : List Kd) (r : Ending) : Prop := ∃ b, r = .returned (.bool b) ∧ (b = true ↔ Mt e l)
set_option maxRecDepth 10000 in
set_option maxHeartbeats 3200000 in
theorem matches_any (e : Ex) (hW : WayP e) (hsz : e.size ≤ 100000) (x : EV) (Q : Nat → Prop) (l : List Kd) (a : Option Addr) (ca : Nat) (w : World) (hl : l.length ≤ 1000000000) (hx : ExIs w Q e x) (ha : KA w w.heap.size a l) :
    Calls Tryd.prog 31 #[x.v, .slice a l.length ca] w fun r w' => MatchR e l r ∧ Below w.heap.size w w' := by
  obtain ⟨k5, t5, a5, m5, c5, b5, n5, d5, g5, l5, e5, rfl⟩ : ∃ k5 t5 a5 m5 c5 b5 n5 d5 g5 l5 e5, x = ⟨.int .i64 k5, .bool t5, .slice a5 m5 c5, .slice b5 n5 d5, .slice g5 l5 e5⟩ := by
    cases hx with
    | mk k nt N P L a ca b cb c cc vs => exact ⟨k, nt, a, _, ca, b, _, cb, c, _, cc, rfl⟩
  obtain ⟨B, hB⟩ : ∃ B, B = w.heap.size := ⟨_, rfl⟩
  obtain ⟨w0, hw0⟩ : ∃ w0, w0 = (w.alloc (.cells #[.int .i64 k5, .bool t5, .slice a5 m5 c5, .slice b5 n5 d5, .slice g5 l5 e5] 28)).alloc (.cells #[.slice none 0 0, .slice none 0 0, .int .i64 (-1)] 88) := ⟨_, rfl⟩
  have hb0 : Below w.heap.size w w0 := by rw [hw0]; exact ((Below.refl _ _).alloc (Nat.le_refl _) _).alloc (by simp) _
  have hs0 : w0.heap.size = w.heap.size + 2 := by rw [hw0]; simp
  have hX0 : w0.heap[w.heap.size]? = some (.cells #[.int .i64 k5, .bool t5, .slice a5 m5 c5, .slice b5 n5 d5, .slice g5 l5 e5] 28 (0, 0)) := by
    rw [hw0]
    exact (Below.heap_alloc _ _ _ (by simp)).trans (heap_alloc_new w _)
  have hR0 : w0.heap[w.heap.size + 1]? = some (.cells #[.slice none 0 0, .slice none 0 0, .int .i64 (-1)] 88 (0, 0)) := by
    rw [hw0]
    have h := heap_alloc_new (w.alloc (.cells #[.int .i64 k5, .bool t5, .slice a5 m5 c5, .slice b5 n5 d5, .slice g5 l5 e5] 28)) (.cells #[.slice none 0 0, .slice none 0 0, .int .i64 (-1)] 88)
    rw [show (w.alloc (.cells #[.int .i64 k5, .bool t5, .slice a5 m5 c5, .slice b5 n5 d5, .slice g5 l5 e5] 28)).heap.size = w.heap.size + 1 by simp] at h
    exact h
  have c0 : w0.cell? ⟨w.heap.size, 0, none⟩ = some (.int .i64 k5) := by rw [cell_of_row _ _ _ _ _ _ hX0]; rfl
  have c1 : w0.cell? ⟨w.heap.size, 1, none⟩ = some (.bool t5) := by rw [cell_of_row _ _ _ _ _ _ hX0]; rfl
  have c2 : w0.cell? ⟨w.heap.size, 2, none⟩ = some (.slice a5 m5 c5) := by rw [cell_of_row _ _ _ _ _ _ hX0]; rfl
  have c3 : w0.cell? ⟨w.heap.size, 3, none⟩ = some (.slice b5 n5 d5) := by rw [cell_of_row _ _ _ _ _ _ hX0]; rfl
  have c4 : w0.cell? ⟨w.heap.size, 4, none⟩ = some (.slice g5 l5 e5) := by rw [cell_of_row _ _ _ _ _ _ hX0]; rfl
  have HWy := hid0 (hW w0 w.heap.size (w.heap.size + 1) ⟨fun _ => finV (w.heap.size + 1), fun _ => 0, fun _ => .nilFunc, fun _ => .nilFunc⟩ (fun _ _ => True) [.fin] 0 _ (fun _ _ _ _ => trivial) (Bd.first rfl) (by simp) ((hx.mono (Q' := fun g => g < w.heap.size) (fun g hg _ => hg)).keeps (Keeps.ofBelow hb0)) hb0.size)
  unfold EV.v finV ptr at HWy
  simp only at HWy
  have hmf : ∀ (fn : Fn) (first cap : Array Value) (w : World), (Instr.makeFunc fn first cap).run Tryd.prog w = .ok (.func fn first cap) w := fun _ _ _ _ => rfl
  have HA := hid0 ha
  have HB0 := hid0 hb0
  have HR0 := hid0 hR0
  have HS0 := hid0 hs0
  have hfold := hw0.symm
  unfold EV.v
  clear hx ha hw0 hX0 hb0 hR0 hs0 hW hB
  have M0 : Hid True := trivial
  go_enter Tryd.func31, Tryd.ntmps31
  go_wp2_with (first
    | (clear M0; go_at_call 53; refine HWy.out.mono ?_; rintro e' w1 ⟨Y1, G1, i1, he1, hW1⟩
       obtain ⟨fn1, fx1, fy1, hfn1⟩ := (hW1.bd.g.node i1 _ (List.getElem?_eq_getElem hW1.lt)).func
       rw [hfn1] at he1
       subst he1
       obtain ⟨hwf, hso, hf6⟩ := hW1.bd.wf (fun j hj => by
         rcases Nat.lt_or_ge j 1 with h | h
         · have : j = 0 := by omega
           subst this
           rw [hW1.ext.nodes 0 (by simp)] at hj
           cases hj
         · exact hW1.holes j h hj)
       have hfin : G1[0]? = some .fin := hW1.ext.nodes 0 (by simp)
       have hR1 : w1.heap[w.heap.size + 1]? = some (.cells #[.slice none 0 0, .slice none 0 0, .int .i64 (-1)] 88 (0, 0)) := (hW1.bel.block _ (lt_of_row HR0.out)).trans HR0.out
       have hS1 := hW1.bd.sin (by omega) hR1
       obtain ⟨s1, hs1⟩ := vis_total hwf 0 St.zero i1 hW1.lt
       have hlen : G1.length ≤ 1000000 := by have := hW1.size; simp only [List.length_singleton] at this; omega
       have hw8 : s1.wait.length ≤ 1000000 := by
         have h1 := (vis_len G1 0 _).1 _ _ _ hs1
         have h2 := left_le G1 0 St.zero
         have h3 : St.zero.wait.length = 0 := rfl
         omega
       have hbh : Behind G1 0 s1 (fun W => ∃ x, x ∈ [i1] ∧ Acc G1 x W) := behind_of hwf (i := 0) (fun y _ => by show (-1 : Int) < _; omega) rfl (by show (-1 : Int) < _; omega) ((vis_seen hwf _ _).1 _ _ _ hs1)
       have hCV := visit_any hwf hf6 0 _ i1 St.zero s1 w1 hs1 hw8 hS1
       rw [hfn1] at hCV
       obtain ⟨kf, cap, hkf, ekf, hcf⟩ := hCV.gen
       cases hkf
       have HWF := hid0 hwf
       have HSO := hid0 hso
       have HF6 := hid0 hf6
       have HLN := hid0 hlen
       have HBH := hid0 hbh
       have HCF := hid0 hcf
       have HBU := hid0 hW1.built
       have HFI := hid0 hfin
       have HB1 := hid0 (Below.later HB0.out hW1.bel)
       have HS18 := hid0 hw8
       have M1 : Hid True := trivial
       clear hW1 hfn1 hwf hso hf6 hlen hbh hcf hfin hR1 hS1 hs1 hw8 hCV)
    | (clear M1; go_at_fn kf; refine HCF.out.mono ?_; rintro e' w2 ⟨rfl, hs2, hk2⟩; have HS2 := hid0 hs2; have HK2 := hid0 hk2; clear hs2 hk2)
    | fail)
  obtain ⟨res, hres, hiff⟩ := runF_acc HWF.out l 0 s1 _ HBH.out
  have HIF : Hid (res = true ↔ Mt e l) := hid0 (by
    rw [hiff, ← HBU.out.whole HFI.out]
    constructor
    · rintro ⟨x, hx, h⟩
      simp only [List.mem_singleton] at hx
      subst hx
      exact h
    · exact fun h => ⟨i1, by simp, h⟩)
  have HRS := hid0 hres
  have hbw1 : w.heap.size ≤ w1.heap.size := HB1.out.size
  clear hres hiff HBU HFI HWy hmf HCF ekf c0 c1 c2 c3 c4
  go_loopw [7, 8, 17] (fun _ _ i wr => ∃ (k : Nat) (s : St) (u : Value) (wtd : List Nat), k ≤ l.length ∧ i = .int .i64 (k : Int) ∧ Hid (runF G1 k (l.drop k) s = some res) ∧ Hid (∃ A, Behind G1 k s A) ∧ Hid (SIn wr w.heap.size (w.heap.size + 1) Y1 G1 wtd u s) ∧ Hid (s.wait.length ≤ 1000000) ∧ Hid (Kp w.heap.size w1 wr)) (fun _ _ i _ => l.length - (intOf i).toNat)
  case atStart => exact ⟨0, s1, _, _, Nat.zero_le _, rfl, HRS, hid0 ⟨_, HBH.out⟩, HS2, HS18, HK2⟩
  case round =>
    clear HRS HBH HS2 HS18 HK2
    obtain ⟨k, s, u, wtd, hk, rfl, HR, HBe, HS, HL, HK⟩ := hrel
    have hbr : w.heap.size ≤ wr.heap.size := Nat.le_trans hbw1 HK.out.bel.size
    obtain ⟨v, hRr, hv, hu, hd⟩ := HS.out.r.is
    obtain ⟨av, cv, rfl, _⟩ := own_none hv
    by_cases hlt : k < l.length
    · have hkI : (k : Int) < (l.length : Int) := by omega
      have hkI0 : (0 : Int) ≤ (k : Int) := by omega
      obtain ⟨b1, off, rfl, _, d0, d1⟩ := ((HA.out.below HB1.out).below HK.out.bel).at' k hlt
      obtain ⟨wA, hwA⟩ : ∃ wA, wA = wr.alloc (.cells #[.string l[k].1, .int .i64 l[k].2] 46) := ⟨_, rfl⟩
      have hBA : Below wr.heap.size wr wA := by rw [hwA]; exact (Below.refl _ _).alloc (Nat.le_refl _) _
      have hYA : wA.heap[wr.heap.size]? = some (.cells #[.string l[k].1, .int .i64 l[k].2] 46 (0, 0)) := by rw [hwA]; exact heap_alloc_new wr _
      have y0 : wA.cell? ⟨wr.heap.size, 0, none⟩ = some (.string l[k].1) := by rw [cell_of_row _ _ _ _ _ _ hYA]; rfl
      have y1 : wA.cell? ⟨wr.heap.size, 1, none⟩ = some (.int .i64 l[k].2) := by rw [cell_of_row _ _ _ _ _ _ hYA]; rfl
      have r0 : wA.cell? ⟨w.heap.size + 1, 0, none⟩ = some (.slice av s.wait.length cv) := by rw [cell_of_row _ _ _ _ _ _ ((hBA.block _ (lt_of_row hRr)).trans hRr)]; rfl
      have hrun := HR.out
      rw [List.drop_eq_getElem_cons hlt, runF] at hrun
      have HSA := hid0 (HS.out.later hbr hBA)
      have HBA := hid0 hBA
      have hfA := hwA.symm
      by_cases hw : s.wait = []
      · rw [if_pos hw] at hrun
        cases hrun
        have hn0 : s.wait.length = 0 := by rw [hw]; rfl
        rw [hn0] at r0
        generalize l[k].1 = cK at *
        generalize l[k].2 = pK at *
        clear hwA hYA hRr hv hu hd HS HR hBA
        go_wp2
        go_ret
        exact ⟨⟨false, rfl, HIF.out⟩, HB1.out.trans (HK.out.bel.trans (HBA.out.mono hbr))⟩
      · rw [if_neg hw] at hrun
        have hnz : ¬ (s.wait.length : Int) = 0 := by
          intro e
          exact hw (List.length_eq_zero_iff.1 (by omega))
        obtain ⟨A, hbe⟩ := HBe.out
        obtain ⟨s', htk, hbe'⟩ := behind_step HWF.out hbe l[k]
        rw [htk] at hrun
        have hl' : s'.wait.length ≤ 1000000 := Nat.le_trans (takeF_len hbe.sets rfl htk) HLN.out
        have HRn : Hid (runF G1 (k + 1) (l.drop (k + 1)) s' = some res) := hid0 hrun
        have hwk : IntKind.i64.wrap ((k : Int) + 1) = (k : Int) + 1 := by simp [IntKind.wrap, IntKind.bits, IntKind.signed]; omega
        have HT := hid0 (take_any HWF.out HSO.out HF6.out l[k].1 l[k].2 ((k : Int) + 1) s s' wA hbe.sets htk hl' HL.out (Nat.le_trans hbr HBA.out.size) HSA.out)
        have HBn := hid0 hbe'
        generalize l[k].1 = cK at *
        generalize l[k].2 = pK at *
        clear hwA hYA hRr hv hu hd HS HR hBA hrun htk hbe hbe' HBe HSA
        go_wp2_with (go_at_call 55; refine HT.out.mono ?_; rintro e' w3 ⟨rfl, ⟨u3, hs3⟩, hk3⟩; have HS3 := hid0 hs3; have HK3 := hid0 ((HK.out.trans (Kp.ofBelow HBA.out hbr)).trans hk3); clear hs3 hk3)
        go_roundw
        case rel => exact ⟨k + 1, s', _, _, by omega, by go_num, HRn, hid0 ⟨_, HBn.out⟩, HS3, hid0 hl', HK3⟩
        case measure => simp [intOf]; omega
    · have hkI : ¬ (k : Int) < (l.length : Int) := by omega
      have hkn : k = l.length := by omega
      have hrun := HR.out
      rw [List.drop_of_length_le (by omega), runF] at hrun
      have r2 : wr.cell? ⟨w.heap.size + 1, 2, none⟩ = some (.int .i64 s.ended) := by rw [cell_of_row _ _ _ _ _ _ hRr]; rfl
      have HRE : Hid (res = decide (s.ended = (l.length : Int))) := hid0 (by cases hrun; rw [hkn])
      clear hrun hRr hv hu hd HS HR
      generalize s.ended = en at *
      go_wp2
      go_ret
      exact ⟨⟨res, by rw [HRE.out]; by_cases h : en = (l.length : Int) <;> simp [h], HIF.out⟩, HB1.out.trans HK.out.bel⟩
end Go.Proofs.YtiapefdklojhdaaDoor
namespace Go.Proofs.YtiapefdklojhdaaDoor
open Go.RowKit Go.Shelf
def CR.okB : CR → Bool | .ok _ _ => true | .bad _ => false
/-- An answer whether a word is met by an expression that may be. -/
def MatchC (res : CR) (e : Ex) (l : List Kd) (r : Ending) : Prop := ∃ b, r = .returned (.bool b) ∧ (b = true ↔ CR.okB res = true ∧ Mt e l)
set_option maxRecDepth 10000 in
set_option maxHeartbeats 1600000 in
theorem match_any (may : List ByteArray → List (Int × Int) → Bool) (e : Ex) (res : CR) (hres : chkE may e 1 0 0 = res) (hW : CR.okB res = true → WayP e ∧ e.size ≤ 100000) (x : EV) (Q : Nat → Prop) (l : List Kd) (a : Option Addr) (ca : Nat) (A : Nat → Addr) (w : World) (hl : l.length ≤ 1000000000) (hx : ExIs w Q e x) (hA : AllM may e) (hE : E3 w A) (ha : KA w w.heap.size a l) :
    Calls Tryd.prog 11 #[x.v, .slice a l.length ca] w fun r w' => MatchC res e l r ∧ Below w.heap.size w w' := by
  obtain ⟨k5, t5, a5, m5, c5, b5, n5, d5, g5, l5, z5, rfl⟩ : ∃ k5 t5 a5 m5 c5 b5 n5 d5 g5 l5 z5, x = ⟨.int .i64 k5, .bool t5, .slice a5 m5 c5, .slice b5 n5 d5, .slice g5 l5 z5⟩ := by
    cases hx with
    | mk k nt N P L a ca b cb c cc vs => exact ⟨k, nt, a, _, ca, b, _, cb, c, _, cc, rfl⟩
  obtain ⟨w0, hw0, hb0, _, hxc⟩ := box1 w (.int .i64 k5) (.bool t5) (.slice a5 m5 c5) (.slice b5 n5 d5) (.slice g5 l5 z5)
  obtain ⟨x0, x1, x2, x3, x4⟩ := hxc w0 (Below.refl _ _)
  have HXC := hid0 hxc
  have hck := check_any may e _ Q A w0 (hx.past hb0) hA (hE.below hb0)
  rw [hres] at hck
  unfold EV.v at hck
  simp only at hck
  have HCk := hid0 hck
  have HM : Hid (∀ W, Below w0.heap.size w0 W → CR.okB res = true → Calls Tryd.prog 31 #[.agg #[.int .i64 k5, .bool t5, .slice a5 m5 c5, .slice b5 n5 d5, .slice g5 l5 z5], .slice a l.length ca] W fun r w' => MatchR e l r ∧ Below W.heap.size W w') := hid0 (fun W hWb hok => by
    obtain ⟨h1, h2⟩ := hW hok
    have hbw := Below.later hb0 hWb
    have hKA : KA W W.heap.size a l := ⟨fun i hi => by
      obtain ⟨b, off, e1, hb, h3, h4⟩ := (ha.below hbw).at' i hi
      exact ⟨b, off, e1, Nat.lt_of_lt_of_le hb hbw.size, h3, h4⟩⟩
    have hm := matches_any e h1 h2 ⟨.int .i64 k5, .bool t5, .slice a5 m5 c5, .slice b5 n5 d5, .slice g5 l5 z5⟩ Q l a ca W hl ((hx.past hb0).past hWb) hKA
    unfold EV.v at hm
    simp only at hm
    exact hm)
  have HB0 := hid0 hb0
  have hf := hw0.symm
  unfold EV.v
  clear hx hA hE ha hw0 hb0 hxc hck hW hres
  cases res with
  | bad f =>
    unfold errC at HCk
    clear HM
    go_enter Tryd.func11, Tryd.ntmps11
    go_wp2_with (go_at_call 10; refine HCk.out.mono ?_; rintro r w1 ⟨rfl, hb1⟩; have HB1 := hid0 hb1; clear hb1)
    go_ret
    exact ⟨⟨false, rfl, by simp [CR.okB]⟩, Below.later HB0.out HB1.out⟩
  | ok n s =>
    unfold errC at HCk
    have HM2 := hid0 (fun W hW => HM.out W hW rfl)
    clear HM
    go_enter Tryd.func11, Tryd.ntmps11
    go_wp2_with (first
      | (go_at_call 10; refine HCk.out.mono ?_; rintro r w1 ⟨rfl, hb1⟩; obtain ⟨y0, y1, y2, y3, y4⟩ := HXC.out w1 hb1; have HB1 := hid0 hb1; clear hb1)
      | (go_at_call 31; refine (HM2.out w1 HB1.out).mono ?_; rintro r w2 ⟨⟨bb, rfl, hbb⟩, hb2⟩; have HB2 := hid0 (Below.later HB1.out hb2); have HBB := hid0 hbb; clear hb2 hbb)
      | fail)
    go_ret
    exact ⟨⟨bb, rfl, by rw [HBB.out]; simp [CR.okB]⟩, Below.later HB0.out HB2.out⟩
end Go.Proofs.YtiapefdklojhdaaDoor
namespace Go.Proofs.YtiapefdklojhdaaDoor
open Go.RowKit Go.Shelf
theorem rise_pts {P : List (Int × Int)} (h : ptsF P = true) : RiseP P := by
  obtain ⟨h1, h2⟩ := ptsGo_ok P 0 h
  exact ⟨h1, h2⟩
theorem len_le_sizes (L : List Ex) : L.length ≤ Ex.size.sizes L := by
  induction L with
  | nil => exact Nat.zero_le _
  | cons e L ih =>
    rw [sizes_cons, List.length_cons]
    cases e with
    | mk k nt N P M => rw [Ex.size_mk]; omega
mutual
theorem chk_good : ∀ (e : Ex) (d n s n' s' : Nat), chkE mayF e d n s = .ok n' s' → Good e ∧ n' = n + e.size ∧ n' ≤ 4000 := fun e d n s n' s' h => by
  match e with
  | .mk k nt N P L =>
    simp only [chkE] at h
    split at h
    · rename_i hc
      split at h
      · rename_i hw
        split at h
        · obtain ⟨h1, h2, h3⟩ := chk_goodL L (d + 1) (n + 1) _ n' s' hc.1 h
          have hls := len_le_sizes L
          refine ⟨?_, by rw [h2, Ex.size_mk]; omega, h3⟩
          unfold wholeF at hw
          split at hw
          · rename_i hk; subst hk; exact .none nt N P L
          · split at hw
            · rename_i hk
              subst hk
              simp only [Bool.and_eq_true] at hw
              have hm := hw.2
              unfold mayF at hm
              simp only [Bool.and_eq_true] at hm
              exact .set nt N P L (namesC_rise N (nms_rise hm.1) (by omega)) (rise_pts hm.2)
            · split at hw
              · rename_i hk
                rcases hk with rfl | rfl
                · exact .seq nt N P L (by omega) h1
                · exact .alt nt N P L (by omega) h1
              · split at hw
                · rename_i hk
                  simp only [Bool.and_eq_true, beq_iff_eq] at hw
                  obtain ⟨x, rfl⟩ : ∃ x, L = [x] := by
                    match L, hw.1 with
                    | [x], _ => exact ⟨x, rfl⟩
                  rcases hk with rfl | rfl | rfl
                  · exact .star nt N P x (h1 x (by simp))
                  · exact .plus nt N P x (h1 x (by simp))
                  · exact .opt nt N P x (h1 x (by simp))
                · cases hw
        · cases h
      · cases h
    · cases h
theorem chk_goodL : ∀ (L : List Ex) (d n s n' s' : Nat), n ≤ 4000 → chkL mayF L d n s = .ok n' s' → (∀ e, e ∈ L → Good e) ∧ n' = n + Ex.size.sizes L ∧ n' ≤ 4000 := fun L d n s n' s' hn h => by
  match L with
  | [] =>
    simp only [chkL] at h
    cases h
    exact ⟨fun e he => (by cases he), rfl, hn⟩
  | e :: L =>
    simp only [chkL] at h
    cases hp : chkE mayF e d n s with
    | bad f => rw [hp] at h; cases h
    | ok n1 s1 =>
      rw [hp] at h
      obtain ⟨h1, h2, h3⟩ := chk_good e d n s n1 s1 hp
      obtain ⟨h4, h5, h6⟩ := chk_goodL L d n1 s1 n' s' h3 h
      refine ⟨fun x hx => ?_, by rw [h5, h2, sizes_cons]; omega, h6⟩
      rcases List.mem_cons.1 hx with rfl | hx
      · exact h1
      · exact h4 x hx
end
theorem allM_of {w : World} {Q : Nat → Prop} {e : Ex} {x : EV} (h : ExIs w Q e x) : AllM mayF e := by
  induction h with
  | mk k nt N P L a ca b cb c cc vs hN hP lN lP lL hL hR ih =>
    exact .mk k nt N P L (mayC_any N P lN) (fun e he => by
      obtain ⟨i, hi, rfl⟩ := List.getElem_of_mem he
      exact ih i hi)
/-- What Check answers of any expression. -/
def okE (e : Ex) : Bool := CR.okB (chkE mayF e 1 0 0)
theorem okE_good {e : Ex} (h : okE e = true) : Good e ∧ e.size ≤ 4000 := by
  unfold okE at h
  cases hp : chkE mayF e 1 0 0 with
  | bad f => rw [hp] at h; cases h
  | ok n s =>
    obtain ⟨h1, h2, h3⟩ := chk_good e 1 0 0 n s hp
    exact ⟨h1, by omega⟩
open Classical in
/-- Match at every expression and every word. -/
theorem match_full (e : Ex) (x : EV) (Q : Nat → Prop) (l : List Kd) (a : Option Addr) (ca : Nat) (A : Nat → Addr) (w : World) (hl : l.length ≤ 1000000000) (hx : ExIs w Q e x) (hE : E3 w A) (ha : KA w w.heap.size a l) :
    Calls Tryd.prog 11 #[x.v, .slice a l.length ca] w fun r w' => r = .returned (.bool (okE e && decide (Mt e l))) ∧ Below w.heap.size w w' := by
  have h := match_any mayF e _ rfl (fun h => ⟨way_good (okE_good h).1, by have := (okE_good h).2; omega⟩) x Q l a ca A w hl hx (allM_of hx) hE ha
  refine h.mono ?_
  rintro r w' ⟨⟨b, rfl, hb⟩, hw⟩
  refine ⟨?_, hw⟩
  have : b = (okE e && decide (Mt e l)) := by
    rw [Bool.eq_iff_iff, hb, Bool.and_eq_true, decide_eq_true_eq]
    exact Iff.rfl
  rw [this]
end Go.Proofs.YtiapefdklojhdaaDoor
