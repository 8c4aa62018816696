/-
  The walk of expr.Holds.
-/
import Derived.Test.YtiebndgpbgiclaaEh1W
import Derived.Shelf.SlicesQ.IndexFunc
import Derived.Ground.SlgfProg
import Derived.Test.YtiebndgpbgiclaaShelfC
namespace Go.Proofs.Ytiebndgpbgiclaa
open Go.RowKit Go.Shelf
def encR (x : Int × Int) : List Value := [.int .i64 x.1, .int .i64 x.2]
theorem pred_holds (n : Int) (B : Nat) (w : World) (hB : B < w.heap.size) (hcell : w.cell? ⟨B, 1, none⟩ = some (.int .i64 n)) :
    PredBelow Try.prog 10 #[.pointer (some ⟨B, 0, none⟩)] (fun x => .agg (encR x).toArray) (fun x => decide (x.1 ≤ n) && decide (n ≤ x.2)) w := fun W x hb => by
  have hc : W.cell? ⟨B, 1, none⟩ = some (.int .i64 n) := (hb.cell (p := ⟨B, 1, none⟩) hB).trans hcell
  have hBW : B < W.heap.size := Nat.lt_of_lt_of_le hB hb.size
  have hne : B ≠ W.heap.size := by omega
  obtain ⟨lo, hi⟩ := x
  show Calls Try.prog 10 #[.agg #[.int .i64 lo, .int .i64 hi], .pointer (some ⟨B, 0, none⟩)] W _
  by_cases h1 : lo ≤ n
  · by_cases h2 : n ≤ hi
    · go_enter Try.func10, Try.ntmps10
      go_wp2
      go_ret
      exact ⟨by simp [h1, h2], hb.alloc hb.size _⟩
    · go_enter Try.func10, Try.ntmps10
      go_wp2
      go_ret
      exact ⟨by simp [h2], hb.alloc hb.size _⟩
  · go_enter Try.func10, Try.ntmps10
    go_wp2
    go_ret
    exact ⟨by simp; omega, hb.alloc hb.size _⟩
set_option maxRecDepth 10000 in
theorem within_nil (b : Option Addr) (cb : Nat) (f : Value) (w : World) : Calls Try.prog 12 #[.slice b 0 cb, f] w fun e w' => e = .returned (.bool false) ∧ w' = w := by
  go_enter Try.func12, Try.ntmps12
  go_wp2
  go_rounds 1
  go_ret
  exact ⟨rfl, rfl⟩
set_option maxRecDepth 10000 in
set_option maxHeartbeats 800000 in
/-- ContainsFunc of the ranges by the set's closure, the kind lying in the block B. -/
theorem within_any (R : List (Int × Int)) (b : Option Addr) (cb : Nat) (p : Int) (B : Nat) (w : World) (hr : R.length ≤ 8796093022208) (hb : RA w b R) (hB : B < w.heap.size) (hcell : w.cell? ⟨B, 1, none⟩ = some (.int .i64 p)) :
    Calls Try.prog 12 #[.slice b R.length cb, .func (.func 10) #[] #[.pointer (some ⟨B, 0, none⟩)]] w fun e w' => e = .returned (.bool (ptF R p)) ∧ Below w.heap.size w w' := by
  cases R with
  | nil => exact (within_nil b cb _ w).mono (fun e w' h => ⟨h.1, by rw [h.2]; exact Below.refl _ _⟩)
  | cons r l =>
    obtain ⟨g, off, rfl, _, _⟩ := hb.at' 0 (by simp)
    have hbl : g < w.heap.size := by
      obtain ⟨b', off', he, h1, _⟩ := hb.at' 0 (by simp)
      cases he
      exact World.block_lt_of_cell? w _ h1
    have eg : ∀ args w, (callFunc 10 args).run Try.prog w = .ok (.enter 10 args) w := enters_of Try.func10 (by kernel_rfl) rfl
    have hcon := AnyQ.slices_ContainsFunc Try.containsR 2 Try.isAgg37 Try.sizeOf37 encR (fun _ => rfl) (fun x => decide (x.1 ≤ p) && decide (p ≤ x.2)) 10 #[.pointer (some ⟨B, 0, none⟩)] eg g off (r :: l).length cb (r :: l) w
      (pred_holds p B _ hB hcell) (Nat.le_refl _) (by omega) hbl (fun j hj i v hi => by
        obtain ⟨b', off', he, h0, h1⟩ := hb.at' j hj
        simp only [Option.some.injEq, Addr.mk.injEq, and_true] at he
        obtain ⟨rfl, rfl⟩ := he
        have e : (r :: l)[j]! = (r :: l)[j] := getElem!_pos _ j hj
        rw [e] at hi
        match i, hi with
        | 0, hi => simp only [encR, List.getElem?_cons_zero, Option.some.injEq] at hi; rw [← hi]; exact h0
        | 1, hi => simp only [encR, List.getElem?_cons_succ, List.getElem?_cons_zero, Option.some.injEq] at hi; rw [← hi]; exact h1
        | i + 2, hi => simp [encR] at hi)
    change Calls Try.prog 12 _ _ _ at hcon
    rw [List.take_length] at hcon
    exact hcon
set_option maxRecDepth 10000 in
set_option maxHeartbeats 1600000 in
theorem holds_any (nt : Bool) (L : List ByteArray) (R : List (Int × Int)) (a b : Option Addr) (ca cb : Nat) (c : ByteArray) (p : Int) (w : World) (hl : L.length ≤ 8796093022208) (hr : R.length ≤ 8796093022208) (ha : SA w a L) (hb : RA w b R) :
    Calls Try.prog 5 #[.agg #[.bool nt, .slice a L.length ca, .slice b R.length cb], .agg #[.string c, .int .i64 p]] w fun e w' => e = .returned (.bool (holdsF nt L R c p)) ∧ Below w.heap.size w w' := by
  obtain ⟨w0, hw0⟩ : ∃ w0, w0 = (w.alloc (.cells #[.bool nt, .slice a L.length ca, .slice b R.length cb] 25)).alloc (.cells #[.string c, .int .i64 p] 27) := ⟨_, rfl⟩
  have hs0 : w0.heap.size = w.heap.size + 2 := by rw [hw0]; simp
  have hB0 : Below w.heap.size w w0 := by rw [hw0]; exact ((Below.refl _ _).alloc (Nat.le_refl _) _).alloc (by simp) _
  have hX0 : w0.heap[w.heap.size]? = some (.cells #[.bool nt, .slice a L.length ca, .slice b R.length cb] 25 (0, 0)) := by
    rw [hw0]
    exact (Below.heap_alloc _ _ _ (by simp)).trans (heap_alloc_new w _)
  have hX1 : w0.heap[w.heap.size + 1]? = some (.cells #[.string c, .int .i64 p] 27 (0, 0)) := by
    rw [hw0]
    have h := heap_alloc_new (w.alloc (.cells #[.bool nt, .slice a L.length ca, .slice b R.length cb] 25)) (.cells #[.string c, .int .i64 p] 27)
    rw [show (w.alloc (.cells #[.bool nt, .slice a L.length ca, .slice b R.length cb] 25)).heap.size = w.heap.size + 1 by simp] at h
    exact h
  have x0 : w0.cell? ⟨w.heap.size, 0, none⟩ = some (.bool nt) := by rw [cell_of_row _ _ _ _ _ _ hX0]; rfl
  have x1 : w0.cell? ⟨w.heap.size, 1, none⟩ = some (.slice a L.length ca) := by rw [cell_of_row _ _ _ _ _ _ hX0]; rfl
  have x2 : w0.cell? ⟨w.heap.size, 2, none⟩ = some (.slice b R.length cb) := by rw [cell_of_row _ _ _ _ _ _ hX0]; rfl
  have x3 : w0.cell? ⟨w.heap.size + 1, 0, none⟩ = some (.string c) := by rw [cell_of_row _ _ _ _ _ _ hX1]; rfl
  have x4 : w0.cell? ⟨w.heap.size + 1, 1, none⟩ = some (.int .i64 p) := by rw [cell_of_row _ _ _ _ _ _ hX1]; rfl
  have HC := hid0 (contains_any L a ca c w0 hl (ha.below hB0))
  have HW : Hid (∀ W, Below w0.heap.size w0 W → Calls Try.prog 12 #[.slice b R.length cb, .func (.func 10) #[] #[.pointer (some ⟨w.heap.size + 1, 0, none⟩)]] W fun e w' => e = .returned (.bool (ptF R p)) ∧ Below w0.heap.size w0 w') := hid0 (fun W hW =>
    (within_any R b cb p (w.heap.size + 1) W hr ((hb.below hB0).below hW) (by have := hW.size; omega) ((hW.cell (p := ⟨w.heap.size + 1, 1, none⟩) (by simp; omega)).trans x4)).mono (fun e w' h => ⟨h.1, Below.later hW h.2⟩))
  have HB0 := hid0 hB0
  have HS0 := hid0 hs0
  have HF : Hid (holdsF nt L R c p = (nt != (nmF L c || (!(p == -1) && ptF R p)))) := hid0 rfl
  have HXs : Hid (∀ W, Below w0.heap.size w0 W → W.cell? ⟨w.heap.size, 0, none⟩ = some (.bool nt) ∧ W.cell? ⟨w.heap.size, 2, none⟩ = some (.slice b R.length cb) ∧ W.cell? ⟨w.heap.size + 1, 1, none⟩ = some (.int .i64 p) ∧ Below w0.heap.size w0 W) := hid0 (fun W hW =>
    ⟨(hW.cell (p := ⟨w.heap.size, 0, none⟩) (by simp; omega)).trans x0, (hW.cell (p := ⟨w.heap.size, 2, none⟩) (by simp; omega)).trans x2, (hW.cell (p := ⟨w.heap.size + 1, 1, none⟩) (by simp; omega)).trans x4, hW⟩)
  have hBr := Below.refl w0.heap.size w0
  have hfold := hw0.symm
  clear ha hb hw0 hX0 hX1 hB0 hs0
  generalize nmF L c = t at *
  generalize ptF R p = u at *
  have HD : Hid (∀ n, Below w.heap.size w (w0.drewN n)) := hid0 (fun n => ⟨HB0.out.os, HB0.out.tape, HB0.out.output, HB0.out.size, HB0.out.block⟩)
  cases t with
  | true =>
    cases nt
    all_goals
      go_enter Try.func5, Try.ntmps5
      go_wp2_with (go_at_call 11; refine HC.out.mono ?_; rintro e w1 ⟨rfl, hw1⟩; have hw1' := hw1.symm; subst hw1')
      go_quiet ((fail))
      go_wp2
      go_ret
      exact ⟨by rw [HF.out]; rfl, HD.out _⟩
  | false =>
    by_cases hp : p = -1
    · subst hp
      cases nt
      all_goals
        go_enter Try.func5, Try.ntmps5
        go_wp2_with (go_at_call 11; refine HC.out.mono ?_; rintro e w1 ⟨rfl, hw1⟩; have hw1' := hw1.symm; subst hw1')
        go_quiet ((fail))
        go_wp2
        go_ret
        exact ⟨by rw [HF.out]; rfl, HD.out _⟩
    · have hp' : (p != -1) = true := by simpa using hp
      have HP := hid0 hp
      have HQ : Hid ((nt != (false || (!(p == -1) && u))) = (nt != u)) := hid0 (by rw [show (p == -1) = false by simpa using hp]; simp)
      go_enter Try.func5, Try.ntmps5
      go_wp2_with (go_at_call 11; refine HC.out.mono ?_; rintro e w1 ⟨rfl, hw1⟩; have hw1' := hw1.symm; subst hw1')
      go_region_held3 (fun W => W.cell? ⟨w.heap.size, 0, none⟩ = some (.bool nt) ∧ W.cell? ⟨w.heap.size, 2, none⟩ = some (.slice b R.length cb) ∧ W.cell? ⟨w.heap.size + 1, 1, none⟩ = some (.int .i64 p) ∧ Below w0.heap.size w0 W) (first | exact HXs.out _ (by go_grown) | (go_split_ands; exact HXs.out _ (by go_grown)))
        (first | (go_at_call 12; go_split_ands; refine (HW.out _ (by go_grown)).mono ?_; rintro e w1 ⟨rfl, hb1⟩))
      all_goals
        go_wp2
        go_ret
        go_split_ands
        refine ⟨?_, Below.later HB0.out (by go_grown)⟩
        rw [HF.out, HQ.out]
        cases nt <;> cases u <;> rfl
end Go.Proofs.Ytiebndgpbgiclaa
