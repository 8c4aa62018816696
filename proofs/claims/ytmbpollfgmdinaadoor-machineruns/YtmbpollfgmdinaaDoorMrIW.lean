/-
  The walk of caesuralaw12's ran: Check and Run as the document has them, whatever is handed in.
-/
import Derived.Test.YtmbpollfgmdinaaDoorMrHW
namespace Go.Proofs.YtmbpollfgmdinaaDoor
open Go.RowKit Go.Shelf
theorem num_errC (A : Nat → Addr) (b : Bool) (w : World) (h : Sents w A) : Calls Tryd.prog 16 #[errC A b] w fun e w' => e = .returned (.int .i64 (numC b)) ∧ w' = w := by
  cases b with
  | true => exact kitNum_nil w
  | false => exact kitNum_at w A h 0 (by omega)
set_option maxRecDepth 10000 in
set_option maxHeartbeats 1600000 in
theorem ran_any (A : Nat → Addr) (st sy pa : Int) (N O : List (List Int)) (l : List Int) (aN aO aw : Option Addr) (cN cO cw : Nat) (w : World) (hN : N.length ≤ 17592186043904) (hNr : ∀ r ∈ N, r.length ≤ 17592186043904) (hOr : ∀ r ∈ O, r.length ≤ 17592186043904) (hl : l.length ≤ 17592186043904) (hpa : pa ≤ 9223372036854775807) (ha : RwA w aN N) (hb : RwA w aO O) (hc : IA w aw l) (he : Sents w A) :
    Calls Tryd.prog 6 #[.agg #[.int .i64 st, .slice aN N.length cN, .slice aO O.length cO], .int .i64 sy, .int .i64 pa, .slice aw l.length cw] w fun e w' => e = .returned (.bool true) ∧ Below w.heap.size w w' := by
  obtain ⟨w0, hw0⟩ : ∃ w0, w0 = w.alloc (.cells #[.int .i64 st, .slice aN N.length cN, .slice aO O.length cO] 24) := ⟨_, rfl⟩
  have hB0 : Below w.heap.size w w0 := by rw [hw0]; exact (Below.refl _ _).alloc (Nat.le_refl _) _
  have hX0 : w0.heap[w.heap.size]? = some (.cells #[.int .i64 st, .slice aN N.length cN, .slice aO O.length cO] 24 (0, 0)) := by rw [hw0]; exact heap_alloc_new w _
  have hs0 : w.heap.size < w0.heap.size := by rw [hw0]; simp
  have HB0 := hid0 hB0
  have x0 : w0.cell? ⟨w.heap.size, 0, none⟩ = some (.int .i64 st) := by rw [cell_of_row _ _ _ _ _ _ hX0]; rfl
  have x1 : w0.cell? ⟨w.heap.size, 1, none⟩ = some (.slice aN N.length cN) := by rw [cell_of_row _ _ _ _ _ _ hX0]; rfl
  have x2 : w0.cell? ⟨w.heap.size, 2, none⟩ = some (.slice aO O.length cO) := by rw [cell_of_row _ _ _ _ _ _ hX0]; rfl
  have HXX : Hid (∀ W, Below w0.heap.size w0 W → W.cell? ⟨w.heap.size, 0, none⟩ = some (.int .i64 st) ∧ W.cell? ⟨w.heap.size, 1, none⟩ = some (.slice aN N.length cN) ∧ W.cell? ⟨w.heap.size, 2, none⟩ = some (.slice aO O.length cO)) := hid0 (fun W hW => ⟨(hW.cell (p := ⟨w.heap.size, 0, none⟩) hs0).trans x0, (hW.cell (p := ⟨w.heap.size, 1, none⟩) hs0).trans x1, (hW.cell (p := ⟨w.heap.size, 2, none⟩) hs0).trans x2⟩)
  have H1 := hid0 (fun W (hW : Below w0.heap.size w0 W) => refCheck_any st sy pa N O aN aO cN cO W hN hNr hOr ((ha.past hB0).past hW) ((hb.past hB0).past hW))
  have H2 := hid0 (fun W (hW : Below w0.heap.size w0 W) => refRun_any st N l aN aO aw cN O.length cO cw W hNr hl ((ha.past hB0).past hW) ((hc.past hB0).past hW))
  have H3 := hid0 (fun W (hW : Below w0.heap.size w0 W) => check_any A st sy pa N O aN aO cN cO W hN hNr hOr hpa ((ha.past hB0).past hW) ((hb.past hB0).past hW) ((he.below hB0).below hW))
  have H4 := hid0 (fun W (hW : Below w0.heap.size w0 W) => run_any A st N l aN aO aw cN O.length cO cw W hNr hl ((ha.past hB0).past hW) ((hc.past hB0).past hW) ((he.below hB0).below hW))
  have H5 := hid0 (fun W (hW : Below w0.heap.size w0 W) (b : Bool) => num_errC A b W ((he.below hB0).below hW))
  have HLen : Hid (((runF N st l).getD []).length ≤ 17592186043905) := hid0 (by
    cases h : runF N st l with
    | none => simp
    | some r => have := runF_len h; simp only [Option.getD_some]; omega)
  clear ha hb hc he hB0 hX0 hN hNr hOr hl hpa hs0
  have hfold := hw0.symm
  clear hw0
  generalize chkF st N O sy pa = b1 at *
  generalize (runF N st l).isSome = b2 at *
  generalize (runF N st l).getD [] = L at *
  have q1 : (numC b1 == numC b1) = true := by simp
  have q2 : (numC b2 == numC b2) = true := by simp
  go_enter Tryd.func6, Tryd.ntmps6
  go_wp2_with (first
    | (go_at_call 14; refine (H1.out _ (Below.refl _ _)).mono ?_; rintro e w1 ⟨rfl, h⟩; have HB1 := hid0 h; clear h x0 x1 x2; obtain ⟨x0, x1, x2⟩ := HXX.out w1 HB1.out)
    | (go_at_call 7; refine (H2.out _ HB1.out).mono ?_; rintro e w2 ⟨v1, rfl, hv1, h⟩; have HV1 := hid0 hv1; have HB2 := hid0 (Below.later HB1.out h); clear h hv1 x0 x1 x2; obtain ⟨x0, x1, x2⟩ := HXX.out w2 HB2.out)
    | (go_at_call 15; refine (H3.out _ HB2.out).mono ?_; rintro e w3 ⟨rfl, h⟩; have HV3 := hid0 (HV1.out.past h); have HB3 := hid0 (Below.later HB2.out h); clear h x0 x1 x2; obtain ⟨x0, x1, x2⟩ := HXX.out w3 HB3.out)
    | (go_at_call 8; refine (H4.out _ HB3.out).mono ?_; rintro e w4 ⟨v2, rfl, hv2, h⟩; have HV4 := hid0 (HV3.out.past h); have HV2 := hid0 hv2; have HB4 := hid0 (Below.later HB3.out h); clear h hv2 x0 x1 x2)
    | (go_at_call 16; refine (H5.out _ HB4.out _).mono ?_; rintro e w5 ⟨rfl, hw5⟩; have hw5' := hw5.symm; subst hw5'; clear hw5)
    | (go_at_call 9; obtain ⟨a1, c1, rfl, i1⟩ := HV4.out.ia; obtain ⟨a2, c2, rfl, i2⟩ := HV2.out.ia; refine (sameI L a2 a1 c2 c1 _ (Nat.le_trans HLen.out (by decide)) i2 i1).mono ?_; rintro e w5 ⟨rfl, n5, hw5⟩; subst hw5)
    | fail)
  go_ret
  exact ⟨rfl, Below.later HB0.out (below_drew' HB4.out _)⟩
end Go.Proofs.YtmbpollfgmdinaaDoor
