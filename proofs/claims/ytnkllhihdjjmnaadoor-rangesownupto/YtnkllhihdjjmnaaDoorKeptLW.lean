/-
  The walks of caesuralaw3.behind, kept.
-/
import Derived.Test.YtnkllhihdjjmnaaDoorRgW
import Derived.Laws.StructEq
import Derived.Deep.RegionHeld3
import Derived.Shelf.SlicesE.Kit
import Derived.Test.YtnkllhihdjjmnaaDoorWalkW
namespace Go.Proofs.YtnkllhihdjjmnaaDoor
open Go.RowKit
theorem eqR : Go.Proofs.EqlAt Tryd.prog 35 (fun x : Int × Int => .agg #[.int .i64 x.1, .int .i64 x.2]) (fun x y => x.1 == y.1 && x.2 == y.2) := by
  refine ⟨fun x y w => ?_, GuardAt.agg _ (by kernel_rfl)⟩
  have u3 := Tryd.underlying3
  have a3 := Tryd.isAgg3
  have z3 := Tryd.sizeOf3
  have hS : Tryd.prog.underlying 35 = some (.struct (Tryd.prog.fieldsOf 35)) := by kernel_rfl
  have hp : Tryd.prog.stoodInHeld 35 = false := by kernel_rfl
  rw [run_eql_struct, show (10000 : Nat) = 9999 + 1 from rfl, run_equalIn_agg w 9999 35 _ _ hS hp]
  simp only [Program.fieldsOf, Tryd.underlying35]
  go_simp
  by_cases h1 : x.fst = y.fst <;> by_cases h2 : x.snd = y.snd <;> simp [h1, h2]
set_option maxRecDepth 10000 in
theorem behind_any (w : World) : Calls Tryd.prog 22 #[] w fun e w' => e = .returned (.agg #[.int .i64 77, .int .i64 7]) ∧ w' = w.alloc (.cells #[.int .i64 77, .int .i64 7] 35) := by
  go_enter Tryd.func22, Tryd.ntmps22
  go_wp2
  go_returns
  exact ⟨rfl, rfl⟩
set_option maxRecDepth 10000 in
set_option maxHeartbeats 400000 in
theorem kept_any (l : List (Int × Int)) (g cap : Nat) (b : Option Addr) (cb : Nat) (hl : l.length ≤ 50000000) (hc : l.length + 1 ≤ cap) (w : World) (ha : RA w (some ⟨g, 0, none⟩) (l ++ [(77, 7)])) (hb : RA w b l) :
    Calls Tryd.prog 24 #[.slice (some ⟨g, 0, none⟩) (l.length + 1) cap, .slice b l.length cb] w fun e w' => e = .returned (.bool true) ∧ Below w.heap.size w w' := by
  have hfr : RA w (some ⟨g, 0, none⟩) l := ⟨fun k hk => by
    obtain ⟨b', o', he, h1, h2⟩ := ha.at' k (by simp; omega)
    rw [List.getElem_append_left hk] at h1 h2
    exact ⟨b', o', he, h1, h2⟩⟩
  obtain ⟨b', o', he, e0, e1⟩ := ha.at' l.length (by simp)
  simp only [Option.some.injEq, Addr.mk.injEq, and_true] at he
  obtain ⟨rfl, rfl⟩ := he
  simp only [List.getElem_append_right (Nat.le_refl _), Nat.sub_self, List.getElem_cons_zero, Nat.zero_add] at e0 e1
  have HS := hidE (fun W (hb' : Below w.heap.size w W) => sameR_eq l (some ⟨g, 0, none⟩) b cap cb W (by omega) (hfr.later hb') (hb.later hb'))
  have hci : (l.length : Int) + 1 ≤ (cap : Int) := by omega
  have heq := eqR.1 (77, 7) (77, 7)
  simp only [BEq.rfl, Bool.and_self] at heq
  have hgu := fun op a b => eqR.2 op a b (77, 7) (77, 7)
  simp only at hgu
  have HSo : Hid (∀ W, Below w.heap.size w W → W.cell? ⟨g, l.length * 2, none⟩ = some (.int .i64 77) ∧ W.cell? ⟨g, l.length * 2 + 1, none⟩ = some (.int .i64 7) ∧ Below w.heap.size w W) := fun W hW =>
    ⟨(hW.cell (p := ⟨g, l.length * 2, none⟩) (World.block_lt_of_cell? w _ e0)).trans e0, (hW.cell (p := ⟨g, l.length * 2 + 1, none⟩) (World.block_lt_of_cell? w _ e1)).trans e1, hW⟩
  clear ha hb hfr
  have hB0 := Below.refl w.heap.size w
  generalize l.length = n at *
  have hnn : ((n : Int) + 1 == (n : Int) + 1) = true := by simp
  have hwr : IntKind.i64.wrap ((n : Int) + 1) = (n : Int) + 1 := by simp [IntKind.wrap, IntKind.bits, IntKind.signed]; omega
  have z0 : (0 : Int) ≤ (n : Int) := by omega
  have z1 : (n : Int) ≤ (cap : Int) := by omega
  have z2 : (n : Int) < (n : Int) + 1 := by omega
  go_enter Tryd.func24, Tryd.ntmps24
  go_wp2
  go_region_held3 (fun W => W.cell? ⟨g, n * 2, none⟩ = some (.int .i64 77) ∧ W.cell? ⟨g, n * 2 + 1, none⟩ = some (.int .i64 7) ∧ Below w.heap.size w W) (first | exact HSo.out _ (by go_grown) | (go_split_ands; exact HSo.out _ (by go_grown)))
    (first
      | (go_at_call 16; go_split_ands; refine (HS.out _ (by go_grown)).mono ?_; rintro e w1 ⟨rfl, q, hw1⟩; have hb1 : Below w.heap.size w w1 := (by rw [hw1]; refine below_drewN ?_ _; go_grown); have hs1 := hb1.size; clear hw1)
      | (go_at_call 22; refine (behind_any _).mono ?_; rintro e w2 ⟨rfl, rfl⟩))
  all_goals
    go_wp2
    go_ret
    go_split_ands
    refine ⟨rfl, ?_⟩
    go_grown
end Go.Proofs.YtnkllhihdjjmnaaDoor
