/-
  The walk of caesuraref5's same.
-/
import Derived.Test.YtpimameogmkpcaaDoorPbRCW
import Derived.Laws.StructEq
import Derived.Deep.RegionHeld3
import Derived.Shelf.SlicesE.Kit
namespace Go.Proofs.YtpimameogmkpcaaDoor
open Go.RowKit Go.Shelf
theorem eqQ : Go.Proofs.EqlAt Tryd.prog 88 (fun x : Int × Int => .agg #[.int .i64 x.1, .int .i64 x.2]) (fun x y => x.1 == y.1 && x.2 == y.2) := by
  refine ⟨fun x y w => ?_, GuardAt.agg _ (by kernel_rfl)⟩
  have u3 := Tryd.underlying3
  have a3 := Tryd.isAgg3
  have z3 := Tryd.sizeOf3
  have hS : Tryd.prog.underlying 88 = some (.struct (Tryd.prog.fieldsOf 88)) := by kernel_rfl
  have hp : Tryd.prog.stoodInHeld 88 = false := by kernel_rfl
  rw [run_eql_struct, show (10000 : Nat) = 9999 + 1 from rfl, run_equalIn_agg w 9999 88 _ _ hS hp]
  simp only [Program.fieldsOf, Tryd.underlying88]
  go_simp
  by_cases h1 : x.fst = y.fst <;> by_cases h2 : x.snd = y.snd <;> simp [h1, h2]
/-- Pieces in memory. -/
structure QA (w : World) (a : Option Addr) (l : List Pc) : Prop where
  at' : ∀ k (h : k < l.length), ∃ b off, a = some ⟨b, off, none⟩ ∧ b < w.heap.size ∧ w.cell? ⟨b, off + k * 2, none⟩ = some (.int .i64 l[k].1) ∧ w.cell? ⟨b, off + k * 2 + 1, none⟩ = some (.int .i64 l[k].2)
theorem QA.below {w w' : World} {a : Option Addr} {l : List Pc} (h : QA w a l) (hb : Below w.heap.size w w') : QA w' a l := ⟨fun k hk => by
  obtain ⟨b, off, rfl, hlt, h0, h1⟩ := h.at' k hk
  exact ⟨b, off, rfl, Nat.lt_of_lt_of_le hlt hb.size, (hb.cell (p := ⟨b, off + k * 2, none⟩) hlt).trans h0, (hb.cell (p := ⟨b, off + k * 2 + 1, none⟩) hlt).trans h1⟩⟩
theorem OwnQ.qa {w : World} {base : Nat} {v : Value} {l : List Pc} (h : OwnQ w base v l) : ∃ a cap, v = .slice a l.length cap ∧ QA w a l := by
  have h0 := h
  rcases h.2 with ⟨rfl, hn⟩ | ⟨g, cap, cur, rfl, hg, hr, hc, _⟩
  · exact ⟨none, 0, by rw [hn], ⟨fun k hk => by omega⟩⟩
  · refine ⟨_, cap, rfl, ⟨fun k hk => ⟨g, 0, rfl, (World.ownsRow.lt h0 g rfl).2, ?_, ?_⟩⟩⟩
    · rw [Nat.zero_add, World.ownsRow.cellAt h0 (k * 2) (by omega)]; exact (cellsQ_at l k hk).1
    · rw [Nat.zero_add, World.ownsRow.cellAt h0 (k * 2 + 1) (by omega)]; exact (cellsQ_at l k hk).2
set_option maxRecDepth 10000 in
set_option maxHeartbeats 1600000 in
theorem sameQ_any (w : World) (l m : List Pc) (a b : Option Addr) (ca cb : Nat) (hl : l.length ≤ 1000000) (ha : QA w a l) (hb : QA w b m) :
    Calls Tryd.prog 39 #[.slice a l.length ca, .slice b m.length cb] w fun e w' => e = .returned (.bool (decide (l = m))) ∧ Below w.heap.size w w' := by
  have HA := hid0 ha
  have HB := hid0 hb
  clear ha hb
  by_cases hlm : l.length = m.length
  · have hI : ((l.length : Int) == (m.length : Int)) = true := by simp [hlm]
    have hI2 : ((l.length : Int) != (m.length : Int)) = false := by simp [hlm]
    go_enter Tryd.func39, Tryd.ntmps39
    go_wp2
    go_loopw [5] (fun i wr => ∃ k : Nat, k ≤ l.length ∧ i = .int .i64 (k : Int) ∧ Hid (∀ j (h1 : j < l.length) (h2 : j < m.length), j < k → l[j] = m[j]) ∧ Hid (Below w.heap.size w wr)) (fun i _ => l.length - (intOf i).toNat)
    case atStart => exact ⟨0, Nat.zero_le _, rfl, hid0 (fun j _ _ hj => absurd hj (Nat.not_lt_zero _)), hid0 (Below.refl _ _)⟩
    case round =>
      obtain ⟨k, hk, rfl, HK, HW⟩ := hrel
      by_cases hlt : k < l.length
      · have hlt2 : k < m.length := by omega
        obtain ⟨g1, o1, rfl, hg1, c0, c1⟩ := (HA.out.below HW.out).at' k hlt
        obtain ⟨g2, o2, rfl, hg2, e0, e1⟩ := (HB.out.below HW.out).at' k hlt2
        have hkI : (k : Int) < (l.length : Int) := by omega
        have hkM : (k : Int) < (m.length : Int) := by omega
        have hkI0 : (0 : Int) ≤ (k : Int) := by omega
        have heq := eqQ.1 l[k] m[k]
        have hgu := fun op a b => eqQ.2 op a b l[k] m[k]
        have HNX : Hid (l[k] = m[k] → ∀ j (h1 : j < l.length) (h2 : j < m.length), j < k + 1 → l[j] = m[j]) := hid0 (fun he j h1 h2 hj => by
          by_cases ej : j = k
          · subst ej; exact he
          · exact HK.out j h1 h2 (by omega))
        have HNE : Hid (l[k] ≠ m[k] → decide (l = m) = false) := hid0 (fun hne => by
          rw [decide_eq_false_iff_not]; intro e; subst e; exact hne rfl)
        clear HK hI hI2
        generalize l[k] = x at *
        generalize m[k] = y at *
        obtain ⟨x0, x1⟩ := x
        obtain ⟨y0, y1⟩ := y
        simp only at c0 c1 e0 e1 heq hgu
        by_cases hxy : x0 = y0 ∧ x1 = y1
        · obtain ⟨rfl, rfl⟩ := hxy
          have HN := hid0 (HNX.out rfl)
          simp only [BEq.rfl, Bool.and_self] at heq
          clear HNX HNE
          go_wp2
          go_region_held3 (fun W => W.cell? ⟨g1, o1 + k * 2, none⟩ = some (.int .i64 x0) ∧ W.cell? ⟨g1, o1 + k * 2 + 1, none⟩ = some (.int .i64 x1) ∧ W.cell? ⟨g2, o2 + k * 2, none⟩ = some (.int .i64 x0) ∧ W.cell? ⟨g2, o2 + k * 2 + 1, none⟩ = some (.int .i64 x1)) (go_keep) (fail)
          go_wp2
          go_roundw
          case rel => exact ⟨k + 1, by omega, by go_num, HN, hid0 HW.out.drew⟩
          case measure => simp [intOf]; omega
        · have HV := hid0 (HNE.out (by intro e; cases e; exact hxy ⟨rfl, rfl⟩))
          by_cases h0 : x0 = y0
          · subst h0
            have h1 : ¬ x1 = y1 := fun e => hxy ⟨rfl, e⟩
            have hb1 : (x1 == y1) = false := by simpa using h1
            simp only [BEq.rfl, Bool.true_and, hb1] at heq
            clear HNX HNE hxy
            go_wp2
            go_region_held3 (fun W => W.cell? ⟨g1, o1 + k * 2, none⟩ = some (.int .i64 x0) ∧ W.cell? ⟨g1, o1 + k * 2 + 1, none⟩ = some (.int .i64 x1) ∧ W.cell? ⟨g2, o2 + k * 2, none⟩ = some (.int .i64 x0) ∧ W.cell? ⟨g2, o2 + k * 2 + 1, none⟩ = some (.int .i64 y1)) (go_keep) (fail)
            go_wp2
            go_ret
            exact ⟨by rw [HV.out]; rfl, HW.out.drew⟩
          · have hb1 : (x0 == y0) = false := by simpa using h0
            simp only [hb1, Bool.false_and] at heq
            clear HNX HNE hxy
            go_wp2
            go_region_held3 (fun W => W.cell? ⟨g1, o1 + k * 2, none⟩ = some (.int .i64 x0) ∧ W.cell? ⟨g1, o1 + k * 2 + 1, none⟩ = some (.int .i64 x1) ∧ W.cell? ⟨g2, o2 + k * 2, none⟩ = some (.int .i64 y0) ∧ W.cell? ⟨g2, o2 + k * 2 + 1, none⟩ = some (.int .i64 y1)) (go_keep) (fail)
            go_wp2
            go_ret
            exact ⟨by rw [HV.out]; rfl, HW.out.drew⟩
      · have hkI : ¬ (k : Int) < (l.length : Int) := by omega
        have HV : Hid (decide (l = m) = true) := hid0 (by
          rw [decide_eq_true_eq]
          exact List.ext_getElem hlm (fun j h1 h2 => HK.out j h1 h2 (by omega)))
        go_wp2
        go_ret
        exact ⟨by rw [HV.out]; rfl, HW.out⟩
  · have hI : ((l.length : Int) == (m.length : Int)) = false := by simp; omega
    have hI2 : ((l.length : Int) != (m.length : Int)) = true := by simp; omega
    have HV : Hid (decide (l = m) = false) := hid0 (by rw [decide_eq_false_iff_not]; intro e; exact hlm (by rw [e]))
    go_enter Tryd.func39, Tryd.ntmps39
    go_wp2
    go_ret
    exact ⟨by rw [HV.out]; rfl, Below.refl _ _⟩
end Go.Proofs.YtpimameogmkpcaaDoor
