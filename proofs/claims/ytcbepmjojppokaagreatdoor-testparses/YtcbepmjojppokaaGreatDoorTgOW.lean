/-
  The states of a reader: testfile.reader.point.
-/
import Derived.Test.YtcbepmjojppokaaGreatDoorTgNW
namespace Go.Proofs.YtcbepmjojppokaaGreatDoor
open Go.RowKit Go.Shelf
/-- Does a word say a point? -/
def wOk (l : By) : Bool := decide (4 ≤ l.length) && decide (l.length ≤ 6) && l.all isHx
/-- What point leaves. -/
def PointO (w0 : World) (num : Int) (s : By) (nx : Value) (E : Addr) (LP LB : List Int) (e : Ending) (w' : World) : Prop :=
  if wOk (nextW s) = true then
    e = .returned (.tuple #[markV, .nilIface]) ∧ ∃ vP vB, RSt w0 w' num (restW s) nx (LP ++ [(hexN (nextW s) : Int)]) LB vP vB
  else e = .returned (.tuple #[.nilFunc, flt num E]) ∧ ∃ vP vB, RSt w0 w' num (restW s) nx LP LB vP vB
set_option maxRecDepth 10000 in
set_option maxHeartbeats 1600000 in
theorem point_any (w0 V : World) (num : Int) (s : By) (nx : Value) (E : Addr) (LP LB : List Int) (vP vB : Value) (h : RSt w0 V num s nx LP LB vP vB) (hs : s.length ≤ 4194400) (hlP : LP.length ≤ 4194400) (hE : w0.cell? ⟨2, 0, none⟩ = some (.iface 189 (.pointer (some E)))) (hSy : Syn w0) :
    Calls Tryz.prog 71 #[.pointer (some ⟨w0.heap.size, 0, none⟩)] V fun e w' => Hid (PointO w0 num s nx E LP LB e w') := by
  have HW : Hid (Calls Tryz.prog 70 #[.pointer (some ⟨w0.heap.size, 0, none⟩)] V fun e w' => e = .returned (.string (rd (nextW s))) ∧ Hid (RSt w0 w' num (restW s) nx LP LB vP vB)) := hid0 (by
    refine (word_any w0.heap.size num s nx vP vB hs V h.at').mono ?_
    rintro e w1 ⟨rfl, h1⟩
    obtain ⟨_, W, hW, rfl⟩ := h1.out
    exact ⟨rfl, hid0 ((h.past hW).set rfl)⟩)
  have HEr : Hid (∀ W nx' s' LP' LB' vP' vB', RSt w0 W num s' nx' LP' LB' vP' vB' → W.cell? ⟨2, 0, none⟩ = some (.iface 189 (.pointer (some E)))) := hid0 (fun W _ _ _ _ _ _ hW => (hW.bel.cell (World.block_lt_of_cell? w0 _ hE)).trans hE)
  have HSy : Hid (∀ W nx' s' LP' LB' vP' vB', RSt w0 W num s' nx' LP' LB' vP' vB' → Syn W) := hid0 (fun W _ _ _ _ _ _ hW => hSy.below hW.bel)
  have HF : Hid (∀ W vP' vB', RSt w0 W num (restW s) nx LP LB vP' vB' → Calls Tryz.prog 28 #[.pointer (some ⟨w0.heap.size, 0, none⟩), .iface 189 (.pointer (some E))] W fun e w' => e = .returned (flt num E) ∧ w' = W) := hid0 (fun W vP' vB' hW => fault_any w0.heap.size num _ nx vP' vB' E W hW.at')
  have HN : Hid (wOk (nextW s) = false → ∀ W vP' vB', RSt w0 W num (restW s) nx LP LB vP' vB' → PointO w0 num s nx E LP LB (.returned (.tuple #[.nilFunc, flt num E])) W) := hid0 (fun hw W vP' vB' hW => by
    unfold PointO
    rw [hw, if_neg (by simp)]
    exact ⟨rfl, vP', vB', hW⟩)
  have HY : Hid (wOk (nextW s) = true → ∀ W vP' vB', RSt w0 W num (restW s) nx (LP ++ [(hexN (nextW s) : Int)]) LB vP' vB' → PointO w0 num s nx E LP LB (.returned (.tuple #[markV, .nilIface])) W) := hid0 (fun hw W vP' vB' hW => by
    unfold PointO
    rw [hw, if_pos rfl]
    exact ⟨rfl, vP', vB', hW⟩)
  have hz : (rd (nextW s)).size = (nextW s).length := rd_size _
  clear h hE hSy
  by_cases h4 : (nextW s).length < 4 ∨ 6 < (nextW s).length
  · have hw : wOk (nextW s) = false := by
      unfold wOk
      rcases h4 with h | h
      · rw [decide_eq_false (by omega : ¬ 4 ≤ (nextW s).length)]; rfl
      · rw [decide_eq_false (by omega : ¬ (nextW s).length ≤ 6)]; simp
    have HO := hid0 (HN.out hw)
    clear HN HY hw HSy
    generalize (nextW s).length = n at *
    generalize rd (nextW s) = S2 at *
    generalize flt num E = F at *
    by_cases h3 : n < 4
    · have g1 : (S2.size : Int) < 4 := by omega
      clear h4
      go_enter Tryz.func71, Tryz.ntmps71
      go_wp2_with (first
        | (go_at_call 70; refine HW.out.mono ?_; rintro e x1 ⟨rfl, hx1⟩; have HX := hid0 hx1.out; clear hx1; have k1 := HEr.out _ _ _ _ _ _ _ HX.out)
        | (go_at_call 28; refine (HF.out _ _ _ HX.out).mono ?_; rintro e x2 ⟨rfl, rfl⟩)
        | fail)
      go_ret2
      exact hid0 (HO.out _ _ _ HX.out)
    · have g1 : ¬ (S2.size : Int) < 4 := by omega
      have g2 : (S2.size : Int) > 6 := by omega
      clear h4
      go_enter Tryz.func71, Tryz.ntmps71
      go_wp2_with (first
        | (go_at_call 70; refine HW.out.mono ?_; rintro e x1 ⟨rfl, hx1⟩; have HX := hid0 hx1.out; clear hx1; have k1 := HEr.out _ _ _ _ _ _ _ HX.out)
        | (go_at_call 28; refine (HF.out _ _ _ HX.out).mono ?_; rintro e x2 ⟨rfl, rfl⟩)
        | fail)
      go_ret2
      exact hid0 (HO.out _ _ _ HX.out)
  · have g1 : ¬ ((rd (nextW s)).size : Int) < 4 := by omega
    have g2 : ¬ ((rd (nextW s)).size : Int) > 6 := by omega
    cases hx : (nextW s).all isHx with
    | false =>
      have HO := hid0 (HN.out (by unfold wOk; rw [hx]; simp))
      have HP : Hid (∀ W, Syn W → Calls Tryz.prog 88 #[.string (rd (nextW s)), .int .i64 16, .int .i64 64] W fun e w' => (∃ ty p, e = .returned (.tuple #[.int .u64 0, .iface ty p])) ∧ Below W.heap.size W w') := hid0 (fun W hS => pubUint_bad (rd (nextW s)) (by omega) (fun ⟨_, h⟩ => by
        have : (nextW s).all isHx = true := List.all_eq_true.2 h
        rw [hx] at this; cases this) W hS)
      clear HN HY hx h4 hz
      generalize rd (nextW s) = S2 at *
      generalize flt num E = F at *
      go_enter Tryz.func71, Tryz.ntmps71
      go_wp2_with (first
        | (go_at_call 70; refine HW.out.mono ?_; rintro e x1 ⟨rfl, hx1⟩; have HX := hid0 hx1.out; clear hx1)
        | (go_at_call 88; refine (HP.out _ (HSy.out _ _ _ _ _ _ _ HX.out)).mono ?_; rintro e x2 ⟨⟨ty, p, rfl⟩, h2⟩; have HX2 := hid0 (HX.out.past h2); clear h2; have k1 := HEr.out _ _ _ _ _ _ _ HX2.out)
        | (go_at_call 28; refine (HF.out _ _ _ HX2.out).mono ?_; rintro e x3 ⟨rfl, rfl⟩)
        | fail)
      go_ret2
      exact hid0 (HO.out _ _ _ HX2.out)
    | true =>
      have HO := hid0 (HY.out (by unfold wOk; rw [hx, decide_eq_true (by omega : 4 ≤ (nextW s).length), decide_eq_true (by omega : (nextW s).length ≤ 6)]; rfl))
      have hlt : hexN (nextW s) < 16777216 := by
        have h1 := hexN_lt (nextW s) (fun c hc => List.all_eq_true.1 hx c hc)
        have h2 : 16 ^ (nextW s).length ≤ 16 ^ 6 := Nat.pow_le_pow_right (by omega) (by omega)
        omega
      have HP : Hid (∀ W, Calls Tryz.prog 88 #[.string (rd (nextW s)), .int .i64 16, .int .i64 64] W fun e w' => e = .returned (.tuple #[.int .u64 (hexN (nextW s) : Int), .nilIface]) ∧ Below W.heap.size W w') := hid0 (fun W => pubUint_ok (rd (nextW s)) (by omega) (by omega) (fun c hc => List.all_eq_true.1 hx c hc) W)
      clear HN HY hx h4 hz HF HEr HSy
      generalize rd (nextW s) = S2 at *
      generalize hexN (nextW s) = v at *
      have hwr : IntKind.i64.wrap (v : Int) = (v : Int) := wrap_small _ (by omega) (by omega)
      go_enter Tryz.func71, Tryz.ntmps71
      go_wp2_with (first
        | (go_at_call 70; refine HW.out.mono ?_; rintro e x1 ⟨rfl, hx1⟩; have HX := hid0 hx1.out; clear hx1)
        | (go_at_call 88; refine (HP.out _).mono ?_; rintro e x2 ⟨rfl, h2⟩; have HX2 := hid0 (HX.out.past h2); clear h2; obtain ⟨b0, b1, b2, b3, b4, bf⟩ := HX2.out.boxc; have bf3 := bf 3
           have hbA : Below x2.heap.size x2 (x2.alloc (.cells #[.int .i64 (v : Int)] 3)) := (Below.refl _ _).alloc (Nat.le_refl _) _
           obtain ⟨v6, w6, hr6, ho6, hg6, hat6⟩ := run_app_own (W := x2.alloc (.cells #[.int .i64 (v : Int)] 3)) w0.heap.size vP LP (own_blk HX2.out.rp (fun k hk => hbA.block k (World.ownsRow.lt HX2.out.rp k hk).2)) ⟨x2.heap.size, 0, none⟩ 1 [(v : Int)] one_cell (by show LP.length + 1 ≤ _; omega) (Nat.le_trans HX2.out.bel.size hbA.size)
           obtain ⟨q1, q2, q3, q4⟩ := HX2.out.grow hbA ho6 hg6 hat6
           have z0 : w6.cell? ⟨w0.heap.size, 3, none⟩ = some vP := by rw [cell_of_row _ _ _ _ _ _ q1]; rfl
           have z1 : w6.frozen? ⟨w0.heap.size, 3, none⟩ = false := frozen_of_row _ _ _ _ _ q1
           obtain ⟨a6, c6, rfl⟩ := own_slC ho6
           have HS6 := hid0 (HO.out _ _ _ (RSt.putP q1 ho6 q2 q3 q4))
           clear ho6 hg6 hat6 q1 q2 q3 q4 hbA bf HX HX2
           generalize (LP ++ [(v : Int)]).length = n6 at *)
        | (at_builtin; refine wpList_run rfl _ _ 48 rfl _ _ rfl rfl hr6 ?_; clear hr6)
        | fail)
      go_ret2
      exact HS6
end Go.Proofs.YtcbepmjojppokaaGreatDoor
