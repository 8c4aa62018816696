/-
  The states of a reader: testfile.reader.fault, mark.
-/
import Derived.Test.YtcbepmjojppokaaGreatDoorTgMW
import Derived.Test.YtcbepmjojppokaaGreatDoorTgFW
import Derived.Deep.Slices
import Derived.Deep.CutRange
import Derived.Deep.RegionLaw
namespace Go.Proofs.YtcbepmjojppokaaGreatDoor
open Go.RowKit Go.Shelf
def errP (pe : Addr) : Value := .iface 189 (.pointer (some pe))
/-- A fault. -/
def flt (num : Int) (pe : Addr) : Value := .iface 42 (.agg #[.int .i64 num, .iface 189 (.pointer (some pe))])
set_option maxRecDepth 10000 in
theorem fault_any (R : Nat) (num : Int) (s : By) (nx vP vB : Value) (E : Addr) (w : World) (h : Rdr w R num s nx vP vB) :
    Calls Tryz.prog 28 #[.pointer (some ⟨R, 0, none⟩), .iface 189 (.pointer (some E))] w fun e w' => e = .returned (flt num E) ∧ w' = w := by
  have h2 : w.heap[R]? = some (.cells #[.int .i64 num, .string (rd s), nx, vP, vB] 62 (0, 0)) := h
  have k0 : w.cell? ⟨R, 0, none⟩ = some (.int .i64 num) := by rw [cell_of_row w R _ _ _ _ h2]; rfl
  clear h2 h
  go_enter Tryz.func28, Tryz.ntmps28
  go_wp2
  go_ret
  exact ⟨rfl, rfl⟩
def yesW : By := [195, 183]
def noW : By := [195, 151]
def pointV : Value := .func (.func 71) #[] #[]
def markV : Value := .func (.func 49) #[] #[]
theorem str_ne {S : ByteArray} (h : S.size ≠ 0) : (S.toList == []) = false := by
  rw [ByteArray.toList_eq]
  cases e : S.data.toList with
  | nil => exact absurd (by rw [← bsize0, e]; rfl) h
  | cons c r => rfl
theorem str_neq {l m : By} (h : ¬ l = m) : ((rd l).toList == m) = false := by
  rw [ByteArray.toList_eq]
  show (l == m) = false
  simpa using h
/-- What mark leaves. -/
def MarkO (w0 : World) (num : Int) (s : By) (nx : Value) (E : Addr) (LP LB : List Int) (e : Ending) (w' : World) : Prop :=
  if nextW s = yesW ∨ nextW s = noW then
    e = .returned (.tuple #[if restW s = [] then .nilFunc else pointV, .nilIface]) ∧ ∃ vP vB, RSt w0 w' num (restW s) nx LP (if nextW s = yesW then LB ++ [(LP.length : Int)] else LB) vP vB
  else e = .returned (.tuple #[.nilFunc, flt num E]) ∧ ∃ vP vB, RSt w0 w' num (restW s) nx LP LB vP vB
set_option maxRecDepth 10000 in
set_option maxHeartbeats 400000 in
theorem mark_any (w0 V : World) (num : Int) (s : By) (nx : Value) (E : Addr) (LP LB : List Int) (vP vB : Value) (h : RSt w0 V num s nx LP LB vP vB) (hs : s.length ≤ 4194400) (hlB : LB.length ≤ 4194400) (hE : w0.cell? ⟨2, 0, none⟩ = some (.iface 189 (.pointer (some E)))) :
    Calls Tryz.prog 49 #[.pointer (some ⟨w0.heap.size, 0, none⟩)] V fun e w' => Hid (MarkO w0 num s nx E LP LB e w') := by
  have HW : Hid (Calls Tryz.prog 70 #[.pointer (some ⟨w0.heap.size, 0, none⟩)] V fun e w' => e = .returned (.string (rd (nextW s))) ∧ Hid (RSt w0 w' num (restW s) nx LP LB vP vB)) := hid0 (by
    refine (word_any w0.heap.size num s nx vP vB hs V h.at').mono ?_
    rintro e w1 ⟨rfl, h1⟩
    obtain ⟨_, W, hW, rfl⟩ := h1.out
    exact ⟨rfl, hid0 ((h.past hW).set rfl)⟩)
  have HEr : Hid (∀ W nx' s' LP' LB' vP' vB', RSt w0 W num s' nx' LP' LB' vP' vB' → W.cell? ⟨2, 0, none⟩ = some (.iface 189 (.pointer (some E)))) := hid0 (fun W _ _ _ _ _ _ hW => (hW.bel.cell (World.block_lt_of_cell? w0 _ hE)).trans hE)
  have HB : Hid (∀ W vP' vB', RSt w0 W num (restW s) nx LP LB vP' vB' → W.cell? ⟨w0.heap.size, 1, none⟩ = some (.string (rd (restW s)))) := hid0 (fun W _ _ hW => hW.boxc.2.1)
  by_cases hy : nextW s = yesW
  · have HO : Hid (∀ W vP' vB', RSt w0 W num (restW s) nx LP (LB ++ [(LP.length : Int)]) vP' vB' → MarkO w0 num s nx E LP LB (.returned (.tuple #[if restW s = [] then .nilFunc else pointV, .nilIface])) W) := hid0 (fun W vP' vB' hW => by
      unfold MarkO
      rw [if_pos (.inl hy), if_pos hy]
      exact ⟨rfl, vP', vB', hW⟩)
    rw [hy] at HW
    clear hy h
    have hq : restW s = [] ∨ ((rd (restW s)).toList == []) = false := by
      cases hr : restW s with
      | nil => exact .inl rfl
      | cons c r => exact .inr (str_ne (by rw [rd_size]; simp))
    obtain ⟨q, hqv⟩ : ∃ q : Bool, q = ((rd (restW s)).toList == []) := ⟨_, rfl⟩
    have HQ : Hid ((if restW s = [] then Value.nilFunc else pointV) = if q then .nilFunc else pointV) := hid0 (by
      rcases hq with e | e
      · rw [hqv, if_pos e, e, if_pos (by rw [ByteArray.toList_eq]; rfl)]
      · rw [hqv, e, if_neg (fun h => by rw [h, ByteArray.toList_eq] at e; simp at e), if_neg (by simp)])
    go_enter Tryz.func49, Tryz.ntmps49
    go_wp2_with (go_at_call 70; refine HW.out.mono ?_; rintro e x1 ⟨rfl, hx1⟩; have k1 := HB.out _ _ _ hx1.out; have HX := hid0 hx1.out; clear hx1)
    obtain ⟨aP, cP, eP⟩ := own_slC HX.out.rp
    subst eP
    obtain ⟨b0, b1, b2, b3, b4, bf⟩ := HX.out.boxc
    have bf4 := bf 4
    have hbA : Below x1.heap.size x1 ((x1.alloc (.cells #[.int .i64 (LP.length : Int)] 3)).drew) := ((Below.refl _ _).alloc (Nat.le_refl _) _).drew
    have b4a : (x1.alloc (.cells #[.int .i64 (LP.length : Int)] 3)).cell? ⟨w0.heap.size, 4, none⟩ = some vB := (((Below.refl _ x1).alloc (Nat.le_refl _) _).cell (p := ⟨w0.heap.size, 4, none⟩) (Array.getElem?_eq_some_iff.1 HX.out.box).1).trans b4
    obtain ⟨v6, w6, hr6, ho6, hg6, hat6⟩ := run_app_own (W := (x1.alloc (.cells #[.int .i64 (LP.length : Int)] 3)).drew) w0.heap.size vB LB (own_blk HX.out.rb (fun k hk => hbA.block k (World.ownsRow.lt HX.out.rb k hk).2)) ⟨x1.heap.size, 0, none⟩ 1 [(LP.length : Int)] (fun j hj => one_cell (V := x1) j hj) (by show LB.length + 1 ≤ _; omega) (Nat.le_trans HX.out.bel.size hbA.size)
    obtain ⟨q1, q2, q3, q4⟩ := HX.out.growB hbA ho6 hg6 hat6
    have z0 : w6.cell? ⟨w0.heap.size, 4, none⟩ = some vB := by rw [cell_of_row _ _ _ _ _ _ q1]; rfl
    have z1 : w6.frozen? ⟨w0.heap.size, 4, none⟩ = false := frozen_of_row _ _ _ _ _ q1
    obtain ⟨a6, c6, rfl⟩ := own_slC ho6
    have HS6 : Hid (∃ vP vB, RSt w0 (w6.setCell ⟨w0.heap.size, 4, none⟩ (.slice a6 (LB ++ [(LP.length : Int)]).length c6)) num (restW s) nx LP (LB ++ [(LP.length : Int)]) vP vB) := hid0 ⟨_, _, RSt.putB q1 q2 ho6 q3 q4⟩
    have z2 : w6.cell? ⟨w0.heap.size, 1, none⟩ = some (.string (rd (restW s))) := by rw [cell_of_row _ _ _ _ _ _ q1]; rfl
    rw [show (LB ++ [(LP.length : Int)]).length = LB.length + 1 by simp] at HS6
    have HO2 : Hid (MarkO w0 num s nx E LP LB (.returned (.tuple #[if q = true then .nilFunc else pointV, .nilIface])) (w6.setCell ⟨w0.heap.size, 4, none⟩ (.slice a6 (LB.length + 1) c6))) := hid0 (by
      obtain ⟨_, _, hS⟩ := HS6.out
      have := HO.out _ _ _ hS
      rw [HQ.out] at this
      exact this)
    clear ho6 hg6 hat6 q1 q2 q3 q4 hbA HX k1 bf hq HS6 HO HQ HW HEr HB
    generalize rd (restW s) = S3 at *
    cases q with
    | true =>
      have hq1 := hqv.symm
      clear hqv
      go_region_law ((refine step_run (by rfl) _ _ 48 (by rfl) _ _ (by rfl) (by rfl) hr6 ?_))
      all_goals go_wp2
      all_goals go_ret2
      all_goals exact HO2
    | false =>
      have hq1 := hqv.symm
      clear hqv
      go_region_law ((refine step_run (by rfl) _ _ 48 (by rfl) _ _ (by rfl) (by rfl) hr6 ?_))
      all_goals go_wp2
      all_goals go_ret2
      all_goals exact HO2
  · by_cases hn : nextW s = noW
    · have HO : Hid (∀ W vP' vB', RSt w0 W num (restW s) nx LP LB vP' vB' → MarkO w0 num s nx E LP LB (.returned (.tuple #[if restW s = [] then .nilFunc else pointV, .nilIface])) W) := hid0 (fun W vP' vB' hW => by
        unfold MarkO
        rw [if_pos (.inr hn), if_neg hy]
        exact ⟨rfl, vP', vB', hW⟩)
      rw [hn] at HW
      clear hy hn h
      cases hr : restW s with
      | nil =>
        rw [hr] at HB HO HW
        simp only [if_true] at HO
        go_enter Tryz.func49, Tryz.ntmps49
        go_wp2_with (go_at_call 70; refine HW.out.mono ?_; rintro e x1 ⟨rfl, hx1⟩; have k1 := HB.out _ _ _ hx1.out; have HX := hid0 hx1.out; clear hx1)
        go_ret2
        exact hid0 (HO.out _ _ _ HX.out)
      | cons c r =>
        rw [hr] at HB HO HW
        simp only [if_neg (List.cons_ne_nil c r)] at HO
        have hne : (rd (c :: r)).size ≠ 0 := by rw [rd_size]; simp
        have hq := str_ne hne
        generalize rd (c :: r) = S3 at *
        go_enter Tryz.func49, Tryz.ntmps49
        go_wp2_with (go_at_call 70; refine HW.out.mono ?_; rintro e x1 ⟨rfl, hx1⟩; have k1 := HB.out _ _ _ hx1.out; have HX := hid0 hx1.out; clear hx1)
        go_ret2
        exact hid0 (HO.out _ _ _ HX.out)
    · have HO : Hid (∀ W vP' vB', RSt w0 W num (restW s) nx LP LB vP' vB' → MarkO w0 num s nx E LP LB (.returned (.tuple #[.nilFunc, flt num E])) W) := hid0 (fun W vP' vB' hW => by
        unfold MarkO
        rw [if_neg (fun h => h.elim hy hn)]
        exact ⟨rfl, vP', vB', hW⟩)
      have HF : Hid (∀ W vP' vB', RSt w0 W num (restW s) nx LP LB vP' vB' → Calls Tryz.prog 28 #[.pointer (some ⟨w0.heap.size, 0, none⟩), .iface 189 (.pointer (some E))] W fun e w' => e = .returned (flt num E) ∧ w' = W) := hid0 (fun W vP' vB' hW => fault_any w0.heap.size num _ nx vP' vB' E W hW.at')
      have h1 : ((rd (nextW s)).toList == [195, 183]) = false := str_neq hy
      have h2 : ((rd (nextW s)).toList == [195, 151]) = false := str_neq hn
      clear hy hn h HB
      generalize rd (nextW s) = S2 at *
      generalize flt num E = F at *
      go_enter Tryz.func49, Tryz.ntmps49
      go_wp2_with (first
        | (go_at_call 70; refine HW.out.mono ?_; rintro e x1 ⟨rfl, hx1⟩; have HX := hid0 hx1.out; clear hx1; have k1 := HEr.out _ _ _ _ _ _ _ HX.out)
        | (go_at_call 28; refine (HF.out _ _ _ HX.out).mono ?_; rintro e x2 ⟨rfl, rfl⟩)
        | fail)
      go_ret2
      exact hid0 (HO.out _ _ _ HX.out)
end Go.Proofs.YtcbepmjojppokaaGreatDoor
