/-
  The walk of caesuralaw3.begun.
-/
import Derived.Test.YtnkllhihdjjmnaaDoorCountW
import Derived.Test.YtnkllhihdjjmnaaDoorLawFW
import Derived.LaidEql
import Derived.KernelRfl
namespace Go.Proofs.YtnkllhihdjjmnaaDoor
open Go.RowKit
theorem compErr : (Tryd.prog.info? 99).map (·.comparable) = some true := by kernel_rfl
theorem sizeErr : (Tryd.prog.info? 115).map (·.size) = some 1 := by kernel_rfl
theorem neq_same (w : World) (a : Addr) :
    (binOp .neq 27 (.iface 99 (.pointer (some a))) (.iface 99 (.pointer (some a)))).run Tryd.prog w = .ok (.bool false) w := by
  obtain ⟨ti, h1, h2⟩ := Option.map_eq_some_iff.1 compErr
  obtain ⟨tj, h3, h4⟩ := Option.map_eq_some_iff.1 sizeErr
  simp only [binOp]
  simp [Op.equal, Op.maxDepth, run_equalIn_iface_ptr_same (P := Tryd.prog) (w := w) 9998 a Tryd.underlying27 Tryd.underlying99 h1 h2 h3]
theorem ra_lit (w : World) (l : List (Int × Int)) (t : TypeId) : RA (w.alloc (.cells (cellsR l).toArray t)) (some ⟨w.heap.size, 0, none⟩) l := ⟨fun k hk => by
  obtain ⟨h1, h2⟩ := cellsR_at l k hk
  refine ⟨w.heap.size, 0, rfl, ?_, ?_⟩
  · rw [cell_of_row _ w.heap.size _ _ _ _ (heap_alloc_new w _), Nat.zero_add]; simpa using h1
  · rw [cell_of_row _ w.heap.size _ _ _ _ (heap_alloc_new w _), Nat.zero_add]; simpa using h2⟩
theorem ra_lit2 {n : Nat} (w : World) (hn : n = w.heap.size) (l : List (Int × Int)) (t : TypeId) : RA (w.alloc (.cells (cellsR l).toArray t)) (some ⟨n, 0, none⟩) l := by
  subst hn
  exact ra_lit w l t
theorem chain {w W w' : World} (hb : Below W.heap.size W w') (h1 : Below w.heap.size w W) : Below w.heap.size w w' := h1.trans (hb.mono h1.size)
theorem below1 (w : World) (o : Obj) : Below w.heap.size w (w.alloc o) := (Below.refl _ w).alloc (Nat.le_refl _) o
theorem below2 (w : World) (o o' : Obj) : Below w.heap.size w ((w.alloc o).alloc o') := (below1 w o).alloc (by simp) o'
/-- A known answer. -/
def Known (w w' : World) (N : List (Int × Int)) (e : Ending) : Prop := ∃ a cap, e = .returned (.tuple #[.slice a N.length cap, .nilIface]) ∧ OwnR w' w.heap.size (.slice a N.length cap) N ∧ RA w' a N ∧ Below w.heap.size w w'
theorem Answered.known {w w' : World} {A0 : Addr} {ok : Bool} {W : Int → Bool} {e : Ending} (h : Answered w w' A0 ok W e) (ho : ok = true) (N : List (Int × Int)) (hN : NormF 0 N) (hp : ∀ p, pts N p = W p) : Known w w' N e := by
  subst ho
  obtain ⟨v, l, rfl, h2, h3, h4, _, h6⟩ := h
  obtain rfl : l = N := norm_uniq h3 hN (fun p => (h4 rfl p).trans (hp p).symm)
  obtain ⟨a, cap, rfl, hra⟩ := h2.ra
  exact ⟨a, cap, rfl, h2, hra, h6⟩
theorem Counted.val {w w' : World} {A0 : Addr} {l : List (Int × Int)} {e : Ending} (h : Counted w w' A0 l e) (hm : mayL l = true) (n : Int) (hn : card (pts l) 1114112 = n) : e = .returned (.tuple #[.int .i64 n, .nilIface]) ∧ Below w.heap.size w w' := by
  obtain ⟨rfl, h2⟩ := h
  rw [hm, hn]
  exact ⟨rfl, h2⟩
theorem ten : card (pts [(3, 9), (8, 12)]) 1114112 = 10 := by
  rw [card_congr (g := pts [(3, 12)]) (fun p _ _ => by simp only [pts, hasR, List.any_cons, List.any_nil]; rw [Bool.eq_iff_iff]; simp; omega), ← lens_card (a := 0) (Int.le_refl 0) (show NormF 0 [(3, 12)] from ⟨by omega, by omega, by omega, trivial⟩)]
  rfl
theorem beg1 (p : Int) : pts [(65, 80)] p = pts [(69, 80), (65, 68)] p := by simp only [pts, hasR, List.any_cons, List.any_nil]; rw [Bool.eq_iff_iff]; simp; omega
theorem beg2 (p : Int) : pts [(69, 80)] p = (pts [(65, 80)] p && pts [(69, 96)] p) := by simp only [pts, hasR, List.any_cons, List.any_nil]; rw [Bool.eq_iff_iff]; simp; omega
theorem beg3 (p : Int) : pts [(0, 0)] p = (inAll p && !pts [(1, 1114111)] p) := by simp only [inAll, pts, hasR, List.any_cons, List.any_nil]; rw [Bool.eq_iff_iff]; simp; omega
set_option maxRecDepth 10000 in
set_option maxHeartbeats 1600000 in
theorem begun_any (A0 : Addr) (w : World) (hE : w.cell? ⟨0, 0, none⟩ = some (errArg A0)) :
    Calls Tryd.prog 8 #[] w fun e w' => e = .returned (.bool true) ∧ Below w.heap.size w w' := by
  have HE := hidE hE
  have hN := fun W => neq_same W A0
  clear hE
  have T1 : Hid True := trivial
  have T2 : Hid True := trivial
  have T3 : Hid True := trivial
  have T4 : Hid True := trivial
  have T5 : Hid True := trivial
  go_enter Tryd.func8, Tryd.ntmps8
  go_wp2_with (first
    | (go_at_call 11; clear T1; have hB := below1 w (.cells (cellsR [(69, 80), (65, 68)]).toArray 35); refine (normal_any [(69, 80), (65, 68)] (by simp) _ _ A0 _ (ra_lit _ _ _) (cellE_later HE.out hB)).mono ?_; intro e w1 hAns; obtain ⟨a1, c1, rfl, _, hr1, hb1⟩ := hAns.known (by decide) [(65, 80)] ⟨by omega, by omega, by omega, trivial⟩ beg1; have HR1 := hidE hr1; have HB1 := hidE (chain hb1 hB); clear hAns hr1 hb1 hB)
    | (go_at_call 13; have hB := below2 w1 (.cells (cellsR [(65, 80)]).toArray 35) (.cells (cellsR [(69, 96)]).toArray 35); refine (inter_any [(65, 80)] [(69, 96)] (by simp) (by simp) _ _ _ _ A0 _ ((ra_lit w1 [(65, 80)] 35).later (below1 _ _)) (ra_lit2 _ (by simp) _ _) (cellE_later HE.out (chain hB HB1.out))).mono ?_; intro e w2 hAns; obtain ⟨a2, c2, rfl, _, hr2, hb2⟩ := hAns.known (by decide) [(69, 80)] ⟨by omega, by omega, by omega, trivial⟩ beg2; have HR2 := hidE (And.intro (HR1.out.later (chain hb2 hB)) hr2); have HB2 := hidE (chain (chain hb2 hB) HB1.out); clear hAns hr2 hb2 hB HR1)
    | (go_at_call 14; have hB := below1 w2 (.cells (cellsR [(1, 1114111)]).toArray 35); refine (not_any [(1, 1114111)] (by simp) _ _ A0 _ (ra_lit _ _ _) (cellE_later HE.out (chain hB HB2.out))).mono ?_; intro e w3 hAns; obtain ⟨a3, c3, rfl, _, hr3, hb3⟩ := hAns.known (by decide) [(0, 0)] ⟨by omega, by omega, by omega, trivial⟩ beg3; have HR3 := hidE (And.intro (HR2.out.1.later (chain hb3 hB)) (And.intro (HR2.out.2.later (chain hb3 hB)) hr3)); have HB3 := hidE (chain (chain hb3 hB) HB2.out); clear hAns hr3 hb3 hB HR2)
    | (go_at_call 9; have hB := below1 w3 (.cells (cellsR [(3, 9), (8, 12)]).toArray 35); refine (count_any [(3, 9), (8, 12)] (by simp) _ _ A0 _ (ra_lit _ _ _) (cellE_later HE.out (chain hB HB3.out))).mono ?_; intro e w4 hAns; obtain ⟨rfl, hb4⟩ := hAns.val (by decide) 10 ten; have HR4 := hidE (And.intro (HR3.out.1.later (chain hb4 hB)) (And.intro (HR3.out.2.1.later (chain hb4 hB)) (HR3.out.2.2.later (chain hb4 hB)))); have HB4 := hidE (chain (chain hb4 hB) HB3.out); clear hAns hb4 hB HR3)
    | (go_at_call 11; clear T2; have hB := below1 w4 (.cells (cellsR [(5, 4)]).toArray 35); refine (normal_any [(5, 4)] (by simp) _ _ A0 _ (ra_lit _ _ _) (cellE_later HE.out (chain hB HB4.out))).mono ?_; intro e w5 hAns; obtain ⟨v5, l5, rfl, _, _, _, _, hb5⟩ := hAns; rw [show errVal A0 (mayL [(5, 4)]) = .iface 99 (.pointer (some A0)) from rfl]; have HR5 := hidE (And.intro (HR4.out.1.later (chain hb5 hB)) (And.intro (HR4.out.2.1.later (chain hb5 hB)) (HR4.out.2.2.later (chain hb5 hB)))); have HB5 := hidE (chain (chain hb5 hB) HB4.out); have d5 := cellE_later HE.out HB5.out; unfold errArg at d5; clear hb5 hB HR4)
    | (go_at_call 20; clear T3; have hq := has_any [(65, 80)] (by simp) a1 c1 68 w5 HR5.out.1; rw [show pts [(65, 80)] 68 = true by decide] at hq; refine hq.mono ?_; rintro e w6 ⟨rfl, hb6⟩; have HR6 := hidE (And.intro (HR5.out.1.later hb6) (And.intro (HR5.out.2.1.later hb6) (HR5.out.2.2.later hb6))); have HB6 := hidE (chain hb6 HB5.out); clear hb6 HR5 hq)
    | (go_at_call 20; have hq := has_any [(65, 80)] (by simp) a1 c1 81 w6 HR6.out.1; rw [show pts [(65, 80)] 81 = false by decide] at hq; refine hq.mono ?_; rintro e w7 ⟨rfl, hb7⟩; have HR7 := hidE (And.intro (HR6.out.1.later hb7) (And.intro (HR6.out.2.1.later hb7) (HR6.out.2.2.later hb7))); have HB7 := hidE (chain hb7 HB6.out); clear hb7 HR6 hq)
    | (go_at_call 16; clear T4; have hB := below1 w7 (.cells (cellsR [(65, 80)]).toArray 35); refine (sameR_eq [(65, 80)] _ _ _ _ _ (by simp) (HR7.out.1.later hB) (ra_lit _ _ _)).mono ?_; rintro e w8 ⟨rfl, q8, hw8⟩; have hb8 : Below w7.heap.size w7 w8 := by { rw [hw8]; exact below_drewN hB _ }; have HR8 := hidE (And.intro (HR7.out.2.1.later hb8) (HR7.out.2.2.later hb8)); have HB8 := hidE (chain hb8 HB7.out); clear hb8 hw8 hB HR7)
    | (go_at_call 16; clear T5; have hB := below1 w8 (.cells (cellsR [(69, 80)]).toArray 35); refine (sameR_eq [(69, 80)] _ _ _ _ _ (by simp) (HR8.out.1.later hB) (ra_lit _ _ _)).mono ?_; rintro e w9 ⟨rfl, q9, hw9⟩; have hb9 : Below w8.heap.size w8 w9 := by { rw [hw9]; exact below_drewN hB _ }; have HR9 := hidE (HR8.out.2.later hb9); have HB9 := hidE (chain hb9 HB8.out); clear hb9 hw9 hB HR8)
    | (go_at_call 16; have hB := below1 w9 (.cells (cellsR [(0, 0)]).toArray 35); refine (sameR_eq [(0, 0)] _ _ _ _ _ (by simp) (HR9.out.later hB) (ra_lit _ _ _)).mono ?_; rintro e w10 ⟨rfl, q10, hw10⟩; have hb10 : Below w9.heap.size w9 w10 := by { rw [hw10]; exact below_drewN hB _ }; have HB10 := hidE (chain hb10 HB9.out); clear hb10 hw10 hB HR9)
    | fail)
  go_ret
  exact ⟨rfl, HB10.out⟩
end Go.Proofs.YtnkllhihdjjmnaaDoor
