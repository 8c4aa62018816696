/-
  The walk of (*ranges.side).pass.
-/
import Derived.Test.YthdmhelgmejicaaGreatDoorSideW
import Derived.Deep.LoopGhost
import Derived.Deep.RegionLaw
namespace Go.Proofs.YthdmhelgmejicaaGreatDoor
open Go.RowKit
/-- Where a side lies: its box, and the edges ahead in memory apart from it. -/
structure SideIn (w : World) (B : Nat) (a : Option Addr) (cap : Nat) (rest : List (Int × Int)) (o : Int) : Prop where
  c0 : w.cell? ⟨B, 0, none⟩ = some (.slice a rest.length cap)
  c1 : w.cell? ⟨B, 1, none⟩ = some (.int .i64 o)
  f0 : w.frozen? ⟨B, 0, none⟩ = false
  f1 : w.frozen? ⟨B, 1, none⟩ = false
  ra : RA w a rest
  apart : ∀ p, a = some p → p.block ≠ B
  le : rest.length ≤ cap
theorem sumAll_bound (l : List (Int × Int)) (h : ∀ e ∈ l, e.2 = 1 ∨ e.2 = -1) : -(l.length : Int) ≤ sumAll l ∧ sumAll l ≤ (l.length : Int) := by
  induction l with
  | nil => exact ⟨Int.le_refl _, Int.le_refl _⟩
  | cons e l ih =>
    have h1 := ih (fun x hx => h x (by simp [hx]))
    have h2 := h e (by simp)
    have h3 : sumAll (e :: l) = e.2 + sumAll l := by simp [sumAll]
    rw [h3, List.length_cons]
    omega
theorem sumAll_snoc (l : List (Int × Int)) (e : Int × Int) : sumAll (l ++ [e]) = sumAll l + e.2 := by rw [sumAll_append]; simp [sumAll]
theorem RA.off {S : Nat → Prop} {w w' : World} {a : Option Addr} {l : List (Int × Int)} (h : RA w a l) (ho : Off S w w') (hs : ∀ p, a = some p → ¬ S p.block) : RA w' a l := ⟨fun k hk => by
  obtain ⟨b, off, rfl, h1, h2⟩ := h.at' k hk
  have hb : ¬ S b := hs ⟨b, off, none⟩ rfl
  exact ⟨b, off, rfl, (ho.cell (p := ⟨b, off + k * 2, none⟩) (World.block_lt_of_cell? w _ h1) hb).trans h1, (ho.cell (p := ⟨b, off + k * 2 + 1, none⟩) (World.block_lt_of_cell? w _ h2) hb).trans h2⟩⟩
theorem RA.tail {w : World} {b off : Nat} {e : Int × Int} {l : List (Int × Int)} (h : RA w (some ⟨b, off, none⟩) (e :: l)) : RA w (some ⟨b, off + 2, none⟩) l := ⟨fun k hk => by
  obtain ⟨b', off', he, h1, h2⟩ := h.at' (k + 1) (by simpa using hk)
  simp only [Option.some.injEq, Addr.mk.injEq, and_true] at he
  obtain ⟨rfl, rfl⟩ := he
  refine ⟨b, off + 2, rfl, ?_, ?_⟩
  · rw [show off + 2 + k * 2 = off + (k + 1) * 2 by omega]; simpa using h1
  · rw [show off + 2 + k * 2 + 1 = off + (k + 1) * 2 + 1 by omega]; simpa using h2⟩
theorem SideIn.put {w : World} {B cap cap' : Nat} {a a' : Option Addr} {l l' : List (Int × Int)} {o z : Int} {n : Nat} (h : SideIn w B a cap l o) (q : Nat) (hr : RA w a' l') (hap : ∀ p, a' = some p → p.block ≠ B) (hle : l'.length ≤ cap') (hn : n = l'.length) :
    SideIn (((w.drewN q).setCell ⟨B, 1, none⟩ (.int .i64 z)).setCell ⟨B, 0, none⟩ (.slice a' n cap')) B a' cap' l' z ∧ Off (· = B) w (((w.drewN q).setCell ⟨B, 1, none⟩ (.int .i64 z)).setCell ⟨B, 0, none⟩ (.slice a' n cap')) := by
  subst hn
  have hoff : Off (· = B) w (((w.drewN q).setCell ⟨B, 1, none⟩ (.int .i64 z)).setCell ⟨B, 0, none⟩ (.slice a' l'.length cap')) := (((Off.refl (· = B) w).drewN q).setCell (p := ⟨B, 1, none⟩) rfl _).setCell (p := ⟨B, 0, none⟩) rfl _
  have h0 : ((w.drewN q).setCell ⟨B, 1, none⟩ (.int .i64 z)).cell? ⟨B, 0, none⟩ = some (.slice a l.length cap) := (World.cell?_setCell_other _ _ _ _ (by simp)).trans h.c0
  refine ⟨⟨World.cell?_setCell_same _ _ _ h0, ?_, ?_, ?_, hr.off hoff hap, hap, hle⟩, hoff⟩
  · rw [World.cell?_setCell_other _ _ _ _ (by simp)]
    exact World.cell?_setCell_same _ _ _ h.c1
  · rw [World.frozen?_setCell, World.frozen?_setCell]; exact h.f0
  · rw [World.frozen?_setCell, World.frozen?_setCell]; exact h.f1
theorem SideIn.drewN {w : World} {B cap : Nat} {a : Option Addr} {l : List (Int × Int)} {o : Int} (h : SideIn w B a cap l o) (q : Nat) : SideIn (w.drewN q) B a cap l o := ⟨h.c0, h.c1, h.f0, h.f1, ⟨h.ra.at'⟩, h.apart, h.le⟩
set_option maxRecDepth 10000 in
set_option maxHeartbeats 400000 in
theorem pass_any (B : Nat) (at' : Int) (pas rest : List (Int × Int)) (hp : ∀ e ∈ pas, e.1 = at') (hn : nextOf rest ≠ at') (hm : ∀ e ∈ pas, e.2 = 1 ∨ e.2 = -1) (hl : pas.length + rest.length ≤ 140737488355328)
    (a : Option Addr) (cap : Nat) (o : Int) (ho : -140737488355328 ≤ o ∧ o ≤ 140737488355328) (w : World) (hs : SideIn w B a cap (pas ++ rest) o) :
    Calls Tryz.prog 146 #[.pointer (some ⟨B, 0, none⟩), .int .i64 at'] w fun e w' => e = .returned (.tuple #[]) ∧ ∃ a' cap', SideIn w' B a' cap' rest (o + sumAll pas) ∧ Off (· = B) w w' ∧ (∀ p, a' = some p → ∃ p', a = some p' ∧ p.block = p'.block) := by
  go_enter Tryz.func146, Tryz.ntmps146
  go_wp2
  go_loopg [] pas.length (fun gg wr => ∃ (todo done : List (Int × Int)) (a' : Option Addr) (cap' : Nat), todo.length ≤ gg ∧ Aside (pas = done ++ todo) ∧ Aside (SideIn wr B a' cap' (todo ++ rest) (o + sumAll done)) ∧ Aside (Off (· = B) w wr) ∧ Aside (∀ p, a' = some p → ∃ p', a = some p' ∧ p.block = p'.block))
  case atStart => exact ⟨pas, [], a, cap, Nat.le_refl _, rfl, (show SideIn _ _ _ _ _ _ by simpa [sumAll] using hs), Off.refl _ _, fun p hp => ⟨p, hp, rfl⟩⟩
  case round =>
    obtain ⟨todo, done, a', cap', hg, hpd, hsi, hoff, hap⟩ := hrel
    cases todo with
    | nil =>
      have HN := hidE (next_any B cap' a' rest wr hsi.out.c0 hsi.out.ra)
      generalize hx : nextOf rest = x at *
      have hne : (x == at') = false := by rw [beq_eq_false_iff_ne]; exact hn
      clear hn
      go_wp2_with (go_at_call 145; refine HN.out.mono ?_; rintro e w' ⟨rfl, q, rfl⟩)
      go_returns
      have e1 : pas = done := by have := hpd.out; simpa using this
      refine ⟨rfl, a', cap', ?_, hoff.out.drewN _, hap.out⟩
      rw [e1]
      exact hsi.out.drewN _
    | cons e todo =>
      have HN := hidE (next_any B cap' a' (e :: todo ++ rest) wr hsi.out.c0 hsi.out.ra)
      have he : e.1 = at' := hp e (by rw [hpd.out]; simp)
      rw [show nextOf (e :: todo ++ rest) = at' from he] at HN
      have c0 := hsi.out.c0
      have c1 := hsi.out.c1
      have f0 := hsi.out.f0
      have f1 := hsi.out.f1
      have hle := hsi.out.le
      obtain ⟨b, of', rfl, d0, d1⟩ := hsi.out.ra.at' 0 (by simp)
      clear d0
      simp only [List.cons_append, List.getElem_cons_zero, Nat.zero_mul, Nat.add_zero] at d1
      rw [List.cons_append, List.length_cons] at c0 hle
      generalize hy : o + sumAll done = y at *
      have hb : -140737488355328 - 140737488355328 ≤ y ∧ y ≤ 140737488355328 + 140737488355328 := by
        have h1 := sumAll_bound done (fun x hx => hm x (by rw [hpd.out]; simp [hx]))
        have h2 := congrArg List.length hpd.out
        rw [List.length_append] at h2
        omega
      have hm' := hm e (by rw [hpd.out]; simp)
      have hbB := hsi.out.apart _ rfl
      simp only at hbB
      have hln : (todo ++ rest).length ≤ 140737488355328 := by
        have h2 := congrArg List.length hpd.out
        simp only [List.length_append, List.length_cons] at h2 ⊢
        omega
      have HP : Hid (pas = (done ++ [e]) ++ todo) := by show _ = _; rw [hpd.out]; simp
      generalize hz : (todo ++ rest).length = n at *
      clear hp hm hpd
      go_wp2_with (go_at_call 145; refine HN.out.mono ?_; rintro e w' ⟨rfl, q, rfl⟩)
      go_big_region
      go_wp2
      · have hl0 : todo ++ rest = [] := List.length_eq_zero_iff.1 (by omega)
        obtain ⟨k1, k2⟩ := hsi.out.put (a' := some ⟨b, of', none⟩) (cap' := 0) (l' := todo ++ rest) (z := y + e.2) (n := n) (q + 1) (by rw [hl0]; exact RA.nil _ _) hsi.out.apart (by rw [hl0]; simp) hz.symm
        go_roundg todo.length
        case measure => simp at hg; omega
        case rel => exact ⟨todo, done ++ [e], _, _, Nat.le_refl _, HP.out, (show SideIn _ _ _ _ _ _ by rw [sumAll_snoc, ← Int.add_assoc, hy]; exact k1), hoff.out.trans k2, hap.out⟩
      · obtain ⟨k1, k2⟩ := hsi.out.put (a' := some ⟨b, of' + 2, none⟩) (cap' := cap' - 1) (l' := todo ++ rest) (z := y + e.2) (n := n) (q + 1) hsi.out.ra.tail (fun p hp => by cases hp; exact hbB) (by omega) hz.symm
        go_roundg todo.length
        case measure => simp at hg; omega
        case rel => exact ⟨todo, done ++ [e], _, _, Nat.le_refl _, HP.out, (show SideIn _ _ _ _ _ _ by rw [sumAll_snoc, ← Int.add_assoc, hy]; exact k1), hoff.out.trans k2, fun p hp => (by cases hp; exact hap.out ⟨b, of', none⟩ rfl)⟩
end Go.Proofs.YthdmhelgmejicaaGreatDoor
