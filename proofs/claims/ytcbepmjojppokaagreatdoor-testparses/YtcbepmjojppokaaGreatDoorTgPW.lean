/-
  A reader reads one line: testfile.reader.read.
-/
import Derived.Test.YtcbepmjojppokaaGreatDoorTgOW
import Derived.Deep.LoopGhost
namespace Go.Proofs.YtcbepmjojppokaaGreatDoor
open Go.RowKit Go.Shelf
/-- What a line says from a place on: a mark is next, or a point. -/
def rdS : Nat → Bool → By → List Int → List Int → Option (List Int × List Int)
  | 0, _, _, _, _ => none
  | n + 1, true, s, P, B => if nextW s = yesW ∨ nextW s = noW then (if restW s = [] then some (P, if nextW s = yesW then B ++ [(P.length : Int)] else B) else rdS n false (restW s) P (if nextW s = yesW then B ++ [(P.length : Int)] else B)) else none
  | n + 1, false, s, P, B => if wOk (nextW s) = true then rdS n true (restW s) (P ++ [(hexN (nextW s) : Int)]) B else none
/-- A line that is being read. -/
structure Rng (w0 wr : World) (num : Int) (N g : Nat) (L : Option (List Int × List Int)) : Prop where
  is : ∃ s nx P B vP vB, RSt w0 wr num s nx P B vP vB ∧ ((nx = .nilFunc ∧ L = some (P, B) ∧ P.length ≤ N) ∨ ∃ b m, nx = (if b then markV else pointV) ∧ s.length + 1 ≤ g ∧ s.length + 2 ≤ m ∧ P.length + s.length ≤ N ∧ B.length + s.length ≤ N ∧ rdS m b s P B = L)
theorem yes_or_len {s : By} (h : nextW s = yesW ∨ nextW s = noW) : (restW s).length + 2 ≤ s.length := by
  have h1 := rest_le s
  have h2 : (nextW s).length = 2 := by rcases h with h | h <;> rw [h] <;> rfl
  omega
theorem wOk_len {s : By} (h : wOk (nextW s) = true) : (restW s).length + 4 ≤ s.length := by
  have h1 := rest_le s
  have h2 : 4 ≤ (nextW s).length := by
    unfold wOk at h
    simp only [Bool.and_eq_true, decide_eq_true_eq] at h
    exact h.1.1
  omega
/-- Behind a mark. -/
theorem Rng.mark {w0 wr : World} {num : Int} {N g m : Nat} {L : Option (List Int × List Int)} {s : By} {nx : Value} {E : Addr} {P B : List Int} {e : Ending} (hg : s.length + 1 ≤ g + 1) (hm : s.length + 2 ≤ m) (hP : P.length + s.length ≤ N) (hB : B.length + s.length ≤ N) (hL : rdS m true s P B = L) (h : MarkO w0 num s nx E P B e wr) :
    (∃ nx', e = .returned (.tuple #[nx', .nilIface]) ∧ (nx' = .nilFunc ∨ nx' = pointV) ∧ Rng w0 (wr.setCell ⟨w0.heap.size, 2, none⟩ nx') num N g L) ∨ (e = .returned (.tuple #[.nilFunc, flt num E]) ∧ L = none ∧ ∃ s' P B vP vB, RSt w0 wr num s' nx P B vP vB) := by
  obtain ⟨m', rfl⟩ : ∃ m', m = m' + 1 := ⟨m - 1, by omega⟩
  rw [rdS] at hL
  unfold MarkO at h
  by_cases hk : nextW s = yesW ∨ nextW s = noW
  · rw [if_pos hk] at h hL
    have hl := yes_or_len hk
    obtain ⟨rfl, vP, vB, hr⟩ := h
    refine .inl ⟨_, rfl, ?_, ?_⟩
    · by_cases he : restW s = []
      · exact .inl (if_pos he)
      · exact .inr (if_neg he)
    · by_cases he : restW s = []
      · rw [if_pos he] at hL ⊢
        exact ⟨_, _, _, _, vP, vB, hr.set (nx' := .nilFunc) rfl, .inl ⟨rfl, hL.symm, by omega⟩⟩
      · rw [if_neg he] at hL ⊢
        refine ⟨_, _, _, _, vP, vB, hr.set (nx' := pointV) rfl, .inr ⟨false, m', rfl, by omega, by omega, by omega, ?_, hL⟩⟩
        split
        · rw [List.length_append]; simp; omega
        · omega
  · rw [if_neg hk] at h hL
    obtain ⟨rfl, vP, vB, hr⟩ := h
    exact .inr ⟨rfl, hL.symm, _, _, _, vP, vB, hr⟩
/-- Behind a point. -/
theorem Rng.point {w0 wr : World} {num : Int} {N g m : Nat} {L : Option (List Int × List Int)} {s : By} {nx : Value} {E : Addr} {P B : List Int} {e : Ending} (hg : s.length + 1 ≤ g + 1) (hm : s.length + 2 ≤ m) (hP : P.length + s.length ≤ N) (hB : B.length + s.length ≤ N) (hL : rdS m false s P B = L) (h : PointO w0 num s nx E P B e wr) :
    (e = .returned (.tuple #[markV, .nilIface]) ∧ Rng w0 (wr.setCell ⟨w0.heap.size, 2, none⟩ markV) num N g L) ∨ (e = .returned (.tuple #[.nilFunc, flt num E]) ∧ L = none ∧ ∃ s' P B vP vB, RSt w0 wr num s' nx P B vP vB) := by
  obtain ⟨m', rfl⟩ : ∃ m', m = m' + 1 := ⟨m - 1, by omega⟩
  rw [rdS] at hL
  unfold PointO at h
  by_cases hk : wOk (nextW s) = true
  · rw [if_pos hk] at h hL
    have hl := wOk_len hk
    obtain ⟨rfl, vP, vB, hr⟩ := h
    refine .inl ⟨rfl, ⟨_, _, _, _, vP, vB, hr.set (nx' := markV) rfl, .inr ⟨true, m', rfl, by omega, by omega, ?_, by omega, hL⟩⟩⟩
    rw [List.length_append]
    simp
    omega
  · rw [if_neg hk] at h hL
    obtain ⟨rfl, vP, vB, hr⟩ := h
    exact .inr ⟨rfl, hL.symm, _, _, _, vP, vB, hr⟩
theorem MarkO.box {w0 wr : World} {num : Int} {s : By} {nx : Value} {E : Addr} {P B : List Int} {e : Ending} (h : MarkO w0 num s nx E P B e wr) : ∃ s' P B vP vB, RSt w0 wr num s' nx P B vP vB := by
  unfold MarkO at h
  split at h
  · obtain ⟨_, vP, vB, hr⟩ := h
    exact ⟨_, _, _, vP, vB, hr⟩
  · obtain ⟨_, vP, vB, hr⟩ := h
    exact ⟨_, _, _, vP, vB, hr⟩
theorem PointO.box {w0 wr : World} {num : Int} {s : By} {nx : Value} {E : Addr} {P B : List Int} {e : Ending} (h : PointO w0 num s nx E P B e wr) : ∃ s' P B vP vB, RSt w0 wr num s' nx P B vP vB := by
  unfold PointO at h
  split at h
  · obtain ⟨_, vP, vB, hr⟩ := h
    exact ⟨_, _, _, vP, vB, hr⟩
  · obtain ⟨_, vP, vB, hr⟩ := h
    exact ⟨_, _, _, vP, vB, hr⟩
/-- One state's step, whichever it is: what it answers is decided by the line alone. -/
def StepO (w0 : World) (num : Int) (N g : Nat) (L : Option (List Int × List Int)) (nx nx' : Value) (bad : Bool) (E : Addr) (e : Ending) (w' : World) : Prop :=
  e = .returned (.tuple #[nx', if bad then flt num E else .nilIface]) ∧ Hid ((w'.cell? ⟨w0.heap.size, 2, none⟩ = some nx ∧ w'.frozen? ⟨w0.heap.size, 2, none⟩ = false) ∧ (bad = false → Rng w0 (w'.setCell ⟨w0.heap.size, 2, none⟩ nx') num N g L) ∧ ∃ s' nx2 P B vP vB, RSt w0 (w'.setCell ⟨w0.heap.size, 2, none⟩ nx') num s' nx2 P B vP vB)
theorem stepM_any (w0 wr : World) (num : Int) (N g m : Nat) (L : Option (List Int × List Int)) (s : By) (nx : Value) (E : Addr) (P B : List Int) (vP vB : Value) (h : RSt w0 wr num s nx P B vP vB) (hN : N ≤ 4194400) (hg : s.length + 1 ≤ g + 1) (hm : s.length + 2 ≤ m) (hP : P.length + s.length ≤ N) (hB : B.length + s.length ≤ N) (hL : rdS m true s P B = L) (hE : w0.cell? ⟨2, 0, none⟩ = some (.iface 189 (.pointer (some E)))) :
    ∃ nx' bad, (nx' = .nilFunc ∨ nx' = pointV ∨ nx' = markV) ∧ (bad = true → nx' = .nilFunc ∧ L = none) ∧ Calls Tryz.prog 49 #[.pointer (some ⟨w0.heap.size, 0, none⟩)] wr fun e w' => StepO w0 num N g L nx nx' bad E e w' := by
  have hM := mark_any w0 wr num s nx E P B vP vB h (by omega) (by omega) hE
  have hbox : ∀ e w', MarkO w0 num s nx E P B e w' → w'.cell? ⟨w0.heap.size, 2, none⟩ = some nx ∧ w'.frozen? ⟨w0.heap.size, 2, none⟩ = false := fun e w' hq => by
    obtain ⟨_, _, _, _, _, hr⟩ := hq.box
    exact ⟨hr.boxc.2.2.1, hr.boxc.2.2.2.2.2 2⟩
  by_cases hk : nextW s = yesW ∨ nextW s = noW
  · refine ⟨if restW s = [] then .nilFunc else pointV, false, ?_, (fun h => by cases h), hM.mono ?_⟩
    · by_cases he : restW s = []
      · exact .inl (if_pos he)
      · exact .inr (.inl (if_neg he))
    · intro e w' hq
      have hb := hbox _ _ hq.out
      have hq2 := hq.out
      unfold MarkO at hq2
      rw [if_pos hk] at hq2
      rcases Rng.mark hg hm hP hB hL hq.out with ⟨nx', e1, _, hR⟩ | ⟨e1, _⟩
      · have e2 : nx' = if restW s = [] then .nilFunc else pointV := by
          have := hq2.1.symm.trans e1
          simp at this
          exact this.symm
        subst e2
        obtain ⟨s', nx2, P', B', vP', vB', hr, _⟩ := hR.is
        exact ⟨e1, hid0 ⟨hb, fun _ => hR, s', nx2, P', B', vP', vB', hr⟩⟩
      · have := hq2.1.symm.trans e1
        simp [flt] at this
  · refine ⟨.nilFunc, true, .inl rfl, (fun _ => ⟨rfl, ?_⟩), hM.mono ?_⟩
    · obtain ⟨m', rfl⟩ : ∃ m', m = m' + 1 := ⟨m - 1, by omega⟩
      rw [rdS, if_neg hk] at hL
      exact hL.symm
    · intro e w' hq
      have hb := hbox _ _ hq.out
      rcases Rng.mark hg hm hP hB hL hq.out with ⟨nx', e1, _, hR⟩ | ⟨e1, _, s', P', B', vP', vB', hr⟩
      · have hq2 := hq.out
        unfold MarkO at hq2
        rw [if_neg hk] at hq2
        have := hq2.1.symm.trans e1
        simp [flt] at this
      · exact ⟨e1, hid0 ⟨hb, (fun h => by cases h), s', .nilFunc, P', B', vP', vB', hr.set rfl⟩⟩
theorem stepP_any (w0 wr : World) (num : Int) (N g m : Nat) (L : Option (List Int × List Int)) (s : By) (nx : Value) (E : Addr) (P B : List Int) (vP vB : Value) (h : RSt w0 wr num s nx P B vP vB) (hN : N ≤ 4194400) (hg : s.length + 1 ≤ g + 1) (hm : s.length + 2 ≤ m) (hP : P.length + s.length ≤ N) (hB : B.length + s.length ≤ N) (hL : rdS m false s P B = L) (hE : w0.cell? ⟨2, 0, none⟩ = some (.iface 189 (.pointer (some E)))) (hSy : Syn w0) :
    ∃ nx' bad, (nx' = .nilFunc ∨ nx' = pointV ∨ nx' = markV) ∧ (bad = true → nx' = .nilFunc ∧ L = none) ∧ Calls Tryz.prog 71 #[.pointer (some ⟨w0.heap.size, 0, none⟩)] wr fun e w' => StepO w0 num N g L nx nx' bad E e w' := by
  have hM := point_any w0 wr num s nx E P B vP vB h (by omega) (by omega) hE hSy
  have hbox : ∀ e w', PointO w0 num s nx E P B e w' → w'.cell? ⟨w0.heap.size, 2, none⟩ = some nx ∧ w'.frozen? ⟨w0.heap.size, 2, none⟩ = false := fun e w' hq => by
    obtain ⟨_, _, _, _, _, hr⟩ := hq.box
    exact ⟨hr.boxc.2.2.1, hr.boxc.2.2.2.2.2 2⟩
  by_cases hk : wOk (nextW s) = true
  · refine ⟨markV, false, .inr (.inr rfl), (fun h => by cases h), hM.mono ?_⟩
    intro e w' hq
    have hb := hbox _ _ hq.out
    rcases Rng.point hg hm hP hB hL hq.out with ⟨e1, hR⟩ | ⟨e1, _⟩
    · obtain ⟨s', nx2, P', B', vP', vB', hr, _⟩ := hR.is
      exact ⟨e1, hid0 ⟨hb, fun _ => hR, s', nx2, P', B', vP', vB', hr⟩⟩
    · have hq2 := hq.out
      unfold PointO at hq2
      rw [if_pos hk] at hq2
      have := hq2.1.symm.trans e1
      simp [flt, markV] at this
  · refine ⟨.nilFunc, true, .inl rfl, (fun _ => ⟨rfl, ?_⟩), hM.mono ?_⟩
    · obtain ⟨m', rfl⟩ : ∃ m', m = m' + 1 := ⟨m - 1, by omega⟩
      rw [rdS, if_neg hk] at hL
      exact hL.symm
    · intro e w' hq
      have hb := hbox _ _ hq.out
      rcases Rng.point hg hm hP hB hL hq.out with ⟨e1, hR⟩ | ⟨e1, _, s', P', B', vP', vB', hr⟩
      · have hq2 := hq.out
        unfold PointO at hq2
        rw [if_neg hk] at hq2
        have := hq2.1.symm.trans e1
        simp [flt, markV] at this
      · exact ⟨e1, hid0 ⟨hb, (fun h => by cases h), s', .nilFunc, P', B', vP', vB', hr.set rfl⟩⟩
end Go.Proofs.YtcbepmjojppokaaGreatDoor
