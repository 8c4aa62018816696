/-
  One step of the walk over the edges.
-/
import Derived.Test.YthdmhelgmejicaaGreatDoorPassW
namespace Go.Proofs.YthdmhelgmejicaaGreatDoor
open Go.RowKit
theorem split_at (c : Int) : ∀ (r : List (Int × Int)), c ≤ 1114112 → r.Pairwise (fun x y => x.1 ≤ y.1) → (∀ e ∈ r, c ≤ e.1) →
    ∃ p q, r = p ++ q ∧ (∀ e ∈ p, e.1 = c) ∧ nextOf q ≠ c ∧ (∀ e, q.head? = some e → c < e.1) ∧ (nextOf r = c → 0 < p.length)
  | [], hc, _, _ => ⟨[], [], rfl, fun e he => (by cases he), (by show (1114113 : Int) ≠ c; omega), fun e he => (by cases he), fun h => (by have : (1114113 : Int) = c := h; omega)⟩
  | e :: r, hc, hs, hge => by
    by_cases he : e.1 = c
    · obtain ⟨p, q, h1, h2, h3, h4, _⟩ := split_at c r hc (List.pairwise_cons.1 hs).2 (fun x hx => hge x (by simp [hx]))
      refine ⟨e :: p, q, by rw [h1]; rfl, fun x hx => ?_, h3, h4, fun _ => by simp⟩
      rcases List.mem_cons.1 hx with rfl | hx
      · exact he
      · exact h2 x hx
    · refine ⟨[], e :: r, rfl, fun x hx => (by cases hx), he, fun x hx => ?_, fun h => absurd h he⟩
      have := hge e (by simp)
      cases hx
      omega
theorem SideAt.next_le {l r : List (Int × Int)} {c o : Int} (h : SideAt l c r o) : ∀ e ∈ r, nextOf r ≤ e.1 := by
  cases r with
  | nil => intro e he; cases he
  | cons x r =>
    intro e he
    rcases List.mem_cons.1 he with rfl | he
    · exact Int.le_refl _
    · exact (List.pairwise_cons.1 h.rising).1 e he
theorem SideAt.next_gt {l r : List (Int × Int)} {c o : Int} (h : SideAt l c r o) (hc : c ≤ 1114112) : c < nextOf r ∧ nextOf r ≤ 1114113 ∧ (nextOf r = 1114113 → r = []) := by
  cases r with
  | nil => exact ⟨by show c < 1114113; omega, Int.le_refl _, fun _ => rfl⟩
  | cons x r =>
    have h1 := h.ahead x (by simp)
    have h2 := h.mem x (by simp)
    exact ⟨h1, by show x.1 ≤ 1114113; omega, fun h3 => by have : x.1 = 1114113 := h3; omega⟩
theorem SideAt.bound {l r : List (Int × Int)} {c o : Int} (h : SideAt l c r o) : -(2 * l.length : Int) ≤ o ∧ o ≤ 2 * l.length ∧ (r.length : Int) ≤ 2 * l.length := by
  obtain ⟨pre, hperm, hpre, rfl⟩ := h.past
  have h1 := hperm.length_eq
  rw [edges_length, List.length_append] at h1
  have h2 : ∀ e ∈ pre, e.2 = 1 ∨ e.2 = -1 := fun e he => (edges_at h.may e (hperm.mem_iff.1 (List.mem_append_left _ he))).2.2
  have h3 := sumAll_bound pre h2
  omega
/-- The step of a walk: all edges at the next point are passed. -/
structure StepTo (la lb : List (Int × Int)) (c c' : Int) (r1 r2 p1 q1 p2 q2 : List (Int × Int)) (o1 o2 : Int) : Prop where
  e1 : r1 = p1 ++ q1
  e2 : r2 = p2 ++ q2
  at1 : ∀ e ∈ p1, e.1 = c'
  at2 : ∀ e ∈ p2, e.1 = c'
  n1 : nextOf q1 ≠ c'
  n2 : nextOf q2 ≠ c'
  s1 : SideAt la c' q1 (o1 + sumAll p1)
  s2 : SideAt lb c' q2 (o2 + sumAll p2)
  m1 : ∀ e ∈ p1, e.2 = 1 ∨ e.2 = -1
  m2 : ∀ e ∈ p2, e.2 = 1 ∨ e.2 = -1
  lt : c < c'
  le : c' ≤ 1114112
  less : q1.length + q2.length < r1.length + r2.length
  bet : ∀ p, c ≤ p → p < c' → pts la p = pts la c ∧ pts lb p = pts lb c
theorem step_to {la lb r1 r2 : List (Int × Int)} {c o1 o2 : Int} (hc : c ≤ 1114112) (h1 : SideAt la c r1 o1) (h2 : SideAt lb c r2 o2) (hne : min (nextOf r1) (nextOf r2) ≠ 1114113) :
    ∃ p1 q1 p2 q2, StepTo la lb c (min (nextOf r1) (nextOf r2)) r1 r2 p1 q1 p2 q2 o1 o2 := by
  obtain ⟨g1, g2, g3⟩ := h1.next_gt hc
  obtain ⟨k1, k2, k3⟩ := h2.next_gt hc
  generalize hm : min (nextOf r1) (nextOf r2) = m at *
  have hm1 : m ≤ nextOf r1 := by omega
  have hm2 : m ≤ nextOf r2 := by omega
  have hm3 : m = nextOf r1 ∨ m = nextOf r2 := by omega
  have hle : m ≤ 1114112 := by omega
  obtain ⟨p1, q1, a1, a2, a3, a4, a5⟩ := split_at m r1 hle h1.rising (fun e he => Int.le_trans hm1 (h1.next_le e he))
  obtain ⟨p2, q2, b1, b2, b3, b4, b5⟩ := split_at m r2 hle h2.rising (fun e he => Int.le_trans hm2 (h2.next_le e he))
  have hlt : c < m := by omega
  refine ⟨p1, q1, p2, q2, a1, b1, a2, b2, a3, b3, ?_, ?_, ?_, ?_, hlt, hle, ?_, ?_⟩
  · exact SideAt.pass (by rw [← a1]; exact h1) hlt a2 a4
  · exact SideAt.pass (by rw [← b1]; exact h2) hlt b2 b4
  · exact fun e he => (h1.mem e (by rw [a1]; simp [he])).2.2
  · exact fun e he => (h2.mem e (by rw [b1]; simp [he])).2.2
  · have l1 := congrArg List.length a1
    have l2 := congrArg List.length b1
    rw [List.length_append] at l1 l2
    rcases hm3 with e | e
    · have := a5 e.symm; omega
    · have := b5 e.symm; omega
  · intro p hp1 hp2
    refine ⟨?_, ?_⟩
    · rw [h1.pts p hp1 (fun e he => by have := h1.next_le e he; omega), h1.pts c (Int.le_refl _) (fun e he => h1.ahead e he)]
    · rw [h2.pts p hp1 (fun e he => by have := h2.next_le e he; omega), h2.pts c (Int.le_refl _) (fun e he => h2.ahead e he)]
theorem step_none {la lb r1 r2 : List (Int × Int)} {c o1 o2 : Int} (hc : c ≤ 1114112) (h1 : SideAt la c r1 o1) (h2 : SideAt lb c r2 o2) (he : min (nextOf r1) (nextOf r2) = 1114113) (p : Int) (hp : c ≤ p) : pts la p = false ∧ pts lb p = false := by
  obtain ⟨g1, g2, g3⟩ := h1.next_gt hc
  obtain ⟨k1, k2, k3⟩ := h2.next_gt hc
  have e1 := g3 (by omega)
  have e2 := k3 (by omega)
  subst e1 e2
  exact ⟨h1.over p hp, h2.over p hp⟩
theorem norm_len : ∀ {l : List (Int × Int)} {a : Int}, NormF a l → 0 ≤ a → (l.length : Int) ≤ 1114112 ∧ (0 < l.length → (l.length : Int) + a ≤ 1114112)
  | [], _, _, _ => ⟨by simp, fun h => (by simp at h)⟩
  | r :: l, a, ⟨g1, g2, g3, g4⟩, ha => by
    have := norm_len g4 (by omega)
    rw [List.length_cons]
    by_cases h : 0 < l.length
    · have := this.2 h; omega
    · omega
end Go.Proofs.YthdmhelgmejicaaGreatDoor
