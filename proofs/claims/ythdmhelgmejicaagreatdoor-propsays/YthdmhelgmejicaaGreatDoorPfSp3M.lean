/-
  The normal forms of all names together, sorted, are the joined spans.
-/
import Derived.Test.YthdmhelgmejicaaGreatDoorPfSp2M
namespace Go.Proofs.YthdmhelgmejicaaGreatDoor
theorem pw_mem {R S : Sp → Sp → Prop} {l : List Sp} (h : l.Pairwise R) (H : ∀ a ∈ l, ∀ b ∈ l, R a b → S a b) : l.Pairwise S := by
  induction l with
  | nil => exact List.Pairwise.nil
  | cons x r ih =>
    rw [List.pairwise_cons] at h ⊢
    exact ⟨fun b hb => H x (.head _) b (.tail _ hb) (h.1 b hb), ih h.2 (fun a ha b hb => H a (.tail _ ha) b (.tail _ hb))⟩
/-- Ranges of a name as spans. -/
def tagL (j : Int) (l : List (Int × Int)) : List Sp := l.map fun r => (r.1, r.2, j)
theorem tag_mem (j : Int) (l : List (Int × Int)) (t : Sp) : t ∈ tagL j l ↔ (t.1, t.2.1) ∈ l ∧ t.2.2 = j := by
  constructor
  · intro h
    obtain ⟨r, hr, rfl⟩ := List.mem_map.1 h
    exact ⟨hr, rfl⟩
  · rintro ⟨h, e⟩
    refine List.mem_map.2 ⟨_, h, ?_⟩
    obtain ⟨a, b, c⟩ := t
    simp only at e
    subst e
    rfl
theorem norm_pair : ∀ {l : List (Int × Int)} {a : Int}, NormF a l → l.Pairwise (fun r s => r.2 + 1 < s.1)
  | [], _, _ => List.Pairwise.nil
  | r :: l, a, h => by
    have h2 := h
    obtain ⟨_, _, _, h4⟩ := h2
    refine List.pairwise_cons.2 ⟨fun s hs => ?_, norm_pair h4⟩
    have := (norm_mem h4 s hs).1
    omega
/-- All names' ranges, name after name. -/
def allT (N : Nat → List (Int × Int)) : Nat → List Sp
  | 0 => []
  | n + 1 => allT N n ++ tagL (n : Int) (N n)
theorem allT_mem (N : Nat → List (Int × Int)) (n : Nat) (t : Sp) : t ∈ allT N n ↔ ∃ j, j < n ∧ t.2.2 = (j : Int) ∧ (t.1, t.2.1) ∈ N j := by
  induction n with
  | zero => simp [allT]
  | succ n ih =>
    rw [allT, List.mem_append, ih, tag_mem]
    constructor
    · rintro (⟨j, h1, h2, h3⟩ | ⟨h1, h2⟩)
      · exact ⟨j, by omega, h2, h3⟩
      · exact ⟨n, by omega, h2, h1⟩
    · rintro ⟨j, h1, h2, h3⟩
      by_cases e : j = n
      · subst e; exact .inr ⟨h3, h2⟩
      · exact .inl ⟨j, by omega, h2, h3⟩
theorem allT_nodup (N : Nat → List (Int × Int)) (hN : ∀ j, NormF 0 (N j)) (n : Nat) : (allT N n).Nodup := by
  induction n with
  | zero => exact List.Pairwise.nil
  | succ n ih =>
    rw [allT]
    refine List.pairwise_append.2 ⟨ih, ?_, fun a ha b hb e => ?_⟩
    · have h1 := norm_pair (hN n)
      have h2 := norm_mem (hN n)
      have : (tagL (n : Int) (N n)).Pairwise (fun a b => a.2.1 + 1 < b.1) := by
        unfold tagL
        rw [List.pairwise_map]
        exact h1
      refine pw_mem this (fun a ha b hb h e => ?_)
      subst e
      have := h2 _ ((tag_mem _ _ a).1 ha).1
      simp only at this
      omega
    · subst e
      obtain ⟨j, h1, h2, _⟩ := (allT_mem N n a).1 ha
      have := ((tag_mem _ _ a).1 hb).2
      omega
/-- Sorted, they are what their points say. -/
theorem sorted_good (N : Nat → List (Int × Int)) (hN : ∀ j, NormF 0 (N j)) (n : Nat) (hd : ∀ i j p, pts (N i) p = true → pts (N j) p = true → i = j) (B : List Sp) (hp : B.Perm (allT N n)) (hs : B.Pairwise (fun a b => a.1 ≤ b.1)) : Good B := by
  have hm : ∀ t ∈ B, ∃ j, j < n ∧ t.2.2 = (j : Int) ∧ (t.1, t.2.1) ∈ N j := fun t ht => (allT_mem N n t).1 (hp.mem_iff.1 ht)
  have hle : ∀ t ∈ B, t.1 ≤ t.2.1 := fun t ht => by
    obtain ⟨j, _, _, h3⟩ := hm t ht
    exact (norm_mem (hN j) _ h3).2.1
  have hnd : B.Nodup := (hp.nodup_iff).2 (allT_nodup N hN n)
  have both : B.Pairwise (fun a b => a ≠ b ∧ a.1 ≤ b.1) := List.Pairwise.and hnd hs
  have key : ∀ a ∈ B, ∀ b ∈ B, (a ≠ b ∧ a.1 ≤ b.1) → a.2.1 < b.1 ∧ (a.2.2 = b.2.2 → a.2.1 + 1 < b.1) := by
    rintro a ha b hb ⟨hne, hab⟩
    obtain ⟨i, _, hi2, hi3⟩ := hm a ha
    obtain ⟨j, _, hj2, hj3⟩ := hm b hb
    have la := hle a ha
    have lb := hle b hb
    by_cases e : i = j
    · subst e
      have hpr := norm_pair (hN i)
      have h1 : a.2.1 + 1 < b.1 := by
        have hcase : ∀ {l : List (Int × Int)} {r s : Int × Int}, l.Pairwise (fun r s => r.2 + 1 < s.1) → r ∈ l → s ∈ l → r = s ∨ r.2 + 1 < s.1 ∨ s.2 + 1 < r.1 := by
          intro l r s h hr hs'
          induction l with
          | nil => simp at hr
          | cons x q ih =>
            rw [List.pairwise_cons] at h
            rcases List.mem_cons.1 hr with rfl | hr'
            · rcases List.mem_cons.1 hs' with rfl | hs''
              · exact .inl rfl
              · exact .inr (.inl (h.1 s hs''))
            · rcases List.mem_cons.1 hs' with rfl | hs''
              · exact .inr (.inr (h.1 r hr'))
              · exact ih h.2 hr' hs''
        rcases hcase hpr hi3 hj3 with h | h | h
        · exfalso
          apply hne
          obtain ⟨a1, a2, a3⟩ := a
          obtain ⟨b1, b2, b3⟩ := b
          simp only [Prod.mk.injEq] at h hi2 hj2 ⊢
          exact ⟨h.1, h.2, by omega⟩
        · exact h
        · simp only at h; omega
      exact ⟨by omega, fun _ => h1⟩
    · refine ⟨?_, fun hn => ?_⟩
      · apply Classical.byContradiction
        intro hlt
        apply e
        apply hd i j b.1
        · unfold pts; rw [List.any_eq_true]; exact ⟨_, hi3, by rw [hasR_iff]; simp only; omega⟩
        · unfold pts; rw [List.any_eq_true]; exact ⟨_, hj3, by rw [hasR_iff]; simp only; omega⟩
      · exfalso; apply e; omega
  exact ⟨⟨hle, pw_mem both (fun a ha b hb h => (key a ha b hb h).1)⟩, pw_mem both (fun a ha b hb h => (key a ha b hb h).2)⟩
theorem sorted_pts (N : Nat → List (Int × Int)) (n : Nat) (B : List Sp) (hp : B.Perm (allT N n)) (j p : Int) : ptsOf B j p ↔ ∃ k, k < n ∧ j = (k : Int) ∧ pts (N k) p = true := by
  constructor
  · rintro ⟨t, ht, h1, h2, h3⟩
    obtain ⟨k, hk, e, hm⟩ := (allT_mem N n t).1 (hp.mem_iff.1 ht)
    refine ⟨k, hk, by omega, ?_⟩
    unfold pts; rw [List.any_eq_true]; exact ⟨_, hm, by rw [hasR_iff]; exact ⟨h2, h3⟩⟩
  · rintro ⟨k, hk, rfl, h⟩
    unfold pts at h
    rw [List.any_eq_true] at h
    obtain ⟨r, hr, h⟩ := h
    rw [hasR_iff] at h
    exact ⟨(r.1, r.2, (k : Int)), hp.mem_iff.2 ((allT_mem N n _).2 ⟨k, hk, rfl, hr⟩), rfl, h.1, h.2⟩
end Go.Proofs.YthdmhelgmejicaaGreatDoor
