/-
  Rising spans: put and join keep what they say.
-/
import Derived.Test.YthdmhelgmejicaaGreatDoorPfSpM
namespace Go.Proofs.YthdmhelgmejicaaGreatDoor
theorem putS_mem (l : List Sp) (s t : Sp) : t ∈ putS l s ↔ t = s ∨ t ∈ l := by
  induction l with
  | nil => simp [putS]
  | cons a r ih =>
    rw [putS]
    split
    · simp
    · rw [List.mem_cons, ih, List.mem_cons]
      constructor
      · rintro (h | h | h)
        · exact .inr (.inl h)
        · exact .inl h
        · exact .inr (.inr h)
      · rintro (h | h | h)
        · exact .inr (.inl h)
        · exact .inl h
        · exact .inr (.inr h)
theorem meets_no {s t : Sp} (h : meets s t = false) : s.2.1 < t.1 ∨ t.2.1 < s.1 := by
  simp only [meets, Bool.and_eq_false_iff, decide_eq_false_iff_not] at h
  omega
theorem rise_put (l : List Sp) (s : Sp) (h : Rise l) (hs : s.1 ≤ s.2.1) (hno : ∀ t ∈ l, meets s t = false) : Rise (putS l s) := by
  refine ⟨fun t ht => ?_, ?_⟩
  · rcases (putS_mem l s t).1 ht with rfl | ht
    · exact hs
    · exact h.le t ht
  · obtain ⟨hle, hup⟩ := h
    induction l with
    | nil => exact List.pairwise_singleton _ _
    | cons a r ih =>
      rw [List.pairwise_cons] at hup
      rw [putS]
      split
      · rename_i hlt
        refine List.pairwise_cons.2 ⟨fun b hb => ?_, List.pairwise_cons.2 hup⟩
        rcases List.mem_cons.1 hb with rfl | hb
        · exact hlt
        · have := hup.1 b hb; have := hle a (.head _); omega
      · rename_i hlt
        refine List.pairwise_cons.2 ⟨fun b hb => ?_, ih (fun t ht => hno t (.tail _ ht)) (fun t ht => hle t (.tail _ ht)) hup.2⟩
        rcases (putS_mem r s b).1 hb with rfl | hb
        · rcases meets_no (hno a (.head _)) with h1 | h1
          · exact absurd h1 hlt
          · exact h1
        · exact hup.1 b hb
theorem pts_put (l : List Sp) (s : Sp) (j p : Int) : ptsOf (putS l s) j p ↔ ptsOf l j p ∨ (s.2.2 = j ∧ s.1 ≤ p ∧ p ≤ s.2.1) := by
  constructor
  · rintro ⟨t, ht, h⟩
    rcases (putS_mem l s t).1 ht with rfl | ht
    · exact .inr h
    · exact .inl ⟨t, ht, h⟩
  · rintro (⟨t, ht, h⟩ | h)
    · exact ⟨t, (putS_mem l s t).2 (.inr ht), h⟩
    · exact ⟨s, (putS_mem l s s).2 (.inl rfl), h⟩
theorem snoc_ind {P : List Sp → Prop} (h0 : P []) (h1 : ∀ l t, P l → P (l ++ [t])) : ∀ l, P l := by
  intro l
  rw [← l.reverse_reverse]
  induction l.reverse with
  | nil => exact h0
  | cons a r ih => rw [List.reverse_cons]; exact h1 _ _ ih
theorem pts_app (l m : List Sp) (j p : Int) : ptsOf (l ++ m) j p ↔ ptsOf l j p ∨ ptsOf m j p := by
  constructor
  · rintro ⟨t, ht, h⟩
    rcases List.mem_append.1 ht with ht | ht
    · exact .inl ⟨t, ht, h⟩
    · exact .inr ⟨t, ht, h⟩
  · rintro (⟨t, ht, h⟩ | ⟨t, ht, h⟩)
    · exact ⟨t, List.mem_append.2 (.inl ht), h⟩
    · exact ⟨t, List.mem_append.2 (.inr ht), h⟩
theorem pts_one (t : Sp) (j p : Int) : ptsOf [t] j p ↔ t.2.2 = j ∧ t.1 ≤ p ∧ p ≤ t.2.1 := by
  constructor
  · rintro ⟨u, hu, h⟩
    simp at hu
    subst hu
    exact h
  · intro h
    exact ⟨t, by simp, h⟩
theorem join_good : ∀ (l : List Sp), Rise l → Good (joinL l) ∧ (∀ j p, ptsOf (joinL l) j p ↔ ptsOf l j p) ∧ (∀ b ∈ joinL l, ∃ a ∈ l, b.2.1 = a.2.1) := by
  apply snoc_ind
  · intro _
    exact ⟨⟨⟨fun t ht => by simp [joinL] at ht, List.Pairwise.nil⟩, List.Pairwise.nil⟩, fun j p => Iff.rfl, fun b hb => by simp [joinL] at hb⟩
  · intro l t ih h
    have hup := List.pairwise_append.1 h.up
    have hl : Rise l := ⟨fun x hx => h.le x (List.mem_append.2 (.inl hx)), hup.1⟩
    have ht : t.1 ≤ t.2.1 := h.le t (by simp)
    obtain ⟨g, hp, hh⟩ := ih hl
    have hlt : ∀ b ∈ joinL l, b.2.1 < t.1 := fun b hb => by
      obtain ⟨a, ha, e⟩ := hh b hb
      have := hup.2.2 a ha t (by simp)
      omega
    rw [joinL_snoc]
    generalize joinL l = o at g hp hh hlt
    rcases snoc_cases o with rfl | ⟨o', u, rfl⟩
    · refine ⟨⟨⟨fun x hx => ?_, List.pairwise_singleton _ _⟩, List.pairwise_singleton _ _⟩, fun j p => ?_, fun b hb => ?_⟩
      · simp [joinStep] at hx; subst hx; exact ht
      · rw [pts_app, ← hp]
        show ptsOf [t] j p ↔ _
        constructor
        · exact .inr
        · rintro (⟨x, hx, _⟩ | h)
          · simp at hx
          · exact h
      · simp [joinStep] at hb; subst hb; exact ⟨b, by simp, rfl⟩
    · have hu : u.1 ≤ u.2.1 := g.rise.le u (by simp)
      have gu := List.pairwise_append.1 g.rise.up
      have gg := List.pairwise_append.1 g.gap
      have hut := hlt u (by simp)
      by_cases hj : u.2.1 + 1 = t.1 ∧ u.2.2 = t.2.2
      · rw [join_yes _ _ _ hj.1 hj.2]
        refine ⟨⟨⟨fun x hx => ?_, List.pairwise_append.2 ⟨gu.1, List.pairwise_singleton _ _, fun a ha b hb => ?_⟩⟩, List.pairwise_append.2 ⟨gg.1, List.pairwise_singleton _ _, fun a ha b hb hn => ?_⟩⟩, fun j p => ?_, fun b hb => ?_⟩
        · rcases List.mem_append.1 hx with hx | hx
          · exact g.rise.le x (by simp [hx])
          · simp at hx; subst hx; simp only; omega
        · simp at hb; subst hb; exact gu.2.2 a ha u (by simp)
        · simp at hb; subst hb; exact gg.2.2 a ha u (by simp) hn
        · rw [pts_app, pts_app, ← hp, pts_app, pts_one, pts_one, pts_one]
          simp only
          have e1 := hj.1
          have e2 := hj.2
          constructor
          · rintro (h1 | ⟨h1, h2, h3⟩)
            · exact .inl (.inl h1)
            · by_cases hpu : p ≤ u.2.1
              · exact .inl (.inr ⟨h1, h2, hpu⟩)
              · exact .inr ⟨by omega, by omega, h3⟩
          · rintro ((h1 | ⟨h1, h2, h3⟩) | ⟨h1, h2, h3⟩)
            · exact .inl h1
            · exact .inr ⟨h1, h2, by omega⟩
            · exact .inr ⟨by omega, by omega, h3⟩
        · rcases List.mem_append.1 hb with hb | hb
          · obtain ⟨a, ha, e⟩ := hh b (by simp [hb])
            exact ⟨a, by simp [ha], e⟩
          · simp at hb; subst hb; exact ⟨t, by simp, rfl⟩
      · rw [join_no _ _ _ hj]
        refine ⟨⟨⟨fun x hx => ?_, List.pairwise_append.2 ⟨g.rise.up, List.pairwise_singleton _ _, fun a ha b hb => ?_⟩⟩, List.pairwise_append.2 ⟨g.gap, List.pairwise_singleton _ _, fun a ha b hb hn => ?_⟩⟩, fun j p => ?_, fun b hb => ?_⟩
        · rcases List.mem_append.1 hx with hx | hx
          · exact g.rise.le x hx
          · simp at hx; subst hx; exact ht
        · simp at hb; subst hb; exact hlt a ha
        · simp at hb; subst hb
          rcases List.mem_append.1 ha with ha' | ha'
          · have h1 := gu.2.2 a ha' u (by simp)
            omega
          · simp at ha'; subst ha'
            apply Classical.byContradiction
            intro hne
            exact hj ⟨by omega, hn⟩
        · rw [pts_app (l := o' ++ [u]), pts_app (l := l), ← hp]
        · rcases List.mem_append.1 hb with hb | hb
          · obtain ⟨a, ha, e⟩ := hh b hb
            exact ⟨a, by simp [ha], e⟩
          · simp at hb; subst hb; exact ⟨b, by simp, rfl⟩
end Go.Proofs.YthdmhelgmejicaaGreatDoor
