/-
  Rising spans, as mathematics: what their points say of them.
-/
import Derived.Test.YthdmhelgmejicaaGreatDoorPfJnW
namespace Go.Proofs.YthdmhelgmejicaaGreatDoor
/-- A point has a name in a list of spans. -/
def ptsOf (l : List Sp) (j p : Int) : Prop := ∃ t ∈ l, t.2.2 = j ∧ t.1 ≤ p ∧ p ≤ t.2.1
/-- Rising spans. -/
structure Rise (l : List Sp) : Prop where
  le : ∀ t ∈ l, t.1 ≤ t.2.1
  up : l.Pairwise (fun a b => a.2.1 < b.1)
/-- .. of which no two neighbours of one name touch. -/
structure Good (l : List Sp) : Prop where
  rise : Rise l
  gap : l.Pairwise (fun a b => a.2.2 = b.2.2 → a.2.1 + 1 < b.1)
theorem pair_mem {R : Sp → Sp → Prop} {l : List Sp} (h : l.Pairwise R) {a b : Sp} (ha : a ∈ l) (hb : b ∈ l) : a = b ∨ R a b ∨ R b a := by
  induction l with
  | nil => simp at ha
  | cons x r ih =>
    rw [List.pairwise_cons] at h
    rcases List.mem_cons.1 ha with rfl | ha'
    · rcases List.mem_cons.1 hb with rfl | hb'
      · exact .inl rfl
      · exact .inr (.inl (h.1 b hb'))
    · rcases List.mem_cons.1 hb with rfl | hb'
      · exact .inr (.inr (h.1 a ha'))
      · exact ih h.2 ha' hb'
theorem Good.mem {l : List Sp} (h : Good l) (t : Sp) : t ∈ l ↔ t.1 ≤ t.2.1 ∧ (∀ p, t.1 ≤ p → p ≤ t.2.1 → ptsOf l t.2.2 p) ∧ ¬ ptsOf l t.2.2 (t.1 - 1) ∧ ¬ ptsOf l t.2.2 (t.2.1 + 1) := by
  constructor
  · intro ht
    have hle := h.rise.le t ht
    refine ⟨hle, fun p h1 h2 => ⟨t, ht, rfl, h1, h2⟩, ?_, ?_⟩
    · rintro ⟨u, hu, hn, h1, h2⟩
      have hule := h.rise.le u hu
      rcases pair_mem h.rise.up hu ht with rfl | e | e
      · omega
      · rcases pair_mem h.gap hu ht with rfl | g | g
        · omega
        · have := g hn; omega
        · have := g hn.symm; omega
      · omega
    · rintro ⟨u, hu, hn, h1, h2⟩
      have hule := h.rise.le u hu
      rcases pair_mem h.rise.up hu ht with rfl | e | e
      · omega
      · omega
      · rcases pair_mem h.gap hu ht with rfl | g | g
        · omega
        · have := g hn; omega
        · have := g hn.symm; omega
  · rintro ⟨hle, hall, hlo, hhi⟩
    obtain ⟨u, hu, hn, h1, h2⟩ := hall t.1 (Int.le_refl _) hle
    have hule := h.rise.le u hu
    have e1 : u.1 = t.1 := by
      apply Classical.byContradiction
      intro hne
      exact hlo ⟨u, hu, hn, by omega, by omega⟩
    have e2 : u.2.1 = t.2.1 := by
      apply Classical.byContradiction
      intro hne
      by_cases hlt : u.2.1 < t.2.1
      · obtain ⟨v, hv, hvn, h3, h4⟩ := hall (u.2.1 + 1) (by omega) (by omega)
        rcases pair_mem h.gap hu hv with rfl | g | g
        · omega
        · have := g (hn.trans hvn.symm); omega
        · have := g (hvn.trans hn.symm); have := h.rise.le v hv; omega
      · exact hhi ⟨u, hu, hn, by omega, by omega⟩
    have : u = t := by
      obtain ⟨a, b, c⟩ := u
      obtain ⟨a', b', c'⟩ := t
      simp only at e1 e2 hn
      rw [e1, e2, hn]
    exact this ▸ hu
theorem strict_eq : ∀ (l m : List Sp), l.Pairwise (fun a b => a.1 < b.1) → m.Pairwise (fun a b => a.1 < b.1) → (∀ t, t ∈ l ↔ t ∈ m) → l = m := by
  intro l
  induction l with
  | nil =>
    intro m _ _ h
    cases m with
    | nil => rfl
    | cons b r => have := (h b).2 (.head _); simp at this
  | cons a r ih =>
    intro m hl hm h
    cases m with
    | nil => have := (h a).1 (.head _); simp at this
    | cons b s =>
      rw [List.pairwise_cons] at hl hm
      have hab : a = b := by
        rcases List.mem_cons.1 ((h a).1 (.head _)) with e | ha
        · exact e
        · rcases List.mem_cons.1 ((h b).2 (.head _)) with e | hb
          · exact e.symm
          · have h1 := hm.1 a ha
            have h2 := hl.1 b hb
            omega
      subst hab
      congr 1
      refine ih s hl.2 hm.2 (fun t => ⟨fun ht => ?_, fun ht => ?_⟩)
      · rcases List.mem_cons.1 ((h t).1 (.tail _ ht)) with e | h'
        · subst e; have := hl.1 t ht; omega
        · exact h'
      · rcases List.mem_cons.1 ((h t).2 (.tail _ ht)) with e | h'
        · subst e; have := hm.1 t ht; omega
        · exact h'
theorem Rise.strict {l : List Sp} (h : Rise l) : l.Pairwise (fun a b => a.1 < b.1) := by
  obtain ⟨hle, hup⟩ := h
  induction l with
  | nil => exact List.Pairwise.nil
  | cons a r ih =>
    rw [List.pairwise_cons] at hup ⊢
    exact ⟨fun b hb => by have := hup.1 b hb; have := hle a (.head _); omega, ih (fun t ht => hle t (.tail _ ht)) hup.2⟩
/-- What the points say decides. -/
theorem Good.unique {l m : List Sp} (hl : Good l) (hm : Good m) (h : ∀ j p, ptsOf l j p ↔ ptsOf m j p) : l = m := by
  refine strict_eq l m hl.rise.strict hm.rise.strict (fun t => ?_)
  rw [hl.mem, hm.mem]
  constructor
  · rintro ⟨a, b, c, d⟩
    exact ⟨a, fun p h1 h2 => (h _ _).1 (b p h1 h2), fun x => c ((h _ _).2 x), fun x => d ((h _ _).2 x)⟩
  · rintro ⟨a, b, c, d⟩
    exact ⟨a, fun p h1 h2 => (h _ _).2 (b p h1 h2), fun x => c ((h _ _).1 x), fun x => d ((h _ _).1 x)⟩
end Go.Proofs.YthdmhelgmejicaaGreatDoor
