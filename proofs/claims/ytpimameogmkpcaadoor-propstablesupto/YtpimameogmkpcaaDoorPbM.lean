/-
  Spans, the class of a point, blocks of 128 points, the blocks that differ.
-/
namespace Go.Proofs.YtpimameogmkpcaaDoor
abbrev Sp := Int × Int × Int
def hits (p : Int) (s : Sp) : Bool := decide (s.1 ≤ p) && decide (p ≤ s.2.1)
/-- The class of a point: the number of its span's name, and one; 0: no span holds it. -/
def cls (l : List Sp) (p : Int) : Int := match l.find? (hits p) with | some s => s.2.2 + 1 | none => 0
/-- Spans that may be, of so many names. -/
structure Rise (N : Int) (l : List Sp) : Prop where
  one : ∀ s ∈ l, 0 ≤ s.1 ∧ s.1 ≤ s.2.1 ∧ s.2.1 ≤ 1114111 ∧ 0 ≤ s.2.2 ∧ s.2.2 < N
  two : l.Pairwise (fun s t => s.2.1 < t.1)
theorem hits_iff (p : Int) (s : Sp) : hits p s = true ↔ s.1 ≤ p ∧ p ≤ s.2.1 := by unfold hits; simp
theorem hits_not (p : Int) (s : Sp) : hits p s = false ↔ ¬ (s.1 ≤ p ∧ p ≤ s.2.1) := by rw [← hits_iff]; simp
theorem cls_nil (p : Int) : cls [] p = 0 := rfl
theorem cls_cons (s : Sp) (l : List Sp) (p : Int) : cls (s :: l) p = if hits p s then s.2.2 + 1 else cls l p := by
  unfold cls
  rw [List.find?_cons]
  cases hits p s <;> rfl
theorem cls_head {l m : List Sp} {p : Int} (h : ∀ s ∈ l, hits p s = false) : cls (l ++ m) p = cls m p := by
  induction l with
  | nil => rfl
  | cons s l ih => rw [List.cons_append, cls_cons, h s (by simp), ih (fun t ht => h t (by simp [ht]))]; rfl
theorem cls_tail {l m : List Sp} {p : Int} (h : ∀ s ∈ m, hits p s = false) : cls (l ++ m) p = cls l p := by
  induction l with
  | nil => exact (by have := cls_head (m := []) h; rw [List.append_nil] at this; exact this)
  | cons s l ih => rw [List.cons_append, cls_cons, cls_cons, ih]
theorem cls_bounds {N : Int} {l : List Sp} (h : Rise N l) (hN : 0 ≤ N) (p : Int) : 0 ≤ cls l p ∧ cls l p ≤ N := by
  unfold cls
  cases hf : l.find? (hits p) with
  | none => exact ⟨Int.le_refl 0, hN⟩
  | some s => have := h.one s (List.mem_of_find?_eq_some hf); simp only; omega
theorem cls_snoc {l : List Sp} {s : Sp} {p : Int} (h : ∀ t ∈ l, t.2.1 < s.1) : cls (l ++ [s]) p = if s.1 ≤ p ∧ p ≤ s.2.1 then s.2.2 + 1 else cls l p := by
  by_cases hp : s.1 ≤ p ∧ p ≤ s.2.1
  · rw [if_pos hp, cls_head (fun t ht => (hits_not p t).2 (by have := h t ht; omega)), cls_cons, (hits_iff p s).2 hp]; rfl
  · rw [if_neg hp]
    exact cls_tail (fun t ht => by rw [List.mem_singleton.1 ht]; exact (hits_not p s).2 hp)
theorem Rise.take {N : Int} {l : List Sp} (h : Rise N l) (k : Nat) : Rise N (l.take k) := ⟨fun s hs => h.one s (List.mem_of_mem_take hs), h.two.sublist (List.take_sublist k l)⟩
theorem Rise.drop {N : Int} {l : List Sp} (h : Rise N l) (k : Nat) : Rise N (l.drop k) := ⟨fun s hs => h.one s (List.mem_of_mem_drop hs), h.two.sublist (List.drop_sublist k l)⟩
theorem Rise.before {N : Int} {l : List Sp} (h : Rise N l) {k : Nat} (hk : k < l.length) : ∀ t ∈ l.take k, t.2.1 < (l[k]).1 := by
  have h2 := h.two
  rw [← List.take_append_drop k l, List.pairwise_append] at h2
  intro t ht
  exact h2.2.2 t ht _ (by rw [List.drop_eq_getElem_cons hk]; exact List.mem_cons_self)
theorem Rise.behind {N : Int} {l : List Sp} (h : Rise N l) {k : Nat} (hk : k < l.length) : ∀ t ∈ l.drop (k + 1), (l[k]).2.1 < t.1 := by
  have h2 := (h.drop k).two
  rw [List.drop_eq_getElem_cons hk, List.pairwise_cons] at h2
  exact h2.1
theorem take_succ_snoc {l : List Sp} {k : Nat} (hk : k < l.length) : l.take (k + 1) = l.take k ++ [l[k]] := by rw [List.take_add_one, List.getElem?_eq_getElem hk]; rfl
/-- Behind the last span that reaches a point. -/
theorem cls_take {N : Int} {l : List Sp} (h : Rise N l) {k : Nat} {p : Int} (hk : ∀ (q : k < l.length), p < (l[k]).1) : cls l p = cls (l.take k) p := by
  have e := List.take_append_drop k l
  rw [← congrArg (fun x => cls x p) e]
  refine cls_tail (fun t ht => (hits_not p t).2 ?_)
  by_cases q : k < l.length
  · rw [List.drop_eq_getElem_cons q] at ht
    rcases List.mem_cons.1 ht with rfl | ht
    · have := hk q; omega
    · have h1 := h.behind q t ht; have h2 := hk q; have h3 := h.one _ (List.getElem_mem q); omega
  · rw [List.drop_of_length_le (by omega)] at ht; simp at ht
theorem cls_drop {l : List Sp} {k : Nat} {p : Int} (h : ∀ s ∈ l.take k, s.2.1 < p) : cls (l.drop k) p = cls l p := by
  have e := List.take_append_drop k l
  rw [← congrArg (fun x => cls x p) e]
  exact (cls_head (fun t ht => (hits_not p t).2 (by have := h t ht; omega))).symm

/-- The blocks that differ, in the order in which they come first. -/
def ord {α : Type} [BEq α] (B : Nat → α) : Nat → List α
  | 0 => []
  | n + 1 => if (ord B n).contains (B n) then ord B n else ord B n ++ [B n]
section
variable {α : Type} [BEq α] (B : Nat → α)
theorem ord_mem [LawfulBEq α] (n k : Nat) (h : k < n) : B k ∈ ord B n := by
  induction n with
  | zero => omega
  | succ n ih =>
    rw [ord]
    by_cases e : k = n
    · subst e
      split
      · rename_i hc; exact List.contains_iff_mem.1 hc
      · simp
    · have := ih (by omega)
      split <;> simp [this]
theorem ord_sub (n : Nat) : ∀ b ∈ ord B n, ∃ k, k < n ∧ b = B k := by
  induction n with
  | zero => simp [ord]
  | succ n ih =>
    intro b hb
    rw [ord] at hb
    split at hb
    · obtain ⟨k, hk, e⟩ := ih b hb; exact ⟨k, by omega, e⟩
    · rcases List.mem_append.1 hb with hb | hb
      · obtain ⟨k, hk, e⟩ := ih b hb; exact ⟨k, by omega, e⟩
      · exact ⟨n, by omega, List.mem_singleton.1 hb⟩
theorem ord_nodup [LawfulBEq α] (n : Nat) : (ord B n).Nodup := by
  induction n with
  | zero => simp [ord]
  | succ n ih =>
    rw [ord]
    split
    · exact ih
    · rename_i hc
      rw [List.nodup_append]
      refine ⟨ih, by simp, fun a ha b hb e => ?_⟩
      rw [List.mem_singleton.1 hb] at e
      subst e
      exact hc (List.contains_iff_mem.2 ha)
theorem ord_len (n : Nat) : (ord B n).length ≤ n := by
  induction n with
  | zero => simp [ord]
  | succ n ih => rw [ord]; split <;> (try simp) <;> omega
theorem idx_snoc [LawfulBEq α] (L : List α) (b c : α) (h : b ∈ L) : (L ++ [c]).idxOf b = L.idxOf b := by rw [List.idxOf_append, if_pos h]
theorem idx_new [LawfulBEq α] (L : List α) (b : α) (h : ¬ b ∈ L) : (L ++ [b]).idxOf b = L.length := by rw [List.idxOf_append, if_neg h]; simp
theorem idx_ord [LawfulBEq α] (n k : Nat) (h : k < n) : (ord B (n + 1)).idxOf (B k) = (ord B n).idxOf (B k) := by
  rw [ord]
  split
  · rfl
  · exact idx_snoc _ _ _ (ord_mem B n k h)
end
end Go.Proofs.YtpimameogmkpcaaDoor
