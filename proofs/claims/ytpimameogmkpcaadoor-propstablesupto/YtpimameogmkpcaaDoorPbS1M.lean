/-
  Spans cut in two; how many blocks differ.
-/
import Derived.Test.YtpimameogmkpcaaDoorPbL1W
namespace Go.Proofs.YtpimameogmkpcaaDoor
theorem cls_in {N : Int} {ss : List Sp} (h : Rise N ss) {k : Nat} (hk : k < ss.length) {p : Int} (h1 : ss[k].1 ≤ p) (h2 : p ≤ ss[k].2.1) : cls ss p = ss[k].2.2 + 1 := by
  have e : cls (ss.take (k + 1)) p = ss[k].2.2 + 1 := by rw [take_succ_snoc hk, cls_snoc (h.before hk), if_pos ⟨h1, h2⟩]
  rw [cls_take h (k := k + 1) (fun q => by have := h.behind hk _ (by rw [List.drop_eq_getElem_cons q]; exact List.mem_cons_self); omega)]
  exact e
/-- Between the spans ahead of the k-th and the k-th: no class. -/
theorem cls_gap {N : Int} {ss : List Sp} (h : Rise N ss) {k : Nat} {p : Int} (h1 : ∀ s ∈ ss.take k, s.2.1 < p) (h2 : ∀ (q : k < ss.length), p < ss[k].1) : cls ss p = 0 := by
  rw [cls_take h h2]
  have := cls_tail (l := []) (m := ss.take k) (p := p) (fun s hs => (hits_not p s).2 (by have := h1 s hs; omega))
  rw [List.nil_append] at this
  rw [this]; rfl
def midOf (s : Sp) : Int := s.1 + (s.2.1 - s.1).tdiv 2
def cut1 (s : Sp) : List Sp := if midOf s < s.2.1 then [(s.1, midOf s, s.2.2), (midOf s + 1, s.2.1, s.2.2)] else [(s.1, midOf s, s.2.2)]
def cutL (ss : List Sp) : List Sp := ss.flatMap cut1
theorem mid_in (s : Sp) (h : s.1 ≤ s.2.1) : s.1 ≤ midOf s ∧ midOf s ≤ s.2.1 := by
  unfold midOf
  rw [Int.tdiv_eq_ediv_of_nonneg (by omega)]
  omega
theorem cut1_any (p : Int) (s : Sp) (h : s.1 ≤ s.2.1) : cls (cut1 s) p = if hits p s then s.2.2 + 1 else 0 := by
  have hm := mid_in s h
  unfold cut1
  split
  · rename_i hlt
    rw [cls_cons, cls_cons, cls_nil]
    by_cases e1 : hits p (s.1, midOf s, s.2.2) = true
    · rw [e1, if_pos rfl]
      have := (hits_iff _ _).1 e1
      rw [(hits_iff p s).2 (by simp only at this; omega), if_pos rfl]
    · have e1' : hits p (s.1, midOf s, s.2.2) = false := by simpa using e1
      rw [e1']
      by_cases e2 : hits p (midOf s + 1, s.2.1, s.2.2) = true
      · rw [e2]
        have := (hits_iff _ _).1 e2
        rw [(hits_iff p s).2 (by simp only at this; omega)]
        rfl
      · have e2' : hits p (midOf s + 1, s.2.1, s.2.2) = false := by simpa using e2
        have n1 := (hits_not _ _).1 e1'
        have n2 := (hits_not _ _).1 e2'
        simp only at n1 n2
        rw [e2', (hits_not p s).2 (by omega)]
        rfl
  · rename_i hlt
    have e : midOf s = s.2.1 := by omega
    rw [cls_cons, cls_nil, e]
theorem hit_cut {p : Int} {s : Sp} (h : s.1 ≤ s.2.1) (hn : hits p s = false) : ∀ t ∈ cut1 s, hits p t = false := by
  have hm := mid_in s h
  have n := (hits_not _ _).1 hn
  intro t ht
  refine (hits_not _ _).2 ?_
  unfold cut1 at ht
  split at ht
  · simp only [List.mem_cons, List.not_mem_nil, or_false] at ht
    rcases ht with rfl | rfl <;> simp only <;> omega
  · rw [List.mem_singleton.1 ht]; simp only; omega
theorem cut_cls {N : Int} : ∀ {ss : List Sp}, Rise N ss → ∀ p, cls (cutL ss) p = cls ss p
  | [], _, _ => rfl
  | s :: r, h, p => by
    have h1 := h.one s (by simp)
    have h2 := List.pairwise_cons.1 h.two
    have hr : Rise N r := ⟨fun t ht => h.one t (by simp [ht]), h2.2⟩
    have ih := cut_cls hr p
    have e : cutL (s :: r) = cut1 s ++ cutL r := rfl
    rw [e, cls_cons]
    by_cases hh : hits p s = true
    · rw [if_pos hh]
      have hz : cls (cut1 s) p = s.2.2 + 1 := by rw [cut1_any p s h1.2.1, if_pos hh]
      rw [← hz]
      refine cls_tail (fun t ht => (hits_not _ _).2 ?_)
      obtain ⟨u, hu, hut⟩ := List.mem_flatMap.1 ht
      have g1 := h2.1 u hu
      have g2 := hr.one u hu
      have g3 := (hits_iff _ _).1 hh
      have g4 := mid_in u g2.2.1
      unfold cut1 at hut
      split at hut
      · simp only [List.mem_cons, List.not_mem_nil, or_false] at hut
        rcases hut with rfl | rfl <;> simp only <;> omega
      · rw [List.mem_singleton.1 hut]; simp only; omega
    · have hh' : hits p s = false := by simpa using hh
      rw [if_neg hh, ← ih]
      exact cls_head (hit_cut h1.2.1 hh')
theorem cut_rise {N : Int} : ∀ {ss : List Sp}, Rise N ss → Rise N (cutL ss) ∧ ∀ q : Int, (∀ s ∈ ss, q < s.1) → ∀ t ∈ cutL ss, q < t.1
  | [], _ => ⟨⟨fun s hs => by simp [cutL] at hs, List.Pairwise.nil⟩, fun _ _ t ht => by simp [cutL] at ht⟩
  | s :: r, h => by
    have h1 := h.one s (by simp)
    have h2 := List.pairwise_cons.1 h.two
    have hr : Rise N r := ⟨fun t ht => h.one t (by simp [ht]), h2.2⟩
    obtain ⟨ih1, ih2⟩ := cut_rise hr
    have e : cutL (s :: r) = cut1 s ++ cutL r := rfl
    have hm := mid_in s h1.2.1
    have hb := ih2 s.2.1 h2.1
    rw [e]
    unfold cut1
    split
    · rename_i hlt
      refine ⟨⟨fun t ht => ?_, ?_⟩, fun q hq t ht => ?_⟩
      · simp only [List.cons_append, List.nil_append, List.mem_cons] at ht
        rcases ht with rfl | rfl | ht
        · simp only; omega
        · simp only; omega
        · exact ih1.one t ht
      · simp only [List.cons_append, List.nil_append]
        refine List.pairwise_cons.2 ⟨fun t ht => ?_, List.pairwise_cons.2 ⟨fun t ht => ?_, ih1.two⟩⟩
        · rcases List.mem_cons.1 ht with rfl | ht
          · simp only; omega
          · have := hb t ht; simp only; omega
        · have := hb t ht; simp only; omega
      · simp only [List.cons_append, List.nil_append, List.mem_cons] at ht
        have q0 := hq s (by simp)
        rcases ht with rfl | rfl | ht
        · exact q0
        · simp only; omega
        · have := hb t ht; omega
    · rename_i hlt
      refine ⟨⟨fun t ht => ?_, ?_⟩, fun q hq t ht => ?_⟩
      · simp only [List.cons_append, List.nil_append, List.mem_cons] at ht
        rcases ht with rfl | ht
        · simp only; omega
        · exact ih1.one t ht
      · simp only [List.cons_append, List.nil_append]
        exact List.pairwise_cons.2 ⟨fun t ht => by have := hb t ht; simp only; omega, ih1.two⟩
      · simp only [List.cons_append, List.nil_append, List.mem_cons] at ht
        have q0 := hq s (by simp)
        rcases ht with rfl | ht
        · exact q0
        · have := hb t ht; omega
theorem nodup_le : ∀ (m : Nat) (l : List Nat), l.Nodup → (∀ x ∈ l, x < m) → l.length ≤ m
  | 0, l, _, h => by
    match l with
    | [] => simp
    | x :: r => exact absurd (h x (by simp)) (Nat.not_lt_zero _)
  | m + 1, l, hn, h => by
    by_cases hm : m ∈ l
    · have h1 := nodup_le m (l.erase m) (hn.erase m) (fun x hx => by
        have h2 := (hn.mem_erase_iff).1 hx
        have h3 := h x h2.2
        omega)
      rw [List.length_erase_of_mem hm] at h1
      omega
    · have h1 := nodup_le m l hn (fun x hx => by
        have h3 := h x hx
        have : x ≠ m := fun e => hm (e ▸ hx)
        omega)
      omega
/-- What tells one block from another: the span that begins in it, or ends in it, or covers it. -/
def codeOf (ss : List Sp) (k : Nat) : Nat :=
  match ss.findIdx? (fun s => decide (128 * (k : Int) ≤ s.1) && decide (s.1 < 128 * (k : Int) + 128)) with
  | some j => 3 * j
  | none => match ss.findIdx? (fun s => decide (128 * (k : Int) ≤ s.2.1) && decide (s.2.1 < 128 * (k : Int) + 127)) with
    | some j => 3 * j + 1
    | none => match ss.findIdx? (fun s => decide (s.1 < 128 * (k : Int)) && decide (128 * (k : Int) + 127 ≤ s.2.1)) with
      | some j => 3 * j + 2
      | none => 3 * ss.length
/-- What a code says. -/
inductive CodeIs (ss : List Sp) (k : Nat) : Nat → Prop
  | begins (j : Nat) (hj : j < ss.length) (h : 128 * (k : Int) ≤ ss[j].1 ∧ ss[j].1 < 128 * (k : Int) + 128) : CodeIs ss k (3 * j)
  | ends (j : Nat) (hj : j < ss.length) (h : 128 * (k : Int) ≤ ss[j].2.1 ∧ ss[j].2.1 < 128 * (k : Int) + 127) : CodeIs ss k (3 * j + 1)
  | covers (j : Nat) (hj : j < ss.length) (h : ss[j].1 < 128 * (k : Int) ∧ 128 * (k : Int) + 127 ≤ ss[j].2.1) : CodeIs ss k (3 * j + 2)
  | empty (h1 : ∀ s ∈ ss, ¬ (128 * (k : Int) ≤ s.1 ∧ s.1 < 128 * (k : Int) + 128)) (h2 : ∀ s ∈ ss, ¬ (128 * (k : Int) ≤ s.2.1 ∧ s.2.1 < 128 * (k : Int) + 127)) (h3 : ∀ s ∈ ss, ¬ (s.1 < 128 * (k : Int) ∧ 128 * (k : Int) + 127 ≤ s.2.1)) : CodeIs ss k (3 * ss.length)
theorem code_is (ss : List Sp) (k : Nat) : CodeIs ss k (codeOf ss k) := by
  unfold codeOf
  cases h1 : ss.findIdx? (fun s => decide (128 * (k : Int) ≤ s.1) && decide (s.1 < 128 * (k : Int) + 128)) with
  | some j =>
    obtain ⟨hj, hp, _⟩ := List.findIdx?_eq_some_iff_getElem.1 h1
    exact .begins j hj (by simpa using hp)
  | none =>
    have n1 := List.findIdx?_eq_none_iff.1 h1
    cases h2 : ss.findIdx? (fun s => decide (128 * (k : Int) ≤ s.2.1) && decide (s.2.1 < 128 * (k : Int) + 127)) with
    | some j =>
      obtain ⟨hj, hp, _⟩ := List.findIdx?_eq_some_iff_getElem.1 h2
      exact .ends j hj (by simpa using hp)
    | none =>
      have n2 := List.findIdx?_eq_none_iff.1 h2
      cases h3 : ss.findIdx? (fun s => decide (s.1 < 128 * (k : Int)) && decide (128 * (k : Int) + 127 ≤ s.2.1)) with
      | some j =>
        obtain ⟨hj, hp, _⟩ := List.findIdx?_eq_some_iff_getElem.1 h3
        exact .covers j hj (by simpa using hp)
      | none =>
        have n3 := List.findIdx?_eq_none_iff.1 h3
        exact .empty (fun s hs e => by have := n1 s hs; simp [e] at this) (fun s hs e => by have := n2 s hs; simp [e] at this) (fun s hs e => by have := n3 s hs; simp [e] at this)
theorem code_le (ss : List Sp) (k c : Nat) (h : CodeIs ss k c) : c < 3 * ss.length + 1 := by
  cases h <;> omega
theorem code_same {N : Int} {ss : List Sp} (hR : Rise N ss) (k1 k2 : Nat) (c1 c2 : Nat) (h1 : CodeIs ss k1 c1) (h2 : CodeIs ss k2 c2) (e : c1 = c2) : blkOf (cls ss) k1 = blkOf (cls ss) k2 := by
  have full : ∀ (k j : Nat) (hj : j < ss.length), ss[j].1 < 128 * (k : Int) ∧ 128 * (k : Int) + 127 ≤ ss[j].2.1 → blkOf (cls ss) k = List.replicate 128 (ss[j].2.2 + 1) := fun k j hj h => by
    unfold blkOf
    refine List.ext_getElem (by simp) (fun i hi _ => ?_)
    simp only [List.length_map, List.length_range] at hi
    simp only [List.getElem_map, List.getElem_range, List.getElem_replicate]
    exact cls_in hR hj (by omega) (by omega)
  have none' : ∀ (k : Nat), (∀ s ∈ ss, ¬ (128 * (k : Int) ≤ s.1 ∧ s.1 < 128 * (k : Int) + 128)) → (∀ s ∈ ss, ¬ (128 * (k : Int) ≤ s.2.1 ∧ s.2.1 < 128 * (k : Int) + 127)) → (∀ s ∈ ss, ¬ (s.1 < 128 * (k : Int) ∧ 128 * (k : Int) + 127 ≤ s.2.1)) → blkOf (cls ss) k = List.replicate 128 0 := fun k g1 g2 g3 => by
    unfold blkOf
    refine List.ext_getElem (by simp) (fun i hi _ => ?_)
    simp only [List.length_map, List.length_range] at hi
    simp only [List.getElem_map, List.getElem_range, List.getElem_replicate]
    have := cls_tail (l := []) (m := ss) (p := 128 * (k : Int) + (i : Int)) (fun s hs => (hits_not _ _).2 (by have a1 := g1 s hs; have a2 := g2 s hs; have a3 := g3 s hs; omega))
    rw [List.nil_append] at this
    rw [this]; rfl
  have blk : ∀ (a b : Int) (k1 k2 : Nat), a = b → 128 * (k1 : Int) ≤ a → a < 128 * (k1 : Int) + 128 → 128 * (k2 : Int) ≤ b → b < 128 * (k2 : Int) + 128 → k1 = k2 := fun a b k1 k2 e _ _ _ _ => by omega
  cases h1 with
  | begins j hj h =>
    cases h2 with
    | begins i hi g => obtain rfl : j = i := by omega
                       obtain rfl := blk _ _ k1 k2 rfl h.1 h.2 g.1 g.2
                       rfl
    | ends i hi g => omega
    | covers i hi g => omega
    | empty g1 g2 g3 => omega
  | ends j hj h =>
    cases h2 with
    | begins i hi g => omega
    | ends i hi g => obtain rfl : j = i := by omega
                     obtain rfl := blk _ _ k1 k2 rfl h.1 (by omega) g.1 (by omega)
                     rfl
    | covers i hi g => omega
    | empty g1 g2 g3 => omega
  | covers j hj h =>
    cases h2 with
    | begins i hi g => omega
    | ends i hi g => omega
    | covers i hi g => obtain rfl : j = i := by omega
                       rw [full k1 j hj h, full k2 j hj g]
    | empty g1 g2 g3 => omega
  | empty h1 h2' h3 =>
    cases h2 with
    | begins i hi g => omega
    | ends i hi g => omega
    | covers i hi g => omega
    | empty g1 g2 g3 => rw [none' k1 h1 h2' h3, none' k2 g1 g2 g3]
theorem size_le {N : Int} {ss : List Sp} (hR : Rise N ss) (n : Nat) : (ord (blkOf (cls ss)) n).length ≤ 3 * ss.length + 1 := by
  suffices H : ∃ codes : List Nat, codes.length = (ord (blkOf (cls ss)) n).length ∧ codes.Nodup ∧ ∀ c ∈ codes, ∃ k, k < n ∧ CodeIs ss k c by
    obtain ⟨codes, h1, h2, h3⟩ := H
    rw [← h1]
    exact nodup_le _ codes h2 (fun c hc => by obtain ⟨k, _, h⟩ := h3 c hc; exact code_le ss k c h)
  induction n with
  | zero => exact ⟨[], rfl, List.nodup_nil, fun c hc => by simp at hc⟩
  | succ n ih =>
    obtain ⟨codes, h1, h2, h3⟩ := ih
    rw [ord]
    split
    · exact ⟨codes, h1, h2, fun c hc => by obtain ⟨k, hk, h⟩ := h3 c hc; exact ⟨k, by omega, h⟩⟩
    · rename_i hc
      refine ⟨codes ++ [codeOf ss n], by simp [h1], ?_, fun c hm => ?_⟩
      · rw [List.nodup_append]
        refine ⟨h2, by simp, fun a ha b hb e => ?_⟩
        rw [List.mem_singleton.1 hb] at e
        obtain ⟨k, hk, h⟩ := h3 a ha
        have := code_same hR k n a (codeOf ss n) h (code_is ss n) e
        exact hc (List.contains_iff_mem.2 (this ▸ ord_mem (blkOf (cls ss)) n k hk))
      · rcases List.mem_append.1 hm with hm | hm
        · obtain ⟨k, hk, h⟩ := h3 c hm; exact ⟨k, by omega, h⟩
        · rw [List.mem_singleton.1 hm]; exact ⟨n, by omega, code_is ss n⟩
theorem size_pos (ss : List Sp) : 1 ≤ (ord (blkOf (cls ss)) 8704).length := by
  have := ord_mem (blkOf (cls ss)) 8704 0 (by decide)
  exact List.length_pos_of_mem this
theorem size_cut {N : Int} {ss : List Sp} (hR : Rise N ss) : ord (blkOf (cls (cutL ss))) 8704 = ord (blkOf (cls ss)) 8704 := by
  rw [show cls (cutL ss) = cls ss from funext (cut_cls hR)]
theorem ord_two {B : Nat → List Int} (h0 : B 0 ≠ B 1) (h : ∀ k, 1 ≤ k → B k = B 1) : ∀ n, 2 ≤ n → ord B n = [B 0, B 1] := by
  intro n hn
  induction n with
  | zero => omega
  | succ n ih =>
    rcases Nat.lt_or_ge n 2 with h2 | h2
    · obtain rfl : n = 1 := by omega
      have e1 : ord B 1 = [B 0] := by simp [ord]
      rw [ord, e1, if_neg (by simp only [List.contains_iff_mem, List.mem_singleton]; exact fun e => h0 e.symm)]
      rfl
    · rw [ord, ih h2, if_pos (by rw [h n (by omega)]; simp)]
theorem size_ab : (ord (blkOf (cls [(65, 90, 1)])) 8704).length = 2 := by
  rw [ord_two (B := blkOf (cls [(65, 90, 1)])) (by decide) (fun k hk => ?_) 8704 (by decide)]
  · rfl
  · refine (List.map_congr_left (fun j _ => ?_))
    have z : ∀ p : Int, 91 ≤ p → cls [(65, 90, 1)] p = 0 := fun p hp => by
      rw [cls_cons, (hits_not p (65, 90, 1)).2 (by simp only; omega)]; rfl
    rw [z _ (by omega), z _ (by omega)]
end Go.Proofs.YtpimameogmkpcaaDoor
