/-
  Tags as lists of bytes: their pieces, their one form.
-/
import Derived.Shelf.Strings.MapAny
import Derived.Shelf.Strings.OnBuilder
import Derived.Shelf.Strings.Replace
import Derived.Shelf.GgClosure.StringsIndexFunc
import Derived.Laws.RangeAny
import Derived.Lib.TrimAscii
namespace Go.Proofs.YtbdjnmbhphflbaaGreatDoor
open Go.Lib
def isLo (b : UInt8) : Bool := decide (97 ≤ b.toNat) && decide (b.toNat ≤ 122)
def isUp (b : UInt8) : Bool := decide (65 ≤ b.toNat) && decide (b.toNat ≤ 90)
def isDi (b : UInt8) : Bool := decide (48 ≤ b.toNat) && decide (b.toNat ≤ 57)
def isL (b : UInt8) : Bool := isUp b || isLo b
def isN (b : UInt8) : Bool := isL b || isDi b
def isSep (b : UInt8) : Bool := b == 45 || b == 95
/-- The bytes of a tag. -/
def fine (b : UInt8) : Bool := isN b || isSep b
theorem all256 {p : UInt8 → Prop} (h : ∀ i : Fin 256, p (UInt8.ofNat i.val)) (b : UInt8) : p b := by
  have := h ⟨b.toNat, b.toNat_lt⟩
  simpa using this
set_option maxRecDepth 100000 in
theorem byte_facts : ∀ i : Fin 256, (isL (lowerB (UInt8.ofNat i.val)) = isL (UInt8.ofNat i.val)) ∧ (isL (upperB (UInt8.ofNat i.val)) = isL (UInt8.ofNat i.val)) ∧ (isN (lowerB (UInt8.ofNat i.val)) = isN (UInt8.ofNat i.val)) ∧ (isN (upperB (UInt8.ofNat i.val)) = isN (UInt8.ofNat i.val)) ∧
    (fine (lowerB (UInt8.ofNat i.val)) = fine (UInt8.ofNat i.val)) ∧ (lowerB (lowerB (UInt8.ofNat i.val)) = lowerB (UInt8.ofNat i.val)) ∧ (upperB (upperB (UInt8.ofNat i.val)) = upperB (UInt8.ofNat i.val)) ∧ (isN (UInt8.ofNat i.val) = true → isSep (UInt8.ofNat i.val) = false) ∧ (fine (UInt8.ofNat i.val) = true → (UInt8.ofNat i.val).toNat < 128) := by decide
theorem L_lo (b : UInt8) : isL (lowerB b) = isL b := all256 (p := fun b => isL (lowerB b) = isL b) (fun i => (byte_facts i).1) b
theorem L_up (b : UInt8) : isL (upperB b) = isL b := all256 (p := fun b => isL (upperB b) = isL b) (fun i => (byte_facts i).2.1) b
theorem N_lo (b : UInt8) : isN (lowerB b) = isN b := all256 (p := fun b => isN (lowerB b) = isN b) (fun i => (byte_facts i).2.2.1) b
theorem N_up (b : UInt8) : isN (upperB b) = isN b := all256 (p := fun b => isN (upperB b) = isN b) (fun i => (byte_facts i).2.2.2.1) b
theorem fine_lo (b : UInt8) : fine (lowerB b) = fine b := all256 (p := fun b => fine (lowerB b) = fine b) (fun i => (byte_facts i).2.2.2.2.1) b
theorem lo_lo (b : UInt8) : lowerB (lowerB b) = lowerB b := all256 (p := fun b => lowerB (lowerB b) = lowerB b) (fun i => (byte_facts i).2.2.2.2.2.1) b
theorem up_up (b : UInt8) : upperB (upperB b) = upperB b := all256 (p := fun b => upperB (upperB b) = upperB b) (fun i => (byte_facts i).2.2.2.2.2.2.1) b
theorem N_sep (b : UInt8) : isN b = true → isSep b = false := all256 (p := fun b => isN b = true → isSep b = false) (fun i => (byte_facts i).2.2.2.2.2.2.2.1) b
theorem fine_ascii (b : UInt8) : fine b = true → b.toNat < 128 := all256 (p := fun b => fine b = true → b.toNat < 128) (fun i => (byte_facts i).2.2.2.2.2.2.2.2) b
/-- The pieces of a text between - and _. -/
def pieces : List UInt8 → List (List UInt8)
  | [] => [[]]
  | b :: r => if isSep b then [] :: pieces r else match pieces r with
    | [] => [[b]]
    | p :: ps => (b :: p) :: ps
theorem pieces_ne : ∀ s, pieces s ≠ []
  | [] => by simp [pieces]
  | b :: r => by
    unfold pieces
    split
    · simp
    · split <;> simp
def rep (b : UInt8) : UInt8 := if b = 45 then 95 else b
def piecesU : List UInt8 → List (List UInt8)
  | [] => [[]]
  | b :: r => if b = 95 then [] :: piecesU r else match piecesU r with
    | [] => [[b]]
    | p :: ps => (b :: p) :: ps
theorem piecesU_rep : ∀ s, piecesU (s.map rep) = pieces s
  | [] => rfl
  | b :: r => by
    have ih := piecesU_rep r
    rw [List.map_cons, piecesU, pieces, ih]
    by_cases h1 : b = 45
    · subst h1; simp [rep, isSep]
    · by_cases h2 : b = 95
      · subst h2; simp [rep, isSep]
      · simp [rep, isSep, h1, h2]
theorem index_ne (b c : UInt8) (l : List UInt8) (h : b ≠ c) : index (b :: l) [c] = if index l [c] == -1 then -1 else index l [c] + 1 := by
  rw [index, if_neg (by simp [List.isPrefixOf, Ne.symm h])]
theorem index_eq (c : UInt8) (l : List UInt8) : index (c :: l) [c] = 0 := by rw [index]; simp [List.isPrefixOf]
theorem index_nat {l : List UInt8} {c : UInt8} (h : 0 < count l [c]) : ∃ i : Nat, index l [c] = i := index_of_count h
theorem replaceK_rep : ∀ s, replaceK [45] [95] (count s [45]) s = s.map rep
  | [] => by rw [count_miss (by simp [index])]; rfl
  | b :: r => by
    have ih := replaceK_rep r
    by_cases h1 : b = 45
    · subst h1
      rw [count_cons_eq, Nat.add_comm, replaceK_hit _ _ _ _ 0 (by rw [index_eq]; rfl)]
      simp [rep, ih]
    · rw [count_cons_ne b 45 r h1]
      rw [List.map_cons, show rep b = b by simp [rep, h1]]
      cases hk : count r [45] with
      | zero => rw [hk] at ih; rw [← ih]; rfl
      | succ k =>
        obtain ⟨i, hi⟩ := index_nat (l := r) (c := 45) (by omega)
        rw [hk, replaceK_hit _ _ _ _ i hi] at ih
        rw [replaceK_hit _ _ _ _ (i + 1) (by rw [index_ne b 45 r h1, hi, if_neg (by simp)]; omega), ← ih]
        simp
theorem replaceAll_rep (s : List UInt8) : replaceAll s [45] [95] = s.map rep := by
  unfold replaceAll replace
  rw [if_neg (by decide), show replaceNum s [45] (-1) = count s [45] by simp [replaceNum]]
  exact replaceK_rep s
theorem splitK_pieces : ∀ s, splitK [95] 0 (count s [95]) s = piecesU s
  | [] => by rw [count_miss (by simp [index])]; rfl
  | b :: r => by
    have ih := splitK_pieces r
    by_cases h1 : b = 95
    · subst h1
      rw [count_cons_eq, Nat.add_comm, splitK, if_neg (by rw [index_eq]; decide), index_eq, piecesU, if_pos rfl, ← ih]
      simp
    · rw [count_cons_ne b 95 r h1, piecesU, if_neg h1, ← ih]
      cases hk : count r [95] with
      | zero => rfl
      | succ k =>
        obtain ⟨i, hi⟩ := index_nat (l := r) (c := 95) (by omega)
        have hx : index (b :: r) [95] = ((i + 1 : Nat) : Int) := by rw [index_ne b 95 r h1, hi, if_neg (by simp)]; omega
        rw [splitK, splitK, if_neg (by rw [hx]; simp; omega), if_neg (by rw [hi]; simp), hx, hi]
        simp
theorem split_pieces (s : List UInt8) : split (replaceAll s [45] [95]) [95] = pieces s := by
  unfold split
  rw [splitK_pieces, replaceAll_rep, piecesU_rep]
def joinU (ps : List (List UInt8)) : List UInt8 := Lib.join ps [95]
theorem joinU_cons (p : List UInt8) (q : List UInt8) (r : List (List UInt8)) : joinU (p :: q :: r) = p ++ 95 :: joinU (q :: r) := by
  unfold joinU
  rw [Lib.join_cons, Lib.join_cons]
  simp [Lib.joinTail]
theorem joinU_one (p : List UInt8) : joinU [p] = p := Lib.join_one p _
theorem pieces_app : ∀ (p s : List UInt8), (∀ b ∈ p, isSep b = false) → pieces (p ++ 95 :: s) = p :: pieces s
  | [], s, _ => by simp [pieces, isSep]
  | b :: p, s, h => by
    rw [List.cons_append, pieces, if_neg (by simp [h b (by simp)]), pieces_app p s (fun c hc => h c (by simp [hc]))]
theorem pieces_self : ∀ (p : List UInt8), (∀ b ∈ p, isSep b = false) → pieces p = [p]
  | [], _ => rfl
  | b :: p, h => by
    rw [pieces, if_neg (by simp [h b (by simp)]), pieces_self p (fun c hc => h c (by simp [hc]))]
theorem pieces_join : ∀ (ps : List (List UInt8)), ps ≠ [] → (∀ p ∈ ps, ∀ b ∈ p, isSep b = false) → pieces (joinU ps) = ps
  | [], h, _ => absurd rfl h
  | [p], _, h => by rw [joinU_one]; exact pieces_self p (h p (by simp))
  | p :: q :: r, _, h => by
    rw [joinU_cons, pieces_app p _ (h p (by simp)), pieces_join (q :: r) (by simp) (fun x hx => h x (by simp [hx]))]
theorem pieces_nosep : ∀ (s : List UInt8), ∀ p ∈ pieces s, ∀ b ∈ p, isSep b = false
  | [], p, hp, b, hb => by simp [pieces] at hp; subst hp; simp at hb
  | c :: r, p, hp, b, hb => by
    have ih := pieces_nosep r
    unfold pieces at hp
    split at hp
    · rcases List.mem_cons.1 hp with rfl | hp
      · simp at hb
      · exact ih p hp b hb
    · rename_i hc
      cases hq : pieces r with
      | nil => exact absurd hq (pieces_ne r)
      | cons q qs =>
        rw [hq] at hp ih
        rcases List.mem_cons.1 hp with rfl | hp
        · rcases List.mem_cons.1 hb with rfl | hb
          · simpa using hc
          · exact ih q (by simp) b hb
        · exact ih p (by simp [hp]) b hb
theorem pieces_mem : ∀ (s : List UInt8), (∀ p ∈ pieces s, ∀ b ∈ p, isN b = true) → ∀ b ∈ s, fine b = true
  | [], _, b, hb => by simp at hb
  | c :: r, h, b, hb => by
    unfold pieces at h
    split at h
    · rename_i hc
      rcases List.mem_cons.1 hb with rfl | hb
      · simp [fine, hc]
      · exact pieces_mem r (fun p hp => h p (by simp [hp])) b hb
    · cases hq : pieces r with
      | nil => exact absurd hq (pieces_ne r)
      | cons q qs =>
        rw [hq] at h
        rcases List.mem_cons.1 hb with rfl | hb
        · have := h (b :: q) (by simp) b (by simp)
          simp [fine, this]
        · refine pieces_mem r (fun p hp => ?_) b hb
          rw [hq] at hp
          rcases List.mem_cons.1 hp with rfl | hp
          · exact fun x hx => h (c :: p) (by simp) x (by simp [hx])
          · exact h p (by simp [hp])
theorem pieces_of_fine : ∀ (s : List UInt8), (∀ b ∈ s, fine b = true) → ∀ p ∈ pieces s, ∀ b ∈ p, isN b = true
  | [], _, p, hp, b, hb => by simp [pieces] at hp; subst hp; simp at hb
  | c :: r, h, p, hp, b, hb => by
    have ih := pieces_of_fine r (fun x hx => h x (by simp [hx]))
    unfold pieces at hp
    split at hp
    · rcases List.mem_cons.1 hp with rfl | hp
      · simp at hb
      · exact ih p hp b hb
    · rename_i hc
      cases hq : pieces r with
      | nil => exact absurd hq (pieces_ne r)
      | cons q qs =>
        rw [hq] at hp ih
        rcases List.mem_cons.1 hp with rfl | hp
        · rcases List.mem_cons.1 hb with rfl | hb
          · have := h b (by simp)
            simpa [fine, hc] using this
          · exact ih q (by simp) b hb
        · exact ih p (by simp [hp]) b hb
theorem join_len : ∀ (ps qs : List (List UInt8)), ps.map List.length = qs.map List.length → (joinU ps).length = (joinU qs).length
  | [], [], _ => rfl
  | [], _ :: _, h => by simp at h
  | _ :: _, [], h => by simp at h
  | [p], [q], h => by rw [joinU_one, joinU_one]; simpa using h
  | [p], q :: q2 :: r, h => by simp at h
  | p :: p2 :: r, [q], h => by simp at h
  | p :: p2 :: r, q :: q2 :: t, h => by
    rw [joinU_cons, joinU_cons]
    have h1 : p.length = q.length := by simp at h; exact h.1
    have h2 := join_len (p2 :: r) (q2 :: t) (by simp at h ⊢; exact h.2)
    simp [h1, h2]
theorem join_pieces : ∀ (s : List UInt8), joinU (pieces s) = s.map rep
  | [] => by simp [pieces, joinU_one]
  | b :: r => by
    have ih := join_pieces r
    unfold pieces
    cases hq : pieces r with
    | nil => exact absurd hq (pieces_ne r)
    | cons q qs =>
      rw [hq] at ih
      split
      · rename_i hc
        rw [joinU_cons, ih]
        have : rep b = 95 := by simp [isSep] at hc; rcases hc with rfl | rfl <;> rfl
        simp [this]
      · rename_i hc
        have hr : rep b = b := by simp [isSep] at hc; simp [rep, hc.1]
        simp only
        rw [List.map_cons, hr, ← ih]
        cases qs with
        | nil => rw [joinU_one, joinU_one]
        | cons q2 qs => rw [joinU_cons, joinU_cons]; rfl
/-- The form of a piece that is not the first. -/
def formP (p : List UInt8) : List UInt8 := if p.all isL ∧ p.length = 4 then (p.take 1).map upperB ++ (p.drop 1).map lowerB else if p.all isL ∧ p.length = 2 then p.map upperB else p.map lowerB
def canonP : List (List UInt8) → List (List UInt8)
  | [] => []
  | p :: r => p.map lowerB :: r.map formP
def rootL : List UInt8 := [114, 111, 111, 116]
def goodP (p : List UInt8) : Bool := decide (1 ≤ p.length) && decide (p.length ≤ 8) && p.all isN
def validP (ps : List (List UInt8)) : Bool := ps.all goodP && (ps.headD []).all isL && decide (2 ≤ (ps.headD []).length) && !(((ps.headD []).map lowerB == rootL) && decide (1 < ps.length))
/-- The one form of a tag. -/
def tagF (t : List UInt8) : Option (List UInt8) := if t.length ≤ 64 ∧ validP (pieces t) = true then some (joinU (canonP (pieces t))) else none
theorem formP_len (p : List UInt8) : (formP p).length = p.length := by
  unfold formP
  split
  · rename_i h; simp; omega
  · split <;> simp
theorem formP_all (p : List UInt8) (q : UInt8 → Bool) (h1 : ∀ b, q (lowerB b) = q b) (h2 : ∀ b, q (upperB b) = q b) : (formP p).all q = p.all q := by
  have e : ∀ (f : UInt8 → UInt8) (l : List UInt8), (∀ b, q (f b) = q b) → (l.map f).all q = l.all q := fun f l hf => by
    induction l with
    | nil => rfl
    | cons x l ih => simp [hf, ih]
  unfold formP
  split
  · rw [List.all_append, e _ _ h2, e _ _ h1, ← List.all_append, List.take_append_drop]
  · split
    · exact e _ _ h2
    · exact e _ _ h1
theorem all_map (q : UInt8 → Bool) (f : UInt8 → UInt8) (l : List UInt8) (hf : ∀ b, q (f b) = q b) : (l.map f).all q = l.all q := by
  induction l with
  | nil => rfl
  | cons x l ih => simp [hf, ih]
theorem formP_form (p : List UInt8) : formP (formP p) = formP p := by
  have h1 := formP_all p isL L_lo L_up
  have h2 := formP_len p
  by_cases a : p.all isL = true ∧ p.length = 4
  · rw [formP, if_pos (by rw [h1, h2]; exact a)]
    rw [formP, if_pos a]
    have ht : ((p.take 1).map upperB).length = 1 := by simp; omega
    rw [List.take_left' ht, List.drop_left' ht, List.map_map, List.map_map, show upperB ∘ upperB = upperB from funext up_up, show lowerB ∘ lowerB = lowerB from funext lo_lo]
  · by_cases c : p.all isL = true ∧ p.length = 2
    · rw [formP, if_neg (by rw [h1, h2]; exact a), if_pos (by rw [h1, h2]; exact c)]
      rw [formP, if_neg a, if_pos c, List.map_map, show upperB ∘ upperB = upperB from funext up_up]
    · rw [formP, if_neg (by rw [h1, h2]; exact a), if_neg (by rw [h1, h2]; exact c)]
      rw [formP, if_neg a, if_neg c, List.map_map, show lowerB ∘ lowerB = lowerB from funext lo_lo]
theorem canonP_twice : ∀ ps, canonP (canonP ps) = canonP ps
  | [] => rfl
  | p :: r => by
    simp only [canonP, List.map_map]
    rw [show lowerB ∘ lowerB = lowerB from funext lo_lo, show formP ∘ formP = formP from funext formP_form]
theorem goodP_form (p : List UInt8) : goodP (formP p) = goodP p := by simp only [goodP, formP_len, formP_all p isN N_lo N_up]
theorem goodP_lo (p : List UInt8) : goodP (p.map lowerB) = goodP p := by simp only [goodP, List.length_map, all_map isN lowerB p N_lo]
theorem validP_canon : ∀ ps, validP (canonP ps) = validP ps
  | [] => rfl
  | p :: r => by
    have h1 : ((p.map lowerB) :: r.map formP).all goodP = (p :: r).all goodP := by
      simp only [List.all_cons, goodP_lo, List.all_map]
      congr 1
      exact congrArg (fun f => r.all f) (funext goodP_form)
    simp only [canonP, validP, List.headD_cons, h1, all_map isL lowerB p L_lo, List.length_map, List.map_map, List.length_cons]
    rw [show lowerB ∘ lowerB = lowerB from funext lo_lo]
    rfl
theorem canonP_lens : ∀ ps, (canonP ps).map List.length = ps.map List.length
  | [] => rfl
  | p :: r => by simp [canonP, Function.comp_def, formP_len]
theorem canonP_N {ps : List (List UInt8)} (h : ∀ p ∈ ps, ∀ b ∈ p, isN b = true) : ∀ p ∈ canonP ps, ∀ b ∈ p, isN b = true := by
  cases ps with
  | nil => simp [canonP]
  | cons q r =>
    intro p hp b hb
    rcases List.mem_cons.1 hp with rfl | hp
    · obtain ⟨c, hc, rfl⟩ := List.mem_map.1 hb
      rw [N_lo]; exact h q (by simp) c hc
    · obtain ⟨c, hc, rfl⟩ := List.mem_map.1 hp
      have h1 : c.all isN = true := List.all_eq_true.2 (h c (by simp [hc]))
      have h2 := formP_all c isN N_lo N_up
      rw [h1] at h2
      exact List.all_eq_true.1 h2 b hb
theorem canonP_ne {ps : List (List UInt8)} (h : ps ≠ []) : canonP ps ≠ [] := by cases ps <;> simp [canonP] at h ⊢
/-- The one form is its own one form. -/
theorem tagF_form {t : List UInt8} (hf : ∀ b ∈ t, fine b = true) (ht : t.length ≤ 64) : tagF (joinU (canonP (pieces t))) = if validP (pieces t) = true then some (joinU (canonP (pieces t))) else none := by
  have hn := pieces_of_fine t hf
  have hp : pieces (joinU (canonP (pieces t))) = canonP (pieces t) := pieces_join _ (canonP_ne (pieces_ne t)) (fun p hp b hb => N_sep b (canonP_N hn p hp b hb))
  have hl : (joinU (canonP (pieces t))).length ≤ 64 := by
    rw [join_len _ _ (canonP_lens (pieces t)), join_pieces]; simpa using ht
  unfold tagF
  rw [hp, validP_canon, canonP_twice]
  by_cases hv : validP (pieces t) = true
  · rw [if_pos ⟨hl, hv⟩, if_pos hv]
  · rw [if_neg (fun h => hv h.2), if_neg hv]
theorem validP_fine {s : List UInt8} (h : validP (pieces s) = true) : ∀ b ∈ s, fine b = true := by
  refine pieces_mem s (fun p hp => ?_)
  simp only [validP, Bool.and_eq_true] at h
  have h1 := List.all_eq_true.1 h.1.1.1 p hp
  simp only [goodP, Bool.and_eq_true] at h1
  exact List.all_eq_true.1 h1.2
theorem tagF_bad {s : List UInt8} {b : UInt8} (hb : b ∈ s) (h : fine b = false) : tagF s = none := by
  unfold tagF
  rw [if_neg (fun e => by have := validP_fine e.2 b hb; rw [h] at this; cases this)]
end Go.Proofs.YtbdjnmbhphflbaaGreatDoor
