/-
  LtM, SentW, Lt1W, Lt2W, Lt3W, Lt4W, Lt5W, ShelfL.
-/
import Derived.Shelf.Strings.MapAny
import Derived.Shelf.Strings.OnBuilder
import Derived.Shelf.Strings.Replace
import Derived.Shelf.GgClosure.StringsIndexFunc
import Derived.Laws.RangeAny
import Derived.Lib.TrimAscii
import Derived.Test.YtlfeiadgahdgoaaGreatDoorProg
import Derived.WalkKit
import Derived.WalkSpells
import Derived.WalkLawsBesides
import Derived.Deep.QuietTactic
import Derived.BigQuiet
import Derived.LaidEql
import Derived.KernelRfl
import Derived.Handy
import Derived.Maps.AppendAt
import Derived.Shelf.Abstract
import Derived.Laws.IdiomStrings
import Derived.Laws.BytesString
import Derived.Deep.RegionHeld3
import Derived.Shelf.Strings.LastIndex
import Derived.Shelf.Strings.BuilderK
import Derived.Shelf.GgClosure.StringsIndexFuncTop
import Derived.Ground.GgwProg
namespace Go.Proofs.YtlfeiadgahdgoaaGreatDoor
open Go.Lib
def isLo (b : UInt8) : Bool := decide (97 ≤ b.toNat) && decide (b.toNat ≤ 122)
def isUp (b : UInt8) : Bool := decide (65 ≤ b.toNat) && decide (b.toNat ≤ 90)
def isDi (b : UInt8) : Bool := decide (48 ≤ b.toNat) && decide (b.toNat ≤ 57)
def isL (b : UInt8) : Bool := isUp b || isLo b
def isN (b : UInt8) : Bool := isL b || isDi b
def isSep (b : UInt8) : Bool := b == 45 || b == 95
/-- The bytes of a tag. -/
def fine (b : UInt8) : Bool := isN b || isSep b
theorem all256 {p : UInt8 → Prop} (h : ∀ i : Fin 256, p (UInt8.ofNat i.val)) (b : UInt8) : p b := by
  have := h ⟨b.toNat, b.toNat_lt⟩
  simpa using this
set_option maxRecDepth 100000 in
theorem byte_facts : ∀ i : Fin 256, (isL (lowerB (UInt8.ofNat i.val)) = isL (UInt8.ofNat i.val)) ∧ (isL (upperB (UInt8.ofNat i.val)) = isL (UInt8.ofNat i.val)) ∧ (isN (lowerB (UInt8.ofNat i.val)) = isN (UInt8.ofNat i.val)) ∧ (isN (upperB (UInt8.ofNat i.val)) = isN (UInt8.ofNat i.val)) ∧
    (fine (lowerB (UInt8.ofNat i.val)) = fine (UInt8.ofNat i.val)) ∧ (lowerB (lowerB (UInt8.ofNat i.val)) = lowerB (UInt8.ofNat i.val)) ∧ (upperB (upperB (UInt8.ofNat i.val)) = upperB (UInt8.ofNat i.val)) ∧ (isN (UInt8.ofNat i.val) = true → isSep (UInt8.ofNat i.val) = false) ∧ (fine (UInt8.ofNat i.val) = true → (UInt8.ofNat i.val).toNat < 128) := by decide
theorem L_lo (b : UInt8) : isL (lowerB b) = isL b := all256 (p := fun b => isL (lowerB b) = isL b) (fun i => (byte_facts i).1) b
theorem L_up (b : UInt8) : isL (upperB b) = isL b := all256 (p := fun b => isL (upperB b) = isL b) (fun i => (byte_facts i).2.1) b
theorem N_lo (b : UInt8) : isN (lowerB b) = isN b := all256 (p := fun b => isN (lowerB b) = isN b) (fun i => (byte_facts i).2.2.1) b
theorem N_up (b : UInt8) : isN (upperB b) = isN b := all256 (p := fun b => isN (upperB b) = isN b) (fun i => (byte_facts i).2.2.2.1) b
theorem fine_lo (b : UInt8) : fine (lowerB b) = fine b := all256 (p := fun b => fine (lowerB b) = fine b) (fun i => (byte_facts i).2.2.2.2.1) b
theorem lo_lo (b : UInt8) : lowerB (lowerB b) = lowerB b := all256 (p := fun b => lowerB (lowerB b) = lowerB b) (fun i => (byte_facts i).2.2.2.2.2.1) b
theorem up_up (b : UInt8) : upperB (upperB b) = upperB b := all256 (p := fun b => upperB (upperB b) = upperB b) (fun i => (byte_facts i).2.2.2.2.2.2.1) b
theorem N_sep (b : UInt8) : isN b = true → isSep b = false := all256 (p := fun b => isN b = true → isSep b = false) (fun i => (byte_facts i).2.2.2.2.2.2.2.1) b
theorem fine_ascii (b : UInt8) : fine b = true → b.toNat < 128 := all256 (p := fun b => fine b = true → b.toNat < 128) (fun i => (byte_facts i).2.2.2.2.2.2.2.2) b
/-- The pieces of a text between - and _. -/
def pieces : List UInt8 → List (List UInt8)
  | [] => [[]]
  | b :: r => if isSep b then [] :: pieces r else match pieces r with
    | [] => [[b]]
    | p :: ps => (b :: p) :: ps
theorem pieces_ne : ∀ s, pieces s ≠ []
  | [] => by simp [pieces]
  | b :: r => by
    unfold pieces
    split
    · simp
    · split <;> simp
def rep (b : UInt8) : UInt8 := if b = 45 then 95 else b
def piecesU : List UInt8 → List (List UInt8)
  | [] => [[]]
  | b :: r => if b = 95 then [] :: piecesU r else match piecesU r with
    | [] => [[b]]
    | p :: ps => (b :: p) :: ps
theorem piecesU_rep : ∀ s, piecesU (s.map rep) = pieces s
  | [] => rfl
  | b :: r => by
    have ih := piecesU_rep r
    rw [List.map_cons, piecesU, pieces, ih]
    by_cases h1 : b = 45
    · subst h1; simp [rep, isSep]
    · by_cases h2 : b = 95
      · subst h2; simp [rep, isSep]
      · simp [rep, isSep, h1, h2]
theorem index_ne (b c : UInt8) (l : List UInt8) (h : b ≠ c) : index (b :: l) [c] = if index l [c] == -1 then -1 else index l [c] + 1 := by
  rw [index, if_neg (by simp [List.isPrefixOf, Ne.symm h])]
theorem index_eq (c : UInt8) (l : List UInt8) : index (c :: l) [c] = 0 := by rw [index]; simp [List.isPrefixOf]
theorem index_nat {l : List UInt8} {c : UInt8} (h : 0 < count l [c]) : ∃ i : Nat, index l [c] = i := index_of_count h
theorem replaceK_rep : ∀ s, replaceK [45] [95] (count s [45]) s = s.map rep
  | [] => by rw [count_miss (by simp [index])]; rfl
  | b :: r => by
    have ih := replaceK_rep r
    by_cases h1 : b = 45
    · subst h1
      rw [count_cons_eq, Nat.add_comm, replaceK_hit _ _ _ _ 0 (by rw [index_eq]; rfl)]
      simp [rep, ih]
    · rw [count_cons_ne b 45 r h1]
      rw [List.map_cons, show rep b = b by simp [rep, h1]]
      cases hk : count r [45] with
      | zero => rw [hk] at ih; rw [← ih]; rfl
      | succ k =>
        obtain ⟨i, hi⟩ := index_nat (l := r) (c := 45) (by omega)
        rw [hk, replaceK_hit _ _ _ _ i hi] at ih
        rw [replaceK_hit _ _ _ _ (i + 1) (by rw [index_ne b 45 r h1, hi, if_neg (by simp)]; omega), ← ih]
        simp
theorem replaceAll_rep (s : List UInt8) : replaceAll s [45] [95] = s.map rep := by
  unfold replaceAll replace
  rw [if_neg (by decide), show replaceNum s [45] (-1) = count s [45] by simp [replaceNum]]
  exact replaceK_rep s
theorem splitK_pieces : ∀ s, splitK [95] 0 (count s [95]) s = piecesU s
  | [] => by rw [count_miss (by simp [index])]; rfl
  | b :: r => by
    have ih := splitK_pieces r
    by_cases h1 : b = 95
    · subst h1
      rw [count_cons_eq, Nat.add_comm, splitK, if_neg (by rw [index_eq]; decide), index_eq, piecesU, if_pos rfl, ← ih]
      simp
    · rw [count_cons_ne b 95 r h1, piecesU, if_neg h1, ← ih]
      cases hk : count r [95] with
      | zero => rfl
      | succ k =>
        obtain ⟨i, hi⟩ := index_nat (l := r) (c := 95) (by omega)
        have hx : index (b :: r) [95] = ((i + 1 : Nat) : Int) := by rw [index_ne b 95 r h1, hi, if_neg (by simp)]; omega
        rw [splitK, splitK, if_neg (by rw [hx]; simp; omega), if_neg (by rw [hi]; simp), hx, hi]
        simp
theorem split_pieces (s : List UInt8) : split (replaceAll s [45] [95]) [95] = pieces s := by
  unfold split
  rw [splitK_pieces, replaceAll_rep, piecesU_rep]
def joinU (ps : List (List UInt8)) : List UInt8 := Lib.join ps [95]
theorem joinU_cons (p : List UInt8) (q : List UInt8) (r : List (List UInt8)) : joinU (p :: q :: r) = p ++ 95 :: joinU (q :: r) := by
  unfold joinU
  rw [Lib.join_cons, Lib.join_cons]
  simp [Lib.joinTail]
theorem joinU_one (p : List UInt8) : joinU [p] = p := Lib.join_one p _
theorem pieces_app : ∀ (p s : List UInt8), (∀ b ∈ p, isSep b = false) → pieces (p ++ 95 :: s) = p :: pieces s
  | [], s, _ => by simp [pieces, isSep]
  | b :: p, s, h => by
    rw [List.cons_append, pieces, if_neg (by simp [h b (by simp)]), pieces_app p s (fun c hc => h c (by simp [hc]))]
theorem pieces_self : ∀ (p : List UInt8), (∀ b ∈ p, isSep b = false) → pieces p = [p]
  | [], _ => rfl
  | b :: p, h => by
    rw [pieces, if_neg (by simp [h b (by simp)]), pieces_self p (fun c hc => h c (by simp [hc]))]
theorem pieces_join : ∀ (ps : List (List UInt8)), ps ≠ [] → (∀ p ∈ ps, ∀ b ∈ p, isSep b = false) → pieces (joinU ps) = ps
  | [], h, _ => absurd rfl h
  | [p], _, h => by rw [joinU_one]; exact pieces_self p (h p (by simp))
  | p :: q :: r, _, h => by
    rw [joinU_cons, pieces_app p _ (h p (by simp)), pieces_join (q :: r) (by simp) (fun x hx => h x (by simp [hx]))]
theorem pieces_nosep : ∀ (s : List UInt8), ∀ p ∈ pieces s, ∀ b ∈ p, isSep b = false
  | [], p, hp, b, hb => by simp [pieces] at hp; subst hp; simp at hb
  | c :: r, p, hp, b, hb => by
    have ih := pieces_nosep r
    unfold pieces at hp
    split at hp
    · rcases List.mem_cons.1 hp with rfl | hp
      · simp at hb
      · exact ih p hp b hb
    · rename_i hc
      cases hq : pieces r with
      | nil => exact absurd hq (pieces_ne r)
      | cons q qs =>
        rw [hq] at hp ih
        rcases List.mem_cons.1 hp with rfl | hp
        · rcases List.mem_cons.1 hb with rfl | hb
          · simpa using hc
          · exact ih q (by simp) b hb
        · exact ih p (by simp [hp]) b hb
theorem pieces_mem : ∀ (s : List UInt8), (∀ p ∈ pieces s, ∀ b ∈ p, isN b = true) → ∀ b ∈ s, fine b = true
  | [], _, b, hb => by simp at hb
  | c :: r, h, b, hb => by
    unfold pieces at h
    split at h
    · rename_i hc
      rcases List.mem_cons.1 hb with rfl | hb
      · simp [fine, hc]
      · exact pieces_mem r (fun p hp => h p (by simp [hp])) b hb
    · cases hq : pieces r with
      | nil => exact absurd hq (pieces_ne r)
      | cons q qs =>
        rw [hq] at h
        rcases List.mem_cons.1 hb with rfl | hb
        · have := h (b :: q) (by simp) b (by simp)
          simp [fine, this]
        · refine pieces_mem r (fun p hp => ?_) b hb
          rw [hq] at hp
          rcases List.mem_cons.1 hp with rfl | hp
          · exact fun x hx => h (c :: p) (by simp) x (by simp [hx])
          · exact h p (by simp [hp])
theorem pieces_of_fine : ∀ (s : List UInt8), (∀ b ∈ s, fine b = true) → ∀ p ∈ pieces s, ∀ b ∈ p, isN b = true
  | [], _, p, hp, b, hb => by simp [pieces] at hp; subst hp; simp at hb
  | c :: r, h, p, hp, b, hb => by
    have ih := pieces_of_fine r (fun x hx => h x (by simp [hx]))
    unfold pieces at hp
    split at hp
    · rcases List.mem_cons.1 hp with rfl | hp
      · simp at hb
      · exact ih p hp b hb
    · rename_i hc
      cases hq : pieces r with
      | nil => exact absurd hq (pieces_ne r)
      | cons q qs =>
        rw [hq] at hp ih
        rcases List.mem_cons.1 hp with rfl | hp
        · rcases List.mem_cons.1 hb with rfl | hb
          · have := h b (by simp)
            simpa [fine, hc] using this
          · exact ih q (by simp) b hb
        · exact ih p (by simp [hp]) b hb
theorem join_len : ∀ (ps qs : List (List UInt8)), ps.map List.length = qs.map List.length → (joinU ps).length = (joinU qs).length
  | [], [], _ => rfl
  | [], _ :: _, h => by simp at h
  | _ :: _, [], h => by simp at h
  | [p], [q], h => by rw [joinU_one, joinU_one]; simpa using h
  | [p], q :: q2 :: r, h => by simp at h
  | p :: p2 :: r, [q], h => by simp at h
  | p :: p2 :: r, q :: q2 :: t, h => by
    rw [joinU_cons, joinU_cons]
    have h1 : p.length = q.length := by simp at h; exact h.1
    have h2 := join_len (p2 :: r) (q2 :: t) (by simp at h ⊢; exact h.2)
    simp [h1, h2]
theorem join_pieces : ∀ (s : List UInt8), joinU (pieces s) = s.map rep
  | [] => by simp [pieces, joinU_one]
  | b :: r => by
    have ih := join_pieces r
    unfold pieces
    cases hq : pieces r with
    | nil => exact absurd hq (pieces_ne r)
    | cons q qs =>
      rw [hq] at ih
      split
      · rename_i hc
        rw [joinU_cons, ih]
        have : rep b = 95 := by simp [isSep] at hc; rcases hc with rfl | rfl <;> rfl
        simp [this]
      · rename_i hc
        have hr : rep b = b := by simp [isSep] at hc; simp [rep, hc.1]
        simp only
        rw [List.map_cons, hr, ← ih]
        cases qs with
        | nil => rw [joinU_one, joinU_one]
        | cons q2 qs => rw [joinU_cons, joinU_cons]; rfl
/-- The form of a piece that is not the first. -/
def formP (p : List UInt8) : List UInt8 := if p.all isL ∧ p.length = 4 then (p.take 1).map upperB ++ (p.drop 1).map lowerB else if p.all isL ∧ p.length = 2 then p.map upperB else p.map lowerB
def canonP : List (List UInt8) → List (List UInt8)
  | [] => []
  | p :: r => p.map lowerB :: r.map formP
def rootL : List UInt8 := [114, 111, 111, 116]
def goodP (p : List UInt8) : Bool := decide (1 ≤ p.length) && decide (p.length ≤ 8) && p.all isN
def validP (ps : List (List UInt8)) : Bool := ps.all goodP && (ps.headD []).all isL && decide (2 ≤ (ps.headD []).length) && !(((ps.headD []).map lowerB == rootL) && decide (1 < ps.length))
/-- The one form of a tag. -/
def tagF (t : List UInt8) : Option (List UInt8) := if t.length ≤ 64 ∧ validP (pieces t) = true then some (joinU (canonP (pieces t))) else none
theorem formP_len (p : List UInt8) : (formP p).length = p.length := by
  unfold formP
  split
  · rename_i h; simp; omega
  · split <;> simp
theorem formP_all (p : List UInt8) (q : UInt8 → Bool) (h1 : ∀ b, q (lowerB b) = q b) (h2 : ∀ b, q (upperB b) = q b) : (formP p).all q = p.all q := by
  have e : ∀ (f : UInt8 → UInt8) (l : List UInt8), (∀ b, q (f b) = q b) → (l.map f).all q = l.all q := fun f l hf => by
    induction l with
    | nil => rfl
    | cons x l ih => simp [hf, ih]
  unfold formP
  split
  · rw [List.all_append, e _ _ h2, e _ _ h1, ← List.all_append, List.take_append_drop]
  · split
    · exact e _ _ h2
    · exact e _ _ h1
theorem all_map (q : UInt8 → Bool) (f : UInt8 → UInt8) (l : List UInt8) (hf : ∀ b, q (f b) = q b) : (l.map f).all q = l.all q := by
  induction l with
  | nil => rfl
  | cons x l ih => simp [hf, ih]
theorem formP_form (p : List UInt8) : formP (formP p) = formP p := by
  have h1 := formP_all p isL L_lo L_up
  have h2 := formP_len p
  by_cases a : p.all isL = true ∧ p.length = 4
  · rw [formP, if_pos (by rw [h1, h2]; exact a)]
    rw [formP, if_pos a]
    have ht : ((p.take 1).map upperB).length = 1 := by simp; omega
    rw [List.take_left' ht, List.drop_left' ht, List.map_map, List.map_map, show upperB ∘ upperB = upperB from funext up_up, show lowerB ∘ lowerB = lowerB from funext lo_lo]
  · by_cases c : p.all isL = true ∧ p.length = 2
    · rw [formP, if_neg (by rw [h1, h2]; exact a), if_pos (by rw [h1, h2]; exact c)]
      rw [formP, if_neg a, if_pos c, List.map_map, show upperB ∘ upperB = upperB from funext up_up]
    · rw [formP, if_neg (by rw [h1, h2]; exact a), if_neg (by rw [h1, h2]; exact c)]
      rw [formP, if_neg a, if_neg c, List.map_map, show lowerB ∘ lowerB = lowerB from funext lo_lo]
theorem canonP_twice : ∀ ps, canonP (canonP ps) = canonP ps
  | [] => rfl
  | p :: r => by
    simp only [canonP, List.map_map]
    rw [show lowerB ∘ lowerB = lowerB from funext lo_lo, show formP ∘ formP = formP from funext formP_form]
theorem goodP_form (p : List UInt8) : goodP (formP p) = goodP p := by simp only [goodP, formP_len, formP_all p isN N_lo N_up]
theorem goodP_lo (p : List UInt8) : goodP (p.map lowerB) = goodP p := by simp only [goodP, List.length_map, all_map isN lowerB p N_lo]
theorem validP_canon : ∀ ps, validP (canonP ps) = validP ps
  | [] => rfl
  | p :: r => by
    have h1 : ((p.map lowerB) :: r.map formP).all goodP = (p :: r).all goodP := by
      simp only [List.all_cons, goodP_lo, List.all_map]
      congr 1
      exact congrArg (fun f => r.all f) (funext goodP_form)
    simp only [canonP, validP, List.headD_cons, h1, all_map isL lowerB p L_lo, List.length_map, List.map_map, List.length_cons]
    rw [show lowerB ∘ lowerB = lowerB from funext lo_lo]
    rfl
theorem canonP_lens : ∀ ps, (canonP ps).map List.length = ps.map List.length
  | [] => rfl
  | p :: r => by simp [canonP, Function.comp_def, formP_len]
theorem canonP_N {ps : List (List UInt8)} (h : ∀ p ∈ ps, ∀ b ∈ p, isN b = true) : ∀ p ∈ canonP ps, ∀ b ∈ p, isN b = true := by
  cases ps with
  | nil => simp [canonP]
  | cons q r =>
    intro p hp b hb
    rcases List.mem_cons.1 hp with rfl | hp
    · obtain ⟨c, hc, rfl⟩ := List.mem_map.1 hb
      rw [N_lo]; exact h q (by simp) c hc
    · obtain ⟨c, hc, rfl⟩ := List.mem_map.1 hp
      have h1 : c.all isN = true := List.all_eq_true.2 (h c (by simp [hc]))
      have h2 := formP_all c isN N_lo N_up
      rw [h1] at h2
      exact List.all_eq_true.1 h2 b hb
theorem canonP_ne {ps : List (List UInt8)} (h : ps ≠ []) : canonP ps ≠ [] := by cases ps <;> simp [canonP] at h ⊢
/-- The one form is its own one form. -/
theorem tagF_form {t : List UInt8} (hf : ∀ b ∈ t, fine b = true) (ht : t.length ≤ 64) : tagF (joinU (canonP (pieces t))) = if validP (pieces t) = true then some (joinU (canonP (pieces t))) else none := by
  have hn := pieces_of_fine t hf
  have hp : pieces (joinU (canonP (pieces t))) = canonP (pieces t) := pieces_join _ (canonP_ne (pieces_ne t)) (fun p hp b hb => N_sep b (canonP_N hn p hp b hb))
  have hl : (joinU (canonP (pieces t))).length ≤ 64 := by
    rw [join_len _ _ (canonP_lens (pieces t)), join_pieces]; simpa using ht
  unfold tagF
  rw [hp, validP_canon, canonP_twice]
  by_cases hv : validP (pieces t) = true
  · rw [if_pos ⟨hl, hv⟩, if_pos hv]
  · rw [if_neg (fun h => hv h.2), if_neg hv]
theorem validP_fine {s : List UInt8} (h : validP (pieces s) = true) : ∀ b ∈ s, fine b = true := by
  refine pieces_mem s (fun p hp => ?_)
  simp only [validP, Bool.and_eq_true] at h
  have h1 := List.all_eq_true.1 h.1.1.1 p hp
  simp only [goodP, Bool.and_eq_true] at h1
  exact List.all_eq_true.1 h1.2
theorem tagF_bad {s : List UInt8} {b : UInt8} (hb : b ∈ s) (h : fine b = false) : tagF s = none := by
  unfold tagF
  rw [if_neg (fun e => by have := validP_fine e.2 b hb; rw [h] at this; cases this)]
end Go.Proofs.YtlfeiadgahdgoaaGreatDoor
namespace Go.Proofs.YtlfeiadgahdgoaaGreatDoor
open Go.RowKit
theorem hid1 {p : Prop} (h : p) : Hid p := h
/-- The five that bundle knows. -/
def isSent (i : Nat) : Bool := i == 0 || i == 1 || i == 2 || i == 4 || i == 6
/-- The refusals: each variable's cell, each its own object. -/
structure Sents (w : World) (A : Nat → Addr) : Prop where
  c0 : w.cell? ⟨2, 0, none⟩ = some (.iface 216 (.pointer (some (A 0))))
  c1 : w.cell? ⟨1, 0, none⟩ = some (.iface 216 (.pointer (some (A 1))))
  c2 : w.cell? ⟨0, 0, none⟩ = some (.iface 216 (.pointer (some (A 2))))
  c4 : w.cell? ⟨4, 0, none⟩ = some (.iface 216 (.pointer (some (A 4))))
  c6 : w.cell? ⟨5, 0, none⟩ = some (.iface 216 (.pointer (some (A 6))))
  ne : ∀ i j, isSent i = true → isSent j = true → i ≠ j → A i ≠ A j
  blk : ∀ i, isSent i = true → ∃ c t, w.heap[(A i).block]? = some (.cells c t (0, 0))
theorem compErr : (Tryz.prog.info? 216).map (·.comparable) = some true := by kernel_rfl
theorem sizeErr : (Tryz.prog.info? 218).map (·.size) = some 1 := by kernel_rfl
theorem Sents.eql {w : World} {A : Nat → Addr} (h : Sents w A) (i j : Nat) (hi : isSent i = true) (hj : isSent j = true) :
    (binOp .eql 27 (.iface 216 (.pointer (some (A i)))) (.iface 216 (.pointer (some (A j))))).run Tryz.prog w = .ok (.bool (decide (i = j))) w := by
  obtain ⟨ti, h1, h2⟩ := Option.map_eq_some_iff.1 compErr
  obtain ⟨tj, h3, h4⟩ := Option.map_eq_some_iff.1 sizeErr
  by_cases e : i = j
  · subst e
    rw [run_eql_iface_ptr_same w (A i) Tryz.underlying27 Tryz.underlying216 h1 h2 h3]
    simp
  · obtain ⟨ca, ta, ha⟩ := h.blk i hi
    obtain ⟨cb, tb, hb⟩ := h.blk j hj
    rw [run_eql_iface_ptr_other w Tryz.underlying27 Tryz.underlying216 h1 h2 h3 (by rw [h4]; decide) (h.ne i j hi hj e) ha hb]
    simp [e]
theorem Sents.below {w w' : World} {A : Nat → Addr} (h : Sents w A) (hb : Below w.heap.size w w') : Sents w' A where
  c0 := (hb.cell (p := ⟨2, 0, none⟩) (World.block_lt_of_cell? w _ h.c0)).trans h.c0
  c1 := (hb.cell (p := ⟨1, 0, none⟩) (World.block_lt_of_cell? w _ h.c1)).trans h.c1
  c2 := (hb.cell (p := ⟨0, 0, none⟩) (World.block_lt_of_cell? w _ h.c2)).trans h.c2
  c4 := (hb.cell (p := ⟨4, 0, none⟩) (World.block_lt_of_cell? w _ h.c4)).trans h.c4
  c6 := (hb.cell (p := ⟨5, 0, none⟩) (World.block_lt_of_cell? w _ h.c6)).trans h.c6
  ne := h.ne
  blk := fun i hi => by
    obtain ⟨c, t, hc⟩ := h.blk i hi
    exact ⟨c, t, (hb.block _ (Array.getElem?_eq_some_iff.1 hc).1).trans hc⟩
end Go.Proofs.YtlfeiadgahdgoaaGreatDoor
namespace Go.Proofs.YtlfeiadgahdgoaaGreatDoor
open Go.RowKit Go.Shelf Go.Lib
theorem hid0 {p : Prop} (h : p) : Hid p := h
theorem bget (s : ByteArray) (k : Nat) (h : k < s.size) : s.data.toList[k]? = some s[k] := by
  rw [List.getElem?_eq_getElem (by simpa using h)]; rfl
theorem Below.later {w a b : World} (h : Below w.heap.size w a) (k : Below a.heap.size a b) : Below w.heap.size w b :=
  ⟨k.os.trans h.os, k.tape.trans h.tape, k.output.trans h.output, Nat.le_trans h.size k.size, fun i hi => (k.block i (Nat.lt_of_lt_of_le hi h.size)).trans (h.block i hi)⟩
theorem info_parts {t : TypeId} {z : Value} {n b : Nat} (h : (Tryz.prog.info? t).map (fun i => (i.zero, i.size, i.bytes)) = some (some z, n, b)) : ∃ i, Tryz.prog.info? t = some i ∧ i.zero = some z ∧ i.size = n ∧ i.bytes = b := by
  obtain ⟨i, h1, h2⟩ := Option.map_eq_some_iff.1 h
  simp only [Prod.mk.injEq] at h2
  exact ⟨i, h1, h2.1, h2.2.1, h2.2.2⟩
theorem infoU8 : (Tryz.prog.info? 5).map (fun i => (i.zero, i.size, i.bytes)) = some (some (.int .u8 0), 1, 1) := by kernel_rfl
def cellsB (l : List UInt8) : List Value := l.map fun b => .int .u8 (b.toNat : Int)
/-- Bytes in a row of one's own. -/
def OwnB (w : World) (base : Nat) (v : Value) (l : List UInt8) : Prop := w.ownsRow base 5 1 v l.length (cellsB l)
theorem toStr {w : World} {base : Nat} {v : Value} {l : List UInt8} (h : OwnB w base v l) : (convert 48 9 v).run Tryz.prog w = .ok (.string ⟨l.toArray⟩) w := by
  have h0 := h
  rcases h.2 with ⟨rfl, hn⟩ | ⟨g, cap, cur, rfl, _⟩
  · have : l = [] := List.length_eq_zero_iff.1 hn
    subst this
    rw [run_convert_bytes_string w 48 9 5 none 0 0 Tryz.underlying48 Tryz.underlying5 Tryz.underlying9]; rfl
  · refine run_convert_bytes_back (P := Tryz.prog) w 48 9 5 ⟨g, 0, none⟩ cap l Tryz.underlying48 Tryz.underlying5 Tryz.underlying9 (fun j hj => ?_)
    rw [Addr.add_lit, Nat.zero_add, World.ownsRow.cellAt h0 j (by omega)]
    simp [cellsB, hj]
theorem ownB_snoc {w wr w1 : World} {base : Nat} {v v' : Value} {l : List UInt8} {c : UInt8} {o : Obj} {n : Nat} (hn : n = l.length) (hown : OwnB wr base v l)
    (hown' : w1.ownsRow base 5 1 v' (n + 1) (cellsB l ++ [.int .u8 (c.toNat : Int)])) (hgrow : (wr.alloc o).grownBy w1 v.ownBlock) (hbel : Below base w wr) (hb : base ≤ w.heap.size) :
    OwnB w1 base v' (l ++ [c]) ∧ Below base w w1 := by
  subst hn
  have hsz := hbel.size
  refine ⟨?_, (hbel.alloc (by omega) o).grown hgrow (by simp; omega) (fun k hk => (World.ownsRow.lt hown k hk).1)⟩
  have e2 : cellsB (l ++ [c]) = cellsB l ++ [.int .u8 (c.toNat : Int)] := by simp [cellsB]
  unfold OwnB
  rw [List.length_append, e2]
  exact hown'
theorem cell_one_new (w : World) (v : Value) (t : TypeId) : ∀ j u, [v][j]? = some u → (w.alloc (.cells #[v] t)).cell? ((⟨w.heap.size, 0, none⟩ : Addr).add j) = some u := by
  intro j u h
  rw [Addr.add_lit, cell_of_row _ w.heap.size _ _ _ _ (heap_alloc_new w _), Nat.zero_add]
  simpa using h
set_option maxRecDepth 100000 in
theorem case_facts : ∀ i : Fin 256, (isUp (UInt8.ofNat i.val) = true → (lowerB (UInt8.ofNat i.val)).toNat = (UInt8.ofNat i.val).toNat + 32) ∧ (isUp (UInt8.ofNat i.val) = false → lowerB (UInt8.ofNat i.val) = UInt8.ofNat i.val) ∧ (isLo (UInt8.ofNat i.val) = true → (upperB (UInt8.ofNat i.val)).toNat + 32 = (UInt8.ofNat i.val).toNat) ∧ (isLo (UInt8.ofNat i.val) = false → upperB (UInt8.ofNat i.val) = UInt8.ofNat i.val) := by decide
theorem lo_up (b : UInt8) (h : isUp b = true) : (lowerB b).toNat = b.toNat + 32 := (all256 (p := fun b => isUp b = true → (lowerB b).toNat = b.toNat + 32) (fun i => (case_facts i).1) b) h
theorem lo_same (b : UInt8) (h : isUp b = false) : lowerB b = b := (all256 (p := fun b => isUp b = false → lowerB b = b) (fun i => (case_facts i).2.1) b) h
theorem up_lo (b : UInt8) (h : isLo b = true) : (upperB b).toNat + 32 = b.toNat := (all256 (p := fun b => isLo b = true → (upperB b).toNat + 32 = b.toNat) (fun i => (case_facts i).2.2.1) b) h
theorem up_same (b : UInt8) (h : isLo b = false) : upperB b = b := (all256 (p := fun b => isLo b = false → upperB b = b) (fun i => (case_facts i).2.2.2) b) h
theorem byteI (c : UInt8) : (0 : Int) ≤ (c.toNat : Int) ∧ (c.toNat : Int) < 256 := ⟨by omega, by have := c.toNat_lt; omega⟩
theorem isLo_int (c : UInt8) : isLo c = (decide (97 ≤ (c.toNat : Int)) && decide ((c.toNat : Int) ≤ 122)) := by
  unfold isLo
  congr 1 <;> exact decide_eq_decide.2 (by omega)
set_option maxRecDepth 10000 in
set_option maxHeartbeats 400000 in
theorem refSmall_any (c : UInt8) (w : World) : Calls Tryz.prog 142 #[.int .u8 (c.toNat : Int)] w fun e w' => e = .returned (.bool (isLo c)) ∧ w' = w := by
  rw [isLo_int c]
  obtain ⟨h0, h1⟩ := byteI c
  generalize (c.toNat : Int) = x at *
  by_cases a0 : 97 ≤ x
  · by_cases a1 : x ≤ 122
    · have hb : (decide (97 ≤ x) && decide (x ≤ 122)) = true := by simp [a0, a1]
      rw [hb]
      go_enter Tryz.func142, Tryz.ntmps142
      go_wp2
      go_ret
      exact ⟨rfl, rfl⟩
    · have hb : (decide (97 ≤ x) && decide (x ≤ 122)) = false := by simp [a1]
      rw [hb]
      go_enter Tryz.func142, Tryz.ntmps142
      go_wp2
      go_ret
      exact ⟨rfl, rfl⟩
  · have hb : (decide (97 ≤ x) && decide (x ≤ 122)) = false := by simp [a0]
    rw [hb]
    go_enter Tryz.func142, Tryz.ntmps142
    go_wp2
    go_ret
    exact ⟨rfl, rfl⟩
theorem isUp_int (c : UInt8) : isUp c = (decide (65 ≤ (c.toNat : Int)) && decide ((c.toNat : Int) ≤ 90)) := by
  unfold isUp
  congr 1 <;> exact decide_eq_decide.2 (by omega)
set_option maxRecDepth 10000 in
set_option maxHeartbeats 400000 in
theorem refGreat_any (c : UInt8) (w : World) : Calls Tryz.prog 143 #[.int .u8 (c.toNat : Int)] w fun e w' => e = .returned (.bool (isUp c)) ∧ w' = w := by
  rw [isUp_int c]
  obtain ⟨h0, h1⟩ := byteI c
  generalize (c.toNat : Int) = x at *
  by_cases a0 : 65 ≤ x
  · by_cases a1 : x ≤ 90
    · have hb : (decide (65 ≤ x) && decide (x ≤ 90)) = true := by simp [a0, a1]
      rw [hb]
      go_enter Tryz.func143, Tryz.ntmps143
      go_wp2
      go_ret
      exact ⟨rfl, rfl⟩
    · have hb : (decide (65 ≤ x) && decide (x ≤ 90)) = false := by simp [a1]
      rw [hb]
      go_enter Tryz.func143, Tryz.ntmps143
      go_wp2
      go_ret
      exact ⟨rfl, rfl⟩
  · have hb : (decide (65 ≤ x) && decide (x ≤ 90)) = false := by simp [a0]
    rw [hb]
    go_enter Tryz.func143, Tryz.ntmps143
    go_wp2
    go_ret
    exact ⟨rfl, rfl⟩
theorem isDi_int (c : UInt8) : isDi c = (decide (48 ≤ (c.toNat : Int)) && decide ((c.toNat : Int) ≤ 57)) := by
  unfold isDi
  congr 1 <;> exact decide_eq_decide.2 (by omega)
set_option maxRecDepth 10000 in
set_option maxHeartbeats 400000 in
theorem refDigit_any (c : UInt8) (w : World) : Calls Tryz.prog 144 #[.int .u8 (c.toNat : Int)] w fun e w' => e = .returned (.bool (isDi c)) ∧ w' = w := by
  rw [isDi_int c]
  obtain ⟨h0, h1⟩ := byteI c
  generalize (c.toNat : Int) = x at *
  by_cases a0 : 48 ≤ x
  · by_cases a1 : x ≤ 57
    · have hb : (decide (48 ≤ x) && decide (x ≤ 57)) = true := by simp [a0, a1]
      rw [hb]
      go_enter Tryz.func144, Tryz.ntmps144
      go_wp2
      go_ret
      exact ⟨rfl, rfl⟩
    · have hb : (decide (48 ≤ x) && decide (x ≤ 57)) = false := by simp [a1]
      rw [hb]
      go_enter Tryz.func144, Tryz.ntmps144
      go_wp2
      go_ret
      exact ⟨rfl, rfl⟩
  · have hb : (decide (48 ≤ x) && decide (x ≤ 57)) = false := by simp [a0]
    rw [hb]
    go_enter Tryz.func144, Tryz.ntmps144
    go_wp2
    go_ret
    exact ⟨rfl, rfl⟩
set_option maxRecDepth 10000 in
set_option maxHeartbeats 1600000 in
theorem refLower_any (s : ByteArray) (hs : s.size ≤ 1000000) (w : World) : Calls Tryz.prog 110 #[.string s] w fun e w' => e = .returned (.string ⟨(s.data.toList.map lowerB).toArray⟩) ∧ Below w.heap.size w w' := by
  obtain ⟨i0, hi, hz0, hz1, hz2⟩ := info_parts infoU8
  obtain ⟨Y, hY⟩ : ∃ Y, Y = s.data.toList.map lowerB := ⟨_, rfl⟩
  rw [← hY]
  have HY := hid0 hY
  clear hY
  go_enter Tryz.func110, Tryz.ntmps110
  go_wp2
  go_loopw [3, 4] (fun v i wr => ∃ k : Nat, k ≤ s.size ∧ i = .int .i64 (k : Int) ∧ Hid (OwnB wr w.heap.size v ((s.data.toList.take k).map lowerB)) ∧ Hid (Below w.heap.size w wr)) (fun _ i _ => s.size - (intOf i).toNat)
  case atStart => exact ⟨0, Nat.zero_le _, rfl, hid0 (World.ownsRow_nil _ _ _ _), hid0 (Below.refl _ _)⟩
  case round =>
    obtain ⟨k, hk, rfl, HO, HB⟩ := hrel
    have hbs := HB.out.size
    have hsl : s.data.toList.length = s.size := by simp
    obtain ⟨X, hX⟩ : ∃ X, X = (s.data.toList.take k).map lowerB := ⟨_, rfl⟩
    have htl : X.length = k := by rw [hX, List.length_map, List.length_take]; omega
    rw [← hX] at HO
    have HTL := hid0 htl
    have HX := hid0 hX
    have HOO : Hid (wr.ownsRow w.heap.size 5 1 u3 k (cellsB X)) := hid0 (by have h := HO.out; unfold OwnB at h; rw [htl] at h; exact h)
    clear htl hX
    by_cases hlt : k < s.size
    · have HC := hid0 (bget s k hlt)
      have hkI : (k : Int) < (s.size : Int) := by omega
      have hkI0 : (0 : Int) ≤ (k : Int) := by omega
      have HTK : Hid ((s.data.toList.take (k + 1)).map lowerB = X ++ [lowerB s[k]]) := hid0 (by rw [List.take_add_one, HC.out, List.map_append, HX.out]; rfl)
      have HT := hid0 (refGreat_any s[k] wr)
      obtain ⟨hx0, hx1⟩ := byteI s[k]
      obtain ⟨hy0, hy1⟩ := byteI (lowerB s[k])
      cases hq : isUp s[k] with
      | true =>
        rw [hq] at HT
        have hv : IntKind.u8.wrap ((s[k].toNat : Int) + 32) = ((lowerB s[k]).toNat : Int) := by have := lo_up s[k] hq; simp [IntKind.wrap, IntKind.bits, IntKind.signed]; omega
        generalize lowerB s[k] = d at *
        clear hq HC HX
        go_wp2_with (first
          | (go_at_call 143; refine HT.out.mono ?_; rintro e w1 ⟨rfl, rfl⟩)
          | (at_builtin; refine wpList_append_own _ rfl _ _ 48 rfl w.heap.size 5 i0 (.int .u8 0) 1 1 Tryz.underlying48 hi hz0 hz1 hz2 rfl (by decide) _ _ _ rfl (HOO.out.alloc _) ⟨_, 0, none⟩ 1 1 [.int .u8 (d.toNat : Int)] rfl rfl (cell_one_new _ _ _) ?c2b ?c3b ?c4b ?c5b ?_))
        case c2b => simp [Value.oneCell']
        case c3b => unfold maxLen; omega
        case c4b => omega
        case c5b => simp; omega
        intro v2 w4 hown' hgrow _
        obtain ⟨g1, g2⟩ := ownB_snoc (base := w.heap.size) (l := X) (c := d) (n := k) HTL.out.symm HO.out hown' hgrow HB.out (Nat.le_refl _)
        have HO4 : Hid (OwnB w4 w.heap.size v2 ((s.data.toList.take (k + 1)).map lowerB)) := hid0 (by rw [HTK.out]; exact g1)
        have HB4 := hid0 g2
        clear hown' hgrow g1 g2 HOO HO HB HTK
        go_wp2
        go_roundw
        case rel => exact ⟨k + 1, by omega, by go_num, HO4, HB4⟩
        case measure => simp [intOf]; omega
      | false =>
        rw [hq] at HT
        have hv := lo_same s[k] hq
        rw [hv] at HTK
        clear hq HC HX
        go_wp2_with (first
          | (go_at_call 143; refine HT.out.mono ?_; rintro e w1 ⟨rfl, rfl⟩)
          | (at_builtin; refine wpList_append_own _ rfl _ _ 48 rfl w.heap.size 5 i0 (.int .u8 0) 1 1 Tryz.underlying48 hi hz0 hz1 hz2 rfl (by decide) _ _ _ rfl (HOO.out.alloc _) ⟨_, 0, none⟩ 1 1 [.int .u8 (s[k].toNat : Int)] rfl rfl (cell_one_new _ _ _) ?c2b ?c3b ?c4b ?c5b ?_))
        case c2b => simp [Value.oneCell']
        case c3b => unfold maxLen; omega
        case c4b => omega
        case c5b => simp; omega
        intro v2 w4 hown' hgrow _
        obtain ⟨g1, g2⟩ := ownB_snoc (base := w.heap.size) (l := X) (c := s[k]) (n := k) HTL.out.symm HO.out hown' hgrow HB.out (Nat.le_refl _)
        have HO4 : Hid (OwnB w4 w.heap.size v2 ((s.data.toList.take (k + 1)).map lowerB)) := hid0 (by rw [HTK.out]; exact g1)
        have HB4 := hid0 g2
        clear hown' hgrow g1 g2 HOO HO HB HTK
        go_wp2
        go_roundw
        case rel => exact ⟨k + 1, by omega, by go_num, HO4, HB4⟩
        case measure => simp [intOf]; omega
    · have hkI : ¬ (k : Int) < (s.size : Int) := by omega
      have hcv := toStr HO.out
      rw [HX.out, List.take_of_length_le (by omega), ← HY.out] at hcv
      go_wp2
      go_ret
      exact ⟨rfl, HB.out⟩
set_option maxRecDepth 10000 in
set_option maxHeartbeats 1600000 in
theorem refUpper_any (s : ByteArray) (hs : s.size ≤ 1000000) (w : World) : Calls Tryz.prog 145 #[.string s] w fun e w' => e = .returned (.string ⟨(s.data.toList.map upperB).toArray⟩) ∧ Below w.heap.size w w' := by
  obtain ⟨i0, hi, hz0, hz1, hz2⟩ := info_parts infoU8
  obtain ⟨Y, hY⟩ : ∃ Y, Y = s.data.toList.map upperB := ⟨_, rfl⟩
  rw [← hY]
  have HY := hid0 hY
  clear hY
  go_enter Tryz.func145, Tryz.ntmps145
  go_wp2
  go_loopw [3, 4] (fun v i wr => ∃ k : Nat, k ≤ s.size ∧ i = .int .i64 (k : Int) ∧ Hid (OwnB wr w.heap.size v ((s.data.toList.take k).map upperB)) ∧ Hid (Below w.heap.size w wr)) (fun _ i _ => s.size - (intOf i).toNat)
  case atStart => exact ⟨0, Nat.zero_le _, rfl, hid0 (World.ownsRow_nil _ _ _ _), hid0 (Below.refl _ _)⟩
  case round =>
    obtain ⟨k, hk, rfl, HO, HB⟩ := hrel
    have hbs := HB.out.size
    have hsl : s.data.toList.length = s.size := by simp
    obtain ⟨X, hX⟩ : ∃ X, X = (s.data.toList.take k).map upperB := ⟨_, rfl⟩
    have htl : X.length = k := by rw [hX, List.length_map, List.length_take]; omega
    rw [← hX] at HO
    have HTL := hid0 htl
    have HX := hid0 hX
    have HOO : Hid (wr.ownsRow w.heap.size 5 1 u3 k (cellsB X)) := hid0 (by have h := HO.out; unfold OwnB at h; rw [htl] at h; exact h)
    clear htl hX
    by_cases hlt : k < s.size
    · have HC := hid0 (bget s k hlt)
      have hkI : (k : Int) < (s.size : Int) := by omega
      have hkI0 : (0 : Int) ≤ (k : Int) := by omega
      have HTK : Hid ((s.data.toList.take (k + 1)).map upperB = X ++ [upperB s[k]]) := hid0 (by rw [List.take_add_one, HC.out, List.map_append, HX.out]; rfl)
      have HT := hid0 (refSmall_any s[k] wr)
      obtain ⟨hx0, hx1⟩ := byteI s[k]
      obtain ⟨hy0, hy1⟩ := byteI (upperB s[k])
      cases hq : isLo s[k] with
      | true =>
        rw [hq] at HT
        have hv : IntKind.u8.wrap ((s[k].toNat : Int) - 32) = ((upperB s[k]).toNat : Int) := by have := up_lo s[k] hq; simp [IntKind.wrap, IntKind.bits, IntKind.signed]; omega
        generalize upperB s[k] = d at *
        clear hq HC HX
        go_wp2_with (first
          | (go_at_call 142; refine HT.out.mono ?_; rintro e w1 ⟨rfl, rfl⟩)
          | (at_builtin; refine wpList_append_own _ rfl _ _ 48 rfl w.heap.size 5 i0 (.int .u8 0) 1 1 Tryz.underlying48 hi hz0 hz1 hz2 rfl (by decide) _ _ _ rfl (HOO.out.alloc _) ⟨_, 0, none⟩ 1 1 [.int .u8 (d.toNat : Int)] rfl rfl (cell_one_new _ _ _) ?c2b ?c3b ?c4b ?c5b ?_))
        case c2b => simp [Value.oneCell']
        case c3b => unfold maxLen; omega
        case c4b => omega
        case c5b => simp; omega
        intro v2 w4 hown' hgrow _
        obtain ⟨g1, g2⟩ := ownB_snoc (base := w.heap.size) (l := X) (c := d) (n := k) HTL.out.symm HO.out hown' hgrow HB.out (Nat.le_refl _)
        have HO4 : Hid (OwnB w4 w.heap.size v2 ((s.data.toList.take (k + 1)).map upperB)) := hid0 (by rw [HTK.out]; exact g1)
        have HB4 := hid0 g2
        clear hown' hgrow g1 g2 HOO HO HB HTK
        go_wp2
        go_roundw
        case rel => exact ⟨k + 1, by omega, by go_num, HO4, HB4⟩
        case measure => simp [intOf]; omega
      | false =>
        rw [hq] at HT
        have hv := up_same s[k] hq
        rw [hv] at HTK
        clear hq HC HX
        go_wp2_with (first
          | (go_at_call 142; refine HT.out.mono ?_; rintro e w1 ⟨rfl, rfl⟩)
          | (at_builtin; refine wpList_append_own _ rfl _ _ 48 rfl w.heap.size 5 i0 (.int .u8 0) 1 1 Tryz.underlying48 hi hz0 hz1 hz2 rfl (by decide) _ _ _ rfl (HOO.out.alloc _) ⟨_, 0, none⟩ 1 1 [.int .u8 (s[k].toNat : Int)] rfl rfl (cell_one_new _ _ _) ?c2b ?c3b ?c4b ?c5b ?_))
        case c2b => simp [Value.oneCell']
        case c3b => unfold maxLen; omega
        case c4b => omega
        case c5b => simp; omega
        intro v2 w4 hown' hgrow _
        obtain ⟨g1, g2⟩ := ownB_snoc (base := w.heap.size) (l := X) (c := s[k]) (n := k) HTL.out.symm HO.out hown' hgrow HB.out (Nat.le_refl _)
        have HO4 : Hid (OwnB w4 w.heap.size v2 ((s.data.toList.take (k + 1)).map upperB)) := hid0 (by rw [HTK.out]; exact g1)
        have HB4 := hid0 g2
        clear hown' hgrow g1 g2 HOO HO HB HTK
        go_wp2
        go_roundw
        case rel => exact ⟨k + 1, by omega, by go_num, HO4, HB4⟩
        case measure => simp [intOf]; omega
    · have hkI : ¬ (k : Int) < (s.size : Int) := by omega
      have hcv := toStr HO.out
      rw [HX.out, List.take_of_length_le (by omega), ← HY.out] at hcv
      go_wp2
      go_ret
      exact ⟨rfl, HB.out⟩
theorem all_at {p : UInt8 → Bool} (s : ByteArray) (k : Nat) (h : k < s.size) : (s.data.toList.drop k).all p = (p s[k] && (s.data.toList.drop (k + 1)).all p) := by
  rw [List.drop_eq_getElem_cons (by simpa using h), List.all_cons]; rfl
set_option maxRecDepth 10000 in
set_option maxHeartbeats 1600000 in
theorem refLetters_any (s : ByteArray) (hs : s.size ≤ 1000000) (w : World) : Calls Tryz.prog 111 #[.string s] w fun e w' => e = .returned (.bool (s.data.toList.all isL)) ∧ w' = w := by
  obtain ⟨R, hR⟩ : ∃ R, R = s.data.toList.all isL := ⟨_, rfl⟩
  rw [← hR]
  have HR := hid0 hR
  clear hR
  go_enter Tryz.func111, Tryz.ntmps111
  go_wp2
  go_loopw [3] (fun i wr => ∃ k : Nat, k ≤ s.size ∧ i = .int .i64 (k : Int) ∧ Hid (s.data.toList.all isL = (s.data.toList.drop k).all isL) ∧ wr = w) (fun i _ => s.size - (intOf i).toNat)
  case atStart => exact ⟨0, Nat.zero_le _, rfl, hid0 rfl, rfl⟩
  case round =>
    obtain ⟨k, hk, rfl, HA, rfl⟩ := hrel
    by_cases hlt : k < s.size
    · have HN := hid0 (all_at (p := isL) s k hlt)
      have hkI : (k : Int) < (s.size : Int) := by omega
      have hkI0 : (0 : Int) ≤ (k : Int) := by omega
      have H1 := hid0 (refSmall_any s[k] wr)
      have H2 := hid0 (refGreat_any s[k] wr)
      obtain ⟨hx0, hx1⟩ := byteI s[k]
      cases hq1 : isLo s[k] with
      | true =>
        rw [hq1] at H1
        have HV : Hid (s.data.toList.all isL = (s.data.toList.drop (k + 1)).all isL) := hid0 (by rw [HA.out, HN.out]; simp [isL, hq1])
        clear HA HN hq1
        go_wp2_with (first | (go_at_call 142; refine H1.out.mono ?_; rintro e w1 ⟨rfl, rfl⟩) | fail)
        go_roundw
        case rel => exact ⟨k + 1, by omega, by go_num, HV, trivial⟩
        case measure => simp [intOf]; omega
      | false =>
        rw [hq1] at H1
        cases hq2 : isUp s[k] with
        | true =>
          rw [hq2] at H2
          have HV : Hid (s.data.toList.all isL = (s.data.toList.drop (k + 1)).all isL) := hid0 (by rw [HA.out, HN.out]; simp [isL, hq2])
          clear HA HN hq1 hq2
          go_wp2_with (first
            | (go_at_call 142; refine H1.out.mono ?_; rintro e w1 ⟨rfl, rfl⟩)
            | (go_at_call 143; refine H2.out.mono ?_; rintro e w1 ⟨rfl, rfl⟩))
          go_roundw
          case rel => exact ⟨k + 1, by omega, by go_num, HV, trivial⟩
          case measure => simp [intOf]; omega
        | false =>
          rw [hq2] at H2
          have HV : Hid (s.data.toList.all isL = false) := hid0 (by rw [HA.out, HN.out]; simp [isL, hq1, hq2])
          clear HA HN hq1 hq2
          go_wp2_with (first
            | (go_at_call 142; refine H1.out.mono ?_; rintro e w1 ⟨rfl, rfl⟩)
            | (go_at_call 143; refine H2.out.mono ?_; rintro e w1 ⟨rfl, rfl⟩))
          go_ret
          exact ⟨by rw [HR.out, HV.out]; rfl, rfl⟩
    · have hkI : ¬ (k : Int) < (s.size : Int) := by omega
      have HV : Hid (s.data.toList.all isL = true) := hid0 (by rw [HA.out, List.drop_of_length_le (by simp; omega)]; rfl)
      go_wp2
      go_ret
      exact ⟨by rw [HR.out, HV.out]; rfl, rfl⟩
end Go.Proofs.YtlfeiadgahdgoaaGreatDoor
namespace Go.Proofs.YtlfeiadgahdgoaaGreatDoor
open Go.RowKit Go.Shelf Go.Lib
theorem app_arr (a b : List UInt8) : (⟨a.toArray⟩ ++ ⟨b.toArray⟩ : ByteArray) = ⟨(a ++ b).toArray⟩ := by
  apply ByteArray.ext
  simp
theorem size_arr (l : List UInt8) : (⟨l.toArray⟩ : ByteArray).size = l.length := List.size_toArray
theorem ext_head (s : ByteArray) (n : Nat) : (s.extract 0 n).data.toList = s.data.toList.take n := extract_from_zero s n
theorem ext_tail (s : ByteArray) (n : Nat) : (s.extract n s.size).data.toList = s.data.toList.drop n := by
  rw [extract_data, List.take_of_length_le (by simp)]
set_option maxRecDepth 10000 in
set_option maxHeartbeats 1600000 in
theorem refForm_any (s : ByteArray) (hs : s.size ≤ 1000000) (w : World) : Calls Tryz.prog 112 #[.string s] w fun e w' => e = .returned (.string ⟨(formP s.data.toList).toArray⟩) ∧ Below w.heap.size w w' := by
  have HL := hid0 (refLetters_any s hs w)
  have HSL : Hid (s.data.toList.length = s.size) := hid0 (by simp)
  obtain ⟨Y, hY⟩ : ∃ Y, Y = formP s.data.toList := ⟨_, rfl⟩
  rw [← hY]
  have HY := hid0 hY
  clear hY
  have H0 := hid0 (refLower_any s hs w)
  have H1 := hid0 (refUpper_any s hs w)
  cases hq : s.data.toList.all isL with
  | true =>
    rw [hq] at HL
    by_cases h4 : (s.size : Int) = 4
    · have h4' : ((s.size : Int) == 4) = true := by simpa using h4
      have hg1 : (1 : Int) ≤ (s.size : Int) := by omega
      have HU : Hid (∀ W, Below w.heap.size w W → Calls Tryz.prog 145 #[.string (s.extract 0 1)] W fun e w' => e = .returned (.string ⟨((s.data.toList.take 1).map upperB).toArray⟩) ∧ Below w.heap.size w w') := hid0 (fun W hW => by
        have h := refUpper_any (s.extract 0 1) (by simp; omega) W
        rw [ext_head] at h
        exact h.mono (fun e w' hh => ⟨hh.1, Below.later hW hh.2⟩))
      have HD : Hid (∀ W, Below w.heap.size w W → Calls Tryz.prog 110 #[.string (s.extract 1 s.size)] W fun e w' => e = .returned (.string ⟨((s.data.toList.drop 1).map lowerB).toArray⟩) ∧ Below w.heap.size w w') := hid0 (fun W hW => by
        have h := refLower_any (s.extract 1 s.size) (by simp; omega) W
        rw [ext_tail] at h
        exact h.mono (fun e w' hh => ⟨hh.1, Below.later hW hh.2⟩))
      have HV : Hid (Y = (s.data.toList.take 1).map upperB ++ (s.data.toList.drop 1).map lowerB) := hid0 (by rw [HY.out, formP, if_pos ⟨hq, by rw [HSL.out]; omega⟩])
      obtain ⟨B1, hB1⟩ : ∃ B1 : ByteArray, B1 = ⟨((s.data.toList.take 1).map upperB).toArray⟩ := ⟨_, rfl⟩
      obtain ⟨B2, hB2⟩ : ∃ B2 : ByteArray, B2 = ⟨((s.data.toList.drop 1).map lowerB).toArray⟩ := ⟨_, rfl⟩
      have HE : Hid (B1 ++ B2 = ⟨Y.toArray⟩) := hid0 (by rw [hB1, hB2, app_arr, HV.out])
      have hz1 : ¬ 9223372036854775807 < B1.size + B2.size := by
        have e1 : B1.size ≤ 1 := by rw [hB1, size_arr, List.length_map, List.length_take]; omega
        have e2 : B2.size ≤ s.size := by rw [hB2, size_arr, List.length_map, List.length_drop, HSL.out]; omega
        omega
      rw [← hB1] at HU
      rw [← hB2] at HD
      have hB := Below.refl w.heap.size w
      clear hq HY H0 H1 HV hB1 hB2
      go_enter Tryz.func112, Tryz.ntmps112
      go_wp2_with (first | (go_at_call 111; refine HL.out.mono ?_; rintro e w1 ⟨rfl, hw1⟩; have hw1' := hw1.symm; subst hw1') | fail)
      go_region_held3 (fun W => Below w.heap.size w W) (first | assumption | go_grown)
        (first
          | (go_at_call 145; refine (HU.out _ (by assumption)).mono ?_; rintro e w2 ⟨rfl, hb2⟩)
          | (go_at_call 110; refine (HD.out _ (by assumption)).mono ?_; rintro e w2 ⟨rfl, hb2⟩))
      all_goals
        go_wp2
        go_ret
        exact ⟨by rw [← HE.out]; rfl, by assumption⟩
    · have h4' : ((s.size : Int) == 4) = false := by simpa using h4
      by_cases h2 : (s.size : Int) = 2
      · have h2' : ((s.size : Int) == 2) = true := by simpa using h2
        have HV : Hid (Y = s.data.toList.map upperB) := hid0 (by rw [HY.out, formP, if_neg (fun h => by have h1 := HSL.out; rw [h1] at h; omega), if_pos ⟨hq, by rw [HSL.out]; omega⟩])
        rw [← HV.out] at H1
        clear hq HY H0 h4 h2
        go_enter Tryz.func112, Tryz.ntmps112
        go_wp2_with (first
          | (go_at_call 111; refine HL.out.mono ?_; rintro e w1 ⟨rfl, hw1⟩; have hw1' := hw1.symm; subst hw1')
          | (go_at_call 145; refine H1.out.mono ?_; rintro e w2 ⟨rfl, hb2⟩))
        go_ret
        exact ⟨rfl, hb2⟩
      · have h2' : ((s.size : Int) == 2) = false := by simpa using h2
        have HV : Hid (Y = s.data.toList.map lowerB) := hid0 (by rw [HY.out, formP, if_neg (fun h => by have h1 := HSL.out; rw [h1] at h; omega), if_neg (fun h => by have h1 := HSL.out; rw [h1] at h; omega)])
        rw [← HV.out] at H0
        clear hq HY H1 h4 h2
        go_enter Tryz.func112, Tryz.ntmps112
        go_wp2_with (first
          | (go_at_call 111; refine HL.out.mono ?_; rintro e w1 ⟨rfl, hw1⟩; have hw1' := hw1.symm; subst hw1')
          | (go_at_call 110; refine H0.out.mono ?_; rintro e w2 ⟨rfl, hb2⟩))
        go_ret
        exact ⟨rfl, hb2⟩
  | false =>
    rw [hq] at HL
    have HV : Hid (Y = s.data.toList.map lowerB) := hid0 (by rw [HY.out, formP, if_neg (fun h => by rw [hq] at h; cases h.1), if_neg (fun h => by rw [hq] at h; cases h.1)])
    rw [← HV.out] at H0
    clear hq HY H1
    go_enter Tryz.func112, Tryz.ntmps112
    go_wp2_with (first
      | (go_at_call 111; refine HL.out.mono ?_; rintro e w1 ⟨rfl, hw1⟩; have hw1' := hw1.symm; subst hw1')
      | (go_at_call 110; refine H0.out.mono ?_; rintro e w2 ⟨rfl, hb2⟩))
    go_ret
    exact ⟨rfl, hb2⟩
def cellsS (L : List ByteArray) : List Value := L.map .string
def OwnS (w : World) (base : Nat) (v : Value) (L : List ByteArray) : Prop := w.ownsRow base 9 1 v L.length (cellsS L)
theorem infoStr : (Tryz.prog.info? 9).map (fun i => (i.zero, i.size, i.bytes)) = some (some (.string ⟨#[]⟩), 1, 16) := by kernel_rfl
/-- Strings in memory, each where it is asked. -/
structure SA (w : World) (a : Option Addr) (L : List ByteArray) : Prop where
  at' : ∀ k (h : k < L.length), ∃ b off, a = some ⟨b, off, none⟩ ∧ b < w.heap.size ∧ w.cell? ⟨b, off + k, none⟩ = some (.string L[k])
theorem SA.below {w w' : World} {a : Option Addr} {L : List ByteArray} (h : SA w a L) (hb : Below w.heap.size w w') : SA w' a L := ⟨fun k hk => by
  obtain ⟨b, off, rfl, h1, h2⟩ := h.at' k hk
  exact ⟨b, off, rfl, Nat.lt_of_lt_of_le h1 hb.size, (hb.cell (p := ⟨b, off + k, none⟩) h1).trans h2⟩⟩
theorem OwnS.sa {w : World} {base : Nat} {v : Value} {L : List ByteArray} (h : OwnS w base v L) : ∃ a cap, v = .slice a L.length cap ∧ SA w a L ∧ L.length ≤ cap := by
  have h0 := h
  rcases h.2 with ⟨rfl, hn⟩ | ⟨g, cap, cur, rfl, hg, hr, hc, _⟩
  · exact ⟨none, 0, by rw [hn], ⟨fun k hk => by omega⟩, by omega⟩
  · have hlt := (World.ownsRow.lt h0 g rfl).2
    refine ⟨_, cap, rfl, ⟨fun k hk => ⟨g, 0, rfl, hlt, ?_⟩⟩, hc⟩
    rw [Nat.zero_add, World.ownsRow.cellAt h0 k (by omega)]
    simp [cellsS, hk]
theorem owns_snoc {w wr w1 : World} {base : Nat} {v v' : Value} {L : List ByteArray} {c : ByteArray} {o : Obj} {n : Nat} (hn : n = L.length) (hown : OwnS wr base v L)
    (hown' : w1.ownsRow base 9 1 v' (n + 1) (cellsS L ++ [.string c])) (hgrow : (wr.alloc o).grownBy w1 v.ownBlock) (hbel : Below base w wr) (hb : base ≤ w.heap.size) :
    OwnS w1 base v' (L ++ [c]) ∧ Below base w w1 := by
  subst hn
  have hsz := hbel.size
  refine ⟨?_, (hbel.alloc (by omega) o).grown hgrow (by simp; omega) (fun k hk => (World.ownsRow.lt hown k hk).1)⟩
  have e2 : cellsS (L ++ [c]) = cellsS L ++ [.string c] := by simp [cellsS]
  unfold OwnS
  rw [List.length_append, e2]
  exact hown'
/-- The pieces ahead, while a tag is gone through. -/
structure Cut (t : List UInt8) (k fr : Nat) (D : List (List UInt8)) : Prop where
  le : fr ≤ k
  top : k ≤ t.length
  eq : pieces t = D ++ pieces (t.drop fr)
  good : D.all goodP = true
  fine : ∀ b ∈ (t.drop fr).take (k - fr), isN b = true
theorem Cut.start (t : List UInt8) : Cut t 0 0 [] := ⟨Nat.le_refl _, Nat.zero_le _, by simp, rfl, fun b hb => by simp at hb⟩
theorem take_more (t : List UInt8) (k fr : Nat) (h1 : fr ≤ k) (h2 : k < t.length) : (t.drop fr).take (k + 1 - fr) = (t.drop fr).take (k - fr) ++ [t[k]] := by
  rw [show k + 1 - fr = (k - fr) + 1 by omega, List.take_add_one, List.getElem?_drop, show fr + (k - fr) = k by omega, List.getElem?_eq_getElem h2]
  rfl
theorem Cut.step {t : List UInt8} {k fr : Nat} {D : List (List UInt8)} (h : Cut t k fr D) (hk : k < t.length) (hn : isN t[k] = true) : Cut t (k + 1) fr D :=
  ⟨by have := h.le; omega, hk, h.eq, h.good, fun b hb => by
    rw [take_more t k fr h.le hk] at hb
    rcases List.mem_append.1 hb with hb | hb
    · exact h.fine b hb
    · rw [List.mem_singleton.1 hb]; exact hn⟩
theorem Cut.nosep {t : List UInt8} {k fr : Nat} {D : List (List UInt8)} (h : Cut t k fr D) : ∀ b ∈ (t.drop fr).take (k - fr), isSep b = false := fun b hb => N_sep b (h.fine b hb)
theorem Cut.split {t : List UInt8} {k fr : Nat} {D : List (List UInt8)} (h : Cut t k fr D) (hk : k < t.length) (hs : isSep t[k] = true) : pieces (t.drop fr) = (t.drop fr).take (k - fr) :: pieces (t.drop (k + 1)) := by
  have e : t.drop fr = (t.drop fr).take (k - fr) ++ t[k] :: t.drop (k + 1) := by
    have h1 : (t.drop fr).drop (k - fr) = t[k] :: t.drop (k + 1) := by rw [List.drop_drop, show fr + (k - fr) = k by have := h.le; omega, List.drop_eq_getElem_cons hk]
    rw [← h1, List.take_append_drop]
  have hc : ∀ (p s : List UInt8) (c : UInt8), isSep c = true → (∀ b ∈ p, isSep b = false) → pieces (p ++ c :: s) = p :: pieces s := by
    intro p s c hcs hp
    induction p with
    | nil => simp [pieces, hcs]
    | cons b p ih => rw [List.cons_append, pieces, if_neg (by simp [hp b (by simp)]), ih (fun x hx => hp x (by simp [hx]))]
  have h2 := hc ((t.drop fr).take (k - fr)) (t.drop (k + 1)) t[k] hs h.nosep
  rw [← e] at h2
  exact h2
theorem Cut.last {t : List UInt8} {fr : Nat} {D : List (List UInt8)} (h : Cut t t.length fr D) : pieces (t.drop fr) = [(t.drop fr).take (t.length - fr)] := by
  have e : (t.drop fr).take (t.length - fr) = t.drop fr := List.take_of_length_le (by simp)
  have h2 := h.nosep
  rw [e] at h2 ⊢
  exact pieces_self _ h2
theorem Cut.len {t : List UInt8} {k fr : Nat} {D : List (List UInt8)} (h : Cut t k fr D) : ((t.drop fr).take (k - fr)).length = k - fr := by
  have h1 := h.le
  have h2 := h.top
  simp
  omega
theorem Cut.push {t : List UInt8} {k fr : Nat} {D : List (List UInt8)} (h : Cut t k fr D) (hk : k < t.length) (hs : isSep t[k] = true) (h1 : 1 ≤ k - fr) (h8 : k - fr ≤ 8) : Cut t (k + 1) (k + 1) (D ++ [(t.drop fr).take (k - fr)]) :=
  ⟨Nat.le_refl _, hk, by rw [h.eq, h.split hk hs]; simp, by
    rw [List.all_append, h.good]
    simp only [List.all_cons, List.all_nil, Bool.and_true, Bool.true_and, goodP, h.len, Bool.and_eq_true, decide_eq_true_eq]
    exact ⟨⟨h1, h8⟩, List.all_eq_true.2 h.fine⟩, fun b hb => by simp at hb⟩
theorem Cut.done {t : List UInt8} {fr : Nat} {D : List (List UInt8)} (h : Cut t t.length fr D) (h1 : 1 ≤ t.length - fr) (h8 : t.length - fr ≤ 8) : D ++ [(t.drop fr).take (t.length - fr)] = pieces t ∧ (pieces t).all goodP = true := by
  have e : D ++ [(t.drop fr).take (t.length - fr)] = pieces t := by rw [h.eq, h.last]
  refine ⟨e, ?_⟩
  rw [← e, List.all_append, h.good]
  simp only [List.all_cons, List.all_nil, Bool.and_true, Bool.true_and, goodP, h.len, Bool.and_eq_true, decide_eq_true_eq]
  exact ⟨⟨h1, h8⟩, List.all_eq_true.2 h.fine⟩
theorem Cut.small {t : List UInt8} {k fr : Nat} {D : List (List UInt8)} (h : Cut t k fr D) (hk : k = t.length ∨ ∃ hk : k < t.length, isSep t[k] = true) (hb : ¬ (1 ≤ k - fr ∧ k - fr ≤ 8)) : (pieces t).all goodP = false := by
  have hm : (t.drop fr).take (k - fr) ∈ pieces t := by
    rw [h.eq]
    rcases hk with rfl | ⟨hk, hs⟩
    · rw [h.last]; simp
    · rw [h.split hk hs]; simp
  rw [Bool.eq_false_iff]
  intro ha
  have := List.all_eq_true.1 ha _ hm
  simp only [goodP, h.len, Bool.and_eq_true, decide_eq_true_eq] at this
  exact hb this.1
theorem not_fine {t : List UInt8} {k : Nat} (hk : k < t.length) (hs : isSep t[k] = false) (hn : isN t[k] = false) : (pieces t).all goodP = false := by
  rw [Bool.eq_false_iff]
  intro ha
  have h1 := pieces_mem t (fun p hp => by
    have := List.all_eq_true.1 ha p hp
    simp only [goodP, Bool.and_eq_true] at this
    exact List.all_eq_true.1 this.2) t[k] (List.getElem_mem hk)
  simp [fine, hs, hn] at h1
end Go.Proofs.YtlfeiadgahdgoaaGreatDoor
namespace Go.Proofs.YtlfeiadgahdgoaaGreatDoor
open Go.RowKit Go.Shelf Go.Lib
theorem sep45 (c : UInt8) : ((c.toNat : Int) == 45) = (c == 45) := by
  rw [Bool.eq_iff_iff, beq_iff_eq, beq_iff_eq]
  constructor
  · intro h; exact UInt8.toNat_inj.1 (by have : (45 : UInt8).toNat = 45 := rfl; omega)
  · rintro rfl; rfl
theorem sep95 (c : UInt8) : ((c.toNat : Int) == 95) = (c == 95) := by
  rw [Bool.eq_iff_iff, beq_iff_eq, beq_iff_eq]
  constructor
  · intro h; exact UInt8.toNat_inj.1 (by have : (95 : UInt8).toNat = 95 := rfl; omega)
  · rintro rfl; rfl
def lists (D : List ByteArray) : List (List UInt8) := D.map (·.data.toList)
/-- What parts leaves. -/
def Parted (t : List UInt8) (w : World) (e : Ending) (w' : World) : Prop :=
  ((pieces t).all goodP = false ∧ e = .returned (.slice none 0 0) ∧ Below w.heap.size w w') ∨
  ((pieces t).all goodP = true ∧ ∃ v D, e = .returned v ∧ OwnS w' w.heap.size v D ∧ lists D = pieces t ∧ Below w.heap.size w w')
set_option maxRecDepth 10000 in
set_option maxHeartbeats 3200000 in
theorem refParts_any (s : ByteArray) (hs : s.size ≤ 1000000) (w : World) : Calls Tryz.prog 109 #[.string s] w fun e w' => Parted s.data.toList w e w' := by
  obtain ⟨i0, hi, hz0, hz1, hz2⟩ := info_parts infoStr
  have HTL : Hid (s.data.toList.length = s.size) := hid0 (by simp)
  go_enter Tryz.func109, Tryz.ntmps109
  go_wp2
  go_loopw [3, 4, 5] (fun v fr i wr => ∃ (k f : Nat) (D : List ByteArray), k ≤ s.size + 1 ∧ f ≤ k ∧ D.length ≤ k ∧ fr = .int .i64 (f : Int) ∧ i = .int .i64 (k : Int) ∧ Hid (OwnS wr w.heap.size v D) ∧ Hid (Below w.heap.size w wr) ∧ Hid (Cut s.data.toList k f (lists D) ∨ (k = s.size + 1 ∧ lists D = pieces s.data.toList ∧ (pieces s.data.toList).all goodP = true))) (fun _ _ i _ => s.size + 1 - (intOf i).toNat)
  case atStart => exact ⟨0, 0, [], Nat.zero_le _, Nat.zero_le _, Nat.zero_le _, rfl, rfl, hid0 (World.ownsRow_nil _ _ _ _), hid0 (Below.refl _ _), hid0 (.inl (Cut.start _))⟩
  case round =>
    obtain ⟨k, f, D, hk, hf, hD, rfl, rfl, HO, HB, HC⟩ := hrel
    have hbs := HB.out.size
    have hkI0 : (0 : Int) ≤ (k : Int) := by omega
    have hfI0 : (0 : Int) ≤ (f : Int) := by omega
    have hfk : (f : Int) ≤ (k : Int) := by omega
    by_cases hle : k ≤ s.size
    · have HCut : Hid (Cut s.data.toList k f (lists D)) := hid0 (by
        rcases HC.out with h | ⟨h, _⟩
        · exact h
        · omega)
      have hkI : (k : Int) ≤ (s.size : Int) := by omega
      have HOO : Hid (wr.ownsRow w.heap.size 9 1 u3 D.length (cellsS D)) := HO
      obtain ⟨d, hd⟩ : ∃ d : Nat, d = k - f := ⟨_, rfl⟩
      have hdw : IntKind.i64.wrap ((k : Int) - (f : Int)) = (d : Int) := by simp [IntKind.wrap, IntKind.bits, IntKind.signed]; omega
      have HD := hid0 hd
      have HX : Hid ((s.extract f k).data.toList = (s.data.toList.drop f).take (k - f)) := hid0 (extract_data s f k)
      have HLX : Hid (lists (D ++ [s.extract f k]) = lists D ++ [(s.data.toList.drop f).take (k - f)]) := hid0 (by rw [← HX.out]; simp [lists])
      clear HC hd
      by_cases hlt : k < s.size
      · have hltI : (k : Int) < (s.size : Int) := by omega
        have hlt' : k < s.data.toList.length := by rw [HTL.out]; exact hlt
        have HSK : Hid (s.data.toList[k] = s[k]) := hid0 rfl
        obtain ⟨hx0, hx1⟩ := byteI s[k]
        have H1 := hid0 (refSmall_any s[k])
        have H2 := hid0 (refGreat_any s[k])
        have H3 := hid0 (refDigit_any s[k])
        have e45 := sep45 s[k]
        have e95 := sep95 s[k]
        by_cases h45 : s[k] = 45
        · have HQ : Hid (isSep s[k] = true) := hid0 (by rw [h45]; rfl)
          have HSEP : Hid (k = s.data.toList.length ∨ ∃ hk : k < s.data.toList.length, isSep s.data.toList[k] = true) := hid0 (.inr ⟨hlt', by rw [HSK.out]; exact HQ.out⟩)
          have HPUSH : Hid (1 ≤ k - f → k - f ≤ 8 → Cut s.data.toList (k + 1) (k + 1) (lists D ++ [(s.data.toList.drop f).take (k - f)]) ∨ (k + 1 = s.size + 1 ∧ lists D ++ [(s.data.toList.drop f).take (k - f)] = pieces s.data.toList ∧ (pieces s.data.toList).all goodP = true)) := hid0 (fun a b => .inl (HCut.out.push hlt' (by rw [HSK.out]; exact HQ.out) a b))
          have b45 : ((s[k].toNat : Int) == 45) = true := by rw [e45, h45]; rfl

          clear H1 H2 H3 e45 e95 HTL HSK
          by_cases hd1 : (d : Int) < 1
          · have HV : Hid ((pieces s.data.toList).all goodP = false) := hid0 (HCut.out.small HSEP.out (by have := HD.out; omega))
            clear HCut HOO HO HX HLX
            go_wp2_with (fail)
            go_ret
            exact .inl ⟨HV.out, rfl, HB.out⟩
          · by_cases hd8 : (8 : Int) < (d : Int)
            · have HV : Hid ((pieces s.data.toList).all goodP = false) := hid0 (HCut.out.small HSEP.out (by have := HD.out; omega))
              clear HCut HOO HO HX HLX
              go_wp2_with (fail)
              go_ret
              exact .inl ⟨HV.out, rfl, HB.out⟩
            · have hk1 : IntKind.i64.wrap ((k : Int) + 1) = ((k + 1 : Nat) : Int) := by simp [IntKind.wrap, IntKind.bits, IntKind.signed]; omega
              go_wp2_with (first | (at_builtin; refine wpList_append_own _ rfl _ _ 68 rfl w.heap.size 9 i0 (.string ⟨#[]⟩) 1 16 Tryz.underlying68 hi hz0 hz1 hz2 rfl (by decide) _ _ _ rfl (HOO.out.alloc _) ⟨_, 0, none⟩ 1 1 [.string (s.extract f k)] rfl rfl (cell_one_new _ _ _) ?c2b ?c3b ?c4b ?c5b ?_) | fail)
              case c2b => simp [Value.oneCell']
              case c3b => unfold maxLen; omega
              case c4b => omega
              case c5b => first | omega | (simp; omega)
              intro v2 w4 hown' hgrow _
              obtain ⟨g1, g2⟩ := owns_snoc (base := w.heap.size) (L := D) (c := s.extract f k) (n := D.length) rfl HO.out hown' hgrow HB.out (Nat.le_refl _)
              have HO4 := hid0 g1
              have HB4 := hid0 g2
              have HC4 : Hid (Cut s.data.toList (k + 1) (k + 1) (lists (D ++ [s.extract f k])) ∨ (k + 1 = s.size + 1 ∧ lists (D ++ [s.extract f k]) = pieces s.data.toList ∧ (pieces s.data.toList).all goodP = true)) := hid0 (by rw [HLX.out]; exact (HPUSH.out (by have := HD.out; omega) (by have := HD.out; omega)))
              have hDl : (D ++ [s.extract f k]).length ≤ k + 1 := by simp; omega
              clear hown' hgrow g1 g2 HOO HO HB HCut HX HLX
              go_wp2
              go_roundw
              case rel => exact ⟨k + 1, k + 1, _, by omega, by omega, hDl, by first | rfl | (rw [hk1]) | go_num, by go_num, HO4, HB4, HC4⟩
              case measure => simp [intOf]; omega

        by_cases h95 : s[k] = 95
        · have HQ : Hid (isSep s[k] = true) := hid0 (by rw [h95]; rfl)
          have HSEP : Hid (k = s.data.toList.length ∨ ∃ hk : k < s.data.toList.length, isSep s.data.toList[k] = true) := hid0 (.inr ⟨hlt', by rw [HSK.out]; exact HQ.out⟩)
          have HPUSH : Hid (1 ≤ k - f → k - f ≤ 8 → Cut s.data.toList (k + 1) (k + 1) (lists D ++ [(s.data.toList.drop f).take (k - f)]) ∨ (k + 1 = s.size + 1 ∧ lists D ++ [(s.data.toList.drop f).take (k - f)] = pieces s.data.toList ∧ (pieces s.data.toList).all goodP = true)) := hid0 (fun a b => .inl (HCut.out.push hlt' (by rw [HSK.out]; exact HQ.out) a b))
          have b95 : ((s[k].toNat : Int) == 95) = true := by rw [e95, h95]; rfl
          have b45 : ((s[k].toNat : Int) == 45) = false := by rw [e45]; simpa using h45
          have n45 : ¬ (s[k].toNat : Int) = 45 := by simpa using b45
          clear H1 H2 H3 e45 e95 HTL HSK
          by_cases hd1 : (d : Int) < 1
          · have HV : Hid ((pieces s.data.toList).all goodP = false) := hid0 (HCut.out.small HSEP.out (by have := HD.out; omega))
            clear HCut HOO HO HX HLX
            go_wp2_with (fail)
            go_ret
            exact .inl ⟨HV.out, rfl, HB.out⟩
          · by_cases hd8 : (8 : Int) < (d : Int)
            · have HV : Hid ((pieces s.data.toList).all goodP = false) := hid0 (HCut.out.small HSEP.out (by have := HD.out; omega))
              clear HCut HOO HO HX HLX
              go_wp2_with (fail)
              go_ret
              exact .inl ⟨HV.out, rfl, HB.out⟩
            · have hk1 : IntKind.i64.wrap ((k : Int) + 1) = ((k + 1 : Nat) : Int) := by simp [IntKind.wrap, IntKind.bits, IntKind.signed]; omega
              go_wp2_with (first | (at_builtin; refine wpList_append_own _ rfl _ _ 68 rfl w.heap.size 9 i0 (.string ⟨#[]⟩) 1 16 Tryz.underlying68 hi hz0 hz1 hz2 rfl (by decide) _ _ _ rfl (HOO.out.alloc _) ⟨_, 0, none⟩ 1 1 [.string (s.extract f k)] rfl rfl (cell_one_new _ _ _) ?c2b ?c3b ?c4b ?c5b ?_) | fail)
              case c2b => simp [Value.oneCell']
              case c3b => unfold maxLen; omega
              case c4b => omega
              case c5b => first | omega | (simp; omega)
              intro v2 w4 hown' hgrow _
              obtain ⟨g1, g2⟩ := owns_snoc (base := w.heap.size) (L := D) (c := s.extract f k) (n := D.length) rfl HO.out hown' hgrow HB.out (Nat.le_refl _)
              have HO4 := hid0 g1
              have HB4 := hid0 g2
              have HC4 : Hid (Cut s.data.toList (k + 1) (k + 1) (lists (D ++ [s.extract f k])) ∨ (k + 1 = s.size + 1 ∧ lists (D ++ [s.extract f k]) = pieces s.data.toList ∧ (pieces s.data.toList).all goodP = true)) := hid0 (by rw [HLX.out]; exact (HPUSH.out (by have := HD.out; omega) (by have := HD.out; omega)))
              have hDl : (D ++ [s.extract f k]).length ≤ k + 1 := by simp; omega
              clear hown' hgrow g1 g2 HOO HO HB HCut HX HLX
              go_wp2
              go_roundw
              case rel => exact ⟨k + 1, k + 1, _, by omega, by omega, hDl, by first | rfl | (rw [hk1]) | go_num, by go_num, HO4, HB4, HC4⟩
              case measure => simp [intOf]; omega

        have HQ : Hid (isSep s[k] = false) := hid0 (by simp [isSep, h45, h95])
        have b45 : ((s[k].toNat : Int) == 45) = false := by rw [e45]; simpa using h45
        have b95 : ((s[k].toNat : Int) == 95) = false := by rw [e95]; simpa using h95
        have n45 : ¬ (s[k].toNat : Int) = 45 := by simpa using b45
        have n95 : ¬ (s[k].toNat : Int) = 95 := by simpa using b95
        have m45 : ((s[k].toNat : Int) != 45) = true := by simpa using b45
        have m95 : ((s[k].toNat : Int) != 95) = true := by simpa using b95
        clear e45 e95 h45 h95
        have HSTEP : Hid (isN s[k] = true → Cut s.data.toList (k + 1) f (lists D) ∨ (k + 1 = s.size + 1 ∧ lists D = pieces s.data.toList ∧ (pieces s.data.toList).all goodP = true)) := hid0 (fun h => .inl (HCut.out.step hlt' (by rw [HSK.out]; exact h)))
        cases hq1 : isLo s[k] with
        | true =>
          rw [hq1] at H1
          have HC2 := hid0 (HSTEP.out (by simp [isN, isL, hq1]))
          clear HSTEP hq1 HCut HOO HX HLX
          go_wp2_with (first | (go_at_call 142; refine (H1.out _).mono ?_; rintro e w1 ⟨rfl, rfl⟩) | fail)
          go_roundw
          case rel => exact ⟨k + 1, f, D, by omega, by omega, by omega, rfl, by go_num, HO, HB, HC2⟩
          case measure => simp [intOf]; omega
        | false =>
          rw [hq1] at H1
          cases hq2 : isUp s[k] with
          | true =>
            rw [hq2] at H2
            have HC2 := hid0 (HSTEP.out (by simp [isN, isL, hq2]))
            clear HSTEP hq1 hq2 HCut HOO HX HLX
            go_wp2_with (first
              | (go_at_call 142; refine (H1.out _).mono ?_; rintro e w1 ⟨rfl, rfl⟩)
              | (go_at_call 143; refine (H2.out _).mono ?_; rintro e w1 ⟨rfl, rfl⟩))
            go_roundw
            case rel => exact ⟨k + 1, f, D, by omega, by omega, by omega, rfl, by go_num, HO, HB, HC2⟩
            case measure => simp [intOf]; omega
          | false =>
            rw [hq2] at H2
            cases hq3 : isDi s[k] with
            | true =>
              rw [hq3] at H3
              have HC2 := hid0 (HSTEP.out (by simp [isN, hq3]))
              clear HSTEP hq1 hq2 hq3 HCut HOO HX HLX
              go_wp2_with (first
                | (go_at_call 142; refine (H1.out _).mono ?_; rintro e w1 ⟨rfl, rfl⟩)
                | (go_at_call 143; refine (H2.out _).mono ?_; rintro e w1 ⟨rfl, rfl⟩)
                | (go_at_call 144; refine (H3.out _).mono ?_; rintro e w1 ⟨rfl, rfl⟩))
              go_roundw
              case rel => exact ⟨k + 1, f, D, by omega, by omega, by omega, rfl, by go_num, HO, HB, HC2⟩
              case measure => simp [intOf]; omega
            | false =>
              rw [hq3] at H3
              have HV : Hid ((pieces s.data.toList).all goodP = false) := hid0 (not_fine hlt' (by rw [HSK.out]; exact HQ.out) (by rw [HSK.out]; simp [isN, isL, hq1, hq2, hq3]))
              clear HSTEP hq1 hq2 hq3 HCut HOO HX HLX
              go_wp2_with (first
                | (go_at_call 142; refine (H1.out _).mono ?_; rintro e w1 ⟨rfl, rfl⟩)
                | (go_at_call 143; refine (H2.out _).mono ?_; rintro e w1 ⟨rfl, rfl⟩)
                | (go_at_call 144; refine (H3.out _).mono ?_; rintro e w1 ⟨rfl, rfl⟩))
              go_ret
              exact .inl ⟨HV.out, rfl, HB.out⟩
      · have hltI : ¬ (k : Int) < (s.size : Int) := by omega
        have HKL : Hid (k = s.data.toList.length) := hid0 (by rw [HTL.out]; omega)
        have HSEP : Hid (k = s.data.toList.length ∨ ∃ hk : k < s.data.toList.length, isSep s.data.toList[k] = true) := hid0 (.inl HKL.out)
        have HPUSH : Hid (1 ≤ k - f → k - f ≤ 8 → Cut s.data.toList (k + 1) (k + 1) (lists D ++ [(s.data.toList.drop f).take (k - f)]) ∨ (k + 1 = s.size + 1 ∧ lists D ++ [(s.data.toList.drop f).take (k - f)] = pieces s.data.toList ∧ (pieces s.data.toList).all goodP = true)) := hid0 (fun a b => .inr (by
          have h1 := HCut.out
          have h2 := HKL.out
          refine ⟨by omega, ?_⟩
          subst h2
          exact h1.done a b))
        by_cases hd1 : (d : Int) < 1
        · have HV : Hid ((pieces s.data.toList).all goodP = false) := hid0 (HCut.out.small HSEP.out (by have := HD.out; omega))
          clear HCut HOO HO HX HLX
          go_wp2_with (fail)
          go_ret
          exact .inl ⟨HV.out, rfl, HB.out⟩
        · by_cases hd8 : (8 : Int) < (d : Int)
          · have HV : Hid ((pieces s.data.toList).all goodP = false) := hid0 (HCut.out.small HSEP.out (by have := HD.out; omega))
            clear HCut HOO HO HX HLX
            go_wp2_with (fail)
            go_ret
            exact .inl ⟨HV.out, rfl, HB.out⟩
          · have hk1 : IntKind.i64.wrap ((k : Int) + 1) = ((k + 1 : Nat) : Int) := by simp [IntKind.wrap, IntKind.bits, IntKind.signed]; omega
            go_wp2_with (first | (at_builtin; refine wpList_append_own _ rfl _ _ 68 rfl w.heap.size 9 i0 (.string ⟨#[]⟩) 1 16 Tryz.underlying68 hi hz0 hz1 hz2 rfl (by decide) _ _ _ rfl (HOO.out.alloc _) ⟨_, 0, none⟩ 1 1 [.string (s.extract f k)] rfl rfl (cell_one_new _ _ _) ?c2b ?c3b ?c4b ?c5b ?_) | fail)
            case c2b => simp [Value.oneCell']
            case c3b => unfold maxLen; omega
            case c4b => omega
            case c5b => first | omega | (simp; omega)
            intro v2 w4 hown' hgrow _
            obtain ⟨g1, g2⟩ := owns_snoc (base := w.heap.size) (L := D) (c := s.extract f k) (n := D.length) rfl HO.out hown' hgrow HB.out (Nat.le_refl _)
            have HO4 := hid0 g1
            have HB4 := hid0 g2
            have HC4 : Hid (Cut s.data.toList (k + 1) (k + 1) (lists (D ++ [s.extract f k])) ∨ (k + 1 = s.size + 1 ∧ lists (D ++ [s.extract f k]) = pieces s.data.toList ∧ (pieces s.data.toList).all goodP = true)) := hid0 (by rw [HLX.out]; exact (HPUSH.out (by have := HD.out; omega) (by have := HD.out; omega)))
            have hDl : (D ++ [s.extract f k]).length ≤ k + 1 := by simp; omega
            clear hown' hgrow g1 g2 HOO HO HB HCut HX HLX
            go_wp2
            go_roundw
            case rel => exact ⟨k + 1, k + 1, _, by omega, by omega, hDl, by first | rfl | (rw [hk1]) | go_num, by go_num, HO4, HB4, HC4⟩
            case measure => simp [intOf]; omega

    · have hkI : ¬ (k : Int) ≤ (s.size : Int) := by omega
      have HV : Hid (lists D = pieces s.data.toList ∧ (pieces s.data.toList).all goodP = true) := hid0 (by
        rcases HC.out with h | ⟨_, h⟩
        · have h1 := h.top
          have h2 := HTL.out
          omega
        · exact h)
      clear HC
      go_wp2
      go_ret
      exact .inr ⟨HV.out.2, _, D, rfl, HO.out, HV.out.1, HB.out⟩
end Go.Proofs.YtlfeiadgahdgoaaGreatDoor
namespace Go.Proofs.YtlfeiadgahdgoaaGreatDoor
open Go.RowKit Go.Shelf Go.Lib
def rootB : ByteArray := ⟨#[114, 111, 111, 116]⟩
def strOf (l : List UInt8) : ByteArray := ⟨l.toArray⟩
theorem strOf_data (l : List UInt8) : (strOf l).data.toList = l := by simp [strOf]
theorem strOf_size (l : List UInt8) : (strOf l).size = l.length := List.size_toArray
theorem strOf_app (a b : List UInt8) : strOf a ++ strOf b = strOf (a ++ b) := app_arr a b
/-- What Tag answers. -/
def tagV : Option (List UInt8) → Value
  | some c => .tuple #[.string (strOf c), .bool true]
  | none => .tuple #[.string ⟨#[]⟩, .bool false]
theorem joinU_snoc : ∀ (xs : List (List UInt8)) (y : List UInt8), xs ≠ [] → joinU (xs ++ [y]) = joinU xs ++ 95 :: y
  | [], _, h => absurd rfl h
  | [x], y, _ => by rw [List.singleton_append, joinU_cons, joinU_one, joinU_one]
  | x :: x2 :: r, y, _ => by
    have ih := joinU_snoc (x2 :: r) y (by simp)
    rw [List.cons_append, List.cons_append, joinU_cons, joinU_cons, ← List.cons_append, ih]
    simp
theorem canonP_snoc (p : List UInt8) (r : List (List UInt8)) (y : List UInt8) : canonP (p :: r ++ [y]) = canonP (p :: r) ++ [formP y] := by simp [canonP]
theorem canonP_take (l : List (List UInt8)) (k : Nat) (h1 : 1 ≤ k) (h2 : k < l.length) : canonP (l.take (k + 1)) = canonP (l.take k) ++ [formP l[k]] := by
  rw [List.take_add_one, List.getElem?_eq_getElem h2]
  cases l with
  | nil => simp at h2
  | cons p r =>
    obtain ⟨j, rfl⟩ : ∃ j, k = j + 1 := ⟨k - 1, by omega⟩
    rw [List.take_succ_cons]
    exact canonP_snoc p (r.take j) _
theorem joinU_le : ∀ (xs : List (List UInt8)), (∀ x ∈ xs, x.length ≤ 8) → (joinU xs).length ≤ 9 * xs.length
  | [], _ => by simp [joinU, Lib.join, List.intercalate]
  | [x], h => by rw [joinU_one]; have := h x (by simp); simp; omega
  | x :: x2 :: r, h => by
    have ih := joinU_le (x2 :: r) (fun y hy => h y (by simp [hy]))
    have h1 := h x (by simp)
    rw [joinU_cons]
    simp at ih ⊢
    omega
theorem canonP_le {ps : List (List UInt8)} (h : ∀ p ∈ ps, p.length ≤ 8) : ∀ p ∈ canonP ps, p.length ≤ 8 := by
  cases ps with
  | nil => simp [canonP]
  | cons q r =>
    intro p hp
    rcases List.mem_cons.1 hp with rfl | hp
    · rw [List.length_map]; exact h q (by simp)
    · obtain ⟨c, hc, rfl⟩ := List.mem_map.1 hp
      rw [formP_len]; exact h c (by simp [hc])
theorem canonP_length (ps : List (List UInt8)) : (canonP ps).length = ps.length := by cases ps <;> simp [canonP]
theorem good_le {ps : List (List UInt8)} (h : ps.all goodP = true) : ∀ p ∈ ps, p.length ≤ 8 := fun p hp => by
  have := List.all_eq_true.1 h p hp
  simp only [goodP, Bool.and_eq_true, decide_eq_true_eq] at this
  exact this.1.2
theorem pieces_count : ∀ s, (pieces s).length ≤ s.length + 1
  | [] => by simp [pieces]
  | b :: r => by
    have ih := pieces_count r
    unfold pieces
    split
    · simp; omega
    · cases hq : pieces r with
      | nil => simp
      | cons q qs => rw [hq] at ih; simp at ih ⊢; omega
theorem pieces_head_le : ∀ s, ((pieces s).headD []).length ≤ s.length
  | [] => by simp [pieces]
  | b :: r => by
    have ih := pieces_head_le r
    unfold pieces
    split
    · simp
    · cases hq : pieces r with
      | nil => simp
      | cons q qs => rw [hq] at ih; simp at ih ⊢; omega
theorem str_eq (B C : ByteArray) : (B.toList == C.toList) = decide (B = C) := by
  rw [Bool.eq_iff_iff, beq_iff_eq, decide_eq_true_eq]
  exact ⟨fun h => LastIndex.eq_of_toList h, fun h => by rw [h]⟩
theorem rootB_list : rootB.toList = [114, 111, 111, 116] := by rw [ByteArray.toList_eq]; rfl
theorem strOf_root (l : List UInt8) : strOf l = rootB ↔ l = rootL := by
  constructor
  · intro h
    have := congrArg (fun b => b.data.toList) h
    simpa [strOf, rootB, rootL] using this
  · rintro rfl; rfl
set_option maxRecDepth 10000 in
set_option maxHeartbeats 3200000 in
theorem refTag_any (s : ByteArray) (w : World) : Calls Tryz.prog 80 #[.string s] w fun e w' => e = .returned (tagV (tagF s.data.toList)) ∧ Below w.heap.size w w' := by
  have HTL : Hid (s.data.toList.length = s.size) := hid0 (by simp)
  by_cases h2 : (s.size : Int) < 2
  · have HV : Hid (tagF s.data.toList = none) := hid0 (by
      unfold tagF
      rw [if_neg]
      rintro ⟨_, hv⟩
      simp only [validP, Bool.and_eq_true, decide_eq_true_eq] at hv
      have h3 := pieces_head_le s.data.toList
      have h4 := HTL.out
      omega)
    go_enter Tryz.func80, Tryz.ntmps80
    go_wp2
    go_returns
    exact ⟨by rw [HV.out]; rfl, Below.refl _ _⟩
  · by_cases h64 : (64 : Int) < (s.size : Int)
    · have HV : Hid (tagF s.data.toList = none) := hid0 (by
        unfold tagF
        rw [if_neg]
        rintro ⟨h1, _⟩
        have h4 := HTL.out
        omega)
      go_enter Tryz.func80, Tryz.ntmps80
      go_wp2
      go_returns
      exact ⟨by rw [HV.out]; rfl, Below.refl _ _⟩
    · have HP := hid0 (refParts_any s (by omega) w)
      have HLE : Hid (s.data.toList.length ≤ 64) := hid0 (by rw [HTL.out]; omega)
      cases hg : (pieces s.data.toList).all goodP with
      | false =>
        have HP2 : Hid (Calls Tryz.prog 109 #[.string s] w fun e w' => e = .returned (.slice none 0 0) ∧ Below w.heap.size w w') := hid0 (HP.out.mono (fun e w' h => by
          rcases h with ⟨_, h1, h2⟩ | ⟨h1, _⟩
          · exact ⟨h1, h2⟩
          · rw [hg] at h1; cases h1))
        have HV : Hid (tagF s.data.toList = none) := hid0 (by
          unfold tagF
          rw [if_neg]
          rintro ⟨_, hv⟩
          simp only [validP, Bool.and_eq_true] at hv
          rw [hg] at hv
          cases hv.1.1.1)
        clear HP hg
        go_enter Tryz.func80, Tryz.ntmps80
        go_wp2_with (first | (go_at_call 109; refine HP2.out.mono ?_; rintro e w1 ⟨rfl, hb1⟩) | fail)
        go_returns
        exact ⟨by rw [HV.out]; rfl, hb1⟩
      | true =>
        have HG := hid0 hg
        obtain ⟨d0, hd0⟩ : ∃ d0, d0 = (pieces s.data.toList).headD [] := ⟨_, rfl⟩
        obtain ⟨n, hn⟩ : ∃ n, n = (pieces s.data.toList).length := ⟨_, rfl⟩
        have hn1 : 1 ≤ n := by
          have := pieces_ne s.data.toList
          rw [hn]
          exact List.length_pos_iff.2 this
        have hn65 : n ≤ 65 := by have h1 := pieces_count s.data.toList; have h2 := HLE.out; omega
        have HP2 : Hid (Calls Tryz.prog 109 #[.string s] w fun e w' => ∃ b0 o0 cD D, e = .returned (.slice (some ⟨b0, o0, none⟩) n cD) ∧ SA w' (some ⟨b0, o0, none⟩) D ∧ w'.cell? ⟨b0, o0, none⟩ = some (.string (strOf d0)) ∧ D.length = n ∧ lists D = pieces s.data.toList ∧ Below w.heap.size w w') := hid0 (HP.out.mono (fun e w' h => by
          rcases h with ⟨h1, _⟩ | ⟨_, v, D, rfl, hown, hl, hb⟩
          · rw [hg] at h1; cases h1
          · obtain ⟨aD, cD, rfl, hsa, _⟩ := hown.sa
            have hDn : D.length = n := by rw [hn, ← hl]; simp [lists]
            obtain ⟨b0, o0, rfl, _, hc⟩ := hsa.at' 0 (by omega)
            have hF : D[0]'(by omega) = strOf d0 := by
              have h1 : (lists D)[0]? = some (D[0]'(by omega)).data.toList := by simp [lists, show 0 < D.length by omega]
              rw [hl] at h1
              have h2 : d0 = (D[0]'(by omega)).data.toList := by
                rw [hd0]
                cases hq : pieces s.data.toList with
                | nil => exact absurd hq (pieces_ne _)
                | cons p r => rw [hq] at h1; simpa using h1
              rw [h2]
              rfl
            rw [hF, Nat.add_zero] at hc
            exact ⟨b0, o0, cD, D, by rw [hDn], hsa, hc, hDn, hl, hb⟩))
        obtain ⟨B0, hB0⟩ : ∃ B0, B0 = strOf (d0.map lowerB) := ⟨_, rfl⟩
        have hd8 : d0.length ≤ 8 := by
          rw [hd0]
          cases hq : pieces s.data.toList with
          | nil => simp
          | cons p r => exact good_le hg p (by rw [hq]; simp)
        have HLO : Hid (∀ W, Calls Tryz.prog 110 #[.string (strOf d0)] W fun e w' => e = .returned (.string B0) ∧ Below W.heap.size W w') := hid0 (fun W => by
          have h := refLower_any (strOf d0) (by rw [strOf_size]; omega) W
          rw [strOf_data] at h
          rw [hB0]
          exact h)
        have HLE2 : Hid (∀ W, Calls Tryz.prog 111 #[.string B0] W fun e w' => e = .returned (.bool (d0.all isL)) ∧ w' = W) := hid0 (fun W => by
          have h := refLetters_any B0 (by rw [hB0, strOf_size, List.length_map]; omega) W
          rw [hB0, strOf_data, all_map isL lowerB d0 L_lo] at h
          rw [hB0]
          exact h)
        have hBs : B0.size = d0.length := by rw [hB0, strOf_size, List.length_map]
        have hBr : (B0.toList == [114, 111, 111, 116]) = decide (d0.map lowerB = rootL) := by
          rw [← rootB_list, str_eq, hB0]
          exact decide_eq_decide.2 (strOf_root _)
        have HB0 := hid0 hB0
        have Hd0 := hid0 hd0
        have Hn := hid0 hn
        have hnI0 : (0 : Int) < (n : Int) := by omega
        have hne0 : ((n : Int) == 0) = false := by simp; omega
        clear HP hg hd0 hn hB0
        generalize strOf d0 = F0 at *
        have M0 : Hid True := trivial
        cases hq1 : d0.all isL with
        | false =>
          rw [hq1] at HLE2
          have HV : Hid (tagF s.data.toList = none) := hid0 (by
            unfold tagF
            rw [if_neg]
            rintro ⟨_, hv⟩
            rw [validP, ← Hd0.out, ← Hn.out] at hv
            simp only [Bool.and_eq_true] at hv
            rw [hq1] at hv
            cases hv.1.1.2)
          clear HG Hd0 Hn
          go_enter Tryz.func80, Tryz.ntmps80
          go_wp2_with (first
            | (clear M0; go_at_call 109; refine HP2.out.mono ?_; rintro e w1 ⟨b0, o0, cD, D, rfl, hsa, hc0, hlD, hl, hb1⟩; have HSA := hid0 hsa; have HL := hid0 hl; have HLD := hid0 hlD; have HB1 := hid0 hb1; clear hsa hl hb1 hlD HP2)
            | (go_at_call 110; refine (HLO.out w1).mono ?_; rintro e w2 ⟨rfl, hb2⟩; have HB2 := hid0 (Below.later HB1.out hb2); have HSA2 := hid0 (HSA.out.below hb2); clear hb2)
            | (go_at_call 111; refine (HLE2.out w2).mono ?_; rintro e w3 ⟨rfl, hw3⟩; have hw3' := hw3.symm; subst hw3'))
          go_returns
          exact ⟨by rw [HV.out]; rfl, HB2.out⟩

        | true =>
          rw [hq1] at HLE2
          by_cases hsz : (B0.size : Int) < 2
          · skip
            have HV : Hid (tagF s.data.toList = none) := hid0 (by
              unfold tagF
              rw [if_neg]
              rintro ⟨_, hv⟩
              rw [validP, ← Hd0.out, ← Hn.out] at hv
              simp only [Bool.and_eq_true, decide_eq_true_eq] at hv
              have h5 := hv.1.2
              omega)
            clear HG Hd0 Hn
            go_enter Tryz.func80, Tryz.ntmps80
            go_wp2_with (first
              | (clear M0; go_at_call 109; refine HP2.out.mono ?_; rintro e w1 ⟨b0, o0, cD, D, rfl, hsa, hc0, hlD, hl, hb1⟩; have HSA := hid0 hsa; have HL := hid0 hl; have HLD := hid0 hlD; have HB1 := hid0 hb1; clear hsa hl hb1 hlD HP2)
              | (go_at_call 110; refine (HLO.out w1).mono ?_; rintro e w2 ⟨rfl, hb2⟩; have HB2 := hid0 (Below.later HB1.out hb2); have HSA2 := hid0 (HSA.out.below hb2); clear hb2)
              | (go_at_call 111; refine (HLE2.out w2).mono ?_; rintro e w3 ⟨rfl, hw3⟩; have hw3' := hw3.symm; subst hw3'))
            go_returns
            exact ⟨by rw [HV.out]; rfl, HB2.out⟩

          · cases hq2 : decide (d0.map lowerB = rootL) with
            | true =>
              rw [hq2] at hBr
              by_cases hn2 : (1 : Int) < (n : Int)
              · skip
                have HV : Hid (tagF s.data.toList = none) := hid0 (by
                  unfold tagF
                  rw [if_neg]
                  rintro ⟨_, hv⟩
                  rw [validP, ← Hd0.out, ← Hn.out] at hv
                  simp only [Bool.and_eq_true, Bool.not_eq_true', Bool.and_eq_false_iff, beq_eq_false_iff_ne, decide_eq_false_iff_not] at hv
                  have h5 := of_decide_eq_true hq2
                  rcases hv.2 with h6 | h6
                  · exact h6 h5
                  · omega)
                clear HG Hd0 Hn
                go_enter Tryz.func80, Tryz.ntmps80
                go_wp2_with (first
                  | (clear M0; go_at_call 109; refine HP2.out.mono ?_; rintro e w1 ⟨b0, o0, cD, D, rfl, hsa, hc0, hlD, hl, hb1⟩; have HSA := hid0 hsa; have HL := hid0 hl; have HLD := hid0 hlD; have HB1 := hid0 hb1; clear hsa hl hb1 hlD HP2)
                  | (go_at_call 110; refine (HLO.out w1).mono ?_; rintro e w2 ⟨rfl, hb2⟩; have HB2 := hid0 (Below.later HB1.out hb2); have HSA2 := hid0 (HSA.out.below hb2); clear hb2)
                  | (go_at_call 111; refine (HLE2.out w2).mono ?_; rintro e w3 ⟨rfl, hw3⟩; have hw3' := hw3.symm; subst hw3'))
                go_returns
                exact ⟨by rw [HV.out]; rfl, HB2.out⟩

              · skip
                have HV : Hid (tagF s.data.toList = some (joinU (canonP (pieces s.data.toList)))) := hid0 (by
                  have hv : validP (pieces s.data.toList) = true := by
                    rw [validP, ← Hd0.out, ← Hn.out, HG.out, hq1]
                    simp only [Bool.true_and, Bool.and_eq_true, decide_eq_true_eq, Bool.not_eq_true', Bool.and_eq_false_iff, decide_eq_false_iff_not]
                    exact ⟨by omega, .inr (by omega)⟩
                  unfold tagF
                  rw [if_pos ⟨HLE.out, hv⟩])
                have HC1 : Hid (B0 = strOf (joinU (canonP ((pieces s.data.toList).take 1)))) := hid0 (by
                  rw [HB0.out]
                  have h := Hd0.out
                  cases hq : pieces s.data.toList with
                  | nil => exact absurd hq (pieces_ne _)
                  | cons p r =>
                    rw [hq] at h
                    rw [List.take_succ_cons, List.take_zero, canonP, List.map_nil, joinU_one]
                    rw [show d0 = p from h])
                have HGL := hid0 (good_le HG.out)
                go_enter Tryz.func80, Tryz.ntmps80
                go_wp2_with (first
                  | (clear M0; go_at_call 109; refine HP2.out.mono ?_; rintro e w1 ⟨b0, o0, cD, D, rfl, hsa, hc0, hlD, hl, hb1⟩; have HSA := hid0 hsa; have HL := hid0 hl; have HLD := hid0 hlD; have HB1 := hid0 hb1; clear hsa hl hb1 hlD HP2)
                  | (go_at_call 110; refine (HLO.out w1).mono ?_; rintro e w2 ⟨rfl, hb2⟩; have HB2 := hid0 (Below.later HB1.out hb2); have HSA2 := hid0 (HSA.out.below hb2); clear hb2)
                  | (go_at_call 111; refine (HLE2.out w2).mono ?_; rintro e w3 ⟨rfl, hw3⟩; have hw3' := hw3.symm; subst hw3'))
                go_loopw [7, 8] (fun v i wr => ∃ k : Nat, 1 ≤ k ∧ k ≤ n ∧ i = .int .i64 (k : Int) ∧ v = .string (strOf (joinU (canonP ((pieces s.data.toList).take k)))) ∧ Hid (Below w.heap.size w wr) ∧ Hid (SA wr (some ⟨b0, o0, none⟩) D)) (fun _ i _ => n - (intOf i).toNat)
                case atStart => exact ⟨1, Nat.le_refl _, hn1, rfl, by rw [HC1.out], HB2, HSA2⟩
                case round =>
                  clear HB2 HSA2
                  obtain ⟨k, hk1, hkn, rfl, rfl, HBr, HSr⟩ := hrel
                  have HT : Hid ((joinU (canonP ((pieces s.data.toList).take k))).length ≤ 9 * k) := hid0 (by
                    have h1 := joinU_le (canonP ((pieces s.data.toList).take k)) (canonP_le (fun p hp => HGL.out p (List.mem_of_mem_take hp)))
                    rw [canonP_length, List.length_take] at h1
                    omega)
                  by_cases hlt : k < n
                  · exfalso; omega
                  · have hltI : ¬ (k : Int) < (n : Int) := by omega
                    have HE : Hid (tagV (tagF s.data.toList) = .tuple #[.string (strOf (joinU (canonP ((pieces s.data.toList).take k)))), .bool true]) := hid0 (by rw [HV.out, List.take_of_length_le (by have := Hn.out; omega)]; rfl)
                    generalize strOf (joinU (canonP ((pieces s.data.toList).take k))) = S at *
                    clear HT HV
                    go_wp2
                    go_returns
                    exact ⟨by rw [HE.out]; rfl, HBr.out⟩

            | false =>
              rw [hq2] at hBr
              have HV : Hid (tagF s.data.toList = some (joinU (canonP (pieces s.data.toList)))) := hid0 (by
                have hv : validP (pieces s.data.toList) = true := by
                  rw [validP, ← Hd0.out, ← Hn.out, HG.out, hq1]
                  simp only [Bool.true_and, Bool.and_eq_true, decide_eq_true_eq, Bool.not_eq_true', Bool.and_eq_false_iff, beq_eq_false_iff_ne]
                  exact ⟨by omega, .inl (of_decide_eq_false hq2)⟩
                unfold tagF
                rw [if_pos ⟨HLE.out, hv⟩])
              have HC1 : Hid (B0 = strOf (joinU (canonP ((pieces s.data.toList).take 1)))) := hid0 (by
                rw [HB0.out]
                have h := Hd0.out
                cases hq : pieces s.data.toList with
                | nil => exact absurd hq (pieces_ne _)
                | cons p r =>
                  rw [hq] at h
                  rw [List.take_succ_cons, List.take_zero, canonP, List.map_nil, joinU_one]
                  rw [show d0 = p from h])
              have HGL := hid0 (good_le HG.out)
              go_enter Tryz.func80, Tryz.ntmps80
              go_wp2_with (first
                | (clear M0; go_at_call 109; refine HP2.out.mono ?_; rintro e w1 ⟨b0, o0, cD, D, rfl, hsa, hc0, hlD, hl, hb1⟩; have HSA := hid0 hsa; have HL := hid0 hl; have HLD := hid0 hlD; have HB1 := hid0 hb1; clear hsa hl hb1 hlD HP2)
                | (go_at_call 110; refine (HLO.out w1).mono ?_; rintro e w2 ⟨rfl, hb2⟩; have HB2 := hid0 (Below.later HB1.out hb2); have HSA2 := hid0 (HSA.out.below hb2); clear hb2)
                | (go_at_call 111; refine (HLE2.out w2).mono ?_; rintro e w3 ⟨rfl, hw3⟩; have hw3' := hw3.symm; subst hw3'))
              go_loopw [7, 8] (fun v i wr => ∃ k : Nat, 1 ≤ k ∧ k ≤ n ∧ i = .int .i64 (k : Int) ∧ v = .string (strOf (joinU (canonP ((pieces s.data.toList).take k)))) ∧ Hid (Below w.heap.size w wr) ∧ Hid (SA wr (some ⟨b0, o0, none⟩) D)) (fun _ i _ => n - (intOf i).toNat)
              case atStart => exact ⟨1, Nat.le_refl _, hn1, rfl, by rw [HC1.out], HB2, HSA2⟩
              case round =>
                clear HB2 HSA2
                obtain ⟨k, hk1, hkn, rfl, rfl, HBr, HSr⟩ := hrel
                have HT : Hid ((joinU (canonP ((pieces s.data.toList).take k))).length ≤ 9 * k) := hid0 (by
                  have h1 := joinU_le (canonP ((pieces s.data.toList).take k)) (canonP_le (fun p hp => HGL.out p (List.mem_of_mem_take hp)))
                  rw [canonP_length, List.length_take] at h1
                  omega)
                by_cases hlt : k < n
                · have hltI : (k : Int) < (n : Int) := by omega
                  have hkI0 : (0 : Int) ≤ (k : Int) := by omega
                  have hkD : k < D.length := by rw [HLD.out]; exact hlt
                  have hkP : k < (pieces s.data.toList).length := by rw [← Hn.out]; exact hlt
                  have HDK : Hid (D[k].data.toList = (pieces s.data.toList)[k]) := hid0 (by
                    have h1 : (lists D)[k]? = some (pieces s.data.toList)[k] := by rw [HL.out]; exact List.getElem?_eq_getElem hkP
                    rw [lists, List.getElem?_map, List.getElem?_eq_getElem hkD] at h1
                    exact Option.some.inj h1)
                  obtain ⟨b1, o1, hab, hb1, hck⟩ := HSr.out.at' k hkD
                  cases hab
                  have HFO := hid0 (refForm_any D[k] (by have h1 := HDK.out; have h2 := HGL.out _ (List.getElem_mem hkP); rw [← h1] at h2; simp at h2; omega) wr)
                  obtain ⟨S, hS⟩ : ∃ S, S = strOf (joinU (canonP ((pieces s.data.toList).take k))) := ⟨_, rfl⟩
                  obtain ⟨F, hF⟩ : ∃ F, F = strOf (formP D[k].data.toList) := ⟨_, rfl⟩
                  have HN : Hid (S ++ ⟨#[95]⟩ ++ F = strOf (joinU (canonP ((pieces s.data.toList).take (k + 1))))) := hid0 (by
                    rw [canonP_take _ k hk1 hkP, joinU_snoc _ _ (canonP_ne (by intro h; have h9 := congrArg List.length h; rw [List.length_take, List.length_nil] at h9; omega)), hS, hF, HDK.out]
                    rw [show (⟨#[95]⟩ : ByteArray) = strOf [95] from rfl, strOf_app, strOf_app]
                    simp)
                  have hSs : S.size ≤ 9 * k := by rw [hS, strOf_size]; exact HT.out
                  have hFs : F.size ≤ 8 := by rw [hF, strOf_size, formP_len, HDK.out]; exact HGL.out _ (List.getElem_mem hkP)
                  have HFO2 : Hid (Calls Tryz.prog 112 #[.string D[k]] wr fun e w' => e = .returned (.string F) ∧ Below wr.heap.size wr w') := hid0 (by rw [hF]; exact HFO.out)
                  generalize hDk : D[k] = X at *
                  rw [← hS]
                  have ha1 : ¬ 9223372036854775807 < S.size + (⟨#[95]⟩ : ByteArray).size := by have : (⟨#[95]⟩ : ByteArray).size = 1 := rfl; omega
                  have ha2 : ¬ 9223372036854775807 < (S ++ ⟨#[95]⟩ : ByteArray).size + F.size := by rw [ByteArray.size_append]; have : (⟨#[95]⟩ : ByteArray).size = 1 := rfl; omega
                  clear HFO HT HDK hS hF
                  go_wp2_with (go_at_call 112; refine HFO2.out.mono ?_; rintro e w4 ⟨rfl, hb4⟩; have HB4 := hid0 (Below.later HBr.out hb4); have HS4 := hid0 (HSr.out.below hb4); clear hb4)
                  go_roundw
                  case rel => exact ⟨k + 1, by omega, by omega, by go_num, by rw [← HN.out], HB4, HS4⟩
                  case measure => simp [intOf]; omega
                · have hltI : ¬ (k : Int) < (n : Int) := by omega
                  have HE : Hid (tagV (tagF s.data.toList) = .tuple #[.string (strOf (joinU (canonP ((pieces s.data.toList).take k)))), .bool true]) := hid0 (by rw [HV.out, List.take_of_length_le (by have := Hn.out; omega)]; rfl)
                  generalize strOf (joinU (canonP ((pieces s.data.toList).take k))) = S at *
                  clear HT HV
                  go_wp2
                  go_returns
                  exact ⟨by rw [HE.out]; rfl, HBr.out⟩


end Go.Proofs.YtlfeiadgahdgoaaGreatDoor
namespace Go.Proofs.YtlfeiadgahdgoaaGreatDoor
open Go.RowKit Go.Shelf Go.Lib
def canV : Option (List UInt8) → Value
  | some c => .tuple #[.string (strOf c), .int .i64 0]
  | none => .tuple #[.string ⟨#[]⟩, .int .i64 2]
def cutB (s : ByteArray) : ByteArray := if Lib.lastIndexByte s 95 ≤ 0 then rootB else s.extract 0 (Lib.lastIndexByte s 95).toNat
/-- Where the last _ stands among the first k bytes; 0, if nowhere. -/
def lastU (s : ByteArray) (k : Nat) : Nat := (Lib.lastIdx s 95 k).toNat
theorem lastIdx_lt (s : ByteArray) (c : Int) (k : Nat) : -1 ≤ Lib.lastIdx s c k ∧ Lib.lastIdx s c k < k := by
  rcases Lib.lastIdx_spec s c k with ⟨e, _⟩ | ⟨i, hi, e, _⟩ <;> rw [e] <;> omega
theorem byte_bang (s : ByteArray) (k : Nat) (h : k < s.size) : s.data[k]! = s[k] := LastIndex.byteBang s k h
theorem lastU_next (s : ByteArray) (k : Nat) (h : k < s.size) : lastU s (k + 1) = if (s[k].toNat : Int) = 95 then k else lastU s k := by
  unfold lastU
  rw [Lib.lastIdx, byte_bang s k h]
  split <;> simp
noncomputable def cutV : Option (List UInt8) → Value
  | some c => if c = rootL then .tuple #[.string ⟨#[]⟩, .int .i64 7] else .tuple #[.string (cutB (strOf c)), .int .i64 0]
  | none => .tuple #[.string ⟨#[]⟩, .int .i64 2]
theorem tagF_le {t c : List UInt8} (h : tagF t = some c) : c.length ≤ 64 ∧ validP (pieces t) = true ∧ t.length ≤ 64 ∧ c = joinU (canonP (pieces t)) := by
  unfold tagF at h
  split at h
  · rename_i hc
    simp only [Option.some.injEq] at h
    refine ⟨?_, hc.2, hc.1, h.symm⟩
    rw [← h, join_len _ _ (canonP_lens (pieces t)), join_pieces]
    simpa using hc.1
  · cases h
theorem root_beq (c : List UInt8) : ((strOf c).toList == [114, 111, 111, 116]) = decide (c = rootL) := by
  rw [← rootB_list, str_eq]
  exact decide_eq_decide.2 (strOf_root _)
end Go.Proofs.YtlfeiadgahdgoaaGreatDoor
namespace Go.Proofs
open Go.Shelf
def Tryz.lays146_ren : Go.Shelf.Ren := ⟨fun | 146 => 98 | 221 => 135 | 268 => 160 | 138 => 161 | 143 => 162 | 195 => 45 | 197 => 95 | 218 => 172 | 219 => 84 | 260 => 132 | 217 => 122 | 225 => 123 | 224 => 124 | 267 => 125 | 266 => 153 | 314 => 154 | n => n, fun | 9 => 9 | 31 => 68 | 3 => 3 | 4 => 4 | 0 => 0 | 105 => 130 | 21 => 21 | 5 => 5 | 46 => 156 | 119 => 177 | 139 => 180 | 138 => 179 | 146 => 174 | 51 => 171 | n => n, fun | 1 => 11 | 3 => 13 | 4 => 14 | n => n⟩
theorem Tryz.lays146 : Go.Proofs.Lays.n146 Tryz.prog Tryz.lays146_ren := {
  mixed := by kernel_rfl
  f138 := Tryz.func161.trans (congrArg some (by kernel_rfl))
  f143 := Tryz.func162.trans (congrArg some (by kernel_rfl))
  f146 := Tryz.func98.trans (congrArg some (by kernel_rfl))
  f195 := Tryz.func45.trans (congrArg some (by kernel_rfl))
  f197 := Tryz.func95.trans (congrArg some (by kernel_rfl))
  f217 := Tryz.func122.trans (congrArg some (by kernel_rfl))
  f218 := Tryz.func172.trans (congrArg some (by kernel_rfl))
  f219 := Tryz.func84.trans (congrArg some (by kernel_rfl))
  f221 := Tryz.func135.trans (congrArg some (by kernel_rfl))
  f224 := Tryz.func124.trans (congrArg some (by kernel_rfl))
  f225 := Tryz.func123.trans (congrArg some (by kernel_rfl))
  f260 := Tryz.func132.trans (congrArg some (by kernel_rfl))
  f266 := Tryz.func153.trans (congrArg some (by kernel_rfl))
  f267 := Tryz.func125.trans (congrArg some (by kernel_rfl))
  f268 := Tryz.func160.trans (congrArg some (by kernel_rfl))
  f314 := Tryz.func154.trans (congrArg some (by kernel_rfl))
  t0 := Tryz.underlying0
  a0 := Tryz.isAgg0
  z0 := Tryz.sizeOf0
  v0 := Tryz.zeroValue0
  t3 := Tryz.underlying3
  a3 := Tryz.isAgg3
  z3 := Tryz.sizeOf3
  v3 := Tryz.zeroValue3
  t4 := Tryz.underlying4
  a4 := Tryz.isAgg4
  z4 := Tryz.sizeOf4
  v4 := Tryz.zeroValue4
  t5 := Tryz.underlying5
  a5 := Tryz.isAgg5
  z5 := Tryz.sizeOf5
  v5 := Tryz.zeroValue5
  t9 := Tryz.underlying9
  a9 := Tryz.isAgg9
  z9 := Tryz.sizeOf9
  v9 := Tryz.zeroValue9
  t21 := Tryz.underlying21
  a21 := Tryz.isAgg21
  z21 := Tryz.sizeOf21
  v21 := Tryz.zeroValue21
  t31 := Tryz.underlying68
  a31 := Tryz.isAgg68
  z31 := Tryz.sizeOf68
  v31 := Tryz.zeroValue68
  t46 := Tryz.underlying156
  a46 := Tryz.isAgg156
  z46 := Tryz.sizeOf156
  v46 := Tryz.zeroValue156
  t51 := Tryz.underlying171
  a51 := Tryz.isAgg171
  z51 := Tryz.sizeOf171
  v51 := Tryz.zeroValue171
  t105 := Tryz.underlying130
  a105 := Tryz.isAgg130
  z105 := Tryz.sizeOf130
  v105 := Tryz.zeroValue130
  t119 := Tryz.underlying177
  a119 := Tryz.isAgg177
  z119 := Tryz.sizeOf177
  t138 := Tryz.underlying179
  a138 := Tryz.isAgg179
  z138 := Tryz.sizeOf179
  v138 := Tryz.zeroValue179
  t139 := Tryz.underlying180
  a139 := Tryz.isAgg180
  z139 := Tryz.sizeOf180
  v139 := Tryz.zeroValue180
  t146 := Tryz.underlying174
  a146 := Tryz.isAgg174
  z146 := Tryz.sizeOf174
  v146 := Tryz.zeroValue174
  g1 := by kernel_rfl
  g3 := by kernel_rfl
  g4 := by kernel_rfl }
def Tryz.lays155_ren : Go.Shelf.Ren := ⟨fun | 155 => 99 | 154 => 136 | 138 => 161 | 165 => 139 | 143 => 162 | 166 => 17 | 197 => 95 | 169 => 20 | 195 => 45 | 218 => 172 | 240 => 35 | 241 => 167 | 219 => 84 | 260 => 132 | 276 => 55 | 277 => 177 | 217 => 122 | 225 => 123 | 224 => 124 | 267 => 125 | 266 => 153 | 314 => 154 | n => n, fun | 9 => 9 | 3 => 3 | 4 => 4 | 72 => 50 | 0 => 0 | 76 => 51 | 105 => 130 | 21 => 21 | 5 => 5 | 70 => 47 | 20 => 20 | 37 => 48 | 75 => 27 | 127 => 79 | 164 => 95 | 46 => 156 | 119 => 177 | 139 => 180 | 138 => 179 | 146 => 174 | 51 => 171 | 80 => 55 | n => n, fun | 1 => 11 | 3 => 13 | 4 => 14 | n => n⟩
theorem Tryz.lays155 : Go.Proofs.Lays.n155 Tryz.prog Tryz.lays155_ren := {
  mixed := by kernel_rfl
  f138 := Tryz.func161.trans (congrArg some (by kernel_rfl))
  f143 := Tryz.func162.trans (congrArg some (by kernel_rfl))
  f154 := Tryz.func136.trans (congrArg some (by kernel_rfl))
  f155 := Tryz.func99.trans (congrArg some (by kernel_rfl))
  f165 := Tryz.func139.trans (congrArg some (by kernel_rfl))
  f166 := Tryz.func17.trans (congrArg some (by kernel_rfl))
  f169 := Tryz.func20.trans (congrArg some (by kernel_rfl))
  f195 := Tryz.func45.trans (congrArg some (by kernel_rfl))
  f197 := Tryz.func95.trans (congrArg some (by kernel_rfl))
  f217 := Tryz.func122.trans (congrArg some (by kernel_rfl))
  f218 := Tryz.func172.trans (congrArg some (by kernel_rfl))
  f219 := Tryz.func84.trans (congrArg some (by kernel_rfl))
  f224 := Tryz.func124.trans (congrArg some (by kernel_rfl))
  f225 := Tryz.func123.trans (congrArg some (by kernel_rfl))
  f240 := Tryz.func35.trans (congrArg some (by kernel_rfl))
  f241 := Tryz.func167.trans (congrArg some (by kernel_rfl))
  f260 := Tryz.func132.trans (congrArg some (by kernel_rfl))
  f266 := Tryz.func153.trans (congrArg some (by kernel_rfl))
  f267 := Tryz.func125.trans (congrArg some (by kernel_rfl))
  f276 := Tryz.func55.trans (congrArg some (by kernel_rfl))
  f277 := Tryz.func177.trans (congrArg some (by kernel_rfl))
  f314 := Tryz.func154.trans (congrArg some (by kernel_rfl))
  t0 := Tryz.underlying0
  a0 := Tryz.isAgg0
  z0 := Tryz.sizeOf0
  v0 := Tryz.zeroValue0
  t3 := Tryz.underlying3
  a3 := Tryz.isAgg3
  z3 := Tryz.sizeOf3
  v3 := Tryz.zeroValue3
  t4 := Tryz.underlying4
  a4 := Tryz.isAgg4
  z4 := Tryz.sizeOf4
  v4 := Tryz.zeroValue4
  t5 := Tryz.underlying5
  a5 := Tryz.isAgg5
  z5 := Tryz.sizeOf5
  v5 := Tryz.zeroValue5
  t9 := Tryz.underlying9
  a9 := Tryz.isAgg9
  z9 := Tryz.sizeOf9
  v9 := Tryz.zeroValue9
  t20 := Tryz.underlying20
  a20 := Tryz.isAgg20
  z20 := Tryz.sizeOf20
  v20 := Tryz.zeroValue20
  t21 := Tryz.underlying21
  a21 := Tryz.isAgg21
  z21 := Tryz.sizeOf21
  v21 := Tryz.zeroValue21
  t37 := Tryz.underlying48
  a37 := Tryz.isAgg48
  z37 := Tryz.sizeOf48
  v37 := Tryz.zeroValue48
  t46 := Tryz.underlying156
  a46 := Tryz.isAgg156
  z46 := Tryz.sizeOf156
  v46 := Tryz.zeroValue156
  t51 := Tryz.underlying171
  a51 := Tryz.isAgg171
  z51 := Tryz.sizeOf171
  v51 := Tryz.zeroValue171
  t70 := Tryz.underlying47
  a70 := Tryz.isAgg47
  z70 := Tryz.sizeOf47
  v70 := Tryz.zeroValue47
  t72 := Tryz.underlying50
  a72 := Tryz.isAgg50
  z72 := Tryz.sizeOf50
  v72 := Tryz.zeroValue50
  t75 := Tryz.underlying27
  a75 := Tryz.isAgg27
  z75 := Tryz.sizeOf27
  v75 := Tryz.zeroValue27
  t76 := Tryz.underlying51
  a76 := Tryz.isAgg51
  z76 := Tryz.sizeOf51
  v76 := Tryz.zeroValue51
  t105 := Tryz.underlying130
  a105 := Tryz.isAgg130
  z105 := Tryz.sizeOf130
  v105 := Tryz.zeroValue130
  t119 := Tryz.underlying177
  a119 := Tryz.isAgg177
  z119 := Tryz.sizeOf177
  t127 := Tryz.underlying79
  a127 := Tryz.isAgg79
  z127 := Tryz.sizeOf79
  v127 := Tryz.zeroValue79
  t138 := Tryz.underlying179
  a138 := Tryz.isAgg179
  z138 := Tryz.sizeOf179
  v138 := Tryz.zeroValue179
  t139 := Tryz.underlying180
  a139 := Tryz.isAgg180
  z139 := Tryz.sizeOf180
  v139 := Tryz.zeroValue180
  t146 := Tryz.underlying174
  a146 := Tryz.isAgg174
  z146 := Tryz.sizeOf174
  v146 := Tryz.zeroValue174
  t164 := Tryz.underlying95
  a164 := Tryz.isAgg95
  z164 := Tryz.sizeOf95
  v164 := Tryz.zeroValue95
  g1 := by kernel_rfl
  g3 := by kernel_rfl
  g4 := by kernel_rfl }
def Tryz.lays230_ren : Go.Shelf.Ren := ⟨fun | 230 => 164 | 197 => 95 | 118 => 173 | 165 => 139 | 166 => 17 | 168 => 174 | 270 => 175 | 167 => 163 | 169 => 20 | 260 => 132 | 240 => 35 | 241 => 167 | 242 => 130 | 276 => 55 | 277 => 177 | 278 => 158 | n => n, fun | 107 => 184 | 9 => 9 | 72 => 50 | 0 => 0 | 4 => 4 | 3 => 3 | 21 => 21 | 105 => 130 | 76 => 51 | 5 => 5 | 75 => 27 | 70 => 47 | 20 => 20 | 37 => 48 | 127 => 79 | 119 => 177 | 46 => 156 | 139 => 180 | 138 => 179 | 164 => 95 | 51 => 171 | 80 => 55 | n => n, fun | 3 => 13 | 4 => 14 | n => n⟩
theorem Tryz.lays230 : Go.Proofs.Lays.n230 Tryz.prog Tryz.lays230_ren := {
  mixed := by kernel_rfl
  f118 := Tryz.func173.trans (congrArg some (by kernel_rfl))
  f165 := Tryz.func139.trans (congrArg some (by kernel_rfl))
  f166 := Tryz.func17.trans (congrArg some (by kernel_rfl))
  f167 := Tryz.func163.trans (congrArg some (by kernel_rfl))
  f168 := Tryz.func174.trans (congrArg some (by kernel_rfl))
  f169 := Tryz.func20.trans (congrArg some (by kernel_rfl))
  f197 := Tryz.func95.trans (congrArg some (by kernel_rfl))
  f230 := Tryz.func164.trans (congrArg some (by kernel_rfl))
  f240 := Tryz.func35.trans (congrArg some (by kernel_rfl))
  f241 := Tryz.func167.trans (congrArg some (by kernel_rfl))
  f242 := Tryz.func130.trans (congrArg some (by kernel_rfl))
  f260 := Tryz.func132.trans (congrArg some (by kernel_rfl))
  f270 := Tryz.func175.trans (congrArg some (by kernel_rfl))
  f276 := Tryz.func55.trans (congrArg some (by kernel_rfl))
  f277 := Tryz.func177.trans (congrArg some (by kernel_rfl))
  f278 := Tryz.func158.trans (congrArg some (by kernel_rfl))
  t0 := Tryz.underlying0
  a0 := Tryz.isAgg0
  z0 := Tryz.sizeOf0
  v0 := Tryz.zeroValue0
  t3 := Tryz.underlying3
  a3 := Tryz.isAgg3
  z3 := Tryz.sizeOf3
  v3 := Tryz.zeroValue3
  t4 := Tryz.underlying4
  a4 := Tryz.isAgg4
  z4 := Tryz.sizeOf4
  v4 := Tryz.zeroValue4
  t5 := Tryz.underlying5
  a5 := Tryz.isAgg5
  z5 := Tryz.sizeOf5
  v5 := Tryz.zeroValue5
  t9 := Tryz.underlying9
  a9 := Tryz.isAgg9
  z9 := Tryz.sizeOf9
  v9 := Tryz.zeroValue9
  t20 := Tryz.underlying20
  a20 := Tryz.isAgg20
  z20 := Tryz.sizeOf20
  v20 := Tryz.zeroValue20
  t21 := Tryz.underlying21
  a21 := Tryz.isAgg21
  z21 := Tryz.sizeOf21
  v21 := Tryz.zeroValue21
  t37 := Tryz.underlying48
  a37 := Tryz.isAgg48
  z37 := Tryz.sizeOf48
  v37 := Tryz.zeroValue48
  t46 := Tryz.underlying156
  a46 := Tryz.isAgg156
  z46 := Tryz.sizeOf156
  v46 := Tryz.zeroValue156
  t51 := Tryz.underlying171
  a51 := Tryz.isAgg171
  z51 := Tryz.sizeOf171
  v51 := Tryz.zeroValue171
  t70 := Tryz.underlying47
  a70 := Tryz.isAgg47
  z70 := Tryz.sizeOf47
  v70 := Tryz.zeroValue47
  t72 := Tryz.underlying50
  a72 := Tryz.isAgg50
  z72 := Tryz.sizeOf50
  v72 := Tryz.zeroValue50
  t75 := Tryz.underlying27
  a75 := Tryz.isAgg27
  z75 := Tryz.sizeOf27
  v75 := Tryz.zeroValue27
  t76 := Tryz.underlying51
  a76 := Tryz.isAgg51
  z76 := Tryz.sizeOf51
  v76 := Tryz.zeroValue51
  t105 := Tryz.underlying130
  a105 := Tryz.isAgg130
  z105 := Tryz.sizeOf130
  v105 := Tryz.zeroValue130
  t107 := Tryz.underlying184
  a107 := Tryz.isAgg184
  z107 := Tryz.sizeOf184
  v107 := Tryz.zeroValue184
  t119 := Tryz.underlying177
  a119 := Tryz.isAgg177
  z119 := Tryz.sizeOf177
  t127 := Tryz.underlying79
  a127 := Tryz.isAgg79
  z127 := Tryz.sizeOf79
  v127 := Tryz.zeroValue79
  t138 := Tryz.underlying179
  a138 := Tryz.isAgg179
  z138 := Tryz.sizeOf179
  v138 := Tryz.zeroValue179
  t139 := Tryz.underlying180
  a139 := Tryz.isAgg180
  z139 := Tryz.sizeOf180
  v139 := Tryz.zeroValue180
  t164 := Tryz.underlying95
  a164 := Tryz.isAgg95
  z164 := Tryz.sizeOf95
  v164 := Tryz.zeroValue95
  g3 := by kernel_rfl
  g4 := by kernel_rfl }
def Tryz.lays159_ren : Go.Shelf.Ren := ⟨fun | 159 => 137 | 165 => 139 | 166 => 17 | 167 => 163 | 169 => 20 | 230 => 164 | 204 => 165 | 240 => 35 | 241 => 167 | 197 => 95 | 118 => 173 | 168 => 174 | 270 => 175 | 262 => 176 | 276 => 55 | 277 => 177 | 260 => 132 | 242 => 130 | 313 => 179 | 278 => 158 | 274 => 182 | 275 => 183 | n => n, fun | 9 => 9 | 4 => 4 | 3 => 3 | 5 => 5 | 72 => 50 | 0 => 0 | 76 => 51 | 75 => 27 | 107 => 184 | 70 => 47 | 20 => 20 | 37 => 48 | 127 => 79 | 21 => 21 | 105 => 130 | 164 => 95 | 162 => 200 | 203 => 198 | 119 => 177 | 46 => 156 | 139 => 180 | 138 => 179 | 51 => 171 | 160 => 202 | 208 => 213 | 206 => 211 | 80 => 55 | n => n, fun | 13 => 18 | 3 => 13 | 4 => 14 | n => n⟩
theorem Tryz.lays159 : Go.Proofs.Lays.n159 Tryz.prog Tryz.lays159_ren := {
  mixed := by kernel_rfl
  f118 := Tryz.func173.trans (congrArg some (by kernel_rfl))
  f159 := Tryz.func137.trans (congrArg some (by kernel_rfl))
  f165 := Tryz.func139.trans (congrArg some (by kernel_rfl))
  f166 := Tryz.func17.trans (congrArg some (by kernel_rfl))
  f167 := Tryz.func163.trans (congrArg some (by kernel_rfl))
  f168 := Tryz.func174.trans (congrArg some (by kernel_rfl))
  f169 := Tryz.func20.trans (congrArg some (by kernel_rfl))
  f197 := Tryz.func95.trans (congrArg some (by kernel_rfl))
  f204 := Tryz.func165.trans (congrArg some (by kernel_rfl))
  f230 := Tryz.func164.trans (congrArg some (by kernel_rfl))
  f240 := Tryz.func35.trans (congrArg some (by kernel_rfl))
  f241 := Tryz.func167.trans (congrArg some (by kernel_rfl))
  f242 := Tryz.func130.trans (congrArg some (by kernel_rfl))
  f260 := Tryz.func132.trans (congrArg some (by kernel_rfl))
  f262 := Tryz.func176.trans (congrArg some (by kernel_rfl))
  f270 := Tryz.func175.trans (congrArg some (by kernel_rfl))
  f274 := Tryz.func182.trans (congrArg some (by kernel_rfl))
  f275 := Tryz.func183.trans (congrArg some (by kernel_rfl))
  f276 := Tryz.func55.trans (congrArg some (by kernel_rfl))
  f277 := Tryz.func177.trans (congrArg some (by kernel_rfl))
  f278 := Tryz.func158.trans (congrArg some (by kernel_rfl))
  f313 := Tryz.func179.trans (congrArg some (by kernel_rfl))
  t0 := Tryz.underlying0
  a0 := Tryz.isAgg0
  z0 := Tryz.sizeOf0
  v0 := Tryz.zeroValue0
  t3 := Tryz.underlying3
  a3 := Tryz.isAgg3
  z3 := Tryz.sizeOf3
  v3 := Tryz.zeroValue3
  t4 := Tryz.underlying4
  a4 := Tryz.isAgg4
  z4 := Tryz.sizeOf4
  v4 := Tryz.zeroValue4
  t5 := Tryz.underlying5
  a5 := Tryz.isAgg5
  z5 := Tryz.sizeOf5
  v5 := Tryz.zeroValue5
  t9 := Tryz.underlying9
  a9 := Tryz.isAgg9
  z9 := Tryz.sizeOf9
  v9 := Tryz.zeroValue9
  t20 := Tryz.underlying20
  a20 := Tryz.isAgg20
  z20 := Tryz.sizeOf20
  v20 := Tryz.zeroValue20
  t21 := Tryz.underlying21
  a21 := Tryz.isAgg21
  z21 := Tryz.sizeOf21
  v21 := Tryz.zeroValue21
  t37 := Tryz.underlying48
  a37 := Tryz.isAgg48
  z37 := Tryz.sizeOf48
  v37 := Tryz.zeroValue48
  t46 := Tryz.underlying156
  a46 := Tryz.isAgg156
  z46 := Tryz.sizeOf156
  v46 := Tryz.zeroValue156
  t51 := Tryz.underlying171
  a51 := Tryz.isAgg171
  z51 := Tryz.sizeOf171
  v51 := Tryz.zeroValue171
  t70 := Tryz.underlying47
  a70 := Tryz.isAgg47
  z70 := Tryz.sizeOf47
  v70 := Tryz.zeroValue47
  t72 := Tryz.underlying50
  a72 := Tryz.isAgg50
  z72 := Tryz.sizeOf50
  v72 := Tryz.zeroValue50
  t75 := Tryz.underlying27
  a75 := Tryz.isAgg27
  z75 := Tryz.sizeOf27
  v75 := Tryz.zeroValue27
  t76 := Tryz.underlying51
  a76 := Tryz.isAgg51
  z76 := Tryz.sizeOf51
  v76 := Tryz.zeroValue51
  t105 := Tryz.underlying130
  a105 := Tryz.isAgg130
  z105 := Tryz.sizeOf130
  v105 := Tryz.zeroValue130
  t107 := Tryz.underlying184
  a107 := Tryz.isAgg184
  z107 := Tryz.sizeOf184
  v107 := Tryz.zeroValue184
  t119 := Tryz.underlying177
  a119 := Tryz.isAgg177
  z119 := Tryz.sizeOf177
  t127 := Tryz.underlying79
  a127 := Tryz.isAgg79
  z127 := Tryz.sizeOf79
  v127 := Tryz.zeroValue79
  t138 := Tryz.underlying179
  a138 := Tryz.isAgg179
  z138 := Tryz.sizeOf179
  v138 := Tryz.zeroValue179
  t139 := Tryz.underlying180
  a139 := Tryz.isAgg180
  z139 := Tryz.sizeOf180
  v139 := Tryz.zeroValue180
  t160 := Tryz.underlying202
  a160 := Tryz.isAgg202
  z160 := Tryz.sizeOf202
  v160 := Tryz.zeroValue202
  t162 := Tryz.underlying200
  a162 := Tryz.isAgg200
  z162 := Tryz.sizeOf200
  v162 := Tryz.zeroValue200
  t164 := Tryz.underlying95
  a164 := Tryz.isAgg95
  z164 := Tryz.sizeOf95
  v164 := Tryz.zeroValue95
  t203 := Tryz.underlying198
  a203 := Tryz.isAgg198
  z203 := Tryz.sizeOf198
  v203 := Tryz.zeroValue198
  t206 := Tryz.underlying211
  a206 := Tryz.isAgg211
  z206 := Tryz.sizeOf211
  v206 := Tryz.zeroValue211
  t208 := Tryz.underlying213
  a208 := Tryz.isAgg213
  z208 := Tryz.sizeOf213
  v208 := Tryz.zeroValue213
  g3 := by kernel_rfl
  g4 := by kernel_rfl
  g13 := by kernel_rfl }
def Tryz.lays158_ren : Go.Shelf.Ren := ⟨fun | 158 => 138 | 165 => 139 | 166 => 17 | 167 => 163 | 169 => 20 | 230 => 164 | 203 => 166 | 240 => 35 | 241 => 167 | 197 => 95 | 118 => 173 | 168 => 174 | 270 => 175 | 262 => 176 | 276 => 55 | 277 => 177 | 260 => 132 | 242 => 130 | 313 => 179 | 278 => 158 | 274 => 182 | 275 => 183 | n => n, fun | 9 => 9 | 4 => 4 | 3 => 3 | 5 => 5 | 72 => 50 | 0 => 0 | 76 => 51 | 75 => 27 | 107 => 184 | 70 => 47 | 20 => 20 | 37 => 48 | 127 => 79 | 21 => 21 | 105 => 130 | 164 => 95 | 162 => 200 | 203 => 198 | 119 => 177 | 46 => 156 | 139 => 180 | 138 => 179 | 51 => 171 | 160 => 202 | 208 => 213 | 206 => 211 | 80 => 55 | n => n, fun | 13 => 18 | 3 => 13 | 4 => 14 | n => n⟩
theorem Tryz.lays158 : Go.Proofs.Lays.n158 Tryz.prog Tryz.lays158_ren := {
  mixed := by kernel_rfl
  f118 := Tryz.func173.trans (congrArg some (by kernel_rfl))
  f158 := Tryz.func138.trans (congrArg some (by kernel_rfl))
  f165 := Tryz.func139.trans (congrArg some (by kernel_rfl))
  f166 := Tryz.func17.trans (congrArg some (by kernel_rfl))
  f167 := Tryz.func163.trans (congrArg some (by kernel_rfl))
  f168 := Tryz.func174.trans (congrArg some (by kernel_rfl))
  f169 := Tryz.func20.trans (congrArg some (by kernel_rfl))
  f197 := Tryz.func95.trans (congrArg some (by kernel_rfl))
  f203 := Tryz.func166.trans (congrArg some (by kernel_rfl))
  f230 := Tryz.func164.trans (congrArg some (by kernel_rfl))
  f240 := Tryz.func35.trans (congrArg some (by kernel_rfl))
  f241 := Tryz.func167.trans (congrArg some (by kernel_rfl))
  f242 := Tryz.func130.trans (congrArg some (by kernel_rfl))
  f260 := Tryz.func132.trans (congrArg some (by kernel_rfl))
  f262 := Tryz.func176.trans (congrArg some (by kernel_rfl))
  f270 := Tryz.func175.trans (congrArg some (by kernel_rfl))
  f274 := Tryz.func182.trans (congrArg some (by kernel_rfl))
  f275 := Tryz.func183.trans (congrArg some (by kernel_rfl))
  f276 := Tryz.func55.trans (congrArg some (by kernel_rfl))
  f277 := Tryz.func177.trans (congrArg some (by kernel_rfl))
  f278 := Tryz.func158.trans (congrArg some (by kernel_rfl))
  f313 := Tryz.func179.trans (congrArg some (by kernel_rfl))
  t0 := Tryz.underlying0
  a0 := Tryz.isAgg0
  z0 := Tryz.sizeOf0
  v0 := Tryz.zeroValue0
  t3 := Tryz.underlying3
  a3 := Tryz.isAgg3
  z3 := Tryz.sizeOf3
  v3 := Tryz.zeroValue3
  t4 := Tryz.underlying4
  a4 := Tryz.isAgg4
  z4 := Tryz.sizeOf4
  v4 := Tryz.zeroValue4
  t5 := Tryz.underlying5
  a5 := Tryz.isAgg5
  z5 := Tryz.sizeOf5
  v5 := Tryz.zeroValue5
  t9 := Tryz.underlying9
  a9 := Tryz.isAgg9
  z9 := Tryz.sizeOf9
  v9 := Tryz.zeroValue9
  t20 := Tryz.underlying20
  a20 := Tryz.isAgg20
  z20 := Tryz.sizeOf20
  v20 := Tryz.zeroValue20
  t21 := Tryz.underlying21
  a21 := Tryz.isAgg21
  z21 := Tryz.sizeOf21
  v21 := Tryz.zeroValue21
  t37 := Tryz.underlying48
  a37 := Tryz.isAgg48
  z37 := Tryz.sizeOf48
  v37 := Tryz.zeroValue48
  t46 := Tryz.underlying156
  a46 := Tryz.isAgg156
  z46 := Tryz.sizeOf156
  v46 := Tryz.zeroValue156
  t51 := Tryz.underlying171
  a51 := Tryz.isAgg171
  z51 := Tryz.sizeOf171
  v51 := Tryz.zeroValue171
  t70 := Tryz.underlying47
  a70 := Tryz.isAgg47
  z70 := Tryz.sizeOf47
  v70 := Tryz.zeroValue47
  t72 := Tryz.underlying50
  a72 := Tryz.isAgg50
  z72 := Tryz.sizeOf50
  v72 := Tryz.zeroValue50
  t75 := Tryz.underlying27
  a75 := Tryz.isAgg27
  z75 := Tryz.sizeOf27
  v75 := Tryz.zeroValue27
  t76 := Tryz.underlying51
  a76 := Tryz.isAgg51
  z76 := Tryz.sizeOf51
  v76 := Tryz.zeroValue51
  t105 := Tryz.underlying130
  a105 := Tryz.isAgg130
  z105 := Tryz.sizeOf130
  v105 := Tryz.zeroValue130
  t107 := Tryz.underlying184
  a107 := Tryz.isAgg184
  z107 := Tryz.sizeOf184
  v107 := Tryz.zeroValue184
  t119 := Tryz.underlying177
  a119 := Tryz.isAgg177
  z119 := Tryz.sizeOf177
  t127 := Tryz.underlying79
  a127 := Tryz.isAgg79
  z127 := Tryz.sizeOf79
  v127 := Tryz.zeroValue79
  t138 := Tryz.underlying179
  a138 := Tryz.isAgg179
  z138 := Tryz.sizeOf179
  v138 := Tryz.zeroValue179
  t139 := Tryz.underlying180
  a139 := Tryz.isAgg180
  z139 := Tryz.sizeOf180
  v139 := Tryz.zeroValue180
  t160 := Tryz.underlying202
  a160 := Tryz.isAgg202
  z160 := Tryz.sizeOf202
  v160 := Tryz.zeroValue202
  t162 := Tryz.underlying200
  a162 := Tryz.isAgg200
  z162 := Tryz.sizeOf200
  v162 := Tryz.zeroValue200
  t164 := Tryz.underlying95
  a164 := Tryz.isAgg95
  z164 := Tryz.sizeOf95
  v164 := Tryz.zeroValue95
  t203 := Tryz.underlying198
  a203 := Tryz.isAgg198
  z203 := Tryz.sizeOf198
  v203 := Tryz.zeroValue198
  t206 := Tryz.underlying211
  a206 := Tryz.isAgg211
  z206 := Tryz.sizeOf211
  v206 := Tryz.zeroValue211
  t208 := Tryz.underlying213
  a208 := Tryz.isAgg213
  z208 := Tryz.sizeOf213
  v208 := Tryz.zeroValue213
  g3 := by kernel_rfl
  g4 := by kernel_rfl
  g13 := by kernel_rfl }
def Tryz.lays156_ren : Go.Shelf.Ren := ⟨fun | 156 => 104 | 165 => 139 | 166 => 17 | 169 => 20 | 240 => 35 | 241 => 167 | 276 => 55 | 277 => 177 | n => n, fun | 31 => 68 | 9 => 9 | 3 => 3 | 4 => 4 | 0 => 0 | 20 => 20 | 72 => 50 | 76 => 51 | 70 => 47 | 37 => 48 | 75 => 27 | 127 => 79 | 164 => 95 | 5 => 5 | 80 => 55 | n => n, fun | n => n⟩
theorem Tryz.lays156 : Go.Proofs.Lays.n156 Tryz.prog Tryz.lays156_ren := {
  mixed := by kernel_rfl
  f156 := Tryz.func104.trans (congrArg some (by kernel_rfl))
  f165 := Tryz.func139.trans (congrArg some (by kernel_rfl))
  f166 := Tryz.func17.trans (congrArg some (by kernel_rfl))
  f169 := Tryz.func20.trans (congrArg some (by kernel_rfl))
  f240 := Tryz.func35.trans (congrArg some (by kernel_rfl))
  f241 := Tryz.func167.trans (congrArg some (by kernel_rfl))
  f276 := Tryz.func55.trans (congrArg some (by kernel_rfl))
  f277 := Tryz.func177.trans (congrArg some (by kernel_rfl))
  t0 := Tryz.underlying0
  a0 := Tryz.isAgg0
  z0 := Tryz.sizeOf0
  v0 := Tryz.zeroValue0
  t3 := Tryz.underlying3
  a3 := Tryz.isAgg3
  z3 := Tryz.sizeOf3
  v3 := Tryz.zeroValue3
  t4 := Tryz.underlying4
  a4 := Tryz.isAgg4
  z4 := Tryz.sizeOf4
  v4 := Tryz.zeroValue4
  t9 := Tryz.underlying9
  a9 := Tryz.isAgg9
  z9 := Tryz.sizeOf9
  v9 := Tryz.zeroValue9
  t20 := Tryz.underlying20
  a20 := Tryz.isAgg20
  z20 := Tryz.sizeOf20
  v20 := Tryz.zeroValue20
  t31 := Tryz.underlying68
  a31 := Tryz.isAgg68
  z31 := Tryz.sizeOf68
  v31 := Tryz.zeroValue68
  t37 := Tryz.underlying48
  a37 := Tryz.isAgg48
  z37 := Tryz.sizeOf48
  v37 := Tryz.zeroValue48
  t70 := Tryz.underlying47
  a70 := Tryz.isAgg47
  z70 := Tryz.sizeOf47
  v70 := Tryz.zeroValue47
  t72 := Tryz.underlying50
  a72 := Tryz.isAgg50
  z72 := Tryz.sizeOf50
  v72 := Tryz.zeroValue50
  t75 := Tryz.underlying27
  a75 := Tryz.isAgg27
  z75 := Tryz.sizeOf27
  v75 := Tryz.zeroValue27
  t76 := Tryz.underlying51
  a76 := Tryz.isAgg51
  z76 := Tryz.sizeOf51
  v76 := Tryz.zeroValue51
  t127 := Tryz.underlying79
  a127 := Tryz.isAgg79
  z127 := Tryz.sizeOf79
  v127 := Tryz.zeroValue79
  t164 := Tryz.underlying95
  a164 := Tryz.isAgg95
  z164 := Tryz.sizeOf95
  v164 := Tryz.zeroValue95 }
def Tryz.lays169_ren : Go.Shelf.Ren := ⟨fun | 169 => 20 | n => n, fun | 70 => 47 | 9 => 9 | 0 => 0 | 72 => 50 | 37 => 48 | 127 => 79 | 3 => 3 | 5 => 5 | n => n, fun | n => n⟩
theorem Tryz.lays169 : Go.Proofs.Lays.n169 Tryz.prog Tryz.lays169_ren := {
  mixed := by kernel_rfl
  f169 := Tryz.func20.trans (congrArg some (by kernel_rfl))
  t0 := Tryz.underlying0
  a0 := Tryz.isAgg0
  z0 := Tryz.sizeOf0
  v0 := Tryz.zeroValue0
  t3 := Tryz.underlying3
  a3 := Tryz.isAgg3
  z3 := Tryz.sizeOf3
  v3 := Tryz.zeroValue3
  t9 := Tryz.underlying9
  a9 := Tryz.isAgg9
  z9 := Tryz.sizeOf9
  v9 := Tryz.zeroValue9
  t37 := Tryz.underlying48
  a37 := Tryz.isAgg48
  z37 := Tryz.sizeOf48
  v37 := Tryz.zeroValue48
  t70 := Tryz.underlying47
  a70 := Tryz.isAgg47
  z70 := Tryz.sizeOf47
  v70 := Tryz.zeroValue47
  t72 := Tryz.underlying50
  a72 := Tryz.isAgg50
  z72 := Tryz.sizeOf50
  v72 := Tryz.zeroValue50
  t127 := Tryz.underlying79
  a127 := Tryz.isAgg79
  z127 := Tryz.sizeOf79
  v127 := Tryz.zeroValue79 }
end Go.Proofs
