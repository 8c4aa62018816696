/-
  TrM, MrM, SentW, MrBW, TrBM, TrCM, TrCW, TrDW, TrEM, TrEW, TrFW, TrGM, TrHM, TrHW, TrIM.
-/
import Derived.Test.YtekimkdaoblcgaaDoorProg
import Derived.WalkKit
import Derived.WalkSpells
import Derived.WalkLawsBesides
import Derived.Deep.QuietTactic
import Derived.BigQuiet
import Derived.LaidEql
import Derived.KernelRfl
import Derived.Handy
import Derived.Maps.AppendAt
import Derived.Shelf.Abstract
import Derived.Lib.SlicesS
import Derived.Deep.DeepAppendRoom
import Derived.Deep.AppendLies
import Derived.Deep.RegionHeld3
import Derived.Maps.OwnSet
import Derived.Maps.OwnOps
import Derived.Maps.RangeWalk
import Derived.Deep.LoopGhost
import Derived.Sort.OwnSorted
namespace Go.Proofs.YtekimkdaoblcgaaDoor
/-- The longest end of a list of which P says yes. -/
def lsf (P : List Int → Bool) : List Int → List Int
  | [] => []
  | x :: xs => if P (x :: xs) then x :: xs else lsf P xs
/-- The ends of a list that are entries, the longest first. -/
def endsF (E : List (List Int)) : List Int → List (List Int)
  | [] => []
  | x :: xs => if (x :: xs) ∈ E then (x :: xs) :: endsF E xs else endsF E xs
/-- Is it a beginning of an entry? -/
def begB (E : List (List Int)) (p : List Int) : Bool := p.isEmpty || E.any fun e => p.isPrefixOf e
theorem begB_nil (E : List (List Int)) : begB E [] = true := rfl
theorem begB_iff {E : List (List Int)} {p : List Int} : begB E p = true ↔ p = [] ∨ ∃ e ∈ E, p <+: e := by
  simp [begB, List.isEmpty_iff, List.any_eq_true]
theorem begB_mem {E : List (List Int)} {e : List Int} (h : e ∈ E) : begB E e = true := begB_iff.2 (.inr ⟨e, h, List.prefix_refl _⟩)
theorem begB_front {E : List (List Int)} {p : List Int} {c : Int} (h : begB E (p ++ [c]) = true) : begB E p = true := by
  rw [begB_iff] at h ⊢
  rcases h with h | ⟨e, he, h⟩
  · simp at h
  · exact .inr ⟨e, he, List.IsPrefix.trans (List.prefix_append p [c]) h⟩
theorem begB_snoc (E : List (List Int)) (e p : List Int) : begB (E ++ [e]) p = (begB E p || p.isPrefixOf e) := by
  simp only [begB, List.any_append, List.any_cons, List.any_nil, Bool.or_false, Bool.or_assoc]
theorem begB_len {E : List (List Int)} {n : Nat} (h : ∀ e ∈ E, e.length ≤ n) {p : List Int} (hp : begB E p = true) : p.length ≤ n := by
  rcases begB_iff.1 hp with rfl | ⟨e, he, hq⟩
  · simp
  · exact Nat.le_trans hq.length_le (h e he)
section
variable {P : List Int → Bool}
theorem lsf_self {q : List Int} (h : P q = true) : lsf P q = q := by
  cases q with
  | nil => rfl
  | cons x xs => simp [lsf, h]
theorem lsf_ok (h0 : P [] = true) (q : List Int) : P (lsf P q) = true := by
  induction q with
  | nil => exact h0
  | cons x xs ih =>
    unfold lsf
    split
    · assumption
    · exact ih
theorem lsf_len (q : List Int) : (lsf P q).length ≤ q.length := by
  induction q with
  | nil => exact Nat.le_refl _
  | cons x xs ih =>
    unfold lsf
    split
    · exact Nat.le_refl _
    · simp only [List.length_cons]; omega
theorem lsf_not {x : Int} {xs : List Int} (h : P (x :: xs) = false) : lsf P (x :: xs) = lsf P xs := by simp [lsf, h]
theorem lsf_snoc (hP : ∀ p c, P (p ++ [c]) = true → P p = true) (q : List Int) (c : Int) : lsf P (q ++ [c]) = lsf P (lsf P q ++ [c]) := by
  induction q with
  | nil => rfl
  | cons x xs ih =>
    cases h : P (x :: xs) with
    | true => rw [lsf_self h]
    | false =>
      have h2 : P (x :: (xs ++ [c])) = false := by
        cases h3 : P (x :: (xs ++ [c])) with
        | false => rfl
        | true => rw [hP (x :: xs) c h3] at h; cases h
      rw [lsf_not h, List.cons_append, lsf_not h2, ih]
/-- One step: where the longer beginning is none, the shorter one is asked. -/
theorem lsf_step (hP : ∀ p c, P (p ++ [c]) = true → P p = true) {x : Int} {xs : List Int} {c : Int} (h : P (x :: xs ++ [c]) = false) : lsf P (x :: xs ++ [c]) = lsf P (lsf P xs ++ [c]) := by
  rw [List.cons_append] at h ⊢
  rw [lsf_not h, lsf_snoc hP]
theorem ends_lsf {E : List (List Int)} (hE : ∀ e ∈ E, P e = true) (q : List Int) : endsF E (lsf P q) = endsF E q := by
  induction q with
  | nil => rfl
  | cons x xs ih =>
    cases h : P (x :: xs) with
    | true => rw [lsf_self h]
    | false =>
      have h2 : (x :: xs) ∉ E := fun he => by rw [hE _ he] at h; cases h
      rw [lsf_not h, ih]
      simp [endsF, h2]
end
/-- The longest shorter end that is a beginning; none: it has none. -/
def shF (P : List Int → Bool) : List Int → Option (List Int)
  | [] => none
  | _ :: xs => some (lsf P xs)
/-- The longest shorter end that is an entry. -/
def inF (E : List (List Int)) (p : List Int) : Option (List Int) := (endsF E p.tail).head?
section
variable {E : List (List Int)}
theorem ends_mem {q e : List Int} (h : e ∈ endsF E q) : e ∈ E ∧ e <:+ q ∧ e ≠ [] := by
  induction q with
  | nil => cases h
  | cons x xs ih =>
    unfold endsF at h
    split at h
    · rcases List.mem_cons.1 h with rfl | h
      · exact ⟨by assumption, List.suffix_refl _, by simp⟩
      · obtain ⟨h1, h2, h3⟩ := ih h
        exact ⟨h1, List.IsSuffix.trans h2 (List.suffix_cons x xs), h3⟩
    · obtain ⟨h1, h2, h3⟩ := ih h
      exact ⟨h1, List.IsSuffix.trans h2 (List.suffix_cons x xs), h3⟩
theorem ends_of {q e : List Int} (h1 : e ∈ E) (h2 : e <:+ q) (h3 : e ≠ []) : e ∈ endsF E q := by
  induction q with
  | nil => exact absurd (List.suffix_nil.1 h2) h3
  | cons x xs ih =>
    unfold endsF
    rcases List.suffix_cons_iff.1 h2 with rfl | h2
    · rw [if_pos h1]; exact .head _
    · split
      · exact .tail _ (ih h2)
      · exact ih h2
/-- Behind an entry come those that it ends with. -/
theorem ends_cons {q e : List Int} {r : List (List Int)} (h : endsF E q = e :: r) : r = endsF E e.tail := by
  induction q with
  | nil => cases h
  | cons x xs ih =>
    unfold endsF at h
    split at h
    · injection h with h1 h2
      subst h1
      exact h2.symm
    · exact ih h
theorem ends_head_mem {q e : List Int} (h : (endsF E q).head? = some e) : e ∈ E ∧ e <:+ q ∧ e ≠ [] := by
  cases hq : endsF E q with
  | nil => rw [hq] at h; cases h
  | cons y r =>
    rw [hq] at h
    simp only [List.head?_cons, Option.some.injEq] at h
    subst h
    exact ends_mem (q := q) (by rw [hq]; exact .head _)
/-- What comes of the links: all entries at the end, from the longest on. -/
theorem ends_self {p : List Int} (hn : [] ∉ E) : endsF E p = if p ∈ E then p :: endsF E p.tail else endsF E p.tail := by
  cases p with
  | nil => simp [hn, endsF]
  | cons x xs => rfl
/-- The link to the longest entry, by that of the shorter beginning. -/
theorem inF_step {P : List Int → Bool} (hE : ∀ e ∈ E, P e = true) (hn : [] ∉ E) (x : Int) (xs : List Int) : inF E (x :: xs) = if lsf P xs ∈ E then some (lsf P xs) else inF E (lsf P xs) := by
  unfold inF
  rw [List.tail_cons, ← ends_lsf hE, ends_self hn]
  split
  · rfl
  · rfl
end
theorem suffix_tail_len {p q : List Int} (h : q <:+ p.tail) (hp : p ≠ []) : q.length < p.length := by
  have := h.length_le
  cases p with
  | nil => exact absurd rfl hp
  | cons x xs => simp only [List.tail_cons, List.length_cons] at *; omega
end Go.Proofs.YtekimkdaoblcgaaDoor
namespace Go.Proofs.YtekimkdaoblcgaaDoor
/-- Is it one of so many? -/
def oneOf (n : Nat) (z : Int) : Bool := decide (0 ≤ z) && decide (z < (n : Int))
/-- Does a list rise, from lo on to below cnt? -/
def riseF (cnt : Int) : Int → List Int → Bool
  | _, [] => true
  | lo, z :: l => decide (lo ≤ z) && decide (z < cnt) && riseF cnt (z + 1) l
def rowF (n : Nat) (sy pa : Int) (r o : List Int) : Bool := decide ((r.length : Int) = sy) && r.all (oneOf n) && riseF pa 0 o
/-- May a machine be? -/
def chkF (st : Int) (N O : List (List Int)) (sy pa : Int) : Bool :=
  decide (1 ≤ sy ∧ sy ≤ 16384 ∧ 0 ≤ pa ∧ 1 ≤ N.length ∧ N.length ≤ 16384 ∧ O.length = N.length ∧ (N.length : Int) * sy ≤ 4194304) && oneOf N.length st && (List.range N.length).all fun j => rowF N.length sy pa (N.getD j []) (O.getD j [])
/-- The state to which a symbol leads. -/
def stepF (N : List (List Int)) (s : Nat) (z : Int) : Option Nat :=
  if 0 ≤ z ∧ z < ((N.getD s []).length : Int) then (if oneOf N.length ((N.getD s []).getD z.toNat 0) then some ((N.getD s []).getD z.toNat 0).toNat else none) else none
def goF (N : List (List Int)) : List Int → Nat → List Int → Option (List Int)
  | acc, _, [] => some acc
  | acc, s, z :: l => match stepF N s z with | none => none | some t => goF N (acc ++ [(t : Int)]) t l
/-- The states of a run; none: it is refused. -/
def runF (N : List (List Int)) (st : Int) (l : List Int) : Option (List Int) := if oneOf N.length st then goF N [st] st.toNat l else none
theorem oneOf_iff (n : Nat) (z : Int) : oneOf n z = true ↔ 0 ≤ z ∧ z < (n : Int) := by unfold oneOf; simp
theorem oneOf_not (n : Nat) (z : Int) : oneOf n z = false ↔ ¬ (0 ≤ z ∧ z < (n : Int)) := by rw [← oneOf_iff]; simp
theorem goF_len (N : List (List Int)) : ∀ (l acc : List Int) (s : Nat) (r : List Int), goF N acc s l = some r → r.length = acc.length + l.length := by
  intro l
  induction l with
  | nil => intro acc s r h; rw [goF] at h; cases h; simp
  | cons z l ih =>
    intro acc s r h
    rw [goF] at h
    split at h
    · cases h
    · have := ih _ _ _ h
      simp at this ⊢
      omega
theorem runF_len {N : List (List Int)} {st : Int} {l r : List Int} (h : runF N st l = some r) : r.length = l.length + 1 := by
  unfold runF at h
  split at h
  · have := goF_len N _ _ _ _ h
    simp at this
    omega
  · cases h
theorem goF_drop {N : List (List Int)} {acc l : List Int} {s k : Nat} (hk : k < l.length) : goF N acc s (l.drop k) = match stepF N s l[k] with | none => none | some t => goF N (acc ++ [(t : Int)]) t (l.drop (k + 1)) := by
  rw [List.drop_eq_getElem_cons hk, goF]
theorem riseF_drop {cnt lo : Int} {l : List Int} {k : Nat} (hk : k < l.length) : riseF cnt lo (l.drop k) = (decide (lo ≤ l[k]) && decide (l[k] < cnt) && riseF cnt (l[k] + 1) (l.drop (k + 1))) := by
  rw [List.drop_eq_getElem_cons hk, riseF]
theorem riseF_end {cnt lo : Int} {l : List Int} {k : Nat} (hk : l.length ≤ k) : riseF cnt lo (l.drop k) = true := by
  rw [List.drop_of_length_le hk, riseF]
theorem all_drop {n : Nat} {l : List Int} {k : Nat} (hk : k < l.length) : (l.drop k).all (oneOf n) = (oneOf n l[k] && (l.drop (k + 1)).all (oneOf n)) := by
  rw [List.drop_eq_getElem_cons hk, List.all_cons]
theorem all_end {n : Nat} {l : List Int} {k : Nat} (hk : l.length ≤ k) : (l.drop k).all (oneOf n) = true := by
  rw [List.drop_of_length_le hk, List.all_nil]
/-- Rows that were looked at, and one more. -/
theorem range_snoc {p : Nat → Bool} {k : Nat} (h : (List.range k).all p = true) (hk : p k = true) : (List.range (k + 1)).all p = true := by
  rw [List.range_succ, List.all_append, h, List.all_cons, hk]; rfl
theorem range_bad {p : Nat → Bool} {k n : Nat} (hk : k < n) (h : p k = false) : (List.range n).all p = false := by
  rw [List.all_eq_false]
  exact ⟨k, List.mem_range.2 hk, by simp [h]⟩
end Go.Proofs.YtekimkdaoblcgaaDoor
namespace Go.Proofs.YtekimkdaoblcgaaDoor
open Go.RowKit
theorem hid1 {p : Prop} (h : p) : Hid p := h
/-- The eleven refusals: each variable's cell, each its own object. -/
structure Sents (w : World) (A : Nat → Addr) : Prop where
  c0 : w.cell? ⟨0, 0, none⟩ = some (.iface 129 (.pointer (some (A 0))))
  c1 : w.cell? ⟨1, 0, none⟩ = some (.iface 129 (.pointer (some (A 1))))
  c2 : w.cell? ⟨2, 0, none⟩ = some (.iface 129 (.pointer (some (A 2))))
  c3 : w.cell? ⟨3, 0, none⟩ = some (.iface 129 (.pointer (some (A 3))))
  c4 : w.cell? ⟨4, 0, none⟩ = some (.iface 129 (.pointer (some (A 4))))
  c5 : w.cell? ⟨6, 0, none⟩ = some (.iface 129 (.pointer (some (A 5))))
  c6 : w.cell? ⟨5, 0, none⟩ = some (.iface 129 (.pointer (some (A 6))))
  c7 : w.cell? ⟨7, 0, none⟩ = some (.iface 129 (.pointer (some (A 7))))
  c8 : w.cell? ⟨8, 0, none⟩ = some (.iface 129 (.pointer (some (A 8))))
  c9 : w.cell? ⟨9, 0, none⟩ = some (.iface 129 (.pointer (some (A 9))))
  c10 : w.cell? ⟨10, 0, none⟩ = some (.iface 129 (.pointer (some (A 10))))
  ne : ∀ i j, i < 11 → j < 11 → i ≠ j → A i ≠ A j
  blk : ∀ i, i < 11 → ∃ c t, w.heap[(A i).block]? = some (.cells c t (0, 0))
theorem compErr : (Tryd.prog.info? 129).map (·.comparable) = some true := by kernel_rfl
theorem sizeErr : (Tryd.prog.info? 147).map (·.size) = some 1 := by kernel_rfl
theorem Sents.eql {w : World} {A : Nat → Addr} (h : Sents w A) (i j : Nat) (hi : i < 11) (hj : j < 11) :
    (binOp .eql 37 (.iface 129 (.pointer (some (A i)))) (.iface 129 (.pointer (some (A j))))).run Tryd.prog w = .ok (.bool (decide (i = j))) w := by
  obtain ⟨ti, h1, h2⟩ := Option.map_eq_some_iff.1 compErr
  obtain ⟨tj, h3, h4⟩ := Option.map_eq_some_iff.1 sizeErr
  by_cases e : i = j
  · subst e
    rw [run_eql_iface_ptr_same w (A i) Tryd.underlying37 Tryd.underlying129 h1 h2 h3]
    simp
  · obtain ⟨ca, ta, ha⟩ := h.blk i hi
    obtain ⟨cb, tb, hb⟩ := h.blk j hj
    rw [run_eql_iface_ptr_other w Tryd.underlying37 Tryd.underlying129 h1 h2 h3 (by rw [h4]; decide) (h.ne i j hi hj e) ha hb]
    simp [e]
theorem Sents.below {w w' : World} {A : Nat → Addr} (h : Sents w A) (hb : Below w.heap.size w w') : Sents w' A where
  c0 := (hb.cell (p := ⟨0, 0, none⟩) (World.block_lt_of_cell? w _ h.c0)).trans h.c0
  c1 := (hb.cell (p := ⟨1, 0, none⟩) (World.block_lt_of_cell? w _ h.c1)).trans h.c1
  c2 := (hb.cell (p := ⟨2, 0, none⟩) (World.block_lt_of_cell? w _ h.c2)).trans h.c2
  c3 := (hb.cell (p := ⟨3, 0, none⟩) (World.block_lt_of_cell? w _ h.c3)).trans h.c3
  c4 := (hb.cell (p := ⟨4, 0, none⟩) (World.block_lt_of_cell? w _ h.c4)).trans h.c4
  c5 := (hb.cell (p := ⟨6, 0, none⟩) (World.block_lt_of_cell? w _ h.c5)).trans h.c5
  c6 := (hb.cell (p := ⟨5, 0, none⟩) (World.block_lt_of_cell? w _ h.c6)).trans h.c6
  c7 := (hb.cell (p := ⟨7, 0, none⟩) (World.block_lt_of_cell? w _ h.c7)).trans h.c7
  c8 := (hb.cell (p := ⟨8, 0, none⟩) (World.block_lt_of_cell? w _ h.c8)).trans h.c8
  c9 := (hb.cell (p := ⟨9, 0, none⟩) (World.block_lt_of_cell? w _ h.c9)).trans h.c9
  c10 := (hb.cell (p := ⟨10, 0, none⟩) (World.block_lt_of_cell? w _ h.c10)).trans h.c10
  ne := h.ne
  blk := fun i hi => by
    obtain ⟨c, t, hc⟩ := h.blk i hi
    exact ⟨c, t, (hb.block _ (Array.getElem?_eq_some_iff.1 hc).1).trans hc⟩
/-- The number of the refusal at a place of the list. -/
def refNo (i : Nat) : Int := [1, 2, 3, 4, 5, 7, 6, 8, 9, 10, 11].getD i 0
set_option maxRecDepth 10000 in
set_option maxHeartbeats 1600000 in
theorem kitNum_at (w : World) (A : Nat → Addr) (h : Sents w A) (i : Nat) (hi : i < 11) :
    Calls Tryd.prog 9 #[.iface 129 (.pointer (some (A i)))] w fun e w' => e = .returned (.int .i64 (refNo i)) ∧ w' = w := by
  have d0 := h.c0
  have d1 := h.c1
  have d2 := h.c2
  have d3 := h.c3
  have d4 := h.c4
  have d5 := h.c5
  have d6 := h.c6
  have d7 := h.c7
  have d8 := h.c8
  have d9 := h.c9
  have d10 := h.c10
  have hq := fun j => h.eql i j hi
  clear h
  have h11 : i = 0 ∨ i = 1 ∨ i = 2 ∨ i = 3 ∨ i = 4 ∨ i = 5 ∨ i = 6 ∨ i = 7 ∨ i = 8 ∨ i = 9 ∨ i = 10 := by omega
  clear hi
  have q0 := hq 0 (by omega)
  have q1 := hq 1 (by omega)
  have q2 := hq 2 (by omega)
  have q3 := hq 3 (by omega)
  have q4 := hq 4 (by omega)
  have q5 := hq 5 (by omega)
  have q6 := hq 6 (by omega)
  have q7 := hq 7 (by omega)
  have q8 := hq 8 (by omega)
  have q9 := hq 9 (by omega)
  have q10 := hq 10 (by omega)
  clear hq
  rcases h11 with rfl | rfl | rfl | rfl | rfl | rfl | rfl | rfl | rfl | rfl | rfl
  all_goals
    go_enter Tryd.func9, Tryd.ntmps9
    go_wp2
    go_ret
    exact ⟨rfl, rfl⟩
set_option maxRecDepth 10000 in
theorem kitNum_nil (w : World) : Calls Tryd.prog 9 #[.nilIface] w fun e w' => e = .returned (.int .i64 0) ∧ w' = w := by
  go_enter Tryd.func9, Tryd.ntmps9
  go_wp2
  go_ret
  exact ⟨rfl, rfl⟩
end Go.Proofs.YtekimkdaoblcgaaDoor
namespace Go.Proofs.YtekimkdaoblcgaaDoor
open Go.RowKit Go.Shelf
theorem hid0 {p : Prop} (h : p) : Hid p := h
/-- w' is w, but for new blocks and the blocks of S. -/
structure Only (w w' : World) (S : Nat → Prop) : Prop where
  os : w'.os = w.os
  tape : w'.tape = w.tape
  output : w'.output = w.output
  size : w.heap.size ≤ w'.heap.size
  block : ∀ k, k < w.heap.size → ¬ S k → w'.heap[k]? = w.heap[k]?
theorem Only.refl (w : World) (S : Nat → Prop) : Only w w S := ⟨rfl, rfl, rfl, Nat.le_refl _, fun _ _ _ => rfl⟩
theorem Only.trans {a b c : World} {S T : Nat → Prop} (h : Only a b S) (k : Only b c T) (hT : ∀ i, T i → S i ∨ a.heap.size ≤ i) : Only a c S :=
  ⟨k.os.trans h.os, k.tape.trans h.tape, k.output.trans h.output, Nat.le_trans h.size k.size, fun i hi hS =>
    (k.block i (Nat.lt_of_lt_of_le hi h.size) (fun ht => (hT i ht).elim hS (fun h => absurd hi (Nat.not_lt.2 h)))).trans (h.block i hi hS)⟩
theorem Only.drewN (w : World) (n : Nat) (S : Nat → Prop) : Only w (w.drewN n) S := ⟨rfl, rfl, rfl, Nat.le_refl _, fun _ _ _ => rfl⟩
theorem Only.alloc (w : World) (o : Obj) (S : Nat → Prop) : Only w (w.alloc o) S := ⟨rfl, rfl, rfl, by simp, fun k hk _ => Below.heap_alloc w o k hk⟩
theorem Only.setCell (w : World) (b off : Nat) (u : Value) : Only w (w.setCell ⟨b, off, none⟩ u) (fun k => k = b) := ⟨rfl, rfl, rfl, by simp [World.setCell], fun k _ h => Below.heap_setCell w _ u k h⟩
theorem Only.mono {w w' : World} {S T : Nat → Prop} (h : Only w w' S) (hs : ∀ i, S i → T i) : Only w w' T := ⟨h.os, h.tape, h.output, h.size, fun i hi ht => h.block i hi (fun s => ht (hs i s))⟩
theorem Only.below {w w' : World} {S : Nat → Prop} {B : Nat} (h : Only w w' S) (hB : B ≤ w.heap.size) (hs : ∀ i, S i → B ≤ i) : Below B w w' :=
  ⟨h.os, h.tape, h.output, h.size, fun i hi => h.block i (by omega) (fun s => by have := hs i s; omega)⟩
theorem Only.ofBelow {w w' : World} {B : Nat} (h : Below B w w') (S : Nat → Prop) (hs : ∀ i, B ≤ i → i < w.heap.size → S i) : Only w w' S :=
  ⟨h.os, h.tape, h.output, h.size, fun i hi hn => h.block i (Nat.lt_of_not_le fun hb => hn (hs i hb hi))⟩
theorem Only.cell {w w' : World} {S : Nat → Prop} (h : Only w w' S) {p : Addr} (hp : p.block < w.heap.size) (hn : ¬ S p.block) : w'.cell? p = w.cell? p := World.cell?_of_block (w := w) (h.block p.block hp hn)
theorem info_parts {t : TypeId} {z : Value} {n b : Nat} (h : (Tryd.prog.info? t).map (fun i => (i.zero, i.size, i.bytes)) = some (some z, n, b)) : ∃ i, Tryd.prog.info? t = some i ∧ i.zero = some z ∧ i.size = n ∧ i.bytes = b := by
  cases hq : Tryd.prog.info? t with
  | none => rw [hq] at h; cases h
  | some i =>
    rw [hq] at h
    simp only [Option.map_some, Option.some.injEq, Prod.mk.injEq] at h
    exact ⟨i, rfl, h.1, h.2.1, h.2.2⟩
theorem cell_one_new (w : World) (v : Value) (t : TypeId) : ∀ j u, [v][j]? = some u → (w.alloc (.cells #[v] t)).cell? ((⟨w.heap.size, 0, none⟩ : Addr).add j) = some u := by
  intro j u h
  rw [Addr.add_lit, cell_of_row _ w.heap.size _ _ _ _ (heap_alloc_new w _), Nat.zero_add]
  simpa using h
theorem Below.later {w a b : World} (h : Below w.heap.size w a) (k : Below a.heap.size a b) : Below w.heap.size w b :=
  ⟨k.os.trans h.os, k.tape.trans h.tape, k.output.trans h.output, Nat.le_trans h.size k.size, fun i hi => (k.block i (Nat.lt_of_lt_of_le hi h.size)).trans (h.block i hi)⟩
/-- cur is wk as far as the blocks from lo on go that wk has. -/
structure Agree (wk cur : World) (lo : Nat) : Prop where
  size : wk.heap.size ≤ cur.heap.size
  block : ∀ k, lo ≤ k → k < wk.heap.size → cur.heap[k]? = wk.heap[k]?
theorem Agree.refl (w : World) (lo : Nat) : Agree w w lo := ⟨Nat.le_refl _, fun _ _ _ => rfl⟩
theorem Agree.only {wk cur cur' : World} {lo : Nat} {S : Nat → Prop} (h : Agree wk cur lo) (ho : Only cur cur' S) (hs : ∀ k, S k → k < lo ∨ wk.heap.size ≤ k) : Agree wk cur' lo :=
  ⟨Nat.le_trans h.size ho.size, fun k h1 h2 => (ho.block k (Nat.lt_of_lt_of_le h2 h.size) (fun s => by have := hs k s; omega)).trans (h.block k h1 h2)⟩
theorem Agree.below {wk cur cur' : World} {lo : Nat} (h : Agree wk cur lo) (hb : Below cur.heap.size cur cur') : Agree wk cur' lo :=
  ⟨Nat.le_trans h.size hb.size, fun k h1 h2 => (hb.block k (Nat.lt_of_lt_of_le h2 h.size)).trans (h.block k h1 h2)⟩
theorem own_agree {wk cur : World} {lo t s n : Nat} {v : Value} {xs : List Value} (h : wk.ownsRow lo t s v n xs) (ha : Agree wk cur lo) : cur.ownsRow lo t s v n xs := by
  refine ⟨h.1, ?_⟩
  rcases h.2 with h2 | ⟨g, cap, cur0, hv, hg, hr, r⟩
  · exact .inl h2
  · exact .inr ⟨g, cap, cur0, hv, hg, (ha.block g hg (Array.getElem?_eq_some_iff.1 hr).1).trans hr, r⟩
theorem owns_lower {w : World} {base base' : Nat} {e : TypeId} {size : Nat} {v : Value} {n : Nat} {xs : List Value} (h : w.ownsRow base e size v n xs) (hb : base' ≤ base) : w.ownsRow base' e size v n xs :=
  ⟨h.1, h.2.imp id (fun ⟨g, cap, cur, h1, h2, h3⟩ => ⟨g, cap, cur, h1, Nat.le_trans hb h2, h3⟩)⟩
theorem own_form {w : World} {base : Nat} {e : TypeId} {size : Nat} {v : Value} {n : Nat} {xs : List Value} (h : w.ownsRow base e size v n xs) (hn : 0 < n) : ∃ g cap, v = .slice (some ⟨g, 0, none⟩) n cap ∧ base ≤ g ∧ g < w.heap.size ∧ n ≤ cap := by
  have h0 := h
  rcases h.2 with ⟨_, h1⟩ | ⟨g, cap, cur, rfl, hb, hr, hc, _⟩
  · omega
  · exact ⟨g, cap, rfl, hb, (World.ownsRow.lt h0 g rfl).2, hc⟩
theorem own_blk {W W' : World} {lo t s n : Nat} {v : Value} {xs : List Value} (h : W.ownsRow lo t s v n xs) (hb : ∀ k, v.ownBlock = some k → W'.heap[k]? = W.heap[k]?) : W'.ownsRow lo t s v n xs := by
  refine ⟨h.1, ?_⟩
  rcases h.2 with h2 | ⟨g, cap, cur0, hv, hg, hr, r⟩
  · exact .inl h2
  · exact .inr ⟨g, cap, cur0, hv, hg, (hb g (by rw [hv]; rfl)).trans hr, r⟩
theorem below_drew' {B : Nat} {w a : World} (h : Below B w a) (n : Nat) : Below B w (a.drewN n) := ⟨h.os, h.tape, h.output, h.size, h.block⟩
/-- Numbers in memory. -/
structure IA (w : World) (a : Option Addr) (L : List Int) : Prop where
  at' : ∀ k (h : k < L.length), ∃ b off, a = some ⟨b, off, none⟩ ∧ b < w.heap.size ∧ w.cell? ⟨b, off + k, none⟩ = some (.int .i64 L[k])
theorem IA.past {w w' : World} {a : Option Addr} {L : List Int} (h : IA w a L) (hb : Below w.heap.size w w') : IA w' a L := ⟨fun k hk => by
  obtain ⟨b, off, rfl, h1, h2⟩ := h.at' k hk
  exact ⟨b, off, rfl, Nat.lt_of_lt_of_le h1 hb.size, (hb.cell (p := ⟨b, off + k, none⟩) h1).trans h2⟩⟩
def OwnI (w : World) (base : Nat) (v : Value) (ps : List Int) : Prop := w.ownsRow base 3 1 v ps.length (ps.map (Value.int .i64))
theorem infoInt : (Tryd.prog.info? 3).map (fun i => (i.zero, i.size, i.bytes)) = some (some (.int .i64 0), 1, 8) := by kernel_rfl
theorem OwnI.ia {w : World} {base : Nat} {v : Value} {L : List Int} (h : OwnI w base v L) : ∃ a cap, v = .slice a L.length cap ∧ IA w a L := by
  have h0 := h
  rcases h.2 with ⟨rfl, hn⟩ | ⟨g, cap, cur, rfl, hg, hr, hc, _⟩
  · exact ⟨none, 0, by rw [hn], ⟨fun k hk => by omega⟩⟩
  · refine ⟨_, cap, rfl, ⟨fun k hk => ⟨g, 0, rfl, (World.ownsRow.lt h0 g rfl).2, ?_⟩⟩⟩
    have := World.ownsRow.cellAt h0 k (by omega)
    rw [Nat.zero_add, this]
    simp [hk]
theorem IA.below {w w' : World} {a : Option Addr} {L : List Int} {B : Nat} (h : IA w a L) (hb : Below B w w') (ha : ∀ p, a = some p → p.block < B) : IA w' a L := ⟨fun k hk => by
  obtain ⟨b, off, rfl, h1, h2⟩ := h.at' k hk
  exact ⟨b, off, rfl, Nat.lt_of_lt_of_le h1 hb.size, (hb.cell (p := ⟨b, off + k, none⟩) (ha ⟨b, off, none⟩ rfl)).trans h2⟩⟩
theorem ownI_snoc {w wr w1 : World} {base : Nat} {v v' : Value} {L : List Int} {c : Int} {o : Obj} {n : Nat} (hn : n = L.length) (hown : OwnI wr base v L)
    (hown' : w1.ownsRow base 3 1 v' (n + 1) (L.map (Value.int .i64) ++ [.int .i64 c])) (hgrow : (wr.alloc o).grownBy w1 v.ownBlock) (hbel : Below base w wr) (hb : base ≤ w.heap.size) :
    OwnI w1 base v' (L ++ [c]) ∧ Below base w w1 := by
  subst hn
  have hsz := hbel.size
  refine ⟨?_, (hbel.alloc (by omega) o).grown hgrow (by simp; omega) (fun k hk => (World.ownsRow.lt hown k hk).1)⟩
  unfold OwnI
  rw [List.length_append, List.length_singleton, List.map_append]
  exact hown'
section
variable {P : Program} (w : World)
theorem run_append_own_front (base : Nat) (t ty e : TypeId) (i : TypeInfo) (z : Value) (size bytes : Nat) (ht : P.underlying t = some (.slice e)) (hi : P.info? e = some i) (hz : i.zero = some z)
    (hsize : i.size = size) (hby : i.bytes = bytes) (hzs : z.cells.size = size) (hsz : 0 < size)
    (v : Value) (n : Nat) (xs : List Value) (hown : w.ownsRow base e size v n xs)
    (a : Addr) (m c : Nat) (news : List Value) (hl : news.length = m * size) (hnews : ∀ j u, news[j]? = some u → w.cell? (a.add j) = some u) (h1 : ∀ u ∈ news, u.oneCell' = true)
    (h63 : n + m ≤ maxLen) (hbytes : (n + m) * bytes ≤ 140737488355328) (hbase : base ≤ w.heap.size) :
    ∃ v' w', (Builtin.append_ #[t, t] ty #[v, .slice (some a) m c]).run P w = .ok v' w' ∧ w'.ownsRow base e size v' (n + m) (xs ++ news) ∧ w.grownBy w' v.ownBlock ∧
      (v'.ownBlock = v.ownBlock ∨ v'.ownBlock = some w.heap.size) ∧ (∀ g j u, v.ownBlock = some g → j < n * size → w.cell? ⟨g, j, none⟩ = some u → w'.cell? ⟨g, j, none⟩ = some u) := by
  obtain ⟨v', w', hr, h2, h3, _, h5⟩ := run_append_own_at (P := P) w base t ty e i z size bytes ht hi hz hsize hby hzs hsz v n xs hown a m c news hl hnews h1 h63 hbytes hbase
  refine ⟨v', w', hr, h2, h3, h5, ?_⟩
  intro g j u hg hj hc
  have hjx : j < xs.length := by rw [hown.1]; exact hj
  have hxu : xs[j]? = some u := by
    have e1 := hown.cells hg j xs[j] (List.getElem?_eq_getElem hjx)
    rw [Addr.add_lit, Nat.zero_add, hc] at e1
    rw [List.getElem?_eq_getElem hjx, ← Option.some.inj e1]
  rcases h5 with h5 | h5
  · have e2 := h2.cells (h5.trans hg) j u (by rw [List.getElem?_append_left hjx]; exact hxu)
    rw [Addr.add_lit, Nat.zero_add] at e2
    exact e2
  · have hglt := (hown.lt g hg).2
    rcases hown.2 with ⟨rfl, _⟩ | ⟨g', cap, cur, rfl, hbg, hgg, hnc, hcm, hcs, htake⟩
    · simp [Value.ownBlock] at hg
    · have hge : g' = g := by simpa [Value.ownBlock] using hg
      subst hge
      by_cases hroom : n + m ≤ cap
      · obtain ⟨w2, hr2, _⟩ := run_append_own_spare (P := P) w base t ty e i size ht hi hsize g' n cap xs hown a m c news hl hnews h1 hroom
        rw [hr] at hr2
        cases hr2
        simp [Value.ownBlock] at h5
        omega
      · subst hsize hby
        have holds : ∀ j u, xs[j]? = some u → w.cell? ((⟨g', 0, none⟩ : Addr).add j) = some u := hown.cells (g := g') rfl
        have hr2 := run_append_grow (P := P) w t ty e i z ht hi hz ⟨g', 0, none⟩ n cap xs hown.1 holds a m c news hl hnews (by omega) (by simp only [maxLen] at h63; omega) (growslice_fits (by omega) hbytes)
        rw [hr] at hr2
        cases hr2
        exact (World.cell?_of_block (w := w) (a := ⟨g', j, none⟩) (heap_alloc_old w.drew _ (r := g') hglt)).trans hc
theorem wpList_append_own_front {ops : Array Oper} {rest : List Oper} {o : Oper} {a : Act} {Q : Exit → Act → World → Prop} (hgd : o.guard = none) (s x : Operand) (t : TypeId)
    (ho : o.op = .call { callee := .builtin .append, args := #[s, x], argTypes := #[t, t] })
    (base : Nat) (e : TypeId) (i : TypeInfo) (z : Value) (size bytes : Nat) (ht : P.underlying t = some (.slice e)) (hi : P.info? e = some i) (hz : i.zero = some z)
    (hsize : i.size = size) (hby : i.bytes = bytes) (hzs : z.cells.size = size) (hsz : 0 < size)
    (v : Value) (n : Nat) (xs : List Value) (hs : a.eval s = v) (hown : w.ownsRow base e size v n xs)
    (ad : Addr) (m c : Nat) (news : List Value) (hx : a.eval x = .slice (some ad) m c) (hl : news.length = m * size) (hnews : ∀ j u, news[j]? = some u → w.cell? (ad.add j) = some u) (h1 : ∀ u ∈ news, u.oneCell' = true)
    (h63 : n + m ≤ maxLen) (hbytes : (n + m) * bytes ≤ 140737488355328) (hbase : base ≤ w.heap.size)
    (h : ∀ v' w', w'.ownsRow base e size v' (n + m) (xs ++ news) → w.grownBy w' v.ownBlock → (v'.ownBlock = v.ownBlock ∨ v'.ownBlock = some w.heap.size) → (∀ g j u, v.ownBlock = some g → j < n * size → w.cell? ⟨g, j, none⟩ = some u → w'.cell? ⟨g, j, none⟩ = some u) → wpList P ops Q rest (a.put o.dst v') w') :
    wpList P ops Q (o :: rest) a w := by
  refine wpList_plain hgd fun K hK => ?_
  obtain ⟨v', w', hr, h2, h3, h4, h5⟩ := run_append_own_front (P := P) w base t o.type e i z size bytes ht hi hz hsize hby hzs hsz v n xs hown ad m c news hl hnews h1 h63 hbytes hbase
  unfold Oper.wp execOp
  simp only [ho, resolve, invoke, builtin, Sem.run_bind, Sem.run_pure, Result.andThen_ok, List.map_toArray, List.map_cons, List.map_nil, hs, hx, hr]
  exact hK _ _ (h v' w' h2 h3 h4 h5)
end


theorem cell_alloc {w : World} {p : Addr} {v : Value} (h : w.cell? p = some v) (o : Obj) : (w.alloc o).cell? p = some v := ((Only.alloc w o (fun _ => False)).cell (World.block_lt_of_cell? w p h) (fun h => h)).trans h
theorem Only.ofGrown {w w' : World} {row : Option Nat} (h : w.grownBy w' row) : Only w w' (fun k => row = some k) := ⟨h.os, h.tape, h.output, h.size, fun k hk hn => h.block k hk (fun e => hn e.symm)⟩
theorem infoInts : (Tryd.prog.info? 28).map (fun i => (i.zero, i.size, i.bytes)) = some (some (.slice none 0 0), 1, 24) := by kernel_rfl
/-- Lists of numbers in memory. -/
structure RwA (w : World) (a : Option Addr) (L : List (List Int)) : Prop where
  at' : ∀ k (h : k < L.length), ∃ b off, a = some ⟨b, off, none⟩ ∧ b < w.heap.size ∧ ∃ a1 c1, w.cell? ⟨b, off + k, none⟩ = some (.slice a1 (L[k]).length c1) ∧ IA w a1 L[k]
theorem RwA.past {w w' : World} {a : Option Addr} {L : List (List Int)} (h : RwA w a L) (hb : Below w.heap.size w w') : RwA w' a L := ⟨fun k hk => by
  obtain ⟨b, off, rfl, h1, a1, c1, h2, h3⟩ := h.at' k hk
  exact ⟨b, off, rfl, Nat.lt_of_lt_of_le h1 hb.size, a1, c1, (hb.cell (p := ⟨b, off + k, none⟩) h1).trans h2, h3.past hb⟩⟩
theorem IA.front {w : World} {a : Option Addr} {L M : List Int} (h : IA w a (L ++ M)) : IA w a L := ⟨fun k hk => by
  obtain ⟨b, off, e, h1, h2⟩ := h.at' k (by simp; omega)
  rw [List.getElem_append_left hk] at h2
  exact ⟨b, off, e, h1, h2⟩⟩
theorem below_refl' (w : World) : Below w.heap.size w w := Below.refl _ _
end Go.Proofs.YtekimkdaoblcgaaDoor
namespace Go.Proofs.YtekimkdaoblcgaaDoor
open Go.RowKit Go.Shelf Go.Lib Go.Maps
theorem lawI : Keyed Tryd.prog 3 := int_keyed Tryd.underlying3
/-- A number that an int may be. -/
def inI (c : Int) : Prop := (Lit.int .i64 c).wf = true
def keyI (c : Int) : Lit := .int .i64 c
theorem keyI_is (c : Int) : WideAt.IsKeyLit (keyI c) := trivial
theorem keyI_inj {c d : Int} (h : keyI c = keyI d) : c = d := by unfold keyI at h; injection h
/-- A pointer to a block's first cell, or nil. -/
def ptr (o : Option Nat) : Value := .pointer (o.map fun b => ⟨b, 0, none⟩)
theorem ptr_some (b : Nat) : ptr (some b) = .pointer (some ⟨b, 0, none⟩) := rfl
theorem ptr_none : ptr none = .pointer none := rfl
def ptrElem : Value → Option (DataW Unit × List MemPlace)
  | .pointer none => some (.nil, [])
  | .pointer (some a) => if a.off = 0 ∧ a.spot = none then some (.lit (.int .i64 (a.block : Int)), []) else none
  | _ => none
def optD : Option Nat → DataW Unit
  | none => .nil
  | some b => .lit (.int .i64 (b : Int))
theorem ptrElem_mk (o : Option Nat) : ptrElem (ptr o) = some (optD o, []) := by
  cases o <;> rfl
theorem ptrElem_inv {v : Value} {y : DataW Unit × List MemPlace} (h : ptrElem v = some y) : ∃ o, v = ptr o ∧ y = (optD o, []) := by
  unfold ptrElem at h
  split at h
  · injection h with h; exact ⟨none, rfl, h.symm⟩
  · rename_i a
    split at h
    · injection h with h
      obtain ⟨b, o, s⟩ := a
      rename_i hh
      simp only at hh
      obtain ⟨rfl, rfl⟩ := hh
      exact ⟨some b, rfl, h.symm⟩
    · cases h
  · cases h
theorem optD_inj {a b : Option Nat} (h : optD a = optD b) : a = b := by
  cases a <;> cases b <;> simp [optD] at h ⊢
  omega
/-- The block m is the map of a node's children. -/
def KidM (w : World) (m n : Nat) (f : Int → Option Nat) : Prop := ∃ D, w.ownsMap Tryd.prog 3 ptrElem m n D ∧ ∀ c, inI c → Maps.has D (keyI c) = (f c).isSome ∧ D.atKey (keyI c) .nil = optD (f c)
section
variable {w w' : World} {m n : Nat} {f : Int → Option Nat}
theorem KidM.lt (h : KidM w m n f) : m < w.heap.size := by
  obtain ⟨D, h1, _⟩ := h
  exact h1.lt
theorem KidM.keep (h : KidM w m n f) (hb : w'.heap[m]? = w.heap[m]?) : KidM w' m n f := by
  obtain ⟨D, ⟨es, clock, h1, h2⟩, hs⟩ := h
  exact ⟨D, ⟨es, clock, hb.trans h1, h2⟩, hs⟩
theorem KidM.mono (h : KidM w m n f) {n' : Nat} (hn : n ≤ n') : KidM w m n' f := by
  obtain ⟨D, h1, hs⟩ := h
  exact ⟨D, h1.mono hn, hs⟩
theorem KidM.same (h : KidM w m n f) {g : Int → Option Nat} (hg : ∀ c, inI c → f c = g c) : KidM w m n g := by
  obtain ⟨D, h1, hs⟩ := h
  exact ⟨D, h1, fun c hc => by rw [← hg c hc]; exact hs c hc⟩
theorem KidM.blk (h : KidM w m n f) : ∃ es clock, w.heap[m]? = some (.map es clock) := by
  obtain ⟨D, ⟨es, clock, h1, h2⟩, hs⟩ := h
  exact ⟨es, clock, h1⟩
theorem KidM.made (w : World) (n : Nat) : KidM (w.alloc (.map #[] 0)) w.heap.size n (fun _ => none) := ⟨.map [], (World.ownsMap_made w _ _ _).mono (Nat.zero_le _), fun _ _ => ⟨rfl, rfl⟩⟩
theorem KidM.look (h : KidM w m n f) {c : Int} (hc : inI c) : (Instr.lookup 82 (.map (some m)) (.int .i64 c) false).run Tryd.prog w = .ok (ptr (f c)) w := by
  obtain ⟨D, h1, hs⟩ := h
  obtain ⟨v, ps, hrun, hv⟩ := h1.lookup (t := 82) lawI Tryd.underlying82 (Tryd.zeroValue83 w) (ptrElem_mk none) (keyOf_int_mk Tryd.underlying3 hc)
  obtain ⟨o, rfl, ho⟩ := ptrElem_inv hv
  have e := congrArg Prod.fst ho
  have e2 := (hs c hc).2
  unfold keyI at e2
  simp only at e
  rw [hrun, ← optD_inj (e2.symm.trans e)]
theorem KidM.put (h : KidM w m n f) {c : Int} (hc : inI c) (hn : n ≤ 1000000000) (b : Nat) :
    ∃ w', (Instr.mapUpdate 82 (.map (some m)) (.int .i64 c) (.pointer (some ⟨b, 0, none⟩))).run Tryd.prog w = .ok () w' ∧ KidM w' m (n + 1) (fun d => if d = c then some b else f d) ∧ w.grownBy w' (some m) := by
  obtain ⟨D, h1, hs⟩ := h
  obtain ⟨w', hrun, h2, h3⟩ := h1.update (t := 82) lawI Tryd.underlying82 (by unfold maxLen; omega) (keyOf_int_mk Tryd.underlying3 hc) (ptrElem_mk (some b))
  refine ⟨w', hrun, ⟨_, h2, fun d hd => ?_⟩, h3⟩
  by_cases e : d = c
  · subst e
    simp only [if_true]
    exact ⟨has_put_same h1.isMap (keyI_is _) _, atKey_put_same h1.isMap (keyI_is _) _ _⟩
  · have hne : keyI d ≠ keyI c := fun q => e (keyI_inj q)
    simp only [if_neg e]
    exact ⟨(has_put_other hne _).trans (hs d hd).1, (atKey_put_other hne _ _).trans (hs d hd).2⟩
end
theorem look_none {c : Int} (hc : inI c) (w : World) : (Instr.lookup 82 (.map none) (.int .i64 c) false).run Tryd.prog w = .ok (.pointer none) w :=
  Maps.look_nil false lawI Tryd.underlying82 (Tryd.zeroValue83 w) (keyOf_int_mk Tryd.underlying3 hc)
/-- A node: its six cells, and what may lie behind them in its block. -/
def NodeC (w : World) (b : Nat) (m : Option Nat) (len : Nat) (wh : Bool) (en : Int) (s i : Option Nat) : Prop := ∃ tl t, w.heap[b]? = some (.cells ⟨.map m :: .int .i64 (len : Int) :: .bool wh :: .int .i64 en :: ptr s :: ptr i :: tl⟩ t (0, 0))
section
variable {w w' : World} {b len : Nat} {m s i : Option Nat} {wh : Bool} {en : Int}
theorem NodeC.keep (h : NodeC w b m len wh en s i) (hb : w'.heap[b]? = w.heap[b]?) : NodeC w' b m len wh en s i := by
  obtain ⟨tl, t, h⟩ := h
  exact ⟨tl, t, hb.trans h⟩
theorem NodeC.lt (h : NodeC w b m len wh en s i) : b < w.heap.size := by
  obtain ⟨tl, t, h⟩ := h
  exact (Array.getElem?_eq_some_iff.1 h).1
theorem NodeC.cells (h : NodeC w b m len wh en s i) : w.cell? ⟨b, 0, none⟩ = some (.map m) ∧ w.cell? ⟨b, 1, none⟩ = some (.int .i64 (len : Int)) ∧ w.cell? ⟨b, 2, none⟩ = some (.bool wh) ∧ w.cell? ⟨b, 3, none⟩ = some (.int .i64 en) ∧ w.cell? ⟨b, 4, none⟩ = some (ptr s) ∧ w.cell? ⟨b, 5, none⟩ = some (ptr i) := by
  obtain ⟨tl, t, h⟩ := h
  refine ⟨?_, ?_, ?_, ?_, ?_, ?_⟩ <;> (rw [cell_of_row _ _ _ _ _ _ h]; simp)
theorem NodeC.frz (h : NodeC w b m len wh en s i) (k : Nat) : w.frozen? ⟨b, k, none⟩ = false := by
  obtain ⟨tl, t, h⟩ := h
  simp [World.frozen?, h]
theorem NodeC.set0 (h : NodeC w b m len wh en s i) (m' : Option Nat) : NodeC (w.setCell ⟨b, 0, none⟩ (.map m')) b m' len wh en s i := by
  obtain ⟨tl, t, h⟩ := h
  exact ⟨tl, t, (heap_setCell_same _ _ 0 _ _ _ h).trans (by simp)⟩
theorem NodeC.set2 (h : NodeC w b m len wh en s i) (wh' : Bool) : NodeC (w.setCell ⟨b, 2, none⟩ (.bool wh')) b m len wh' en s i := by
  obtain ⟨tl, t, h⟩ := h
  exact ⟨tl, t, (heap_setCell_same _ _ 2 _ _ _ h).trans (by simp)⟩
theorem NodeC.set3 (h : NodeC w b m len wh en s i) (en' : Int) : NodeC (w.setCell ⟨b, 3, none⟩ (.int .i64 en')) b m len wh en' s i := by
  obtain ⟨tl, t, h⟩ := h
  exact ⟨tl, t, (heap_setCell_same _ _ 3 _ _ _ h).trans (by simp)⟩
theorem NodeC.set4 (h : NodeC w b m len wh en s i) (s' : Option Nat) : NodeC (w.setCell ⟨b, 4, none⟩ (ptr s')) b m len wh en s' i := by
  obtain ⟨tl, t, h⟩ := h
  exact ⟨tl, t, (heap_setCell_same _ _ 4 _ _ _ h).trans (by simp)⟩
theorem NodeC.set5 (h : NodeC w b m len wh en s i) (i' : Option Nat) : NodeC (w.setCell ⟨b, 5, none⟩ (ptr i')) b m len wh en s i' := by
  obtain ⟨tl, t, h⟩ := h
  exact ⟨tl, t, (heap_setCell_same _ _ 5 _ _ _ h).trans (by simp)⟩
theorem NodeC.set6 (h : NodeC w b m len wh en s i) (v : Value) : NodeC (w.setCell ⟨b, 6, none⟩ v) b m len wh en s i := by
  obtain ⟨tl, t, h⟩ := h
  refine ⟨(tl.toArray.setIfInBounds 0 v).toList, t, (heap_setCell_same _ _ 6 _ _ _ h).trans (by simp)⟩
end
def kidF (S : List Int → Bool) (bk : List Int → Nat) (p : List Int) (c : Int) : Option Nat := if S (p ++ [c]) = true then some (bk (p ++ [c])) else none
def upd {α : Type} (f : List Int → α) (p : List Int) (v : α) : List Int → α := fun q => if q = p then v else f q
theorem upd_same {α : Type} (f : List Int → α) (p : List Int) (v : α) : upd f p v p = v := by simp [upd]
theorem upd_other {α : Type} (f : List Int → α) {p q : List Int} (v : α) (h : q ≠ p) : upd f p v q = f q := by simp [upd, h]
/-- A trie: S says which beginnings it has, bk in which block each lies, mp in which block its children's map; lo to hi: where all of them lie. -/
structure Tr (w : World) (lo hi T N : Nat) (S : List Int → Bool) (bk : List Int → Nat) (mp : List Int → Option Nat) (wh : List Int → Bool) (en : List Int → Int) (sh inn : List Int → Option Nat) : Prop where
  rt : S [] = true
  rb : bk [] = T
  cl : ∀ p c, S (p ++ [c]) = true → S p = true
  nd : ∀ p, S p = true → NodeC w (bk p) (mp p) p.length (wh p) (en p) (sh p) (inn p)
  lh : ∀ p, S p = true → lo ≤ bk p ∧ bk p < hi
  inj : ∀ p q, S p = true → S q = true → bk p = bk q → p = q
  mm : ∀ p m, S p = true → mp p = some m → KidM w m N (kidF S bk p)
  ml : ∀ p m, S p = true → mp p = some m → lo ≤ m ∧ m < hi
  mi : ∀ p q m, S p = true → S q = true → mp p = some m → mp q = some m → p = q
  mn : ∀ p, S p = true → mp p = none → ∀ c, S (p ++ [c]) = false
  be : w.cell? ⟨T, 6, none⟩ = some (.int .i64 (N : Int))
  hs : hi ≤ w.heap.size
section
variable {w w' : World} {lo hi T N : Nat} {S : List Int → Bool} {bk : List Int → Nat} {mp : List Int → Option Nat} {wh : List Int → Bool} {en : List Int → Int} {sh inn : List Int → Option Nat}
theorem Tr.tlh (h : Tr w lo hi T N S bk mp wh en sh inn) : lo ≤ T ∧ T < hi := by
  have := h.lh [] h.rt
  rw [h.rb] at this
  exact this
theorem Tr.keep (h : Tr w lo hi T N S bk mp wh en sh inn) (hsz : w.heap.size ≤ w'.heap.size) (hb : ∀ k, lo ≤ k → k < hi → w'.heap[k]? = w.heap[k]?) : Tr w' lo hi T N S bk mp wh en sh inn where
  rt := h.rt
  rb := h.rb
  cl := h.cl
  nd := fun p hp => (h.nd p hp).keep (hb _ (h.lh p hp).1 (h.lh p hp).2)
  lh := h.lh
  inj := h.inj
  mm := fun p m hp hm => (h.mm p m hp hm).keep (hb _ (h.ml p m hp hm).1 (h.ml p m hp hm).2)
  ml := h.ml
  mi := h.mi
  mn := h.mn
  be := (World.cell?_of_block (w := w) (hb T h.tlh.1 h.tlh.2)).trans h.be
  hs := Nat.le_trans h.hs hsz
theorem Tr.past (h : Tr w lo hi T N S bk mp wh en sh inn) (hb : Below w.heap.size w w') : Tr w' lo hi T N S bk mp wh en sh inn := h.keep hb.size (fun k _ hk => hb.block k (Nat.lt_of_lt_of_le hk h.hs))
theorem Tr.wide (h : Tr w lo hi T N S bk mp wh en sh inn) {hi' : Nat} (h1 : hi ≤ hi') (h2 : hi' ≤ w.heap.size) : Tr w lo hi' T N S bk mp wh en sh inn := { h with lh := fun p hp => ⟨(h.lh p hp).1, Nat.lt_of_lt_of_le (h.lh p hp).2 h1⟩, ml := fun p m hp hm => ⟨(h.ml p m hp hm).1, Nat.lt_of_lt_of_le (h.ml p m hp hm).2 h1⟩, hs := h2 }
theorem Tr.look (h : Tr w lo hi T N S bk mp wh en sh inn) {p : List Int} (hp : S p = true) {c : Int} (hc : inI c) : (Instr.lookup 82 (.map (mp p)) (.int .i64 c) false).run Tryd.prog w = .ok (ptr (kidF S bk p c)) w := by
  cases hm : mp p with
  | none =>
    have := h.mn p hp hm c
    rw [look_none hc]
    simp [kidF, this, ptr]
  | some m => exact (h.mm p m hp hm).look hc
/-- A map's block is no node's. -/
theorem Tr.mne (h : Tr w lo hi T N S bk mp wh en sh inn) {p q : List Int} {m : Nat} (hp : S p = true) (hm : mp p = some m) (hq : S q = true) : m ≠ bk q := fun e => by
  obtain ⟨es, cl, h1⟩ := (h.mm p m hp hm).blk
  obtain ⟨tl, t, h2⟩ := h.nd q hq
  rw [e, h2] at h1
  cases h1
/-- A node's cells are written. -/
theorem Tr.node (h : Tr w lo hi T N S bk mp wh en sh inn) {p : List Int} (hp : S p = true) {wh' : Bool} {en' : Int} {sh' inn' : Option Nat} (hsz : w.heap.size ≤ w'.heap.size) (hw : ∀ k, k ≠ bk p → w'.heap[k]? = w.heap[k]?) (hn : NodeC w' (bk p) (mp p) p.length wh' en' sh' inn') (hb : w'.cell? ⟨T, 6, none⟩ = w.cell? ⟨T, 6, none⟩) :
    Tr w' lo hi T N S bk mp (upd wh p wh') (upd en p en') (upd sh p sh') (upd inn p inn') where
  rt := h.rt
  rb := h.rb
  cl := h.cl
  nd := fun q hq => by
    by_cases e : q = p
    · subst e
      simp only [upd_same]
      exact hn
    · simp only [upd_other _ _ e]
      exact (h.nd q hq).keep (hw _ (fun e2 => e (h.inj q p hq hp e2)))
  lh := h.lh
  inj := h.inj
  mm := fun q m hq hm => (h.mm q m hq hm).keep (hw _ (h.mne hq hm hp))
  ml := h.ml
  mi := h.mi
  mn := h.mn
  be := hb.trans h.be
  hs := Nat.le_trans h.hs hsz
end
end Go.Proofs.YtekimkdaoblcgaaDoor
namespace Go.Proofs.YtekimkdaoblcgaaDoor
open Go.RowKit Go.Shelf Go.Lib Go.Maps
theorem snoc_inj {p q : List Int} {c d : Int} (h : p ++ [c] = q ++ [d]) : p = q ∧ c = d := by
  have h1 := List.append_inj' h rfl
  exact ⟨h1.1, by simpa using h1.2⟩
theorem snoc_ne (p : List Int) (c : Int) : p ++ [c] ≠ p := fun h => by have := congrArg List.length h; simp at this
section
variable {w : World} {lo hi T N : Nat} {S : List Int → Bool} {bk : List Int → Nat} {mp : List Int → Option Nat} {wh : List Int → Bool} {en : List Int → Int} {sh inn : List Int → Option Nat}
theorem Tr.mkmap (h : Tr w lo hi T N S bk mp wh en sh inn) {p : List Int} (hp : S p = true) (hm : mp p = none) : Tr ((w.alloc (.map #[] 0)).setCell ⟨bk p, 0, none⟩ (.map (some w.heap.size))) lo (w.heap.size + 1) T N S bk (upd mp p (some w.heap.size)) wh en sh inn := by
  have hbl : ∀ q, S q = true → bk q < w.heap.size := fun q hq => Nat.lt_of_lt_of_le (h.lh q hq).2 h.hs
  have hml : ∀ q m, S q = true → mp q = some m → m < w.heap.size := fun q m hq hm => Nat.lt_of_lt_of_le (h.ml q m hq hm).2 h.hs
  have hA : ∀ k, k < w.heap.size → (w.alloc (.map #[] 0)).heap[k]? = w.heap[k]? := fun k hk => Below.heap_alloc w _ k hk
  have hB : ∀ k, k ≠ bk p → ((w.alloc (.map #[] 0)).setCell ⟨bk p, 0, none⟩ (.map (some w.heap.size))).heap[k]? = (w.alloc (.map #[] 0)).heap[k]? := fun k hk => Below.heap_setCell _ _ _ k hk
  have hN : NodeC ((w.alloc (.map #[] 0)).setCell ⟨bk p, 0, none⟩ (.map (some w.heap.size))) (bk p) (some w.heap.size) p.length (wh p) (en p) (sh p) (inn p) := ((h.nd p hp).keep (hA _ (hbl p hp))).set0 _
  exact {
    rt := h.rt
    rb := h.rb
    cl := h.cl
    nd := fun q hq => by
      by_cases e : q = p
      · subst e
        rw [upd_same]
        exact hN
      · rw [upd_other _ _ e]
        exact ((h.nd q hq).keep (hA _ (hbl q hq))).keep (hB _ (fun e2 => e (h.inj q p hq hp e2)))
    lh := fun q hq => ⟨(h.lh q hq).1, Nat.lt_succ_of_lt (hbl q hq)⟩
    inj := h.inj
    mm := fun q m hq hm' => by
      by_cases e : q = p
      · subst e
        rw [upd_same] at hm'
        injection hm' with hm'
        subst hm'
        refine ((KidM.made w N).keep (hB _ (fun e => by have := hbl q hq; omega))).same (fun c _ => ?_)
        simp [kidF, h.mn q hq hm c]
      · rw [upd_other _ _ e] at hm'
        exact ((h.mm q m hq hm').keep (hA _ (hml q m hq hm'))).keep (hB _ (h.mne hq hm' hp))
    ml := fun q m hq hm' => by
      have hlo : lo ≤ w.heap.size := Nat.le_trans (Nat.le_of_lt (Nat.lt_of_le_of_lt h.tlh.1 h.tlh.2)) h.hs
      by_cases e : q = p
      · subst e
        rw [upd_same] at hm'
        injection hm' with hm'
        subst hm'
        exact ⟨hlo, Nat.lt_succ_self _⟩
      · rw [upd_other _ _ e] at hm'
        exact ⟨(h.ml q m hq hm').1, Nat.lt_succ_of_lt (hml q m hq hm')⟩
    mi := fun q r m hq hr h1 h2 => by
      by_cases e : q = p
      · by_cases e2 : r = p
        · rw [e, e2]
        · subst e
          rw [upd_same] at h1
          rw [upd_other _ _ e2] at h2
          injection h1 with h1
          have := hml r m hr h2
          omega
      · rw [upd_other _ _ e] at h1
        by_cases e2 : r = p
        · subst e2
          rw [upd_same] at h2
          injection h2 with h2
          have := hml q m hq h1
          omega
        · rw [upd_other _ _ e2] at h2
          exact h.mi q r m hq hr h1 h2
    mn := fun q hq h1 => by
      by_cases e : q = p
      · subst e
        rw [upd_same] at h1
        cases h1
      · rw [upd_other _ _ e] at h1
        exact h.mn q hq h1
    be := by
      have h0 : (w.alloc (.map #[] 0)).cell? ⟨T, 6, none⟩ = some (.int .i64 (N : Int)) := (World.cell?_of_block (w := w) (hA T (Nat.lt_of_lt_of_le h.tlh.2 h.hs))).trans h.be
      rw [World.cell?_setCell_other _ _ _ _ (fun e => by injection e with _ e; cases e)]
      exact h0
    hs := by rw [show ((w.alloc (.map #[] 0)).setCell ⟨bk p, 0, none⟩ (.map (some w.heap.size))).heap.size = w.heap.size + 1 by simp [World.setCell]]; exact Nat.le_refl _ }
/-- Which beginnings there are with one more. -/
def plus (S : List Int → Bool) (q : List Int) : List Int → Bool := fun r => S r || decide (r = q)
theorem plus_iff {q r : List Int} : plus S q r = true ↔ S r = true ∨ r = q := by simp [plus]
theorem plus_same {q : List Int} (h : S q = true) : plus S q = S := by
  funext r
  unfold plus
  by_cases e : r = q
  · subst e; simp [h]
  · simp [e]
theorem Tr.child (h : Tr w lo hi T N S bk mp wh en sh inn) {p : List Int} {c : Int} {m : Nat} (hp : S p = true) (hq : S (p ++ [c]) = false) (hm : mp p = some m) (hwh : wh (p ++ [c]) = false) (hen : en (p ++ [c]) = 0) (hsh : sh (p ++ [c]) = none) (hinn : inn (p ++ [c]) = none) {w3 : World} {t : TypeId}
    (hg : (w.alloc (.cells #[.map none, .int .i64 ((p.length : Int) + 1), .bool false, .int .i64 0, .pointer none, .pointer none] t)).grownBy w3 (some m)) (hk : KidM w3 m (N + 1) (fun d => if d = c then some w.heap.size else kidF S bk p d)) :
    Tr (w3.setCell ⟨T, 6, none⟩ (.int .i64 ((N : Int) + 1))) lo w3.heap.size T (N + 1) (plus S (p ++ [c])) (upd bk (p ++ [c]) w.heap.size) (upd mp (p ++ [c]) none) wh en sh inn := by
  have hbl : ∀ q, S q = true → bk q < w.heap.size := fun q hq => Nat.lt_of_lt_of_le (h.lh q hq).2 h.hs
  have hml : ∀ q m, S q = true → mp q = some m → m < w.heap.size := fun q m hq hm => Nat.lt_of_lt_of_le (h.ml q m hq hm).2 h.hs
  have hsz : w.heap.size + 1 ≤ w3.heap.size := by have := hg.size; simpa using this
  have hlo : lo ≤ w.heap.size := Nat.le_trans (Nat.le_of_lt (Nat.lt_of_le_of_lt h.tlh.1 h.tlh.2)) h.hs
  have hA : ∀ k, k < w.heap.size → k ≠ m → w3.heap[k]? = w.heap[k]? := fun k h1 h2 => (hg.block k (by simp; omega) (fun e => h2 (by injection e))).trans (Below.heap_alloc w _ k h1)
  have hmT : m ≠ T := by have := h.mne hp hm h.rt; rw [h.rb] at this; exact this
  have hB : ∀ k, k ≠ T → (w3.setCell ⟨T, 6, none⟩ (.int .i64 ((N : Int) + 1))).heap[k]? = w3.heap[k]? := fun k hk => Below.heap_setCell _ _ _ k hk
  have hTl : T < w.heap.size := by have := hbl [] h.rt; rw [h.rb] at this; exact this
  have hnew : w3.heap[w.heap.size]? = some (.cells #[.map none, .int .i64 ((p.length : Int) + 1), .bool false, .int .i64 0, .pointer none, .pointer none] t (0, 0)) := (hg.block w.heap.size (by simp) (fun e => by injection e with e; have := hml p m hp hm; omega)).trans (heap_alloc_new _ _)
  have hne : ∀ r, S r = true → r ≠ p ++ [c] := fun r hr e => by rw [e, hq] at hr; cases hr
  exact {
    rt := plus_iff.2 (.inl h.rt)
    rb := by rw [upd_other _ _ (hne [] h.rt)]; exact h.rb
    cl := fun r d hr => by
      rcases plus_iff.1 hr with hr | hr
      · exact plus_iff.2 (.inl (h.cl r d hr))
      · rw [(snoc_inj hr).1]; exact plus_iff.2 (.inl hp)
    nd := fun r hr => by
      rcases plus_iff.1 hr with hr | rfl
      · rw [upd_other _ _ (hne r hr), upd_other _ _ (hne r hr)]
        have h1 := (h.nd r hr).keep (hA _ (hbl r hr) (fun e => h.mne hp hm hr e.symm))
        by_cases e : bk r = T
        · rw [e] at h1 ⊢
          exact h1.set6 _
        · exact h1.keep (hB _ e)
      · rw [upd_same, upd_same, hwh, hen, hsh, hinn]
        refine NodeC.keep (w := w3) ⟨[], t, ?_⟩ (hB _ (by omega))
        rw [hnew]
        simp [ptr]
    lh := fun r hr => by
      rcases plus_iff.1 hr with hr | rfl
      · rw [upd_other _ _ (hne r hr)]
        exact ⟨(h.lh r hr).1, by have := hbl r hr; omega⟩
      · rw [upd_same]; exact ⟨hlo, by omega⟩
    inj := fun r s hr hs e => by
      rcases plus_iff.1 hr with hr | rfl
      · rw [upd_other _ _ (hne r hr)] at e
        rcases plus_iff.1 hs with hs | rfl
        · rw [upd_other _ _ (hne s hs)] at e
          exact h.inj r s hr hs e
        · rw [upd_same] at e
          have := hbl r hr
          omega
      · rw [upd_same] at e
        rcases plus_iff.1 hs with hs | rfl
        · rw [upd_other _ _ (hne s hs)] at e
          have := hbl s hs
          omega
        · rfl
    mm := fun r m' hr hm' => by
      rcases plus_iff.1 hr with hr | rfl
      · rw [upd_other _ _ (hne r hr)] at hm'
        by_cases e : r = p
        · subst e
          rw [hm] at hm'
          injection hm' with hm'
          subst hm'
          refine (hk.keep (hB _ hmT)).same (fun d _ => ?_)
          unfold kidF
          by_cases e : d = c
          · subst e
            simp [plus, upd]
          · have hn : r ++ [d] ≠ r ++ [c] := fun q => e (snoc_inj q).2
            simp [plus, upd, e]
        · have hne' : m' ≠ m := fun q => e (h.mi r p m hr hp (by rw [← q]; exact hm') hm)
          have hT' : m' ≠ T := by have := h.mne hr hm' h.rt; rw [h.rb] at this; exact this
          refine ((((h.mm r m' hr hm').keep (hA _ (hml r m' hr hm') hne')).keep (hB _ hT')).mono (Nat.le_succ _)).same (fun d _ => ?_)
          have hn : r ++ [d] ≠ p ++ [c] := fun q => e (snoc_inj q).1
          simp [kidF, plus, upd, hn]
      · rw [upd_same] at hm'
        cases hm'
    ml := fun r m' hr hm' => by
      rcases plus_iff.1 hr with hr | rfl
      · rw [upd_other _ _ (hne r hr)] at hm'
        exact ⟨(h.ml r m' hr hm').1, by have := hml r m' hr hm'; omega⟩
      · rw [upd_same] at hm'
        cases hm'
    mi := fun r s m' hr hs h1 h2 => by
      rcases plus_iff.1 hr with hr | rfl
      · rw [upd_other _ _ (hne r hr)] at h1
        rcases plus_iff.1 hs with hs | rfl
        · rw [upd_other _ _ (hne s hs)] at h2
          exact h.mi r s m' hr hs h1 h2
        · rw [upd_same] at h2
          cases h2
      · rw [upd_same] at h1
        cases h1
    mn := fun r hr h1 d => by
      rcases plus_iff.1 hr with hr | rfl
      · rw [upd_other _ _ (hne r hr)] at h1
        have h2 := h.mn r hr h1 d
        have hn : r ++ [d] ≠ p ++ [c] := fun q => by rw [(snoc_inj q).1, hm] at h1; cases h1
        simp [plus, h2, hn]
      · have h2 : S (p ++ [c] ++ [d]) = false := by
          cases h3 : S (p ++ [c] ++ [d]) with
          | false => rfl
          | true => rw [h.cl _ _ h3] at hq; cases hq
        have hn := snoc_ne (p ++ [c]) d
        unfold plus
        rw [h2, decide_eq_false hn]
        rfl
    be := by
      have h0 : w3.cell? ⟨T, 6, none⟩ = some (.int .i64 (N : Int)) := (World.cell?_of_block (w := w) (hA T hTl (fun e => hmT e.symm))).trans h.be
      exact World.cell?_setCell_same _ _ _ h0
    hs := by rw [show (w3.setCell ⟨T, 6, none⟩ (.int .i64 ((N : Int) + 1))).heap.size = w3.heap.size by simp [World.setCell]]; exact Nat.le_refl _ }
end
end Go.Proofs.YtekimkdaoblcgaaDoor
namespace Go.Proofs.YtekimkdaoblcgaaDoor
open Go.RowKit Go.Shelf Go.Lib Go.Maps
theorem setCell_block_ne {w : World} {b k : Nat} {v : Value} {x : Nat} (h : x ≠ b) : (w.setCell ⟨b, k, none⟩ v).heap[x]? = w.heap[x]? := Below.heap_setCell _ _ _ x h
/-- What childOf answers. -/
def KidR (w : World) (lo T N : Nat) (S : List Int → Bool) (wh : List Int → Bool) (en : List Int → Int) (sh inn : List Int → Option Nat) (q : List Int) (e : Ending) (w' : World) : Prop :=
  ∃ (bk' : List Int → Nat) (mp' : List Int → Option Nat), e = .returned (.pointer (some ⟨bk' q, 0, none⟩)) ∧ Tr w' lo w'.heap.size T (N + if S q = true then 0 else 1) (plus S q) bk' mp' wh en sh inn ∧ Below lo w w'
set_option maxRecDepth 100000 in
theorem mapEq_some (m : Nat) (w : World) : (binOp .eql 82 (.map (some m)) (.map none)).run Tryd.prog w = .ok (.bool false) w := by
  first
    | rfl
    | kernel_rfl
set_option maxRecDepth 100000 in
theorem mapEq_none (w : World) : (binOp .eql 82 (.map none) (.map none)).run Tryd.prog w = .ok (.bool true) w := by
  first
    | rfl
    | kernel_rfl
section
variable {w : World} {lo hi T N : Nat} {S : List Int → Bool} {bk : List Int → Nat} {mp : List Int → Option Nat} {wh : List Int → Bool} {en : List Int → Int} {sh inn : List Int → Option Nat}
set_option maxRecDepth 100000 in
/-- The end of childOf: a child is laid into the map. -/
theorem Tr.kid (h : Tr w lo hi T N S bk mp wh en sh inn) {p : List Int} {c : Int} {m : Nat} (hp : S p = true) (hc : inI c) (hN : N ≤ 1000000) (hm : mp p = some m) (hq : S (p ++ [c]) = false) (t : TypeId) (hz : wh (p ++ [c]) = false ∧ en (p ++ [c]) = 0 ∧ sh (p ++ [c]) = none ∧ inn (p ++ [c]) = none) :
    ∃ w3, (Instr.mapUpdate 82 (.map (some m)) (.int .i64 c) (.pointer (some ⟨w.heap.size, 0, none⟩))).run Tryd.prog (w.alloc (.cells #[.map none, .int .i64 ((p.length : Int) + 1), .bool false, .int .i64 0, .pointer none, .pointer none] t)) = .ok () w3 ∧ w3.cell? ⟨T, 6, none⟩ = some (.int .i64 (N : Int)) ∧ w3.frozen? ⟨T, 6, none⟩ = false ∧
      Tr (w3.setCell ⟨T, 6, none⟩ (.int .i64 ((N : Int) + 1))) lo w3.heap.size T (N + 1) (plus S (p ++ [c])) (upd bk (p ++ [c]) w.heap.size) (upd mp (p ++ [c]) none) wh en sh inn ∧ Below lo w (w3.setCell ⟨T, 6, none⟩ (.int .i64 ((N : Int) + 1))) ∧ (w3.setCell ⟨T, 6, none⟩ (.int .i64 ((N : Int) + 1))).heap.size = w3.heap.size := by
  have hml := h.ml p m hp hm
  have hhs := h.hs
  have htl := h.tlh
  have hk := (h.mm p m hp hm).keep (w' := w.alloc (.cells #[.map none, .int .i64 ((p.length : Int) + 1), .bool false, .int .i64 0, .pointer none, .pointer none] t)) (Below.heap_alloc w _ m (by omega))
  obtain ⟨w3, hrun, hk3, hg3⟩ := hk.put hc (by omega) w.heap.size
  have hmT : m ≠ T := by have := h.mne hp hm h.rt; rw [h.rb] at this; exact this
  have hTb : w3.heap[T]? = w.heap[T]? := (hg3.block T (by simp; omega) (fun e => hmT (by injection e with e; exact e.symm))).trans (Below.heap_alloc w _ T (by omega))
  refine ⟨w3, hrun, (World.cell?_of_block (w := w) hTb).trans h.be, ?_, h.child hp hq hm hz.1 hz.2.1 hz.2.2.1 hz.2.2.2 hg3 hk3, ?_, by simp [World.setCell]⟩
  · have hn := (h.nd [] h.rt).keep (w' := w3) (by rw [h.rb]; exact hTb)
    rw [h.rb] at hn
    exact hn.frz 6
  · have hb : Below lo w w3 := by
      refine ⟨hg3.os, hg3.tape, hg3.output, ?_, fun k hk => ?_⟩
      · have := hg3.size; simp at this; omega
      · exact (hg3.block k (by simp; omega) (fun e => by injection e with e; omega)).trans (Below.heap_alloc w _ k (by omega))
    exact Below.setCell (p := ⟨T, 6, none⟩) hb htl.1 _
theorem Tr.c0a (h : Tr w lo hi T N S bk mp wh en sh inn) {p : List Int} (hp : S p = true) (o : Obj) : (w.alloc o).cell? ⟨bk p, 0, none⟩ = some (.map (mp p)) := ((h.nd p hp).keep (w' := w.alloc o) (Below.heap_alloc w _ _ (Nat.lt_of_lt_of_le (h.lh p hp).2 h.hs))).cells.1
set_option maxRecDepth 10000 in
set_option maxHeartbeats 800000 in
theorem childOf_any (p : List Int) (c : Int) (h : Tr w lo hi T N S bk mp wh en sh inn) (hp : S p = true) (hc : inI c) (hN : N ≤ 1000000) (hl : p.length ≤ 1000000) (hz : S (p ++ [c]) = false → wh (p ++ [c]) = false ∧ en (p ++ [c]) = 0 ∧ sh (p ++ [c]) = none ∧ inn (p ++ [c]) = none) :
    Calls Tryd.prog 62 #[.pointer (some ⟨T, 0, none⟩), .pointer (some ⟨bk p, 0, none⟩), .int .i64 c] w fun e w' => KidR w lo T N S wh en sh inn (p ++ [c]) e w' := by
  have hlook := h.look hp hc
  obtain ⟨c0, c1, -, -, -, -⟩ := (h.nd p hp).cells
  have f0 := (h.nd p hp).frz 0
  have HH := hid0 h
  have HP := hid0 hp
  have HC := hid0 hc
  have HZ := hid0 hz
  cases hq : S (p ++ [c]) with
  | true =>
    have hk : ptr (kidF S bk p c) = .pointer (some ⟨bk (p ++ [c]), 0, none⟩) := by simp [kidF, hq, ptr]
    rw [hk] at hlook
    have HR : Hid (KidR w lo T N S wh en sh inn (p ++ [c]) (.returned (.pointer (some ⟨bk (p ++ [c]), 0, none⟩))) w) := hid0 ⟨bk, mp, rfl, by rw [if_pos hq, Nat.add_zero, plus_same hq]; exact h.wide h.hs (Nat.le_refl _), Below.refl _ _⟩
    clear h hp hz hk hq hc HH HP HZ HC
    generalize mp p = o at *
    generalize bk p = b at *
    generalize bk (p ++ [c]) = b2 at *
    go_enter Tryd.func62, Tryd.ntmps62
    go_wp2
    go_ret
    exact HR.out
  | false =>
    have hk : ptr (kidF S bk p c) = .pointer none := by simp [kidF, hq, ptr]
    rw [hk] at hlook
    have HQ := hid0 hq
    cases hm : mp p with
    | some m =>
      obtain ⟨w3, hrun, hbe, hfr, htr, hbl, hsz⟩ := h.kid hp hc hN hm hq 85 (hz hq)
      have HR : Hid (KidR w lo T N S wh en sh inn (p ++ [c]) (.returned (.pointer (some ⟨w.heap.size, 0, none⟩))) (w3.setCell ⟨T, 6, none⟩ (.int .i64 ((N : Int) + 1)))) := hid0 ⟨upd bk (p ++ [c]) w.heap.size, _, by rw [upd_same], by rw [if_neg (by rw [hq]; exact Bool.false_ne_true), hsz]; exact htr, hbl⟩
      have a0 := h.c0a hp (.cells #[.map none, .int .i64 ((p.length : Int) + 1), .bool false, .int .i64 0, .pointer none, .pointer none] 85)
      rw [hm] at c0 hlook a0
      have q1 := mapEq_some
      clear h hp hz hk hq hc HH HP HZ HC htr hbl hsz HQ
      generalize bk p = b at *
      go_enter Tryd.func62, Tryd.ntmps62
      go_wp2
      go_ret
      exact HR.out
    | none =>
      have h1 := h.mkmap hp hm
      have hmm : ∀ w : World, (Instr.makeMap 82 none).run Tryd.prog w = .ok (.map (some w.heap.size)) (w.alloc (.map #[] 0)) := fun _ => rfl
      have f0' : (w.alloc (.map #[] 0)).frozen? ⟨bk p, 0, none⟩ = false := ((h.nd p hp).keep (w' := w.alloc (.map #[] 0)) (Below.heap_alloc w _ _ (Nat.lt_of_lt_of_le (h.lh p hp).2 h.hs))).frz 0
      have c0' : (w.alloc (.map #[] 0)).cell? ⟨bk p, 0, none⟩ = some (.map none) := by
        have := ((h.nd p hp).keep (w' := w.alloc (.map #[] 0)) (Below.heap_alloc w _ _ (Nat.lt_of_lt_of_le (h.lh p hp).2 h.hs))).cells.1
        rw [hm] at this
        exact this
      have hb1 : Below lo w ((w.alloc (.map #[] 0)).setCell ⟨bk p, 0, none⟩ (.map (some w.heap.size))) := Below.setCell (p := ⟨bk p, 0, none⟩) (((Below.refl w.heap.size w).alloc (Nat.le_refl _) _).mono (Nat.le_trans (Nat.le_of_lt (Nat.lt_of_le_of_lt h.tlh.1 h.tlh.2)) h.hs)) (h.lh p hp).1 _
      obtain ⟨w1, hw1⟩ : ∃ w1, (w.alloc (.map #[] 0)).setCell ⟨bk p, 0, none⟩ (.map (some w.heap.size)) = w1 := ⟨_, rfl⟩
      rw [hw1] at h1 hb1
      obtain ⟨d0, d1, -, -, -, -⟩ := (h1.nd p hp).cells
      rw [upd_same] at d0
      obtain ⟨w3, hrun, hbe, hfr, htr, hbl, hsz⟩ := h1.kid hp hc hN (upd_same _ _ _) hq 85 (hz hq)
      have HR : Hid (KidR w lo T N S wh en sh inn (p ++ [c]) (.returned (.pointer (some ⟨w1.heap.size, 0, none⟩))) (w3.setCell ⟨T, 6, none⟩ (.int .i64 ((N : Int) + 1)))) := hid0 ⟨upd bk (p ++ [c]) w1.heap.size, _, by rw [upd_same], by rw [if_neg (by rw [hq]; exact Bool.false_ne_true), hsz]; exact htr, hb1.trans hbl⟩
      have a0 := h1.c0a hp (.cells #[.map none, .int .i64 ((p.length : Int) + 1), .bool false, .int .i64 0, .pointer none, .pointer none] 85)
      rw [upd_same] at a0
      rw [hm] at c0 hlook
      have q2 := mapEq_none
      clear h hp hz hk hq hc HH HP HZ HC htr hbl hsz HQ h1 hb1
      generalize bk p = b at *
      go_enter Tryd.func62, Tryd.ntmps62
      go_wp2
      go_ret
      exact HR.out
end
end Go.Proofs.YtekimkdaoblcgaaDoor
namespace Go.Proofs.YtekimkdaoblcgaaDoor
open Go.RowKit Go.Shelf Go.Lib Go.Maps
/-- Where a step leads. -/
def stpF (S : List Int → Bool) (o : Option (List Int)) (c : Int) : List Int :=
  match o with
  | none => []
  | some p => lsf S (p ++ [c])
def hiO (o : Option (List Int)) : Nat :=
  match o with
  | none => 0
  | some p => p.length + 1
theorem step_next {S : List Int → Bool} (hP : ∀ p c, S (p ++ [c]) = true → S p = true) {p : List Int} {c : Int} (h : S (p ++ [c]) = false) : stpF S (shF S p) c = lsf S (p ++ [c]) := by
  cases p with
  | nil =>
    rw [List.nil_append] at h ⊢
    rw [lsf_not h]
    rfl
  | cons x xs => exact (lsf_step hP h).symm
theorem step_less (S : List Int → Bool) (p : List Int) : hiO (shF S p) < p.length + 1 := by
  cases p with
  | nil => exact Nat.zero_lt_succ _
  | cons x xs =>
    have := lsf_len (P := S) xs
    simp only [shF, hiO, List.length_cons]
    omega
theorem sh_ok {S : List Int → Bool} (h0 : S [] = true) {p q : List Int} (h : shF S p = some q) : S q = true ∧ q.length ≤ p.length := by
  cases p with
  | nil => cases h
  | cons x xs =>
    injection h with h
    subst h
    have := lsf_len (P := S) xs
    exact ⟨lsf_ok h0 xs, by simp only [List.length_cons]; omega⟩
section
variable {w : World} {lo hi T N : Nat} {S : List Int → Bool} {bk : List Int → Nat} {mp : List Int → Option Nat} {wh : List Int → Bool} {en : List Int → Int} {sh inn : List Int → Option Nat}
set_option maxRecDepth 10000 in
set_option maxHeartbeats 800000 in
theorem step_any (o : Option (List Int)) (c : Int) (d : Nat) (h : Tr w lo hi T N S bk mp wh en sh inn) (hc : inI c) (hL : ∀ q, S q = true → q.length ≤ d → sh q = (shF S q).map bk) (ho : ∀ p, o = some p → S p = true ∧ p.length ≤ d) :
    Calls Tryd.prog 63 #[.pointer (some ⟨T, 0, none⟩), ptr (o.map bk), .int .i64 c] w fun e w' => e = .returned (.pointer (some ⟨bk (stpF S o c), 0, none⟩)) ∧ w' = w := by
  have HH := hid0 h
  have HC := hid0 hc
  have HL := hid0 hL
  have HO := hid0 ho
  clear h hc hL ho
  go_enter Tryd.func63, Tryd.ntmps63
  go_wp2
  go_loopg [1] (hiO o) (fun k v wr => ∃ o1 : Option (List Int), v = ptr (o1.map bk) ∧ Hid (hiO o1 = k) ∧ Hid (∀ p, o1 = some p → S p = true ∧ p.length ≤ d) ∧ Hid (stpF S o1 c = stpF S o c) ∧ wr = w)
  case atStart => exact ⟨o, rfl, hid0 rfl, HO, hid0 rfl, rfl⟩
  case round =>
    obtain ⟨o1, rfl, HK, HO1, HS1, rfl⟩ := hrel
    cases o1 with
    | none =>
      have HE : Hid (bk (stpF S o c) = T) := hid0 (by rw [← HS1.out]; exact HH.out.rb)
      rw [show ptr (Option.map bk none) = .pointer none from rfl]
      go_wp2
      go_ret
      exact ⟨by rw [HE.out]; rfl, rfl⟩
    | some p =>
      obtain ⟨hp, hpd⟩ := HO1.out p rfl
      have hlook := HH.out.look hp HC.out
      obtain ⟨c0, -, -, -, c4, -⟩ := (HH.out.nd p hp).cells
      rw [show ptr (Option.map bk (some p)) = .pointer (some ⟨bk p, 0, none⟩) from rfl]
      have HP := hid0 hp
      have HD := hid0 hpd
      rw [HL.out p hp hpd] at c4
      clear hp hpd
      cases hq : S (p ++ [c]) with
      | true =>
        have hk : ptr (kidF S bk p c) = .pointer (some ⟨bk (p ++ [c]), 0, none⟩) := by simp [kidF, hq, ptr]
        rw [hk] at hlook
        have HE : Hid (bk (p ++ [c]) = bk (stpF S o c)) := hid0 (by rw [← HS1.out]; show _ = bk (lsf S (p ++ [c])); rw [lsf_self hq])
        clear hk hq c4
        generalize mp p = m1 at *
        generalize bk (p ++ [c]) = b2 at *
        go_wp2
        go_ret
        exact ⟨by rw [HE.out]; rfl, rfl⟩
      | false =>
        have hk : ptr (kidF S bk p c) = .pointer none := by simp [kidF, hq, ptr]
        rw [hk] at hlook
        have HQ := hid0 hq
        clear hk hq
        generalize mp p = m1 at *
        obtain ⟨v4, hv4⟩ : ∃ v4, ptr (Option.map bk (shF S p)) = v4 := ⟨_, rfl⟩
        have HV := hid0 hv4
        rw [hv4] at c4
        clear hv4
        go_wp2
        go_roundg (hiO (shF S p))
        case measure => rw [← HK.out]; exact step_less S p
        case rel => exact ⟨shF S p, HV.out.symm, hid0 rfl, hid0 (fun q hq => ⟨(sh_ok HH.out.rt hq).1, Nat.le_trans (sh_ok HH.out.rt hq).2 HD.out⟩), hid0 ((step_next HH.out.cl HQ.out).trans HS1.out), rfl⟩
end
end Go.Proofs.YtekimkdaoblcgaaDoor
namespace Go.Proofs.YtekimkdaoblcgaaDoor
open Go.RowKit Go.Shelf Go.Lib Go.Maps
/-- The number of an entry. -/
def numF : List (List Int) → List Int → Nat
  | [], _ => 0
  | x :: r, p => if x = p then 0 else numF r p + 1
theorem numF_mem {E l : List (List Int)} {p : List Int} (h : p ∈ E) : numF (E ++ l) p = numF E p := by
  induction E with
  | nil => cases h
  | cons x r ih =>
    simp only [List.cons_append, numF]
    split
    · rfl
    · rename_i hx
      rcases List.mem_cons.1 h with h | h
      · exact absurd h.symm hx
      · rw [ih h]
theorem numF_new {E : List (List Int)} {p : List Int} (h : p ∉ E) : numF (E ++ [p]) p = E.length := by
  induction E with
  | nil => simp [numF]
  | cons x r ih =>
    have h1 : x ≠ p := fun e => h (by rw [e]; exact .head _)
    have h2 : p ∉ r := fun q => h (.tail _ q)
    simp only [List.cons_append, numF, if_neg h1, ih h2, List.length_cons]
theorem numF_lt {E : List (List Int)} {p : List Int} (h : p ∈ E) : numF E p < E.length := by
  induction E with
  | nil => cases h
  | cons x r ih =>
    simp only [numF, List.length_cons]
    split
    · omega
    · rename_i hx
      rcases List.mem_cons.1 h with h | h
      · exact absurd h.symm hx
      · have := ih h; omega
theorem numF_at {E : List (List Int)} {p : List Int} (h : p ∈ E) : E[numF E p]'(numF_lt h) = p := by
  induction E with
  | nil => cases h
  | cons x r ih =>
    by_cases hx : x = p
    · simp [numF, hx]
    · rcases List.mem_cons.1 h with h | h
      · exact absurd h.symm hx
      · simp only [numF, if_neg hx, List.getElem_cons_succ]
        exact ih h
def whE (E : List (List Int)) (p : List Int) : Bool := decide (p ∈ E)
def enE (E : List (List Int)) (p : List Int) : Int := if p ∈ E then (numF E p : Int) else 0
theorem whE_upd (E : List (List Int)) (e : List Int) : upd (whE E) e true = whE (E ++ [e]) := by
  funext q
  by_cases h : q = e
  · subst h; simp [upd, whE]
  · simp [upd, whE, h]
theorem enE_upd {E : List (List Int)} {e : List Int} (he : e ∉ E) : upd (enE E) e (E.length : Int) = enE (E ++ [e]) := by
  funext q
  by_cases h : q = e
  · subst h
    rw [upd_same]
    simp [enE, numF_new he]
  · rw [upd_other _ _ h]
    by_cases h2 : q ∈ E
    · simp [enE, h2, numF_mem h2]
    · simp [enE, h2, h]
theorem none_upd {α : Type} (e : List Int) : upd (fun _ => (none : Option α)) e none = fun _ => none := by
  funext q
  unfold upd
  split <;> rfl
/-- The beginnings of the entries, and those of one more as far as it was gone. -/
def midB (E : List (List Int)) (e : List Int) (k : Nat) : List Int → Bool := fun q => begB E q || q.isPrefixOf (e.take k)
theorem midB_zero (E : List (List Int)) (e : List Int) : midB E e 0 = begB E := by
  funext q
  unfold midB
  cases q with
  | nil => simp [begB_nil]
  | cons x xs => simp
theorem midB_end (E : List (List Int)) (e : List Int) : midB E e e.length = begB (E ++ [e]) := by
  funext q
  unfold midB
  rw [begB_snoc, List.take_length]
theorem take_snoc {e : List Int} {k : Nat} (h : k < e.length) : e.take (k + 1) = e.take k ++ [e[k]] := by rw [List.take_add_one, List.getElem?_eq_getElem h]; rfl
theorem midB_at (E : List (List Int)) (e : List Int) (k : Nat) : midB E e k (e.take k) = true := by
  have : (e.take k).isPrefixOf (e.take k) = true := List.isPrefixOf_iff_prefix.2 (List.prefix_refl _)
  simp [midB, this]
theorem midB_next {E : List (List Int)} {e : List Int} {k : Nat} (h : k < e.length) : midB E e k (e.take k ++ [e[k]]) = begB E (e.take (k + 1)) := by
  unfold midB
  rw [← take_snoc h]
  have : (e.take (k + 1)).isPrefixOf (e.take k) = false := by
    cases hq : (e.take (k + 1)).isPrefixOf (e.take k) with
    | false => rfl
    | true =>
      have := (List.isPrefixOf_iff_prefix.1 hq).length_le
      simp at this
      omega
  rw [this, Bool.or_false]
theorem midB_succ {E : List (List Int)} {e : List Int} {k : Nat} (h : k < e.length) : plus (midB E e k) (e.take k ++ [e[k]]) = midB E e (k + 1) := by
  funext q
  unfold plus midB
  rw [← take_snoc h, Bool.or_assoc]
  congr 1
  apply Bool.eq_iff_iff.2
  simp only [Bool.or_eq_true, List.isPrefixOf_iff_prefix, decide_eq_true_eq]
  rw [take_snoc h, List.prefix_concat_iff]
  constructor
  · rintro (h | h)
    · exact .inr h
    · exact .inl h
  · rintro (h | h)
    · exact .inr h
    · exact .inl h
/-- How many beginnings are new. -/
def newC (E : List (List Int)) (e : List Int) : Nat → Nat
  | 0 => 0
  | k + 1 => newC E e k + if begB E (e.take (k + 1)) = true then 0 else 1
theorem newC_le (E : List (List Int)) (e : List Int) (k : Nat) : newC E e k ≤ k := by
  induction k with
  | zero => exact Nat.le_refl _
  | succ k ih => simp only [newC]; split <;> omega
/-- How many there are below the root. -/
def szK (L : List (List Int)) : Nat → Nat
  | 0 => 0
  | k + 1 => szK L k + newC (L.take k) (L.getD k []) (L.getD k []).length
theorem szK_le {L : List (List Int)} (h : ∀ e ∈ L, e.length ≤ 32) (k : Nat) : szK L k ≤ 32 * k := by
  induction k with
  | zero => exact Nat.le_refl _
  | succ k ih =>
    have h1 := newC_le (L.take k) (L.getD k []) (L.getD k []).length
    have h2 : (L.getD k []).length ≤ 32 := by
      rw [List.getD_eq_getElem?_getD]
      cases hq : L[k]? with
      | none => simp
      | some e => exact h e (List.mem_of_getElem? hq)
    simp only [szK]
    omega
/-- A trie that is being built: the entries E are in it. -/
def Bt (w : World) (lo hi T N : Nat) (S : List Int → Bool) (E : List (List Int)) (bk : List Int → Nat) (mp : List Int → Option Nat) : Prop := Tr w lo hi T N S bk mp (whE E) (enE E) (fun _ => none) (fun _ => none)
/-- The three refusals. -/
structure Se3 (w : World) (A : Nat → Addr) : Prop where
  c0 : w.cell? ⟨0, 0, none⟩ = some (.iface 129 (.pointer (some (A 0))))
  c2 : w.cell? ⟨2, 0, none⟩ = some (.iface 129 (.pointer (some (A 2))))
  c4 : w.cell? ⟨4, 0, none⟩ = some (.iface 129 (.pointer (some (A 4))))
theorem Se3.past {w w' : World} {A : Nat → Addr} (h : Se3 w A) (hb : Below w.heap.size w w') : Se3 w' A where
  c0 := (hb.cell (p := ⟨0, 0, none⟩) (World.block_lt_of_cell? w _ h.c0)).trans h.c0
  c2 := (hb.cell (p := ⟨2, 0, none⟩) (World.block_lt_of_cell? w _ h.c2)).trans h.c2
  c4 := (hb.cell (p := ⟨4, 0, none⟩) (World.block_lt_of_cell? w _ h.c4)).trans h.c4
theorem Sents.se3 {w : World} {A : Nat → Addr} (h : Sents w A) : Se3 w A := ⟨h.c0, h.c2, h.c4⟩
end Go.Proofs.YtekimkdaoblcgaaDoor
namespace Go.Proofs.YtekimkdaoblcgaaDoor
open Go.RowKit Go.Shelf Go.Lib Go.Maps
abbrev erV (A : Nat → Addr) (k : Nat) : Value := .iface 129 (.pointer (some (A k)))
/-- What add answers. -/
def AddR (w : World) (lo T N : Nat) (E : List (List Int)) (e : List Int) (A : Nat → Addr) (r : Ending) (w' : World) : Prop :=
  Below lo w w' ∧ ((e ∈ E ∧ r = .returned (.iface 129 (.pointer (some (A 4))))) ∨ (e ∉ E ∧ r = .returned .nilIface ∧ ∃ bk mp, Bt w' lo w'.heap.size T (N + newC E e e.length) (begB (E ++ [e])) (E ++ [e]) bk mp))
section
variable {w : World} {lo hi T N : Nat} {bk : List Int → Nat} {mp : List Int → Option Nat} {E : List (List Int)}
theorem Bt.whole {S : List Int → Bool} (h : Bt w lo hi T N S E bk mp) {e : List Int} (hS : S e = true) (he : e ∉ E) : Bt ((w.setCell ⟨bk e, 2, none⟩ (.bool true)).setCell ⟨bk e, 3, none⟩ (.int .i64 (E.length : Int))) lo ((w.setCell ⟨bk e, 2, none⟩ (.bool true)).setCell ⟨bk e, 3, none⟩ (.int .i64 (E.length : Int))).heap.size T N S (E ++ [e]) bk mp := by
  have h1 := ((Tr.nd h e hS).set2 true).set3 (E.length : Int)
  have hsz : ((w.setCell ⟨bk e, 2, none⟩ (.bool true)).setCell ⟨bk e, 3, none⟩ (.int .i64 (E.length : Int))).heap.size = w.heap.size := by simp [World.setCell]
  have h2 := Tr.node h hS (w' := (w.setCell ⟨bk e, 2, none⟩ (.bool true)).setCell ⟨bk e, 3, none⟩ (.int .i64 (E.length : Int))) (by rw [hsz]; exact Nat.le_refl _) (fun k hk => by rw [setCell_block_ne hk, setCell_block_ne hk]) h1 (by
    rw [World.cell?_setCell_other _ _ _ _ (fun e => by injection e with _ e; cases e), World.cell?_setCell_other _ _ _ _ (fun e => by injection e with _ e; cases e)])
  rw [whE_upd, enE_upd he, none_upd] at h2
  exact Tr.wide h2 (by rw [hsz]; exact h.hs) (Nat.le_refl _)
set_option maxRecDepth 10000 in
set_option maxHeartbeats 800000 in
theorem add_any (A : Nat → Addr) (e : List Int) (a : Option Addr) (ca : Nat) (h : Bt w lo hi T N (begB E) E bk mp) (hA : ∀ V : World, Below lo w V → IA V a e) (hS : ∀ V : World, Below lo w V → Se3 V A) (hI : ∀ c ∈ e, inI c) (hl : e.length ≤ 32) (hN : N ≤ 900000) :
    Calls Tryd.prog 39 #[.pointer (some ⟨T, 0, none⟩), .int .i64 (E.length : Int), .slice a e.length ca] w fun r w' => AddR w lo T N E e A r w' := by
  have HH := hid0 h
  have HA := hid0 hA
  have HS := hid0 hS
  have HI := hid0 hI
  have HN := hid0 hN
  clear h hA hS hI hN
  go_enter Tryd.func39, Tryd.ntmps39
  go_wp2
  go_loopw [7, 15] (fun v i wr => ∃ (k : Nat) (hi' : Nat) (bk' : List Int → Nat) (mp' : List Int → Option Nat) (b : Nat), k ≤ e.length ∧ i = .int .i64 (k : Int) ∧ v = .pointer (some ⟨b, 0, none⟩) ∧ Hid (b = bk' (e.take k)) ∧ Hid (Bt wr lo hi' T (N + newC E e k) (midB E e k) E bk' mp') ∧ Hid (Below lo w wr)) (fun _ i _ => e.length - (intOf i).toNat)
  case atStart => exact ⟨0, hi, bk, mp, T, Nat.zero_le _, rfl, rfl, hid0 (by rw [List.take_zero]; exact (Tr.rb HH.out).symm), hid0 (by rw [midB_zero]; exact HH.out), hid0 (Below.refl _ _)⟩
  case round =>
    obtain ⟨k, hi', bk', mp', b, hk, rfl, rfl, HB, HT, HL⟩ := hrel
    by_cases hlt : k < e.length
    · obtain ⟨ba, off, rfl, hbl, ce⟩ := (HA.out wr HL.out).at' k hlt
      have hkI : (k : Int) < (e.length : Int) := by omega
      have hkI0 : (0 : Int) ≤ (k : Int) := by omega
      have HNx := hid0 (midB_succ (E := E) hlt)
      have HMx := hid0 (midB_next (E := E) hlt)
      have HTk := hid0 (take_snoc hlt)
      have HC : Hid (Calls Tryd.prog 62 #[.pointer (some ⟨T, 0, none⟩), .pointer (some ⟨b, 0, none⟩), .int .i64 e[k]] wr fun r w' => KidR wr lo T (N + newC E e k) (midB E e k) (whE E) (enE E) (fun _ => none) (fun _ => none) (e.take k ++ [e[k]]) r w') := hid0 (by
        rw [HB.out]
        refine childOf_any (e.take k) e[k] HT.out (midB_at E e k) (HI.out _ (List.getElem_mem hlt)) (by have := HN.out; have := newC_le E e k; omega) (by rw [List.length_take]; omega) (fun hq => ?_)
        have hn : (e.take k ++ [e[k]]) ∉ E := fun q => by
          have h1 := begB_mem q
          rw [← HTk.out] at h1
          rw [HMx.out, h1] at hq
          cases hq
        exact ⟨decide_eq_false hn, if_neg hn, rfl, rfl⟩)
      generalize e[k] = c at *
      go_wp2_with (go_at_call 62; go_loud ((
        refine HC.out.mono ?_
        rintro r w1 ⟨bk1, mp1, rfl, ht1, hb1⟩
        have HT1 := hid0 ht1
        have HL1 : Hid (Below lo w w1) := hid0 (HL.out.trans hb1)
        clear ht1 hb1)))
      go_roundw
      case rel => exact ⟨k + 1, w1.heap.size, bk1, mp1, bk1 (e.take k ++ [c]), hlt, by go_num, rfl, hid0 (by rw [HTk.out]), hid0 (by
        have h := HT1.out
        rw [HNx.out, HMx.out, Nat.add_assoc] at h
        exact h), HL1⟩
      case measure => simp [intOf]; omega
    · have hkI : ¬ (k : Int) < (e.length : Int) := by omega
      have hke : k = e.length := by omega
      have HT2 : Hid (Bt wr lo hi' T (N + newC E e e.length) (begB (E ++ [e])) E bk' mp') := hid0 (by
        have h := HT.out
        rw [hke, midB_end] at h
        exact h)
      have HB2 : Hid (b = bk' e) := hid0 (by rw [HB.out, hke, List.take_length])
      have HSe : Hid (begB (E ++ [e]) e = true) := hid0 (begB_mem (by simp))
      have c2 : wr.cell? ⟨b, 2, none⟩ = some (.bool (whE E e)) := by rw [HB2.out]; exact (Tr.nd HT2.out e HSe.out).cells.2.2.1
      have c3 : wr.cell? ⟨b, 3, none⟩ = some (.int .i64 (enE E e)) := by rw [HB2.out]; exact (Tr.nd HT2.out e HSe.out).cells.2.2.2.1
      have f2 : wr.frozen? ⟨b, 2, none⟩ = false := by rw [HB2.out]; exact (Tr.nd HT2.out e HSe.out).frz 2
      have f3 : wr.frozen? ⟨b, 3, none⟩ = false := by rw [HB2.out]; exact (Tr.nd HT2.out e HSe.out).frz 3
      have s4 := (HS.out wr HL.out).c4
      clear HT HB hke
      by_cases he : e ∈ E
      · rw [show whE E e = true by simp [whE, he]] at c2
        have HR : Hid (AddR w lo T N E e A (.returned (.iface 129 (.pointer (some (A 4))))) wr) := hid0 ⟨HL.out, .inl ⟨he, rfl⟩⟩
        clear he f2 f3
        go_wp2
        go_ret
        exact HR.out
      · rw [show whE E e = false by simp [whE, he]] at c2
        have HR : Hid (AddR w lo T N E e A (.returned .nilIface) ((wr.setCell ⟨b, 2, none⟩ (.bool true)).setCell ⟨b, 3, none⟩ (.int .i64 (E.length : Int)))) := hid0 (by
          have hb := HB2.out
          subst hb
          exact ⟨Below.setCell (p := ⟨bk' e, 3, none⟩) (Below.setCell (p := ⟨bk' e, 2, none⟩) HL.out (Tr.lh HT2.out e HSe.out).1 _) (Tr.lh HT2.out e HSe.out).1 _, .inr ⟨he, rfl, bk', mp', Bt.whole HT2.out HSe.out he⟩⟩)
        clear he
        go_wp2
        go_ret
        exact HR.out
end
end Go.Proofs.YtekimkdaoblcgaaDoor
namespace Go.Proofs.YtekimkdaoblcgaaDoor
open Go.RowKit Go.Shelf Go.Lib Go.Maps
/-- Is it no scalar value? -/
def nsB (c : Int) : Bool := decide (c < 0) || decide (c > 1114111) || (decide (55296 ≤ c) && decide (c ≤ 57343))
set_option maxRecDepth 10000 in
theorem isNo_any (c : Int) (w : World) : Calls Tryd.prog 61 #[.int .i64 c] w fun e w' => e = .returned (.bool (nsB c)) ∧ w' = w := by
  by_cases h1 : c < 0
  · have hr : nsB c = true := by simp [nsB, h1]
    rw [hr]
    clear hr
    go_enter Tryd.func61, Tryd.ntmps61
    go_wp2
    go_ret
    exact ⟨rfl, rfl⟩
  · by_cases h2 : c > 1114111
    · have hr : nsB c = true := by simp [nsB, h2]
      rw [hr]
      clear hr
      go_enter Tryd.func61, Tryd.ntmps61
      go_wp2
      go_ret
      exact ⟨rfl, rfl⟩
    · by_cases h3 : 55296 ≤ c
      · by_cases h4 : c ≤ 57343
        · have hr : nsB c = true := by simp [nsB, h3, h4]
          rw [hr]
          clear hr
          go_enter Tryd.func61, Tryd.ntmps61
          go_wp2
          go_ret
          exact ⟨rfl, rfl⟩
        · have hr : nsB c = false := by simp [nsB, h1, h2, h4]
          rw [hr]
          clear hr
          go_enter Tryd.func61, Tryd.ntmps61
          go_wp2
          go_ret
          exact ⟨rfl, rfl⟩
      · have hr : nsB c = false := by simp [nsB, h1, h2, h3]
        rw [hr]
        clear hr
        go_enter Tryd.func61, Tryd.ntmps61
        go_wp2
        go_ret
        exact ⟨rfl, rfl⟩
def IxR (e : List Int) (w : World) (r : Ending) (w' : World) : Prop := w' = w ∧ ((e.any nsB = true ∧ ∃ k : Nat, r = .returned (.int .i64 (k : Int))) ∨ (e.any nsB = false ∧ r = .returned (.int .i64 (-1))))
set_option maxRecDepth 10000 in
set_option maxHeartbeats 800000 in
theorem index_any (e : List Int) (a : Option Addr) (ca : Nat) (w : World) (hl : e.length ≤ 1125899906842624) (ha : IA w a e) :
    Calls Tryd.prog 74 #[.slice a e.length ca, .func (.func 61) #[] #[]] w fun r w' => IxR e w r w' := by
  have HA := hid0 ha
  have HC := hid0 (fun c => isNo_any c w)
  clear ha
  go_enter Tryd.func74, Tryd.ntmps74
  go_wp2
  go_loopw [8] (fun i wr => ∃ k : Nat, k ≤ e.length ∧ i = .int .i64 (k : Int) ∧ Hid ((e.take k).any nsB = false) ∧ wr = w) (fun i _ => e.length - (intOf i).toNat)
  case atStart => exact ⟨0, Nat.zero_le _, rfl, hid0 rfl, rfl⟩
  case round =>
    obtain ⟨k, hk, rfl, HF, rfl⟩ := hrel
    by_cases hlt : k < e.length
    · obtain ⟨b, off, rfl, hbl, ce⟩ := HA.out.at' k hlt
      have hkI : (k : Int) < (e.length : Int) := by omega
      have hkI0 : (0 : Int) ≤ (k : Int) := by omega
      have HT := hid0 (take_snoc hlt)
      have HM : Hid (e[k] ∈ e) := hid0 (List.getElem_mem hlt)
      generalize e[k] = c at *
      have HCc := hid0 (HC.out c)
      cases hq : nsB c with
      | true =>
        rw [hq] at HCc
        have HR : Hid (IxR e wr (.returned (.int .i64 (k : Int))) wr) := hid0 ⟨rfl, .inl ⟨List.any_eq_true.2 ⟨c, HM.out, hq⟩, k, rfl⟩⟩
        clear hq
        go_wp2_with (go_at_call 61; go_loud ((
          refine HCc.out.mono ?_
          rintro r w1 ⟨rfl, hw⟩
          have hw := hw.symm
          subst hw)))
        go_ret
        exact HR.out
      | false =>
        rw [hq] at HCc
        have HF2 : Hid ((e.take (k + 1)).any nsB = false) := hid0 (by rw [HT.out, List.any_append, HF.out]; simp [hq])
        clear hq
        go_wp2_with (go_at_call 61; go_loud ((
          refine HCc.out.mono ?_
          rintro r w1 ⟨rfl, hw⟩
          have hw := hw.symm
          subst hw)))
        go_roundw
        case rel => exact ⟨k + 1, hlt, by go_num, HF2, trivial⟩
        case measure => simp [intOf]; omega
    · have hkI : ¬ (k : Int) < (e.length : Int) := by omega
      have HR : Hid (IxR e wr (.returned (.int .i64 (-1))) wr) := hid0 ⟨rfl, .inr ⟨by have := HF.out; rw [List.take_of_length_le (by omega)] at this; exact this, rfl⟩⟩
      go_wp2
      go_ret
      exact HR.out
set_option maxRecDepth 10000 in
theorem contains_any (e : List Int) (a : Option Addr) (ca : Nat) (w : World) (hl : e.length ≤ 1125899906842624) (ha : IA w a e) :
    Calls Tryd.prog 60 #[.slice a e.length ca, .func (.func 61) #[] #[]] w fun r w' => r = .returned (.bool (e.any nsB)) ∧ w' = w := by
  have HX := hid0 (index_any e a ca w hl ha)
  clear ha
  go_enter Tryd.func60, Tryd.ntmps60
  go_wp2_with (go_at_call 74; go_loud ((
    refine HX.out.mono ?_
    rintro r w1 ⟨hw, hr⟩
    have hw := hw.symm
    subst hw
    have HR := hid0 hr
    clear hr
    rcases HR.out with ⟨hq, k, rfl⟩ | ⟨hq, rfl⟩)))
  · have hk : (k : Int) ≥ 0 := by omega
    go_ret
    exact ⟨by rw [hq]; rfl, rfl⟩
  · go_ret
    exact ⟨by rw [hq]; rfl, rfl⟩
/-- What checkEntry says: the number of the refusal. -/
def chkN (e : List Int) : Option Nat := if e.isEmpty || e.any nsB then some 0 else if e.length > 32 then some 2 else none
def erO (A : Nat → Addr) : Option Nat → Value
  | none => .nilIface
  | some k => .iface 129 (.pointer (some (A k)))
set_option maxRecDepth 10000 in
set_option maxHeartbeats 800000 in
theorem checkEntry_any (A : Nat → Addr) (e : List Int) (a : Option Addr) (ca : Nat) (w : World) (hl : e.length ≤ 1125899906842624) (ha : IA w a e) (hs : Se3 w A) :
    Calls Tryd.prog 38 #[.slice a e.length ca] w fun r w' => r = .returned (erO A (chkN e)) ∧ w' = w := by
  have HX := hid0 (contains_any e a ca w hl ha)
  have s0 := hs.c0
  have s2 := hs.c2
  clear ha hs
  by_cases h0 : e.length = 0
  · have hr : chkN e = some 0 := by
      have : e = [] := List.length_eq_zero_iff.1 h0
      subst this
      rfl
    rw [h0, hr]
    clear h0
    go_enter Tryd.func38, Tryd.ntmps38
    go_wp2
    go_ret
    exact ⟨rfl, rfl⟩
  · have h0b : ((e.length : Int) == 0) = false := by rw [beq_eq_false_iff_ne]; omega
    have hne : e.isEmpty = false := by
      cases e with
      | nil => exact absurd rfl h0
      | cons x xs => rfl
    cases hq : e.any nsB with
    | true =>
      have hr : chkN e = some 0 := by simp [chkN, hq]
      rw [hq] at HX
      rw [hr]
      clear hq hr hne
      go_enter Tryd.func38, Tryd.ntmps38
      go_wp2_with (go_at_call 60; go_loud ((
        refine HX.out.mono ?_
        rintro r w1 ⟨rfl, hw⟩
        have hw := hw.symm
        subst hw)))
      go_ret
      exact ⟨rfl, rfl⟩
    | false =>
      rw [hq] at HX
      by_cases h32 : (e.length : Int) > 32
      · have hr : chkN e = some 2 := by simp [chkN, hq, hne]; omega
        rw [hr]
        clear hq hr hne
        go_enter Tryd.func38, Tryd.ntmps38
        go_wp2_with (go_at_call 60; go_loud ((
          refine HX.out.mono ?_
          rintro r w1 ⟨rfl, hw⟩
          have hw := hw.symm
          subst hw)))
        go_ret
        exact ⟨rfl, rfl⟩
      · have hr : chkN e = none := by simp [chkN, hq, hne]; omega
        rw [hr]
        clear hq hr hne
        go_enter Tryd.func38, Tryd.ntmps38
        go_wp2_with (go_at_call 60; go_loud ((
          refine HX.out.mono ?_
          rintro r w1 ⟨rfl, hw⟩
          have hw := hw.symm
          subst hw)))
        go_ret
        exact ⟨rfl, rfl⟩
end Go.Proofs.YtekimkdaoblcgaaDoor
namespace Go.Proofs.YtekimkdaoblcgaaDoor
open Go.RowKit Go.Shelf Go.Lib Go.Maps
/-- What the nodes that L says have, and the others nothing. -/
def lnk {α : Type} (L : List Int → Bool) (f : List Int → Option α) : List Int → Option α := fun q => if L q = true then f q else none
/-- All nodes up to a length, and some more. -/
def Ld (d : Nat) (qs : List (List Int)) : List Int → Bool := fun q => decide (q.length ≤ d) || decide (q ∈ qs)
theorem Ld_low {d : Nat} {qs : List (List Int)} {q : List Int} (h : q.length ≤ d) : Ld d qs q = true := by simp [Ld, h]
theorem lnk_upd {α : Type} (d : Nat) (qs : List (List Int)) (f : List Int → Option α) (q : List Int) : upd (lnk (Ld d qs) f) q (f q) = lnk (Ld d (qs ++ [q])) f := by
  funext r
  unfold upd lnk Ld
  by_cases h : r = q
  · subst h; simp
  · simp [h]
theorem lnk_zero {α : Type} {f : List Int → Option α} (h : f [] = none) : lnk (Ld 0 []) f = fun _ => none := by
  funext r
  cases r with
  | nil => simp [lnk, h]
  | cons x xs => simp [lnk, Ld]
section
variable {w : World} {lo hi T N : Nat} {S : List Int → Bool} {bk : List Int → Nat} {mp : List Int → Option Nat} {wh : List Int → Bool} {en : List Int → Int} {sh inn sh' inn' : List Int → Option Nat}
theorem Tr.congr (h : Tr w lo hi T N S bk mp wh en sh inn) (h1 : ∀ q, S q = true → sh q = sh' q) (h2 : ∀ q, S q = true → inn q = inn' q) : Tr w lo hi T N S bk mp wh en sh' inn' := { h with nd := fun p hp => by rw [← h1 p hp, ← h2 p hp]; exact h.nd p hp }
end
theorem nodup_len {l m : List (List Int)} (hl : l.Nodup) (h : ∀ q ∈ l, q ∈ m) : l.length ≤ m.length := by
  induction l generalizing m with
  | nil => exact Nat.zero_le _
  | cons x r ih =>
    have hx := h x (.head _)
    obtain ⟨hxr, hr⟩ := List.nodup_cons.1 hl
    have h1 := ih (m := m.erase x) hr (fun q hq => (List.mem_erase_of_ne (fun e => hxr (by rw [← e]; exact hq))).2 (h q (.tail _ hq)))
    rw [List.length_erase_of_mem hx] at h1
    have h2 : 0 < m.length := List.length_pos_of_mem hx
    simp only [List.length_cons]
    omega
theorem level_len {E qs : List (List Int)} {d : Nat} (hn : qs.Nodup) (h : ∀ q ∈ qs, begB E q = true ∧ q.length = d + 1) : qs.length ≤ E.length := by
  have := nodup_len (m := E.map (List.take (d + 1))) hn (fun q hq => by
    obtain ⟨h1, h2⟩ := h q hq
    rcases begB_iff.1 h1 with rfl | ⟨e, he, hp⟩
    · simp at h2
    · rw [List.mem_map]
      exact ⟨e, he, by rw [← h2]; exact (List.prefix_iff_eq_take.1 hp).symm⟩)
  simpa using this
/-- The nodes of one length. -/
structure Lev (S : List Int → Bool) (d : Nat) (ps : List (List Int)) : Prop where
  nd : ps.Nodup
  of' : ∀ p ∈ ps, S p = true ∧ p.length = d
  all : ∀ p, S p = true → p.length = d → p ∈ ps
theorem lev_zero {S : List Int → Bool} (h : S [] = true) : Lev S 0 [[]] := ⟨by simp, fun p hp => by rw [List.mem_singleton.1 hp]; exact ⟨h, rfl⟩, fun p _ hl => by rw [List.length_eq_zero_iff.1 hl]; exact .head _⟩
theorem take_in {S : List Int → Bool} (cl : ∀ p c, S (p ++ [c]) = true → S p = true) {q : List Int} (hq : S q = true) (k : Nat) : S (q.take k) = true := by
  by_cases h : q.length ≤ k
  · rw [List.take_of_length_le h]; exact hq
  · have : ∀ n, n ≤ q.length → S (q.take (q.length - n)) = true := fun n => by
      induction n with
      | zero => intro _; rw [Nat.sub_zero, List.take_length]; exact hq
      | succ n ih =>
        intro hn
        have h1 := ih (by omega)
        have h2 : q.take (q.length - n) = q.take (q.length - (n + 1)) ++ [q[q.length - (n + 1)]'(by omega)] := by
          rw [← take_snoc (by omega)]
          congr 1
          omega
        rw [h2] at h1
        exact cl _ _ h1
    have h3 := this (q.length - k) (by omega)
    rw [show q.length - (q.length - k) = k by omega] at h3
    exact h3
theorem lev_none {S : List Int → Bool} (cl : ∀ p c, S (p ++ [c]) = true → S p = true) {d : Nat} (h : Lev S d []) {q : List Int} (hq : S q = true) : q.length ≤ d := by
  rcases Nat.lt_or_ge d q.length with h1 | h1
  · have := h.all (q.take d) (take_in cl hq d) (by rw [List.length_take]; omega)
    cases this
  · exact h1
/-- Some nodes of a level have been gone through: qs are their children. -/
structure Mid (S : List Int → Bool) (d : Nat) (ps : List (List Int)) (i : Nat) (qs : List (List Int)) : Prop where
  nd : qs.Nodup
  of' : ∀ q ∈ qs, S q = true ∧ q.length = d + 1
  old : ∀ p ∈ ps.take i, ∀ c, S (p ++ [c]) = true → p ++ [c] ∈ qs
  src : ∀ q ∈ qs, ∃ p c, q = p ++ [c] ∧ p ∈ ps.take i
theorem mid_start (S : List Int → Bool) (d : Nat) (ps : List (List Int)) : Mid S d ps 0 [] := ⟨by simp, (fun _ h => nomatch h), (fun _ h => nomatch h), (fun _ h => nomatch h)⟩
theorem mid_end {S : List Int → Bool} (cl : ∀ p c, S (p ++ [c]) = true → S p = true) {d : Nat} {ps qs : List (List Int)} (h : Mid S d ps ps.length qs) (hl : Lev S d ps) : Lev S (d + 1) qs := by
  refine ⟨h.nd, h.of', fun q hq hlen => ?_⟩
  have h1 : q = q.take d ++ [q[d]'(by omega)] := by
    rw [← take_snoc (by omega), List.take_of_length_le (by omega)]
  have h2 : q.take d ∈ ps := hl.all _ (take_in cl hq d) (by rw [List.length_take]; omega)
  rw [h1] at hq ⊢
  exact h.old _ (by rw [List.take_length]; exact h2) _ hq
/-- Of one node some children have come; left: those that are still to come. -/
structure Mid3 (S : List Int → Bool) (d : Nat) (ps : List (List Int)) (i : Nat) (p : List Int) (left : Lit → Bool) (qs : List (List Int)) : Prop where
  nd : qs.Nodup
  of' : ∀ q ∈ qs, S q = true ∧ q.length = d + 1
  old : ∀ p' ∈ ps.take i, ∀ c, S (p' ++ [c]) = true → p' ++ [c] ∈ qs
  cur : ∀ c, S (p ++ [c]) = true → left (keyI c) = false → p ++ [c] ∈ qs
  src : ∀ q ∈ qs, ∃ p' c, q = p' ++ [c] ∧ (p' ∈ ps.take i ∨ p' = p ∧ left (keyI c) = false)
theorem same_int (x y : Int) : (keyI x).sameKey (keyI y) = decide (x = y) := by
  by_cases h : x = y
  · subst h
    rw [WideAt.sameKey_self (a := keyI x) trivial]
    simp
  · rw [Maps.sameKey_ne (fun e => h (keyI_inj e))]
    simp [h]
section
variable {S : List Int → Bool} {d i : Nat} {ps qs : List (List Int)} {p : List Int} {left : Lit → Bool}
theorem mid3_start (h : Mid S d ps i qs) (hl : ∀ c, S (p ++ [c]) = true → left (keyI c) = true) : Mid3 S d ps i p left qs := by
  refine ⟨h.nd, h.of', h.old, fun c hc hq => ?_, fun q hq => ?_⟩
  · rw [hl c hc] at hq; cases hq
  · obtain ⟨p', c, e, hm⟩ := h.src q hq
    exact ⟨p', c, e, .inl hm⟩
theorem mid3_new (h : Mid3 S d ps i p left qs) (hp : p ∉ ps.take i) {x : Int} (hx : left (keyI x) = true) : p ++ [x] ∉ qs := fun hq => by
  obtain ⟨p', c, e, hm⟩ := h.src _ hq
  obtain ⟨e1, e2⟩ := snoc_inj e
  subst e1 e2
  rcases hm with hm | ⟨_, hm⟩
  · exact hp hm
  · rw [hx] at hm; cases hm
theorem mid3_step (h : Mid3 S d ps i p left qs) (hp : p ∉ ps.take i) {x : Int} (hx : left (keyI x) = true) (hS : S (p ++ [x]) = true) (hd : p.length = d) : Mid3 S d ps i p (fun z => left z && !z.sameKey (keyI x)) (qs ++ [p ++ [x]]) := by
  have hnew := mid3_new h hp hx
  refine ⟨List.nodup_append.2 ⟨h.nd, by simp, fun a ha b hb e => ?_⟩, fun q hq => ?_, fun p' hp' c hc => List.mem_append_left _ (h.old p' hp' c hc), fun c hc hq => ?_, fun q hq => ?_⟩
  · rw [List.mem_singleton.1 hb] at e
    exact hnew (by rw [← e]; exact ha)
  · rcases List.mem_append.1 hq with hq | hq
    · exact h.of' q hq
    · rw [List.mem_singleton.1 hq]
      exact ⟨hS, by simp [hd]⟩
  · by_cases e : c = x
    · subst e; simp
    · refine List.mem_append_left _ (h.cur c hc ?_)
      simp only [same_int, decide_eq_false e, Bool.not_false, Bool.and_true] at hq
      exact hq
  · rcases List.mem_append.1 hq with hq | hq
    · obtain ⟨p', c, e, hm⟩ := h.src q hq
      refine ⟨p', c, e, hm.imp id (fun ⟨h1, h2⟩ => ⟨h1, by simp only [h2, Bool.false_and]⟩)⟩
    · exact ⟨p, x, List.mem_singleton.1 hq, .inr ⟨rfl, by simp only [same_int, decide_true, Bool.not_true, Bool.and_false]⟩⟩
theorem mid3_end (h : Mid3 S d ps i p left qs) (hl : ∀ z, left z = false) (hi : i < ps.length) (hp : ps[i] = p) : Mid S d ps (i + 1) qs := by
  have ht : ps.take (i + 1) = ps.take i ++ [p] := by rw [List.take_add_one, List.getElem?_eq_getElem hi, hp]; rfl
  refine ⟨h.nd, h.of', fun p' hp' c hc => ?_, fun q hq => ?_⟩
  · rw [ht] at hp'
    rcases List.mem_append.1 hp' with h1 | h1
    · exact h.old p' h1 c hc
    · rw [List.mem_singleton.1 h1] at hc ⊢
      exact h.cur c hc (hl _)
  · obtain ⟨p', c, e, hm⟩ := h.src q hq
    refine ⟨p', c, e, ?_⟩
    rw [ht]
    rcases hm with hm | ⟨rfl, _⟩
    · exact List.mem_append_left _ hm
    · simp
end
theorem nodup_take {ps : List (List Int)} (h : ps.Nodup) {i : Nat} (hi : i < ps.length) : ps[i] ∉ ps.take i := fun hm => by
  obtain ⟨j, hj, e⟩ := List.getElem_of_mem hm
  rw [List.length_take] at hj
  rw [List.getElem_take] at e
  exact List.pairwise_iff_getElem.1 h j i (by omega) hi (by omega) e
/-- The shorter beginning of a child, by a step. -/
theorem sh_child {S : List Int → Bool} (cl : ∀ p c, S (p ++ [c]) = true → S p = true) (p : List Int) (x : Int) : shF S (p ++ [x]) = some (stpF S (shF S p) x) := by
  cases p with
  | nil => rfl
  | cons y ys =>
    show some (lsf S (ys ++ [x])) = some (lsf S (lsf S ys ++ [x]))
    rw [lsf_snoc cl]
theorem stp_len {S : List Int → Bool} (cl : ∀ p c, S (p ++ [c]) = true → S p = true) (p : List Int) (x : Int) : (stpF S (shF S p) x).length ≤ p.length := by
  have h := sh_child cl p x
  cases p with
  | nil => exact Nat.le_refl _
  | cons y ys =>
    have h1 : stpF S (shF S (y :: ys)) x = lsf S (ys ++ [x]) := by
      have : some (lsf S (ys ++ [x])) = some (stpF S (shF S (y :: ys)) x) := h
      injection this with this
      exact this.symm
    rw [h1]
    have := lsf_len (P := S) (ys ++ [x])
    simpa using this
theorem stp_ok {S : List Int → Bool} (h0 : S [] = true) (o : Option (List Int)) (x : Int) : S (stpF S o x) = true := by
  cases o with
  | none => exact h0
  | some p => exact lsf_ok h0 _
theorem in_child {E : List (List Int)} (hn : [] ∉ E) (p : List Int) (x : Int) : inF E (p ++ [x]) = if stpF (begB E) (shF (begB E) p) x ∈ E then some (stpF (begB E) (shF (begB E) p) x) else inF E (stpF (begB E) (shF (begB E) p) x) := by
  have h := sh_child (S := begB E) (fun _ _ => begB_front) p x
  obtain ⟨y, ys, e⟩ : ∃ y ys, p ++ [x] = y :: ys := by
    cases p with
    | nil => exact ⟨x, [], rfl⟩
    | cons y ys => exact ⟨y, ys ++ [x], rfl⟩
  rw [e] at h ⊢
  have h1 : lsf (begB E) ys = stpF (begB E) (shF (begB E) p) x := by injection h
  rw [← h1]
  exact inF_step (fun _ he => begB_mem he) hn y ys
end Go.Proofs.YtekimkdaoblcgaaDoor
namespace Go.Proofs.YtekimkdaoblcgaaDoor
open Go.RowKit Go.Shelf Go.Lib Go.Maps
/-- Pointers to nodes, in a row of one's own. -/
def OwnP (w : World) (base : Nat) (bk : List Int → Nat) (v : Value) (ps : List (List Int)) : Prop := w.ownsRow base 83 1 v ps.length (ps.map fun p => Value.pointer (some ⟨bk p, 0, none⟩))
theorem infoPtr : (Tryd.prog.info? 83).map (fun i => (i.zero, i.size, i.bytes)) = some (some (.pointer none), 1, 8) := by kernel_rfl
section
variable {w w' : World} {base : Nat} {bk : List Int → Nat} {v : Value} {ps : List (List Int)}
theorem OwnP.form (h : OwnP w base bk v ps) : ∃ a cap, v = .slice a ps.length cap := by
  rcases h.2 with ⟨h1, h2⟩ | ⟨g, cap, cur, rfl, _⟩
  · exact ⟨none, 0, by rw [h1, h2]⟩
  · exact ⟨_, cap, rfl⟩
theorem OwnP.at (h : OwnP w base bk v ps) (hn : 0 < ps.length) : ∃ g cap, v = .slice (some ⟨g, 0, none⟩) ps.length cap ∧ base ≤ g ∧ g < w.heap.size ∧ ∀ i (hi : i < ps.length), w.cell? ⟨g, i, none⟩ = some (.pointer (some ⟨bk ps[i], 0, none⟩)) := by
  obtain ⟨g, cap, rfl, h1, h2, _⟩ := own_form h hn
  refine ⟨g, cap, rfl, h1, h2, fun i hi => ?_⟩
  rw [World.ownsRow.cellAt h i (by omega)]
  simp [hi]
end
/-- Linked are all up to a length, and qs. -/
structure Lk (w wr : World) (lo hi T N : Nat) (E : List (List Int)) (bk : List Int → Nat) (mp : List Int → Option Nat) (d : Nat) (qs : List (List Int)) : Prop where
  tr : Tr wr lo hi T N (begB E) bk mp (whE E) (enE E) (lnk (Ld d qs) (fun q => (shF (begB E) q).map bk)) (lnk (Ld d qs) (fun q => (inF E q).map bk))
  on : Only w wr (fun b => lo ≤ b ∧ b < hi)
section
variable {w wr wr' : World} {lo hi T N d : Nat} {E qs : List (List Int)} {bk : List Int → Nat} {mp : List Int → Option Nat}
theorem Lk.past (h : Lk w wr lo hi T N E bk mp d qs) (hb : Below wr.heap.size wr wr') : Lk w wr' lo hi T N E bk mp d qs := ⟨h.tr.past hb, h.on.trans (T := fun _ => False) ⟨hb.os, hb.tape, hb.output, hb.size, fun k hk _ => hb.block k hk⟩ (fun _ q => nomatch q)⟩
theorem Lk.grown (h : Lk w wr lo hi T N E bk mp d qs) {g : Option Nat} (hg : wr.grownBy wr' g) (hh : ∀ j, g = some j → w.heap.size ≤ j) (hw : hi ≤ w.heap.size) : Lk w wr' lo hi T N E bk mp d qs :=
  ⟨h.tr.keep hg.size (fun k _ hk => hg.block k (Nat.lt_of_lt_of_le hk h.tr.hs) (fun e => by have := hh k e.symm; omega)), h.on.trans (T := fun b => w.heap.size ≤ b) ⟨hg.os, hg.tape, hg.output, hg.size, fun k hk hn => hg.block k hk (fun e => hn (hh k e.symm))⟩ (fun _ q => .inr q)⟩
/-- The next level. -/
theorem Lk.next (h : Lk w wr lo hi T N E bk mp d qs) (hl : Lev (begB E) (d + 1) qs) : Lk w wr lo hi T N E bk mp (d + 1) [] := by
  have key : ∀ {α : Type} (f : List Int → Option α) (q : List Int), begB E q = true → lnk (Ld d qs) f q = lnk (Ld (d + 1) []) f q := fun f q hq => by
    unfold lnk
    have : Ld d qs q = Ld (d + 1) [] q := by
      unfold Ld
      apply Bool.eq_iff_iff.2
      simp only [Bool.or_eq_true, decide_eq_true_eq, List.not_mem_nil, or_false]
      constructor
      · rintro (h1 | h1)
        · omega
        · have := (hl.of' q h1).2; omega
      · intro h1
        by_cases h2 : q.length ≤ d
        · exact .inl h2
        · exact .inr (hl.all q hq (by omega))
    rw [this]
  exact ⟨h.tr.congr (key _) (key _), h.on⟩
theorem Lk.done (h : Lk w wr lo hi T N E bk mp d []) (hl : Lev (begB E) d []) : Tr wr lo hi T N (begB E) bk mp (whE E) (enE E) (fun q => (shF (begB E) q).map bk) (fun q => (inF E q).map bk) := by
  refine h.tr.congr (fun q hq => ?_) (fun q hq => ?_)
  · simp only [lnk, Ld_low (lev_none h.tr.cl hl hq), if_true]
  · simp only [lnk, Ld_low (lev_none h.tr.cl hl hq), if_true]
/-- What is read and written when a child is linked. -/
structure KidW (w wr : World) (lo hi T N : Nat) (E : List (List Int)) (bk : List Int → Nat) (mp : List Int → Option Nat) (d : Nat) (qs : List (List Int)) (q : List Int) (bq bs : Nat) (vI : Value) (b : Bool) : Prop where
  ne : bq ≠ bs
  q4 : ∃ u, wr.cell? ⟨bq, 4, none⟩ = some u
  q5 : ∃ u, wr.cell? ⟨bq, 5, none⟩ = some u
  f4 : wr.frozen? ⟨bq, 4, none⟩ = false
  f5 : wr.frozen? ⟨bq, 5, none⟩ = false
  s5 : wr.cell? ⟨bs, 5, none⟩ = some vI
  s2 : wr.cell? ⟨bs, 2, none⟩ = some (.bool b)
  no : b = false → Lk w ((wr.setCell ⟨bq, 4, none⟩ (.pointer (some ⟨bs, 0, none⟩))).setCell ⟨bq, 5, none⟩ vI) lo hi T N E bk mp d (qs ++ [q])
  yes : b = true → Lk w (((wr.setCell ⟨bq, 4, none⟩ (.pointer (some ⟨bs, 0, none⟩))).setCell ⟨bq, 5, none⟩ vI).setCell ⟨bq, 5, none⟩ (.pointer (some ⟨bs, 0, none⟩))) lo hi T N E bk mp d (qs ++ [q])
  lo' : lo ≤ bq ∧ bq < hi
  sp : ∃ o, vI = ptr o
theorem Lk.kid (h : Lk w wr lo hi T N E bk mp d qs) (hn : [] ∉ E) {p : List Int} {x : Int} (hq : begB E (p ++ [x]) = true) (hd : p.length = d) :
    KidW w wr lo hi T N E bk mp d qs (p ++ [x]) (bk (p ++ [x])) (bk (stpF (begB E) (shF (begB E) p) x)) (ptr ((inF E (stpF (begB E) (shF (begB E) p) x)).map bk)) (decide (stpF (begB E) (shF (begB E) p) x ∈ E)) := by
  have hsh := sh_child h.tr.cl p x
  have hin := in_child hn p x
  have hsl := stp_len h.tr.cl p x
  have hss := stp_ok h.tr.rt (shF (begB E) p) x
  generalize stpF (begB E) (shF (begB E) p) x = s at *
  have hne : p ++ [x] ≠ s := fun e => by have := congrArg List.length e; simp at this; omega
  have hL : Ld d qs s = true := Ld_low (by omega)
  have hN := h.tr.nd _ hq
  have hS := (h.tr.nd _ hss).cells
  have hT6 : ∀ (W : World) (k : Nat) (u : Value), k < 6 → (W.setCell ⟨bk (p ++ [x]), k, none⟩ u).cell? ⟨T, 6, none⟩ = W.cell? ⟨T, 6, none⟩ := fun W k u hk => World.cell?_setCell_other _ _ _ _ (fun e => by injection e with _ e; omega)
  have hsz : ∀ (W : World) (a : Addr) (u : Value), (W.setCell a u).heap.size = W.heap.size := fun W a u => by simp [World.setCell]
  refine ⟨fun e => hne (h.tr.inj _ _ hq hss e), ⟨_, hN.cells.2.2.2.2.1⟩, ⟨_, hN.cells.2.2.2.2.2⟩, hN.frz 4, hN.frz 5, ?_, ?_, fun hb => ?_, fun hb => ?_, h.tr.lh _ hq, ⟨_, rfl⟩⟩
  · rw [hS.2.2.2.2.2]
    simp only [lnk, hL, if_true]
  · rw [hS.2.2.1]
    rfl
  · have hse : s ∉ E := of_decide_eq_false hb
    have h1 := (hN.set4 (some (bk s))).set5 ((inF E s).map bk)
    have h2 := h.tr.node hq (by rw [hsz, hsz]; exact Nat.le_refl _) (fun k hk => by rw [setCell_block_ne hk, setCell_block_ne hk]) h1 (by rw [hT6 _ _ _ (by omega), hT6 _ _ _ (by omega)])
    have e1 : some (bk s) = (fun q => (shF (begB E) q).map bk) (p ++ [x]) := by simp only [hsh, Option.map_some]
    have e2 : (inF E s).map bk = (fun q => (inF E q).map bk) (p ++ [x]) := by simp only [hin, if_neg hse]
    rw [e1, e2, lnk_upd, lnk_upd] at h2
    have e3 : upd (whE E) (p ++ [x]) (whE E (p ++ [x])) = whE E := by
      funext r
      unfold upd
      split
      · rename_i e; rw [e]
      · rfl
    have e4 : upd (enE E) (p ++ [x]) (enE E (p ++ [x])) = enE E := by
      funext r
      unfold upd
      split
      · rename_i e; rw [e]
      · rfl
    rw [e3, e4] at h2
    rw [← e1, ← e2] at h2
    exact ⟨h2, h.on.trans ((Only.setCell _ _ _ _).trans (Only.setCell _ _ _ _) (fun i hi => .inl hi)) (fun i hi => .inl (by rw [hi]; exact h.tr.lh _ hq))⟩
  · have hse : s ∈ E := of_decide_eq_true hb
    have h1 := ((hN.set4 (some (bk s))).set5 ((inF E s).map bk)).set5 (some (bk s))
    have h2 := h.tr.node hq (by rw [hsz, hsz, hsz]; exact Nat.le_refl _) (fun k hk => by rw [setCell_block_ne hk, setCell_block_ne hk, setCell_block_ne hk]) h1 (by rw [hT6 _ _ _ (by omega), hT6 _ _ _ (by omega), hT6 _ _ _ (by omega)])
    have e1 : (shF (begB E) (p ++ [x])).map bk = some (bk s) := by simp only [hsh, Option.map_some]
    have e2 : (inF E (p ++ [x])).map bk = some (bk s) := by simp only [hin, if_pos hse, Option.map_some]
    have u1 := lnk_upd d qs (fun q => (shF (begB E) q).map bk) (p ++ [x])
    have u2 := lnk_upd d qs (fun q => (inF E q).map bk) (p ++ [x])
    rw [e1] at u1
    rw [e2] at u2
    rw [u1, u2] at h2
    have e3 : upd (whE E) (p ++ [x]) (whE E (p ++ [x])) = whE E := by
      funext r
      unfold upd
      split
      · rename_i e; rw [e]
      · rfl
    have e4 : upd (enE E) (p ++ [x]) (enE E (p ++ [x])) = enE E := by
      funext r
      unfold upd
      split
      · rename_i e; rw [e]
      · rfl
    rw [e3, e4] at h2
    exact ⟨h2, h.on.trans (((Only.setCell _ _ _ _).trans (Only.setCell _ _ _ _) (fun i hi => .inl hi)).trans (Only.setCell _ _ _ _) (fun i hi => .inl hi)) (fun i hi => .inl (by rw [hi]; exact h.tr.lh _ hq))⟩
end
end Go.Proofs.YtekimkdaoblcgaaDoor
namespace Go.Proofs.YtekimkdaoblcgaaDoor
open Go.RowKit Go.Shelf Go.Lib Go.Maps Go.Sort
theorem ptrElem_shape (v : Value) (y : DataW Unit × List MemPlace) (h : ptrElem v = some y) : ∃ o : Option Nat, v = ptr o := by
  obtain ⟨o, h1, _⟩ := ptrElem_inv h
  exact ⟨o, h1⟩
theorem grown_set (w : World) (b k : Nat) (v : Value) : w.grownBy (w.setCell ⟨b, k, none⟩ v) (some b) := ⟨rfl, rfl, rfl, by simp [World.setCell], fun i _ hi => setCell_block_ne (fun e => hi (by rw [e]))⟩
theorem OwnP.keep {w w' : World} {base hi : Nat} {bk : List Int → Nat} {v : Value} {ps : List (List Int)} (h : OwnP w base bk v ps) (hh : hi ≤ base) (hb : ∀ k, hi ≤ k → w'.heap[k]? = w.heap[k]?) : OwnP w' base bk v ps := own_blk h (fun k e => hb k (Nat.le_trans hh (World.ownsRow.lt h k e).1))
theorem lev_len {E ps : List (List Int)} {d : Nat} (h : Lev (begB E) d ps) : ps.length ≤ E.length + 1 := by
  cases d with
  | zero =>
    have := nodup_len (m := [[]]) h.nd (fun p hp => by rw [List.length_eq_zero_iff.1 (h.of' p hp).2]; exact .head _)
    simp at this
    omega
  | succ d =>
    have := level_len h.nd h.of'
    omega
set_option maxRecDepth 10000 in
set_option maxHeartbeats 1600000 in
theorem link_any {w : World} {lo hi T N : Nat} {E : List (List Int)} {bk : List Int → Nat} {mp : List Int → Option Nat} (h : Bt w lo hi T N (begB E) E bk mp) (hn : [] ∉ E) (hl : ∀ e ∈ E, e.length ≤ 32) (hI : ∀ p c, begB E (p ++ [c]) = true → inI c) (hE : E.length ≤ 2000) (_hN : N ≤ 1000000) :
    Calls Tryd.prog 40 #[.pointer (some ⟨T, 0, none⟩)] w fun e w' => (∃ v, e = .returned v) ∧ Tr w' lo hi T N (begB E) bk mp (whE E) (enE E) (fun q => (shF (begB E) q).map bk) (fun q => (inF E q).map bk) ∧ Only w w' (fun b => lo ≤ b ∧ b < hi) := by
  obtain ⟨i0, hi0, hz0, hz1, hz2⟩ := info_parts infoPtr
  have HH : Hid (Lk w w lo hi T N E bk mp 0 []) := hid0 ⟨by
    rw [lnk_zero (f := fun q => (shF (begB E) q).map bk) rfl, lnk_zero (f := fun q => (inF E q).map bk) rfl]
    exact h, Only.refl _ _⟩
  have HR : Hid (bk [] = T) := hid0 (Tr.rb h)
  have HW : Hid (hi ≤ w.heap.size) := hid0 (Tr.hs h)
  have HI := hid0 hI
  have HL : Hid (∀ q, begB E q = true → q.length ≤ 32) := hid0 (fun q hq => begB_len hl hq)
  have HO : Hid (OwnP (w.alloc (.cells #[.pointer (some ⟨T, 0, none⟩)] 83)) w.heap.size bk (.slice (some ⟨w.heap.size, 0, none⟩) 1 1) [[]]) := hid0 (by
    refine ⟨rfl, .inr ⟨w.heap.size, 1, #[.pointer (some ⟨T, 0, none⟩)], rfl, Nat.le_refl _, heap_alloc_new _ _, Nat.le_refl _, by unfold maxLen; omega, rfl, ?_⟩⟩
    have := Tr.rb h
    simp [this])
  have HN := hid0 hn
  clear h hn hl hI
  go_enter Tryd.func40, Tryd.ntmps40
  go_wp2
  go_loopg [2] 40 (fun k v wr => ∃ (d : Nat) (ps : List (List Int)), Hid (k + d = 40) ∧ Hid (Lev (begB E) d ps) ∧ Hid (OwnP wr w.heap.size bk v ps) ∧ Hid (Lk w wr lo hi T N E bk mp d []))
  case atStart => exact ⟨0, [[]], hid0 rfl, hid0 (lev_zero (begB_nil E)), HO, hid0 (HH.out.past ((Below.refl _ _).alloc (Nat.le_refl _) _))⟩
  case round =>
    obtain ⟨d, ps, HK, HV, HP, HT⟩ := hrel
    obtain ⟨a0, cap0, rfl⟩ := HP.out.form
    clear HO HH
    by_cases hps : ps.length = 0
    · have hq : ¬ (ps.length : Int) > 0 := by omega
      have he : ps = [] := List.length_eq_zero_iff.1 hps
      have HE : Hid (Tr wr lo hi T N (begB E) bk mp (whE E) (enE E) (fun q => (shF (begB E) q).map bk) (fun q => (inF E q).map bk) ∧ Only w wr (fun b => lo ≤ b ∧ b < hi)) := hid0 ⟨HT.out.done (by rw [← he]; exact HV.out), HT.out.on⟩
      clear hps he HP
      go_wp2
      go_returns
      exact ⟨⟨_, rfl⟩, HE.out⟩
    · obtain ⟨g, cap, e1, hg1, hg2, hcell⟩ := HP.out.at (by omega)
      injection e1 with e1 _ e2
      subst e1 e2
      have hq : (ps.length : Int) > 0 := by omega
      have HD : Hid (d ≤ 32) := hid0 (by
        obtain ⟨p, hp⟩ : ∃ p, p ∈ ps := List.exists_mem_of_length_pos (by omega)
        have := HV.out.of' p hp
        have h2 := HL.out p this.1
        omega)
      have HC := hid0 hcell
      have HG : Hid (w.heap.size ≤ g ∧ g < wr.heap.size) := hid0 ⟨hg1, hg2⟩
      have hpl := lev_len HV.out
      clear hcell hg1 hg2 hps
      obtain ⟨wz, hwz⟩ : ∃ wz, wz = wr := ⟨_, rfl⟩
      subst hwz
      go_wp2
      go_loopw [3, 17] (fun v i wr => ∃ (k : Nat) (qs : List (List Int)), k ≤ ps.length ∧ i = .int .i64 (k : Int) ∧ Hid (Mid (begB E) d ps k qs) ∧ Hid (OwnP wr wz.heap.size bk v qs) ∧ Hid (Lk w wr lo hi T N E bk mp d qs) ∧ Hid (Only wz wr (fun b => lo ≤ b ∧ b < hi))) (fun _ i _ => ps.length - (intOf i).toNat)
      case atStart => exact ⟨0, [], Nat.zero_le _, rfl, hid0 (mid_start _ _ _), hid0 (World.ownsRow_nil _ _ _ _), HT, hid0 (Only.refl _ _)⟩
      case round =>
        obtain ⟨k, qs, hk, rfl, HM, HQ, HT2, HZ⟩ := hrel
        by_cases hlt : k < ps.length
        · have hkI : (k : Int) < (ps.length : Int) := by omega
          have hkI0 : (0 : Int) ≤ (k : Int) := by omega
          have hcl : wr.cell? ⟨g, k, none⟩ = some (.pointer (some ⟨bk ps[k], 0, none⟩)) := (HZ.out.cell (p := ⟨g, k, none⟩) HG.out.2 (fun q => by have := HG.out; have := HW.out; have := q.2; simp only at this; omega)).trans (HC.out k hlt)
          have HPp := hid0 (HV.out.of' ps[k] (List.getElem_mem hlt))
          have HPn := hid0 (nodup_take HV.out.nd hlt)
          have HPe : Hid (∃ p, ps[k] = p) := hid0 ⟨_, rfl⟩
          obtain ⟨p, hpe⟩ : ∃ p, ps[k] = p := ⟨_, rfl⟩
          have HPq := hid0 hpe
          rw [hpe] at hcl HPp HPn
          clear hpe HPe
          have hc0 := (HT2.out.tr.nd p HPp.out.1).cells.1
          cases hm : mp p with
          | none =>
            rw [hm] at hc0
            have HM2 : Hid (Mid (begB E) d ps (k + 1) qs) := hid0 (mid3_end (mid3_start (left := fun _ => false) HM.out (fun c hc => by rw [HT2.out.tr.mn p HPp.out.1 hm c] at hc; cases hc)) (fun _ => rfl) hlt HPq.out)
            have hrg := run_range_nilMap (P := Tryd.prog) wr 82 3 83 Tryd.underlying82
            have hnx : ∀ ty, (Instr.next (.pointer (some ⟨wr.heap.size, 0, none⟩)) false ty).run Tryd.prog (wr.alloc (.mapIter none 0 #[] 0)) = _ := fun ty => run_next_nilMap wr ty 0 0 #[]
            have HT4 : Hid (Lk w (wr.alloc (.mapIter none 0 #[] 0)) lo hi T N E bk mp d qs) := hid0 (HT2.out.past ((Below.refl _ _).alloc (Nat.le_refl _) _))
            have HQ4 : Hid (OwnP (wr.alloc (.mapIter none 0 #[] 0)) wz.heap.size bk u3 qs) := hid0 (World.ownsRow.alloc HQ.out _)
            have HZ4 : Hid (Only wz (wr.alloc (.mapIter none 0 #[] 0)) (fun b => lo ≤ b ∧ b < hi)) := hid0 (HZ.out.trans (Only.alloc _ _ (fun _ => False)) (fun _ q => nomatch q))
            clear hm
            generalize bk p = bp at *
            go_wp2
            go_rounds 1
            go_roundw
            case rel => exact ⟨k + 1, qs, hlt, by go_num, HM2, HQ4, HT4, HZ4⟩
            case measure => simp [intOf]; omega
          | some m =>
            rw [hm] at hc0
            obtain ⟨D, hown, hf⟩ := HT2.out.tr.mm p m HPp.out.1 hm
            have HF := hid0 hf
            have HMl := hid0 (HT2.out.tr.ml p m HPp.out.1 hm)
            have HMn : Hid (∀ q, begB E q = true → m ≠ bk q) := hid0 (fun q hq => HT2.out.tr.mne HPp.out.1 hm hq)
            have HS3 : Hid (Mid3 (begB E) d ps k p (Maps.has D) qs) := hid0 (mid3_start HM.out (fun c hc => by
              rw [(HF.out c (HI.out p c hc)).1]
              simp [kidF, hc]))
            clear hm hf
            obtain ⟨wq, hwq⟩ : ∃ wq, wq = wr := ⟨_, rfl⟩
            subst hwq
            generalize hbp : bk p = bp at *
            have HBp := hid0 hbp
            clear hbp
            go_wp2_with (first
              | (at_range; refine wpList_range_own _ rfl _ 82 rfl 3 83 lawI Tryd.underlying82 _ m N _ rfl hown ?_; intro w0 hrg0 hg0 hs0)
              | fail)
            go_frame
            have HLk0 : Hid (Lk w w0 lo hi T N E bk mp d qs) := hid0 (HT2.out.grown hg0 (fun j e => nomatch e) HW.out)
            have HQ0 : Hid (OwnP w0 wz.heap.size bk u3 qs) := hid0 (own_blk HQ.out (fun k e => hg0.block k (World.ownsRow.lt HQ.out k e).2 (by simp)))
            have HZ0 : Hid (Only wz w0 (fun b => lo ≤ b ∧ b < hi)) := hid0 (HZ.out.trans (T := fun _ => False) ⟨hg0.os, hg0.tape, hg0.output, hg0.size, fun k hk _ => hg0.block k hk (by simp)⟩ (fun _ q => nomatch q))
            have HWq : Hid (wz.heap.size ≤ wq.heap.size ∧ w.heap.size ≤ wz.heap.size) := hid0 ⟨HZ.out.size, HT.out.on.size⟩
            clear hg0 hs0 hcl hc0 hown
            go_loopw [3] (fun v wy => ∃ (left : Lit → Bool) (cnt : Nat) (qs' : List (List Int)), wy.ranges Tryd.prog 3 ptrElem m wq.heap.size N D left cnt ∧ Hid (∀ z, left z = true → Maps.has D z = true) ∧ Hid (Mid3 (begB E) d ps k p left qs') ∧ Hid (OwnP wy wz.heap.size bk v qs') ∧ Hid (Lk w wy lo hi T N E bk mp d qs') ∧ Hid (Only wz wy (fun b => lo ≤ b ∧ b < hi))) (fun _ wy => wy.rangeLeft m wq.heap.size)
            case atStart => exact ⟨_, _, qs, hrg0, hid0 (fun _ h => h), HS3, HQ0, HLk0, HZ0⟩
            case round =>
              clear hrg0 HS3 HQ0 HLk0 HZ0 HQ HT2 HM HT HP
              obtain ⟨left, cnt, qs', hrg, HLf, HM3, HQ3, HT3, HZ3⟩ := hrel
              go_wp2_with (first
                | (at_next; refine wpList_next_ranges _ rfl _ rfl 3 lawI ptrElem (fun x : Int => .int .i64 x) ptr (fun key kl hk => by obtain ⟨x, hx, _⟩ := Maps.keyOf_int_inv Tryd.underlying3 hk; exact ⟨x, hx⟩) ptrElem_shape m wq.heap.size N _ _ _ rfl hrg ?_ ?_)
                | fail)
              · intro hc0 hl0
                have HM4 : Hid (Mid (begB E) d ps (k + 1) qs') := hid0 (mid3_end HM3.out hl0 hlt HPq.out)
                clear hrg hc0 hl0
                go_wp2
                go_roundw
                case rel => exact ⟨k + 1, qs', hlt, by go_num, HM4, HQ3, HT3, HZ3⟩
                case measure => simp [intOf]; omega
              · intro x o kl yd yp w2 cnt2 hkey hlk hv hat hrg2 hlt2 hg2 hs2 hen
                obtain ⟨x', ex, rfl, hxw⟩ := Maps.keyOf_int_inv Tryd.underlying3 hkey
                obtain rfl : x = x' := by injection ex
                have hfx := HF.out x hxw
                have hS : begB E (p ++ [x]) = true := by
                  have h1 := HLf.out _ hlk
                  rw [show Lit.int .i64 x = keyI x from rfl, hfx.1] at h1
                  cases hq2 : begB E (p ++ [x]) with
                  | true => rfl
                  | false => simp [kidF, hq2] at h1
                obtain ⟨o', eo, ey⟩ := ptrElem_inv hv
                have hoo : o' = some (bk (p ++ [x])) := by
                  have h1 := hat .nil
                  rw [show Lit.int .i64 x = keyI x from rfl, hfx.2] at h1
                  injection ey with ey _
                  rw [ey] at h1
                  have h2 := optD_inj h1
                  rw [← h2]
                  simp [kidF, hS]
                rw [eo, hoo, ptr_some] at hen ⊢
                have HT4 : Hid (Lk w w2 lo hi T N E bk mp d qs') := hid0 (HT3.out.grown hg2 (fun j e => by cases e; have := HWq.out; omega) HW.out)
                have HQ4 : Hid (OwnP w2 wz.heap.size bk u3 qs') := hid0 (World.ownsRow.kept HQ3.out hg2 (Or.inr (row_ne_iter HQ3.out hrg).symm))
                have HZ4 : Hid (Only wz w2 (fun b => lo ≤ b ∧ b < hi)) := hid0 (HZ3.out.trans (T := fun b => wz.heap.size ≤ b) ⟨hg2.os, hg2.tape, hg2.output, hg2.size, fun k hk hn => hg2.block k hk (fun e => hn (by cases e; exact HWq.out.1))⟩ (fun _ q => .inr q))
                have HKW := hid0 (HT4.out.kid HN.out hS HPp.out.2)
                have HNm : Hid (m ≠ bk (p ++ [x])) := hid0 (HMn.out _ hS)
                have HM5 := hid0 (mid3_step HM3.out HPn.out hlk hS HPp.out.2)
                have HLe : Hid (qs'.length ≤ E.length) := hid0 (level_len HM3.out.nd HM3.out.of')
                have c4 := (HT4.out.tr.nd p HPp.out.1).cells.2.2.2.2.1
                rw [show lnk (Ld d qs') (fun q => (shF (begB E) q).map bk) p = (shF (begB E) p).map bk by simp only [lnk, Ld_low (Nat.le_of_eq HPp.out.2), if_true], HBp.out] at c4
                have HST := hid0 (step_any (shF (begB E) p) x d HT4.out.tr hxw (fun q hq hqd => by simp only [lnk, Ld_low hqd, if_true]) (fun q hq => ⟨(sh_ok HT4.out.tr.rt hq).1, Nat.le_trans (sh_ok HT4.out.tr.rt hq).2 (Nat.le_of_eq HPp.out.2)⟩))
                have HLf2 : Hid (∀ z, (fun z => left z && !z.sameKey (keyI x)) z = true → Maps.has D z = true) := hid0 (fun z hz => HLf.out z (by simp only [Bool.and_eq_true] at hz; exact hz.1))
                have HW2 : Hid (wq.heap.size < w2.heap.size) := hid0 hrg2.lt
                clear hfx hS hkey ex hv hat eo ey hoo hg2 hs2 hxw hlk HT3 HQ3 HZ3 HM3 HT4
                obtain ⟨v4, hv4⟩ : ∃ v4, ptr ((shF (begB E) p).map bk) = v4 := ⟨_, rfl⟩
                rw [hv4] at c4 HST
                clear hv4
                generalize bk (stpF (begB E) (shF (begB E) p) x) = bs at *
                generalize ptr ((inF E (stpF (begB E) (shF (begB E) p) x)).map bk) = vI at *
                generalize decide (stpF (begB E) (shF (begB E) p) x ∈ E) = bw at *
                generalize hbq : bk (p ++ [x]) = bq at *
                have HBq := hid0 hbq
                clear hbq
                have HLo : Hid (lo ≤ bq ∧ bq < hi) := hid0 HKW.out.lo'
                obtain ⟨oI, hoI⟩ := HKW.out.sp
                subst hoI
                rw [show ptr oI = .pointer (oI.map fun b => ⟨b, 0, none⟩) from rfl] at HKW
                generalize (oI.map fun b => (⟨b, 0, none⟩ : Addr)) = aI at *
                obtain ⟨u4, k4⟩ := HKW.out.q4
                obtain ⟨u5, k5⟩ := HKW.out.q5
                have f4 := HKW.out.f4
                have f5 := HKW.out.f5
                have s5 := HKW.out.s5
                have s2 := HKW.out.s2
                have hne := HKW.out.ne
                have hne2 : bs ≠ bq := fun e => hne e.symm
                have nm : some m ≠ some bq := fun e => by injection e with e; exact HNm.out e
                have nr : some wq.heap.size ≠ some bq := fun e => by injection e with e; have := HLo.out; have := HWq.out; have := HW.out; omega
                cases bw with
                | false =>
                  have HT5 : Hid (Lk w ((w2.setCell ⟨bq, 4, none⟩ (.pointer (some ⟨bs, 0, none⟩))).setCell ⟨bq, 5, none⟩ (.pointer aI)) lo hi T N E bk mp d (qs' ++ [p ++ [x]])) := hid0 (HKW.out.no rfl)
                  have HQ5 : Hid (OwnP ((w2.setCell ⟨bq, 4, none⟩ (.pointer (some ⟨bs, 0, none⟩))).setCell ⟨bq, 5, none⟩ (.pointer aI)) wz.heap.size bk u3 qs') := hid0 (HQ4.out.keep (hi := hi) (by have := HWq.out; have := HW.out; omega) (fun k hk => by rw [setCell_block_ne (by have := HLo.out; omega), setCell_block_ne (by have := HLo.out; omega)]))
                  have HZ5 : Hid (Only wz ((w2.setCell ⟨bq, 4, none⟩ (.pointer (some ⟨bs, 0, none⟩))).setCell ⟨bq, 5, none⟩ (.pointer aI)) (fun b => lo ≤ b ∧ b < hi)) := hid0 (HZ4.out.trans ((Only.setCell _ _ _ _).trans (Only.setCell _ _ _ _) (fun i hi => .inl hi)) (fun i hi => .inl (by rw [hi]; exact HLo.out)))
                  have hrg5 : (((w2.setCell ⟨bq, 4, none⟩ (.pointer (some ⟨bs, 0, none⟩))).setCell ⟨bq, 5, none⟩ (.pointer aI))).ranges Tryd.prog 3 ptrElem m wq.heap.size N D (fun z => left z && !z.sameKey (keyI x)) cnt2 := (hrg2.kept (grown_set _ _ _ _) nm nr).kept (grown_set _ _ _ _) nm nr
                  have HR6 : Hid (OwnP (((w2.setCell ⟨bq, 4, none⟩ (.pointer (some ⟨bs, 0, none⟩))).setCell ⟨bq, 5, none⟩ (.pointer aI)).alloc (.cells #[.pointer (some ⟨bq, 0, none⟩)] 83)) wz.heap.size bk u3 qs') := hid0 (World.ownsRow.alloc HQ5.out _)
                  have HN6 : Hid (∀ j u, [Value.pointer (some ⟨bq, 0, none⟩)][j]? = some u → (((w2.setCell ⟨bq, 4, none⟩ (.pointer (some ⟨bs, 0, none⟩))).setCell ⟨bq, 5, none⟩ (.pointer aI)).alloc (.cells #[.pointer (some ⟨bq, 0, none⟩)] 83)).cell? ((⟨w2.heap.size, 0, none⟩ : Addr).add j) = some u) := hid0 (by
                    have h := cell_one_new ((w2.setCell ⟨bq, 4, none⟩ (.pointer (some ⟨bs, 0, none⟩))).setCell ⟨bq, 5, none⟩ (.pointer aI)) (.pointer (some ⟨bq, 0, none⟩)) 83
                    rw [show (((w2.setCell ⟨bq, 4, none⟩ (.pointer (some ⟨bs, 0, none⟩))).setCell ⟨bq, 5, none⟩ (.pointer aI))).heap.size = w2.heap.size by simp [World.setCell]] at h
                    exact h)
                  have hle := HLe.out
                  have hszz := HZ4.out.size
                  clear hrg2 HQ5
                  go_wp2_with (first
                    | (go_at_call 63; go_loud ((
                        refine HST.out.mono ?_
                        rintro e w3 ⟨rfl, hw⟩
                        have hw := hw.symm
                        subst hw)))
                    | (at_builtin; go_loud ((
                        refine wpList_append_own _ rfl _ _ 108 rfl wz.heap.size 83 i0 (.pointer none) 1 8 Tryd.underlying108 hi0 hz0 hz1 hz2 rfl (by decide) u3 qs'.length (qs'.map fun p => Value.pointer (some ⟨bk p, 0, none⟩)) rfl HR6.out ⟨w2.heap.size, 0, none⟩ 1 1 [.pointer (some ⟨bq, 0, none⟩)] rfl rfl HN6.out (by simp [Value.oneCell']) (by unfold maxLen; omega) (by omega) (by simp; omega) ?_
                        intro v' w3 hown' hg3 hnil3
                        go_frame)))
                    | fail)
                  have hrg6 := (hrg5.alloc (.cells #[.pointer (some ⟨bq, 0, none⟩)] 83)).kept hg3 (row_ne_low HR6.out (by have := HMl.out; have := HWq.out; have := HW.out; omega)) (row_ne_iter HR6.out (hrg5.alloc _))
                  go_roundw
                  case rel => exact ⟨_, cnt2, qs' ++ [p ++ [x]], hrg6, HLf2, HM5, hid0 (by unfold OwnP; rw [List.map_append, List.length_append]; simp only [List.map_cons, List.map_nil, HBq.out, List.length_cons, List.length_nil, Nat.zero_add]; exact hown'), hid0 ((HT5.out.past ((Below.refl _ _).alloc (Nat.le_refl _) _)).grown hg3 (fun j e => by have := (World.ownsRow.lt HR6.out j e).1; have := HWq.out; omega) HW.out), hid0 ((HZ5.out.trans (Only.alloc _ _ (fun _ => False)) (fun _ q => nomatch q)).trans (T := fun b => wz.heap.size ≤ b) ⟨hg3.os, hg3.tape, hg3.output, hg3.size, fun k hk hn => hg3.block k hk (fun e => hn (World.ownsRow.lt HR6.out k e.symm).1)⟩ (fun _ q => .inr q))⟩
                  case measure => rw [hrg6.left_eq, hrg.left_eq]; exact hlt2
                | true =>
                  have HT5 : Hid (Lk w (((w2.setCell ⟨bq, 4, none⟩ (.pointer (some ⟨bs, 0, none⟩))).setCell ⟨bq, 5, none⟩ (.pointer aI)).setCell ⟨bq, 5, none⟩ (.pointer (some ⟨bs, 0, none⟩))) lo hi T N E bk mp d (qs' ++ [p ++ [x]])) := hid0 (HKW.out.yes rfl)
                  have HQ5 : Hid (OwnP (((w2.setCell ⟨bq, 4, none⟩ (.pointer (some ⟨bs, 0, none⟩))).setCell ⟨bq, 5, none⟩ (.pointer aI)).setCell ⟨bq, 5, none⟩ (.pointer (some ⟨bs, 0, none⟩))) wz.heap.size bk u3 qs') := hid0 (HQ4.out.keep (hi := hi) (by have := HWq.out; have := HW.out; omega) (fun k hk => by rw [setCell_block_ne (by have := HLo.out; omega), setCell_block_ne (by have := HLo.out; omega), setCell_block_ne (by have := HLo.out; omega)]))
                  have HZ5 : Hid (Only wz (((w2.setCell ⟨bq, 4, none⟩ (.pointer (some ⟨bs, 0, none⟩))).setCell ⟨bq, 5, none⟩ (.pointer aI)).setCell ⟨bq, 5, none⟩ (.pointer (some ⟨bs, 0, none⟩))) (fun b => lo ≤ b ∧ b < hi)) := hid0 (HZ4.out.trans (((Only.setCell _ _ _ _).trans (Only.setCell _ _ _ _) (fun i hi => .inl hi)).trans (Only.setCell _ _ _ _) (fun i hi => .inl hi)) (fun i hi => .inl (by rw [hi]; exact HLo.out)))
                  have hrg5 : ((((w2.setCell ⟨bq, 4, none⟩ (.pointer (some ⟨bs, 0, none⟩))).setCell ⟨bq, 5, none⟩ (.pointer aI)).setCell ⟨bq, 5, none⟩ (.pointer (some ⟨bs, 0, none⟩)))).ranges Tryd.prog 3 ptrElem m wq.heap.size N D (fun z => left z && !z.sameKey (keyI x)) cnt2 := ((hrg2.kept (grown_set _ _ _ _) nm nr).kept (grown_set _ _ _ _) nm nr).kept (grown_set _ _ _ _) nm nr
                  have HR6 : Hid (OwnP ((((w2.setCell ⟨bq, 4, none⟩ (.pointer (some ⟨bs, 0, none⟩))).setCell ⟨bq, 5, none⟩ (.pointer aI)).setCell ⟨bq, 5, none⟩ (.pointer (some ⟨bs, 0, none⟩))).alloc (.cells #[.pointer (some ⟨bq, 0, none⟩)] 83)) wz.heap.size bk u3 qs') := hid0 (World.ownsRow.alloc HQ5.out _)
                  have HN6 : Hid (∀ j u, [Value.pointer (some ⟨bq, 0, none⟩)][j]? = some u → ((((w2.setCell ⟨bq, 4, none⟩ (.pointer (some ⟨bs, 0, none⟩))).setCell ⟨bq, 5, none⟩ (.pointer aI)).setCell ⟨bq, 5, none⟩ (.pointer (some ⟨bs, 0, none⟩))).alloc (.cells #[.pointer (some ⟨bq, 0, none⟩)] 83)).cell? ((⟨w2.heap.size, 0, none⟩ : Addr).add j) = some u) := hid0 (by
                    have h := cell_one_new (((w2.setCell ⟨bq, 4, none⟩ (.pointer (some ⟨bs, 0, none⟩))).setCell ⟨bq, 5, none⟩ (.pointer aI)).setCell ⟨bq, 5, none⟩ (.pointer (some ⟨bs, 0, none⟩))) (.pointer (some ⟨bq, 0, none⟩)) 83
                    rw [show ((((w2.setCell ⟨bq, 4, none⟩ (.pointer (some ⟨bs, 0, none⟩))).setCell ⟨bq, 5, none⟩ (.pointer aI)).setCell ⟨bq, 5, none⟩ (.pointer (some ⟨bs, 0, none⟩)))).heap.size = w2.heap.size by simp [World.setCell]] at h
                    exact h)
                  have hle := HLe.out
                  have hszz := HZ4.out.size
                  clear hrg2 HQ5
                  go_wp2_with (first
                    | (go_at_call 63; go_loud ((
                        refine HST.out.mono ?_
                        rintro e w3 ⟨rfl, hw⟩
                        have hw := hw.symm
                        subst hw)))
                    | (at_builtin; go_loud ((
                        refine wpList_append_own _ rfl _ _ 108 rfl wz.heap.size 83 i0 (.pointer none) 1 8 Tryd.underlying108 hi0 hz0 hz1 hz2 rfl (by decide) u3 qs'.length (qs'.map fun p => Value.pointer (some ⟨bk p, 0, none⟩)) rfl HR6.out ⟨w2.heap.size, 0, none⟩ 1 1 [.pointer (some ⟨bq, 0, none⟩)] rfl rfl HN6.out (by simp [Value.oneCell']) (by unfold maxLen; omega) (by omega) (by simp; omega) ?_
                        intro v' w3 hown' hg3 hnil3
                        go_frame)))
                    | fail)
                  have hrg6 := (hrg5.alloc (.cells #[.pointer (some ⟨bq, 0, none⟩)] 83)).kept hg3 (row_ne_low HR6.out (by have := HMl.out; have := HWq.out; have := HW.out; omega)) (row_ne_iter HR6.out (hrg5.alloc _))
                  go_roundw
                  case rel => exact ⟨_, cnt2, qs' ++ [p ++ [x]], hrg6, HLf2, HM5, hid0 (by unfold OwnP; rw [List.map_append, List.length_append]; simp only [List.map_cons, List.map_nil, HBq.out, List.length_cons, List.length_nil, Nat.zero_add]; exact hown'), hid0 ((HT5.out.past ((Below.refl _ _).alloc (Nat.le_refl _) _)).grown hg3 (fun j e => by have := (World.ownsRow.lt HR6.out j e).1; have := HWq.out; omega) HW.out), hid0 ((HZ5.out.trans (Only.alloc _ _ (fun _ => False)) (fun _ q => nomatch q)).trans (T := fun b => wz.heap.size ≤ b) ⟨hg3.os, hg3.tape, hg3.output, hg3.size, fun k hk hn => hg3.block k hk (fun e => hn (World.ownsRow.lt HR6.out k e.symm).1)⟩ (fun _ q => .inr q))⟩
                  case measure => rw [hrg6.left_eq, hrg.left_eq]; exact hlt2
        · have hkI : ¬ (k : Int) < (ps.length : Int) := by omega
          have HN2 : Hid (Lev (begB E) (d + 1) qs) := hid0 (mid_end HT2.out.tr.cl (by have := HM.out; rw [show k = ps.length by omega] at this; exact this) HV.out)
          go_wp2
          go_roundg (40 - (d + 1))
          case measure => have := HK.out; have := HD.out; omega
          case rel => exact ⟨d + 1, qs, hid0 (by have := HD.out; omega), HN2, hid0 (owns_lower HQ.out (by have := HG.out; omega)), hid0 (HT2.out.next HN2.out)⟩
end Go.Proofs.YtekimkdaoblcgaaDoor
namespace Go.Proofs.YtekimkdaoblcgaaDoor
open Go.RowKit Go.Shelf Go.Lib Go.Maps
/-- The first refusal of entries, those ahead of them being good. -/
def nwK (dn : List (List Int)) : List (List Int) → Option Nat
  | [] => none
  | e :: r =>
    match chkN e with
    | some k => some k
    | none => if e ∈ dn then some 4 else nwK (dn ++ [e]) r
def newE (L : List (List Int)) : Option Nat := if L.length > 2000 then some 2 else nwK [] L
theorem nsB_in {c : Int} (h : nsB c = false) : inI c := by
  simp [nsB] at h
  simp [inI, Lit.wf, IntKind.min, IntKind.max, IntKind.bits, IntKind.signed]
  omega
theorem chkN_none {e : List Int} (h : chkN e = none) : e ≠ [] ∧ e.length ≤ 32 ∧ ∀ c ∈ e, inI c := by
  unfold chkN at h
  split at h
  · cases h
  · rename_i h1
    split at h
    · cases h
    · rename_i h2
      simp only [Bool.or_eq_true, not_or, Bool.not_eq_true] at h1
      refine ⟨fun e0 => by rw [e0] at h1; simp at h1, by omega, fun c hc => nsB_in ?_⟩
      cases hq : nsB c with
      | false => rfl
      | true => rw [List.any_eq_true.2 ⟨c, hc, hq⟩] at h1; cases h1.2
/-- Entries that may be one trie's. -/
structure Good (E : List (List Int)) : Prop where
  chk : ∀ e ∈ E, chkN e = none
  nd : E.Nodup
section
variable {E : List (List Int)}
theorem Good.ne (h : Good E) : [] ∉ E := fun hm => (chkN_none (h.chk _ hm)).1 rfl
theorem Good.len (h : Good E) : ∀ e ∈ E, e.length ≤ 32 := fun e he => (chkN_none (h.chk e he)).2.1
theorem Good.inI (h : Good E) : ∀ p c, begB E (p ++ [c]) = true → inI c := fun p c hc => by
  rcases begB_iff.1 hc with hq | ⟨e, he, hp⟩
  · simp at hq
  · exact (chkN_none (h.chk e he)).2.2 c (hp.subset (by simp))
theorem good_nil : Good [] := ⟨(fun _ h => nomatch h), List.nodup_nil⟩
theorem Good.snoc (h : Good E) {e : List Int} (hc : chkN e = none) (he : e ∉ E) : Good (E ++ [e]) := ⟨fun x hx => by
  rcases List.mem_append.1 hx with hx | hx
  · exact h.chk x hx
  · rw [List.mem_singleton.1 hx]; exact hc, List.nodup_append.2 ⟨h.nd, by simp, fun a ha b hb e1 => he (by rw [List.mem_singleton.1 hb] at e1; rw [← e1]; exact ha)⟩⟩
end
theorem nwK_step {L : List (List Int)} {k : Nat} (hk : k < L.length) : nwK (L.take k) (L.drop k) = match chkN L[k] with
    | some j => some j
    | none => if L[k] ∈ L.take k then some 4 else nwK (L.take (k + 1)) (L.drop (k + 1)) := by
  rw [List.drop_eq_getElem_cons hk, nwK, show L.take (k + 1) = L.take k ++ [L[k]] by rw [List.take_add_one, List.getElem?_eq_getElem hk]; rfl]
/-- A trie of entries. -/
def TrieAt (w : World) (lo hi T : Nat) (E : List (List Int)) (bk : List Int → Nat) (mp : List Int → Option Nat) : Prop := Tr w lo hi T (szK E E.length) (begB E) bk mp (whE E) (enE E) (fun q => (shF (begB E) q).map bk) (fun q => (inF E q).map bk)
/-- What New answers. -/
def NewR (w : World) (L : List (List Int)) (A : Nat → Addr) (r : Ending) (w' : World) : Prop :=
  Below w.heap.size w w' ∧ ((∃ k, newE L = some k ∧ r = .returned (.tuple #[.pointer none, .iface 129 (.pointer (some (A k)))])) ∨ (newE L = none ∧ Good L ∧ ∃ T hi bk mp, r = .returned (.tuple #[.pointer (some ⟨T, 0, none⟩), .nilIface]) ∧ TrieAt w' w.heap.size hi T L bk mp))
theorem bt_new (w : World) : Bt (w.alloc (.cells #[.map none, .int .i64 0, .bool false, .int .i64 0, .pointer none, .pointer none, .int .i64 0] 87)) w.heap.size (w.heap.size + 1) w.heap.size 0 (begB []) [] (fun _ => w.heap.size) (fun _ => none) := by
  have hb : ∀ q, begB [] q = true → q = [] := fun q hq => by
    rcases begB_iff.1 hq with h | ⟨e, he, _⟩
    · exact h
    · cases he
  exact {
    rt := rfl
    rb := rfl
    cl := fun p c h => begB_front h
    nd := fun p hp => by
      rw [hb p hp]
      exact ⟨[.int .i64 0], _, heap_alloc_new _ _⟩
    lh := fun p _ => ⟨Nat.le_refl _, Nat.lt_succ_self _⟩
    inj := fun p q hp hq _ => by rw [hb p hp, hb q hq]
    mm := fun p m _ h => by cases h
    ml := fun p m _ h => by cases h
    mi := fun p q m _ _ h => by cases h
    mn := fun p hp _ c => by
      cases hq : begB [] (p ++ [c]) with
      | false => rfl
      | true =>
        have := hb _ hq
        simp at this
    be := by
      rw [cell_of_row _ _ _ _ _ _ (heap_alloc_new _ _)]
      rfl
    hs := by simp }
theorem szK_take {L : List (List Int)} {k : Nat} (hk : k < L.length) : szK L (k + 1) = szK L k + newC (L.take k) L[k] L[k].length := by
  simp only [szK, List.getD_eq_getElem?_getD, List.getElem?_eq_getElem hk, Option.getD_some]
theorem szK_front (L : List (List Int)) (k j : Nat) (h : j ≤ k) : szK (L.take k) j = szK L j := by
  induction j with
  | zero => rfl
  | succ j ih =>
    simp only [szK]
    rw [ih (by omega), List.take_take, Nat.min_eq_left (by omega), List.getD_eq_getElem?_getD, List.getElem?_take_of_lt (by omega), List.getD_eq_getElem?_getD]
end Go.Proofs.YtekimkdaoblcgaaDoor
