/-
  MkJW, MkMM, MkLM, MkKW.
-/
import Derived.Test.YtjemjccgfgijiaaDoorMhg
import Derived.Test.YtjemjccgfgijiaaDoorMhe
import Derived.Test.YtjemjccgfgijiaaDoorMhh
import Derived.Test.YtjemjccgfgijiaaDoorMhf
namespace Go.Proofs.YtjemjccgfgijiaaDoor
open Go.RowKit Go.Shelf
theorem infoBool : (Tryd.prog.info? 4).map (fun i => (i.zero, i.size, i.bytes)) = some (some (.bool false), 1, 1) := by kernel_rfl
def OwnBo (w : World) (base : Nat) (v : Value) (B : List Bool) : Prop := w.ownsRow base 4 1 v B.length (B.map Value.bool)
/-- All numbers below n, each once. -/
structure Prm (n : Nat) (Q : List Nat) : Prop where
  once : Q.Nodup
  lt : ∀ x ∈ Q, x < n
  all : ∀ x, x < n → x ∈ Q
/-- The numbers taken so far, and which are. -/
structure OrdI (n : Nat) (Q : List Nat) (B : List Bool) : Prop where
  len : B.length = n
  once : Q.Nodup
  lt : ∀ x ∈ Q, x < n
  is : ∀ k, k < n → (B.getD k false = true ↔ k ∈ Q)
theorem OrdI.zero (n : Nat) : OrdI n [] (List.replicate n false) := ⟨by simp, List.nodup_nil, (fun x h => by cases h), fun k hk => by
  rw [List.getD_eq_getElem?_getD, List.getElem?_replicate]
  simp [hk]⟩
theorem OrdI.add {n : Nat} {Q : List Nat} {B : List Bool} (h : OrdI n Q B) {p : Nat} (hp : p < n) (hb : B.getD p false = false) : OrdI n (Q ++ [p]) (B.set p true) := by
  have hnp : p ∉ Q := fun hm => by have := (h.is p hp).2 hm; rw [hb] at this; cases this
  refine ⟨by rw [List.length_set]; exact h.len, ?_, fun x hx => ?_, fun k hk => ?_⟩
  · rw [List.nodup_append]
    refine ⟨h.once, by simp, fun a ha b hb' => ?_⟩
    rw [List.mem_singleton] at hb'
    rw [hb']
    exact fun e => hnp (e ▸ ha)
  · rcases List.mem_append.1 hx with hx | hx
    · exact h.lt x hx
    · rw [List.mem_singleton] at hx; rw [hx]; exact hp
  · have hl := h.len
    rw [List.getD_eq_getElem?_getD, List.getElem?_set, List.mem_append, List.mem_singleton]
    by_cases e : p = k
    · subst e
      rw [if_pos rfl, if_pos (by omega)]
      simp
    · rw [if_neg e, ← List.getD_eq_getElem?_getD, h.is k hk]
      constructor
      · exact fun h => .inl h
      · rintro (h | h)
        · exact h
        · exact absurd h.symm e
/-- The rest, in their order. -/
structure OrdR (n i : Nat) (Q : List Nat) (B : List Bool) : Prop where
  once : Q.Nodup
  lt : ∀ x ∈ Q, x < n
  past : ∀ k, k < i → k ∈ Q
  rest : ∀ k, i ≤ k → k < n → (B.getD k false = true ↔ k ∈ Q)
theorem OrdI.rest {n : Nat} {Q : List Nat} {B : List Bool} (h : OrdI n Q B) : OrdR n 0 Q B := ⟨h.once, h.lt, fun _k hk => absurd hk (Nat.not_lt_zero _), fun k _ hk => h.is k hk⟩
theorem OrdR.step {n i : Nat} {Q : List Nat} {B : List Bool} (h : OrdR n i Q B) (hi : i < n) (hb : B.getD i false = true) : OrdR n (i + 1) Q B := ⟨h.once, h.lt, fun k hk => by
  by_cases e : k = i
  · rw [e]; exact (h.rest i (Nat.le_refl _) hi).1 hb
  · exact h.past k (by omega), fun k h1 h2 => h.rest k (by omega) h2⟩
theorem OrdR.take {n i : Nat} {Q : List Nat} {B : List Bool} (h : OrdR n i Q B) (hi : i < n) (hb : B.getD i false = false) : OrdR n (i + 1) (Q ++ [i]) B := by
  have hnp : i ∉ Q := fun hm => by have := (h.rest i (Nat.le_refl _) hi).2 hm; rw [hb] at this; cases this
  refine ⟨?_, fun x hx => ?_, fun k hk => ?_, fun k h1 h2 => ?_⟩
  · rw [List.nodup_append]
    refine ⟨h.once, by simp, fun a ha b hb' => ?_⟩
    rw [List.mem_singleton] at hb'
    rw [hb']
    exact fun e => hnp (e ▸ ha)
  · rcases List.mem_append.1 hx with hx | hx
    · exact h.lt x hx
    · rw [List.mem_singleton] at hx; rw [hx]; exact hi
  · rw [List.mem_append, List.mem_singleton]
    by_cases e : k = i
    · exact .inr e
    · exact .inl (h.past k (by omega))
  · rw [List.mem_append, List.mem_singleton, h.rest k (by omega) h2]
    constructor
    · exact fun h => .inl h
    · rintro (h | h)
      · exact h
      · omega
theorem OrdR.done {n : Nat} {Q : List Nat} {B : List Bool} (h : OrdR n n Q B) : Prm n Q := ⟨h.once, h.lt, h.past⟩
theorem Prm.len {n : Nat} {Q : List Nat} (h : Prm n Q) : Q.length = n := by
  refine Nat.le_antisymm (nodup_le n Q h.once h.lt) ?_
  have := nodup_le Q.length ((List.range n).map (fun x => Q.idxOf x)) ?_ ?_
  · simpa using this
  · refine List.pairwise_map.2 (List.Pairwise.imp_of_mem ?_ List.nodup_range)
    intro a b ha hb hne e
    have h1 := h.all a (List.mem_range.1 ha)
    have h2 := h.all b (List.mem_range.1 hb)
    have e1 := List.getElem_idxOf (List.idxOf_lt_length_of_mem h1)
    have e2 := List.getElem_idxOf (List.idxOf_lt_length_of_mem h2)
    apply hne
    rw [← e1, ← e2]
    simp only [e]
  · intro x hx
    obtain ⟨y, hy, rfl⟩ := List.mem_map.1 hx
    exact List.idxOf_lt_length_of_mem (h.all y (List.mem_range.1 hy))
end Go.Proofs.YtjemjccgfgijiaaDoor
namespace Go.Proofs.YtjemjccgfgijiaaDoor
/-- Whose double a state is. -/
def dbF (Q : List Nat) (i : Nat) : Nat := Q.getD (i % Q.length) 0
def dbC (N : List (List Int)) (Q : List Nat) (i c : Nat) : Nat := Q.idxOf (nxF N (dbF Q i) c) + Q.length * ((i + c) % 2)
def dbN (N : List (List Int)) (Q : List Nat) (m : Nat) : List (List Int) := (List.range (2 * Q.length)).map fun i => (List.range m).map fun c => ((dbC N Q i c : Nat) : Int)
def dbO (O : List (List Int)) (Q : List Nat) : List (List Int) := (List.range (2 * Q.length)).map fun i => outF O (dbF Q i)
theorem Prm.at {n : Nat} {Q : List Nat} (h : Prm n Q) {y : Nat} (hy : y < n) : Q.idxOf y < Q.length ∧ Q.getD (Q.idxOf y) 0 = y := by
  have h1 := List.idxOf_lt_length_of_mem (h.all y hy)
  exact ⟨h1, by rw [List.getD_eq_getElem?_getD, List.getElem?_eq_getElem h1]; exact List.getElem_idxOf h1⟩
theorem Prm.get {n : Nat} {Q : List Nat} (h : Prm n Q) {i : Nat} (hi : i < Q.length) : Q.getD i 0 < n ∧ Q.idxOf (Q.getD i 0) = i := by
  have e : Q.getD i 0 = Q[i] := by rw [List.getD_eq_getElem?_getD, List.getElem?_eq_getElem hi]; rfl
  rw [e]
  exact ⟨h.lt _ (List.getElem_mem hi), h.once.idxOf_getElem i hi⟩
theorem dbF_lt {n : Nat} {Q : List Nat} (h : Prm n Q) (hn : 0 < n) (i : Nat) : dbF Q i < n := (h.get (Nat.mod_lt _ (by rw [h.len]; exact hn))).1
theorem dbN_at {N : List (List Int)} {Q : List Nat} {m i c : Nat} (hi : i < 2 * Q.length) (hc : c < m) : nxF (dbN N Q m) i c = dbC N Q i c := by
  have e : (dbN N Q m).getD i [] = (List.range m).map fun c => ((dbC N Q i c : Nat) : Int) := by
    rw [dbN, List.getD_eq_getElem?_getD, List.getElem?_map, List.getElem?_range hi]
    rfl
  rw [nxF, e, List.getD_eq_getElem?_getD, List.getElem?_map, List.getElem?_range hc]
  simp
theorem dbO_at {O : List (List Int)} {Q : List Nat} {i : Nat} (hi : i < 2 * Q.length) : outF (dbO O Q) i = outF O (dbF Q i) := by
  rw [outF, dbO, List.getD_eq_getElem?_getD, List.getElem?_map, List.getElem?_range hi]
  rfl
theorem dbC_lt {st : Int} {N O : List (List Int)} {m : Nat} (hm : May st N O m) {Q : List Nat} (h : Prm N.length Q) {i c : Nat} (hc : c < m) : dbC N Q i c < 2 * Q.length ∧ dbF Q (dbC N Q i c) = nxF N (dbF Q i) c := by
  have h0 : 0 < N.length := by have := hm.start; omega
  have h1 := (hm.next (dbF_lt h h0 i) hc).1
  obtain ⟨h2, h3⟩ := h.at h1
  have h4 : (i + c) % 2 = 0 ∨ (i + c) % 2 = 1 := by omega
  unfold dbC
  generalize nxF N (dbF Q i) c = y at *
  rcases h4 with e | e
  · rw [e, Nat.mul_zero, Nat.add_zero]
    refine ⟨by omega, ?_⟩
    unfold dbF
    rw [Nat.mod_eq_of_lt h2]
    exact h3
  · rw [e, Nat.mul_one]
    refine ⟨by omega, ?_⟩
    unfold dbF
    rw [Nat.add_mod_right, Nat.mod_eq_of_lt h2]
    exact h3
theorem dbl_len (N O : List (List Int)) (Q : List Nat) (m : Nat) : (dbN N Q m).length = 2 * Q.length ∧ (dbO O Q).length = 2 * Q.length := by
  unfold dbN dbO
  simp
theorem dbl_may {st : Int} {N O : List (List Int)} {m : Nat} (hmay : mayF st N O (m : Int) = true) {Q : List Nat} (h : Prm N.length Q) {s : Nat} (hs : s < 2 * Q.length) : mayF (s : Int) (dbN N Q m) (dbO O Q) (m : Int) = true := by
  obtain ⟨n', hn', hm⟩ := mayF_may hmay
  obtain rfl : m = n' := by omega
  have h0 : 0 < N.length := by have := hm.start; omega
  have hq := h.len
  obtain ⟨l1, l2⟩ := dbl_len N O Q m
  refine mayF_start (mayF_of (by omega) (by omega) ?_ ?_ ?_) (by omega)
  · intro r hr
    obtain ⟨i, hi, rfl⟩ := List.mem_map.1 hr
    simp
  · intro r hr z hz
    obtain ⟨i, hi, rfl⟩ := List.mem_map.1 hr
    obtain ⟨c, hc, rfl⟩ := List.mem_map.1 hz
    have := (dbC_lt hm h (i := i) (List.mem_range.1 hc)).1
    rw [l1]
    omega
  · intro r hr
    obtain ⟨i, hi, rfl⟩ := List.mem_map.1 hr
    have hlt := dbF_lt h h0 i
    have hlo : dbF Q i < O.length := by have := hm.out; omega
    have e : outF O (dbF Q i) = O[dbF Q i] := by rw [outF, List.getD_eq_getElem?_getD, List.getElem?_eq_getElem hlo]; rfl
    rw [e]
    exact upF_rise hmay _ (List.getElem_mem hlo)
theorem dbl_lang {s0 : Nat} {N O : List (List Int)} {m : Nat} (hm : May (s0 : Int) N O m) {Q : List Nat} (h : Prm N.length Q) : SameL m (nxF N) (nxF (dbN N Q m)) (outF O) (outF (dbO O Q)) s0 (Q.idxOf s0 + Q.length) := by
  have h0 : 0 < N.length := by have := hm.start; omega
  have hs : s0 < N.length := by have := hm.start; omega
  obtain ⟨h2, h3⟩ := h.at hs
  have hst : dbF Q (Q.idxOf s0 + Q.length) = s0 := by
    unfold dbF
    rw [Nat.add_mod_right, Nat.mod_eq_of_lt h2]
    exact h3
  intro u hu
  have hin : ∀ x c, x < 2 * Q.length → c < m → nxF (dbN N Q m) x c < 2 * Q.length := fun x c hx hc => by rw [dbN_at hx hc]; exact (dbC_lt hm h hc).1
  have hhom := runW_hom (φ := dbF Q) hin (fun x c hx hc => by rw [dbN_at hx hc]; exact (dbC_lt hm h hc).2.symm) u (Q.idxOf s0 + Q.length) (by omega) hu
  rw [hst] at hhom
  rw [dbO_at (runW_in hin u _ (by omega) hu), hhom]
/-- The double is small. -/
theorem dbl_sml {st : Int} {N O : List (List Int)} {m : Nat} (hm : May st N O m) {Q : List Nat} (h : Prm N.length Q) (h1 : 2 * N.length ≤ 2200000) (h2 : 2 * (N.length * m) ≤ 2200000) (h3 : m ≤ 2200000) (h4 : ∀ r ∈ O, r.length ≤ 2200000) (h5 : ∀ r ∈ O, ∀ z ∈ r, z < 9223372036854775808) : SmlO (dbN N Q m) (dbO O Q) := by
  have h0 : 0 < N.length := by have := hm.start; omega
  have hq := h.len
  obtain ⟨l1, l2⟩ := dbl_len N O Q m
  have hrow : ∀ r ∈ dbN N Q m, r.length = m := fun r hr => by
    obtain ⟨i, hi, rfl⟩ := List.mem_map.1 hr
    simp
  have hout : ∀ r ∈ dbO O Q, r ∈ O := fun r hr => by
    obtain ⟨i, hi, rfl⟩ := List.mem_map.1 hr
    have hlt := dbF_lt h h0 i
    have hlo : dbF Q i < O.length := by have := hm.out; omega
    have e : outF O (dbF Q i) = O[dbF Q i] := by rw [outF, List.getD_eq_getElem?_getD, List.getElem?_eq_getElem hlo]; rfl
    rw [e]
    exact List.getElem_mem hlo
  refine ⟨by omega, fun r hr => by rw [hrow r hr]; exact h3, fun r hr => h4 r (hout r hr), fun r hr => h5 r (hout r hr), fun k hk => ?_⟩
  have hp : 0 < (dbN N Q m).length := by omega
  have e1 := hk _ (List.getElem_mem hp)
  have e2 := hrow _ (List.getElem_mem hp)
  obtain rfl : k = m := by omega
  rw [l1, hq, Nat.mul_assoc]
  exact h2
end Go.Proofs.YtjemjccgfgijiaaDoor
namespace Go.Proofs.YtjemjccgfgijiaaDoor
open Go.RowKit Go.Shelf
/-- What a list that is put behind a machine's lists leaves alone. -/
structure FrM (W W' : World) (lo X : Nat) : Prop where
  os : W'.os = W.os
  tape : W'.tape = W.tape
  output : W'.output = W.output
  size : W.heap.size ≤ W'.heap.size
  keep : ∀ b c t, W.heap[b]? = some (.cells c t (0, 0)) → t ≠ 25 → b ≠ X → W'.heap[b]? = W.heap[b]?
  low : ∀ b, b < lo → b < W.heap.size → W'.heap[b]? = W.heap[b]?
theorem FrM.below {w W W' : World} {lo X : Nat} (h : FrM W W' lo X) (hb : Below lo w W) (hlo : lo ≤ w.heap.size) : Below lo w W' := ⟨h.os.trans hb.os, h.tape.trans hb.tape, h.output.trans hb.output, Nat.le_trans hb.size h.size, fun k hk => (h.low k hk (by have := hb.size; omega)).trans (hb.block k hk)⟩
theorem FrM.own {W W' : World} {lo lo2 X : Nat} {v : Value} {L : List Int} (h : FrM W W' lo X) (hX : ∃ c, W.heap[X]? = some (.cells c 24 (0, 0))) (ho : OwnI W lo2 v L) : OwnI W' lo2 v L := own_blk ho (fun k hk => by
  obtain ⟨c, hc⟩ := own_ty ho hk
  obtain ⟨c2, hc2⟩ := hX
  exact h.keep k c _ hc (by decide) (blk_ne hc hc2 (by decide)))
structure MkM (W : World) (lo X : Nat) (st : Int) (vN vO : Value) (pN pO : Lot) : Prop where
  box : W.heap[X]? = some (.cells #[.int .i64 st, vN, vO] 24 (0, 0))
  bN : Bag W lo vN pN
  bO : Bag W lo vO pO
  away : ∀ g, vN.ownBlock = some g → vO.ownBlock ≠ some g
  loX : lo ≤ X
theorem MkM.past {W W' : World} {lo X : Nat} {st : Int} {vN vO : Value} {pN pO : Lot} (h : MkM W lo X st vN vO pN pO) (hb : Below W.heap.size W W') : MkM W' lo X st vN vO pN pO := ⟨(hb.block _ (Array.getElem?_eq_some_iff.1 h.box).1).trans h.box, h.bN.later hb, h.bO.later hb, h.away, h.loX⟩
theorem mkM_new {W : World} {lo X : Nat} {st : Int} (hb : W.heap[X]? = some (.cells #[.int .i64 st, .slice none 0 0, .slice none 0 0] 24 (0, 0))) (hl : lo ≤ X) : MkM W lo X st (.slice none 0 0) (.slice none 0 0) [] [] := ⟨hb, Bag.nil _ _, Bag.nil _ _, (fun g h => by cases h), hl⟩
/-- A bag to which a row of one's own is put. -/
theorem Bag.snoc2 {wr w1 : World} {base : Nat} {v v' x : Value} {ps : Lot} {l : List Int} {o : Obj} (h : Bag wr base v ps) (hx : OwnI wr base x l) (hxr : ∀ y ∈ ps, ∀ g, y.1.ownBlock = some g → x.ownBlock ≠ some g)
    (hown' : w1.ownsRow base 25 1 v' (ps.length + 1) (ps.map (·.1) ++ [x])) (hgrow : (wr.alloc o).grownBy w1 v.ownBlock) (hat : v'.ownBlock = v.ownBlock ∨ v'.ownBlock = some (wr.alloc o).heap.size) : Bag w1 base v' (ps ++ [(x, l)]) := by
  have ty : ∀ {u : Value} {m : List Int} {b g : Nat}, OwnI wr b u m → v.ownBlock = some g → u.ownBlock ≠ some g := fun hu hg hug => by
    obtain ⟨c1, k1⟩ := own_ty hu hug
    obtain ⟨c2, k2⟩ := own_ty h.outer hg
    exact blk_ne k1 k2 (by decide) rfl
  have old : ∀ (u : Value) (m : List Int) (b : Nat), OwnI wr b u m → OwnI w1 b u m := fun u m b hu => by
    refine World.ownsRow.kept (World.ownsRow.alloc hu o) hgrow ?_
    cases e : u.ownBlock with
    | none => exact .inl rfl
    | some g => exact .inr fun hc => ty hu hc.symm e
  refine ⟨?_, ?_, ?_, ?_⟩
  · rw [List.length_append, List.map_append]
    exact hown'
  · intro y hy
    rcases List.mem_append.1 hy with hy | hy
    · exact old _ _ _ (h.row y hy)
    · rw [List.mem_singleton] at hy
      subst hy
      exact old _ _ _ hx
  · rw [List.pairwise_append]
    refine ⟨h.apart, List.pairwise_singleton _ _, ?_⟩
    intro y hy z hz g hg hzg
    rw [List.mem_singleton] at hz
    subst hz
    exact hxr y hy g hg hzg
  · intro y hy g hg hyg
    have hlt : g < wr.heap.size := by
      rcases List.mem_append.1 hy with hy | hy
      · exact (World.ownsRow.lt (h.row y hy) g hyg).2
      · rw [List.mem_singleton] at hy
        subst hy
        exact (World.ownsRow.lt hx g hyg).2
    rcases hat with hat | hat
    · rw [hat] at hg
      rcases List.mem_append.1 hy with hy | hy
      · exact ty (h.row y hy) hg hyg
      · rw [List.mem_singleton] at hy
        subst hy
        exact ty hx hg hyg
    · rw [hat] at hg
      simp at hg
      omega
theorem grown_fr {wr w1 : World} {o : Obj} {lo X n : Nat} {off : Nat} {v u : Value} {xs : List Value} (hv : wr.ownsRow lo 25 1 v n xs) (hgrow : (wr.alloc o).grownBy w1 v.ownBlock) (hloX : lo ≤ X) : FrM wr (w1.setCell ⟨X, off, none⟩ u) lo X := by
  have key : ∀ b, b < wr.heap.size → v.ownBlock ≠ some b → b ≠ X → (w1.setCell ⟨X, off, none⟩ u).heap[b]? = wr.heap[b]? := fun b hb hne hbX => by
    rw [Below.heap_setCell _ _ _ _ hbX]
    rw [hgrow.block b (by simp; omega) (fun e => hne e.symm)]
    exact Below.heap_alloc wr o b hb
  refine ⟨?_, ?_, ?_, ?_, fun b c t hb ht hbX => ?_, fun b hb hbs => ?_⟩
  · exact hgrow.os
  · exact hgrow.tape
  · exact hgrow.output
  · have := hgrow.size
    simp [World.setCell] at this ⊢
    omega
  · refine key b (Array.getElem?_eq_some_iff.1 hb).1 (fun hv2 => ?_) hbX
    obtain ⟨c2, k2⟩ := own_ty hv hv2
    exact blk_ne hb k2 ht rfl
  · refine key b hbs (fun hv2 => ?_) (by omega)
    have := (World.ownsRow.lt hv b hv2).1
    omega
theorem MkM.addN {wr w1 : World} {lo X : Nat} {st : Int} {vN vO v' x : Value} {pN pO : Lot} {l : List Int} {o : Obj} (h : MkM wr lo X st vN vO pN pO) (hx : OwnI wr lo x l) (hxr : ∀ y ∈ pN, ∀ g, y.1.ownBlock = some g → x.ownBlock ≠ some g)
    (hown' : w1.ownsRow lo 25 1 v' (pN.length + 1) (pN.map (·.1) ++ [x])) (hgrow : (wr.alloc o).grownBy w1 vN.ownBlock) (hat : v'.ownBlock = vN.ownBlock ∨ v'.ownBlock = some (wr.alloc o).heap.size) :
    w1.heap[X]? = some (.cells #[.int .i64 st, vN, vO] 24 (0, 0)) ∧ MkM (w1.setCell ⟨X, 1, none⟩ v') lo X st v' vO (pN ++ [(x, l)]) pO ∧ FrM wr (w1.setCell ⟨X, 1, none⟩ v') lo X := by
  have hfr : FrM wr (w1.setCell ⟨X, 1, none⟩ v') lo X := grown_fr h.bN.outer hgrow h.loX
  have hXlt := (Array.getElem?_eq_some_iff.1 h.box).1
  have hb1 : w1.heap[X]? = some (.cells #[.int .i64 st, vN, vO] 24 (0, 0)) := by
    rw [hgrow.block X (by simp; omega) (fun hv => by
      obtain ⟨c2, k2⟩ := own_ty h.bN.outer hv.symm
      exact blk_ne h.box k2 (by decide) rfl), Below.heap_alloc wr o X hXlt]
    exact h.box
  have hO : ∀ k, vO.ownBlock = some k → w1.heap[k]? = wr.heap[k]? := fun k hk => by
    have hlt := (World.ownsRow.lt h.bO.outer k hk).2
    rw [hgrow.block k (by simp; omega) (fun hv => h.away k hv.symm hk), Below.heap_alloc wr o k hlt]
  have bO1 : Bag w1 lo vO pO := ⟨own_blk h.bO.outer hO, fun y hy => own_blk (h.bO.row y hy) (fun k hk => by
    have hlt := (World.ownsRow.lt (h.bO.row y hy) k hk).2
    rw [hgrow.block k (by simp; omega) (fun hv => by
      obtain ⟨c1, k1⟩ := own_ty (h.bO.row y hy) hk
      obtain ⟨c2, k2⟩ := own_ty h.bN.outer hv.symm
      exact blk_ne k1 k2 (by decide) rfl), Below.heap_alloc wr o k hlt]), h.bO.apart, h.bO.away⟩
  have bN1 := h.bN.snoc2 hx hxr hown' hgrow hat
  refine ⟨hb1, ⟨heap_setCell_same w1 X 1 _ _ v' hb1, bN1.only2 (Only.setCell w1 X 1 v') hb1, bO1.only2 (Only.setCell w1 X 1 v') hb1, fun g hg hO2 => ?_, h.loX⟩, hfr⟩
  rcases hat with hat | hat
  · rw [hat] at hg
    exact h.away g hg hO2
  · rw [hat] at hg
    have := (World.ownsRow.lt h.bO.outer g hO2).2
    simp at hg
    omega
theorem MkM.addO {wr w1 : World} {lo X : Nat} {st : Int} {vN vO v' x : Value} {pN pO : Lot} {l : List Int} {o : Obj} (h : MkM wr lo X st vN vO pN pO) (hx : OwnI wr lo x l) (hxr : ∀ y ∈ pO, ∀ g, y.1.ownBlock = some g → x.ownBlock ≠ some g)
    (hown' : w1.ownsRow lo 25 1 v' (pO.length + 1) (pO.map (·.1) ++ [x])) (hgrow : (wr.alloc o).grownBy w1 vO.ownBlock) (hat : v'.ownBlock = vO.ownBlock ∨ v'.ownBlock = some (wr.alloc o).heap.size) :
    w1.heap[X]? = some (.cells #[.int .i64 st, vN, vO] 24 (0, 0)) ∧ MkM (w1.setCell ⟨X, 2, none⟩ v') lo X st vN v' pN (pO ++ [(x, l)]) ∧ FrM wr (w1.setCell ⟨X, 2, none⟩ v') lo X := by
  have hfr : FrM wr (w1.setCell ⟨X, 2, none⟩ v') lo X := grown_fr h.bO.outer hgrow h.loX
  have hXlt := (Array.getElem?_eq_some_iff.1 h.box).1
  have hb1 : w1.heap[X]? = some (.cells #[.int .i64 st, vN, vO] 24 (0, 0)) := by
    rw [hgrow.block X (by simp; omega) (fun hv => by
      obtain ⟨c2, k2⟩ := own_ty h.bO.outer hv.symm
      exact blk_ne h.box k2 (by decide) rfl), Below.heap_alloc wr o X hXlt]
    exact h.box
  have hN : ∀ k, vN.ownBlock = some k → w1.heap[k]? = wr.heap[k]? := fun k hk => by
    have hlt := (World.ownsRow.lt h.bN.outer k hk).2
    rw [hgrow.block k (by simp; omega) (fun hv => h.away k hk hv.symm), Below.heap_alloc wr o k hlt]
  have bN1 : Bag w1 lo vN pN := ⟨own_blk h.bN.outer hN, fun y hy => own_blk (h.bN.row y hy) (fun k hk => by
    have hlt := (World.ownsRow.lt (h.bN.row y hy) k hk).2
    rw [hgrow.block k (by simp; omega) (fun hv => by
      obtain ⟨c1, k1⟩ := own_ty (h.bN.row y hy) hk
      obtain ⟨c2, k2⟩ := own_ty h.bO.outer hv.symm
      exact blk_ne k1 k2 (by decide) rfl), Below.heap_alloc wr o k hlt]), h.bN.apart, h.bN.away⟩
  have bO1 := h.bO.snoc2 hx hxr hown' hgrow hat
  refine ⟨hb1, ⟨heap_setCell_same w1 X 2 _ _ v' hb1, bN1.only2 (Only.setCell w1 X 2 v') hb1, bO1.only2 (Only.setCell w1 X 2 v') hb1, fun g hg hO2 => ?_, h.loX⟩, hfr⟩
  rcases hat with hat | hat
  · rw [hat] at hO2
    exact h.away g hg hO2
  · rw [hat] at hO2
    have := (World.ownsRow.lt h.bN.outer g hg).2
    simp at hO2
    omega
theorem MkM.c {W : World} {lo X : Nat} {st : Int} {vN vO : Value} {pN pO : Lot} (h : MkM W lo X st vN vO pN pO) : W.cell? ⟨X, 0, none⟩ = some (.int .i64 st) ∧ W.cell? ⟨X, 1, none⟩ = some vN ∧ W.cell? ⟨X, 2, none⟩ = some vO ∧ ∀ k, W.frozen? ⟨X, k, none⟩ = false := by
  refine ⟨?_, ?_, ?_, fun k => by simp [World.frozen?, h.box]⟩ <;> (rw [cell_of_row _ _ _ _ _ _ h.box]; rfl)
theorem box_c {W : World} {X : Nat} {a b c : Value} (h : W.heap[X]? = some (.cells #[a, b, c] 24 (0, 0))) : W.cell? ⟨X, 0, none⟩ = some a ∧ W.cell? ⟨X, 1, none⟩ = some b ∧ W.cell? ⟨X, 2, none⟩ = some c ∧ ∀ k, W.frozen? ⟨X, k, none⟩ = false := by
  refine ⟨?_, ?_, ?_, fun k => by simp [World.frozen?, h]⟩ <;> (rw [cell_of_row _ _ _ _ _ _ h]; rfl)
/-- Two lists of lists of one's own. -/
def DbB (lo : Nat) (W : World) (vD vE : Value) (ND OD : List (List Int)) : Prop := ∃ pD pE : Lot, Bag W lo vD pD ∧ Bag W lo vE pE ∧ pD.map (·.2) = ND ∧ pE.map (·.2) = OD
theorem DbB.later {lo : Nat} {W W' : World} {vD vE : Value} {ND OD : List (List Int)} (h : DbB lo W vD vE ND OD) (hb : Below W.heap.size W W') : DbB lo W' vD vE ND OD := by
  obtain ⟨pD, pE, h1, h2, h3⟩ := h
  exact ⟨pD, pE, h1.later hb, h2.later hb, h3⟩
theorem DbB.only2 {lo R : Nat} {W U : World} {vD vE : Value} {ND OD : List (List Int)} {rc : Array Value} (h : DbB lo W vD vE ND OD) (ho : Only W U (fun b => b = R)) (hr : W.heap[R]? = some (.cells rc 24 (0, 0))) : DbB lo U vD vE ND OD := by
  obtain ⟨pD, pE, h1, h2, h3⟩ := h
  exact ⟨pD, pE, h1.only2 ho hr, h2.only2 ho hr, h3⟩
theorem DbB.rwa {lo : Nat} {W : World} {aD aE : Option Addr} {lD lE cD cE : Nat} {ND OD : List (List Int)} (h : DbB lo W (.slice aD lD cD) (.slice aE lE cE) ND OD) : RwA W aD ND ∧ RwA W aE OD ∧ lD = ND.length ∧ lE = OD.length := by
  obtain ⟨pD, pE, h1, h2, rfl, rfl⟩ := h
  obtain ⟨a, c, e1, q1⟩ := h1.rwq
  obtain ⟨b, d, e2, q2⟩ := h2.rwq
  injection e1 with e3 e4 _
  injection e2 with e5 e6 _
  subst e3
  subst e5
  exact ⟨q1.rwa, q2.rwa, e4, e6⟩
end Go.Proofs.YtjemjccgfgijiaaDoor
namespace Go.Proofs.YtjemjccgfgijiaaDoor
open Go.RowKit Go.Shelf
theorem own_snoc {w wr w1 : World} {base n size : Nat} {e : TypeId} {v : Value} {xs : List Value} {o : Obj} (hown : wr.ownsRow base e size v n xs) (hgrow : (wr.alloc o).grownBy w1 v.ownBlock) (hbel : Below base w wr) (hb : base ≤ w.heap.size) : Below base w w1 :=
  (hbel.alloc (by have := hbel.size; omega) o).grown hgrow (by have := hbel.size; simp; omega) (fun k hk => (World.ownsRow.lt hown k hk).1)
theorem own_keep {wr w1 : World} {lo lo2 n n2 size size2 : Nat} {e e2 : TypeId} {v u : Value} {xs ys : List Value} {o : Obj} (hu : wr.ownsRow lo2 e2 size2 u n2 ys) (hv : wr.ownsRow lo e size v n xs) (hne : e ≠ e2) (hgrow : (wr.alloc o).grownBy w1 v.ownBlock) : w1.ownsRow lo2 e2 size2 u n2 ys := by
  refine World.ownsRow.kept (World.ownsRow.alloc hu o) hgrow ?_
  cases h1 : u.ownBlock with
  | none => exact .inl rfl
  | some g =>
    refine .inr fun hc => ?_
    obtain ⟨c1, k1⟩ := own_ty hu h1
    obtain ⟨c2, k2⟩ := own_ty hv hc.symm
    rw [k1] at k2
    injection k2 with k2
    injection k2 with _ k3
    exact hne k3.symm
theorem own_sl {w : World} {base n size : Nat} {e : TypeId} {v : Value} {xs : List Value} (h : w.ownsRow base e size v n xs) : ∃ a c, v = .slice a n c := by
  rcases h.2 with ⟨rfl, hn⟩ | ⟨g, cap, cur, rfl, _⟩
  · exact ⟨none, 0, by rw [hn]⟩
  · exact ⟨_, cap, rfl⟩
set_option maxRecDepth 10000 in
set_option maxHeartbeats 3200000 in
theorem order_any (l : List Int) (n : Nat) (a : Option Addr) (cap : Nat) (w : World) (hn : 0 < n) (hnb : n ≤ 2200000) (hl : l.length ≤ 2200000) (ha : IA w a l) :
    Calls Tryd.prog 19 #[.slice a l.length cap, .int .i64 (n : Int)] w fun e w' => ∃ v Q, e = .returned v ∧ OwnI w' w.heap.size v (natI Q) ∧ Prm n Q ∧ Below w.heap.size w w' := by
  obtain ⟨i0, hi, hz0, hz1, hz2⟩ := info_parts infoBool
  obtain ⟨j0, hj, hy0, hy1, hy2⟩ := info_parts infoInt
  have HA := hid0 ha
  clear ha
  go_enter Tryd.func19, Tryd.ntmps19
  go_wp2
  go_loopw [6, 7] (fun v i wr => ∃ k : Nat, k ≤ n ∧ i = .int .i64 (k : Int) ∧ Hid (OwnBo wr w.heap.size v (List.replicate k false)) ∧ Hid (Below w.heap.size w wr)) (fun _ i _ => n - (intOf i).toNat)
  case atStart => exact ⟨0, Nat.zero_le _, rfl, hid0 (World.ownsRow_nil _ _ _ _), hid0 (Below.refl _ _)⟩
  case round =>
    obtain ⟨k, hk, rfl, HO, HB⟩ := hrel
    have hbs := HB.out.size
    by_cases hlt : k < n
    · have hkI : (k : Int) < (n : Int) := by omega
      have HOk : Hid (wr.ownsRow w.heap.size 4 1 u6 k (List.replicate k (.bool false))) := hid0 (by have h := HO.out; unfold OwnBo at h; rw [List.length_replicate, List.map_replicate] at h; exact h)
      clear HO
      obtain ⟨av, cv, ev⟩ := own_sl HOk.out
      subst ev
      go_wp2_with (at_builtin; go_loud ((
        refine wpList_append_own_at _ rfl _ _ 67 rfl w.heap.size 4 i0 (.bool false) 1 1 Tryd.underlying67 hi hz0 hz1 hz2 rfl (by decide) (.slice av k cv) k (List.replicate k (.bool false)) rfl (World.ownsRow.alloc HOk.out _) ⟨wr.heap.size, 0, none⟩ 1 1 [.bool false] rfl rfl (cell_one_new _ _ _) (by simp [Value.oneCell']) (by unfold maxLen; omega) (by omega) (by simp; omega) ?_
        intro v2 w3 hown2 hgrow2 _ _
        have HB3 := hid0 (own_snoc HOk.out hgrow2 HB.out (Nat.le_refl _))
        have HO3 : Hid (OwnBo w3 w.heap.size v2 (List.replicate (k + 1) false)) := hid0 (by unfold OwnBo; rw [List.length_replicate, List.map_replicate, List.replicate_succ']; exact hown2)
        clear hown2 hgrow2)))
      go_roundw
      case rel => exact ⟨k + 1, by omega, by go_num, HO3, HB3⟩
      case measure => simp [intOf]; omega
    · have hkI : ¬ (k : Int) < (n : Int) := by omega
      obtain rfl : k = n := by omega
      have hO := HO.out
      obtain ⟨gs, cs, e6, hg1, hg2, hg3⟩ := own_form hO (by rw [List.length_replicate]; exact hn)
      rw [List.length_replicate] at e6
      subst e6
      clear hO
      go_wp2
      go_loopw [5, 8] (fun vo i wr => ∃ (q : Nat) (Q : List Nat) (B : List Bool), q ≤ l.length ∧ i = .int .i64 (q : Int) ∧ Hid (wr.ownsRow w.heap.size 4 1 (.slice (some ⟨gs, 0, none⟩) k cs) k (B.map Value.bool)) ∧ Hid (OwnI wr w.heap.size vo (natI Q)) ∧ Hid (OrdI k Q B) ∧ Hid (Below w.heap.size w wr)) (fun _ i _ => l.length - (intOf i).toNat)
      case atStart => exact ⟨0, [], List.replicate k false, Nat.zero_le _, rfl, hid0 (by have h := HO.out; unfold OwnBo at h; rw [List.length_replicate] at h; exact h), hid0 (World.ownsRow_nil _ _ _ _), hid0 (OrdI.zero k), HB⟩
      case round =>
        clear HO HB
        obtain ⟨q, Q, B, hq, rfl, HBo, HQ, HOr, HB⟩ := hrel
        have hbs2 := HB.out.size
        have hm0 : (k : Int) > 0 := by omega
        by_cases hql : q < l.length
        · have hqI : (q : Int) < (l.length : Int) := by omega
          have hqI0 : (0 : Int) ≤ (q : Int) := by omega
          obtain ⟨bl, ol, rfl, _, dl⟩ := (HA.out.past HB.out).at' q hql
          have hp := pickN_lt l[q] k hn
          have HP := hid0 (pick_at l[q] k hn (by omega) wr)
          have hBl := HOr.out.len
          have hcell := World.ownsRow.cellAt HBo.out (pickN l[q] k) (by omega)
          have hfr := World.ownsRow.frozenAt HBo.out (pickN l[q] k)
          have hcell' : wr.cell? ⟨gs, pickN l[q] k, none⟩ = some (.bool (B.getD (pickN l[q] k) false)) := by
            rw [hcell, List.getElem?_map, List.getD_eq_getElem?_getD, List.getElem?_eq_getElem (by omega)]
            rfl
          have HBl := hid0 hBl
          clear hcell hBl
          generalize pickN l[q] k = p at *
          have hpI : (p : Int) < (k : Int) := by omega
          have hpI0 : (0 : Int) ≤ (p : Int) := by omega
          cases hb : B.getD p false with
          | true =>
            rw [hb] at hcell'
            clear hb
            go_wp2_with (go_at_call 34; refine HP.out.mono ?_; rintro e w1 ⟨rfl, hw1⟩; subst hw1)
            go_roundw
            case rel => exact ⟨q + 1, Q, B, by omega, by go_num, HBo, HQ, HOr, HB⟩
            case measure => simp [intOf]; omega
          | false =>
            rw [hb] at hcell'
            have HOr2 := hid0 (HOr.out.add hp hb)
            obtain ⟨ws, hws⟩ : ∃ ws, ws = wr.setCell ⟨gs, p, none⟩ (.bool true) := ⟨_, rfl⟩
            have HBo2 : Hid (ws.ownsRow w.heap.size 4 1 (.slice (some ⟨gs, 0, none⟩) k cs) k ((B.set p true).map Value.bool)) := hid0 (by
              have h := (World.ownsRow.stored HBo.out p (.bool true)).1
              rw [hws, List.map_set]
              exact h)
            have HQ2 : Hid (OwnI ws w.heap.size u5 (natI Q)) := hid0 (by
              rw [hws]
              refine own_blk HQ.out (fun g hg => ?_)
              obtain ⟨c1, k1⟩ := own_ty HQ.out hg
              obtain ⟨c2, k2⟩ := own_ty HBo.out (k := gs) rfl
              exact Below.heap_setCell _ _ _ _ (blk_ne k1 k2 (by decide)))
            have HB2 : Hid (Below w.heap.size w ws) := hid0 (by
              rw [hws]
              exact HB.out.trans ((Only.setCell wr gs p (.bool true)).below HB.out.size (fun i hi => by rw [hi]; exact hg1)))
            have hQl : (natI Q).length ≤ 2200000 := by
              rw [natI_len]
              have := nodup_le k Q HOr.out.once HOr.out.lt
              omega
            have HQe := hid0 (natI_snoc Q p)
            have hws' := hws.symm
            clear hws hb HBo HQ HOr HB
            have hbs3 := HB2.out.size
            generalize (natI Q) = X at *
            obtain ⟨av, cv, ev, _⟩ := HQ2.out.ia
            subst ev
            go_wp2_with (first
              | (go_at_call 34; refine HP.out.mono ?_; rintro e w1 ⟨rfl, hw1⟩; subst hw1)
              | (at_builtin; go_loud ((
                  refine wpList_append_own_at _ rfl _ _ 25 rfl w.heap.size 3 j0 (.int .i64 0) 1 8 Tryd.underlying25 hj hy0 hy1 hy2 rfl (by decide) _ X.length (X.map (Value.int .i64)) rfl (World.ownsRow.alloc HQ2.out _) ⟨ws.heap.size, 0, none⟩ 1 1 [.int .i64 (p : Int)] rfl rfl (cell_one_new _ _ _) (by simp [Value.oneCell']) (by unfold maxLen; omega) (by omega) (by simp; omega) ?_
                  intro v2 w3 hown2 hgrow2 _ _
                  have R := ownI_snoc rfl HQ2.out hown2 hgrow2 HB2.out (Nat.le_refl _)
                  have HO3 := hid0 R.1
                  have HB3 := hid0 R.2
                  have HBo3 := hid0 (own_keep HBo2.out HQ2.out (by decide) hgrow2)
                  clear R hown2 hgrow2))))
            go_roundw
            case rel => exact ⟨q + 1, Q ++ [p], B.set p true, by omega, by go_num, HBo3, hid0 (by rw [HQe.out]; exact HO3.out), HOr2, HB3⟩
            case measure => simp [intOf]; omega
        · have hqI : ¬ (q : Int) < (l.length : Int) := by omega
          have HR0 := hid0 HOr.out.rest
          go_wp2
          go_loopw [5, 10] (fun vo i wr => ∃ (i' : Nat) (Q : List Nat), i' ≤ k ∧ i = .int .i64 (i' : Int) ∧ Hid (wr.ownsRow w.heap.size 4 1 (.slice (some ⟨gs, 0, none⟩) k cs) k (B.map Value.bool)) ∧ Hid (OwnI wr w.heap.size vo (natI Q)) ∧ Hid (OrdR k i' Q B) ∧ Hid (Below w.heap.size w wr)) (fun _ i _ => k - (intOf i).toNat)
          case atStart => exact ⟨0, Q, Nat.zero_le _, rfl, HBo, HQ, HR0, HB⟩
          case round =>
            have HBl := hid0 HOr.out.len
            clear HBo HQ HR0 HB HOr
            obtain ⟨i', Q, hi', rfl, HBo, HQ, HOr, HB⟩ := hrel
            have hbs3 := HB.out.size
            by_cases hil : i' < k
            · have hiI : (i' : Int) < (k : Int) := by omega
              have hiI0 : (0 : Int) ≤ (i' : Int) := by omega
              have hcell := World.ownsRow.cellAt HBo.out i' (by omega)
              have hcell' : wr.cell? ⟨gs, i', none⟩ = some (.bool (B.getD i' false)) := by
                have := HBl.out
                rw [hcell, List.getElem?_map, List.getD_eq_getElem?_getD, List.getElem?_eq_getElem (by omega)]
                rfl
              clear hcell
              cases hb : B.getD i' false with
              | true =>
                rw [hb] at hcell'
                have HOr2 := hid0 (HOr.out.step hil hb)
                clear hb
                go_wp2
                go_roundw
                case rel => exact ⟨i' + 1, Q, by omega, by go_num, HBo, HQ, HOr2, HB⟩
                case measure => simp [intOf]; omega
              | false =>
                rw [hb] at hcell'
                have HOr2 := hid0 (HOr.out.take hil hb)
                have hQl : (natI Q).length ≤ 2200000 := by
                  rw [natI_len]
                  have := nodup_le k Q HOr.out.once HOr.out.lt
                  omega
                have HQe := hid0 (natI_snoc Q i')
                clear hb HOr
                generalize (natI Q) = X at *
                obtain ⟨av, cv, ev, _⟩ := HQ.out.ia
                subst ev
                go_wp2_with (at_builtin; go_loud ((
                  refine wpList_append_own_at _ rfl _ _ 25 rfl w.heap.size 3 j0 (.int .i64 0) 1 8 Tryd.underlying25 hj hy0 hy1 hy2 rfl (by decide) _ X.length (X.map (Value.int .i64)) rfl (World.ownsRow.alloc HQ.out _) ⟨wr.heap.size, 0, none⟩ 1 1 [.int .i64 (i' : Int)] rfl rfl (cell_one_new _ _ _) (by simp [Value.oneCell']) (by unfold maxLen; omega) (by omega) (by simp; omega) ?_
                  intro v2 w3 hown2 hgrow2 _ _
                  have R := ownI_snoc rfl HQ.out hown2 hgrow2 HB.out (Nat.le_refl _)
                  have HO3 := hid0 R.1
                  have HB3 := hid0 R.2
                  have HBo3 := hid0 (own_keep HBo.out HQ.out (by decide) hgrow2)
                  clear R hown2 hgrow2)))
                go_roundw
                case rel => exact ⟨i' + 1, Q ++ [i'], by omega, by go_num, HBo3, hid0 (by rw [HQe.out]; exact HO3.out), HOr2, HB3⟩
                case measure => simp [intOf]; omega
            · have hiI : ¬ (i' : Int) < (k : Int) := by omega
              have e : i' = k := by omega
              have HPr : Hid (Prm k Q) := hid0 (by have h := HOr.out; rw [e] at h; exact h.done)
              clear e
              go_wp2
              go_ret
              exact ⟨_, rfl, Q, HQ.out, HPr.out, HB.out⟩
end Go.Proofs.YtjemjccgfgijiaaDoor
