/-
  MrM, SentW, MrBW, PlAW, PlM, PlCW, PlDW, PlEW, PlFW, PlGM, PlGW.
-/
import Derived.Test.YtlkgghbdgjomkaaDoorProg
import Derived.WalkKit
import Derived.WalkSpells
import Derived.WalkLawsBesides
import Derived.Deep.QuietTactic
import Derived.BigQuiet
import Derived.LaidEql
import Derived.KernelRfl
import Derived.Handy
import Derived.Maps.AppendAt
import Derived.Shelf.Abstract
import Derived.Lib.SlicesS
import Derived.Deep.DeepAppendRoom
import Derived.Deep.AppendLies
import Derived.Deep.RegionHeld3
import Derived.Lib.SmallJoins
import Derived.Deep.Cut
import Derived.Laws.CopyOwn
import Derived.Laws.OwnMore
import Derived.OwnWalk
namespace Go.Proofs.YtlkgghbdgjomkaaDoor
/-- Is it one of so many? -/
def oneOf (n : Nat) (z : Int) : Bool := decide (0 ≤ z) && decide (z < (n : Int))
/-- Does a list rise, from lo on to below cnt? -/
def riseF (cnt : Int) : Int → List Int → Bool
  | _, [] => true
  | lo, z :: l => decide (lo ≤ z) && decide (z < cnt) && riseF cnt (z + 1) l
def rowF (n : Nat) (sy pa : Int) (r o : List Int) : Bool := decide ((r.length : Int) = sy) && r.all (oneOf n) && riseF pa 0 o
/-- May a machine be? -/
def chkF (st : Int) (N O : List (List Int)) (sy pa : Int) : Bool :=
  decide (1 ≤ sy ∧ sy ≤ 16384 ∧ 0 ≤ pa ∧ 1 ≤ N.length ∧ N.length ≤ 16384 ∧ O.length = N.length ∧ (N.length : Int) * sy ≤ 4194304) && oneOf N.length st && (List.range N.length).all fun j => rowF N.length sy pa (N.getD j []) (O.getD j [])
/-- The state to which a symbol leads. -/
def stepF (N : List (List Int)) (s : Nat) (z : Int) : Option Nat :=
  if 0 ≤ z ∧ z < ((N.getD s []).length : Int) then (if oneOf N.length ((N.getD s []).getD z.toNat 0) then some ((N.getD s []).getD z.toNat 0).toNat else none) else none
def goF (N : List (List Int)) : List Int → Nat → List Int → Option (List Int)
  | acc, _, [] => some acc
  | acc, s, z :: l => match stepF N s z with | none => none | some t => goF N (acc ++ [(t : Int)]) t l
/-- The states of a run; none: it is refused. -/
def runF (N : List (List Int)) (st : Int) (l : List Int) : Option (List Int) := if oneOf N.length st then goF N [st] st.toNat l else none
theorem oneOf_iff (n : Nat) (z : Int) : oneOf n z = true ↔ 0 ≤ z ∧ z < (n : Int) := by unfold oneOf; simp
theorem oneOf_not (n : Nat) (z : Int) : oneOf n z = false ↔ ¬ (0 ≤ z ∧ z < (n : Int)) := by rw [← oneOf_iff]; simp
theorem goF_len (N : List (List Int)) : ∀ (l acc : List Int) (s : Nat) (r : List Int), goF N acc s l = some r → r.length = acc.length + l.length := by
  intro l
  induction l with
  | nil => intro acc s r h; rw [goF] at h; cases h; simp
  | cons z l ih =>
    intro acc s r h
    rw [goF] at h
    split at h
    · cases h
    · have := ih _ _ _ h
      simp at this ⊢
      omega
theorem runF_len {N : List (List Int)} {st : Int} {l r : List Int} (h : runF N st l = some r) : r.length = l.length + 1 := by
  unfold runF at h
  split at h
  · have := goF_len N _ _ _ _ h
    simp at this
    omega
  · cases h
theorem goF_drop {N : List (List Int)} {acc l : List Int} {s k : Nat} (hk : k < l.length) : goF N acc s (l.drop k) = match stepF N s l[k] with | none => none | some t => goF N (acc ++ [(t : Int)]) t (l.drop (k + 1)) := by
  rw [List.drop_eq_getElem_cons hk, goF]
theorem riseF_drop {cnt lo : Int} {l : List Int} {k : Nat} (hk : k < l.length) : riseF cnt lo (l.drop k) = (decide (lo ≤ l[k]) && decide (l[k] < cnt) && riseF cnt (l[k] + 1) (l.drop (k + 1))) := by
  rw [List.drop_eq_getElem_cons hk, riseF]
theorem riseF_end {cnt lo : Int} {l : List Int} {k : Nat} (hk : l.length ≤ k) : riseF cnt lo (l.drop k) = true := by
  rw [List.drop_of_length_le hk, riseF]
theorem all_drop {n : Nat} {l : List Int} {k : Nat} (hk : k < l.length) : (l.drop k).all (oneOf n) = (oneOf n l[k] && (l.drop (k + 1)).all (oneOf n)) := by
  rw [List.drop_eq_getElem_cons hk, List.all_cons]
theorem all_end {n : Nat} {l : List Int} {k : Nat} (hk : l.length ≤ k) : (l.drop k).all (oneOf n) = true := by
  rw [List.drop_of_length_le hk, List.all_nil]
/-- Rows that were looked at, and one more. -/
theorem range_snoc {p : Nat → Bool} {k : Nat} (h : (List.range k).all p = true) (hk : p k = true) : (List.range (k + 1)).all p = true := by
  rw [List.range_succ, List.all_append, h, List.all_cons, hk]; rfl
theorem range_bad {p : Nat → Bool} {k n : Nat} (hk : k < n) (h : p k = false) : (List.range n).all p = false := by
  rw [List.all_eq_false]
  exact ⟨k, List.mem_range.2 hk, by simp [h]⟩
end Go.Proofs.YtlkgghbdgjomkaaDoor
namespace Go.Proofs.YtlkgghbdgjomkaaDoor
open Go.RowKit
theorem hid1 {p : Prop} (h : p) : Hid p := h
/-- The eleven refusals: each variable's cell, each its own object. -/
structure Sents (w : World) (A : Nat → Addr) : Prop where
  c0 : w.cell? ⟨1, 0, none⟩ = some (.iface 79 (.pointer (some (A 0))))
  c1 : w.cell? ⟨2, 0, none⟩ = some (.iface 79 (.pointer (some (A 1))))
  c2 : w.cell? ⟨0, 0, none⟩ = some (.iface 79 (.pointer (some (A 2))))
  c3 : w.cell? ⟨3, 0, none⟩ = some (.iface 79 (.pointer (some (A 3))))
  c4 : w.cell? ⟨4, 0, none⟩ = some (.iface 79 (.pointer (some (A 4))))
  c5 : w.cell? ⟨6, 0, none⟩ = some (.iface 79 (.pointer (some (A 5))))
  c6 : w.cell? ⟨5, 0, none⟩ = some (.iface 79 (.pointer (some (A 6))))
  c7 : w.cell? ⟨7, 0, none⟩ = some (.iface 79 (.pointer (some (A 7))))
  c8 : w.cell? ⟨8, 0, none⟩ = some (.iface 79 (.pointer (some (A 8))))
  c9 : w.cell? ⟨9, 0, none⟩ = some (.iface 79 (.pointer (some (A 9))))
  c10 : w.cell? ⟨10, 0, none⟩ = some (.iface 79 (.pointer (some (A 10))))
  ne : ∀ i j, i < 11 → j < 11 → i ≠ j → A i ≠ A j
  blk : ∀ i, i < 11 → ∃ c t, w.heap[(A i).block]? = some (.cells c t (0, 0))
theorem compErr : (Tryd.prog.info? 79).map (·.comparable) = some true := by kernel_rfl
theorem sizeErr : (Tryd.prog.info? 97).map (·.size) = some 1 := by kernel_rfl
theorem Sents.eql {w : World} {A : Nat → Addr} (h : Sents w A) (i j : Nat) (hi : i < 11) (hj : j < 11) :
    (binOp .eql 33 (.iface 79 (.pointer (some (A i)))) (.iface 79 (.pointer (some (A j))))).run Tryd.prog w = .ok (.bool (decide (i = j))) w := by
  obtain ⟨ti, h1, h2⟩ := Option.map_eq_some_iff.1 compErr
  obtain ⟨tj, h3, h4⟩ := Option.map_eq_some_iff.1 sizeErr
  by_cases e : i = j
  · subst e
    rw [run_eql_iface_ptr_same w (A i) Tryd.underlying33 Tryd.underlying79 h1 h2 h3]
    simp
  · obtain ⟨ca, ta, ha⟩ := h.blk i hi
    obtain ⟨cb, tb, hb⟩ := h.blk j hj
    rw [run_eql_iface_ptr_other w Tryd.underlying33 Tryd.underlying79 h1 h2 h3 (by rw [h4]; decide) (h.ne i j hi hj e) ha hb]
    simp [e]
theorem Sents.below {w w' : World} {A : Nat → Addr} (h : Sents w A) (hb : Below w.heap.size w w') : Sents w' A where
  c0 := (hb.cell (p := ⟨1, 0, none⟩) (World.block_lt_of_cell? w _ h.c0)).trans h.c0
  c1 := (hb.cell (p := ⟨2, 0, none⟩) (World.block_lt_of_cell? w _ h.c1)).trans h.c1
  c2 := (hb.cell (p := ⟨0, 0, none⟩) (World.block_lt_of_cell? w _ h.c2)).trans h.c2
  c3 := (hb.cell (p := ⟨3, 0, none⟩) (World.block_lt_of_cell? w _ h.c3)).trans h.c3
  c4 := (hb.cell (p := ⟨4, 0, none⟩) (World.block_lt_of_cell? w _ h.c4)).trans h.c4
  c5 := (hb.cell (p := ⟨6, 0, none⟩) (World.block_lt_of_cell? w _ h.c5)).trans h.c5
  c6 := (hb.cell (p := ⟨5, 0, none⟩) (World.block_lt_of_cell? w _ h.c6)).trans h.c6
  c7 := (hb.cell (p := ⟨7, 0, none⟩) (World.block_lt_of_cell? w _ h.c7)).trans h.c7
  c8 := (hb.cell (p := ⟨8, 0, none⟩) (World.block_lt_of_cell? w _ h.c8)).trans h.c8
  c9 := (hb.cell (p := ⟨9, 0, none⟩) (World.block_lt_of_cell? w _ h.c9)).trans h.c9
  c10 := (hb.cell (p := ⟨10, 0, none⟩) (World.block_lt_of_cell? w _ h.c10)).trans h.c10
  ne := h.ne
  blk := fun i hi => by
    obtain ⟨c, t, hc⟩ := h.blk i hi
    exact ⟨c, t, (hb.block _ (Array.getElem?_eq_some_iff.1 hc).1).trans hc⟩
/-- The number of the refusal at a place of the list. -/
def refNo (i : Nat) : Int := [1, 2, 3, 4, 5, 7, 6, 8, 9, 10, 11].getD i 0
set_option maxRecDepth 10000 in
set_option maxHeartbeats 1600000 in
theorem kitNum_at (w : World) (A : Nat → Addr) (h : Sents w A) (i : Nat) (hi : i < 11) :
    Calls Tryd.prog 19 #[.iface 79 (.pointer (some (A i)))] w fun e w' => e = .returned (.int .i64 (refNo i)) ∧ w' = w := by
  have d0 := h.c0
  have d1 := h.c1
  have d2 := h.c2
  have d3 := h.c3
  have d4 := h.c4
  have d5 := h.c5
  have d6 := h.c6
  have d7 := h.c7
  have d8 := h.c8
  have d9 := h.c9
  have d10 := h.c10
  have hq := fun j => h.eql i j hi
  clear h
  have h11 : i = 0 ∨ i = 1 ∨ i = 2 ∨ i = 3 ∨ i = 4 ∨ i = 5 ∨ i = 6 ∨ i = 7 ∨ i = 8 ∨ i = 9 ∨ i = 10 := by omega
  clear hi
  have q0 := hq 0 (by omega)
  have q1 := hq 1 (by omega)
  have q2 := hq 2 (by omega)
  have q3 := hq 3 (by omega)
  have q4 := hq 4 (by omega)
  have q5 := hq 5 (by omega)
  have q6 := hq 6 (by omega)
  have q7 := hq 7 (by omega)
  have q8 := hq 8 (by omega)
  have q9 := hq 9 (by omega)
  have q10 := hq 10 (by omega)
  clear hq
  rcases h11 with rfl | rfl | rfl | rfl | rfl | rfl | rfl | rfl | rfl | rfl | rfl
  all_goals
    go_enter Tryd.func19, Tryd.ntmps19
    go_wp2
    go_ret
    exact ⟨rfl, rfl⟩
set_option maxRecDepth 10000 in
theorem kitNum_nil (w : World) : Calls Tryd.prog 19 #[.nilIface] w fun e w' => e = .returned (.int .i64 0) ∧ w' = w := by
  go_enter Tryd.func19, Tryd.ntmps19
  go_wp2
  go_ret
  exact ⟨rfl, rfl⟩
end Go.Proofs.YtlkgghbdgjomkaaDoor
namespace Go.Proofs.YtlkgghbdgjomkaaDoor
open Go.RowKit Go.Shelf
theorem hid0 {p : Prop} (h : p) : Hid p := h
/-- w' is w, but for new blocks and the blocks of S. -/
structure Only (w w' : World) (S : Nat → Prop) : Prop where
  os : w'.os = w.os
  tape : w'.tape = w.tape
  output : w'.output = w.output
  size : w.heap.size ≤ w'.heap.size
  block : ∀ k, k < w.heap.size → ¬ S k → w'.heap[k]? = w.heap[k]?
theorem Only.refl (w : World) (S : Nat → Prop) : Only w w S := ⟨rfl, rfl, rfl, Nat.le_refl _, fun _ _ _ => rfl⟩
theorem Only.trans {a b c : World} {S T : Nat → Prop} (h : Only a b S) (k : Only b c T) (hT : ∀ i, T i → S i ∨ a.heap.size ≤ i) : Only a c S :=
  ⟨k.os.trans h.os, k.tape.trans h.tape, k.output.trans h.output, Nat.le_trans h.size k.size, fun i hi hS =>
    (k.block i (Nat.lt_of_lt_of_le hi h.size) (fun ht => (hT i ht).elim hS (fun h => absurd hi (Nat.not_lt.2 h)))).trans (h.block i hi hS)⟩
theorem Only.drewN (w : World) (n : Nat) (S : Nat → Prop) : Only w (w.drewN n) S := ⟨rfl, rfl, rfl, Nat.le_refl _, fun _ _ _ => rfl⟩
theorem Only.alloc (w : World) (o : Obj) (S : Nat → Prop) : Only w (w.alloc o) S := ⟨rfl, rfl, rfl, by simp, fun k hk _ => Below.heap_alloc w o k hk⟩
theorem Only.setCell (w : World) (b off : Nat) (u : Value) : Only w (w.setCell ⟨b, off, none⟩ u) (fun k => k = b) := ⟨rfl, rfl, rfl, by simp [World.setCell], fun k _ h => Below.heap_setCell w _ u k h⟩
theorem Only.mono {w w' : World} {S T : Nat → Prop} (h : Only w w' S) (hs : ∀ i, S i → T i) : Only w w' T := ⟨h.os, h.tape, h.output, h.size, fun i hi ht => h.block i hi (fun s => ht (hs i s))⟩
theorem Only.below {w w' : World} {S : Nat → Prop} {B : Nat} (h : Only w w' S) (hB : B ≤ w.heap.size) (hs : ∀ i, S i → B ≤ i) : Below B w w' :=
  ⟨h.os, h.tape, h.output, h.size, fun i hi => h.block i (by omega) (fun s => by have := hs i s; omega)⟩
theorem Only.ofBelow {w w' : World} {B : Nat} (h : Below B w w') (S : Nat → Prop) (hs : ∀ i, B ≤ i → i < w.heap.size → S i) : Only w w' S :=
  ⟨h.os, h.tape, h.output, h.size, fun i hi hn => h.block i (Nat.lt_of_not_le fun hb => hn (hs i hb hi))⟩
theorem Only.cell {w w' : World} {S : Nat → Prop} (h : Only w w' S) {p : Addr} (hp : p.block < w.heap.size) (hn : ¬ S p.block) : w'.cell? p = w.cell? p := World.cell?_of_block (w := w) (h.block p.block hp hn)
theorem info_parts {t : TypeId} {z : Value} {n b : Nat} (h : (Tryd.prog.info? t).map (fun i => (i.zero, i.size, i.bytes)) = some (some z, n, b)) : ∃ i, Tryd.prog.info? t = some i ∧ i.zero = some z ∧ i.size = n ∧ i.bytes = b := by
  cases hq : Tryd.prog.info? t with
  | none => rw [hq] at h; cases h
  | some i =>
    rw [hq] at h
    simp only [Option.map_some, Option.some.injEq, Prod.mk.injEq] at h
    exact ⟨i, rfl, h.1, h.2.1, h.2.2⟩
theorem cell_one_new (w : World) (v : Value) (t : TypeId) : ∀ j u, [v][j]? = some u → (w.alloc (.cells #[v] t)).cell? ((⟨w.heap.size, 0, none⟩ : Addr).add j) = some u := by
  intro j u h
  rw [Addr.add_lit, cell_of_row _ w.heap.size _ _ _ _ (heap_alloc_new w _), Nat.zero_add]
  simpa using h
theorem Below.later {w a b : World} (h : Below w.heap.size w a) (k : Below a.heap.size a b) : Below w.heap.size w b :=
  ⟨k.os.trans h.os, k.tape.trans h.tape, k.output.trans h.output, Nat.le_trans h.size k.size, fun i hi => (k.block i (Nat.lt_of_lt_of_le hi h.size)).trans (h.block i hi)⟩
/-- cur is wk as far as the blocks from lo on go that wk has. -/
structure Agree (wk cur : World) (lo : Nat) : Prop where
  size : wk.heap.size ≤ cur.heap.size
  block : ∀ k, lo ≤ k → k < wk.heap.size → cur.heap[k]? = wk.heap[k]?
theorem Agree.refl (w : World) (lo : Nat) : Agree w w lo := ⟨Nat.le_refl _, fun _ _ _ => rfl⟩
theorem Agree.only {wk cur cur' : World} {lo : Nat} {S : Nat → Prop} (h : Agree wk cur lo) (ho : Only cur cur' S) (hs : ∀ k, S k → k < lo ∨ wk.heap.size ≤ k) : Agree wk cur' lo :=
  ⟨Nat.le_trans h.size ho.size, fun k h1 h2 => (ho.block k (Nat.lt_of_lt_of_le h2 h.size) (fun s => by have := hs k s; omega)).trans (h.block k h1 h2)⟩
theorem Agree.below {wk cur cur' : World} {lo : Nat} (h : Agree wk cur lo) (hb : Below cur.heap.size cur cur') : Agree wk cur' lo :=
  ⟨Nat.le_trans h.size hb.size, fun k h1 h2 => (hb.block k (Nat.lt_of_lt_of_le h2 h.size)).trans (h.block k h1 h2)⟩
theorem own_agree {wk cur : World} {lo t s n : Nat} {v : Value} {xs : List Value} (h : wk.ownsRow lo t s v n xs) (ha : Agree wk cur lo) : cur.ownsRow lo t s v n xs := by
  refine ⟨h.1, ?_⟩
  rcases h.2 with h2 | ⟨g, cap, cur0, hv, hg, hr, r⟩
  · exact .inl h2
  · exact .inr ⟨g, cap, cur0, hv, hg, (ha.block g hg (Array.getElem?_eq_some_iff.1 hr).1).trans hr, r⟩
theorem owns_lower {w : World} {base base' : Nat} {e : TypeId} {size : Nat} {v : Value} {n : Nat} {xs : List Value} (h : w.ownsRow base e size v n xs) (hb : base' ≤ base) : w.ownsRow base' e size v n xs :=
  ⟨h.1, h.2.imp id (fun ⟨g, cap, cur, h1, h2, h3⟩ => ⟨g, cap, cur, h1, Nat.le_trans hb h2, h3⟩)⟩
theorem own_form {w : World} {base : Nat} {e : TypeId} {size : Nat} {v : Value} {n : Nat} {xs : List Value} (h : w.ownsRow base e size v n xs) (hn : 0 < n) : ∃ g cap, v = .slice (some ⟨g, 0, none⟩) n cap ∧ base ≤ g ∧ g < w.heap.size ∧ n ≤ cap := by
  have h0 := h
  rcases h.2 with ⟨_, h1⟩ | ⟨g, cap, cur, rfl, hb, hr, hc, _⟩
  · omega
  · exact ⟨g, cap, rfl, hb, (World.ownsRow.lt h0 g rfl).2, hc⟩
theorem own_blk {W W' : World} {lo t s n : Nat} {v : Value} {xs : List Value} (h : W.ownsRow lo t s v n xs) (hb : ∀ k, v.ownBlock = some k → W'.heap[k]? = W.heap[k]?) : W'.ownsRow lo t s v n xs := by
  refine ⟨h.1, ?_⟩
  rcases h.2 with h2 | ⟨g, cap, cur0, hv, hg, hr, r⟩
  · exact .inl h2
  · exact .inr ⟨g, cap, cur0, hv, hg, (hb g (by rw [hv]; rfl)).trans hr, r⟩
theorem below_drew' {B : Nat} {w a : World} (h : Below B w a) (n : Nat) : Below B w (a.drewN n) := ⟨h.os, h.tape, h.output, h.size, h.block⟩
/-- Numbers in memory. -/
structure IA (w : World) (a : Option Addr) (L : List Int) : Prop where
  at' : ∀ k (h : k < L.length), ∃ b off, a = some ⟨b, off, none⟩ ∧ b < w.heap.size ∧ w.cell? ⟨b, off + k, none⟩ = some (.int .i64 L[k])
theorem IA.past {w w' : World} {a : Option Addr} {L : List Int} (h : IA w a L) (hb : Below w.heap.size w w') : IA w' a L := ⟨fun k hk => by
  obtain ⟨b, off, rfl, h1, h2⟩ := h.at' k hk
  exact ⟨b, off, rfl, Nat.lt_of_lt_of_le h1 hb.size, (hb.cell (p := ⟨b, off + k, none⟩) h1).trans h2⟩⟩
def OwnI (w : World) (base : Nat) (v : Value) (ps : List Int) : Prop := w.ownsRow base 3 1 v ps.length (ps.map (Value.int .i64))
theorem infoInt : (Tryd.prog.info? 3).map (fun i => (i.zero, i.size, i.bytes)) = some (some (.int .i64 0), 1, 8) := by kernel_rfl
theorem OwnI.ia {w : World} {base : Nat} {v : Value} {L : List Int} (h : OwnI w base v L) : ∃ a cap, v = .slice a L.length cap ∧ IA w a L := by
  have h0 := h
  rcases h.2 with ⟨rfl, hn⟩ | ⟨g, cap, cur, rfl, hg, hr, hc, _⟩
  · exact ⟨none, 0, by rw [hn], ⟨fun k hk => by omega⟩⟩
  · refine ⟨_, cap, rfl, ⟨fun k hk => ⟨g, 0, rfl, (World.ownsRow.lt h0 g rfl).2, ?_⟩⟩⟩
    have := World.ownsRow.cellAt h0 k (by omega)
    rw [Nat.zero_add, this]
    simp [hk]
theorem IA.below {w w' : World} {a : Option Addr} {L : List Int} {B : Nat} (h : IA w a L) (hb : Below B w w') (ha : ∀ p, a = some p → p.block < B) : IA w' a L := ⟨fun k hk => by
  obtain ⟨b, off, rfl, h1, h2⟩ := h.at' k hk
  exact ⟨b, off, rfl, Nat.lt_of_lt_of_le h1 hb.size, (hb.cell (p := ⟨b, off + k, none⟩) (ha ⟨b, off, none⟩ rfl)).trans h2⟩⟩
theorem ownI_snoc {w wr w1 : World} {base : Nat} {v v' : Value} {L : List Int} {c : Int} {o : Obj} {n : Nat} (hn : n = L.length) (hown : OwnI wr base v L)
    (hown' : w1.ownsRow base 3 1 v' (n + 1) (L.map (Value.int .i64) ++ [.int .i64 c])) (hgrow : (wr.alloc o).grownBy w1 v.ownBlock) (hbel : Below base w wr) (hb : base ≤ w.heap.size) :
    OwnI w1 base v' (L ++ [c]) ∧ Below base w w1 := by
  subst hn
  have hsz := hbel.size
  refine ⟨?_, (hbel.alloc (by omega) o).grown hgrow (by simp; omega) (fun k hk => (World.ownsRow.lt hown k hk).1)⟩
  unfold OwnI
  rw [List.length_append, List.length_singleton, List.map_append]
  exact hown'
section
variable {P : Program} (w : World)
theorem run_append_own_front (base : Nat) (t ty e : TypeId) (i : TypeInfo) (z : Value) (size bytes : Nat) (ht : P.underlying t = some (.slice e)) (hi : P.info? e = some i) (hz : i.zero = some z)
    (hsize : i.size = size) (hby : i.bytes = bytes) (hzs : z.cells.size = size) (hsz : 0 < size)
    (v : Value) (n : Nat) (xs : List Value) (hown : w.ownsRow base e size v n xs)
    (a : Addr) (m c : Nat) (news : List Value) (hl : news.length = m * size) (hnews : ∀ j u, news[j]? = some u → w.cell? (a.add j) = some u) (h1 : ∀ u ∈ news, u.oneCell' = true)
    (h63 : n + m ≤ maxLen) (hbytes : (n + m) * bytes ≤ 140737488355328) (hbase : base ≤ w.heap.size) :
    ∃ v' w', (Builtin.append_ #[t, t] ty #[v, .slice (some a) m c]).run P w = .ok v' w' ∧ w'.ownsRow base e size v' (n + m) (xs ++ news) ∧ w.grownBy w' v.ownBlock ∧
      (v'.ownBlock = v.ownBlock ∨ v'.ownBlock = some w.heap.size) ∧ (∀ g j u, v.ownBlock = some g → j < n * size → w.cell? ⟨g, j, none⟩ = some u → w'.cell? ⟨g, j, none⟩ = some u) := by
  obtain ⟨v', w', hr, h2, h3, _, h5⟩ := run_append_own_at (P := P) w base t ty e i z size bytes ht hi hz hsize hby hzs hsz v n xs hown a m c news hl hnews h1 h63 hbytes hbase
  refine ⟨v', w', hr, h2, h3, h5, ?_⟩
  intro g j u hg hj hc
  have hjx : j < xs.length := by rw [hown.1]; exact hj
  have hxu : xs[j]? = some u := by
    have e1 := hown.cells hg j xs[j] (List.getElem?_eq_getElem hjx)
    rw [Addr.add_lit, Nat.zero_add, hc] at e1
    rw [List.getElem?_eq_getElem hjx, ← Option.some.inj e1]
  rcases h5 with h5 | h5
  · have e2 := h2.cells (h5.trans hg) j u (by rw [List.getElem?_append_left hjx]; exact hxu)
    rw [Addr.add_lit, Nat.zero_add] at e2
    exact e2
  · have hglt := (hown.lt g hg).2
    rcases hown.2 with ⟨rfl, _⟩ | ⟨g', cap, cur, rfl, hbg, hgg, hnc, hcm, hcs, htake⟩
    · simp [Value.ownBlock] at hg
    · have hge : g' = g := by simpa [Value.ownBlock] using hg
      subst hge
      by_cases hroom : n + m ≤ cap
      · obtain ⟨w2, hr2, _⟩ := run_append_own_spare (P := P) w base t ty e i size ht hi hsize g' n cap xs hown a m c news hl hnews h1 hroom
        rw [hr] at hr2
        cases hr2
        simp [Value.ownBlock] at h5
        omega
      · subst hsize hby
        have holds : ∀ j u, xs[j]? = some u → w.cell? ((⟨g', 0, none⟩ : Addr).add j) = some u := hown.cells (g := g') rfl
        have hr2 := run_append_grow (P := P) w t ty e i z ht hi hz ⟨g', 0, none⟩ n cap xs hown.1 holds a m c news hl hnews (by omega) (by simp only [maxLen] at h63; omega) (growslice_fits (by omega) hbytes)
        rw [hr] at hr2
        cases hr2
        exact (World.cell?_of_block (w := w) (a := ⟨g', j, none⟩) (heap_alloc_old w.drew _ (r := g') hglt)).trans hc
theorem wpList_append_own_front {ops : Array Oper} {rest : List Oper} {o : Oper} {a : Act} {Q : Exit → Act → World → Prop} (hgd : o.guard = none) (s x : Operand) (t : TypeId)
    (ho : o.op = .call { callee := .builtin .append, args := #[s, x], argTypes := #[t, t] })
    (base : Nat) (e : TypeId) (i : TypeInfo) (z : Value) (size bytes : Nat) (ht : P.underlying t = some (.slice e)) (hi : P.info? e = some i) (hz : i.zero = some z)
    (hsize : i.size = size) (hby : i.bytes = bytes) (hzs : z.cells.size = size) (hsz : 0 < size)
    (v : Value) (n : Nat) (xs : List Value) (hs : a.eval s = v) (hown : w.ownsRow base e size v n xs)
    (ad : Addr) (m c : Nat) (news : List Value) (hx : a.eval x = .slice (some ad) m c) (hl : news.length = m * size) (hnews : ∀ j u, news[j]? = some u → w.cell? (ad.add j) = some u) (h1 : ∀ u ∈ news, u.oneCell' = true)
    (h63 : n + m ≤ maxLen) (hbytes : (n + m) * bytes ≤ 140737488355328) (hbase : base ≤ w.heap.size)
    (h : ∀ v' w', w'.ownsRow base e size v' (n + m) (xs ++ news) → w.grownBy w' v.ownBlock → (v'.ownBlock = v.ownBlock ∨ v'.ownBlock = some w.heap.size) → (∀ g j u, v.ownBlock = some g → j < n * size → w.cell? ⟨g, j, none⟩ = some u → w'.cell? ⟨g, j, none⟩ = some u) → wpList P ops Q rest (a.put o.dst v') w') :
    wpList P ops Q (o :: rest) a w := by
  refine wpList_plain hgd fun K hK => ?_
  obtain ⟨v', w', hr, h2, h3, h4, h5⟩ := run_append_own_front (P := P) w base t o.type e i z size bytes ht hi hz hsize hby hzs hsz v n xs hown ad m c news hl hnews h1 h63 hbytes hbase
  unfold Oper.wp execOp
  simp only [ho, resolve, invoke, builtin, Sem.run_bind, Sem.run_pure, Result.andThen_ok, List.map_toArray, List.map_cons, List.map_nil, hs, hx, hr]
  exact hK _ _ (h v' w' h2 h3 h4 h5)
end


theorem cell_alloc {w : World} {p : Addr} {v : Value} (h : w.cell? p = some v) (o : Obj) : (w.alloc o).cell? p = some v := ((Only.alloc w o (fun _ => False)).cell (World.block_lt_of_cell? w p h) (fun h => h)).trans h
theorem Only.ofGrown {w w' : World} {row : Option Nat} (h : w.grownBy w' row) : Only w w' (fun k => row = some k) := ⟨h.os, h.tape, h.output, h.size, fun k hk hn => h.block k hk (fun e => hn e.symm)⟩
theorem infoInts : (Tryd.prog.info? 23).map (fun i => (i.zero, i.size, i.bytes)) = some (some (.slice none 0 0), 1, 24) := by kernel_rfl
/-- Lists of numbers in memory. -/
structure RwA (w : World) (a : Option Addr) (L : List (List Int)) : Prop where
  at' : ∀ k (h : k < L.length), ∃ b off, a = some ⟨b, off, none⟩ ∧ b < w.heap.size ∧ ∃ a1 c1, w.cell? ⟨b, off + k, none⟩ = some (.slice a1 (L[k]).length c1) ∧ IA w a1 L[k]
theorem RwA.past {w w' : World} {a : Option Addr} {L : List (List Int)} (h : RwA w a L) (hb : Below w.heap.size w w') : RwA w' a L := ⟨fun k hk => by
  obtain ⟨b, off, rfl, h1, a1, c1, h2, h3⟩ := h.at' k hk
  exact ⟨b, off, rfl, Nat.lt_of_lt_of_le h1 hb.size, a1, c1, (hb.cell (p := ⟨b, off + k, none⟩) h1).trans h2, h3.past hb⟩⟩
theorem IA.front {w : World} {a : Option Addr} {L M : List Int} (h : IA w a (L ++ M)) : IA w a L := ⟨fun k hk => by
  obtain ⟨b, off, e, h1, h2⟩ := h.at' k (by simp; omega)
  rw [List.getElem_append_left hk] at h2
  exact ⟨b, off, e, h1, h2⟩⟩
theorem below_refl' (w : World) : Below w.heap.size w w := Below.refl _ _
end Go.Proofs.YtlkgghbdgjomkaaDoor
namespace Go.Proofs.YtlkgghbdgjomkaaDoor
open Go.RowKit Go.Shelf
theorem cell2_new (w : World) (a b : Value) (t : TypeId) : ∀ j u, [a, b][j]? = some u → (w.alloc (.cells #[a, b] t)).cell? ((⟨w.heap.size, 0, none⟩ : Addr).add j) = some u := by
  intro j u h
  rw [Addr.add_lit, cell_of_row _ w.heap.size _ _ _ _ (heap_alloc_new w _), Nat.zero_add]
  simpa using h
set_option maxRecDepth 10000 in
set_option maxHeartbeats 800000 in
theorem ints_any (L : List Int) (a : Option Addr) (cap : Nat) (w : World) (hl : L.length ≤ 1000000000) (ha : IA w a L) :
    Calls Tryd.prog 37 #[.slice a L.length cap] w fun e w' => ∃ v, e = .returned v ∧ OwnI w' w.heap.size v L ∧ Below w.heap.size w w' := by
  obtain ⟨i0, hi, hz0, hz1, hz2⟩ := info_parts infoInt
  have HA := hid0 ha
  clear ha
  go_enter Tryd.func37, Tryd.ntmps37
  go_wp2
  go_loopw [3, 4] (fun v i wr => ∃ k : Nat, k ≤ L.length ∧ i = .int .i64 (k : Int) ∧ Hid (OwnI wr w.heap.size v (L.take k)) ∧ Hid (Below w.heap.size w wr)) (fun _ i _ => L.length - (intOf i).toNat)
  case atStart => exact ⟨0, Nat.zero_le _, rfl, hid0 (World.ownsRow_nil _ _ _ _), hid0 (Below.refl _ _)⟩
  case round =>
    obtain ⟨k, hk, rfl, HO, HB⟩ := hrel
    have hbs := HB.out.size
    by_cases hlt : k < L.length
    · obtain ⟨b, off, rfl, hbw, hc⟩ := HA.out.at' k hlt
      have hc' := (HB.out.cell (p := ⟨b, off + k, none⟩) hbw).trans hc
      have hkI : (k : Int) < (L.length : Int) := by omega
      have hkI0 : (0 : Int) ≤ (k : Int) := by omega
      have HTK : Hid (L.take (k + 1) = L.take k ++ [L[k]]) := hid0 (by rw [List.take_add_one, List.getElem?_eq_getElem hlt]; rfl)
      have htl : (L.take k).length = k := by rw [List.length_take]; omega
      have hOO : wr.ownsRow w.heap.size 3 1 u3 k ((L.take k).map (Value.int .i64)) := by have h := HO.out; unfold OwnI at h; rw [htl] at h; exact h
      have HOO := hid0 hOO
      have HTL := hid0 htl
      generalize L[k] = s at *
      clear hc hOO htl
      go_wp2_with (at_builtin; refine wpList_append_own _ rfl _ _ 23 rfl w.heap.size 3 i0 (.int .i64 0) 1 8 Tryd.underlying23 hi hz0 hz1 hz2 rfl (by decide) _ _ _ rfl (HOO.out.alloc _) ⟨wr.heap.size, 0, none⟩ 1 1 [.int .i64 s] rfl rfl (cell_one_new _ _ _) ?c2b ?c3b ?c4b ?c5b ?_)
      case c2b => simp [Value.oneCell']
      case c3b => unfold maxLen; omega
      case c4b => omega
      case c5b => simp; omega
      intro v2 w4 hown' hgrow _
      rw [← List.map_take] at hown'
      obtain ⟨g1, g2⟩ := ownI_snoc (w := w) (base := w.heap.size) (L := L.take k) (c := s) (n := k) HTL.out.symm HO.out hown' hgrow HB.out (Nat.le_refl _)
      have HO4 : Hid (OwnI w4 w.heap.size v2 (L.take (k + 1))) := hid0 (by rw [HTK.out]; exact g1)
      have HB4 := hid0 g2
      clear hown' hgrow g1 g2 HOO HO HB
      go_wp2
      go_roundw
      case rel => exact ⟨k + 1, by omega, by go_num, HO4, HB4⟩
      case measure => simp [intOf]; omega
    · have hkI : ¬ (k : Int) < (L.length : Int) := by omega
      have HE : Hid (OwnI wr w.heap.size u3 L) := hid0 (by have h := HO.out; rw [List.take_of_length_le (by omega)] at h; exact h)
      go_wp2
      go_ret
      exact ⟨u3, rfl, HE.out, HB.out⟩
set_option maxRecDepth 10000 in
set_option maxHeartbeats 800000 in
theorem sameI (l : List Int) (a b : Option Addr) (ca cb : Nat) (w : World) (hl : l.length ≤ 1000000000) (ha : IA w a l) (hb : IA w b l) :
    Calls Tryd.prog 15 #[.slice a l.length ca, .slice b l.length cb] w fun e w' => e = .returned (.bool true) ∧ ∃ n, w' = w.drewN n := by
  have HA := hid0 ha
  have HB := hid0 hb
  clear ha hb
  go_enter Tryd.func15, Tryd.ntmps15
  go_wp2
  go_loopw [5] (fun i wr => ∃ k : Nat, k ≤ l.length ∧ i = .int .i64 (k : Int) ∧ ∃ n, wr = w.drewN n) (fun i _ => l.length - (intOf i).toNat)
  case atStart => exact ⟨0, Nat.zero_le _, rfl, 0, rfl⟩
  case round =>
    obtain ⟨k, hk, rfl, nd, rfl⟩ := hrel
    by_cases hlt : k < l.length
    · obtain ⟨b1, o1, rfl, _, d1⟩ := HA.out.at' k hlt
      obtain ⟨b2, o2, rfl, _, d2⟩ := HB.out.at' k hlt
      have hkI : (k : Int) < (l.length : Int) := by omega
      have hkI0 : (0 : Int) ≤ (k : Int) := by omega
      generalize l[k] = s at *
      have hself : (s == s) = true := by simp
      go_wp2
      go_quiet ((fail))
      go_wp2
      go_roundw
      case rel => exact ⟨k + 1, by omega, by go_num, _, rfl⟩
      case measure => simp [intOf]; omega
    · have hkI : ¬ (k : Int) < (l.length : Int) := by omega
      go_wp2
      go_ret
      exact ⟨rfl, nd, rfl⟩
/-- A list that List made: two marks behind it. -/
def LW (w : World) (lo g c : Nat) (L : List Int) : Prop := w.ownsRow lo 3 1 (.slice (some ⟨g, 0, none⟩) (L.length + 2) c) (L.length + 2) (L.map (Value.int .i64) ++ [.int .i64 (-77), .int .i64 (-77)])
theorem LW.ia {w : World} {lo g c : Nat} {L : List Int} (h : LW w lo g c L) : IA w (some ⟨g, 0, none⟩) L := ⟨fun k hk => ⟨g, 0, rfl, (World.ownsRow.lt h g rfl).2, by
  have := World.ownsRow.cellAt h k (by omega)
  rw [Nat.zero_add, this, List.getElem?_append_left (by simpa using hk)]
  simp [hk]⟩⟩
theorem LW.past {w w' : World} {lo g c : Nat} {L : List Int} (h : LW w lo g c L) (hb : Below w.heap.size w w') : LW w' lo g c L :=
  own_blk h (fun k hk => hb.block k (World.ownsRow.lt h k hk).2)
theorem LW.cap {w : World} {lo g c : Nat} {L : List Int} (h : LW w lo g c L) : L.length + 2 ≤ c := by
  rcases h.2 with ⟨e, _⟩ | ⟨g', cap, cur, e, _, _, h1, h2, _⟩
  · cases e
  · cases e; omega
theorem LW.marks {w : World} {lo g c : Nat} {L : List Int} (h : LW w lo g c L) : w.cell? ⟨g, L.length, none⟩ = some (.int .i64 (-77)) ∧ w.cell? ⟨g, L.length + 1, none⟩ = some (.int .i64 (-77)) := by
  constructor
  · rw [World.ownsRow.cellAt h L.length (by omega), List.getElem?_append_right (by simp)]; simp
  · rw [World.ownsRow.cellAt h (L.length + 1) (by omega), List.getElem?_append_right (by simp)]; simp
def ListR (w : World) (L : List Int) (r : Ending) (w' : World) : Prop := ∃ g c, r = .returned (.slice (some ⟨g, 0, none⟩) L.length c) ∧ LW w' w.heap.size g c L ∧ Below w.heap.size w w'
set_option maxRecDepth 10000 in
set_option maxHeartbeats 800000 in
theorem list_any (L : List Int) (a : Option Addr) (cap : Nat) (w : World) (hl : L.length ≤ 1000000000) (ha : IA w a L) :
    Calls Tryd.prog 14 #[.slice a L.length cap] w fun r w' => ListR w L r w' := by
  obtain ⟨i0, hi, hz0, hz1, hz2⟩ := info_parts infoInt
  have HI := hid0 (ints_any L a cap w hl ha)
  clear ha
  go_enter Tryd.func14, Tryd.ntmps14
  go_wp2_with (first
    | (go_at_call 37; refine HI.out.mono ?_; rintro r w1 ⟨v, rfl, ho1, hb1⟩; have hs1 := hb1.size; have HO1 := hid0 ho1; have HB1 := hid0 hb1; clear ho1 hb1; obtain ⟨av, cv, rfl⟩ : ∃ av cv, v = .slice av L.length cv := by { obtain ⟨av, cv, e, _⟩ := HO1.out.ia; exact ⟨av, cv, e⟩ })
    | (at_builtin; go_loud ((
         refine wpList_append_own _ (by rfl) _ _ 23 (by rfl) w.heap.size 3 i0 (.int .i64 0) 1 8 Tryd.underlying23 hi hz0 hz1 hz2 rfl (by decide) (.slice av L.length cv) L.length (L.map (Value.int .i64)) (by rfl) (World.ownsRow.alloc HO1.out _) ⟨w1.heap.size, 0, none⟩ 2 2 [.int .i64 (-77), .int .i64 (-77)] (by rfl) (by rfl) (cell2_new w1 _ _ _) (fun u hu => by simp only [List.mem_cons, List.not_mem_nil, or_false] at hu; rcases hu with rfl | rfl <;> rfl) (by unfold maxLen; omega) (by omega) (by simp; omega) ?_
         intro v2 w2 hown2 hgrow2 _
         obtain ⟨g, c, rfl⟩ := Go.Joins.ownsRow_form hown2 (by omega)
         have HL2 : Hid (LW w2 w.heap.size g c L) := hid0 hown2
         have hcap := HL2.out.cap
         have HB2 := hid0 (((HB1.out).alloc (by omega) _).grown hgrow2 (by simp; omega) (fun q hq => (World.ownsRow.lt HO1.out q hq).1))
         clear hown2 hgrow2)))
    | fail)
  go_ret
  exact ⟨g, c, rfl, HL2.out, HB2.out⟩
set_option maxRecDepth 10000 in
set_option maxHeartbeats 800000 in
theorem listLeft_any (L : List Int) (lo g c : Nat) (w : World) (hl : L.length ≤ 1000000000) (h : LW w lo g c L) :
    Calls Tryd.prog 18 #[.slice (some ⟨g, 0, none⟩) L.length c] w fun r w' => r = .returned (.bool true) ∧ ∃ n, w' = w.drewN n := by
  obtain ⟨m1, m2⟩ := h.marks
  have hcap := h.cap
  clear h
  go_enter Tryd.func18, Tryd.ntmps18
  go_wp2
  go_ret
  exact ⟨rfl, 0, rfl⟩
end Go.Proofs.YtlkgghbdgjomkaaDoor
namespace Go.Proofs.YtlkgghbdgjomkaaDoor
/-- How many elements lists have together. -/
def sumL (L : List (List Int)) : Nat := (L.map List.length).sum
theorem sumL_drop {L : List (List Int)} {k : Nat} (hk : k < L.length) : sumL (L.drop k) = (L[k]).length + sumL (L.drop (k + 1)) := by
  unfold sumL
  rw [List.drop_eq_getElem_cons hk, List.map_cons, List.sum_cons]
theorem sumL_end {L : List (List Int)} {k : Nat} (hk : L.length ≤ k) : sumL (L.drop k) = 0 := by
  rw [List.drop_of_length_le hk]; rfl
theorem sumL_take {L : List (List Int)} {k : Nat} (hk : k < L.length) : sumL (L.take (k + 1)) = sumL (L.take k) + (L[k]).length := by
  unfold sumL
  rw [List.take_add_one, List.getElem?_eq_getElem hk, List.map_append, List.sum_append]
  simp
theorem sumL_split (L : List (List Int)) (k : Nat) : sumL L = sumL (L.take k) + sumL (L.drop k) := by
  have h := List.take_append_drop k L
  unfold sumL
  rw [← List.sum_append, ← List.map_append, h]
/-- Are all lists rising lists of numbers below n? -/
def riseA (n : Int) (L : List (List Int)) : Bool := L.all (riseF n 0)
theorem riseA_drop {n : Int} {L : List (List Int)} {k : Nat} (hk : k < L.length) : riseA n (L.drop k) = (riseF n 0 L[k] && riseA n (L.drop (k + 1))) := by
  unfold riseA
  rw [List.drop_eq_getElem_cons hk, List.all_cons]
theorem riseA_end {n : Int} {L : List (List Int)} {k : Nat} (hk : L.length ≤ k) : riseA n (L.drop k) = true := by
  unfold riseA
  rw [List.drop_of_length_le hk, List.all_nil]
/-- Are First, Last and Follow rising lists of places? -/
def plRise (n : Nat) (Fi La : List Int) (Fo : List (List Int)) : Bool := riseF n 0 Fi && riseF n 0 La && riseA n Fo
/-- The refusal of positions: its place in the list of refusals. -/
def chkP (Le Fo : List (List Int)) (Fi La : List Int) (sy : Int) : Option Nat :=
  if 4000 < Le.length ∨ 4194304 < sumL Le ∨ 1048576 < sumL Fo then some 2
  else if sy < 1 ∨ 16384 < sy ∨ ¬ Fo.length = Le.length then some 0
  else if riseA sy Le && plRise Le.length Fi La Fo then none else some 0
/-- Are all numbers of all lists places? -/
def insA (n : Nat) (L : List (List Int)) : Bool := L.all fun r => r.all (oneOf n)
theorem insA_drop {n : Nat} {L : List (List Int)} {k : Nat} (hk : k < L.length) : insA n (L.drop k) = ((L[k]).all (oneOf n) && insA n (L.drop (k + 1))) := by
  unfold insA
  rw [List.drop_eq_getElem_cons hk, List.all_cons]
theorem insA_end {n : Nat} {L : List (List Int)} {k : Nat} (hk : L.length ≤ k) : insA n (L.drop k) = true := by
  unfold insA
  rw [List.drop_of_length_le hk, List.all_nil]
/-- As many lists in Follow as in Letters; all numbers are places. -/
def soundP (n : Nat) (Fi La : List Int) (Fo : List (List Int)) : Bool := decide (Fo.length = n) && Fi.all (oneOf n) && La.all (oneOf n) && insA n Fo
end Go.Proofs.YtlkgghbdgjomkaaDoor
namespace Go.Proofs.YtlkgghbdgjomkaaDoor
open Go.RowKit Go.Shelf
set_option maxRecDepth 10000 in
set_option maxHeartbeats 800000 in
theorem rises_any (pa : Int) (L : List Int) (a : Option Addr) (c : Nat) (w : World) (hl : L.length ≤ 17592186043904) (hpa : pa ≤ 9223372036854775807) (ha : IA w a L) : Calls Tryd.prog 45 #[.slice a L.length c, .int .i64 pa] w fun e w' => e = .returned (.bool (riseF pa 0 L)) ∧ w' = w := by
  have HA := hid0 ha
  clear ha
  go_enter Tryd.func45, Tryd.ntmps45
  go_wp2
  go_loopw [5, 10] (fun l i wr => ∃ (k : Nat) (lo : Int), k ≤ L.length ∧ 0 ≤ lo ∧ i = .int .i64 (k : Int) ∧ l = .int .i64 (lo) ∧ wr = w ∧ Hid (riseF pa lo (L.drop k) = riseF pa 0 L)) (fun _ i _ => L.length - (intOf i).toNat)
  case atStart => exact ⟨0, 0, Nat.zero_le _, Int.le_refl _, rfl, rfl, rfl, hid0 rfl⟩
  case round =>
    obtain ⟨k, lo, hk, hlo, rfl, rfl, rfl, HD⟩ := hrel
    by_cases hlt : k < L.length
    · obtain ⟨b, off, rfl, _, d1⟩ := HA.out.at' k hlt
      have hkI : (k : Int) < (L.length : Int) := by omega
      have hkI0 : (0 : Int) ≤ (k : Int) := by omega
      have HS := hid0 (riseF_drop (cnt := pa) (lo := lo) hlt)
      generalize L[k] = s at *
      by_cases h1 : s < lo
      · have HD2 : Hid (riseF pa 0 L = false) := hid0 (by rw [← HD.out, HS.out, decide_eq_false (by omega)]; rfl)
        clear HS HD
        go_wp2
        go_ret
        exact ⟨by rw [HD2.out]; rfl, rfl⟩
      · by_cases h2 : s ≥ pa
        · have HD2 : Hid (riseF pa 0 L = false) := hid0 (by rw [← HD.out, HS.out, decide_eq_false (p := s < pa) (by omega), Bool.and_false]; rfl)
          clear HS HD
          go_wp2
          go_ret
          exact ⟨by rw [HD2.out]; rfl, rfl⟩
        · have HD2 : Hid (riseF pa (s + 1) (L.drop (k + 1)) = riseF pa 0 L) := hid0 (by rw [← HD.out, HS.out, decide_eq_true (p := s < pa) (by omega), decide_eq_true (p := lo ≤ s) (by omega)]; rfl)
          clear HS HD
          go_wp2
          go_roundw
          case rel => exact ⟨k + 1, s + 1, by omega, by omega, by go_num, by go_num, trivial, HD2⟩
          case measure => simp [intOf]; omega
    · have hkI : ¬ (k : Int) < (L.length : Int) := by omega
      have HD2 : Hid (riseF pa 0 L = true) := hid0 (by rw [← HD.out]; exact riseF_end (by omega))
      clear HD
      go_wp2
      go_ret
      exact ⟨by rw [HD2.out]; rfl, rfl⟩
set_option maxRecDepth 10000 in
set_option maxHeartbeats 800000 in
theorem allRise_any (n : Int) (L : List (List Int)) (a : Option Addr) (c : Nat) (w : World) (hl : L.length ≤ 1000000000) (hr : ∀ r ∈ L, r.length ≤ 1000000000) (hn : n ≤ 9223372036854775807) (ha : RwA w a L) : Calls Tryd.prog 31 #[.slice a L.length c, .int .i64 n] w fun e w' => e = .returned (.bool (riseA n L)) ∧ w' = w := by
  have HA := hid0 ha
  have HR := hid0 hr
  clear ha hr
  go_enter Tryd.func31, Tryd.ntmps31
  go_wp2
  go_loopw [9] (fun i wr => ∃ k : Nat, k ≤ L.length ∧ i = .int .i64 (k : Int) ∧ wr = w ∧ Hid (riseA n (L.drop k) = riseA n L)) (fun i _ => L.length - (intOf i).toNat)
  case atStart => exact ⟨0, Nat.zero_le _, rfl, rfl, hid0 rfl⟩
  case round =>
    obtain ⟨k, hk, rfl, rfl, HD⟩ := hrel
    by_cases hlt : k < L.length
    · obtain ⟨b, off, rfl, _, a1, c1, d1, i1⟩ := HA.out.at' k hlt
      have hkI : (k : Int) < (L.length : Int) := by omega
      have hkI0 : (0 : Int) ≤ (k : Int) := by omega
      have HS := hid0 (riseA_drop (n := n) hlt)
      have HRi := hid0 (rises_any n L[k] a1 c1 wr (Nat.le_trans (HR.out _ (List.getElem_mem hlt)) (by decide)) hn i1)
      clear i1
      generalize L[k] = s at *
      cases hs : riseF n 0 s with
      | true =>
        rw [hs] at HRi
        have HD2 : Hid (riseA n (L.drop (k + 1)) = riseA n L) := hid0 (by rw [← HD.out, HS.out, hs, Bool.true_and])
        clear HS HD hs
        go_wp2_with (go_at_call 45; refine HRi.out.mono ?_; rintro e w1 ⟨rfl, rfl⟩)
        go_roundw
        case rel => exact ⟨k + 1, by omega, by go_num, trivial, HD2⟩
        case measure => simp [intOf]; omega
      | false =>
        rw [hs] at HRi
        have HD2 : Hid (riseA n L = false) := hid0 (by rw [← HD.out, HS.out, hs, Bool.false_and])
        clear HS HD hs
        go_wp2_with (go_at_call 45; refine HRi.out.mono ?_; rintro e w1 ⟨rfl, rfl⟩)
        go_ret
        exact ⟨by rw [HD2.out]; rfl, rfl⟩
    · have hkI : ¬ (k : Int) < (L.length : Int) := by omega
      have HD2 : Hid (riseA n L = true) := hid0 (by rw [← HD.out]; exact riseA_end (by omega))
      clear HD
      go_wp2
      go_ret
      exact ⟨by rw [HD2.out]; rfl, rfl⟩
set_option maxRecDepth 10000 in
set_option maxHeartbeats 800000 in
theorem hasMore_any (m : Nat) (L : List (List Int)) (a : Option Addr) (c : Nat) (w : World) (hm : m ≤ 1000000000) (hl : L.length ≤ 1000000000) (hr : ∀ r ∈ L, r.length ≤ 1000000000) (ha : RwA w a L) : Calls Tryd.prog 30 #[.slice a L.length c, .int .i64 (m : Int)] w fun e w' => e = .returned (.bool (decide (m < sumL L))) ∧ w' = w := by
  have HA := hid0 ha
  have HR := hid0 hr
  clear ha hr
  go_enter Tryd.func30, Tryd.ntmps30
  go_wp2
  go_loopw [1, 9] (fun v i wr => ∃ (k q : Nat), k ≤ L.length ∧ q ≤ m ∧ v = .int .i64 (q : Int) ∧ i = .int .i64 (k : Int) ∧ wr = w ∧ Hid (sumL (L.take k) + q = m)) (fun _ i _ => L.length - (intOf i).toNat)
  case atStart => exact ⟨0, m, Nat.zero_le _, Nat.le_refl _, rfl, rfl, rfl, hid0 (by simp [sumL])⟩
  case round =>
    obtain ⟨k, q, hk, hq, rfl, rfl, rfl, HD⟩ := hrel
    have HSp := hid0 (sumL_split L k)
    by_cases hlt : k < L.length
    · obtain ⟨b, off, rfl, _, a1, c1, d1, i1⟩ := HA.out.at' k hlt
      have hkI : (k : Int) < (L.length : Int) := by omega
      have hkI0 : (0 : Int) ≤ (k : Int) := by omega
      have HS := hid0 (sumL_drop hlt)
      have HT := hid0 (sumL_take hlt)
      have hrl := HR.out _ (List.getElem_mem hlt)
      clear i1
      generalize (L[k]).length = s at *
      by_cases h1 : (q : Int) - (s : Int) < 0
      · have HD2 : Hid (m < sumL L) := hid0 (by rw [HSp.out, HS.out]; have := HD.out; omega)
        clear HS HT HD HSp
        go_wp2
        go_ret
        exact ⟨by rw [decide_eq_true HD2.out]; rfl, rfl⟩
      · have hqs : (q : Int) - (s : Int) = ((q - s : Nat) : Int) := by omega
        have HD2 : Hid (sumL (L.take (k + 1)) + (q - s) = m) := hid0 (by rw [HT.out]; have := HD.out; omega)
        clear HS HT HD HSp
        go_wp2
        go_roundw
        case rel => exact ⟨k + 1, q - s, by omega, by omega, rfl, by go_num, trivial, HD2⟩
        case measure => simp [intOf]; omega
    · have hkI : ¬ (k : Int) < (L.length : Int) := by omega
      have HD2 : Hid (¬ m < sumL L) := hid0 (by have h1 := HSp.out; rw [sumL_end (by omega)] at h1; have := HD.out; omega)
      clear HD HSp
      go_wp2
      go_ret
      exact ⟨by rw [decide_eq_false HD2.out]; rfl, rfl⟩
/-- Positions as a value. -/
def posV (aL aF aA aO : Option Addr) (cL cF cA cO : Nat) (Le Fo : List (List Int)) (Fi La : List Int) (em : Bool) : Value := .agg #[.slice aL Le.length cL, .slice aF Fi.length cF, .slice aA La.length cA, .slice aO Fo.length cO, .bool em]
/-- Positions that are read, of no great size. -/
structure PosA (w : World) (aL aF aA aO : Option Addr) (Le Fo : List (List Int)) (Fi La : List Int) : Prop where
  le : RwA w aL Le
  fi : IA w aF Fi
  la : IA w aA La
  fo : RwA w aO Fo
  l1 : Le.length ≤ 4000000
  l2 : Fi.length ≤ 4000000
  l3 : La.length ≤ 4000000
  l4 : Fo.length ≤ 4000000
  r1 : ∀ r ∈ Le, r.length ≤ 4000000
  r4 : ∀ r ∈ Fo, r.length ≤ 4000000
theorem PosA.past {w w' : World} {aL aF aA aO : Option Addr} {Le Fo : List (List Int)} {Fi La : List Int} (h : PosA w aL aF aA aO Le Fo Fi La) (hb : Below w.heap.size w w') : PosA w' aL aF aA aO Le Fo Fi La := ⟨h.le.past hb, h.fi.past hb, h.la.past hb, h.fo.past hb, h.l1, h.l2, h.l3, h.l4, h.r1, h.r4⟩
theorem row5 {W : World} {X : Nat} {t : TypeId} {a b c d e : Value} (h : W.heap[X]? = some (.cells #[a, b, c, d, e] t (0, 0))) : W.cell? ⟨X, 0, none⟩ = some a ∧ W.cell? ⟨X, 1, none⟩ = some b ∧ W.cell? ⟨X, 2, none⟩ = some c ∧ W.cell? ⟨X, 3, none⟩ = some d ∧ W.cell? ⟨X, 4, none⟩ = some e :=
  ⟨by rw [cell_of_row _ _ _ _ _ _ h]; rfl, by rw [cell_of_row _ _ _ _ _ _ h]; rfl, by rw [cell_of_row _ _ _ _ _ _ h]; rfl, by rw [cell_of_row _ _ _ _ _ _ h]; rfl, by rw [cell_of_row _ _ _ _ _ _ h]; rfl⟩
set_option maxRecDepth 10000 in
set_option maxHeartbeats 1600000 in
theorem placesRise_any (aL aF aA aO : Option Addr) (cL cF cA cO : Nat) (Le Fo : List (List Int)) (Fi La : List Int) (em : Bool) (w : World) (hp : PosA w aL aF aA aO Le Fo Fi La) :
    Calls Tryd.prog 25 #[posV aL aF aA aO cL cF cA cO Le Fo Fi La em] w fun e w' => e = .returned (.bool (plRise Le.length Fi La Fo)) ∧ Below w.heap.size w w' := by
  unfold posV
  obtain ⟨w0, hw0⟩ : ∃ w0, w0 = w.alloc (.cells #[.slice aL Le.length cL, .slice aF Fi.length cF, .slice aA La.length cA, .slice aO Fo.length cO, .bool em] 25) := ⟨_, rfl⟩
  have hB0 : Below w.heap.size w w0 := by rw [hw0]; exact (Below.refl _ _).alloc (Nat.le_refl _) _
  have hX0 : w0.heap[w.heap.size]? = some (.cells #[.slice aL Le.length cL, .slice aF Fi.length cF, .slice aA La.length cA, .slice aO Fo.length cO, .bool em] 25 (0, 0)) := by rw [hw0]; exact heap_alloc_new w _
  have HB0 := hid0 hB0
  have hp0 := hp.past hB0
  obtain ⟨x0, x1, x2, x3, x4⟩ := row5 hX0
  have H1 := hid0 (rises_any Le.length Fi aF cF w0 (by have := hp.l2; omega) (by have := hp.l1; omega) hp0.fi)
  have H2 := hid0 (rises_any Le.length La aA cA w0 (by have := hp.l3; omega) (by have := hp.l1; omega) hp0.la)
  have H3 := hid0 (allRise_any Le.length Fo aO cO w0 (by have := hp.l4; omega) (fun r hr => by have := hp.r4 r hr; omega) (by have := hp.l1; omega) hp0.fo)
  have hfold := hw0.symm
  clear hw0 hp hp0 hB0 hX0
  unfold plRise
  generalize riseF (Le.length : Int) 0 Fi = b1 at *
  generalize riseF (Le.length : Int) 0 La = b2 at *
  generalize riseA (Le.length : Int) Fo = b3 at *
  cases b1 <;> cases b2 <;> cases b3
  all_goals
    go_enter Tryd.func25, Tryd.ntmps25
    go_wp2_with (first
      | (go_at_call 31; refine H3.out.mono ?_; rintro e w3 ⟨rfl, hw3⟩; have hw3' := hw3.symm; subst hw3'; clear hw3)
      | (go_at_call 45; have hq := HQ1.out; refine H2.out.mono ?_; rintro e w2 ⟨rfl, hw2⟩; have hw2' := hw2.symm; subst hw2'; clear hw2 hq)
      | (go_at_call 45; (fail_if_success (have hq := HQ1.out)); refine H1.out.mono ?_; rintro e w1 ⟨rfl, hw1⟩; have hw1' := hw1.symm; subst hw1'; clear hw1; have HQ1 : Hid True := hid0 trivial)
      | fail)
    go_ret
    exact ⟨rfl, HB0.out⟩
/-- A refusal, or none. -/
def errP (A : Nat → Addr) (o : Option Nat) : Value := match o with | none => .nilIface | some i => .iface 79 (.pointer (some (A i)))
set_option maxRecDepth 10000 in
set_option maxHeartbeats 3200000 in
theorem check_any (A : Nat → Addr) (sy : Int) (aL aF aA aO : Option Addr) (cL cF cA cO : Nat) (Le Fo : List (List Int)) (Fi La : List Int) (em : Bool) (w : World) (hp : PosA w aL aF aA aO Le Fo Fi La) (hsy : sy ≤ 9223372036854775807) (he : Sents w A) :
    Calls Tryd.prog 10 #[posV aL aF aA aO cL cF cA cO Le Fo Fi La em, .int .i64 sy] w fun e w' => e = .returned (errP A (chkP Le Fo Fi La sy)) ∧ Below w.heap.size w w' := by
  unfold posV
  obtain ⟨w0, hw0⟩ : ∃ w0, w0 = w.alloc (.cells #[.slice aL Le.length cL, .slice aF Fi.length cF, .slice aA La.length cA, .slice aO Fo.length cO, .bool em] 25) := ⟨_, rfl⟩
  have hB0 : Below w.heap.size w w0 := by rw [hw0]; exact (Below.refl _ _).alloc (Nat.le_refl _) _
  have hX0 : w0.heap[w.heap.size]? = some (.cells #[.slice aL Le.length cL, .slice aF Fi.length cF, .slice aA La.length cA, .slice aO Fo.length cO, .bool em] 25 (0, 0)) := by rw [hw0]; exact heap_alloc_new w _
  have HB0 := hid0 hB0
  have hp0 := hp.past hB0
  obtain ⟨x0, x1, x2, x3, x4⟩ := row5 hX0
  have he0 := he.below hB0
  have HE := hid0 he0
  have e0 := he0.c0
  have e2 := he0.c2
  have hl1 := hp.l1
  have hl4 := hp.l4
  have H1 := hid0 (hasMore_any 4194304 Le aL cL w0 (by decide) (by omega) (fun r hr => by have := hp.r1 r hr; omega) hp0.le)
  have H2 := hid0 (hasMore_any 1048576 Fo aO cO w0 (by decide) (by omega) (fun r hr => by have := hp.r4 r hr; omega) hp0.fo)
  have H3 := hid0 (allRise_any sy Le aL cL w0 (by omega) (fun r hr => by have := hp.r1 r hr; omega) hsy hp0.le)
  have H4 := hid0 (fun W (hW : Below w0.heap.size w0 W) => placesRise_any aL aF aA aO cL cF cA cO Le Fo Fi La em W (hp0.past hW))
  unfold posV at H4
  have hfold := hw0.symm
  clear hw0 hp hp0 hB0 hX0 he he0
  by_cases h1 : (Le.length : Int) > 4000
  case pos =>
    have HV : Hid (chkP Le Fo Fi La sy = some 2) := hid0 (by unfold chkP; rw [if_pos (.inl (by omega))])
    go_enter Tryd.func10, Tryd.ntmps10
    go_wp2_with (first
      | (go_at_call 25; refine (H4.out _ (Below.refl _ _)).mono ?_; rintro e w4 ⟨rfl, h⟩; have HB4 := hid0 (Below.later HB0.out h); have e4 := (HE.out.below h).c0; clear h)
      | (go_at_call 31; refine H3.out.mono ?_; rintro e w3 ⟨rfl, hw3⟩; have hw3' := hw3.symm; subst hw3'; clear hw3)
      | (go_at_call 30; have hq := HQ1.out; refine H2.out.mono ?_; rintro e w2 ⟨rfl, hw2⟩; have hw2' := hw2.symm; subst hw2'; clear hw2 hq)
      | (go_at_call 30; (fail_if_success (have hq := HQ1.out)); refine H1.out.mono ?_; rintro e w1 ⟨rfl, hw1⟩; have hw1' := hw1.symm; subst hw1'; clear hw1; have HQ1 : Hid True := hid0 trivial)
      | fail)
    go_ret
    exact ⟨by rw [HV.out]; rfl, HB0.out⟩
  by_cases h2 : 4194304 < sumL Le
  case pos =>
    rw [decide_eq_true h2] at H1
    have HV : Hid (chkP Le Fo Fi La sy = some 2) := hid0 (by unfold chkP; rw [if_pos (.inr (.inl h2))])
    go_enter Tryd.func10, Tryd.ntmps10
    go_wp2_with (first
      | (go_at_call 25; refine (H4.out _ (Below.refl _ _)).mono ?_; rintro e w4 ⟨rfl, h⟩; have HB4 := hid0 (Below.later HB0.out h); have e4 := (HE.out.below h).c0; clear h)
      | (go_at_call 31; refine H3.out.mono ?_; rintro e w3 ⟨rfl, hw3⟩; have hw3' := hw3.symm; subst hw3'; clear hw3)
      | (go_at_call 30; have hq := HQ1.out; refine H2.out.mono ?_; rintro e w2 ⟨rfl, hw2⟩; have hw2' := hw2.symm; subst hw2'; clear hw2 hq)
      | (go_at_call 30; (fail_if_success (have hq := HQ1.out)); refine H1.out.mono ?_; rintro e w1 ⟨rfl, hw1⟩; have hw1' := hw1.symm; subst hw1'; clear hw1; have HQ1 : Hid True := hid0 trivial)
      | fail)
    go_ret
    exact ⟨by rw [HV.out]; rfl, HB0.out⟩
  rw [decide_eq_false h2] at H1
  by_cases h3 : 1048576 < sumL Fo
  case pos =>
    rw [decide_eq_true h3] at H2
    have HV : Hid (chkP Le Fo Fi La sy = some 2) := hid0 (by unfold chkP; rw [if_pos (.inr (.inr h3))])
    go_enter Tryd.func10, Tryd.ntmps10
    go_wp2_with (first
      | (go_at_call 25; refine (H4.out _ (Below.refl _ _)).mono ?_; rintro e w4 ⟨rfl, h⟩; have HB4 := hid0 (Below.later HB0.out h); have e4 := (HE.out.below h).c0; clear h)
      | (go_at_call 31; refine H3.out.mono ?_; rintro e w3 ⟨rfl, hw3⟩; have hw3' := hw3.symm; subst hw3'; clear hw3)
      | (go_at_call 30; have hq := HQ1.out; refine H2.out.mono ?_; rintro e w2 ⟨rfl, hw2⟩; have hw2' := hw2.symm; subst hw2'; clear hw2 hq)
      | (go_at_call 30; (fail_if_success (have hq := HQ1.out)); refine H1.out.mono ?_; rintro e w1 ⟨rfl, hw1⟩; have hw1' := hw1.symm; subst hw1'; clear hw1; have HQ1 : Hid True := hid0 trivial)
      | fail)
    go_ret
    exact ⟨by rw [HV.out]; rfl, HB0.out⟩
  rw [decide_eq_false h3] at H2
  have HC : Hid (chkP Le Fo Fi La sy = if sy < 1 ∨ 16384 < sy ∨ ¬ Fo.length = Le.length then some 0 else if riseA sy Le && plRise Le.length Fi La Fo then none else some 0) := hid0 (by unfold chkP; rw [if_neg (by omega)])
  clear h2 h3
  by_cases h4 : sy < 1
  case pos =>
    have HV : Hid (chkP Le Fo Fi La sy = some 0) := hid0 (by rw [HC.out, if_pos (.inl h4)])
    go_enter Tryd.func10, Tryd.ntmps10
    go_wp2_with (first
      | (go_at_call 25; refine (H4.out _ (Below.refl _ _)).mono ?_; rintro e w4 ⟨rfl, h⟩; have HB4 := hid0 (Below.later HB0.out h); have e4 := (HE.out.below h).c0; clear h)
      | (go_at_call 31; refine H3.out.mono ?_; rintro e w3 ⟨rfl, hw3⟩; have hw3' := hw3.symm; subst hw3'; clear hw3)
      | (go_at_call 30; have hq := HQ1.out; refine H2.out.mono ?_; rintro e w2 ⟨rfl, hw2⟩; have hw2' := hw2.symm; subst hw2'; clear hw2 hq)
      | (go_at_call 30; (fail_if_success (have hq := HQ1.out)); refine H1.out.mono ?_; rintro e w1 ⟨rfl, hw1⟩; have hw1' := hw1.symm; subst hw1'; clear hw1; have HQ1 : Hid True := hid0 trivial)
      | fail)
    go_ret
    exact ⟨by rw [HV.out]; rfl, HB0.out⟩
  by_cases h5 : sy > 16384
  case pos =>
    have HV : Hid (chkP Le Fo Fi La sy = some 0) := hid0 (by rw [HC.out, if_pos (.inr (.inl h5))])
    go_enter Tryd.func10, Tryd.ntmps10
    go_wp2_with (first
      | (go_at_call 25; refine (H4.out _ (Below.refl _ _)).mono ?_; rintro e w4 ⟨rfl, h⟩; have HB4 := hid0 (Below.later HB0.out h); have e4 := (HE.out.below h).c0; clear h)
      | (go_at_call 31; refine H3.out.mono ?_; rintro e w3 ⟨rfl, hw3⟩; have hw3' := hw3.symm; subst hw3'; clear hw3)
      | (go_at_call 30; have hq := HQ1.out; refine H2.out.mono ?_; rintro e w2 ⟨rfl, hw2⟩; have hw2' := hw2.symm; subst hw2'; clear hw2 hq)
      | (go_at_call 30; (fail_if_success (have hq := HQ1.out)); refine H1.out.mono ?_; rintro e w1 ⟨rfl, hw1⟩; have hw1' := hw1.symm; subst hw1'; clear hw1; have HQ1 : Hid True := hid0 trivial)
      | fail)
    go_ret
    exact ⟨by rw [HV.out]; rfl, HB0.out⟩
  by_cases h6 : (Fo.length : Int) = (Le.length : Int)
  case neg =>
    have h6n : ¬ Fo.length = Le.length := by omega
    have h6b : ((Fo.length : Int) != (Le.length : Int)) = true := by simp; omega
    have h6c : (Fo.length != Le.length) = true := by simp; omega
    have HV : Hid (chkP Le Fo Fi La sy = some 0) := hid0 (by rw [HC.out, if_pos (.inr (.inr (by omega)))])
    go_enter Tryd.func10, Tryd.ntmps10
    go_wp2_with (first
      | (go_at_call 25; refine (H4.out _ (Below.refl _ _)).mono ?_; rintro e w4 ⟨rfl, h⟩; have HB4 := hid0 (Below.later HB0.out h); have e4 := (HE.out.below h).c0; clear h)
      | (go_at_call 31; refine H3.out.mono ?_; rintro e w3 ⟨rfl, hw3⟩; have hw3' := hw3.symm; subst hw3'; clear hw3)
      | (go_at_call 30; have hq := HQ1.out; refine H2.out.mono ?_; rintro e w2 ⟨rfl, hw2⟩; have hw2' := hw2.symm; subst hw2'; clear hw2 hq)
      | (go_at_call 30; (fail_if_success (have hq := HQ1.out)); refine H1.out.mono ?_; rintro e w1 ⟨rfl, hw1⟩; have hw1' := hw1.symm; subst hw1'; clear hw1; have HQ1 : Hid True := hid0 trivial)
      | fail)
    go_ret
    exact ⟨by rw [HV.out]; rfl, HB0.out⟩
  have HC2 : Hid (chkP Le Fo Fi La sy = if riseA sy Le && plRise Le.length Fi La Fo then none else some 0) := hid0 (by rw [HC.out, if_neg (by omega)])
  clear HC
  cases g1 : riseA sy Le with
  | false =>
    rw [g1] at H3
    have HV : Hid (chkP Le Fo Fi La sy = some 0) := hid0 (by rw [HC2.out, g1]; rfl)
    go_enter Tryd.func10, Tryd.ntmps10
    go_wp2_with (first
      | (go_at_call 25; refine (H4.out _ (Below.refl _ _)).mono ?_; rintro e w4 ⟨rfl, h⟩; have HB4 := hid0 (Below.later HB0.out h); have e4 := (HE.out.below h).c0; clear h)
      | (go_at_call 31; refine H3.out.mono ?_; rintro e w3 ⟨rfl, hw3⟩; have hw3' := hw3.symm; subst hw3'; clear hw3)
      | (go_at_call 30; have hq := HQ1.out; refine H2.out.mono ?_; rintro e w2 ⟨rfl, hw2⟩; have hw2' := hw2.symm; subst hw2'; clear hw2 hq)
      | (go_at_call 30; (fail_if_success (have hq := HQ1.out)); refine H1.out.mono ?_; rintro e w1 ⟨rfl, hw1⟩; have hw1' := hw1.symm; subst hw1'; clear hw1; have HQ1 : Hid True := hid0 trivial)
      | fail)
    go_ret
    exact ⟨by rw [HV.out]; rfl, HB0.out⟩
  | true =>
    rw [g1] at H3
    cases g2 : plRise Le.length Fi La Fo with
    | false =>
      rw [g2] at H4
      have HV : Hid (chkP Le Fo Fi La sy = some 0) := hid0 (by rw [HC2.out, g1, g2]; rfl)
      go_enter Tryd.func10, Tryd.ntmps10
      go_wp2_with (first
      | (go_at_call 25; refine (H4.out _ (Below.refl _ _)).mono ?_; rintro e w4 ⟨rfl, h⟩; have HB4 := hid0 (Below.later HB0.out h); have e4 := (HE.out.below h).c0; clear h)
      | (go_at_call 31; refine H3.out.mono ?_; rintro e w3 ⟨rfl, hw3⟩; have hw3' := hw3.symm; subst hw3'; clear hw3)
      | (go_at_call 30; have hq := HQ1.out; refine H2.out.mono ?_; rintro e w2 ⟨rfl, hw2⟩; have hw2' := hw2.symm; subst hw2'; clear hw2 hq)
      | (go_at_call 30; (fail_if_success (have hq := HQ1.out)); refine H1.out.mono ?_; rintro e w1 ⟨rfl, hw1⟩; have hw1' := hw1.symm; subst hw1'; clear hw1; have HQ1 : Hid True := hid0 trivial)
      | fail)
      go_ret
      exact ⟨by rw [HV.out]; rfl, HB4.out⟩
    | true =>
      rw [g2] at H4
      have HV : Hid (chkP Le Fo Fi La sy = none) := hid0 (by rw [HC2.out, g1, g2]; rfl)
      go_enter Tryd.func10, Tryd.ntmps10
      go_wp2_with (first
      | (go_at_call 25; refine (H4.out _ (Below.refl _ _)).mono ?_; rintro e w4 ⟨rfl, h⟩; have HB4 := hid0 (Below.later HB0.out h); have e4 := (HE.out.below h).c0; clear h)
      | (go_at_call 31; refine H3.out.mono ?_; rintro e w3 ⟨rfl, hw3⟩; have hw3' := hw3.symm; subst hw3'; clear hw3)
      | (go_at_call 30; have hq := HQ1.out; refine H2.out.mono ?_; rintro e w2 ⟨rfl, hw2⟩; have hw2' := hw2.symm; subst hw2'; clear hw2 hq)
      | (go_at_call 30; (fail_if_success (have hq := HQ1.out)); refine H1.out.mono ?_; rintro e w1 ⟨rfl, hw1⟩; have hw1' := hw1.symm; subst hw1'; clear hw1; have HQ1 : Hid True := hid0 trivial)
      | fail)
      go_ret
      exact ⟨by rw [HV.out]; rfl, HB4.out⟩
end Go.Proofs.YtlkgghbdgjomkaaDoor
namespace Go.Proofs.YtlkgghbdgjomkaaDoor
open Go.RowKit Go.Shelf
theorem drew_add {w w' : World} {a : Nat} (h : ∃ m, w' = (w.drewN a).drewN m) : ∃ n, w' = w.drewN n := by
  obtain ⟨m, hm⟩ := h
  exact ⟨a + m, by rw [hm, World.drewN_drewN]⟩
def numP (o : Option Nat) : Int := match o with | none => 0 | some i => refNo i
set_option maxRecDepth 10000 in
set_option maxHeartbeats 1600000 in
theorem refRises_any (n : Int) (L : List Int) (a : Option Addr) (c : Nat) (w : World) (hl : L.length ≤ 1000000000) (ha : IA w a L) : Calls Tryd.prog 40 #[.slice a L.length c, .int .i64 n] w fun e w' => e = .returned (.bool (riseF n 0 L)) ∧ ∃ q, w' = w.drewN q := by
  have HA := hid0 ha
  clear ha
  go_enter Tryd.func40, Tryd.ntmps40
  go_wp2
  go_loopw [5] (fun i wr => ∃ (k : Nat) (lo : Int), k ≤ L.length ∧ 0 ≤ lo ∧ i = .int .i64 (k : Int) ∧ (∃ q, wr = w.drewN q) ∧ Hid ((k = 0 ∧ lo = 0) ∨ ∃ h : k - 1 < L.length, 0 < k ∧ lo = L[k - 1] + 1) ∧ Hid (riseF n lo (L.drop k) = riseF n 0 L)) (fun i _ => L.length - (intOf i).toNat)
  case atStart => exact ⟨0, 0, Nat.zero_le _, Int.le_refl _, rfl, ⟨0, rfl⟩, hid0 (.inl ⟨rfl, rfl⟩), hid0 rfl⟩
  case round =>
    obtain ⟨k, lo, hk, hlo, rfl, ⟨q, rfl⟩, HK, HD⟩ := hrel
    by_cases hlt : k < L.length
    · obtain ⟨b, off, rfl, _, d1⟩ := HA.out.at' k hlt
      have hkI : (k : Int) < (L.length : Int) := by omega
      have hkI0 : (0 : Int) ≤ (k : Int) := by omega
      have HS := hid0 (riseF_drop (cnt := n) (lo := lo) hlt)
      obtain ⟨s, hs⟩ : ∃ s, L[k] = s := ⟨_, rfl⟩
      have HLk : Hid (∃ h : k + 1 - 1 < L.length, 0 < k + 1 ∧ s + 1 = L[k + 1 - 1] + 1) := hid0 ⟨by omega, by omega, by simp [hs]⟩
      rw [hs] at d1 HS
      clear hs
      by_cases h1 : s < 0
      case pos =>
        have hd1 : decide (s < 0) = true := decide_eq_true h1
        have HD2 : Hid (riseF n 0 L = false) := hid0 (by rw [← HD.out, HS.out, decide_eq_false (by omega)]; rfl)
        clear HS HD
        go_wp2
        go_quiet ((fail))
        go_wp2
        go_ret
        exact ⟨by rw [HD2.out]; rfl, drew_add ⟨_, rfl⟩⟩
      have hd1 : decide (s < 0) = false := decide_eq_false h1
      by_cases h2 : s ≥ n
      case pos =>
        have hd2 : decide (s ≥ n) = true := decide_eq_true h2
        have HD2 : Hid (riseF n 0 L = false) := hid0 (by rw [← HD.out, HS.out, decide_eq_false (p := s < n) (by omega), Bool.and_false]; rfl)
        clear HS HD
        go_wp2
        go_quiet ((fail))
        go_wp2
        go_ret
        exact ⟨by rw [HD2.out]; rfl, drew_add ⟨_, rfl⟩⟩
      have hd2 : decide (s ≥ n) = false := decide_eq_false h2
      rcases HK.out with ⟨rfl, rfl⟩ | ⟨hp, hk0, rfl⟩
      · have hd3 : decide (((0 : Nat) : Int) > 0) = false := by decide
        have hd4 : decide ((0 : Int) > 0) = false := by decide
        rw [Nat.add_zero] at d1
        have HD2 : Hid (riseF n (s + 1) (L.drop (0 + 1)) = riseF n 0 L) := hid0 (by rw [← HD.out, HS.out, decide_eq_true (p := s < n) (by omega), decide_eq_true (p := 0 ≤ s) (by omega)]; rfl)
        clear HS HD HK
        go_wp2
        go_quiet ((fail))
        go_wp2
        go_roundw
        case rel => exact ⟨0 + 1, s + 1, by omega, by omega, by go_num, (by first | exact ⟨_, rfl⟩ | exact drew_add ⟨_, rfl⟩), hid0 (.inr HLk.out), HD2⟩
        case measure => simp [intOf]; omega
      · obtain ⟨b', off', e', _, d0⟩ := HA.out.at' (k - 1) hp
        cases e'
        have hd3 : decide ((k : Int) > 0) = true := decide_eq_true (by omega)
        have hj0 : (0 : Int) ≤ (k : Int) - 1 := by omega
        have hj1 : (k : Int) - 1 < (L.length : Int) := by omega
        generalize L[k - 1] = p at *
        by_cases h3 : s ≤ p
        · have hd4 : decide (s ≤ p) = true := decide_eq_true h3
          have HD2 : Hid (riseF n 0 L = false) := hid0 (by rw [← HD.out, HS.out, decide_eq_false (by omega)]; rfl)
          clear HS HD
          go_wp2
          go_quiet ((fail))
          go_wp2
          go_ret
          exact ⟨by rw [HD2.out]; rfl, drew_add ⟨_, rfl⟩⟩
        · have hd4 : decide (s ≤ p) = false := decide_eq_false h3
          have HD2 : Hid (riseF n (s + 1) (L.drop (k + 1)) = riseF n 0 L) := hid0 (by rw [← HD.out, HS.out, decide_eq_true (p := s < n) (by omega), decide_eq_true (p := p + 1 ≤ s) (by omega)]; rfl)
          clear HS HD HK
          go_wp2
          go_quiet ((fail))
          go_wp2
          go_roundw
          case rel => exact ⟨k + 1, s + 1, by omega, by omega, by go_num, (by first | exact ⟨_, rfl⟩ | exact drew_add ⟨_, rfl⟩), hid0 (.inr HLk.out), HD2⟩
          case measure => simp [intOf]; omega
    · have hkI : ¬ (k : Int) < (L.length : Int) := by omega
      have HD2 : Hid (riseF n 0 L = true) := hid0 (by rw [← HD.out]; exact riseF_end (by omega))
      clear HD
      go_wp2
      go_ret
      exact ⟨by rw [HD2.out]; rfl, q, rfl⟩
theorem RwA.drewN {w : World} {a : Option Addr} {L : List (List Int)} (h : RwA w a L) (n : Nat) : RwA (w.drewN n) a L := h.past ⟨rfl, rfl, rfl, Nat.le_refl _, fun _ _ => rfl⟩
set_option maxRecDepth 10000 in
set_option maxHeartbeats 1600000 in
theorem refAll_any (n : Int) (L : List (List Int)) (a : Option Addr) (c : Nat) (w : World) (hl : L.length ≤ 1000000000) (hr : ∀ r ∈ L, r.length ≤ 1000000000) (ha : RwA w a L) : Calls Tryd.prog 39 #[.slice a L.length c, .int .i64 n] w fun e w' => e = .returned (.bool (riseA n L)) ∧ ∃ q, w' = w.drewN q := by
  have HA := hid0 ha
  have HR := hid0 hr
  clear ha hr
  go_enter Tryd.func39, Tryd.ntmps39
  go_wp2
  go_loopw [5] (fun i wr => ∃ k : Nat, k ≤ L.length ∧ i = .int .i64 (k : Int) ∧ (∃ q, wr = w.drewN q) ∧ Hid (riseA n (L.drop k) = riseA n L)) (fun i _ => L.length - (intOf i).toNat)
  case atStart => exact ⟨0, Nat.zero_le _, rfl, ⟨0, rfl⟩, hid0 rfl⟩
  case round =>
    obtain ⟨k, hk, rfl, ⟨q, rfl⟩, HD⟩ := hrel
    by_cases hlt : k < L.length
    · obtain ⟨b, off, rfl, _, a1, c1, d1, i1⟩ := HA.out.at' k hlt
      have hkI : (k : Int) < (L.length : Int) := by omega
      have hkI0 : (0 : Int) ≤ (k : Int) := by omega
      have HS := hid0 (riseA_drop (n := n) hlt)
      have HRi := hid0 (refRises_any n L[k] a1 c1 (w.drewN q) (HR.out _ (List.getElem_mem hlt)) ⟨i1.at'⟩)
      clear i1
      generalize L[k] = s at *
      cases hs : riseF n 0 s with
      | true =>
        rw [hs] at HRi
        have HD2 : Hid (riseA n (L.drop (k + 1)) = riseA n L) := hid0 (by rw [← HD.out, HS.out, hs, Bool.true_and])
        clear HS HD hs
        go_wp2_with (go_at_call 40; refine HRi.out.mono ?_; rintro e w1 ⟨rfl, hw1⟩; obtain ⟨q1, rfl⟩ := drew_add hw1; clear hw1)
        go_roundw
        case rel => exact ⟨k + 1, by omega, by go_num, ⟨_, rfl⟩, HD2⟩
        case measure => simp [intOf]; omega
      | false =>
        rw [hs] at HRi
        have HD2 : Hid (riseA n L = false) := hid0 (by rw [← HD.out, HS.out, hs, Bool.false_and])
        clear HS HD hs
        go_wp2_with (go_at_call 40; refine HRi.out.mono ?_; rintro e w1 ⟨rfl, hw1⟩; obtain ⟨q1, rfl⟩ := drew_add hw1; clear hw1)
        go_ret
        exact ⟨by rw [HD2.out]; rfl, _, rfl⟩
    · have hkI : ¬ (k : Int) < (L.length : Int) := by omega
      have HD2 : Hid (riseA n L = true) := hid0 (by rw [← HD.out]; exact riseA_end (by omega))
      clear HD
      go_wp2
      go_ret
      exact ⟨by rw [HD2.out]; rfl, q, rfl⟩
end Go.Proofs.YtlkgghbdgjomkaaDoor
namespace Go.Proofs.YtlkgghbdgjomkaaDoor
open Go.RowKit Go.Shelf
set_option maxRecDepth 10000 in
set_option maxHeartbeats 800000 in
theorem refInside_any (n : Nat) (L : List Int) (a : Option Addr) (c : Nat) (w : World) (hl : L.length ≤ 1000000000) (ha : IA w a L) : Calls Tryd.prog 55 #[.slice a L.length c, .int .i64 (n : Int)] w fun e w' => e = .returned (.bool (L.all (oneOf n))) ∧ w' = w := by
  have HA := hid0 ha
  clear ha
  go_enter Tryd.func55, Tryd.ntmps55
  go_wp2
  go_loopw [5] (fun i wr => ∃ k : Nat, k ≤ L.length ∧ i = .int .i64 (k : Int) ∧ wr = w ∧ Hid ((L.drop k).all (oneOf n) = L.all (oneOf n))) (fun i _ => L.length - (intOf i).toNat)
  case atStart => exact ⟨0, Nat.zero_le _, rfl, rfl, hid0 rfl⟩
  case round =>
    obtain ⟨k, hk, rfl, rfl, HD⟩ := hrel
    by_cases hlt : k < L.length
    · obtain ⟨b, off, rfl, _, d1⟩ := HA.out.at' k hlt
      have hkI : (k : Int) < (L.length : Int) := by omega
      have hkI0 : (0 : Int) ≤ (k : Int) := by omega
      have HS := hid0 (all_drop (n := n) hlt)
      generalize L[k] = s at *
      by_cases h1 : s < 0
      case pos =>
        have HD2 : Hid (L.all (oneOf n) = false) := hid0 (by rw [← HD.out, HS.out, (oneOf_not n s).2 (by omega)]; rfl)
        clear HS HD
        go_wp2
        go_ret
        exact ⟨by rw [HD2.out]; rfl, rfl⟩
      by_cases h2 : s ≥ (n : Int)
      case pos =>
        have HD2 : Hid (L.all (oneOf n) = false) := hid0 (by rw [← HD.out, HS.out, (oneOf_not n s).2 (by omega)]; rfl)
        clear HS HD
        go_wp2
        go_ret
        exact ⟨by rw [HD2.out]; rfl, rfl⟩
      have HD2 : Hid ((L.drop (k + 1)).all (oneOf n) = L.all (oneOf n)) := hid0 (by rw [← HD.out, HS.out, (oneOf_iff n s).2 (by omega), Bool.true_and])
      clear HS HD
      go_wp2
      go_roundw
      case rel => exact ⟨k + 1, by omega, by go_num, trivial, HD2⟩
      case measure => simp [intOf]; omega
    · have hkI : ¬ (k : Int) < (L.length : Int) := by omega
      have HD2 : Hid (L.all (oneOf n) = true) := hid0 (by rw [← HD.out]; exact all_end (by omega))
      clear HD
      go_wp2
      go_ret
      exact ⟨by rw [HD2.out]; rfl, rfl⟩
set_option maxRecDepth 10000 in
set_option maxHeartbeats 800000 in
theorem lieBelow_any (n : Nat) (L : List Int) (a : Option Addr) (c : Nat) (w : World) (hl : L.length ≤ 1000000000) (ha : IA w a L) : Calls Tryd.prog 46 #[.slice a L.length c, .int .i64 (n : Int)] w fun e w' => e = .returned (.bool (L.all (oneOf n))) ∧ w' = w := by
  have HA := hid0 ha
  clear ha
  go_enter Tryd.func46, Tryd.ntmps46
  go_wp2
  go_loopw [9] (fun i wr => ∃ k : Nat, k ≤ L.length ∧ i = .int .i64 (k : Int) ∧ wr = w ∧ Hid ((L.drop k).all (oneOf n) = L.all (oneOf n))) (fun i _ => L.length - (intOf i).toNat)
  case atStart => exact ⟨0, Nat.zero_le _, rfl, rfl, hid0 rfl⟩
  case round =>
    obtain ⟨k, hk, rfl, rfl, HD⟩ := hrel
    by_cases hlt : k < L.length
    · obtain ⟨b, off, rfl, _, d1⟩ := HA.out.at' k hlt
      have hkI : (k : Int) < (L.length : Int) := by omega
      have hkI0 : (0 : Int) ≤ (k : Int) := by omega
      have HS := hid0 (all_drop (n := n) hlt)
      generalize L[k] = s at *
      by_cases h1 : s < 0
      case pos =>
        have HD2 : Hid (L.all (oneOf n) = false) := hid0 (by rw [← HD.out, HS.out, (oneOf_not n s).2 (by omega)]; rfl)
        clear HS HD
        go_wp2
        go_ret
        exact ⟨by rw [HD2.out]; rfl, rfl⟩
      by_cases h2 : s ≥ (n : Int)
      case pos =>
        have HD2 : Hid (L.all (oneOf n) = false) := hid0 (by rw [← HD.out, HS.out, (oneOf_not n s).2 (by omega)]; rfl)
        clear HS HD
        go_wp2
        go_ret
        exact ⟨by rw [HD2.out]; rfl, rfl⟩
      have HD2 : Hid ((L.drop (k + 1)).all (oneOf n) = L.all (oneOf n)) := hid0 (by rw [← HD.out, HS.out, (oneOf_iff n s).2 (by omega), Bool.true_and])
      clear HS HD
      go_wp2
      go_roundw
      case rel => exact ⟨k + 1, by omega, by go_num, trivial, HD2⟩
      case measure => simp [intOf]; omega
    · have hkI : ¬ (k : Int) < (L.length : Int) := by omega
      have HD2 : Hid (L.all (oneOf n) = true) := hid0 (by rw [← HD.out]; exact all_end (by omega))
      clear HD
      go_wp2
      go_ret
      exact ⟨by rw [HD2.out]; rfl, rfl⟩
set_option maxRecDepth 10000 in
set_option maxHeartbeats 800000 in
theorem refHas_any (z : Int) (L : List Int) (a : Option Addr) (c : Nat) (w : World) (hl : L.length ≤ 1000000000) (ha : IA w a L) : Calls Tryd.prog 44 #[.slice a L.length c, .int .i64 z] w fun e w' => e = .returned (.bool (L.any (· == z))) ∧ w' = w := by
  have HA := hid0 ha
  clear ha
  go_enter Tryd.func44, Tryd.ntmps44
  go_wp2
  go_loopw [5] (fun i wr => ∃ k : Nat, k ≤ L.length ∧ i = .int .i64 (k : Int) ∧ wr = w ∧ Hid ((L.drop k).any (· == z) = L.any (· == z))) (fun i _ => L.length - (intOf i).toNat)
  case atStart => exact ⟨0, Nat.zero_le _, rfl, rfl, hid0 rfl⟩
  case round =>
    obtain ⟨k, hk, rfl, rfl, HD⟩ := hrel
    by_cases hlt : k < L.length
    · obtain ⟨b, off, rfl, _, d1⟩ := HA.out.at' k hlt
      have hkI : (k : Int) < (L.length : Int) := by omega
      have hkI0 : (0 : Int) ≤ (k : Int) := by omega
      have HS : Hid ((L.drop k).any (· == z) = (L[k] == z || (L.drop (k + 1)).any (· == z))) := hid0 (by rw [List.drop_eq_getElem_cons hlt, List.any_cons])
      generalize L[k] = s at *
      by_cases h1 : s = z
      · have h1b : (s == z) = true := by simp [h1]
        have HD2 : Hid (L.any (· == z) = true) := hid0 (by rw [← HD.out, HS.out, h1b, Bool.true_or])
        clear HS HD
        go_wp2
        go_ret
        exact ⟨by rw [HD2.out]; rfl, rfl⟩
      · have h1b : (s == z) = false := by simp [h1]
        have HD2 : Hid ((L.drop (k + 1)).any (· == z) = L.any (· == z)) := hid0 (by rw [← HD.out, HS.out, h1b, Bool.false_or])
        clear HS HD
        go_wp2
        go_roundw
        case rel => exact ⟨k + 1, by omega, by go_num, trivial, HD2⟩
        case measure => simp [intOf]; omega
    · have hkI : ¬ (k : Int) < (L.length : Int) := by omega
      have HD2 : Hid (L.any (· == z) = false) := hid0 (by rw [← HD.out, List.drop_of_length_le (by omega)]; rfl)
      clear HD
      go_wp2
      go_ret
      exact ⟨by rw [HD2.out]; rfl, rfl⟩
set_option maxRecDepth 10000 in
set_option maxHeartbeats 1600000 in
theorem refSound_any (aL aF aA aO : Option Addr) (cL cF cA cO : Nat) (Le Fo : List (List Int)) (Fi La : List Int) (em : Bool) (w : World) (hp : PosA w aL aF aA aO Le Fo Fi La) :
    Calls Tryd.prog 38 #[posV aL aF aA aO cL cF cA cO Le Fo Fi La em] w fun e w' => e = .returned (.bool (soundP Le.length Fi La Fo)) ∧ Below w.heap.size w w' := by
  unfold posV
  obtain ⟨w0, hw0⟩ : ∃ w0, w0 = w.alloc (.cells #[.slice aL Le.length cL, .slice aF Fi.length cF, .slice aA La.length cA, .slice aO Fo.length cO, .bool em] 25) := ⟨_, rfl⟩
  have hB0 : Below w.heap.size w w0 := by rw [hw0]; exact (Below.refl _ _).alloc (Nat.le_refl _) _
  have hX0 : w0.heap[w.heap.size]? = some (.cells #[.slice aL Le.length cL, .slice aF Fi.length cF, .slice aA La.length cA, .slice aO Fo.length cO, .bool em] 25 (0, 0)) := by rw [hw0]; exact heap_alloc_new w _
  have HB0 := hid0 hB0
  have hp0 := hp.past hB0
  obtain ⟨x0, x1, x2, x3, x4⟩ := row5 hX0
  have H1 := hid0 (refInside_any Le.length Fi aF cF w0 (by have := hp.l2; omega) hp0.fi)
  have H2 := hid0 (refInside_any Le.length La aA cA w0 (by have := hp.l3; omega) hp0.la)
  have HF := hid0 hp0.fo
  have HR4 := hid0 hp.r4
  have hl4 := hp.l4
  have hl1 := hp.l1
  have hfold := hw0.symm
  clear hw0 hp hp0 hB0 hX0
  obtain ⟨b1, hb1⟩ : ∃ b1, b1 = Fi.all (oneOf Le.length) := ⟨_, rfl⟩
  obtain ⟨b2, hb2⟩ : ∃ b2, b2 = La.all (oneOf Le.length) := ⟨_, rfl⟩
  rw [← hb1] at H1
  rw [← hb2] at H2
  have HSo : Hid ((decide (Fo.length = Le.length) && b1 && b2 && insA Le.length (Fo.drop 0)) = soundP Le.length Fi La Fo) := hid0 (by unfold soundP; rw [← hb1, ← hb2]; rfl)
  clear hb1 hb2
  obtain ⟨b0, h0, h0b⟩ : ∃ b0, decide (Fo.length = Le.length) = b0 ∧ ((Fo.length : Int) == (Le.length : Int)) = b0 := by
    by_cases h : Fo.length = Le.length
    · exact ⟨true, by simp [h], by simp [h]⟩
    · have h' : ¬ (Fo.length : Int) = (Le.length : Int) := by omega
      exact ⟨false, by simp [h], by simp [h']⟩
  rw [h0] at HSo
  clear h0
  have HSR : Hid (∃ b, b = (b0 && b1 && b2) ∧ (b && insA Le.length (Fo.drop 0)) = soundP Le.length Fi La Fo) := hid0 ⟨_, rfl, HSo.out⟩
  clear HSo
  cases b0 <;> cases b1 <;> cases b2
  all_goals
    obtain ⟨b, hb, hso⟩ := HSR.out
    simp only [Bool.and_true, Bool.and_false] at hb
    subst hb
    have HS0 := hid0 hso
    clear hso HSR
    go_enter Tryd.func38, Tryd.ntmps38
    go_wp2_with (first
      | (go_at_call 55; have hq := HQ1.out; refine H2.out.mono ?_; rintro e w2 ⟨rfl, hw2⟩; have hw2' := hw2.symm; subst hw2'; clear hw2 hq)
      | (go_at_call 55; (fail_if_success (have hq := HQ1.out)); refine H1.out.mono ?_; rintro e w1 ⟨rfl, hw1⟩; have hw1' := hw1.symm; subst hw1'; clear hw1; have HQ1 : Hid True := hid0 trivial)
      | fail)
    go_loopw [4, 7] (fun o i wr => ∃ (k : Nat) (b : Bool), k ≤ Fo.length ∧ i = .int .i64 (k : Int) ∧ o = .bool b ∧ wr = w0 ∧ Hid ((b && insA Le.length (Fo.drop k)) = soundP Le.length Fi La Fo)) (fun _ i _ => Fo.length - (intOf i).toNat)
    case atStart => exact ⟨0, _, Nat.zero_le _, rfl, by first | rfl | (rw [h0b]), rfl, HS0⟩
    case round =>
      clear HS0 HQ1
      obtain ⟨k, b, hk, rfl, rfl, hwr, HD⟩ := hrel
      have hwr' := hwr.symm
      subst hwr'
      clear hwr
      by_cases hlt : k < Fo.length
      · obtain ⟨b3, off, rfl, _, a1, c1, d1, i1⟩ := HF.out.at' k hlt
        have hkI : (k : Int) < (Fo.length : Int) := by omega
        have hkI0 : (0 : Int) ≤ (k : Int) := by omega
        have HS := hid0 (insA_drop (n := Le.length) hlt)
        have HIn := hid0 (refInside_any Le.length Fo[k] a1 c1 w0 (by have := HR4.out _ (List.getElem_mem hlt); omega) i1)
        clear i1
        generalize Fo[k] = s at *
        have HD2 : Hid (((b && s.all (oneOf Le.length)) && insA Le.length (Fo.drop (k + 1))) = soundP Le.length Fi La Fo) := hid0 (by rw [← HD.out, HS.out, Bool.and_assoc])
        clear HS HD
        generalize s.all (oneOf Le.length) = d at *
        cases b <;> cases d
        all_goals
          go_wp2_with (go_at_call 55; refine HIn.out.mono ?_; rintro e w1 ⟨rfl, hw1⟩; have hw1' := hw1.symm; subst hw1'; clear hw1)
          go_roundw
          case rel => exact ⟨k + 1, _, by omega, by go_num, rfl, trivial, HD2⟩
          case measure => simp [intOf]; omega
      · have hkI : ¬ (k : Int) < (Fo.length : Int) := by omega
        have HD2 : Hid (soundP Le.length Fi La Fo = b) := hid0 (by rw [← HD.out, insA_end (by omega), Bool.and_true])
        clear HD
        go_wp2
        go_ret
        exact ⟨by rw [HD2.out]; rfl, HB0.out⟩
end Go.Proofs.YtlkgghbdgjomkaaDoor
namespace Go.Proofs.YtlkgghbdgjomkaaDoor
open Go.RowKit Go.Shelf
theorem sumL_le {L : List (List Int)} (hr : ∀ r ∈ L, r.length ≤ 4000000) (hl : L.length ≤ 4000000) (k : Nat) : sumL (L.take k) ≤ 16000000000000 := by
  have key : ∀ M : List (List Int), (∀ r ∈ M, r.length ≤ 4000000) → sumL M ≤ M.length * 4000000 := by
    intro M
    induction M with
    | nil => intro _; simp [sumL]
    | cons x M ih =>
      intro h
      have h1 := ih (fun r hr => h r (List.mem_cons_of_mem _ hr))
      have h2 := h x List.mem_cons_self
      have e : sumL (x :: M) = x.length + sumL M := by simp [sumL]
      rw [e, List.length_cons]
      omega
  have h3 := key (L.take k) (fun r hr' => hr r (List.mem_of_mem_take hr'))
  have h4 : (L.take k).length ≤ L.length := by rw [List.length_take]; omega
  omega
/-- Do all lists name places alone? -/
def standP (n : Nat) (Fi La : List Int) (Fo : List (List Int)) : Bool := insA n Fo && Fi.all (oneOf n) && La.all (oneOf n)
set_option maxRecDepth 10000 in
set_option maxHeartbeats 1600000 in
theorem placesStand_any (aL aF aA aO : Option Addr) (cL cF cA cO : Nat) (Le Fo : List (List Int)) (Fi La : List Int) (em : Bool) (w : World) (hp : PosA w aL aF aA aO Le Fo Fi La) :
    Calls Tryd.prog 32 #[posV aL aF aA aO cL cF cA cO Le Fo Fi La em] w fun e w' => e = .returned (.bool (standP Le.length Fi La Fo)) ∧ Below w.heap.size w w' := by
  unfold posV
  obtain ⟨w0, hw0⟩ : ∃ w0, w0 = w.alloc (.cells #[.slice aL Le.length cL, .slice aF Fi.length cF, .slice aA La.length cA, .slice aO Fo.length cO, .bool em] 25) := ⟨_, rfl⟩
  have hB0 : Below w.heap.size w w0 := by rw [hw0]; exact (Below.refl _ _).alloc (Nat.le_refl _) _
  have hX0 : w0.heap[w.heap.size]? = some (.cells #[.slice aL Le.length cL, .slice aF Fi.length cF, .slice aA La.length cA, .slice aO Fo.length cO, .bool em] 25 (0, 0)) := by rw [hw0]; exact heap_alloc_new w _
  have HB0 := hid0 hB0
  have hp0 := hp.past hB0
  obtain ⟨x0, x1, x2, x3, x4⟩ := row5 hX0
  have H1 := hid0 (lieBelow_any Le.length Fi aF cF w0 (by have := hp.l2; omega) hp0.fi)
  have H2 := hid0 (lieBelow_any Le.length La aA cA w0 (by have := hp.l3; omega) hp0.la)
  have HF := hid0 hp0.fo
  have HR4 := hid0 hp.r4
  have hl4 := hp.l4
  have hfold := hw0.symm
  clear hw0 hp hp0 hB0 hX0
  go_enter Tryd.func32, Tryd.ntmps32
  go_wp2
  go_loopw [12] (fun i wr => ∃ (k : Nat), k ≤ Fo.length ∧ i = .int .i64 (k : Int) ∧ wr = w0 ∧ Hid (insA Le.length (Fo.drop k) = insA Le.length Fo)) (fun i _ => Fo.length - (intOf i).toNat)
  case atStart => exact ⟨0, Nat.zero_le _, rfl, rfl, hid0 rfl⟩
  case round =>
    obtain ⟨k, hk, rfl, hwr, HD⟩ := hrel
    have hwr' := hwr.symm
    subst hwr'
    clear hwr
    by_cases hlt : k < Fo.length
    · obtain ⟨b3, off, rfl, _, a1, c1, d1, i1⟩ := HF.out.at' k hlt
      have hkI : (k : Int) < (Fo.length : Int) := by omega
      have hkI0 : (0 : Int) ≤ (k : Int) := by omega
      have HS := hid0 (insA_drop (n := Le.length) hlt)
      have HIn := hid0 (lieBelow_any Le.length Fo[k] a1 c1 w0 (by have := HR4.out _ (List.getElem_mem hlt); omega) i1)
      clear i1
      generalize Fo[k] = s at *
      cases hs : s.all (oneOf Le.length) with
      | true =>
        rw [hs] at HIn
        have HD2 : Hid (insA Le.length (Fo.drop (k + 1)) = insA Le.length Fo) := hid0 (by rw [← HD.out, HS.out, hs, Bool.true_and])
        clear HS HD hs
        go_wp2_with (go_at_call 46; refine HIn.out.mono ?_; rintro e w1 ⟨rfl, hw1⟩; have hw1' := hw1.symm; subst hw1'; clear hw1)
        go_roundw
        case rel => exact ⟨k + 1, by omega, by go_num, trivial, HD2⟩
        case measure => simp [intOf]; omega
      | false =>
        rw [hs] at HIn
        have HD2 : Hid (standP Le.length Fi La Fo = false) := hid0 (by unfold standP; rw [← HD.out, HS.out, hs]; rfl)
        clear HS HD hs
        go_wp2_with (go_at_call 46; refine HIn.out.mono ?_; rintro e w1 ⟨rfl, hw1⟩; have hw1' := hw1.symm; subst hw1'; clear hw1)
        go_ret
        exact ⟨by rw [HD2.out]; rfl, HB0.out⟩
    · have hkI : ¬ (k : Int) < (Fo.length : Int) := by omega
      have HD2 : Hid (standP Le.length Fi La Fo = (Fi.all (oneOf Le.length) && La.all (oneOf Le.length))) := hid0 (by unfold standP; rw [← HD.out, insA_end (by omega), Bool.true_and])
      clear HD
      generalize Fi.all (oneOf Le.length) = b1 at *
      generalize La.all (oneOf Le.length) = b2 at *
      cases b1 <;> cases b2
      all_goals
        go_wp2_with (first
          | (go_at_call 46; have hq := HQ1.out; refine H2.out.mono ?_; rintro e w2 ⟨rfl, hw2⟩; have hw2' := hw2.symm; subst hw2'; clear hw2 hq)
          | (go_at_call 46; (fail_if_success (have hq := HQ1.out)); refine H1.out.mono ?_; rintro e w1 ⟨rfl, hw1⟩; have hw1' := hw1.symm; subst hw1'; clear hw1; have HQ1 : Hid True := hid0 trivial)
          | fail)
        go_ret
        exact ⟨by rw [HD2.out]; rfl, HB0.out⟩
set_option maxRecDepth 10000 in
set_option maxHeartbeats 6400000 in
theorem refCheck_any (sy : Int) (aL aF aA aO : Option Addr) (cL cF cA cO : Nat) (Le Fo : List (List Int)) (Fi La : List Int) (em : Bool) (w : World) (hp : PosA w aL aF aA aO Le Fo Fi La) :
    Calls Tryd.prog 20 #[posV aL aF aA aO cL cF cA cO Le Fo Fi La em, .int .i64 sy] w fun e w' => e = .returned (.int .i64 (numP (chkP Le Fo Fi La sy))) ∧ Below w.heap.size w w' := by
  unfold posV
  obtain ⟨w0, hw0⟩ : ∃ w0, w0 = w.alloc (.cells #[.slice aL Le.length cL, .slice aF Fi.length cF, .slice aA La.length cA, .slice aO Fo.length cO, .bool em] 25) := ⟨_, rfl⟩
  have hB0 : Below w.heap.size w w0 := by rw [hw0]; exact (Below.refl _ _).alloc (Nat.le_refl _) _
  have hX0 : w0.heap[w.heap.size]? = some (.cells #[.slice aL Le.length cL, .slice aF Fi.length cF, .slice aA La.length cA, .slice aO Fo.length cO, .bool em] 25 (0, 0)) := by rw [hw0]; exact heap_alloc_new w _
  have HB0 := hid0 hB0
  have hp0 := hp.past hB0
  obtain ⟨x0, x1, x2, x3, x4⟩ := row5 hX0
  have hl1 := hp.l1
  have hl4 := hp.l4
  have HFo := hid0 hp0.fo
  have HLe := hid0 hp0.le
  have HFoR := hid0 hp.r4
  have HLeR := hid0 hp.r1
  have HFoS := hid0 (fun k => sumL_le hp.r4 hp.l4 k)
  have HLeS := hid0 (fun k => sumL_le hp.r1 hp.l1 k)
  have R1 := hid0 (refAll_any sy Le aL cL w0 (by omega) (fun r hr => by have := hp.r1 r hr; omega) hp0.le)
  have R2 := hid0 (fun q => refAll_any Le.length Fo aO cO (w0.drewN q) (by omega) (fun r hr => by have := hp.r4 r hr; omega) (hp0.fo.drewN q))
  have R3 := hid0 (fun q => refRises_any Le.length Fi aF cF (w0.drewN q) (by have := hp.l2; omega) ⟨hp0.fi.at'⟩)
  have R4 := hid0 (fun q => refRises_any Le.length La aA cA (w0.drewN q) (by have := hp.l3; omega) ⟨hp0.la.at'⟩)
  have hfold := hw0.symm
  clear hw0 hp hp0 hB0 hX0
  go_enter Tryd.func20, Tryd.ntmps20
  go_wp2
  go_loopw [5, 6] (fun s i wr => ∃ (k : Nat), k ≤ Fo.length ∧ i = .int .i64 (k : Int) ∧ s = .int .i64 (sumL (Fo.take k) : Int) ∧ wr = w0) (fun _ i _ => Fo.length - (intOf i).toNat)
  case atStart => exact ⟨0, Nat.zero_le _, rfl, rfl, rfl⟩
  case round =>
    obtain ⟨k, hk, rfl, rfl, hwr⟩ := hrel
    have hwr' := hwr.symm
    subst hwr'
    clear hwr
    have hsm := HFoS.out k
    by_cases hlt : k < Fo.length
    · obtain ⟨b3, off, rfl, _, a1, c1, d1, i1⟩ := HFo.out.at' k hlt
      have hkI : (k : Int) < (Fo.length : Int) := by omega
      have hkI0 : (0 : Int) ≤ (k : Int) := by omega
      have hst := sumL_take hlt
      have hrl := HFoR.out _ (List.getElem_mem hlt)
      clear i1
      generalize (Fo[k]).length = n at *
      have HST := hid0 hst
      clear hst
      generalize sumL (Fo.take k) = m at *
      go_wp2
      go_roundw
      case rel => exact ⟨k + 1, by omega, by go_num, by rw [HST.out]; go_num, trivial⟩
      case measure => simp [intOf]; omega
    · have hkI : ¬ (k : Int) < (Fo.length : Int) := by omega
      have hkn : k = Fo.length := by omega
      have hfin : sumL (Fo.take k) = sumL Fo := by rw [hkn, List.take_length]
      have hqHFo : sumL Fo ≤ 16000000000000 := by rw [← hfin]; exact hsm
      rw [hfin]
      clear hsm hlt hkn hfin
      go_wp2
      go_loopw [7, 8] (fun s i wr => ∃ (k : Nat), k ≤ Le.length ∧ i = .int .i64 (k : Int) ∧ s = .int .i64 (sumL (Le.take k) : Int) ∧ wr = w0) (fun _ i _ => Le.length - (intOf i).toNat)
      case atStart => exact ⟨0, Nat.zero_le _, rfl, rfl, rfl⟩
      case round =>
        obtain ⟨k, hk, rfl, rfl, hwr⟩ := hrel
        have hwr' := hwr.symm
        subst hwr'
        clear hwr
        have hsm := HLeS.out k
        by_cases hlt : k < Le.length
        · obtain ⟨b3, off, rfl, _, a1, c1, d1, i1⟩ := HLe.out.at' k hlt
          have hkI : (k : Int) < (Le.length : Int) := by omega
          have hkI0 : (0 : Int) ≤ (k : Int) := by omega
          have hst := sumL_take hlt
          have hrl := HLeR.out _ (List.getElem_mem hlt)
          clear i1
          generalize (Le[k]).length = n at *
          have HST := hid0 hst
          clear hst
          generalize sumL (Le.take k) = m at *
          go_wp2
          go_roundw
          case rel => exact ⟨k + 1, by omega, by go_num, by rw [HST.out]; go_num, trivial⟩
          case measure => simp [intOf]; omega
        · have hkI : ¬ (k : Int) < (Le.length : Int) := by omega
          have hkn : k = Le.length := by omega
          have hfin : sumL (Le.take k) = sumL Le := by rw [hkn, List.take_length]
          have hqHLe : sumL Le ≤ 16000000000000 := by rw [← hfin]; exact hsm
          rw [hfin]
          clear hsm hlt hkn hfin
          by_cases h1 : (Le.length : Int) > 4000
          case pos =>
            have HV : Hid (chkP Le Fo Fi La sy = some 2) := hid0 (by unfold chkP; rw [if_pos (.inl (by omega))])
            go_wp2
            go_ret
            exact ⟨by rw [HV.out]; rfl, HB0.out⟩
          by_cases h2 : (sumL Le : Int) > 4194304
          case pos =>
            have HV : Hid (chkP Le Fo Fi La sy = some 2) := hid0 (by unfold chkP; rw [if_pos (.inr (.inl (by omega)))])
            go_wp2
            go_ret
            exact ⟨by rw [HV.out]; rfl, HB0.out⟩
          by_cases h3 : (sumL Fo : Int) > 1048576
          case pos =>
            have HV : Hid (chkP Le Fo Fi La sy = some 2) := hid0 (by unfold chkP; rw [if_pos (.inr (.inr (by omega)))])
            go_wp2
            go_ret
            exact ⟨by rw [HV.out]; rfl, HB0.out⟩
          have HC : Hid (chkP Le Fo Fi La sy = if sy < 1 ∨ 16384 < sy ∨ ¬ Fo.length = Le.length then some 0 else if riseA sy Le && plRise Le.length Fi La Fo then none else some 0) := hid0 (by unfold chkP; rw [if_neg (by omega)])
          by_cases h4 : sy < 1
          case pos =>
            have HV : Hid (chkP Le Fo Fi La sy = some 0) := hid0 (by rw [HC.out, if_pos (.inl h4)])
            go_wp2
            go_ret
            exact ⟨by rw [HV.out]; rfl, HB0.out⟩
          by_cases h5 : sy > 16384
          case pos =>
            have HV : Hid (chkP Le Fo Fi La sy = some 0) := hid0 (by rw [HC.out, if_pos (.inr (.inl h5))])
            go_wp2
            go_ret
            exact ⟨by rw [HV.out]; rfl, HB0.out⟩
          by_cases h6 : (Fo.length : Int) = (Le.length : Int)
          case neg =>
            have h6n : ¬ Fo.length = Le.length := by omega
            have h6b : ((Fo.length : Int) != (Le.length : Int)) = true := by simp; omega
            have h6c : (Fo.length != Le.length) = true := by simp; omega
            have HV : Hid (chkP Le Fo Fi La sy = some 0) := hid0 (by rw [HC.out, if_pos (.inr (.inr (by omega)))])
            go_wp2
            go_ret
            exact ⟨by rw [HV.out]; rfl, HB0.out⟩
          have HC2 : Hid (chkP Le Fo Fi La sy = if riseA sy Le && plRise Le.length Fi La Fo then none else some 0) := hid0 (by rw [HC.out, if_neg (by omega)])
          clear HC
          unfold plRise at HC2
          generalize riseA sy Le = g1 at *
          generalize riseA (Le.length : Int) Fo = g2 at *
          generalize riseF (Le.length : Int) 0 Fi = g3 at *
          generalize riseF (Le.length : Int) 0 La = g4 at *
          cases g1 <;> cases g2 <;> cases g3 <;> cases g4
          all_goals
            obtain ⟨vv, hvv⟩ : ∃ vv, chkP Le Fo Fi La sy = vv := ⟨_, rfl⟩
            have HV : Hid (chkP Le Fo Fi La sy = vv) := hid0 hvv
            rw [hvv] at HC2
            have hv2 := HC2.out
            simp at hv2
            clear hvv HC2
            subst hv2
            go_wp2_with (first
              | (go_at_call 40; have hq := HQ3.out; refine (R4.out _).mono ?_; rintro e w4 ⟨rfl, hw4⟩; obtain ⟨q4, rfl⟩ := drew_add hw4; clear hw4 hq)
              | (go_at_call 40; (fail_if_success (have hq := HQ3.out)); refine (R3.out _).mono ?_; rintro e w3 ⟨rfl, hw3⟩; obtain ⟨q3, rfl⟩ := drew_add hw3; clear hw3; have HQ3 : Hid True := hid0 trivial)
              | (go_at_call 39; have hq := HQ1.out; refine (R2.out _).mono ?_; rintro e w2 ⟨rfl, hw2⟩; obtain ⟨q2, rfl⟩ := drew_add hw2; clear hw2 hq)
              | (go_at_call 39; (fail_if_success (have hq := HQ1.out)); refine R1.out.mono ?_; rintro e w1 ⟨rfl, q1, hw1⟩; subst hw1; have HQ1 : Hid True := hid0 trivial)
              | fail)
            go_ret
            exact ⟨by rw [HV.out]; rfl, below_drew' HB0.out _⟩
end Go.Proofs.YtlkgghbdgjomkaaDoor
namespace Go.Proofs.YtlkgghbdgjomkaaDoor
open Go.RowKit Go.Shelf
/-- Numbers in memory, in a block from lo on. -/
structure IQ (w : World) (lo : Nat) (a : Option Addr) (L : List Int) : Prop where
  at' : ∀ k (h : k < L.length), ∃ b off, a = some ⟨b, off, none⟩ ∧ lo ≤ b ∧ b < w.heap.size ∧ w.cell? ⟨b, off + k, none⟩ = some (.int .i64 L[k])
theorem IQ.ia {w : World} {lo : Nat} {a : Option Addr} {L : List Int} (h : IQ w lo a L) : IA w a L := ⟨fun k hk => by
  obtain ⟨b, off, e, _, h1, h2⟩ := h.at' k hk
  exact ⟨b, off, e, h1, h2⟩⟩
theorem IQ.keep {w w' : World} {lo : Nat} {a : Option Addr} {L : List Int} (h : IQ w lo a L) (hs : w.heap.size ≤ w'.heap.size) (hk : ∀ k, lo ≤ k → k < w.heap.size → w'.heap[k]? = w.heap[k]?) : IQ w' lo a L := ⟨fun k hk' => by
  obtain ⟨b, off, e, h0, h1, h2⟩ := h.at' k hk'
  exact ⟨b, off, e, h0, by omega, (World.cell?_of_block (w := w) (hk b h0 h1)).trans h2⟩⟩
/-- Lists of numbers likewise. -/
structure RwQ (w : World) (lo : Nat) (a : Option Addr) (L : List (List Int)) : Prop where
  at' : ∀ k (h : k < L.length), ∃ b off, a = some ⟨b, off, none⟩ ∧ lo ≤ b ∧ b < w.heap.size ∧ ∃ a1 c1, w.cell? ⟨b, off + k, none⟩ = some (.slice a1 (L[k]).length c1) ∧ IQ w lo a1 L[k]
theorem RwQ.rwa {w : World} {lo : Nat} {a : Option Addr} {L : List (List Int)} (h : RwQ w lo a L) : RwA w a L := ⟨fun k hk => by
  obtain ⟨b, off, e, _, h1, a1, c1, h2, h3⟩ := h.at' k hk
  exact ⟨b, off, e, h1, a1, c1, h2, h3.ia⟩⟩
theorem RwQ.keep {w w' : World} {lo : Nat} {a : Option Addr} {L : List (List Int)} (h : RwQ w lo a L) (hs : w.heap.size ≤ w'.heap.size) (hk : ∀ k, lo ≤ k → k < w.heap.size → w'.heap[k]? = w.heap[k]?) : RwQ w' lo a L := ⟨fun k hk' => by
  obtain ⟨b, off, e, h0, h1, a1, c1, h2, h3⟩ := h.at' k hk'
  exact ⟨b, off, e, h0, by omega, a1, c1, (World.cell?_of_block (w := w) (hk b h0 h1)).trans h2, h3.keep hs hk⟩⟩
theorem OwnI.iq {w : World} {base : Nat} {v : Value} {L : List Int} (h : OwnI w base v L) : ∃ a cap, v = .slice a L.length cap ∧ IQ w base a L := by
  have h0 := h
  rcases h.2 with ⟨rfl, hn⟩ | ⟨g, cap, cur, rfl, hg, hr, hc, _⟩
  · exact ⟨none, 0, by rw [hn], ⟨fun k hk => by omega⟩⟩
  · refine ⟨_, cap, rfl, ⟨fun k hk => ⟨g, 0, rfl, hg, (World.ownsRow.lt h0 g rfl).2, ?_⟩⟩⟩
    have := World.ownsRow.cellAt h0 k (by omega)
    rw [Nat.zero_add, this]
    simp [hk]
theorem OwnI.past {w w' : World} {base : Nat} {v : Value} {L : List Int} (h : OwnI w base v L) (hb : Below w.heap.size w w') : OwnI w' base v L := own_blk h (fun k hk => hb.block k (World.ownsRow.lt h k hk).2)
theorem row_later {w w' : World} {base : Nat} {t : TypeId} {size n : Nat} {v : Value} {xs : List Value} (h : w.ownsRow base t size v n xs) (hb : Below w.heap.size w w') : w'.ownsRow base t size v n xs := own_blk h (fun k hk => hb.block k (World.ownsRow.lt h k hk).2)
abbrev Lot := List (Value × List Int)
structure Bag (w : World) (base : Nat) (v : Value) (ps : Lot) : Prop where
  outer : w.ownsRow base 23 1 v ps.length (ps.map (·.1))
  row : ∀ x ∈ ps, OwnI w base x.1 x.2
  apart : ps.Pairwise fun x y => ∀ g, x.1.ownBlock = some g → y.1.ownBlock ≠ some g
  away : ∀ x ∈ ps, ∀ g, v.ownBlock = some g → x.1.ownBlock ≠ some g
theorem Bag.nil (w : World) (base : Nat) : Bag w base (.slice none 0 0) [] := ⟨World.ownsRow_nil _ _ _ _, by simp, List.Pairwise.nil, by simp⟩
theorem Bag.later {w w' : World} {base : Nat} {v : Value} {ps : Lot} (h : Bag w base v ps) (hb : Below w.heap.size w w') : Bag w' base v ps :=
  ⟨row_later h.outer hb, fun x hx => (h.row x hx).past hb, h.apart, h.away⟩
/-- All lists empty. -/
theorem Bag.made {w : World} {base : Nat} {v : Value} {n : Nat} (h : w.ownsRow base 23 1 v n (List.replicate n (.slice none 0 0))) : Bag w base v (List.replicate n (.slice none 0 0, [])) := by
  refine ⟨?_, ?_, ?_, ?_⟩
  · rw [List.length_replicate, List.map_replicate]; exact h
  · intro x hx
    rw [List.eq_of_mem_replicate hx]
    exact World.ownsRow_nil _ _ _ _
  · rw [List.pairwise_replicate]
    right
    intro g hg
    cases hg
  · intro x hx g _ hxg
    rw [List.eq_of_mem_replicate hx] at hxg
    cases hxg
/-- One list is another one. -/
theorem Bag.set {W w1 : World} {base g n c : Nat} {ps : Lot} (h : Bag W base (.slice (some ⟨g, 0, none⟩) n c) ps) (hn : n = ps.length) (y : Nat) (hy : y < ps.length) {v' : Value} {l' : List Int}
    (hk : ∀ k, k < W.heap.size → (ps[y]).1.ownBlock ≠ some k → w1.heap[k]? = W.heap[k]?) (hv : OwnI w1 base v' l') (hnew : ∀ q, v'.ownBlock = some q → (ps[y]).1.ownBlock = some q ∨ W.heap.size ≤ q) :
    Bag (w1.setCell ⟨g, y, none⟩ v') base (.slice (some ⟨g, 0, none⟩) n c) (ps.set y (v', l')) := by
  subst hn
  have hmem : ps[y] ∈ ps := List.getElem_mem hy
  have hgl := World.ownsRow.lt h.outer g rfl
  have hvg : ∀ q, v'.ownBlock = some q → q ≠ g := fun q hq e => by
    subst e
    rcases hnew q hq with h1 | h1
    · exact h.away _ hmem q rfl h1
    · omega
  have hyg : (ps[y]).1.ownBlock ≠ some g := h.away _ hmem g rfl
  have hout1 : w1.ownsRow base 23 1 (.slice (some ⟨g, 0, none⟩) ps.length c) ps.length (ps.map (·.1)) := own_blk h.outer (fun k hk' => by
    have e : g = k := by simpa [Value.ownBlock] using hk'
    subst e
    exact hk g hgl.2 hyg)
  have hother : ∀ {t : TypeId} {size m : Nat} {u : Value} {xs : List Value}, w1.ownsRow base t size u m xs → (∀ q, u.ownBlock = some q → q ≠ g) → (w1.setCell ⟨g, y, none⟩ v').ownsRow base t size u m xs := by
    intro t size m u xs ho hne
    exact own_blk ho (fun q hq => Below.heap_setCell w1 _ _ q (hne q hq))
  refine ⟨?_, ?_, ?_, ?_⟩
  · have h1 := (World.ownsRow.stored hout1 y v').1
    rw [List.length_set, List.map_set]
    exact h1
  · intro x hx
    obtain ⟨j, hj, rfl⟩ := List.getElem_of_mem hx
    have hj2 : j < ps.length := by simpa using hj
    rw [List.getElem_set]
    split
    · exact hother hv hvg
    · rename_i hne
      have hr := h.row _ (List.getElem_mem hj2)
      refine hother (own_blk hr (fun q hq => hk q (World.ownsRow.lt hr q hq).2 ?_)) (fun q hq e => ?_)
      · intro hyq
        have := List.pairwise_iff_getElem.1 h.apart
        rcases Nat.lt_or_gt_of_ne hne with hlt | hlt
        · exact this y j hy hj2 hlt q hyq hq
        · exact this j y hj2 hy hlt q hq hyq
      · subst e
        exact h.away _ (List.getElem_mem hj2) q rfl hq
  · rw [List.pairwise_iff_getElem]
    intro i j hi hj hij q hiq hjq
    have hi2 : i < ps.length := by simpa using hi
    have hj2 : j < ps.length := by simpa using hj
    have ap := List.pairwise_iff_getElem.1 h.apart
    rw [List.getElem_set] at hiq hjq
    split at hiq
    · rename_i e
      subst e
      rw [if_neg (by omega)] at hjq
      rcases hnew q hiq with h1 | h1
      · exact ap y j hi2 hj2 hij q h1 hjq
      · have := (World.ownsRow.lt (h.row _ (List.getElem_mem hj2)) q hjq).2; omega
    · split at hjq
      · rename_i e
        subst e
        rcases hnew q hjq with h1 | h1
        · exact ap i y hi2 hj2 hij q hiq h1
        · have := (World.ownsRow.lt (h.row _ (List.getElem_mem hi2)) q hiq).2; omega
      · exact ap i j hi2 hj2 hij q hiq hjq
  · intro x hx q hq hxq
    have e : g = q := by simpa [Value.ownBlock] using hq
    subst e
    obtain ⟨j, hj, rfl⟩ := List.getElem_of_mem hx
    have hj2 : j < ps.length := by simpa using hj
    rw [List.getElem_set] at hxq
    split at hxq
    · exact hvg g hxq rfl
    · exact h.away _ (List.getElem_mem hj2) g rfl hxq
theorem Bag.cells {w : World} {base g n c : Nat} {ps : Lot} (h : Bag w base (.slice (some ⟨g, 0, none⟩) n c) ps) (hn : n = ps.length) (j : Nat) (hj : j < ps.length) : w.cell? ⟨g, j, none⟩ = some (ps[j]).1 ∧ w.frozen? ⟨g, j, none⟩ = false := by
  subst hn
  refine ⟨?_, World.ownsRow.frozenAt h.outer j⟩
  rw [World.ownsRow.cellAt h.outer j (by omega)]
  simp [hj]
theorem Bag.rwq {w : World} {base : Nat} {v : Value} {ps : Lot} (h : Bag w base v ps) : ∃ a c, v = .slice a (ps.map (·.2)).length c ∧ RwQ w base a (ps.map (·.2)) := by
  have h0 := h.outer
  rcases h0.2 with ⟨hv, hn⟩ | ⟨g, cap, cur, hv, hg, _⟩
  · have hps : ps = [] := List.eq_nil_of_length_eq_zero (by omega)
    subst hps
    exact ⟨none, 0, hv, ⟨fun k hk => by simp at hk⟩⟩
  · refine ⟨some ⟨g, 0, none⟩, cap, by rw [hv, List.length_map], ⟨fun k hk => ?_⟩⟩
    have hk' : k < ps.length := by simpa using hk
    obtain ⟨a1, c1, e1, hq⟩ := (h.row ps[k] (List.getElem_mem hk')).iq
    rw [hv] at h0
    refine ⟨g, 0, rfl, hg, (World.ownsRow.lt h0 g rfl).2, a1, c1, ?_, ?_⟩
    · rw [Nat.zero_add, World.ownsRow.cellAt h0 k (by omega)]
      simp [hk', e1]
    · simp only [List.getElem_map]
      exact hq
/-- One more, made behind the others. -/
theorem Bag.snoc {W wr w1 : World} {base : Nat} {v v' x : Value} {ps : Lot} {l : List Int} {o : Obj} {n : Nat} (hn : n = ps.length) (h : Bag W base v ps) (hk : Below W.heap.size W wr) (hx : OwnI wr W.heap.size x l) (hbase : base ≤ W.heap.size)
    (hown' : w1.ownsRow base 23 1 v' (n + 1) (ps.map (·.1) ++ [x])) (hgrow : (wr.alloc o).grownBy w1 v.ownBlock) (hat : v'.ownBlock = v.ownBlock ∨ v'.ownBlock = some (wr.alloc o).heap.size) {w : World} (hb : Below base w W) :
    Bag w1 base v' (ps ++ [(x, l)]) ∧ Below base w w1 := by
  subst hn
  have h2 := h.later hk
  have hs := hk.size
  have hxl := World.ownsRow.lt hx
  have hxa : ∀ g, v.ownBlock = some g → x.ownBlock ≠ some g := fun g hg hxg => by
    have e1 := (World.ownsRow.lt h.outer g hg).2
    have e2 := (hxl g hxg).1
    omega
  have old : ∀ (u : Value) (m : List Int) (b : Nat), OwnI wr b u m → (∀ g, v.ownBlock = some g → u.ownBlock ≠ some g) → OwnI w1 b u m := fun u m b hu hne => by
    refine World.ownsRow.kept (World.ownsRow.alloc hu o) hgrow ?_
    cases e : u.ownBlock with
    | none => exact .inl rfl
    | some g => exact .inr fun hc => hne g hc.symm e
  refine ⟨⟨?_, ?_, ?_, ?_⟩, ?_⟩
  · rw [List.length_append, List.map_append]
    exact hown'
  · intro y hy
    rcases List.mem_append.1 hy with hy | hy
    · exact old _ _ _ (h2.row y hy) (h.away y hy)
    · rw [List.mem_singleton] at hy
      subst hy
      exact owns_lower (old _ _ _ hx hxa) hbase
  · rw [List.pairwise_append]
    refine ⟨h.apart, List.pairwise_singleton _ _, ?_⟩
    intro y hy z hz g hg hzg
    rw [List.mem_singleton] at hz
    subst hz
    have e1 := (World.ownsRow.lt (h.row y hy) g hg).2
    have e2 := (hxl g hzg).1
    omega
  · intro y hy g hg hyg
    have hlt : g < wr.heap.size := by
      rcases List.mem_append.1 hy with hy | hy
      · exact (World.ownsRow.lt (h2.row y hy) g hyg).2
      · rw [List.mem_singleton] at hy
        subst hy
        exact (hxl g hyg).2
    rcases hat with hat | hat
    · rw [hat] at hg
      rcases List.mem_append.1 hy with hy | hy
      · exact h.away y hy g hg hyg
      · rw [List.mem_singleton] at hy
        subst hy
        exact hxa g hg hyg
    · rw [hat] at hg
      simp at hg
      omega
  · refine ((hb.trans (hk.mono hbase)).alloc ?_ o).grown hgrow ?_ (fun k hk' => (World.ownsRow.lt h.outer k hk').1)
    · omega
    · simp; omega
/-- x is put behind the list of y. -/
def putT (x : Nat) (T : List (List Int)) (y : Int) : List (List Int) := T.set y.toNat (T.getD y.toNat [] ++ [(x : Int)])
/-- Follow turned round, list by list. -/
def turnA : Nat → List (List Int) → List (List Int) → List (List Int)
  | _, [], T => T
  | x, r :: L, T => turnA (x + 1) L (r.foldl (putT x) T)
def turnL (Fo : List (List Int)) : List (List Int) := turnA 0 Fo (List.replicate Fo.length [])
theorem putT_len (x : Nat) (T : List (List Int)) (y : Int) : (putT x T y).length = T.length := by unfold putT; rw [List.length_set]
theorem turnA_drop {Fo T : List (List Int)} {k : Nat} (hk : k < Fo.length) : turnA k (Fo.drop k) T = turnA (k + 1) (Fo.drop (k + 1)) ((Fo[k]).foldl (putT k) T) := by
  rw [List.drop_eq_getElem_cons hk, turnA]
theorem turnA_end {Fo T : List (List Int)} {k : Nat} (hk : Fo.length ≤ k) : turnA k (Fo.drop k) T = T := by
  rw [List.drop_of_length_le hk, turnA]
theorem fold_drop {r : List Int} {x k : Nat} {T : List (List Int)} (hk : k < r.length) : (r.drop k).foldl (putT x) T = (r.drop (k + 1)).foldl (putT x) (putT x T r[k]) := by
  rw [List.drop_eq_getElem_cons hk, List.foldl_cons]
end Go.Proofs.YtlkgghbdgjomkaaDoor
namespace Go.Proofs.YtlkgghbdgjomkaaDoor
open Go.RowKit Go.Shelf
theorem sizeInt1 : (Tryd.prog.info? 3).map (·.size) = some 1 := by kernel_rfl
/-- The row of a slice that has no room. -/
theorem own_full {w : World} {base : Nat} {t : TypeId} {g n : Nat} {xs : List Value} (h : w.ownsRow base t 1 (.slice (some ⟨g, 0, none⟩) n n) n xs) : w.heap[g]? = some (.cells xs.toArray t (0, 0)) := by
  rcases h.2 with ⟨e, _⟩ | ⟨g', cap, cur, e, _, hr, _, _, hs, ht⟩
  · cases e
  · cases e
    have hsz : cur.toList.length = n := by simpa using hs
    have : xs = cur.toList := by rw [← ht, List.take_of_length_le (by omega)]
    rw [hr, this]
theorem full_own {w : World} {base : Nat} {t : TypeId} {g n : Nat} {xs : List Value} (hb : base ≤ g) (hn : n ≤ maxLen) (hl : xs.length = n) (h : w.heap[g]? = some (.cells xs.toArray t (0, 0))) : w.ownsRow base t 1 (.slice (some ⟨g, 0, none⟩) n n) n xs :=
  ⟨by omega, .inr ⟨g, n, xs.toArray, rfl, hb, h, Nat.le_refl _, hn, by simp [hl], by rw [List.take_of_length_le (by simp [hl])]⟩⟩
theorem copy_run {w1 : World} {g n c : Nat} {a : Option Addr} {L : List Int} {xs : List Value} (hr : w1.heap[g]? = some (.cells xs.toArray 3 (0, 0))) (hx : xs.length = n) (hl : L.length = n) (ha : IA w1 a L) :
    ∃ w2, (Builtin.copy_ #[23, 23] 3 #[.slice (some ⟨g, 0, none⟩) n n, .slice a n c]).run Tryd.prog w1 = .ok (goInt (n : Int)) w2 ∧ w2.heap[g]? = some (.cells (L.map (Value.int .i64)).toArray 3 (0, 0)) ∧ ∀ B w0, B ≤ g → Below B w0 w1 → Below B w0 w2 := by
  by_cases h0 : n = 0
  · have e1 : L = [] := List.eq_nil_of_length_eq_zero (by omega)
    have e2 : xs = [] := List.eq_nil_of_length_eq_zero (by omega)
    subst e1 e2
    subst h0
    refine ⟨w1, run_copy_none (P := Tryd.prog) w1 23 23 3 3 _ _ 0 0 0 c Tryd.underlying23 sizeInt1 rfl, hr, fun B w0 _ h => h⟩
  · obtain ⟨b, off, rfl, _, _⟩ := ha.at' 0 (by omega)
    have hrun := run_copy_row (P := Tryd.prog) w1 23 23 3 3 g 0 n n ⟨b, off, none⟩ n c xs.toArray 3 (L.map (Value.int .i64)) Tryd.underlying23 sizeInt1 hr (by simp [hl]) (fun j v hv => by
      have hj : j < L.length := by have := (List.getElem?_eq_some_iff.1 hv).1; simpa using this
      obtain ⟨b', off', e', _, h2⟩ := ha.at' j hj
      cases e'
      rw [Addr.add_mid, h2]
      have e : (L.map (Value.int .i64))[j]? = some (.int .i64 L[j]) := by simp [hj]
      rw [e] at hv
      exact hv) (by simp [hl, hx]) (fun v hv => by obtain ⟨y, _, rfl⟩ := List.mem_map.1 hv; rfl)
    have e3 : (xs.toArray.toList.take 0 ++ L.map (Value.int .i64) ++ xs.toArray.toList.drop (0 + (L.map (Value.int .i64)).length)) = L.map (Value.int .i64) := by
      rw [List.drop_of_length_le (by simp [hl, hx])]
      simp
    have e4 : (L.map (Value.int .i64)).length = n := by simp [hl]
    rw [e3, e4] at hrun
    refine ⟨_, hrun, ?_, fun B w0 hB h => below_setRow h hB _⟩
    exact setRow_heap w1 g _ _ _ _ hr
set_option maxRecDepth 10000 in
set_option maxHeartbeats 800000 in
theorem copyOf_any (L : List Int) (a : Option Addr) (c : Nat) (w : World) (hl : L.length ≤ 1000000000) (ha : IA w a L) :
    Calls Tryd.prog 27 #[.slice a L.length c] w fun e w' => ∃ v, e = .returned v ∧ OwnI w' w.heap.size v L ∧ Below w.heap.size w w' := by
  obtain ⟨i0, hi, hz0, hz1, hz2⟩ := info_parts infoInt
  have HA := hid0 ha
  clear ha
  go_enter Tryd.func27, Tryd.ntmps27
  go_wp2_with (at_make; refine wpList_make_full _ rfl _ _ 23 rfl w.heap.size 3 i0 (.int .i64 0) 1 Tryd.underlying23 hi hz0 hz1 .i64 .i64 _ _ L.length rfl rfl rfl rfl (by rw [hz2]; omega) (by unfold maxLen; omega) (Nat.le_refl _) ?_; intro w1 hown1 hgrow1; have hb1 := (Below.refl w.heap.size w).grown hgrow1 (Nat.le_refl _) (fun k hk => by cases hk); obtain ⟨w2, hcp, hr2, hb2⟩ := copy_run (c := c) (own_full hown1) (by simp [size_madeCells]) rfl (HA.out.past hb1); have HR2 := hid0 hr2; have HB2 := hid0 (hb2 w.heap.size w (Nat.le_refl _) hb1); clear hown1 hgrow1 hb1 hr2 hb2)
  go_ret
  exact ⟨_, rfl, full_own (Nat.le_refl _) (by unfold maxLen; omega) (by simp) HR2.out, HB2.out⟩
theorem set_fill {L : List (List Int)} {k n : Nat} (hk : k < L.length) (hn : n = L.length) : (L.take k ++ List.replicate (n - k) []).set k L[k] = L.take (k + 1) ++ List.replicate (n - (k + 1)) [] := by
  subst hn
  have e : L.length - k = L.length - (k + 1) + 1 := by omega
  have e2 : L.take (k + 1) = L.take k ++ [L[k]] := by rw [List.take_add_one, List.getElem?_eq_getElem hk]; rfl
  have hl : (L.take k).length = k := by rw [List.length_take]; omega
  rw [e, List.replicate_succ, e2, List.set_append_right _ _ (by omega), hl, Nat.sub_self, List.set_cons_zero, List.append_assoc]
  rfl
theorem Bag.make {w w1 : World} {n : Nat} (hown : w1.ownsRow w.heap.size 23 1 (.slice (some ⟨w.heap.size, 0, none⟩) n n) n (madeCells (Value.cells (.slice none 0 0)) (n * 1)).toList) : Bag w1 w.heap.size (.slice (some ⟨w.heap.size, 0, none⟩) n n) (List.replicate n (.slice none 0 0, [])) := by
  refine Bag.made ?_
  have e : (madeCells (Value.cells (.slice none 0 0)) (n * 1)).toList = List.replicate n (.slice none 0 0) := by
    have := toList_madeCells_one (.slice none 0 0) (n * 1)
    rw [Nat.mul_one] at this ⊢
    exact this
  rw [e] at hown
  exact hown
set_option maxRecDepth 10000 in
set_option maxHeartbeats 1600000 in
theorem copied_any (L : List (List Int)) (a : Option Addr) (c : Nat) (w : World) (hl : L.length ≤ 1000000000) (hr : ∀ r ∈ L, r.length ≤ 1000000000) (ha : RwA w a L) :
    Calls Tryd.prog 26 #[.slice a L.length c] w fun e w' => ∃ v, e = .returned v ∧ ∃ ps, Bag w' w.heap.size v ps ∧ ps.map (·.2) = L ∧ Below w.heap.size w w' := by
  obtain ⟨i0, hi, hz0, hz1, hz2⟩ := info_parts infoInts
  have HA := hid0 ha
  have HR := hid0 hr
  clear ha hr
  go_enter Tryd.func26, Tryd.ntmps26
  go_wp2_with (at_make; refine wpList_make_full _ rfl _ _ 22 rfl w.heap.size 23 i0 (.slice none 0 0) 1 Tryd.underlying22 hi hz0 hz1 .i64 .i64 _ _ L.length rfl rfl rfl rfl (by rw [hz2]; omega) (by unfold maxLen; omega) (Nat.le_refl _) ?_; intro w1 hown1 hgrow1; have HBg := hid0 (Bag.make hown1); have HB1 := hid0 ((Below.refl w.heap.size w).grown hgrow1 (Nat.le_refl _) (fun k hk => by cases hk)); clear hown1 hgrow1)
  go_loopw [11] (fun i wr => ∃ (k : Nat) (ps : Lot), k ≤ L.length ∧ i = .int .i64 (k : Int) ∧ Hid (Bag wr w.heap.size (.slice (some ⟨w.heap.size, 0, none⟩) L.length L.length) ps) ∧ Hid (ps.length = L.length) ∧ Hid (ps.map (·.2) = L.take k ++ List.replicate (L.length - k) []) ∧ Hid (Below w.heap.size w wr)) (fun i _ => L.length - (intOf i).toNat)
  case atStart => exact ⟨0, _, Nat.zero_le _, rfl, HBg, hid0 (by simp), hid0 (by simp), HB1⟩
  case round =>
    clear HBg HB1
    obtain ⟨k, ps, hk, rfl, HBg, HPl, HPm, HB⟩ := hrel
    have hbs := HB.out.size
    by_cases hlt : k < L.length
    · obtain ⟨b, off, rfl, _, a1, c1, d1, i1⟩ := (HA.out.past HB.out).at' k hlt
      have hkI : (k : Int) < (L.length : Int) := by omega
      have hkI0 : (0 : Int) ≤ (k : Int) := by omega
      have HCp := hid0 (copyOf_any L[k] a1 c1 wr (HR.out _ (List.getElem_mem hlt)) i1)
      have HSF := hid0 (set_fill hlt rfl)
      have hkp : k < ps.length := by rw [HPl.out]; exact hlt
      clear i1
      generalize L[k] = s at *
      go_wp2_with (go_at_call 27; refine HCp.out.mono ?_; rintro e w2 ⟨v', rfl, hv', hb'⟩; have hbg := HBg.out.set (w1 := w2) HPl.out.symm k hkp (fun q hq _ => hb'.block q hq) (owns_lower hv' hbs) (fun q hq => .inr (World.ownsRow.lt hv' q hq).1); obtain ⟨cc, ff⟩ := (HBg.out.later hb').cells HPl.out.symm k hkp; obtain ⟨av, cv, rfl, _⟩ := hv'.ia; have HBg2 := hid0 hbg; have HB2 := hid0 ((HB.out.trans (hb'.mono hbs)).setCell (p := ⟨w.heap.size, k, none⟩) (Nat.le_refl _) (.slice av s.length cv)); clear hbg hv' hb')
      have HPl2 : Hid ((ps.set k (Value.slice av s.length cv, s)).length = L.length) := hid0 (by rw [List.length_set]; exact HPl.out)
      have HPm2 : Hid ((ps.set k (Value.slice av s.length cv, s)).map (·.2) = L.take (k + 1) ++ List.replicate (L.length - (k + 1)) []) := hid0 (by rw [List.map_set, HPm.out]; exact HSF.out)
      clear HBg HPl HPm HB HSF
      go_roundw
      case rel => exact ⟨k + 1, _, by omega, by go_num, HBg2, HPl2, HPm2, HB2⟩
      case measure => simp [intOf]; omega
    · have hkI : ¬ (k : Int) < (L.length : Int) := by omega
      have HE : Hid (ps.map (·.2) = L) := hid0 (by rw [HPm.out, List.take_of_length_le (by omega), show L.length - k = 0 by omega]; simp)
      clear HPm
      go_wp2
      go_ret
      exact ⟨_, rfl, ps, HBg.out, HE.out, HB.out⟩
end Go.Proofs.YtlkgghbdgjomkaaDoor
