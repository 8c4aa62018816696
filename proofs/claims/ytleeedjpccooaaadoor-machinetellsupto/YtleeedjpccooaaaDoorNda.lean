/-
  MrM, SentW, MrBW, PlAW, PlM, PlCW, PlDW, PlEW, PlFW, PlGM, PlGW, PlHW, PlIM, PlNM, ExTk, PlIW, PlJW, PlNW, PlSW.
-/
import Derived.Test.YtleeedjpccooaaaDoorProg
import Derived.WalkKit
import Derived.WalkSpells
import Derived.WalkLawsBesides
import Derived.Deep.QuietTactic
import Derived.BigQuiet
import Derived.LaidEql
import Derived.KernelRfl
import Derived.Handy
import Derived.Maps.AppendAt
import Derived.Shelf.Abstract
import Derived.Lib.SlicesS
import Derived.Deep.DeepAppendRoom
import Derived.Deep.AppendLies
import Derived.Deep.RegionHeld3
import Derived.Lib.SmallJoins
import Derived.Deep.Cut
import Derived.Laws.CopyOwn
import Derived.Laws.OwnMore
import Derived.OwnWalk
import Derived.BigRegion
import Derived.Laws.Bits64b
namespace Go.Proofs.YtleeedjpccooaaaDoor
/-- Is it one of so many? -/
def oneOf (n : Nat) (z : Int) : Bool := decide (0 ≤ z) && decide (z < (n : Int))
/-- Does a list rise, from lo on to below cnt? -/
def riseF (cnt : Int) : Int → List Int → Bool
  | _, [] => true
  | lo, z :: l => decide (lo ≤ z) && decide (z < cnt) && riseF cnt (z + 1) l
def rowF (n : Nat) (sy pa : Int) (r o : List Int) : Bool := decide ((r.length : Int) = sy) && r.all (oneOf n) && riseF pa 0 o
/-- May a machine be? -/
def chkF (st : Int) (N O : List (List Int)) (sy pa : Int) : Bool :=
  decide (1 ≤ sy ∧ sy ≤ 16384 ∧ 0 ≤ pa ∧ 1 ≤ N.length ∧ N.length ≤ 16384 ∧ O.length = N.length ∧ (N.length : Int) * sy ≤ 4194304) && oneOf N.length st && (List.range N.length).all fun j => rowF N.length sy pa (N.getD j []) (O.getD j [])
/-- The state to which a symbol leads. -/
def stepF (N : List (List Int)) (s : Nat) (z : Int) : Option Nat :=
  if 0 ≤ z ∧ z < ((N.getD s []).length : Int) then (if oneOf N.length ((N.getD s []).getD z.toNat 0) then some ((N.getD s []).getD z.toNat 0).toNat else none) else none
def goF (N : List (List Int)) : List Int → Nat → List Int → Option (List Int)
  | acc, _, [] => some acc
  | acc, s, z :: l => match stepF N s z with | none => none | some t => goF N (acc ++ [(t : Int)]) t l
/-- The states of a run; none: it is refused. -/
def runF (N : List (List Int)) (st : Int) (l : List Int) : Option (List Int) := if oneOf N.length st then goF N [st] st.toNat l else none
theorem oneOf_iff (n : Nat) (z : Int) : oneOf n z = true ↔ 0 ≤ z ∧ z < (n : Int) := by unfold oneOf; simp
theorem oneOf_not (n : Nat) (z : Int) : oneOf n z = false ↔ ¬ (0 ≤ z ∧ z < (n : Int)) := by rw [← oneOf_iff]; simp
theorem goF_len (N : List (List Int)) : ∀ (l acc : List Int) (s : Nat) (r : List Int), goF N acc s l = some r → r.length = acc.length + l.length := by
  intro l
  induction l with
  | nil => intro acc s r h; rw [goF] at h; cases h; simp
  | cons z l ih =>
    intro acc s r h
    rw [goF] at h
    split at h
    · cases h
    · have := ih _ _ _ h
      simp at this ⊢
      omega
theorem runF_len {N : List (List Int)} {st : Int} {l r : List Int} (h : runF N st l = some r) : r.length = l.length + 1 := by
  unfold runF at h
  split at h
  · have := goF_len N _ _ _ _ h
    simp at this
    omega
  · cases h
theorem goF_drop {N : List (List Int)} {acc l : List Int} {s k : Nat} (hk : k < l.length) : goF N acc s (l.drop k) = match stepF N s l[k] with | none => none | some t => goF N (acc ++ [(t : Int)]) t (l.drop (k + 1)) := by
  rw [List.drop_eq_getElem_cons hk, goF]
theorem riseF_drop {cnt lo : Int} {l : List Int} {k : Nat} (hk : k < l.length) : riseF cnt lo (l.drop k) = (decide (lo ≤ l[k]) && decide (l[k] < cnt) && riseF cnt (l[k] + 1) (l.drop (k + 1))) := by
  rw [List.drop_eq_getElem_cons hk, riseF]
theorem riseF_end {cnt lo : Int} {l : List Int} {k : Nat} (hk : l.length ≤ k) : riseF cnt lo (l.drop k) = true := by
  rw [List.drop_of_length_le hk, riseF]
theorem all_drop {n : Nat} {l : List Int} {k : Nat} (hk : k < l.length) : (l.drop k).all (oneOf n) = (oneOf n l[k] && (l.drop (k + 1)).all (oneOf n)) := by
  rw [List.drop_eq_getElem_cons hk, List.all_cons]
theorem all_end {n : Nat} {l : List Int} {k : Nat} (hk : l.length ≤ k) : (l.drop k).all (oneOf n) = true := by
  rw [List.drop_of_length_le hk, List.all_nil]
/-- Rows that were looked at, and one more. -/
theorem range_snoc {p : Nat → Bool} {k : Nat} (h : (List.range k).all p = true) (hk : p k = true) : (List.range (k + 1)).all p = true := by
  rw [List.range_succ, List.all_append, h, List.all_cons, hk]; rfl
theorem range_bad {p : Nat → Bool} {k n : Nat} (hk : k < n) (h : p k = false) : (List.range n).all p = false := by
  rw [List.all_eq_false]
  exact ⟨k, List.mem_range.2 hk, by simp [h]⟩
end Go.Proofs.YtleeedjpccooaaaDoor
namespace Go.Proofs.YtleeedjpccooaaaDoor
open Go.RowKit
theorem hid1 {p : Prop} (h : p) : Hid p := h
/-- The eleven refusals: each variable's cell, each its own object. -/
structure Sents (w : World) (A : Nat → Addr) : Prop where
  c0 : w.cell? ⟨0, 0, none⟩ = some (.iface 157 (.pointer (some (A 0))))
  c1 : w.cell? ⟨2, 0, none⟩ = some (.iface 157 (.pointer (some (A 1))))
  c2 : w.cell? ⟨1, 0, none⟩ = some (.iface 157 (.pointer (some (A 2))))
  c3 : w.cell? ⟨3, 0, none⟩ = some (.iface 157 (.pointer (some (A 3))))
  c4 : w.cell? ⟨4, 0, none⟩ = some (.iface 157 (.pointer (some (A 4))))
  c5 : w.cell? ⟨6, 0, none⟩ = some (.iface 157 (.pointer (some (A 5))))
  c6 : w.cell? ⟨5, 0, none⟩ = some (.iface 157 (.pointer (some (A 6))))
  c7 : w.cell? ⟨7, 0, none⟩ = some (.iface 157 (.pointer (some (A 7))))
  c8 : w.cell? ⟨8, 0, none⟩ = some (.iface 157 (.pointer (some (A 8))))
  c9 : w.cell? ⟨9, 0, none⟩ = some (.iface 157 (.pointer (some (A 9))))
  c10 : w.cell? ⟨10, 0, none⟩ = some (.iface 157 (.pointer (some (A 10))))
  ne : ∀ i j, i < 11 → j < 11 → i ≠ j → A i ≠ A j
  blk : ∀ i, i < 11 → ∃ c t, w.heap[(A i).block]? = some (.cells c t (0, 0))
theorem compErr : (Tryd.prog.info? 157).map (·.comparable) = some true := by kernel_rfl
theorem sizeErr : (Tryd.prog.info? 175).map (·.size) = some 1 := by kernel_rfl
theorem Sents.eql {w : World} {A : Nat → Addr} (h : Sents w A) (i j : Nat) (hi : i < 11) (hj : j < 11) :
    (binOp .eql 30 (.iface 157 (.pointer (some (A i)))) (.iface 157 (.pointer (some (A j))))).run Tryd.prog w = .ok (.bool (decide (i = j))) w := by
  obtain ⟨ti, h1, h2⟩ := Option.map_eq_some_iff.1 compErr
  obtain ⟨tj, h3, h4⟩ := Option.map_eq_some_iff.1 sizeErr
  by_cases e : i = j
  · subst e
    rw [run_eql_iface_ptr_same w (A i) Tryd.underlying30 Tryd.underlying157 h1 h2 h3]
    simp
  · obtain ⟨ca, ta, ha⟩ := h.blk i hi
    obtain ⟨cb, tb, hb⟩ := h.blk j hj
    rw [run_eql_iface_ptr_other w Tryd.underlying30 Tryd.underlying157 h1 h2 h3 (by rw [h4]; decide) (h.ne i j hi hj e) ha hb]
    simp [e]
theorem Sents.below {w w' : World} {A : Nat → Addr} (h : Sents w A) (hb : Below w.heap.size w w') : Sents w' A where
  c0 := (hb.cell (p := ⟨0, 0, none⟩) (World.block_lt_of_cell? w _ h.c0)).trans h.c0
  c1 := (hb.cell (p := ⟨2, 0, none⟩) (World.block_lt_of_cell? w _ h.c1)).trans h.c1
  c2 := (hb.cell (p := ⟨1, 0, none⟩) (World.block_lt_of_cell? w _ h.c2)).trans h.c2
  c3 := (hb.cell (p := ⟨3, 0, none⟩) (World.block_lt_of_cell? w _ h.c3)).trans h.c3
  c4 := (hb.cell (p := ⟨4, 0, none⟩) (World.block_lt_of_cell? w _ h.c4)).trans h.c4
  c5 := (hb.cell (p := ⟨6, 0, none⟩) (World.block_lt_of_cell? w _ h.c5)).trans h.c5
  c6 := (hb.cell (p := ⟨5, 0, none⟩) (World.block_lt_of_cell? w _ h.c6)).trans h.c6
  c7 := (hb.cell (p := ⟨7, 0, none⟩) (World.block_lt_of_cell? w _ h.c7)).trans h.c7
  c8 := (hb.cell (p := ⟨8, 0, none⟩) (World.block_lt_of_cell? w _ h.c8)).trans h.c8
  c9 := (hb.cell (p := ⟨9, 0, none⟩) (World.block_lt_of_cell? w _ h.c9)).trans h.c9
  c10 := (hb.cell (p := ⟨10, 0, none⟩) (World.block_lt_of_cell? w _ h.c10)).trans h.c10
  ne := h.ne
  blk := fun i hi => by
    obtain ⟨c, t, hc⟩ := h.blk i hi
    exact ⟨c, t, (hb.block _ (Array.getElem?_eq_some_iff.1 hc).1).trans hc⟩
/-- The number of the refusal at a place of the list. -/
def refNo (i : Nat) : Int := [1, 2, 3, 4, 5, 7, 6, 8, 9, 10, 11].getD i 0
set_option maxRecDepth 10000 in
set_option maxHeartbeats 1600000 in
theorem kitNum_at (w : World) (A : Nat → Addr) (h : Sents w A) (i : Nat) (hi : i < 11) :
    Calls Tryd.prog 19 #[.iface 157 (.pointer (some (A i)))] w fun e w' => e = .returned (.int .i64 (refNo i)) ∧ w' = w := by
  have d0 := h.c0
  have d1 := h.c1
  have d2 := h.c2
  have d3 := h.c3
  have d4 := h.c4
  have d5 := h.c5
  have d6 := h.c6
  have d7 := h.c7
  have d8 := h.c8
  have d9 := h.c9
  have d10 := h.c10
  have hq := fun j => h.eql i j hi
  clear h
  have h11 : i = 0 ∨ i = 1 ∨ i = 2 ∨ i = 3 ∨ i = 4 ∨ i = 5 ∨ i = 6 ∨ i = 7 ∨ i = 8 ∨ i = 9 ∨ i = 10 := by omega
  clear hi
  have q0 := hq 0 (by omega)
  have q1 := hq 1 (by omega)
  have q2 := hq 2 (by omega)
  have q3 := hq 3 (by omega)
  have q4 := hq 4 (by omega)
  have q5 := hq 5 (by omega)
  have q6 := hq 6 (by omega)
  have q7 := hq 7 (by omega)
  have q8 := hq 8 (by omega)
  have q9 := hq 9 (by omega)
  have q10 := hq 10 (by omega)
  clear hq
  rcases h11 with rfl | rfl | rfl | rfl | rfl | rfl | rfl | rfl | rfl | rfl | rfl
  all_goals
    go_enter Tryd.func19, Tryd.ntmps19
    go_wp2
    go_ret
    exact ⟨rfl, rfl⟩
set_option maxRecDepth 10000 in
theorem kitNum_nil (w : World) : Calls Tryd.prog 19 #[.nilIface] w fun e w' => e = .returned (.int .i64 0) ∧ w' = w := by
  go_enter Tryd.func19, Tryd.ntmps19
  go_wp2
  go_ret
  exact ⟨rfl, rfl⟩
end Go.Proofs.YtleeedjpccooaaaDoor
namespace Go.Proofs.YtleeedjpccooaaaDoor
open Go.RowKit Go.Shelf
theorem hid0 {p : Prop} (h : p) : Hid p := h
/-- w' is w, but for new blocks and the blocks of S. -/
structure Only (w w' : World) (S : Nat → Prop) : Prop where
  os : w'.os = w.os
  tape : w'.tape = w.tape
  output : w'.output = w.output
  size : w.heap.size ≤ w'.heap.size
  block : ∀ k, k < w.heap.size → ¬ S k → w'.heap[k]? = w.heap[k]?
theorem Only.refl (w : World) (S : Nat → Prop) : Only w w S := ⟨rfl, rfl, rfl, Nat.le_refl _, fun _ _ _ => rfl⟩
theorem Only.trans {a b c : World} {S T : Nat → Prop} (h : Only a b S) (k : Only b c T) (hT : ∀ i, T i → S i ∨ a.heap.size ≤ i) : Only a c S :=
  ⟨k.os.trans h.os, k.tape.trans h.tape, k.output.trans h.output, Nat.le_trans h.size k.size, fun i hi hS =>
    (k.block i (Nat.lt_of_lt_of_le hi h.size) (fun ht => (hT i ht).elim hS (fun h => absurd hi (Nat.not_lt.2 h)))).trans (h.block i hi hS)⟩
theorem Only.drewN (w : World) (n : Nat) (S : Nat → Prop) : Only w (w.drewN n) S := ⟨rfl, rfl, rfl, Nat.le_refl _, fun _ _ _ => rfl⟩
theorem Only.alloc (w : World) (o : Obj) (S : Nat → Prop) : Only w (w.alloc o) S := ⟨rfl, rfl, rfl, by simp, fun k hk _ => Below.heap_alloc w o k hk⟩
theorem Only.setCell (w : World) (b off : Nat) (u : Value) : Only w (w.setCell ⟨b, off, none⟩ u) (fun k => k = b) := ⟨rfl, rfl, rfl, by simp [World.setCell], fun k _ h => Below.heap_setCell w _ u k h⟩
theorem Only.mono {w w' : World} {S T : Nat → Prop} (h : Only w w' S) (hs : ∀ i, S i → T i) : Only w w' T := ⟨h.os, h.tape, h.output, h.size, fun i hi ht => h.block i hi (fun s => ht (hs i s))⟩
theorem Only.below {w w' : World} {S : Nat → Prop} {B : Nat} (h : Only w w' S) (hB : B ≤ w.heap.size) (hs : ∀ i, S i → B ≤ i) : Below B w w' :=
  ⟨h.os, h.tape, h.output, h.size, fun i hi => h.block i (by omega) (fun s => by have := hs i s; omega)⟩
theorem Only.ofBelow {w w' : World} {B : Nat} (h : Below B w w') (S : Nat → Prop) (hs : ∀ i, B ≤ i → i < w.heap.size → S i) : Only w w' S :=
  ⟨h.os, h.tape, h.output, h.size, fun i hi hn => h.block i (Nat.lt_of_not_le fun hb => hn (hs i hb hi))⟩
theorem Only.cell {w w' : World} {S : Nat → Prop} (h : Only w w' S) {p : Addr} (hp : p.block < w.heap.size) (hn : ¬ S p.block) : w'.cell? p = w.cell? p := World.cell?_of_block (w := w) (h.block p.block hp hn)
theorem info_parts {t : TypeId} {z : Value} {n b : Nat} (h : (Tryd.prog.info? t).map (fun i => (i.zero, i.size, i.bytes)) = some (some z, n, b)) : ∃ i, Tryd.prog.info? t = some i ∧ i.zero = some z ∧ i.size = n ∧ i.bytes = b := by
  cases hq : Tryd.prog.info? t with
  | none => rw [hq] at h; cases h
  | some i =>
    rw [hq] at h
    simp only [Option.map_some, Option.some.injEq, Prod.mk.injEq] at h
    exact ⟨i, rfl, h.1, h.2.1, h.2.2⟩
theorem cell_one_new (w : World) (v : Value) (t : TypeId) : ∀ j u, [v][j]? = some u → (w.alloc (.cells #[v] t)).cell? ((⟨w.heap.size, 0, none⟩ : Addr).add j) = some u := by
  intro j u h
  rw [Addr.add_lit, cell_of_row _ w.heap.size _ _ _ _ (heap_alloc_new w _), Nat.zero_add]
  simpa using h
theorem Below.later {w a b : World} (h : Below w.heap.size w a) (k : Below a.heap.size a b) : Below w.heap.size w b :=
  ⟨k.os.trans h.os, k.tape.trans h.tape, k.output.trans h.output, Nat.le_trans h.size k.size, fun i hi => (k.block i (Nat.lt_of_lt_of_le hi h.size)).trans (h.block i hi)⟩
/-- cur is wk as far as the blocks from lo on go that wk has. -/
structure Agree (wk cur : World) (lo : Nat) : Prop where
  size : wk.heap.size ≤ cur.heap.size
  block : ∀ k, lo ≤ k → k < wk.heap.size → cur.heap[k]? = wk.heap[k]?
theorem Agree.refl (w : World) (lo : Nat) : Agree w w lo := ⟨Nat.le_refl _, fun _ _ _ => rfl⟩
theorem Agree.only {wk cur cur' : World} {lo : Nat} {S : Nat → Prop} (h : Agree wk cur lo) (ho : Only cur cur' S) (hs : ∀ k, S k → k < lo ∨ wk.heap.size ≤ k) : Agree wk cur' lo :=
  ⟨Nat.le_trans h.size ho.size, fun k h1 h2 => (ho.block k (Nat.lt_of_lt_of_le h2 h.size) (fun s => by have := hs k s; omega)).trans (h.block k h1 h2)⟩
theorem Agree.below {wk cur cur' : World} {lo : Nat} (h : Agree wk cur lo) (hb : Below cur.heap.size cur cur') : Agree wk cur' lo :=
  ⟨Nat.le_trans h.size hb.size, fun k h1 h2 => (hb.block k (Nat.lt_of_lt_of_le h2 h.size)).trans (h.block k h1 h2)⟩
theorem own_agree {wk cur : World} {lo t s n : Nat} {v : Value} {xs : List Value} (h : wk.ownsRow lo t s v n xs) (ha : Agree wk cur lo) : cur.ownsRow lo t s v n xs := by
  refine ⟨h.1, ?_⟩
  rcases h.2 with h2 | ⟨g, cap, cur0, hv, hg, hr, r⟩
  · exact .inl h2
  · exact .inr ⟨g, cap, cur0, hv, hg, (ha.block g hg (Array.getElem?_eq_some_iff.1 hr).1).trans hr, r⟩
theorem owns_lower {w : World} {base base' : Nat} {e : TypeId} {size : Nat} {v : Value} {n : Nat} {xs : List Value} (h : w.ownsRow base e size v n xs) (hb : base' ≤ base) : w.ownsRow base' e size v n xs :=
  ⟨h.1, h.2.imp id (fun ⟨g, cap, cur, h1, h2, h3⟩ => ⟨g, cap, cur, h1, Nat.le_trans hb h2, h3⟩)⟩
theorem own_form {w : World} {base : Nat} {e : TypeId} {size : Nat} {v : Value} {n : Nat} {xs : List Value} (h : w.ownsRow base e size v n xs) (hn : 0 < n) : ∃ g cap, v = .slice (some ⟨g, 0, none⟩) n cap ∧ base ≤ g ∧ g < w.heap.size ∧ n ≤ cap := by
  have h0 := h
  rcases h.2 with ⟨_, h1⟩ | ⟨g, cap, cur, rfl, hb, hr, hc, _⟩
  · omega
  · exact ⟨g, cap, rfl, hb, (World.ownsRow.lt h0 g rfl).2, hc⟩
theorem own_blk {W W' : World} {lo t s n : Nat} {v : Value} {xs : List Value} (h : W.ownsRow lo t s v n xs) (hb : ∀ k, v.ownBlock = some k → W'.heap[k]? = W.heap[k]?) : W'.ownsRow lo t s v n xs := by
  refine ⟨h.1, ?_⟩
  rcases h.2 with h2 | ⟨g, cap, cur0, hv, hg, hr, r⟩
  · exact .inl h2
  · exact .inr ⟨g, cap, cur0, hv, hg, (hb g (by rw [hv]; rfl)).trans hr, r⟩
theorem below_drew' {B : Nat} {w a : World} (h : Below B w a) (n : Nat) : Below B w (a.drewN n) := ⟨h.os, h.tape, h.output, h.size, h.block⟩
/-- Numbers in memory. -/
structure IA (w : World) (a : Option Addr) (L : List Int) : Prop where
  at' : ∀ k (h : k < L.length), ∃ b off, a = some ⟨b, off, none⟩ ∧ b < w.heap.size ∧ w.cell? ⟨b, off + k, none⟩ = some (.int .i64 L[k])
theorem IA.past {w w' : World} {a : Option Addr} {L : List Int} (h : IA w a L) (hb : Below w.heap.size w w') : IA w' a L := ⟨fun k hk => by
  obtain ⟨b, off, rfl, h1, h2⟩ := h.at' k hk
  exact ⟨b, off, rfl, Nat.lt_of_lt_of_le h1 hb.size, (hb.cell (p := ⟨b, off + k, none⟩) h1).trans h2⟩⟩
def OwnI (w : World) (base : Nat) (v : Value) (ps : List Int) : Prop := w.ownsRow base 3 1 v ps.length (ps.map (Value.int .i64))
theorem infoInt : (Tryd.prog.info? 3).map (fun i => (i.zero, i.size, i.bytes)) = some (some (.int .i64 0), 1, 8) := by kernel_rfl
theorem OwnI.ia {w : World} {base : Nat} {v : Value} {L : List Int} (h : OwnI w base v L) : ∃ a cap, v = .slice a L.length cap ∧ IA w a L := by
  have h0 := h
  rcases h.2 with ⟨rfl, hn⟩ | ⟨g, cap, cur, rfl, hg, hr, hc, _⟩
  · exact ⟨none, 0, by rw [hn], ⟨fun k hk => by omega⟩⟩
  · refine ⟨_, cap, rfl, ⟨fun k hk => ⟨g, 0, rfl, (World.ownsRow.lt h0 g rfl).2, ?_⟩⟩⟩
    have := World.ownsRow.cellAt h0 k (by omega)
    rw [Nat.zero_add, this]
    simp [hk]
theorem IA.below {w w' : World} {a : Option Addr} {L : List Int} {B : Nat} (h : IA w a L) (hb : Below B w w') (ha : ∀ p, a = some p → p.block < B) : IA w' a L := ⟨fun k hk => by
  obtain ⟨b, off, rfl, h1, h2⟩ := h.at' k hk
  exact ⟨b, off, rfl, Nat.lt_of_lt_of_le h1 hb.size, (hb.cell (p := ⟨b, off + k, none⟩) (ha ⟨b, off, none⟩ rfl)).trans h2⟩⟩
theorem ownI_snoc {w wr w1 : World} {base : Nat} {v v' : Value} {L : List Int} {c : Int} {o : Obj} {n : Nat} (hn : n = L.length) (hown : OwnI wr base v L)
    (hown' : w1.ownsRow base 3 1 v' (n + 1) (L.map (Value.int .i64) ++ [.int .i64 c])) (hgrow : (wr.alloc o).grownBy w1 v.ownBlock) (hbel : Below base w wr) (hb : base ≤ w.heap.size) :
    OwnI w1 base v' (L ++ [c]) ∧ Below base w w1 := by
  subst hn
  have hsz := hbel.size
  refine ⟨?_, (hbel.alloc (by omega) o).grown hgrow (by simp; omega) (fun k hk => (World.ownsRow.lt hown k hk).1)⟩
  unfold OwnI
  rw [List.length_append, List.length_singleton, List.map_append]
  exact hown'
section
variable {P : Program} (w : World)
theorem run_append_own_front (base : Nat) (t ty e : TypeId) (i : TypeInfo) (z : Value) (size bytes : Nat) (ht : P.underlying t = some (.slice e)) (hi : P.info? e = some i) (hz : i.zero = some z)
    (hsize : i.size = size) (hby : i.bytes = bytes) (hzs : z.cells.size = size) (hsz : 0 < size)
    (v : Value) (n : Nat) (xs : List Value) (hown : w.ownsRow base e size v n xs)
    (a : Addr) (m c : Nat) (news : List Value) (hl : news.length = m * size) (hnews : ∀ j u, news[j]? = some u → w.cell? (a.add j) = some u) (h1 : ∀ u ∈ news, u.oneCell' = true)
    (h63 : n + m ≤ maxLen) (hbytes : (n + m) * bytes ≤ 140737488355328) (hbase : base ≤ w.heap.size) :
    ∃ v' w', (Builtin.append_ #[t, t] ty #[v, .slice (some a) m c]).run P w = .ok v' w' ∧ w'.ownsRow base e size v' (n + m) (xs ++ news) ∧ w.grownBy w' v.ownBlock ∧
      (v'.ownBlock = v.ownBlock ∨ v'.ownBlock = some w.heap.size) ∧ (∀ g j u, v.ownBlock = some g → j < n * size → w.cell? ⟨g, j, none⟩ = some u → w'.cell? ⟨g, j, none⟩ = some u) := by
  obtain ⟨v', w', hr, h2, h3, _, h5⟩ := run_append_own_at (P := P) w base t ty e i z size bytes ht hi hz hsize hby hzs hsz v n xs hown a m c news hl hnews h1 h63 hbytes hbase
  refine ⟨v', w', hr, h2, h3, h5, ?_⟩
  intro g j u hg hj hc
  have hjx : j < xs.length := by rw [hown.1]; exact hj
  have hxu : xs[j]? = some u := by
    have e1 := hown.cells hg j xs[j] (List.getElem?_eq_getElem hjx)
    rw [Addr.add_lit, Nat.zero_add, hc] at e1
    rw [List.getElem?_eq_getElem hjx, ← Option.some.inj e1]
  rcases h5 with h5 | h5
  · have e2 := h2.cells (h5.trans hg) j u (by rw [List.getElem?_append_left hjx]; exact hxu)
    rw [Addr.add_lit, Nat.zero_add] at e2
    exact e2
  · have hglt := (hown.lt g hg).2
    rcases hown.2 with ⟨rfl, _⟩ | ⟨g', cap, cur, rfl, hbg, hgg, hnc, hcm, hcs, htake⟩
    · simp [Value.ownBlock] at hg
    · have hge : g' = g := by simpa [Value.ownBlock] using hg
      subst hge
      by_cases hroom : n + m ≤ cap
      · obtain ⟨w2, hr2, _⟩ := run_append_own_spare (P := P) w base t ty e i size ht hi hsize g' n cap xs hown a m c news hl hnews h1 hroom
        rw [hr] at hr2
        cases hr2
        simp [Value.ownBlock] at h5
        omega
      · subst hsize hby
        have holds : ∀ j u, xs[j]? = some u → w.cell? ((⟨g', 0, none⟩ : Addr).add j) = some u := hown.cells (g := g') rfl
        have hr2 := run_append_grow (P := P) w t ty e i z ht hi hz ⟨g', 0, none⟩ n cap xs hown.1 holds a m c news hl hnews (by omega) (by simp only [maxLen] at h63; omega) (growslice_fits (by omega) hbytes)
        rw [hr] at hr2
        cases hr2
        exact (World.cell?_of_block (w := w) (a := ⟨g', j, none⟩) (heap_alloc_old w.drew _ (r := g') hglt)).trans hc
theorem wpList_append_own_front {ops : Array Oper} {rest : List Oper} {o : Oper} {a : Act} {Q : Exit → Act → World → Prop} (hgd : o.guard = none) (s x : Operand) (t : TypeId)
    (ho : o.op = .call { callee := .builtin .append, args := #[s, x], argTypes := #[t, t] })
    (base : Nat) (e : TypeId) (i : TypeInfo) (z : Value) (size bytes : Nat) (ht : P.underlying t = some (.slice e)) (hi : P.info? e = some i) (hz : i.zero = some z)
    (hsize : i.size = size) (hby : i.bytes = bytes) (hzs : z.cells.size = size) (hsz : 0 < size)
    (v : Value) (n : Nat) (xs : List Value) (hs : a.eval s = v) (hown : w.ownsRow base e size v n xs)
    (ad : Addr) (m c : Nat) (news : List Value) (hx : a.eval x = .slice (some ad) m c) (hl : news.length = m * size) (hnews : ∀ j u, news[j]? = some u → w.cell? (ad.add j) = some u) (h1 : ∀ u ∈ news, u.oneCell' = true)
    (h63 : n + m ≤ maxLen) (hbytes : (n + m) * bytes ≤ 140737488355328) (hbase : base ≤ w.heap.size)
    (h : ∀ v' w', w'.ownsRow base e size v' (n + m) (xs ++ news) → w.grownBy w' v.ownBlock → (v'.ownBlock = v.ownBlock ∨ v'.ownBlock = some w.heap.size) → (∀ g j u, v.ownBlock = some g → j < n * size → w.cell? ⟨g, j, none⟩ = some u → w'.cell? ⟨g, j, none⟩ = some u) → wpList P ops Q rest (a.put o.dst v') w') :
    wpList P ops Q (o :: rest) a w := by
  refine wpList_plain hgd fun K hK => ?_
  obtain ⟨v', w', hr, h2, h3, h4, h5⟩ := run_append_own_front (P := P) w base t o.type e i z size bytes ht hi hz hsize hby hzs hsz v n xs hown ad m c news hl hnews h1 h63 hbytes hbase
  unfold Oper.wp execOp
  simp only [ho, resolve, invoke, builtin, Sem.run_bind, Sem.run_pure, Result.andThen_ok, List.map_toArray, List.map_cons, List.map_nil, hs, hx, hr]
  exact hK _ _ (h v' w' h2 h3 h4 h5)
end


theorem cell_alloc {w : World} {p : Addr} {v : Value} (h : w.cell? p = some v) (o : Obj) : (w.alloc o).cell? p = some v := ((Only.alloc w o (fun _ => False)).cell (World.block_lt_of_cell? w p h) (fun h => h)).trans h
theorem Only.ofGrown {w w' : World} {row : Option Nat} (h : w.grownBy w' row) : Only w w' (fun k => row = some k) := ⟨h.os, h.tape, h.output, h.size, fun k hk hn => h.block k hk (fun e => hn e.symm)⟩
theorem infoInts : (Tryd.prog.info? 34).map (fun i => (i.zero, i.size, i.bytes)) = some (some (.slice none 0 0), 1, 24) := by kernel_rfl
/-- Lists of numbers in memory. -/
structure RwA (w : World) (a : Option Addr) (L : List (List Int)) : Prop where
  at' : ∀ k (h : k < L.length), ∃ b off, a = some ⟨b, off, none⟩ ∧ b < w.heap.size ∧ ∃ a1 c1, w.cell? ⟨b, off + k, none⟩ = some (.slice a1 (L[k]).length c1) ∧ IA w a1 L[k]
theorem RwA.past {w w' : World} {a : Option Addr} {L : List (List Int)} (h : RwA w a L) (hb : Below w.heap.size w w') : RwA w' a L := ⟨fun k hk => by
  obtain ⟨b, off, rfl, h1, a1, c1, h2, h3⟩ := h.at' k hk
  exact ⟨b, off, rfl, Nat.lt_of_lt_of_le h1 hb.size, a1, c1, (hb.cell (p := ⟨b, off + k, none⟩) h1).trans h2, h3.past hb⟩⟩
theorem IA.front {w : World} {a : Option Addr} {L M : List Int} (h : IA w a (L ++ M)) : IA w a L := ⟨fun k hk => by
  obtain ⟨b, off, e, h1, h2⟩ := h.at' k (by simp; omega)
  rw [List.getElem_append_left hk] at h2
  exact ⟨b, off, e, h1, h2⟩⟩
theorem below_refl' (w : World) : Below w.heap.size w w := Below.refl _ _
end Go.Proofs.YtleeedjpccooaaaDoor
namespace Go.Proofs.YtleeedjpccooaaaDoor
open Go.RowKit Go.Shelf
theorem cell2_new (w : World) (a b : Value) (t : TypeId) : ∀ j u, [a, b][j]? = some u → (w.alloc (.cells #[a, b] t)).cell? ((⟨w.heap.size, 0, none⟩ : Addr).add j) = some u := by
  intro j u h
  rw [Addr.add_lit, cell_of_row _ w.heap.size _ _ _ _ (heap_alloc_new w _), Nat.zero_add]
  simpa using h
set_option maxRecDepth 10000 in
set_option maxHeartbeats 800000 in
theorem sameI (l : List Int) (a b : Option Addr) (ca cb : Nat) (w : World) (hl : l.length ≤ 1000000000) (ha : IA w a l) (hb : IA w b l) :
    Calls Tryd.prog 14 #[.slice a l.length ca, .slice b l.length cb] w fun e w' => e = .returned (.bool true) ∧ ∃ n, w' = w.drewN n := by
  have HA := hid0 ha
  have HB := hid0 hb
  clear ha hb
  go_enter Tryd.func14, Tryd.ntmps14
  go_wp2
  go_loopw [5] (fun i wr => ∃ k : Nat, k ≤ l.length ∧ i = .int .i64 (k : Int) ∧ ∃ n, wr = w.drewN n) (fun i _ => l.length - (intOf i).toNat)
  case atStart => exact ⟨0, Nat.zero_le _, rfl, 0, rfl⟩
  case round =>
    obtain ⟨k, hk, rfl, nd, rfl⟩ := hrel
    by_cases hlt : k < l.length
    · obtain ⟨b1, o1, rfl, _, d1⟩ := HA.out.at' k hlt
      obtain ⟨b2, o2, rfl, _, d2⟩ := HB.out.at' k hlt
      have hkI : (k : Int) < (l.length : Int) := by omega
      have hkI0 : (0 : Int) ≤ (k : Int) := by omega
      generalize l[k] = s at *
      have hself : (s == s) = true := by simp
      go_wp2
      go_quiet ((fail))
      go_wp2
      go_roundw
      case rel => exact ⟨k + 1, by omega, by go_num, _, rfl⟩
      case measure => simp [intOf]; omega
    · have hkI : ¬ (k : Int) < (l.length : Int) := by omega
      go_wp2
      go_ret
      exact ⟨rfl, nd, rfl⟩
/-- A list that List made: two marks behind it. -/
def LW (w : World) (lo g c : Nat) (L : List Int) : Prop := w.ownsRow lo 3 1 (.slice (some ⟨g, 0, none⟩) (L.length + 2) c) (L.length + 2) (L.map (Value.int .i64) ++ [.int .i64 (-77), .int .i64 (-77)])
theorem LW.ia {w : World} {lo g c : Nat} {L : List Int} (h : LW w lo g c L) : IA w (some ⟨g, 0, none⟩) L := ⟨fun k hk => ⟨g, 0, rfl, (World.ownsRow.lt h g rfl).2, by
  have := World.ownsRow.cellAt h k (by omega)
  rw [Nat.zero_add, this, List.getElem?_append_left (by simpa using hk)]
  simp [hk]⟩⟩
theorem LW.past {w w' : World} {lo g c : Nat} {L : List Int} (h : LW w lo g c L) (hb : Below w.heap.size w w') : LW w' lo g c L :=
  own_blk h (fun k hk => hb.block k (World.ownsRow.lt h k hk).2)
theorem LW.cap {w : World} {lo g c : Nat} {L : List Int} (h : LW w lo g c L) : L.length + 2 ≤ c := by
  rcases h.2 with ⟨e, _⟩ | ⟨g', cap, cur, e, _, _, h1, h2, _⟩
  · cases e
  · cases e; omega
theorem LW.marks {w : World} {lo g c : Nat} {L : List Int} (h : LW w lo g c L) : w.cell? ⟨g, L.length, none⟩ = some (.int .i64 (-77)) ∧ w.cell? ⟨g, L.length + 1, none⟩ = some (.int .i64 (-77)) := by
  constructor
  · rw [World.ownsRow.cellAt h L.length (by omega), List.getElem?_append_right (by simp)]; simp
  · rw [World.ownsRow.cellAt h (L.length + 1) (by omega), List.getElem?_append_right (by simp)]; simp
def ListR (w : World) (L : List Int) (r : Ending) (w' : World) : Prop := ∃ g c, r = .returned (.slice (some ⟨g, 0, none⟩) L.length c) ∧ LW w' w.heap.size g c L ∧ Below w.heap.size w w'
end Go.Proofs.YtleeedjpccooaaaDoor
namespace Go.Proofs.YtleeedjpccooaaaDoor
/-- How many elements lists have together. -/
def sumL (L : List (List Int)) : Nat := (L.map List.length).sum
theorem sumL_drop {L : List (List Int)} {k : Nat} (hk : k < L.length) : sumL (L.drop k) = (L[k]).length + sumL (L.drop (k + 1)) := by
  unfold sumL
  rw [List.drop_eq_getElem_cons hk, List.map_cons, List.sum_cons]
theorem sumL_end {L : List (List Int)} {k : Nat} (hk : L.length ≤ k) : sumL (L.drop k) = 0 := by
  rw [List.drop_of_length_le hk]; rfl
theorem sumL_take {L : List (List Int)} {k : Nat} (hk : k < L.length) : sumL (L.take (k + 1)) = sumL (L.take k) + (L[k]).length := by
  unfold sumL
  rw [List.take_add_one, List.getElem?_eq_getElem hk, List.map_append, List.sum_append]
  simp
theorem sumL_split (L : List (List Int)) (k : Nat) : sumL L = sumL (L.take k) + sumL (L.drop k) := by
  have h := List.take_append_drop k L
  unfold sumL
  rw [← List.sum_append, ← List.map_append, h]
/-- Are all lists rising lists of numbers below n? -/
def riseA (n : Int) (L : List (List Int)) : Bool := L.all (riseF n 0)
theorem riseA_drop {n : Int} {L : List (List Int)} {k : Nat} (hk : k < L.length) : riseA n (L.drop k) = (riseF n 0 L[k] && riseA n (L.drop (k + 1))) := by
  unfold riseA
  rw [List.drop_eq_getElem_cons hk, List.all_cons]
theorem riseA_end {n : Int} {L : List (List Int)} {k : Nat} (hk : L.length ≤ k) : riseA n (L.drop k) = true := by
  unfold riseA
  rw [List.drop_of_length_le hk, List.all_nil]
/-- Are First, Last and Follow rising lists of places? -/
def plRise (n : Nat) (Fi La : List Int) (Fo : List (List Int)) : Bool := riseF n 0 Fi && riseF n 0 La && riseA n Fo
/-- The refusal of positions: its place in the list of refusals. -/
def chkP (Le Fo : List (List Int)) (Fi La : List Int) (sy : Int) : Option Nat :=
  if 4000 < Le.length ∨ 4194304 < sumL Le ∨ 1048576 < sumL Fo then some 2
  else if sy < 1 ∨ 16384 < sy ∨ ¬ Fo.length = Le.length then some 0
  else if riseA sy Le && plRise Le.length Fi La Fo then none else some 0
/-- Are all numbers of all lists places? -/
def insA (n : Nat) (L : List (List Int)) : Bool := L.all fun r => r.all (oneOf n)
theorem insA_drop {n : Nat} {L : List (List Int)} {k : Nat} (hk : k < L.length) : insA n (L.drop k) = ((L[k]).all (oneOf n) && insA n (L.drop (k + 1))) := by
  unfold insA
  rw [List.drop_eq_getElem_cons hk, List.all_cons]
theorem insA_end {n : Nat} {L : List (List Int)} {k : Nat} (hk : L.length ≤ k) : insA n (L.drop k) = true := by
  unfold insA
  rw [List.drop_of_length_le hk, List.all_nil]
/-- As many lists in Follow as in Letters; all numbers are places. -/
def soundP (n : Nat) (Fi La : List Int) (Fo : List (List Int)) : Bool := decide (Fo.length = n) && Fi.all (oneOf n) && La.all (oneOf n) && insA n Fo
end Go.Proofs.YtleeedjpccooaaaDoor
namespace Go.Proofs.YtleeedjpccooaaaDoor
open Go.RowKit Go.Shelf
set_option maxRecDepth 10000 in
set_option maxHeartbeats 800000 in
theorem rises_any (pa : Int) (L : List Int) (a : Option Addr) (c : Nat) (w : World) (hl : L.length ≤ 17592186043904) (hpa : pa ≤ 9223372036854775807) (ha : IA w a L) : Calls Tryd.prog 64 #[.slice a L.length c, .int .i64 pa] w fun e w' => e = .returned (.bool (riseF pa 0 L)) ∧ w' = w := by
  have HA := hid0 ha
  clear ha
  go_enter Tryd.func64, Tryd.ntmps64
  go_wp2
  go_loopw [5, 10] (fun l i wr => ∃ (k : Nat) (lo : Int), k ≤ L.length ∧ 0 ≤ lo ∧ i = .int .i64 (k : Int) ∧ l = .int .i64 (lo) ∧ wr = w ∧ Hid (riseF pa lo (L.drop k) = riseF pa 0 L)) (fun _ i _ => L.length - (intOf i).toNat)
  case atStart => exact ⟨0, 0, Nat.zero_le _, Int.le_refl _, rfl, rfl, rfl, hid0 rfl⟩
  case round =>
    obtain ⟨k, lo, hk, hlo, rfl, rfl, rfl, HD⟩ := hrel
    by_cases hlt : k < L.length
    · obtain ⟨b, off, rfl, _, d1⟩ := HA.out.at' k hlt
      have hkI : (k : Int) < (L.length : Int) := by omega
      have hkI0 : (0 : Int) ≤ (k : Int) := by omega
      have HS := hid0 (riseF_drop (cnt := pa) (lo := lo) hlt)
      generalize L[k] = s at *
      by_cases h1 : s < lo
      · have HD2 : Hid (riseF pa 0 L = false) := hid0 (by rw [← HD.out, HS.out, decide_eq_false (by omega)]; rfl)
        clear HS HD
        go_wp2
        go_ret
        exact ⟨by rw [HD2.out]; rfl, rfl⟩
      · by_cases h2 : s ≥ pa
        · have HD2 : Hid (riseF pa 0 L = false) := hid0 (by rw [← HD.out, HS.out, decide_eq_false (p := s < pa) (by omega), Bool.and_false]; rfl)
          clear HS HD
          go_wp2
          go_ret
          exact ⟨by rw [HD2.out]; rfl, rfl⟩
        · have HD2 : Hid (riseF pa (s + 1) (L.drop (k + 1)) = riseF pa 0 L) := hid0 (by rw [← HD.out, HS.out, decide_eq_true (p := s < pa) (by omega), decide_eq_true (p := lo ≤ s) (by omega)]; rfl)
          clear HS HD
          go_wp2
          go_roundw
          case rel => exact ⟨k + 1, s + 1, by omega, by omega, by go_num, by go_num, trivial, HD2⟩
          case measure => simp [intOf]; omega
    · have hkI : ¬ (k : Int) < (L.length : Int) := by omega
      have HD2 : Hid (riseF pa 0 L = true) := hid0 (by rw [← HD.out]; exact riseF_end (by omega))
      clear HD
      go_wp2
      go_ret
      exact ⟨by rw [HD2.out]; rfl, rfl⟩
set_option maxRecDepth 10000 in
set_option maxHeartbeats 800000 in
theorem allRise_any (n : Int) (L : List (List Int)) (a : Option Addr) (c : Nat) (w : World) (hl : L.length ≤ 1000000000) (hr : ∀ r ∈ L, r.length ≤ 1000000000) (hn : n ≤ 9223372036854775807) (ha : RwA w a L) : Calls Tryd.prog 46 #[.slice a L.length c, .int .i64 n] w fun e w' => e = .returned (.bool (riseA n L)) ∧ w' = w := by
  have HA := hid0 ha
  have HR := hid0 hr
  clear ha hr
  go_enter Tryd.func46, Tryd.ntmps46
  go_wp2
  go_loopw [9] (fun i wr => ∃ k : Nat, k ≤ L.length ∧ i = .int .i64 (k : Int) ∧ wr = w ∧ Hid (riseA n (L.drop k) = riseA n L)) (fun i _ => L.length - (intOf i).toNat)
  case atStart => exact ⟨0, Nat.zero_le _, rfl, rfl, hid0 rfl⟩
  case round =>
    obtain ⟨k, hk, rfl, rfl, HD⟩ := hrel
    by_cases hlt : k < L.length
    · obtain ⟨b, off, rfl, _, a1, c1, d1, i1⟩ := HA.out.at' k hlt
      have hkI : (k : Int) < (L.length : Int) := by omega
      have hkI0 : (0 : Int) ≤ (k : Int) := by omega
      have HS := hid0 (riseA_drop (n := n) hlt)
      have HRi := hid0 (rises_any n L[k] a1 c1 wr (Nat.le_trans (HR.out _ (List.getElem_mem hlt)) (by decide)) hn i1)
      clear i1
      generalize L[k] = s at *
      cases hs : riseF n 0 s with
      | true =>
        rw [hs] at HRi
        have HD2 : Hid (riseA n (L.drop (k + 1)) = riseA n L) := hid0 (by rw [← HD.out, HS.out, hs, Bool.true_and])
        clear HS HD hs
        go_wp2_with (go_at_call 64; refine HRi.out.mono ?_; rintro e w1 ⟨rfl, rfl⟩)
        go_roundw
        case rel => exact ⟨k + 1, by omega, by go_num, trivial, HD2⟩
        case measure => simp [intOf]; omega
      | false =>
        rw [hs] at HRi
        have HD2 : Hid (riseA n L = false) := hid0 (by rw [← HD.out, HS.out, hs, Bool.false_and])
        clear HS HD hs
        go_wp2_with (go_at_call 64; refine HRi.out.mono ?_; rintro e w1 ⟨rfl, rfl⟩)
        go_ret
        exact ⟨by rw [HD2.out]; rfl, rfl⟩
    · have hkI : ¬ (k : Int) < (L.length : Int) := by omega
      have HD2 : Hid (riseA n L = true) := hid0 (by rw [← HD.out]; exact riseA_end (by omega))
      clear HD
      go_wp2
      go_ret
      exact ⟨by rw [HD2.out]; rfl, rfl⟩
set_option maxRecDepth 10000 in
set_option maxHeartbeats 800000 in
theorem hasMore_any (m : Nat) (L : List (List Int)) (a : Option Addr) (c : Nat) (w : World) (hm : m ≤ 1000000000) (hl : L.length ≤ 1000000000) (hr : ∀ r ∈ L, r.length ≤ 1000000000) (ha : RwA w a L) : Calls Tryd.prog 45 #[.slice a L.length c, .int .i64 (m : Int)] w fun e w' => e = .returned (.bool (decide (m < sumL L))) ∧ w' = w := by
  have HA := hid0 ha
  have HR := hid0 hr
  clear ha hr
  go_enter Tryd.func45, Tryd.ntmps45
  go_wp2
  go_loopw [1, 9] (fun v i wr => ∃ (k q : Nat), k ≤ L.length ∧ q ≤ m ∧ v = .int .i64 (q : Int) ∧ i = .int .i64 (k : Int) ∧ wr = w ∧ Hid (sumL (L.take k) + q = m)) (fun _ i _ => L.length - (intOf i).toNat)
  case atStart => exact ⟨0, m, Nat.zero_le _, Nat.le_refl _, rfl, rfl, rfl, hid0 (by simp [sumL])⟩
  case round =>
    obtain ⟨k, q, hk, hq, rfl, rfl, rfl, HD⟩ := hrel
    have HSp := hid0 (sumL_split L k)
    by_cases hlt : k < L.length
    · obtain ⟨b, off, rfl, _, a1, c1, d1, i1⟩ := HA.out.at' k hlt
      have hkI : (k : Int) < (L.length : Int) := by omega
      have hkI0 : (0 : Int) ≤ (k : Int) := by omega
      have HS := hid0 (sumL_drop hlt)
      have HT := hid0 (sumL_take hlt)
      have hrl := HR.out _ (List.getElem_mem hlt)
      clear i1
      generalize (L[k]).length = s at *
      by_cases h1 : (q : Int) - (s : Int) < 0
      · have HD2 : Hid (m < sumL L) := hid0 (by rw [HSp.out, HS.out]; have := HD.out; omega)
        clear HS HT HD HSp
        go_wp2
        go_ret
        exact ⟨by rw [decide_eq_true HD2.out]; rfl, rfl⟩
      · have hqs : (q : Int) - (s : Int) = ((q - s : Nat) : Int) := by omega
        have HD2 : Hid (sumL (L.take (k + 1)) + (q - s) = m) := hid0 (by rw [HT.out]; have := HD.out; omega)
        clear HS HT HD HSp
        go_wp2
        go_roundw
        case rel => exact ⟨k + 1, q - s, by omega, by omega, rfl, by go_num, trivial, HD2⟩
        case measure => simp [intOf]; omega
    · have hkI : ¬ (k : Int) < (L.length : Int) := by omega
      have HD2 : Hid (¬ m < sumL L) := hid0 (by have h1 := HSp.out; rw [sumL_end (by omega)] at h1; have := HD.out; omega)
      clear HD HSp
      go_wp2
      go_ret
      exact ⟨by rw [decide_eq_false HD2.out]; rfl, rfl⟩
/-- Positions as a value. -/
def posV (aL aF aA aO : Option Addr) (cL cF cA cO : Nat) (Le Fo : List (List Int)) (Fi La : List Int) (em : Bool) : Value := .agg #[.slice aL Le.length cL, .slice aF Fi.length cF, .slice aA La.length cA, .slice aO Fo.length cO, .bool em]
/-- Positions that are read, of no great size. -/
structure PosA (w : World) (aL aF aA aO : Option Addr) (Le Fo : List (List Int)) (Fi La : List Int) : Prop where
  le : RwA w aL Le
  fi : IA w aF Fi
  la : IA w aA La
  fo : RwA w aO Fo
  l1 : Le.length ≤ 4000000
  l2 : Fi.length ≤ 4000000
  l3 : La.length ≤ 4000000
  l4 : Fo.length ≤ 4000000
  r1 : ∀ r ∈ Le, r.length ≤ 4000000
  r4 : ∀ r ∈ Fo, r.length ≤ 4000000
theorem PosA.past {w w' : World} {aL aF aA aO : Option Addr} {Le Fo : List (List Int)} {Fi La : List Int} (h : PosA w aL aF aA aO Le Fo Fi La) (hb : Below w.heap.size w w') : PosA w' aL aF aA aO Le Fo Fi La := ⟨h.le.past hb, h.fi.past hb, h.la.past hb, h.fo.past hb, h.l1, h.l2, h.l3, h.l4, h.r1, h.r4⟩
theorem row5 {W : World} {X : Nat} {t : TypeId} {a b c d e : Value} (h : W.heap[X]? = some (.cells #[a, b, c, d, e] t (0, 0))) : W.cell? ⟨X, 0, none⟩ = some a ∧ W.cell? ⟨X, 1, none⟩ = some b ∧ W.cell? ⟨X, 2, none⟩ = some c ∧ W.cell? ⟨X, 3, none⟩ = some d ∧ W.cell? ⟨X, 4, none⟩ = some e :=
  ⟨by rw [cell_of_row _ _ _ _ _ _ h]; rfl, by rw [cell_of_row _ _ _ _ _ _ h]; rfl, by rw [cell_of_row _ _ _ _ _ _ h]; rfl, by rw [cell_of_row _ _ _ _ _ _ h]; rfl, by rw [cell_of_row _ _ _ _ _ _ h]; rfl⟩
set_option maxRecDepth 10000 in
set_option maxHeartbeats 1600000 in
theorem placesRise_any (aL aF aA aO : Option Addr) (cL cF cA cO : Nat) (Le Fo : List (List Int)) (Fi La : List Int) (em : Bool) (w : World) (hp : PosA w aL aF aA aO Le Fo Fi La) :
    Calls Tryd.prog 47 #[posV aL aF aA aO cL cF cA cO Le Fo Fi La em] w fun e w' => e = .returned (.bool (plRise Le.length Fi La Fo)) ∧ Below w.heap.size w w' := by
  unfold posV
  obtain ⟨w0, hw0⟩ : ∃ w0, w0 = w.alloc (.cells #[.slice aL Le.length cL, .slice aF Fi.length cF, .slice aA La.length cA, .slice aO Fo.length cO, .bool em] 46) := ⟨_, rfl⟩
  have hB0 : Below w.heap.size w w0 := by rw [hw0]; exact (Below.refl _ _).alloc (Nat.le_refl _) _
  have hX0 : w0.heap[w.heap.size]? = some (.cells #[.slice aL Le.length cL, .slice aF Fi.length cF, .slice aA La.length cA, .slice aO Fo.length cO, .bool em] 46 (0, 0)) := by rw [hw0]; exact heap_alloc_new w _
  have HB0 := hid0 hB0
  have hp0 := hp.past hB0
  obtain ⟨x0, x1, x2, x3, x4⟩ := row5 hX0
  have H1 := hid0 (rises_any Le.length Fi aF cF w0 (by have := hp.l2; omega) (by have := hp.l1; omega) hp0.fi)
  have H2 := hid0 (rises_any Le.length La aA cA w0 (by have := hp.l3; omega) (by have := hp.l1; omega) hp0.la)
  have H3 := hid0 (allRise_any Le.length Fo aO cO w0 (by have := hp.l4; omega) (fun r hr => by have := hp.r4 r hr; omega) (by have := hp.l1; omega) hp0.fo)
  have hfold := hw0.symm
  clear hw0 hp hp0 hB0 hX0
  unfold plRise
  generalize riseF (Le.length : Int) 0 Fi = b1 at *
  generalize riseF (Le.length : Int) 0 La = b2 at *
  generalize riseA (Le.length : Int) Fo = b3 at *
  cases b1 <;> cases b2 <;> cases b3
  all_goals
    go_enter Tryd.func47, Tryd.ntmps47
    go_wp2_with (first
      | (go_at_call 46; refine H3.out.mono ?_; rintro e w3 ⟨rfl, hw3⟩; have hw3' := hw3.symm; subst hw3'; clear hw3)
      | (go_at_call 64; have hq := HQ1.out; refine H2.out.mono ?_; rintro e w2 ⟨rfl, hw2⟩; have hw2' := hw2.symm; subst hw2'; clear hw2 hq)
      | (go_at_call 64; (fail_if_success (have hq := HQ1.out)); refine H1.out.mono ?_; rintro e w1 ⟨rfl, hw1⟩; have hw1' := hw1.symm; subst hw1'; clear hw1; have HQ1 : Hid True := hid0 trivial)
      | fail)
    go_ret
    exact ⟨rfl, HB0.out⟩
/-- A refusal, or none. -/
def errP (A : Nat → Addr) (o : Option Nat) : Value := match o with | none => .nilIface | some i => .iface 157 (.pointer (some (A i)))
set_option maxRecDepth 10000 in
set_option maxHeartbeats 3200000 in
theorem check_any (A : Nat → Addr) (sy : Int) (aL aF aA aO : Option Addr) (cL cF cA cO : Nat) (Le Fo : List (List Int)) (Fi La : List Int) (em : Bool) (w : World) (hp : PosA w aL aF aA aO Le Fo Fi La) (hsy : sy ≤ 9223372036854775807) (he : Sents w A) :
    Calls Tryd.prog 26 #[posV aL aF aA aO cL cF cA cO Le Fo Fi La em, .int .i64 sy] w fun e w' => e = .returned (errP A (chkP Le Fo Fi La sy)) ∧ Below w.heap.size w w' := by
  unfold posV
  obtain ⟨w0, hw0⟩ : ∃ w0, w0 = w.alloc (.cells #[.slice aL Le.length cL, .slice aF Fi.length cF, .slice aA La.length cA, .slice aO Fo.length cO, .bool em] 46) := ⟨_, rfl⟩
  have hB0 : Below w.heap.size w w0 := by rw [hw0]; exact (Below.refl _ _).alloc (Nat.le_refl _) _
  have hX0 : w0.heap[w.heap.size]? = some (.cells #[.slice aL Le.length cL, .slice aF Fi.length cF, .slice aA La.length cA, .slice aO Fo.length cO, .bool em] 46 (0, 0)) := by rw [hw0]; exact heap_alloc_new w _
  have HB0 := hid0 hB0
  have hp0 := hp.past hB0
  obtain ⟨x0, x1, x2, x3, x4⟩ := row5 hX0
  have he0 := he.below hB0
  have HE := hid0 he0
  have e0 := he0.c0
  have e2 := he0.c2
  have hl1 := hp.l1
  have hl4 := hp.l4
  have H1 := hid0 (hasMore_any 4194304 Le aL cL w0 (by decide) (by omega) (fun r hr => by have := hp.r1 r hr; omega) hp0.le)
  have H2 := hid0 (hasMore_any 1048576 Fo aO cO w0 (by decide) (by omega) (fun r hr => by have := hp.r4 r hr; omega) hp0.fo)
  have H3 := hid0 (allRise_any sy Le aL cL w0 (by omega) (fun r hr => by have := hp.r1 r hr; omega) hsy hp0.le)
  have H4 := hid0 (fun W (hW : Below w0.heap.size w0 W) => placesRise_any aL aF aA aO cL cF cA cO Le Fo Fi La em W (hp0.past hW))
  unfold posV at H4
  have hfold := hw0.symm
  clear hw0 hp hp0 hB0 hX0 he he0
  by_cases h1 : (Le.length : Int) > 4000
  case pos =>
    have HV : Hid (chkP Le Fo Fi La sy = some 2) := hid0 (by unfold chkP; rw [if_pos (.inl (by omega))])
    go_enter Tryd.func26, Tryd.ntmps26
    go_wp2_with (first
      | (go_at_call 47; refine (H4.out _ (Below.refl _ _)).mono ?_; rintro e w4 ⟨rfl, h⟩; have HB4 := hid0 (Below.later HB0.out h); have e4 := (HE.out.below h).c0; clear h)
      | (go_at_call 46; refine H3.out.mono ?_; rintro e w3 ⟨rfl, hw3⟩; have hw3' := hw3.symm; subst hw3'; clear hw3)
      | (go_at_call 45; have hq := HQ1.out; refine H2.out.mono ?_; rintro e w2 ⟨rfl, hw2⟩; have hw2' := hw2.symm; subst hw2'; clear hw2 hq)
      | (go_at_call 45; (fail_if_success (have hq := HQ1.out)); refine H1.out.mono ?_; rintro e w1 ⟨rfl, hw1⟩; have hw1' := hw1.symm; subst hw1'; clear hw1; have HQ1 : Hid True := hid0 trivial)
      | fail)
    go_ret
    exact ⟨by rw [HV.out]; rfl, HB0.out⟩
  by_cases h2 : 4194304 < sumL Le
  case pos =>
    rw [decide_eq_true h2] at H1
    have HV : Hid (chkP Le Fo Fi La sy = some 2) := hid0 (by unfold chkP; rw [if_pos (.inr (.inl h2))])
    go_enter Tryd.func26, Tryd.ntmps26
    go_wp2_with (first
      | (go_at_call 47; refine (H4.out _ (Below.refl _ _)).mono ?_; rintro e w4 ⟨rfl, h⟩; have HB4 := hid0 (Below.later HB0.out h); have e4 := (HE.out.below h).c0; clear h)
      | (go_at_call 46; refine H3.out.mono ?_; rintro e w3 ⟨rfl, hw3⟩; have hw3' := hw3.symm; subst hw3'; clear hw3)
      | (go_at_call 45; have hq := HQ1.out; refine H2.out.mono ?_; rintro e w2 ⟨rfl, hw2⟩; have hw2' := hw2.symm; subst hw2'; clear hw2 hq)
      | (go_at_call 45; (fail_if_success (have hq := HQ1.out)); refine H1.out.mono ?_; rintro e w1 ⟨rfl, hw1⟩; have hw1' := hw1.symm; subst hw1'; clear hw1; have HQ1 : Hid True := hid0 trivial)
      | fail)
    go_ret
    exact ⟨by rw [HV.out]; rfl, HB0.out⟩
  rw [decide_eq_false h2] at H1
  by_cases h3 : 1048576 < sumL Fo
  case pos =>
    rw [decide_eq_true h3] at H2
    have HV : Hid (chkP Le Fo Fi La sy = some 2) := hid0 (by unfold chkP; rw [if_pos (.inr (.inr h3))])
    go_enter Tryd.func26, Tryd.ntmps26
    go_wp2_with (first
      | (go_at_call 47; refine (H4.out _ (Below.refl _ _)).mono ?_; rintro e w4 ⟨rfl, h⟩; have HB4 := hid0 (Below.later HB0.out h); have e4 := (HE.out.below h).c0; clear h)
      | (go_at_call 46; refine H3.out.mono ?_; rintro e w3 ⟨rfl, hw3⟩; have hw3' := hw3.symm; subst hw3'; clear hw3)
      | (go_at_call 45; have hq := HQ1.out; refine H2.out.mono ?_; rintro e w2 ⟨rfl, hw2⟩; have hw2' := hw2.symm; subst hw2'; clear hw2 hq)
      | (go_at_call 45; (fail_if_success (have hq := HQ1.out)); refine H1.out.mono ?_; rintro e w1 ⟨rfl, hw1⟩; have hw1' := hw1.symm; subst hw1'; clear hw1; have HQ1 : Hid True := hid0 trivial)
      | fail)
    go_ret
    exact ⟨by rw [HV.out]; rfl, HB0.out⟩
  rw [decide_eq_false h3] at H2
  have HC : Hid (chkP Le Fo Fi La sy = if sy < 1 ∨ 16384 < sy ∨ ¬ Fo.length = Le.length then some 0 else if riseA sy Le && plRise Le.length Fi La Fo then none else some 0) := hid0 (by unfold chkP; rw [if_neg (by omega)])
  clear h2 h3
  by_cases h4 : sy < 1
  case pos =>
    have HV : Hid (chkP Le Fo Fi La sy = some 0) := hid0 (by rw [HC.out, if_pos (.inl h4)])
    go_enter Tryd.func26, Tryd.ntmps26
    go_wp2_with (first
      | (go_at_call 47; refine (H4.out _ (Below.refl _ _)).mono ?_; rintro e w4 ⟨rfl, h⟩; have HB4 := hid0 (Below.later HB0.out h); have e4 := (HE.out.below h).c0; clear h)
      | (go_at_call 46; refine H3.out.mono ?_; rintro e w3 ⟨rfl, hw3⟩; have hw3' := hw3.symm; subst hw3'; clear hw3)
      | (go_at_call 45; have hq := HQ1.out; refine H2.out.mono ?_; rintro e w2 ⟨rfl, hw2⟩; have hw2' := hw2.symm; subst hw2'; clear hw2 hq)
      | (go_at_call 45; (fail_if_success (have hq := HQ1.out)); refine H1.out.mono ?_; rintro e w1 ⟨rfl, hw1⟩; have hw1' := hw1.symm; subst hw1'; clear hw1; have HQ1 : Hid True := hid0 trivial)
      | fail)
    go_ret
    exact ⟨by rw [HV.out]; rfl, HB0.out⟩
  by_cases h5 : sy > 16384
  case pos =>
    have HV : Hid (chkP Le Fo Fi La sy = some 0) := hid0 (by rw [HC.out, if_pos (.inr (.inl h5))])
    go_enter Tryd.func26, Tryd.ntmps26
    go_wp2_with (first
      | (go_at_call 47; refine (H4.out _ (Below.refl _ _)).mono ?_; rintro e w4 ⟨rfl, h⟩; have HB4 := hid0 (Below.later HB0.out h); have e4 := (HE.out.below h).c0; clear h)
      | (go_at_call 46; refine H3.out.mono ?_; rintro e w3 ⟨rfl, hw3⟩; have hw3' := hw3.symm; subst hw3'; clear hw3)
      | (go_at_call 45; have hq := HQ1.out; refine H2.out.mono ?_; rintro e w2 ⟨rfl, hw2⟩; have hw2' := hw2.symm; subst hw2'; clear hw2 hq)
      | (go_at_call 45; (fail_if_success (have hq := HQ1.out)); refine H1.out.mono ?_; rintro e w1 ⟨rfl, hw1⟩; have hw1' := hw1.symm; subst hw1'; clear hw1; have HQ1 : Hid True := hid0 trivial)
      | fail)
    go_ret
    exact ⟨by rw [HV.out]; rfl, HB0.out⟩
  by_cases h6 : (Fo.length : Int) = (Le.length : Int)
  case neg =>
    have h6n : ¬ Fo.length = Le.length := by omega
    have h6b : ((Fo.length : Int) != (Le.length : Int)) = true := by simp; omega
    have h6c : (Fo.length != Le.length) = true := by simp; omega
    have HV : Hid (chkP Le Fo Fi La sy = some 0) := hid0 (by rw [HC.out, if_pos (.inr (.inr (by omega)))])
    go_enter Tryd.func26, Tryd.ntmps26
    go_wp2_with (first
      | (go_at_call 47; refine (H4.out _ (Below.refl _ _)).mono ?_; rintro e w4 ⟨rfl, h⟩; have HB4 := hid0 (Below.later HB0.out h); have e4 := (HE.out.below h).c0; clear h)
      | (go_at_call 46; refine H3.out.mono ?_; rintro e w3 ⟨rfl, hw3⟩; have hw3' := hw3.symm; subst hw3'; clear hw3)
      | (go_at_call 45; have hq := HQ1.out; refine H2.out.mono ?_; rintro e w2 ⟨rfl, hw2⟩; have hw2' := hw2.symm; subst hw2'; clear hw2 hq)
      | (go_at_call 45; (fail_if_success (have hq := HQ1.out)); refine H1.out.mono ?_; rintro e w1 ⟨rfl, hw1⟩; have hw1' := hw1.symm; subst hw1'; clear hw1; have HQ1 : Hid True := hid0 trivial)
      | fail)
    go_ret
    exact ⟨by rw [HV.out]; rfl, HB0.out⟩
  have HC2 : Hid (chkP Le Fo Fi La sy = if riseA sy Le && plRise Le.length Fi La Fo then none else some 0) := hid0 (by rw [HC.out, if_neg (by omega)])
  clear HC
  cases g1 : riseA sy Le with
  | false =>
    rw [g1] at H3
    have HV : Hid (chkP Le Fo Fi La sy = some 0) := hid0 (by rw [HC2.out, g1]; rfl)
    go_enter Tryd.func26, Tryd.ntmps26
    go_wp2_with (first
      | (go_at_call 47; refine (H4.out _ (Below.refl _ _)).mono ?_; rintro e w4 ⟨rfl, h⟩; have HB4 := hid0 (Below.later HB0.out h); have e4 := (HE.out.below h).c0; clear h)
      | (go_at_call 46; refine H3.out.mono ?_; rintro e w3 ⟨rfl, hw3⟩; have hw3' := hw3.symm; subst hw3'; clear hw3)
      | (go_at_call 45; have hq := HQ1.out; refine H2.out.mono ?_; rintro e w2 ⟨rfl, hw2⟩; have hw2' := hw2.symm; subst hw2'; clear hw2 hq)
      | (go_at_call 45; (fail_if_success (have hq := HQ1.out)); refine H1.out.mono ?_; rintro e w1 ⟨rfl, hw1⟩; have hw1' := hw1.symm; subst hw1'; clear hw1; have HQ1 : Hid True := hid0 trivial)
      | fail)
    go_ret
    exact ⟨by rw [HV.out]; rfl, HB0.out⟩
  | true =>
    rw [g1] at H3
    cases g2 : plRise Le.length Fi La Fo with
    | false =>
      rw [g2] at H4
      have HV : Hid (chkP Le Fo Fi La sy = some 0) := hid0 (by rw [HC2.out, g1, g2]; rfl)
      go_enter Tryd.func26, Tryd.ntmps26
      go_wp2_with (first
      | (go_at_call 47; refine (H4.out _ (Below.refl _ _)).mono ?_; rintro e w4 ⟨rfl, h⟩; have HB4 := hid0 (Below.later HB0.out h); have e4 := (HE.out.below h).c0; clear h)
      | (go_at_call 46; refine H3.out.mono ?_; rintro e w3 ⟨rfl, hw3⟩; have hw3' := hw3.symm; subst hw3'; clear hw3)
      | (go_at_call 45; have hq := HQ1.out; refine H2.out.mono ?_; rintro e w2 ⟨rfl, hw2⟩; have hw2' := hw2.symm; subst hw2'; clear hw2 hq)
      | (go_at_call 45; (fail_if_success (have hq := HQ1.out)); refine H1.out.mono ?_; rintro e w1 ⟨rfl, hw1⟩; have hw1' := hw1.symm; subst hw1'; clear hw1; have HQ1 : Hid True := hid0 trivial)
      | fail)
      go_ret
      exact ⟨by rw [HV.out]; rfl, HB4.out⟩
    | true =>
      rw [g2] at H4
      have HV : Hid (chkP Le Fo Fi La sy = none) := hid0 (by rw [HC2.out, g1, g2]; rfl)
      go_enter Tryd.func26, Tryd.ntmps26
      go_wp2_with (first
      | (go_at_call 47; refine (H4.out _ (Below.refl _ _)).mono ?_; rintro e w4 ⟨rfl, h⟩; have HB4 := hid0 (Below.later HB0.out h); have e4 := (HE.out.below h).c0; clear h)
      | (go_at_call 46; refine H3.out.mono ?_; rintro e w3 ⟨rfl, hw3⟩; have hw3' := hw3.symm; subst hw3'; clear hw3)
      | (go_at_call 45; have hq := HQ1.out; refine H2.out.mono ?_; rintro e w2 ⟨rfl, hw2⟩; have hw2' := hw2.symm; subst hw2'; clear hw2 hq)
      | (go_at_call 45; (fail_if_success (have hq := HQ1.out)); refine H1.out.mono ?_; rintro e w1 ⟨rfl, hw1⟩; have hw1' := hw1.symm; subst hw1'; clear hw1; have HQ1 : Hid True := hid0 trivial)
      | fail)
      go_ret
      exact ⟨by rw [HV.out]; rfl, HB4.out⟩
end Go.Proofs.YtleeedjpccooaaaDoor
namespace Go.Proofs.YtleeedjpccooaaaDoor
open Go.RowKit Go.Shelf
theorem drew_add {w w' : World} {a : Nat} (h : ∃ m, w' = (w.drewN a).drewN m) : ∃ n, w' = w.drewN n := by
  obtain ⟨m, hm⟩ := h
  exact ⟨a + m, by rw [hm, World.drewN_drewN]⟩
def numP (o : Option Nat) : Int := match o with | none => 0 | some i => refNo i
set_option maxRecDepth 10000 in
set_option maxHeartbeats 1600000 in
theorem refRises_any (n : Int) (L : List Int) (a : Option Addr) (c : Nat) (w : World) (hl : L.length ≤ 1000000000) (ha : IA w a L) : Calls Tryd.prog 86 #[.slice a L.length c, .int .i64 n] w fun e w' => e = .returned (.bool (riseF n 0 L)) ∧ ∃ q, w' = w.drewN q := by
  have HA := hid0 ha
  clear ha
  go_enter Tryd.func86, Tryd.ntmps86
  go_wp2
  go_loopw [5] (fun i wr => ∃ (k : Nat) (lo : Int), k ≤ L.length ∧ 0 ≤ lo ∧ i = .int .i64 (k : Int) ∧ (∃ q, wr = w.drewN q) ∧ Hid ((k = 0 ∧ lo = 0) ∨ ∃ h : k - 1 < L.length, 0 < k ∧ lo = L[k - 1] + 1) ∧ Hid (riseF n lo (L.drop k) = riseF n 0 L)) (fun i _ => L.length - (intOf i).toNat)
  case atStart => exact ⟨0, 0, Nat.zero_le _, Int.le_refl _, rfl, ⟨0, rfl⟩, hid0 (.inl ⟨rfl, rfl⟩), hid0 rfl⟩
  case round =>
    obtain ⟨k, lo, hk, hlo, rfl, ⟨q, rfl⟩, HK, HD⟩ := hrel
    by_cases hlt : k < L.length
    · obtain ⟨b, off, rfl, _, d1⟩ := HA.out.at' k hlt
      have hkI : (k : Int) < (L.length : Int) := by omega
      have hkI0 : (0 : Int) ≤ (k : Int) := by omega
      have HS := hid0 (riseF_drop (cnt := n) (lo := lo) hlt)
      obtain ⟨s, hs⟩ : ∃ s, L[k] = s := ⟨_, rfl⟩
      have HLk : Hid (∃ h : k + 1 - 1 < L.length, 0 < k + 1 ∧ s + 1 = L[k + 1 - 1] + 1) := hid0 ⟨by omega, by omega, by simp [hs]⟩
      rw [hs] at d1 HS
      clear hs
      by_cases h1 : s < 0
      case pos =>
        have hd1 : decide (s < 0) = true := decide_eq_true h1
        have HD2 : Hid (riseF n 0 L = false) := hid0 (by rw [← HD.out, HS.out, decide_eq_false (by omega)]; rfl)
        clear HS HD
        go_wp2
        go_quiet ((fail))
        go_wp2
        go_ret
        exact ⟨by rw [HD2.out]; rfl, drew_add ⟨_, rfl⟩⟩
      have hd1 : decide (s < 0) = false := decide_eq_false h1
      by_cases h2 : s ≥ n
      case pos =>
        have hd2 : decide (s ≥ n) = true := decide_eq_true h2
        have HD2 : Hid (riseF n 0 L = false) := hid0 (by rw [← HD.out, HS.out, decide_eq_false (p := s < n) (by omega), Bool.and_false]; rfl)
        clear HS HD
        go_wp2
        go_quiet ((fail))
        go_wp2
        go_ret
        exact ⟨by rw [HD2.out]; rfl, drew_add ⟨_, rfl⟩⟩
      have hd2 : decide (s ≥ n) = false := decide_eq_false h2
      rcases HK.out with ⟨rfl, rfl⟩ | ⟨hp, hk0, rfl⟩
      · have hd3 : decide (((0 : Nat) : Int) > 0) = false := by decide
        have hd4 : decide ((0 : Int) > 0) = false := by decide
        rw [Nat.add_zero] at d1
        have HD2 : Hid (riseF n (s + 1) (L.drop (0 + 1)) = riseF n 0 L) := hid0 (by rw [← HD.out, HS.out, decide_eq_true (p := s < n) (by omega), decide_eq_true (p := 0 ≤ s) (by omega)]; rfl)
        clear HS HD HK
        go_wp2
        go_quiet ((fail))
        go_wp2
        go_roundw
        case rel => exact ⟨0 + 1, s + 1, by omega, by omega, by go_num, (by first | exact ⟨_, rfl⟩ | exact drew_add ⟨_, rfl⟩), hid0 (.inr HLk.out), HD2⟩
        case measure => simp [intOf]; omega
      · obtain ⟨b', off', e', _, d0⟩ := HA.out.at' (k - 1) hp
        cases e'
        have hd3 : decide ((k : Int) > 0) = true := decide_eq_true (by omega)
        have hj0 : (0 : Int) ≤ (k : Int) - 1 := by omega
        have hj1 : (k : Int) - 1 < (L.length : Int) := by omega
        generalize L[k - 1] = p at *
        by_cases h3 : s ≤ p
        · have hd4 : decide (s ≤ p) = true := decide_eq_true h3
          have HD2 : Hid (riseF n 0 L = false) := hid0 (by rw [← HD.out, HS.out, decide_eq_false (by omega)]; rfl)
          clear HS HD
          go_wp2
          go_quiet ((fail))
          go_wp2
          go_ret
          exact ⟨by rw [HD2.out]; rfl, drew_add ⟨_, rfl⟩⟩
        · have hd4 : decide (s ≤ p) = false := decide_eq_false h3
          have HD2 : Hid (riseF n (s + 1) (L.drop (k + 1)) = riseF n 0 L) := hid0 (by rw [← HD.out, HS.out, decide_eq_true (p := s < n) (by omega), decide_eq_true (p := p + 1 ≤ s) (by omega)]; rfl)
          clear HS HD HK
          go_wp2
          go_quiet ((fail))
          go_wp2
          go_roundw
          case rel => exact ⟨k + 1, s + 1, by omega, by omega, by go_num, (by first | exact ⟨_, rfl⟩ | exact drew_add ⟨_, rfl⟩), hid0 (.inr HLk.out), HD2⟩
          case measure => simp [intOf]; omega
    · have hkI : ¬ (k : Int) < (L.length : Int) := by omega
      have HD2 : Hid (riseF n 0 L = true) := hid0 (by rw [← HD.out]; exact riseF_end (by omega))
      clear HD
      go_wp2
      go_ret
      exact ⟨by rw [HD2.out]; rfl, q, rfl⟩
theorem RwA.drewN {w : World} {a : Option Addr} {L : List (List Int)} (h : RwA w a L) (n : Nat) : RwA (w.drewN n) a L := h.past ⟨rfl, rfl, rfl, Nat.le_refl _, fun _ _ => rfl⟩
set_option maxRecDepth 10000 in
set_option maxHeartbeats 1600000 in
theorem refAll_any (n : Int) (L : List (List Int)) (a : Option Addr) (c : Nat) (w : World) (hl : L.length ≤ 1000000000) (hr : ∀ r ∈ L, r.length ≤ 1000000000) (ha : RwA w a L) : Calls Tryd.prog 85 #[.slice a L.length c, .int .i64 n] w fun e w' => e = .returned (.bool (riseA n L)) ∧ ∃ q, w' = w.drewN q := by
  have HA := hid0 ha
  have HR := hid0 hr
  clear ha hr
  go_enter Tryd.func85, Tryd.ntmps85
  go_wp2
  go_loopw [5] (fun i wr => ∃ k : Nat, k ≤ L.length ∧ i = .int .i64 (k : Int) ∧ (∃ q, wr = w.drewN q) ∧ Hid (riseA n (L.drop k) = riseA n L)) (fun i _ => L.length - (intOf i).toNat)
  case atStart => exact ⟨0, Nat.zero_le _, rfl, ⟨0, rfl⟩, hid0 rfl⟩
  case round =>
    obtain ⟨k, hk, rfl, ⟨q, rfl⟩, HD⟩ := hrel
    by_cases hlt : k < L.length
    · obtain ⟨b, off, rfl, _, a1, c1, d1, i1⟩ := HA.out.at' k hlt
      have hkI : (k : Int) < (L.length : Int) := by omega
      have hkI0 : (0 : Int) ≤ (k : Int) := by omega
      have HS := hid0 (riseA_drop (n := n) hlt)
      have HRi := hid0 (refRises_any n L[k] a1 c1 (w.drewN q) (HR.out _ (List.getElem_mem hlt)) ⟨i1.at'⟩)
      clear i1
      generalize L[k] = s at *
      cases hs : riseF n 0 s with
      | true =>
        rw [hs] at HRi
        have HD2 : Hid (riseA n (L.drop (k + 1)) = riseA n L) := hid0 (by rw [← HD.out, HS.out, hs, Bool.true_and])
        clear HS HD hs
        go_wp2_with (go_at_call 86; refine HRi.out.mono ?_; rintro e w1 ⟨rfl, hw1⟩; obtain ⟨q1, rfl⟩ := drew_add hw1; clear hw1)
        go_roundw
        case rel => exact ⟨k + 1, by omega, by go_num, ⟨_, rfl⟩, HD2⟩
        case measure => simp [intOf]; omega
      | false =>
        rw [hs] at HRi
        have HD2 : Hid (riseA n L = false) := hid0 (by rw [← HD.out, HS.out, hs, Bool.false_and])
        clear HS HD hs
        go_wp2_with (go_at_call 86; refine HRi.out.mono ?_; rintro e w1 ⟨rfl, hw1⟩; obtain ⟨q1, rfl⟩ := drew_add hw1; clear hw1)
        go_ret
        exact ⟨by rw [HD2.out]; rfl, _, rfl⟩
    · have hkI : ¬ (k : Int) < (L.length : Int) := by omega
      have HD2 : Hid (riseA n L = true) := hid0 (by rw [← HD.out]; exact riseA_end (by omega))
      clear HD
      go_wp2
      go_ret
      exact ⟨by rw [HD2.out]; rfl, q, rfl⟩
end Go.Proofs.YtleeedjpccooaaaDoor
namespace Go.Proofs.YtleeedjpccooaaaDoor
open Go.RowKit Go.Shelf
set_option maxRecDepth 10000 in
set_option maxHeartbeats 800000 in
theorem lieBelow_any (n : Nat) (L : List Int) (a : Option Addr) (c : Nat) (w : World) (hl : L.length ≤ 1000000000) (ha : IA w a L) : Calls Tryd.prog 76 #[.slice a L.length c, .int .i64 (n : Int)] w fun e w' => e = .returned (.bool (L.all (oneOf n))) ∧ w' = w := by
  have HA := hid0 ha
  clear ha
  go_enter Tryd.func76, Tryd.ntmps76
  go_wp2
  go_loopw [9] (fun i wr => ∃ k : Nat, k ≤ L.length ∧ i = .int .i64 (k : Int) ∧ wr = w ∧ Hid ((L.drop k).all (oneOf n) = L.all (oneOf n))) (fun i _ => L.length - (intOf i).toNat)
  case atStart => exact ⟨0, Nat.zero_le _, rfl, rfl, hid0 rfl⟩
  case round =>
    obtain ⟨k, hk, rfl, rfl, HD⟩ := hrel
    by_cases hlt : k < L.length
    · obtain ⟨b, off, rfl, _, d1⟩ := HA.out.at' k hlt
      have hkI : (k : Int) < (L.length : Int) := by omega
      have hkI0 : (0 : Int) ≤ (k : Int) := by omega
      have HS := hid0 (all_drop (n := n) hlt)
      generalize L[k] = s at *
      by_cases h1 : s < 0
      case pos =>
        have HD2 : Hid (L.all (oneOf n) = false) := hid0 (by rw [← HD.out, HS.out, (oneOf_not n s).2 (by omega)]; rfl)
        clear HS HD
        go_wp2
        go_ret
        exact ⟨by rw [HD2.out]; rfl, rfl⟩
      by_cases h2 : s ≥ (n : Int)
      case pos =>
        have HD2 : Hid (L.all (oneOf n) = false) := hid0 (by rw [← HD.out, HS.out, (oneOf_not n s).2 (by omega)]; rfl)
        clear HS HD
        go_wp2
        go_ret
        exact ⟨by rw [HD2.out]; rfl, rfl⟩
      have HD2 : Hid ((L.drop (k + 1)).all (oneOf n) = L.all (oneOf n)) := hid0 (by rw [← HD.out, HS.out, (oneOf_iff n s).2 (by omega), Bool.true_and])
      clear HS HD
      go_wp2
      go_roundw
      case rel => exact ⟨k + 1, by omega, by go_num, trivial, HD2⟩
      case measure => simp [intOf]; omega
    · have hkI : ¬ (k : Int) < (L.length : Int) := by omega
      have HD2 : Hid (L.all (oneOf n) = true) := hid0 (by rw [← HD.out]; exact all_end (by omega))
      clear HD
      go_wp2
      go_ret
      exact ⟨by rw [HD2.out]; rfl, rfl⟩
end Go.Proofs.YtleeedjpccooaaaDoor
namespace Go.Proofs.YtleeedjpccooaaaDoor
open Go.RowKit Go.Shelf
theorem sumL_le {L : List (List Int)} (hr : ∀ r ∈ L, r.length ≤ 4000000) (hl : L.length ≤ 4000000) (k : Nat) : sumL (L.take k) ≤ 16000000000000 := by
  have key : ∀ M : List (List Int), (∀ r ∈ M, r.length ≤ 4000000) → sumL M ≤ M.length * 4000000 := by
    intro M
    induction M with
    | nil => intro _; simp [sumL]
    | cons x M ih =>
      intro h
      have h1 := ih (fun r hr => h r (List.mem_cons_of_mem _ hr))
      have h2 := h x List.mem_cons_self
      have e : sumL (x :: M) = x.length + sumL M := by simp [sumL]
      rw [e, List.length_cons]
      omega
  have h3 := key (L.take k) (fun r hr' => hr r (List.mem_of_mem_take hr'))
  have h4 : (L.take k).length ≤ L.length := by rw [List.length_take]; omega
  omega
/-- Do all lists name places alone? -/
def standP (n : Nat) (Fi La : List Int) (Fo : List (List Int)) : Bool := insA n Fo && Fi.all (oneOf n) && La.all (oneOf n)
set_option maxRecDepth 10000 in
set_option maxHeartbeats 1600000 in
theorem placesStand_any (aL aF aA aO : Option Addr) (cL cF cA cO : Nat) (Le Fo : List (List Int)) (Fi La : List Int) (em : Bool) (w : World) (hp : PosA w aL aF aA aO Le Fo Fi La) :
    Calls Tryd.prog 57 #[posV aL aF aA aO cL cF cA cO Le Fo Fi La em] w fun e w' => e = .returned (.bool (standP Le.length Fi La Fo)) ∧ Below w.heap.size w w' := by
  unfold posV
  obtain ⟨w0, hw0⟩ : ∃ w0, w0 = w.alloc (.cells #[.slice aL Le.length cL, .slice aF Fi.length cF, .slice aA La.length cA, .slice aO Fo.length cO, .bool em] 46) := ⟨_, rfl⟩
  have hB0 : Below w.heap.size w w0 := by rw [hw0]; exact (Below.refl _ _).alloc (Nat.le_refl _) _
  have hX0 : w0.heap[w.heap.size]? = some (.cells #[.slice aL Le.length cL, .slice aF Fi.length cF, .slice aA La.length cA, .slice aO Fo.length cO, .bool em] 46 (0, 0)) := by rw [hw0]; exact heap_alloc_new w _
  have HB0 := hid0 hB0
  have hp0 := hp.past hB0
  obtain ⟨x0, x1, x2, x3, x4⟩ := row5 hX0
  have H1 := hid0 (lieBelow_any Le.length Fi aF cF w0 (by have := hp.l2; omega) hp0.fi)
  have H2 := hid0 (lieBelow_any Le.length La aA cA w0 (by have := hp.l3; omega) hp0.la)
  have HF := hid0 hp0.fo
  have HR4 := hid0 hp.r4
  have hl4 := hp.l4
  have hfold := hw0.symm
  clear hw0 hp hp0 hB0 hX0
  go_enter Tryd.func57, Tryd.ntmps57
  go_wp2
  go_loopw [12] (fun i wr => ∃ (k : Nat), k ≤ Fo.length ∧ i = .int .i64 (k : Int) ∧ wr = w0 ∧ Hid (insA Le.length (Fo.drop k) = insA Le.length Fo)) (fun i _ => Fo.length - (intOf i).toNat)
  case atStart => exact ⟨0, Nat.zero_le _, rfl, rfl, hid0 rfl⟩
  case round =>
    obtain ⟨k, hk, rfl, hwr, HD⟩ := hrel
    have hwr' := hwr.symm
    subst hwr'
    clear hwr
    by_cases hlt : k < Fo.length
    · obtain ⟨b3, off, rfl, _, a1, c1, d1, i1⟩ := HF.out.at' k hlt
      have hkI : (k : Int) < (Fo.length : Int) := by omega
      have hkI0 : (0 : Int) ≤ (k : Int) := by omega
      have HS := hid0 (insA_drop (n := Le.length) hlt)
      have HIn := hid0 (lieBelow_any Le.length Fo[k] a1 c1 w0 (by have := HR4.out _ (List.getElem_mem hlt); omega) i1)
      clear i1
      generalize Fo[k] = s at *
      cases hs : s.all (oneOf Le.length) with
      | true =>
        rw [hs] at HIn
        have HD2 : Hid (insA Le.length (Fo.drop (k + 1)) = insA Le.length Fo) := hid0 (by rw [← HD.out, HS.out, hs, Bool.true_and])
        clear HS HD hs
        go_wp2_with (go_at_call 76; refine HIn.out.mono ?_; rintro e w1 ⟨rfl, hw1⟩; have hw1' := hw1.symm; subst hw1'; clear hw1)
        go_roundw
        case rel => exact ⟨k + 1, by omega, by go_num, trivial, HD2⟩
        case measure => simp [intOf]; omega
      | false =>
        rw [hs] at HIn
        have HD2 : Hid (standP Le.length Fi La Fo = false) := hid0 (by unfold standP; rw [← HD.out, HS.out, hs]; rfl)
        clear HS HD hs
        go_wp2_with (go_at_call 76; refine HIn.out.mono ?_; rintro e w1 ⟨rfl, hw1⟩; have hw1' := hw1.symm; subst hw1'; clear hw1)
        go_ret
        exact ⟨by rw [HD2.out]; rfl, HB0.out⟩
    · have hkI : ¬ (k : Int) < (Fo.length : Int) := by omega
      have HD2 : Hid (standP Le.length Fi La Fo = (Fi.all (oneOf Le.length) && La.all (oneOf Le.length))) := hid0 (by unfold standP; rw [← HD.out, insA_end (by omega), Bool.true_and])
      clear HD
      generalize Fi.all (oneOf Le.length) = b1 at *
      generalize La.all (oneOf Le.length) = b2 at *
      cases b1 <;> cases b2
      all_goals
        go_wp2_with (first
          | (go_at_call 76; have hq := HQ1.out; refine H2.out.mono ?_; rintro e w2 ⟨rfl, hw2⟩; have hw2' := hw2.symm; subst hw2'; clear hw2 hq)
          | (go_at_call 76; (fail_if_success (have hq := HQ1.out)); refine H1.out.mono ?_; rintro e w1 ⟨rfl, hw1⟩; have hw1' := hw1.symm; subst hw1'; clear hw1; have HQ1 : Hid True := hid0 trivial)
          | fail)
        go_ret
        exact ⟨by rw [HD2.out]; rfl, HB0.out⟩
set_option maxRecDepth 10000 in
set_option maxHeartbeats 6400000 in
theorem refCheck_any (sy : Int) (aL aF aA aO : Option Addr) (cL cF cA cO : Nat) (Le Fo : List (List Int)) (Fi La : List Int) (em : Bool) (w : World) (hp : PosA w aL aF aA aO Le Fo Fi La) :
    Calls Tryd.prog 61 #[posV aL aF aA aO cL cF cA cO Le Fo Fi La em, .int .i64 sy] w fun e w' => e = .returned (.int .i64 (numP (chkP Le Fo Fi La sy))) ∧ Below w.heap.size w w' := by
  unfold posV
  obtain ⟨w0, hw0⟩ : ∃ w0, w0 = w.alloc (.cells #[.slice aL Le.length cL, .slice aF Fi.length cF, .slice aA La.length cA, .slice aO Fo.length cO, .bool em] 46) := ⟨_, rfl⟩
  have hB0 : Below w.heap.size w w0 := by rw [hw0]; exact (Below.refl _ _).alloc (Nat.le_refl _) _
  have hX0 : w0.heap[w.heap.size]? = some (.cells #[.slice aL Le.length cL, .slice aF Fi.length cF, .slice aA La.length cA, .slice aO Fo.length cO, .bool em] 46 (0, 0)) := by rw [hw0]; exact heap_alloc_new w _
  have HB0 := hid0 hB0
  have hp0 := hp.past hB0
  obtain ⟨x0, x1, x2, x3, x4⟩ := row5 hX0
  have hl1 := hp.l1
  have hl4 := hp.l4
  have HFo := hid0 hp0.fo
  have HLe := hid0 hp0.le
  have HFoR := hid0 hp.r4
  have HLeR := hid0 hp.r1
  have HFoS := hid0 (fun k => sumL_le hp.r4 hp.l4 k)
  have HLeS := hid0 (fun k => sumL_le hp.r1 hp.l1 k)
  have R1 := hid0 (refAll_any sy Le aL cL w0 (by omega) (fun r hr => by have := hp.r1 r hr; omega) hp0.le)
  have R2 := hid0 (fun q => refAll_any Le.length Fo aO cO (w0.drewN q) (by omega) (fun r hr => by have := hp.r4 r hr; omega) (hp0.fo.drewN q))
  have R3 := hid0 (fun q => refRises_any Le.length Fi aF cF (w0.drewN q) (by have := hp.l2; omega) ⟨hp0.fi.at'⟩)
  have R4 := hid0 (fun q => refRises_any Le.length La aA cA (w0.drewN q) (by have := hp.l3; omega) ⟨hp0.la.at'⟩)
  have hfold := hw0.symm
  clear hw0 hp hp0 hB0 hX0
  go_enter Tryd.func61, Tryd.ntmps61
  go_wp2
  go_loopw [5, 6] (fun s i wr => ∃ (k : Nat), k ≤ Fo.length ∧ i = .int .i64 (k : Int) ∧ s = .int .i64 (sumL (Fo.take k) : Int) ∧ wr = w0) (fun _ i _ => Fo.length - (intOf i).toNat)
  case atStart => exact ⟨0, Nat.zero_le _, rfl, rfl, rfl⟩
  case round =>
    obtain ⟨k, hk, rfl, rfl, hwr⟩ := hrel
    have hwr' := hwr.symm
    subst hwr'
    clear hwr
    have hsm := HFoS.out k
    by_cases hlt : k < Fo.length
    · obtain ⟨b3, off, rfl, _, a1, c1, d1, i1⟩ := HFo.out.at' k hlt
      have hkI : (k : Int) < (Fo.length : Int) := by omega
      have hkI0 : (0 : Int) ≤ (k : Int) := by omega
      have hst := sumL_take hlt
      have hrl := HFoR.out _ (List.getElem_mem hlt)
      clear i1
      generalize (Fo[k]).length = n at *
      have HST := hid0 hst
      clear hst
      generalize sumL (Fo.take k) = m at *
      go_wp2
      go_roundw
      case rel => exact ⟨k + 1, by omega, by go_num, by rw [HST.out]; go_num, trivial⟩
      case measure => simp [intOf]; omega
    · have hkI : ¬ (k : Int) < (Fo.length : Int) := by omega
      have hkn : k = Fo.length := by omega
      have hfin : sumL (Fo.take k) = sumL Fo := by rw [hkn, List.take_length]
      have hqHFo : sumL Fo ≤ 16000000000000 := by rw [← hfin]; exact hsm
      rw [hfin]
      clear hsm hlt hkn hfin
      go_wp2
      go_loopw [7, 8] (fun s i wr => ∃ (k : Nat), k ≤ Le.length ∧ i = .int .i64 (k : Int) ∧ s = .int .i64 (sumL (Le.take k) : Int) ∧ wr = w0) (fun _ i _ => Le.length - (intOf i).toNat)
      case atStart => exact ⟨0, Nat.zero_le _, rfl, rfl, rfl⟩
      case round =>
        obtain ⟨k, hk, rfl, rfl, hwr⟩ := hrel
        have hwr' := hwr.symm
        subst hwr'
        clear hwr
        have hsm := HLeS.out k
        by_cases hlt : k < Le.length
        · obtain ⟨b3, off, rfl, _, a1, c1, d1, i1⟩ := HLe.out.at' k hlt
          have hkI : (k : Int) < (Le.length : Int) := by omega
          have hkI0 : (0 : Int) ≤ (k : Int) := by omega
          have hst := sumL_take hlt
          have hrl := HLeR.out _ (List.getElem_mem hlt)
          clear i1
          generalize (Le[k]).length = n at *
          have HST := hid0 hst
          clear hst
          generalize sumL (Le.take k) = m at *
          go_wp2
          go_roundw
          case rel => exact ⟨k + 1, by omega, by go_num, by rw [HST.out]; go_num, trivial⟩
          case measure => simp [intOf]; omega
        · have hkI : ¬ (k : Int) < (Le.length : Int) := by omega
          have hkn : k = Le.length := by omega
          have hfin : sumL (Le.take k) = sumL Le := by rw [hkn, List.take_length]
          have hqHLe : sumL Le ≤ 16000000000000 := by rw [← hfin]; exact hsm
          rw [hfin]
          clear hsm hlt hkn hfin
          by_cases h1 : (Le.length : Int) > 4000
          case pos =>
            have HV : Hid (chkP Le Fo Fi La sy = some 2) := hid0 (by unfold chkP; rw [if_pos (.inl (by omega))])
            go_wp2
            go_ret
            exact ⟨by rw [HV.out]; rfl, HB0.out⟩
          by_cases h2 : (sumL Le : Int) > 4194304
          case pos =>
            have HV : Hid (chkP Le Fo Fi La sy = some 2) := hid0 (by unfold chkP; rw [if_pos (.inr (.inl (by omega)))])
            go_wp2
            go_ret
            exact ⟨by rw [HV.out]; rfl, HB0.out⟩
          by_cases h3 : (sumL Fo : Int) > 1048576
          case pos =>
            have HV : Hid (chkP Le Fo Fi La sy = some 2) := hid0 (by unfold chkP; rw [if_pos (.inr (.inr (by omega)))])
            go_wp2
            go_ret
            exact ⟨by rw [HV.out]; rfl, HB0.out⟩
          have HC : Hid (chkP Le Fo Fi La sy = if sy < 1 ∨ 16384 < sy ∨ ¬ Fo.length = Le.length then some 0 else if riseA sy Le && plRise Le.length Fi La Fo then none else some 0) := hid0 (by unfold chkP; rw [if_neg (by omega)])
          by_cases h4 : sy < 1
          case pos =>
            have HV : Hid (chkP Le Fo Fi La sy = some 0) := hid0 (by rw [HC.out, if_pos (.inl h4)])
            go_wp2
            go_ret
            exact ⟨by rw [HV.out]; rfl, HB0.out⟩
          by_cases h5 : sy > 16384
          case pos =>
            have HV : Hid (chkP Le Fo Fi La sy = some 0) := hid0 (by rw [HC.out, if_pos (.inr (.inl h5))])
            go_wp2
            go_ret
            exact ⟨by rw [HV.out]; rfl, HB0.out⟩
          by_cases h6 : (Fo.length : Int) = (Le.length : Int)
          case neg =>
            have h6n : ¬ Fo.length = Le.length := by omega
            have h6b : ((Fo.length : Int) != (Le.length : Int)) = true := by simp; omega
            have h6c : (Fo.length != Le.length) = true := by simp; omega
            have HV : Hid (chkP Le Fo Fi La sy = some 0) := hid0 (by rw [HC.out, if_pos (.inr (.inr (by omega)))])
            go_wp2
            go_ret
            exact ⟨by rw [HV.out]; rfl, HB0.out⟩
          have HC2 : Hid (chkP Le Fo Fi La sy = if riseA sy Le && plRise Le.length Fi La Fo then none else some 0) := hid0 (by rw [HC.out, if_neg (by omega)])
          clear HC
          unfold plRise at HC2
          generalize riseA sy Le = g1 at *
          generalize riseA (Le.length : Int) Fo = g2 at *
          generalize riseF (Le.length : Int) 0 Fi = g3 at *
          generalize riseF (Le.length : Int) 0 La = g4 at *
          cases g1 <;> cases g2 <;> cases g3 <;> cases g4
          all_goals
            obtain ⟨vv, hvv⟩ : ∃ vv, chkP Le Fo Fi La sy = vv := ⟨_, rfl⟩
            have HV : Hid (chkP Le Fo Fi La sy = vv) := hid0 hvv
            rw [hvv] at HC2
            have hv2 := HC2.out
            simp at hv2
            clear hvv HC2
            subst hv2
            go_wp2_with (first
              | (go_at_call 86; have hq := HQ3.out; refine (R4.out _).mono ?_; rintro e w4 ⟨rfl, hw4⟩; obtain ⟨q4, rfl⟩ := drew_add hw4; clear hw4 hq)
              | (go_at_call 86; (fail_if_success (have hq := HQ3.out)); refine (R3.out _).mono ?_; rintro e w3 ⟨rfl, hw3⟩; obtain ⟨q3, rfl⟩ := drew_add hw3; clear hw3; have HQ3 : Hid True := hid0 trivial)
              | (go_at_call 85; have hq := HQ1.out; refine (R2.out _).mono ?_; rintro e w2 ⟨rfl, hw2⟩; obtain ⟨q2, rfl⟩ := drew_add hw2; clear hw2 hq)
              | (go_at_call 85; (fail_if_success (have hq := HQ1.out)); refine R1.out.mono ?_; rintro e w1 ⟨rfl, q1, hw1⟩; subst hw1; have HQ1 : Hid True := hid0 trivial)
              | fail)
            go_ret
            exact ⟨by rw [HV.out]; rfl, below_drew' HB0.out _⟩
end Go.Proofs.YtleeedjpccooaaaDoor
namespace Go.Proofs.YtleeedjpccooaaaDoor
open Go.RowKit Go.Shelf
/-- Numbers in memory, in a block from lo on. -/
structure IQ (w : World) (lo : Nat) (a : Option Addr) (L : List Int) : Prop where
  at' : ∀ k (h : k < L.length), ∃ b off, a = some ⟨b, off, none⟩ ∧ lo ≤ b ∧ b < w.heap.size ∧ w.cell? ⟨b, off + k, none⟩ = some (.int .i64 L[k])
theorem IQ.ia {w : World} {lo : Nat} {a : Option Addr} {L : List Int} (h : IQ w lo a L) : IA w a L := ⟨fun k hk => by
  obtain ⟨b, off, e, _, h1, h2⟩ := h.at' k hk
  exact ⟨b, off, e, h1, h2⟩⟩
theorem IQ.keep {w w' : World} {lo : Nat} {a : Option Addr} {L : List Int} (h : IQ w lo a L) (hs : w.heap.size ≤ w'.heap.size) (hk : ∀ k, lo ≤ k → k < w.heap.size → w'.heap[k]? = w.heap[k]?) : IQ w' lo a L := ⟨fun k hk' => by
  obtain ⟨b, off, e, h0, h1, h2⟩ := h.at' k hk'
  exact ⟨b, off, e, h0, by omega, (World.cell?_of_block (w := w) (hk b h0 h1)).trans h2⟩⟩
/-- Lists of numbers likewise. -/
structure RwQ (w : World) (lo : Nat) (a : Option Addr) (L : List (List Int)) : Prop where
  at' : ∀ k (h : k < L.length), ∃ b off, a = some ⟨b, off, none⟩ ∧ lo ≤ b ∧ b < w.heap.size ∧ ∃ a1 c1, w.cell? ⟨b, off + k, none⟩ = some (.slice a1 (L[k]).length c1) ∧ IQ w lo a1 L[k]
theorem RwQ.rwa {w : World} {lo : Nat} {a : Option Addr} {L : List (List Int)} (h : RwQ w lo a L) : RwA w a L := ⟨fun k hk => by
  obtain ⟨b, off, e, _, h1, a1, c1, h2, h3⟩ := h.at' k hk
  exact ⟨b, off, e, h1, a1, c1, h2, h3.ia⟩⟩
theorem RwQ.keep {w w' : World} {lo : Nat} {a : Option Addr} {L : List (List Int)} (h : RwQ w lo a L) (hs : w.heap.size ≤ w'.heap.size) (hk : ∀ k, lo ≤ k → k < w.heap.size → w'.heap[k]? = w.heap[k]?) : RwQ w' lo a L := ⟨fun k hk' => by
  obtain ⟨b, off, e, h0, h1, a1, c1, h2, h3⟩ := h.at' k hk'
  exact ⟨b, off, e, h0, by omega, a1, c1, (World.cell?_of_block (w := w) (hk b h0 h1)).trans h2, h3.keep hs hk⟩⟩
theorem OwnI.iq {w : World} {base : Nat} {v : Value} {L : List Int} (h : OwnI w base v L) : ∃ a cap, v = .slice a L.length cap ∧ IQ w base a L := by
  have h0 := h
  rcases h.2 with ⟨rfl, hn⟩ | ⟨g, cap, cur, rfl, hg, hr, hc, _⟩
  · exact ⟨none, 0, by rw [hn], ⟨fun k hk => by omega⟩⟩
  · refine ⟨_, cap, rfl, ⟨fun k hk => ⟨g, 0, rfl, hg, (World.ownsRow.lt h0 g rfl).2, ?_⟩⟩⟩
    have := World.ownsRow.cellAt h0 k (by omega)
    rw [Nat.zero_add, this]
    simp [hk]
theorem OwnI.past {w w' : World} {base : Nat} {v : Value} {L : List Int} (h : OwnI w base v L) (hb : Below w.heap.size w w') : OwnI w' base v L := own_blk h (fun k hk => hb.block k (World.ownsRow.lt h k hk).2)
theorem row_later {w w' : World} {base : Nat} {t : TypeId} {size n : Nat} {v : Value} {xs : List Value} (h : w.ownsRow base t size v n xs) (hb : Below w.heap.size w w') : w'.ownsRow base t size v n xs := own_blk h (fun k hk => hb.block k (World.ownsRow.lt h k hk).2)
abbrev Lot := List (Value × List Int)
structure Bag (w : World) (base : Nat) (v : Value) (ps : Lot) : Prop where
  outer : w.ownsRow base 34 1 v ps.length (ps.map (·.1))
  row : ∀ x ∈ ps, OwnI w base x.1 x.2
  apart : ps.Pairwise fun x y => ∀ g, x.1.ownBlock = some g → y.1.ownBlock ≠ some g
  away : ∀ x ∈ ps, ∀ g, v.ownBlock = some g → x.1.ownBlock ≠ some g
theorem Bag.nil (w : World) (base : Nat) : Bag w base (.slice none 0 0) [] := ⟨World.ownsRow_nil _ _ _ _, by simp, List.Pairwise.nil, by simp⟩
theorem Bag.later {w w' : World} {base : Nat} {v : Value} {ps : Lot} (h : Bag w base v ps) (hb : Below w.heap.size w w') : Bag w' base v ps :=
  ⟨row_later h.outer hb, fun x hx => (h.row x hx).past hb, h.apart, h.away⟩
/-- All lists empty. -/
theorem Bag.made {w : World} {base : Nat} {v : Value} {n : Nat} (h : w.ownsRow base 34 1 v n (List.replicate n (.slice none 0 0))) : Bag w base v (List.replicate n (.slice none 0 0, [])) := by
  refine ⟨?_, ?_, ?_, ?_⟩
  · rw [List.length_replicate, List.map_replicate]; exact h
  · intro x hx
    rw [List.eq_of_mem_replicate hx]
    exact World.ownsRow_nil _ _ _ _
  · rw [List.pairwise_replicate]
    right
    intro g hg
    cases hg
  · intro x hx g _ hxg
    rw [List.eq_of_mem_replicate hx] at hxg
    cases hxg
/-- One list is another one. -/
theorem Bag.set {W w1 : World} {base g n c : Nat} {ps : Lot} (h : Bag W base (.slice (some ⟨g, 0, none⟩) n c) ps) (hn : n = ps.length) (y : Nat) (hy : y < ps.length) {v' : Value} {l' : List Int}
    (hk : ∀ k, k < W.heap.size → (ps[y]).1.ownBlock ≠ some k → w1.heap[k]? = W.heap[k]?) (hv : OwnI w1 base v' l') (hnew : ∀ q, v'.ownBlock = some q → (ps[y]).1.ownBlock = some q ∨ W.heap.size ≤ q) :
    Bag (w1.setCell ⟨g, y, none⟩ v') base (.slice (some ⟨g, 0, none⟩) n c) (ps.set y (v', l')) := by
  subst hn
  have hmem : ps[y] ∈ ps := List.getElem_mem hy
  have hgl := World.ownsRow.lt h.outer g rfl
  have hvg : ∀ q, v'.ownBlock = some q → q ≠ g := fun q hq e => by
    subst e
    rcases hnew q hq with h1 | h1
    · exact h.away _ hmem q rfl h1
    · omega
  have hyg : (ps[y]).1.ownBlock ≠ some g := h.away _ hmem g rfl
  have hout1 : w1.ownsRow base 34 1 (.slice (some ⟨g, 0, none⟩) ps.length c) ps.length (ps.map (·.1)) := own_blk h.outer (fun k hk' => by
    have e : g = k := by simpa [Value.ownBlock] using hk'
    subst e
    exact hk g hgl.2 hyg)
  have hother : ∀ {t : TypeId} {size m : Nat} {u : Value} {xs : List Value}, w1.ownsRow base t size u m xs → (∀ q, u.ownBlock = some q → q ≠ g) → (w1.setCell ⟨g, y, none⟩ v').ownsRow base t size u m xs := by
    intro t size m u xs ho hne
    exact own_blk ho (fun q hq => Below.heap_setCell w1 _ _ q (hne q hq))
  refine ⟨?_, ?_, ?_, ?_⟩
  · have h1 := (World.ownsRow.stored hout1 y v').1
    rw [List.length_set, List.map_set]
    exact h1
  · intro x hx
    obtain ⟨j, hj, rfl⟩ := List.getElem_of_mem hx
    have hj2 : j < ps.length := by simpa using hj
    rw [List.getElem_set]
    split
    · exact hother hv hvg
    · rename_i hne
      have hr := h.row _ (List.getElem_mem hj2)
      refine hother (own_blk hr (fun q hq => hk q (World.ownsRow.lt hr q hq).2 ?_)) (fun q hq e => ?_)
      · intro hyq
        have := List.pairwise_iff_getElem.1 h.apart
        rcases Nat.lt_or_gt_of_ne hne with hlt | hlt
        · exact this y j hy hj2 hlt q hyq hq
        · exact this j y hj2 hy hlt q hq hyq
      · subst e
        exact h.away _ (List.getElem_mem hj2) q rfl hq
  · rw [List.pairwise_iff_getElem]
    intro i j hi hj hij q hiq hjq
    have hi2 : i < ps.length := by simpa using hi
    have hj2 : j < ps.length := by simpa using hj
    have ap := List.pairwise_iff_getElem.1 h.apart
    rw [List.getElem_set] at hiq hjq
    split at hiq
    · rename_i e
      subst e
      rw [if_neg (by omega)] at hjq
      rcases hnew q hiq with h1 | h1
      · exact ap y j hi2 hj2 hij q h1 hjq
      · have := (World.ownsRow.lt (h.row _ (List.getElem_mem hj2)) q hjq).2; omega
    · split at hjq
      · rename_i e
        subst e
        rcases hnew q hjq with h1 | h1
        · exact ap i y hi2 hj2 hij q hiq h1
        · have := (World.ownsRow.lt (h.row _ (List.getElem_mem hi2)) q hiq).2; omega
      · exact ap i j hi2 hj2 hij q hiq hjq
  · intro x hx q hq hxq
    have e : g = q := by simpa [Value.ownBlock] using hq
    subst e
    obtain ⟨j, hj, rfl⟩ := List.getElem_of_mem hx
    have hj2 : j < ps.length := by simpa using hj
    rw [List.getElem_set] at hxq
    split at hxq
    · exact hvg g hxq rfl
    · exact h.away _ (List.getElem_mem hj2) g rfl hxq
theorem Bag.cells {w : World} {base g n c : Nat} {ps : Lot} (h : Bag w base (.slice (some ⟨g, 0, none⟩) n c) ps) (hn : n = ps.length) (j : Nat) (hj : j < ps.length) : w.cell? ⟨g, j, none⟩ = some (ps[j]).1 ∧ w.frozen? ⟨g, j, none⟩ = false := by
  subst hn
  refine ⟨?_, World.ownsRow.frozenAt h.outer j⟩
  rw [World.ownsRow.cellAt h.outer j (by omega)]
  simp [hj]
theorem Bag.rwq {w : World} {base : Nat} {v : Value} {ps : Lot} (h : Bag w base v ps) : ∃ a c, v = .slice a (ps.map (·.2)).length c ∧ RwQ w base a (ps.map (·.2)) := by
  have h0 := h.outer
  rcases h0.2 with ⟨hv, hn⟩ | ⟨g, cap, cur, hv, hg, _⟩
  · have hps : ps = [] := List.eq_nil_of_length_eq_zero (by omega)
    subst hps
    exact ⟨none, 0, hv, ⟨fun k hk => by simp at hk⟩⟩
  · refine ⟨some ⟨g, 0, none⟩, cap, by rw [hv, List.length_map], ⟨fun k hk => ?_⟩⟩
    have hk' : k < ps.length := by simpa using hk
    obtain ⟨a1, c1, e1, hq⟩ := (h.row ps[k] (List.getElem_mem hk')).iq
    rw [hv] at h0
    refine ⟨g, 0, rfl, hg, (World.ownsRow.lt h0 g rfl).2, a1, c1, ?_, ?_⟩
    · rw [Nat.zero_add, World.ownsRow.cellAt h0 k (by omega)]
      simp [hk', e1]
    · simp only [List.getElem_map]
      exact hq
/-- One more, made behind the others. -/
theorem Bag.snoc {W wr w1 : World} {base : Nat} {v v' x : Value} {ps : Lot} {l : List Int} {o : Obj} {n : Nat} (hn : n = ps.length) (h : Bag W base v ps) (hk : Below W.heap.size W wr) (hx : OwnI wr W.heap.size x l) (hbase : base ≤ W.heap.size)
    (hown' : w1.ownsRow base 34 1 v' (n + 1) (ps.map (·.1) ++ [x])) (hgrow : (wr.alloc o).grownBy w1 v.ownBlock) (hat : v'.ownBlock = v.ownBlock ∨ v'.ownBlock = some (wr.alloc o).heap.size) {w : World} (hb : Below base w W) :
    Bag w1 base v' (ps ++ [(x, l)]) ∧ Below base w w1 := by
  subst hn
  have h2 := h.later hk
  have hs := hk.size
  have hxl := World.ownsRow.lt hx
  have hxa : ∀ g, v.ownBlock = some g → x.ownBlock ≠ some g := fun g hg hxg => by
    have e1 := (World.ownsRow.lt h.outer g hg).2
    have e2 := (hxl g hxg).1
    omega
  have old : ∀ (u : Value) (m : List Int) (b : Nat), OwnI wr b u m → (∀ g, v.ownBlock = some g → u.ownBlock ≠ some g) → OwnI w1 b u m := fun u m b hu hne => by
    refine World.ownsRow.kept (World.ownsRow.alloc hu o) hgrow ?_
    cases e : u.ownBlock with
    | none => exact .inl rfl
    | some g => exact .inr fun hc => hne g hc.symm e
  refine ⟨⟨?_, ?_, ?_, ?_⟩, ?_⟩
  · rw [List.length_append, List.map_append]
    exact hown'
  · intro y hy
    rcases List.mem_append.1 hy with hy | hy
    · exact old _ _ _ (h2.row y hy) (h.away y hy)
    · rw [List.mem_singleton] at hy
      subst hy
      exact owns_lower (old _ _ _ hx hxa) hbase
  · rw [List.pairwise_append]
    refine ⟨h.apart, List.pairwise_singleton _ _, ?_⟩
    intro y hy z hz g hg hzg
    rw [List.mem_singleton] at hz
    subst hz
    have e1 := (World.ownsRow.lt (h.row y hy) g hg).2
    have e2 := (hxl g hzg).1
    omega
  · intro y hy g hg hyg
    have hlt : g < wr.heap.size := by
      rcases List.mem_append.1 hy with hy | hy
      · exact (World.ownsRow.lt (h2.row y hy) g hyg).2
      · rw [List.mem_singleton] at hy
        subst hy
        exact (hxl g hyg).2
    rcases hat with hat | hat
    · rw [hat] at hg
      rcases List.mem_append.1 hy with hy | hy
      · exact h.away y hy g hg hyg
      · rw [List.mem_singleton] at hy
        subst hy
        exact hxa g hg hyg
    · rw [hat] at hg
      simp at hg
      omega
  · refine ((hb.trans (hk.mono hbase)).alloc ?_ o).grown hgrow ?_ (fun k hk' => (World.ownsRow.lt h.outer k hk').1)
    · omega
    · simp; omega
/-- x is put behind the list of y. -/
def putT (x : Nat) (T : List (List Int)) (y : Int) : List (List Int) := T.set y.toNat (T.getD y.toNat [] ++ [(x : Int)])
/-- Follow turned round, list by list. -/
def turnA : Nat → List (List Int) → List (List Int) → List (List Int)
  | _, [], T => T
  | x, r :: L, T => turnA (x + 1) L (r.foldl (putT x) T)
def turnL (Fo : List (List Int)) : List (List Int) := turnA 0 Fo (List.replicate Fo.length [])
theorem putT_len (x : Nat) (T : List (List Int)) (y : Int) : (putT x T y).length = T.length := by unfold putT; rw [List.length_set]
theorem turnA_drop {Fo T : List (List Int)} {k : Nat} (hk : k < Fo.length) : turnA k (Fo.drop k) T = turnA (k + 1) (Fo.drop (k + 1)) ((Fo[k]).foldl (putT k) T) := by
  rw [List.drop_eq_getElem_cons hk, turnA]
theorem turnA_end {Fo T : List (List Int)} {k : Nat} (hk : Fo.length ≤ k) : turnA k (Fo.drop k) T = T := by
  rw [List.drop_of_length_le hk, turnA]
theorem fold_drop {r : List Int} {x k : Nat} {T : List (List Int)} (hk : k < r.length) : (r.drop k).foldl (putT x) T = (r.drop (k + 1)).foldl (putT x) (putT x T r[k]) := by
  rw [List.drop_eq_getElem_cons hk, List.foldl_cons]
end Go.Proofs.YtleeedjpccooaaaDoor
namespace Go.Proofs.YtleeedjpccooaaaDoor
open Go.RowKit Go.Shelf
theorem sizeInt1 : (Tryd.prog.info? 3).map (·.size) = some 1 := by kernel_rfl
/-- The row of a slice that has no room. -/
theorem own_full {w : World} {base : Nat} {t : TypeId} {g n : Nat} {xs : List Value} (h : w.ownsRow base t 1 (.slice (some ⟨g, 0, none⟩) n n) n xs) : w.heap[g]? = some (.cells xs.toArray t (0, 0)) := by
  rcases h.2 with ⟨e, _⟩ | ⟨g', cap, cur, e, _, hr, _, _, hs, ht⟩
  · cases e
  · cases e
    have hsz : cur.toList.length = n := by simpa using hs
    have : xs = cur.toList := by rw [← ht, List.take_of_length_le (by omega)]
    rw [hr, this]
theorem full_own {w : World} {base : Nat} {t : TypeId} {g n : Nat} {xs : List Value} (hb : base ≤ g) (hn : n ≤ maxLen) (hl : xs.length = n) (h : w.heap[g]? = some (.cells xs.toArray t (0, 0))) : w.ownsRow base t 1 (.slice (some ⟨g, 0, none⟩) n n) n xs :=
  ⟨by omega, .inr ⟨g, n, xs.toArray, rfl, hb, h, Nat.le_refl _, hn, by simp [hl], by rw [List.take_of_length_le (by simp [hl])]⟩⟩
theorem copy_run {w1 : World} {g n c : Nat} {a : Option Addr} {L : List Int} {xs : List Value} (hr : w1.heap[g]? = some (.cells xs.toArray 3 (0, 0))) (hx : xs.length = n) (hl : L.length = n) (ha : IA w1 a L) :
    ∃ w2, (Builtin.copy_ #[34, 34] 3 #[.slice (some ⟨g, 0, none⟩) n n, .slice a n c]).run Tryd.prog w1 = .ok (goInt (n : Int)) w2 ∧ w2.heap[g]? = some (.cells (L.map (Value.int .i64)).toArray 3 (0, 0)) ∧ ∀ B w0, B ≤ g → Below B w0 w1 → Below B w0 w2 := by
  by_cases h0 : n = 0
  · have e1 : L = [] := List.eq_nil_of_length_eq_zero (by omega)
    have e2 : xs = [] := List.eq_nil_of_length_eq_zero (by omega)
    subst e1 e2
    subst h0
    refine ⟨w1, run_copy_none (P := Tryd.prog) w1 34 34 3 3 _ _ 0 0 0 c Tryd.underlying34 sizeInt1 rfl, hr, fun B w0 _ h => h⟩
  · obtain ⟨b, off, rfl, _, _⟩ := ha.at' 0 (by omega)
    have hrun := run_copy_row (P := Tryd.prog) w1 34 34 3 3 g 0 n n ⟨b, off, none⟩ n c xs.toArray 3 (L.map (Value.int .i64)) Tryd.underlying34 sizeInt1 hr (by simp [hl]) (fun j v hv => by
      have hj : j < L.length := by have := (List.getElem?_eq_some_iff.1 hv).1; simpa using this
      obtain ⟨b', off', e', _, h2⟩ := ha.at' j hj
      cases e'
      rw [Addr.add_mid, h2]
      have e : (L.map (Value.int .i64))[j]? = some (.int .i64 L[j]) := by simp [hj]
      rw [e] at hv
      exact hv) (by simp [hl, hx]) (fun v hv => by obtain ⟨y, _, rfl⟩ := List.mem_map.1 hv; rfl)
    have e3 : (xs.toArray.toList.take 0 ++ L.map (Value.int .i64) ++ xs.toArray.toList.drop (0 + (L.map (Value.int .i64)).length)) = L.map (Value.int .i64) := by
      rw [List.drop_of_length_le (by simp [hl, hx])]
      simp
    have e4 : (L.map (Value.int .i64)).length = n := by simp [hl]
    rw [e3, e4] at hrun
    refine ⟨_, hrun, ?_, fun B w0 hB h => below_setRow h hB _⟩
    exact setRow_heap w1 g _ _ _ _ hr
theorem set_fill {L : List (List Int)} {k n : Nat} (hk : k < L.length) (hn : n = L.length) : (L.take k ++ List.replicate (n - k) []).set k L[k] = L.take (k + 1) ++ List.replicate (n - (k + 1)) [] := by
  subst hn
  have e : L.length - k = L.length - (k + 1) + 1 := by omega
  have e2 : L.take (k + 1) = L.take k ++ [L[k]] := by rw [List.take_add_one, List.getElem?_eq_getElem hk]; rfl
  have hl : (L.take k).length = k := by rw [List.length_take]; omega
  rw [e, List.replicate_succ, e2, List.set_append_right _ _ (by omega), hl, Nat.sub_self, List.set_cons_zero, List.append_assoc]
  rfl
theorem Bag.make {w w1 : World} {n : Nat} (hown : w1.ownsRow w.heap.size 34 1 (.slice (some ⟨w.heap.size, 0, none⟩) n n) n (madeCells (Value.cells (.slice none 0 0)) (n * 1)).toList) : Bag w1 w.heap.size (.slice (some ⟨w.heap.size, 0, none⟩) n n) (List.replicate n (.slice none 0 0, [])) := by
  refine Bag.made ?_
  have e : (madeCells (Value.cells (.slice none 0 0)) (n * 1)).toList = List.replicate n (.slice none 0 0) := by
    have := toList_madeCells_one (.slice none 0 0) (n * 1)
    rw [Nat.mul_one] at this ⊢
    exact this
  rw [e] at hown
  exact hown
end Go.Proofs.YtleeedjpccooaaaDoor
namespace Go.Proofs.YtleeedjpccooaaaDoor
open Go.RowKit Go.Shelf
/-- Numbers of no great size, each in its place. -/
structure Cnt (w : World) (base g n : Nat) (m : Int) (xs : List Int) : Prop where
  own : OwnI w base (.slice (some ⟨g, 0, none⟩) n n) xs
  len : xs.length = n
  lo : ∀ x ∈ xs, 0 ≤ x ∧ x ≤ m
theorem Cnt.put {w : World} {base g n : Nat} {m : Int} {xs : List Int} (h : Cnt w base g n m xs) (k : Nat) (hk : k < n) : ∃ z, w.cell? ⟨g, k, none⟩ = some (.int .i64 z) ∧ w.frozen? ⟨g, k, none⟩ = false ∧ 0 ≤ z ∧ z ≤ m ∧ ∃ ys, Cnt (w.setCell ⟨g, k, none⟩ (.int .i64 (z + 1))) base g n (m + 1) ys := by
  have hkx : k < xs.length := by rw [h.len]; exact hk
  have ho := h.own
  unfold OwnI at ho
  rw [h.len] at ho
  have hz := h.lo _ (List.getElem_mem hkx)
  refine ⟨xs[k], ?_, World.ownsRow.frozenAt ho k, hz.1, hz.2, xs.set k (xs[k] + 1), ?_, by rw [List.length_set]; exact h.len, ?_⟩
  · rw [World.ownsRow.cellAt ho k (by omega)]
    simp [hkx]
  · have h1 := (World.ownsRow.stored ho k (.int .i64 (xs[k] + 1))).1
    unfold OwnI
    rw [List.length_set, h.len, List.map_set]
    exact h1
  · intro x hx
    rcases List.mem_or_eq_of_mem_set hx with hx | rfl
    · have := h.lo x hx; omega
    · omega
theorem Cnt.past {w w' : World} {base g n : Nat} {m : Int} {xs : List Int} (h : Cnt w base g n m xs) (hb : Below w.heap.size w w') : Cnt w' base g n m xs := ⟨h.own.past hb, h.len, h.lo⟩
theorem Cnt.mono {w : World} {base g n : Nat} {m m' : Int} {xs : List Int} (h : Cnt w base g n m xs) (hm : m ≤ m') : Cnt w base g n m' xs := ⟨h.own, h.len, fun x hx => by have := h.lo x hx; omega⟩
theorem Cnt.away {w : World} {base g n : Nat} {m : Int} {xs : List Int} (h : Cnt w base g n m xs) {b k : Nat} (hb : g ≠ b) (u : Value) : Cnt (w.setCell ⟨b, k, none⟩ u) base g n m xs :=
  ⟨own_blk h.own (fun q hq => by
    have e : g = q := by simpa [Value.ownBlock] using hq
    subst e
    exact Below.heap_setCell w _ _ g hb), h.len, h.lo⟩
theorem Cnt.made {w : World} {base g n : Nat} (h : w.ownsRow base 3 1 (.slice (some ⟨g, 0, none⟩) n n) n (madeCells (Value.cells (.int .i64 0)) (n * 1)).toList) : Cnt w base g n 0 (List.replicate n 0) := by
  have e : (madeCells (Value.cells (.int .i64 0)) (n * 1)).toList = List.replicate n (.int .i64 0) := by
    have := toList_madeCells_one (.int .i64 0) (n * 1)
    rw [Nat.mul_one] at this ⊢
    exact this
  rw [e] at h
  refine ⟨?_, by simp, fun x hx => by rw [List.eq_of_mem_replicate hx]; omega⟩
  unfold OwnI
  rw [List.length_replicate, List.map_replicate]
  exact h
theorem Bag.grown {W w2 : World} {o : Obj} {base g n c : Nat} {ps : Lot} (h : Bag W base (.slice (some ⟨g, 0, none⟩) n c) ps) (hn : n = ps.length) (y : Nat) (hy : y < ps.length) {row : Option Nat} (hrow : row = (ps[y]).1.ownBlock) (hgrow : (W.alloc o).grownBy w2 row) :
    w2.cell? ⟨g, y, none⟩ = some (ps[y]).1 ∧ w2.frozen? ⟨g, y, none⟩ = false ∧ ∀ k, k < W.heap.size → (ps[y]).1.ownBlock ≠ some k → w2.heap[k]? = W.heap[k]? := by
  subst hn hrow
  have hb : ∀ k, k < W.heap.size → (ps[y]).1.ownBlock ≠ some k → w2.heap[k]? = W.heap[k]? := fun k hk hne => (hgrow.block k (by simp; omega) (fun e => hne e.symm)).trans (heap_alloc_old W o hk)
  have hgl := (World.ownsRow.lt h.outer g rfl).2
  have hne : (ps[y]).1.ownBlock ≠ some g := h.away _ (List.getElem_mem hy) g rfl
  have ho : w2.ownsRow base 34 1 (.slice (some ⟨g, 0, none⟩) ps.length c) ps.length (ps.map (·.1)) := own_blk h.outer (fun k hk => by
    have e : g = k := by simpa [Value.ownBlock] using hk
    subst e
    exact hb g hgl hne)
  refine ⟨?_, World.ownsRow.frozenAt ho y, hb⟩
  rw [World.ownsRow.cellAt ho y (by omega)]
  simp [hy]
theorem map_putT {ps : Lot} {x y : Nat} (hy : y < ps.length) {v : Value} : (ps.set y (v, (ps[y]).2 ++ [(x : Int)])).map (·.2) = putT x (ps.map (·.2)) (y : Int) := by
  unfold putT
  rw [List.map_set, Int.toNat_natCast, List.getD_eq_getElem?_getD, List.getElem?_map, List.getElem?_eq_getElem hy]
  rfl
end Go.Proofs.YtleeedjpccooaaaDoor
namespace Go.Proofs.YtleeedjpccooaaaDoor
open Go.RowKit Go.Shelf
/-- Positions in memory, in blocks from lo on. -/
structure PosQ (w : World) (lo : Nat) (aL aF aA aO : Option Addr) (Le Fo : List (List Int)) (Fi La : List Int) : Prop where
  le : RwQ w lo aL Le
  fi : IQ w lo aF Fi
  la : IQ w lo aA La
  fo : RwQ w lo aO Fo
theorem PosQ.keep {w w' : World} {lo : Nat} {aL aF aA aO : Option Addr} {Le Fo : List (List Int)} {Fi La : List Int} (h : PosQ w lo aL aF aA aO Le Fo Fi La) (hs : w.heap.size ≤ w'.heap.size) (hk : ∀ k, lo ≤ k → k < w.heap.size → w'.heap[k]? = w.heap[k]?) : PosQ w' lo aL aF aA aO Le Fo Fi La :=
  ⟨h.le.keep hs hk, h.fi.keep hs hk, h.la.keep hs hk, h.fo.keep hs hk⟩
theorem PosQ.past {w w' : World} {lo : Nat} {aL aF aA aO : Option Addr} {Le Fo : List (List Int)} {Fi La : List Int} (h : PosQ w lo aL aF aA aO Le Fo Fi La) (hb : Below w.heap.size w w') : PosQ w' lo aL aF aA aO Le Fo Fi La := h.keep hb.size (fun k _ hk => hb.block k hk)
/-- What positions turned round are. -/
structure Pos where
  le : List (List Int)
  fi : List Int
  la : List Int
  fo : List (List Int)
  em : Bool
def revP (Le Fo : List (List Int)) (Fi La : List Int) (em : Bool) : Pos := if decide (Fo.length = Le.length) && plRise Le.length Fi La Fo then ⟨Le, La, Fi, turnL Fo, em⟩ else ⟨[], [], [], [], false⟩
/-- Positions are answered, in new memory. -/
def RevR (w : World) (p : Pos) (r : Ending) (w' : World) : Prop := ∃ aL aF aA aO cL cF cA cO, r = .returned (posV aL aF aA aO cL cF cA cO p.le p.fo p.fi p.la p.em) ∧ PosQ w' w.heap.size aL aF aA aO p.le p.fo p.fi p.la ∧ Below w.heap.size w w'
theorem RevR.zero {w w' : World} (hb : Below w.heap.size w w') : RevR w ⟨[], [], [], [], false⟩ (.returned (.agg #[.slice none 0 0, .slice none 0 0, .slice none 0 0, .slice none 0 0, .bool false])) w' :=
  ⟨none, none, none, none, 0, 0, 0, 0, rfl, ⟨⟨fun _ hk => absurd hk (Nat.not_lt_zero _)⟩, ⟨fun _ hk => absurd hk (Nat.not_lt_zero _)⟩, ⟨fun _ hk => absurd hk (Nat.not_lt_zero _)⟩, ⟨fun _ hk => absurd hk (Nat.not_lt_zero _)⟩⟩, hb⟩
theorem rise_in {n : Int} : ∀ (L : List Int) (lo : Int), 0 ≤ lo → riseF n lo L = true → ∀ y ∈ L, 0 ≤ y ∧ y < n
  | [], _, _, _, y, hy => by cases hy
  | z :: L, lo, hlo, h, y, hy => by
    rw [riseF] at h
    simp only [Bool.and_eq_true, decide_eq_true_eq] at h
    rcases List.mem_cons.1 hy with rfl | hy
    · omega
    · exact rise_in L (z + 1) (by omega) h.2 y hy
theorem plRise_in {n : Nat} {Fi La : List Int} {Fo : List (List Int)} (h : plRise n Fi La Fo = true) : ∀ r ∈ Fo, ∀ y ∈ r, 0 ≤ y ∧ y < (n : Int) := by
  unfold plRise riseA at h
  simp only [Bool.and_eq_true, List.all_eq_true] at h
  intro r hr y hy
  exact rise_in r 0 (Int.le_refl _) (h.2 r hr) y hy
theorem OwnI.lower {w : World} {b lo : Nat} {v : Value} {L : List Int} (h : OwnI w b v L) (hb : lo ≤ b) : OwnI w lo v L := owns_lower h hb
theorem Bag.lower {w : World} {b lo : Nat} {v : Value} {ps : Lot} (h : Bag w b v ps) (hb : lo ≤ b) : Bag w lo v ps := ⟨owns_lower h.outer hb, fun x hx => owns_lower (h.row x hx) hb, h.apart, h.away⟩
theorem Bag.rwq' {w : World} {b lo : Nat} {v : Value} {ps : Lot} {L : List (List Int)} (h : Bag w b v ps) (hm : ps.map (·.2) = L) (hb : lo ≤ b) : ∃ a c, v = .slice a L.length c ∧ RwQ w lo a L := by
  have := (h.lower hb).rwq
  rw [hm] at this
  exact this
end Go.Proofs.YtleeedjpccooaaaDoor
namespace Go.Proofs.YtleeedjpccooaaaDoor
open Go.RowKit Go.Shelf
theorem LW.lt {w : World} {lo g c : Nat} {L : List Int} (h : LW w lo g c L) : lo ≤ g ∧ g < w.heap.size := World.ownsRow.lt h g rfl
theorem LW.frozen {w : World} {lo g c : Nat} {L : List Int} (h : LW w lo g c L) (k : Nat) : w.frozen? ⟨g, k, none⟩ = false := World.ownsRow.frozenAt h k
theorem LW.put {w : World} {lo g c : Nat} {L : List Int} (h : LW w lo g c L) (k : Nat) (hk : k < L.length) (z : Int) : LW (w.setCell ⟨g, k, none⟩ (.int .i64 z)) lo g c (L.set k z) := by
  have h1 := (World.ownsRow.stored h k (.int .i64 z)).1
  unfold LW
  rw [List.length_set, List.map_set]
  rw [List.set_append_left _ _ (by simpa using hk)] at h1
  exact h1
/-- A slice of such lists. -/
structure Pile (w : World) (base : Nat) (v : Value) (ps : Lot) : Prop where
  outer : w.ownsRow base 34 1 v ps.length (ps.map (·.1))
  row : ∀ x ∈ ps, ∃ g c, x.1 = .slice (some ⟨g, 0, none⟩) x.2.length c ∧ LW w base g c x.2
  apart : ps.Pairwise fun x y => ∀ g, x.1.ownBlock = some g → y.1.ownBlock ≠ some g
  away : ∀ x ∈ ps, ∀ g, v.ownBlock = some g → x.1.ownBlock ≠ some g
theorem Pile.nil (w : World) (base : Nat) : Pile w base (.slice none 0 0) [] := ⟨World.ownsRow_nil _ _ _ _, by simp, List.Pairwise.nil, by simp⟩
theorem Pile.later {w w' : World} {base : Nat} {v : Value} {ps : Lot} (h : Pile w base v ps) (hb : Below w.heap.size w w') : Pile w' base v ps :=
  ⟨row_later h.outer hb, fun x hx => by obtain ⟨g, c, e, hl⟩ := h.row x hx; exact ⟨g, c, e, hl.past hb⟩, h.apart, h.away⟩
theorem Pile.blk {w : World} {base : Nat} {v : Value} {ps : Lot} (h : Pile w base v ps) {x : Value × List Int} (hx : x ∈ ps) {g : Nat} (hg : x.1.ownBlock = some g) : base ≤ g ∧ g < w.heap.size := by
  obtain ⟨g', c, e, hl⟩ := h.row x hx
  rw [e] at hg
  obtain rfl : g' = g := by simpa [Value.ownBlock] using hg
  exact hl.lt
/-- What only other blocks are written into leaves a pile as it is. -/
theorem Pile.kept {w w' : World} {base : Nat} {v : Value} {ps : Lot} (h : Pile w base v ps) (hb : ∀ k, base ≤ k → k < w.heap.size → w'.heap[k]? = w.heap[k]?) : Pile w' base v ps :=
  ⟨own_blk h.outer (fun k hk => hb k (World.ownsRow.lt h.outer k hk).1 (World.ownsRow.lt h.outer k hk).2), fun x hx => by
    obtain ⟨g, c, e, hl⟩ := h.row x hx
    exact ⟨g, c, e, own_blk hl (fun k hk => hb k (World.ownsRow.lt hl k hk).1 (World.ownsRow.lt hl k hk).2)⟩, h.apart, h.away⟩
/-- One more, made behind the pile. -/
theorem Pile.snoc {W wr w1 : World} {base : Nat} {v v' : Value} {ps : Lot} {l : List Int} {g c : Nat} {o : Obj} {n : Nat} (hn : n = ps.length) (h : Pile W base v ps) (hk : Below W.heap.size W wr) (hx : LW wr W.heap.size g c l) (hbase : base ≤ W.heap.size)
    (hown' : w1.ownsRow base 34 1 v' (n + 1) (ps.map (·.1) ++ [.slice (some ⟨g, 0, none⟩) l.length c])) (hgrow : (wr.alloc o).grownBy w1 v.ownBlock) (hat : v'.ownBlock = v.ownBlock ∨ v'.ownBlock = some (wr.alloc o).heap.size) {w : World} (hb : Below base w W) :
    Pile w1 base v' (ps ++ [(.slice (some ⟨g, 0, none⟩) l.length c, l)]) ∧ Below base w w1 := by
  subst hn
  have h2 := h.later hk
  have hs := hk.size
  have hgl := hx.lt
  have old : ∀ {t : TypeId} {size m : Nat} {u : Value} {xs : List Value} {b : Nat}, wr.ownsRow b t size u m xs → (∀ g, v.ownBlock = some g → u.ownBlock ≠ some g) → w1.ownsRow b t size u m xs := fun {t size m u xs b} hu hne => by
    refine World.ownsRow.kept (World.ownsRow.alloc hu o) hgrow ?_
    cases e : u.ownBlock with
    | none => exact .inl rfl
    | some g => exact .inr fun hc => hne g hc.symm e
  have hxa : ∀ q, v.ownBlock = some q → q ≠ g := fun q hq hqg => by
    have e1 := (World.ownsRow.lt h.outer q hq).2
    omega
  refine ⟨⟨?_, ?_, ?_, ?_⟩, ?_⟩
  · rw [List.length_append, List.map_append]
    exact hown'
  · intro y hy
    rcases List.mem_append.1 hy with hy | hy
    · obtain ⟨g1, c1, e1, hl1⟩ := h2.row y hy
      refine ⟨g1, c1, e1, old hl1 (fun q hq hqg => ?_)⟩
      exact h.away y hy q hq (by rw [e1]; exact hqg)
    · rw [List.mem_singleton] at hy
      subst hy
      exact ⟨g, c, rfl, owns_lower (old hx (fun q hq hqg => hxa q hq (by simpa [Value.ownBlock] using hqg.symm))) hbase⟩
  · rw [List.pairwise_append]
    refine ⟨h.apart, List.pairwise_singleton _ _, ?_⟩
    intro y hy z hz q hq hzq
    rw [List.mem_singleton] at hz
    subst hz
    have e1 := (h.blk hy hq).2
    have e2 : g = q := by simpa [Value.ownBlock] using hzq
    omega
  · intro y hy q hq hyq
    have hyl : y.1.ownBlock = some q → q < wr.heap.size ∧ (y ∈ ps ∨ q = g) := fun e => by
      rcases List.mem_append.1 hy with hy | hy
      · exact ⟨(h2.blk hy e).2, .inl hy⟩
      · rw [List.mem_singleton] at hy
        subst hy
        have e2 : g = q := by simpa [Value.ownBlock] using e
        subst e2
        exact ⟨hgl.2, .inr rfl⟩
    obtain ⟨e1, e2⟩ := hyl hyq
    rcases hat with hat | hat
    · rw [hat] at hq
      rcases e2 with e2 | e2
      · exact h.away y e2 q hq hyq
      · exact hxa q hq e2
    · rw [hat] at hq
      simp at hq
      omega
  · refine ((hb.trans (hk.mono hbase)).alloc ?_ o).grown hgrow ?_ (fun k hk' => (World.ownsRow.lt h.outer k hk').1)
    · omega
    · simp; omega
theorem Pile.cells {w : World} {base : Nat} {v : Value} {ps : Lot} (h : Pile w base v ps) : ∃ a c, v = .slice a ps.length c ∧ (a = none → c = 0) ∧ ∀ j (hj : j < ps.length), ∃ b, a = some ⟨b, 0, none⟩ ∧ v.ownBlock = some b ∧ b < w.heap.size ∧ w.cell? ⟨b, j, none⟩ = some (ps[j]).1 := by
  have h0 := h.outer
  rcases h0.2 with ⟨hv, hn⟩ | ⟨g, cap, cur, hv, _⟩
  · exact ⟨none, 0, by rw [hv, hn], fun _ => rfl, fun j hj => by omega⟩
  · refine ⟨some ⟨g, 0, none⟩, cap, hv, fun e => (by cases e), fun j hj => ⟨g, rfl, by rw [hv]; rfl, ?_, ?_⟩⟩
    · exact (World.ownsRow.lt h0 g (by rw [hv]; rfl)).2
    · rw [hv] at h0
      rw [World.ownsRow.cellAt h0 j (by omega)]
      simp [hj]
theorem Pile.rwa {w : World} {base : Nat} {v : Value} {ps : Lot} (h : Pile w base v ps) : ∃ a c, v = .slice a ps.length c ∧ RwA w a (ps.map (·.2)) := by
  obtain ⟨a, c, hv, _, hc⟩ := h.cells
  refine ⟨a, c, hv, ⟨fun k hk => ?_⟩⟩
  have hk' : k < ps.length := by simpa using hk
  obtain ⟨b, rfl, _, hb, hcell⟩ := hc k hk'
  obtain ⟨g1, c1, e1, hl⟩ := h.row ps[k] (List.getElem_mem hk')
  refine ⟨b, 0, rfl, hb, some ⟨g1, 0, none⟩, c1, ?_, ?_⟩
  · rw [Nat.zero_add, hcell, e1]
    simp
  · simp only [List.getElem_map]
    exact hl.ia
/-- One number of one list written over. -/
theorem Pile.put {w : World} {base : Nat} {v : Value} {ps : Lot} (h : Pile w base v ps) (i : Nat) (hi : i < ps.length) {g c : Nat} (hp : (ps[i]).1 = .slice (some ⟨g, 0, none⟩) (ps[i]).2.length c) (k : Nat) (hk : k < (ps[i]).2.length) (z : Int) :
    ∃ ps', ps'.length = ps.length ∧ ps'.map (fun x => x.2.length) = ps.map (fun x => x.2.length) ∧ ps'.map (·.1) = ps.map (·.1) ∧ Pile (w.setCell ⟨g, k, none⟩ (.int .i64 z)) base v ps' := by
  have hmem : ps[i] ∈ ps := List.getElem_mem hi
  have hbl : (ps[i]).1.ownBlock = some g := by rw [hp]; rfl
  have haw : ∀ g', v.ownBlock = some g' → g' ≠ g := fun g' hg' e => by subst e; exact h.away _ hmem g' hg' hbl
  have keep : ∀ {t : TypeId} {size m : Nat} {u : Value} {xs : List Value}, w.ownsRow base t size u m xs → (∀ g', u.ownBlock = some g' → g' ≠ g) → (w.setCell ⟨g, k, none⟩ (.int .i64 z)).ownsRow base t size u m xs := by
    intro t size m u xs ho hne
    exact own_blk ho (fun q hq => Below.heap_setCell w _ _ q (hne q hq))
  have hmap : (ps.set i ((ps[i]).1, (ps[i]).2.set k z)).map (·.1) = ps.map (·.1) := by
    rw [List.map_set]
    apply List.ext_getElem
    · simp
    · intro j h1 h2
      rw [List.getElem_set]
      split
      · subst_vars; simp
      · rfl
  have hmap2 : (ps.set i ((ps[i]).1, (ps[i]).2.set k z)).map (fun x => x.2.length) = ps.map (fun x => x.2.length) := by
    rw [List.map_set]
    apply List.ext_getElem
    · simp
    · intro j h1 h2
      rw [List.getElem_set]
      split
      · subst_vars; simp
      · rfl
  refine ⟨ps.set i ((ps[i]).1, (ps[i]).2.set k z), by simp, hmap2, hmap, ?_, ?_, ?_, ?_⟩
  · rw [hmap, List.length_set]
    exact keep h.outer haw
  · intro x hx
    obtain ⟨j, hj, rfl⟩ := List.getElem_of_mem hx
    have hj2 : j < ps.length := by simpa using hj
    rw [List.getElem_set]
    split
    · obtain ⟨g1, c1, e1, hl⟩ := h.row _ hmem
      rw [hp] at e1
      simp only [Value.slice.injEq, Option.some.injEq, Addr.mk.injEq, and_true, true_and] at e1
      obtain ⟨rfl, rfl⟩ := e1
      exact ⟨g, c, by simp only [List.length_set]; exact hp, hl.put k hk z⟩
    · rename_i hne
      obtain ⟨g1, c1, e1, hl⟩ := h.row _ (List.getElem_mem hj2)
      refine ⟨g1, c1, e1, keep hl ?_⟩
      intro g' hg' e
      subst e
      have e2 : g1 = g' := by simpa [Value.ownBlock] using hg'
      subst e2
      have hbj : (ps[j]).1.ownBlock = some g1 := by rw [e1]; rfl
      have := List.pairwise_iff_getElem.1 h.apart
      rcases Nat.lt_or_gt_of_ne hne with hlt | hlt
      · exact this i j hi hj2 hlt g1 hbl hbj
      · exact this j i hj2 hi hlt g1 hbj hbl
  · have hpr : ∀ (qs : Lot), qs.Pairwise (fun x y => ∀ g, x.1.ownBlock = some g → y.1.ownBlock ≠ some g) ↔ (qs.map (·.1)).Pairwise (fun x y => ∀ g, x.ownBlock = some g → y.ownBlock ≠ some g) := fun qs => by rw [List.pairwise_map]
    rw [hpr, hmap, ← hpr]
    exact h.apart
  · intro x hx g' hg'
    have hx1 : x.1 ∈ ps.map (·.1) := by rw [← hmap]; exact List.mem_map_of_mem hx
    obtain ⟨y, hy, hye⟩ := List.mem_map.1 hx1
    rw [← hye]
    exact h.away y hy g' hg'
end Go.Proofs.YtleeedjpccooaaaDoor
namespace Go.Proofs.YtleeedjpccooaaaDoor
open Go.RowKit
section
variable {P : Program} {ops : Array Oper} {Q : Exit → Act → World → Prop} {md : Region.Mode} {S : World → Prop}
/-- An operation that yields a value is taken first. -/
theorem tkV {i : Nat} {oi : Oper} {d : Option Tmp} {v : Value} {fuel : Nat} {listed : Array Bool} {a : Act} {w : World} (hi : ops[i]? = some oi)
    (hs : Region.noSelect ops = true) (hf : Region.free md ops listed i = true) (hr : (Region.ready md ops listed).contains i = true) (hd : oi.dst = d)
    (hQ : ∀ c a w, Q (.panic c) (a.put d v) w → Q (.panic c) a w) (hw : Region.wanted oi (yielded ops a.tmps) = true) (hv : ∀ w, S w → (execOp a.eval oi).run P w = .ok (.value v) w) (hS : S w)
    (h : wpAnyH P md ops Q S fuel (listed.setIfInBounds i true) (a.put d v) w) : wpAnyH P md ops Q S (fuel + 1) listed a w := by
  subst hd
  exact wpAnyH_take hi hs hf hr hQ (.inl ⟨hw, hv⟩) hS h
/-- One that is not wanted. -/
theorem tkU {i : Nat} {oi : Oper} {d : Option Tmp} {fuel : Nat} {listed : Array Bool} {a : Act} {w : World} (hi : ops[i]? = some oi)
    (hs : Region.noSelect ops = true) (hf : Region.free md ops listed i = true) (hr : (Region.ready md ops listed).contains i = true) (hd : oi.dst = d)
    (hQ : ∀ c a w, Q (.panic c) (a.put d undef) w → Q (.panic c) a w) (hw : Region.wanted oi (yielded ops a.tmps) = false) (hS : S w)
    (h : wpAnyH P md ops Q S fuel (listed.setIfInBounds i true) (a.put d undef) w) : wpAnyH P md ops Q S (fuel + 1) listed a w := by
  subst hd
  exact wpAnyH_take hi hs hf hr hQ (.inr ⟨hw, rfl⟩) hS h
end
end Go.Proofs.YtleeedjpccooaaaDoor
namespace Go.Proofs.YtleeedjpccooaaaDoor
open Go.RowKit Go.Shelf
theorem frz5 {W : World} {X : Nat} {t : TypeId} {a b c d e : Value} (h : W.heap[X]? = some (.cells #[a, b, c, d, e] t (0, 0))) : W.frozen? ⟨X, 0, none⟩ = false ∧ W.frozen? ⟨X, 1, none⟩ = false ∧ W.frozen? ⟨X, 2, none⟩ = false ∧ W.frozen? ⟨X, 3, none⟩ = false ∧ W.frozen? ⟨X, 4, none⟩ = false :=
  ⟨by simp [World.frozen?, h], by simp [World.frozen?, h], by simp [World.frozen?, h], by simp [World.frozen?, h], by simp [World.frozen?, h]⟩
def set5 (W : World) (X : Nat) (a b c d e : Value) : World := ((((W.setCell ⟨X, 0, none⟩ a).setCell ⟨X, 1, none⟩ b).setCell ⟨X, 2, none⟩ c).setCell ⟨X, 3, none⟩ d).setCell ⟨X, 4, none⟩ e
theorem set5_row {W : World} {X : Nat} {t : TypeId} {a0 b0 c0 d0 e0 : Value} (h : W.heap[X]? = some (.cells #[a0, b0, c0, d0, e0] t (0, 0))) (a b c d e : Value) : (set5 W X a b c d e).heap[X]? = some (.cells #[a, b, c, d, e] t (0, 0)) := by
  unfold set5
  exact heap_setCell_same _ _ 4 _ _ e (heap_setCell_same _ _ 3 _ _ d (heap_setCell_same _ _ 2 _ _ c (heap_setCell_same _ _ 1 _ _ b (heap_setCell_same _ _ 0 _ _ a h))))
theorem set5_below {B : Nat} {w W : World} {X : Nat} (h : Below B w W) (hX : B ≤ X) (a b c d e : Value) : Below B w (set5 W X a b c d e) := by
  unfold set5
  exact ((((h.setCell (p := ⟨X, 0, none⟩) hX a).setCell (p := ⟨X, 1, none⟩) hX b).setCell (p := ⟨X, 2, none⟩) hX c).setCell (p := ⟨X, 3, none⟩) hX d).setCell (p := ⟨X, 4, none⟩) hX e
theorem set5_other {W : World} {X k : Nat} (hk : k ≠ X) (a b c d e : Value) : (set5 W X a b c d e).heap[k]? = W.heap[k]? := by
  unfold set5
  rw [Below.heap_setCell _ _ _ k hk, Below.heap_setCell _ _ _ k hk, Below.heap_setCell _ _ _ k hk, Below.heap_setCell _ _ _ k hk, Below.heap_setCell _ _ _ k hk]
theorem set5_size (W : World) (X : Nat) (a b c d e : Value) : (set5 W X a b c d e).heap.size = W.heap.size := by unfold set5; simp
/-- A variable of positions is written; what lies elsewhere stays. -/
theorem set5_keep {W : World} {X lo : Nat} {aL aF aA aO : Option Addr} {Le Fo : List (List Int)} {Fi La : List Int} (h : PosQ W lo aL aF aA aO Le Fo Fi La) (hX : X < lo) (a b c d e : Value) : PosQ (set5 W X a b c d e) lo aL aF aA aO Le Fo Fi La :=
  h.keep (by rw [set5_size]; exact Nat.le_refl _) (fun k hk _ => set5_other (by omega) a b c d e)
theorem PosQ.lower {w : World} {b lo : Nat} {aL aF aA aO : Option Addr} {Le Fo : List (List Int)} {Fi La : List Int} (h : PosQ w b aL aF aA aO Le Fo Fi La) (hb : lo ≤ b) : PosQ w lo aL aF aA aO Le Fo Fi La := by
  have hi : ∀ (a : Option Addr) (L : List Int), IQ w b a L → IQ w lo a L := fun a L h => ⟨fun k hk => by
    obtain ⟨b1, off, e, h0, h1, h2⟩ := h.at' k hk
    exact ⟨b1, off, e, by omega, h1, h2⟩⟩
  have hr : ∀ (a : Option Addr) (L : List (List Int)), RwQ w b a L → RwQ w lo a L := fun a L h => ⟨fun k hk => by
    obtain ⟨b1, off, e, h0, h1, a1, c1, h2, h3⟩ := h.at' k hk
    exact ⟨b1, off, e, by omega, h1, a1, c1, h2, hi _ _ h3⟩⟩
  exact ⟨hr _ _ h.le, hi _ _ h.fi, hi _ _ h.la, hr _ _ h.fo⟩
end Go.Proofs.YtleeedjpccooaaaDoor
namespace Go.Proofs.YtleeedjpccooaaaDoor
open Go.RowKit Go.Shelf
theorem app_nilI (w : World) (ty : TypeId) : (Builtin.append_ #[34, 34] ty #[.slice none 0 0, .slice none 0 0]).run Tryd.prog w = .ok (.slice none 0 0) w := by
  go_simp
theorem wpList_spreadI {ops : Array Oper} {rest : List Oper} {op : Oper} {a : Act} {w : World} {Q : Exit → Act → World → Prop} (hgd : op.guard = none) (s x : Operand) (ho : op.op = .call { callee := .builtin .append, args := #[s, x], argTypes := #[34, 34] })
    (aN : Option Addr) (L : List Int) (cN base : Nat) (hs : a.eval s = .slice none 0 0) (hx : a.eval x = .slice aN L.length cN) (hnil : aN = none → cN = 0) (ha : IA w aN L) (hl : L.length ≤ 17592186044416) (hb : base ≤ w.heap.size)
    (h : ∀ v' w', OwnI w' base v' L → w.grownBy w' none → wpList Tryd.prog ops Q rest (a.put op.dst v') w') : wpList Tryd.prog ops Q (op :: rest) a w := by
  obtain ⟨i0, hi, hz0, hz1, hz2⟩ := info_parts infoInt
  cases aN with
  | none =>
    have hL : L = [] := by
      cases L with
      | nil => rfl
      | cons y r => obtain ⟨b, off, e, _⟩ := ha.at' 0 (by simp); cases e
    subst hL
    have hc := hnil rfl
    subst hc
    refine wpList_plain hgd fun K hK => ?_
    have hr := app_nilI w op.type
    unfold Oper.wp execOp
    simp only [ho, resolve, invoke, builtin, Sem.run_bind, Sem.run_pure, Result.andThen_ok, List.map_toArray, List.map_cons, List.map_nil, hs, hx, List.length_nil, hr]
    exact hK _ _ (h _ _ (World.ownsRow_nil _ _ _ _) ⟨rfl, rfl, rfl, Nat.le_refl _, fun _ _ _ => rfl⟩)
  | some ad =>
    refine wpList_append_own _ hgd s x 34 ho base 3 i0 (.int .i64 0) 1 8 Tryd.underlying34 hi hz0 hz1 hz2 rfl (by decide) (.slice none 0 0) 0 [] hs (World.ownsRow_nil _ _ _ _) ad L.length cN (L.map (Value.int .i64)) hx (by simp) (fun j u hu => ?_) (fun u hu => by obtain ⟨y, _, rfl⟩ := List.mem_map.1 hu; rfl) (by unfold maxLen; omega) (by omega) hb (fun v' w' h1 h2 _ => h v' w' (by rw [Nat.zero_add] at h1; exact h1) h2)
    have hj : j < L.length := by have := (List.getElem?_eq_some_iff.1 hu).1; simpa using this
    obtain ⟨b, off, e, h1, h2⟩ := ha.at' j hj
    cases e
    rw [Addr.add_mid, h2]
    have : (L.map (Value.int .i64))[j]? = some (.int .i64 L[j]) := by simp [hj]
    rw [this] at hu
    exact hu
/-- Lists that are handed in: those without memory have no room. -/
structure RwN (w : World) (a : Option Addr) (L : List (List Int)) : Prop where
  at' : ∀ k (h : k < L.length), ∃ b off, a = some ⟨b, off, none⟩ ∧ b < w.heap.size ∧ ∃ a1 c1, w.cell? ⟨b, off + k, none⟩ = some (.slice a1 (L[k]).length c1) ∧ IA w a1 L[k] ∧ (a1 = none → c1 = 0)
theorem RwN.rwa {w : World} {a : Option Addr} {L : List (List Int)} (h : RwN w a L) : RwA w a L := ⟨fun k hk => by
  obtain ⟨b, off, e, h1, a1, c1, h2, h3, _⟩ := h.at' k hk
  exact ⟨b, off, e, h1, a1, c1, h2, h3⟩⟩
theorem RwN.past {w w' : World} {a : Option Addr} {L : List (List Int)} (h : RwN w a L) (hb : Below w.heap.size w w') : RwN w' a L := ⟨fun k hk => by
  obtain ⟨b, off, rfl, h1, a1, c1, h2, h3, h4⟩ := h.at' k hk
  exact ⟨b, off, rfl, Nat.lt_of_lt_of_le h1 hb.size, a1, c1, (hb.cell (p := ⟨b, off + k, none⟩) h1).trans h2, h3.past hb, h4⟩⟩
end Go.Proofs.YtleeedjpccooaaaDoor
namespace Go.Proofs.YtleeedjpccooaaaDoor
open Go.RowKit Go.Shelf
/-- One more element behind the lists, that is none of them. -/
theorem Pile.tail {W wr w1 : World} {base g c n : Nat} {v x : Value} {ps : Lot} (hn : n = ps.length) (h : Pile W base v ps) (hk : Below W.heap.size W wr) (hbase : base ≤ W.heap.size)
    (hown' : w1.ownsRow base 34 1 (.slice (some ⟨g, 0, none⟩) (n + 1) c) (n + 1) (ps.map (·.1) ++ [x])) (hgrow : wr.grownBy w1 v.ownBlock) (hat : some g = v.ownBlock ∨ W.heap.size ≤ g) {w : World} (hb : Below base w W) :
    Pile w1 base (.slice (some ⟨g, 0, none⟩) n c) ps ∧ n + 1 ≤ c ∧ w1.cell? ⟨g, n, none⟩ = some x ∧ Below base w w1 := by
  subst hn
  have h2 := h.later hk
  have hs := hk.size
  have hrows : ∀ y ∈ ps, ∃ g1 c1, y.1 = .slice (some ⟨g1, 0, none⟩) y.2.length c1 ∧ LW w1 base g1 c1 y.2 := fun y hy => by
    obtain ⟨g1, c1, e1, hl1⟩ := h2.row y hy
    refine ⟨g1, c1, e1, World.ownsRow.kept hl1 hgrow ?_⟩
    right
    intro hc
    exact h.away y hy g1 hc.symm (by rw [e1]; rfl)
  refine ⟨⟨?_, hrows, h.apart, ?_⟩, ?_, ?_, ?_⟩
  · rcases hown'.2 with ⟨e, _⟩ | ⟨g', cap, cur, e, q1, q2, q3, q4, q5, q6⟩
    · cases e
    · cases e
      refine ⟨by simp, .inr ⟨g, c, cur, rfl, q1, q2, by omega, q4, q5, ?_⟩⟩
      have e2 : cur.toList.take (ps.length * 1) = (cur.toList.take ((ps.length + 1) * 1)).take (ps.length * 1) := by rw [List.take_take]; congr 1; omega
      rw [e2, q6, Nat.mul_one, List.take_append_of_le_length (by simp), List.take_of_length_le (by simp)]
  · intro y hy q hq hyq
    have e : g = q := by simpa [Value.ownBlock] using hq
    subst e
    rcases hat with hat | hat
    · exact h.away y hy g hat.symm hyq
    · have := (h.blk hy hyq).2; omega
  · rcases hown'.2 with ⟨e, _⟩ | ⟨g', cap, cur, e, _, _, q3, _⟩
    · cases e
    · cases e; exact q3
  · rw [World.ownsRow.cellAt hown' ps.length (by omega), List.getElem?_append_right (by simp)]
    simp
  · exact ((hb.trans (hk.mono hbase))).grown hgrow (by omega) (fun k hk' => (World.ownsRow.lt h.outer k hk').1)
/-- What Rows leaves: lists, and a row of marks behind them. -/
def RowsR (w : World) (L : List (List Int)) (r : Ending) (w' : World) : Prop := ∃ g c, r = .returned (.slice (some ⟨g, 0, none⟩) L.length c) ∧ ∃ gm ps, Pile w' w.heap.size (.slice (some ⟨g, 0, none⟩) L.length c) ps ∧ ps.map (·.2) = L ∧ L.length + 1 ≤ c ∧ w'.cell? ⟨g, L.length, none⟩ = some (.slice (some ⟨gm, 0, none⟩) 1 1) ∧ w'.cell? ⟨gm, 0, none⟩ = some (.int .i64 (-77)) ∧ Below w.heap.size w w' ∧ w.heap.size ≤ gm
end Go.Proofs.YtleeedjpccooaaaDoor
namespace Go.Proofs.YtleeedjpccooaaaDoor
open Go.RowKit Go.Shelf
/-- A word of bits of which those are set that f tells, from 64 * i on. -/
def wordOf (f : Nat → Bool) (i : Nat) : Nat := (List.range 64).foldr (fun k n => n ||| (if f (64 * i + k) then 2 ^ k else 0)) 0
theorem wordOf_bit (f : Nat → Bool) (i k : Nat) : (wordOf f i).testBit k = (decide (k < 64) && f (64 * i + k)) := by
  have key : ∀ (l : List Nat), (l.foldr (fun k n => n ||| (if f (64 * i + k) then 2 ^ k else 0)) 0).testBit k = (decide (k ∈ l) && f (64 * i + k)) := by
    intro l
    induction l with
    | nil => simp
    | cons a r ih =>
      rw [List.foldr_cons, Nat.testBit_or, ih]
      by_cases ha : k = a
      · subst ha
        cases hf : f (64 * i + k) <;> simp [Nat.testBit_two_pow_self]
      · cases hf : f (64 * i + a)
        · simp [ha]
        · simp [ha, Nat.testBit_two_pow_of_ne (fun h => ha h.symm)]
  rw [wordOf, key]
  simp
theorem wordOf_lt (f : Nat → Bool) (i : Nat) : wordOf f i < 2 ^ 64 := by
  apply Nat.lt_pow_two_of_testBit
  intro k hk
  rw [wordOf_bit]
  simp; omega
theorem word_and (f : Nat → Bool) (p : Nat) : (wordOf f (p / 64) &&& 2 ^ (p % 64) = 0) ↔ f p = false := by
  have hp : 64 * (p / 64) + p % 64 = p := by omega
  have hb := wordOf_bit f (p / 64) (p % 64)
  rw [hp, decide_eq_true (Nat.mod_lt p (by omega)), Bool.true_and] at hb
  constructor
  · intro h
    have h1 := congrArg (fun n => n.testBit (p % 64)) h
    simp only [Nat.testBit_and, Nat.testBit_two_pow_self, Nat.zero_testBit, Bool.and_true] at h1
    rw [← hb, h1]
  · intro h
    apply Nat.eq_of_testBit_eq
    intro k
    rw [Nat.testBit_and, Nat.zero_testBit]
    by_cases hk : k = p % 64
    · subst hk; rw [hb, h]; rfl
    · rw [Nat.testBit_two_pow_of_ne (fun e => hk e.symm), Bool.and_false]
theorem word_or (f : Nat → Bool) (p : Nat) : wordOf f (p / 64) ||| 2 ^ (p % 64) = wordOf (fun q => decide (q = p) || f q) (p / 64) := by
  apply Nat.eq_of_testBit_eq
  intro k
  rw [Nat.testBit_or, wordOf_bit, wordOf_bit]
  by_cases hk : k = p % 64
  · subst hk
    have hp : 64 * (p / 64) + p % 64 = p := by omega
    rw [hp, Nat.testBit_two_pow_self]
    simp; omega
  · rw [Nat.testBit_two_pow_of_ne (fun e => hk e.symm), Bool.or_false]
    by_cases hl : k < 64
    · have : ¬ 64 * (p / 64) + k = p := by omega
      simp [this]
    · simp [hl]
theorem word_other (f : Nat → Bool) (p i : Nat) (h : ¬ i = p / 64) : wordOf (fun q => decide (q = p) || f q) i = wordOf f i := by
  apply Nat.eq_of_testBit_eq
  intro k
  rw [wordOf_bit, wordOf_bit]
  by_cases hl : k < 64
  · have : ¬ 64 * i + k = p := by omega
    simp [this]
  · simp [hl]
/-- A set of places in m blocks. -/
structure BS (w : World) (g m : Nat) (f : Nat → Bool) : Prop where
  row : ∃ cur, w.heap[g]? = some (.cells cur 149 (0, 0)) ∧ ∀ i, i < 8 * m → cur[i]? = some (.int .u64 (wordOf f i : Int))
  out : ∀ q, 512 * m ≤ q → f q = false
theorem BS.cell {w : World} {g m : Nat} {f : Nat → Bool} (h : BS w g m f) (i : Nat) (hi : i < 8 * m) : w.cell? ⟨g, i, none⟩ = some (.int .u64 (wordOf f i : Int)) ∧ w.frozen? ⟨g, i, none⟩ = false := by
  obtain ⟨cur, h1, h2⟩ := h.row
  exact ⟨by rw [cell_of_row _ g _ _ _ _ h1]; exact h2 i hi, by simp [World.frozen?, h1]⟩
theorem BS.lt {w : World} {g m : Nat} {f : Nat → Bool} (h : BS w g m f) : g < w.heap.size := by
  obtain ⟨cur, h1, _⟩ := h.row
  exact (Array.getElem?_eq_some_iff.1 h1).1
theorem BS.kept {w w' : World} {g m : Nat} {f : Nat → Bool} (h : BS w g m f) (hk : w'.heap[g]? = w.heap[g]?) : BS w' g m f := by
  obtain ⟨cur, h1, h2⟩ := h.row
  exact ⟨⟨cur, hk.trans h1, h2⟩, h.out⟩
theorem BS.set {w : World} {g m : Nat} {f : Nat → Bool} (h : BS w g m f) (p : Nat) (hp : p < 512 * m) : BS (w.setCell ⟨g, p / 64, none⟩ (.int .u64 (wordOf (fun q => decide (q = p) || f q) (p / 64) : Int))) g m (fun q => decide (q = p) || f q) := by
  obtain ⟨cur, h1, h2⟩ := h.row
  refine ⟨⟨_, heap_setCell_same w g (p / 64) _ _ _ h1, fun i hi => ?_⟩, fun q hq => ?_⟩
  · by_cases e : i = p / 64
    · subst e
      have : p / 64 < cur.size := (Array.getElem?_eq_some_iff.1 (h2 _ hi)).1
      simp [this]
    · rw [Array.getElem?_setIfInBounds_ne (fun e' => e e'.symm), h2 i hi, word_other f p i e]
  · have : ¬ q = p := by omega
    simp [this, h.out q hq]
set_option maxRecDepth 10000 in
set_option maxHeartbeats 1600000 in
theorem add_any (A o g m : Nat) (f : Nat → Bool) (p : Nat) (w : World) (hp : p < 512 * m) (hm : m ≤ 1000000) (hs : w.cell? ⟨A, o, none⟩ = some (.slice (some ⟨g, 0, none⟩) m m)) (h : BS w g m f) :
    Calls Tryd.prog 92 #[.pointer (some ⟨A, o, none⟩), .int .i64 (p : Int)] w fun e w' => e = .returned (.tuple #[]) ∧ BS w' g m (fun q => decide (q = p) || f q) ∧ Only w w' (fun k => k = g) := by
  obtain ⟨d, hd⟩ : ∃ d : Nat, d = p / 512 := ⟨_, rfl⟩
  obtain ⟨r, hr⟩ : ∃ r : Nat, r = p % 512 := ⟨_, rfl⟩
  obtain ⟨e, he⟩ : ∃ e : Nat, e = r / 64 := ⟨_, rfl⟩
  obtain ⟨b, hb⟩ : ∃ b : Nat, b = 2 ^ (p % 64) := ⟨_, rfl⟩
  have hde : d * 8 + e = p / 64 := by omega
  obtain ⟨k0, k1⟩ := h.cell (p / 64) (by omega)
  have hp0 : (0 : Int) ≤ (p : Int) := by omega
  have hdI : (p : Int) / 512 = (d : Int) := by omega
  have hrI : (p : Int) % 512 = (r : Int) := by omega
  have heI' : (r : Int) / 64 = (e : Int) := by omega
  have hr0 : (0 : Int) ≤ (r : Int) := by omega
  have hdI1 : (d : Int) < (m : Int) := by omega
  have hdI0 : (0 : Int) ≤ (d : Int) := by omega
  have hdI2 : (d : Int) + 1 ≤ (m : Int) := by omega
  have heI1 : (e : Int) < 8 := by omega
  have heI0 : (0 : Int) ≤ (e : Int) := by omega
  have hmI : (0 : Int) ≤ (p : Int) % 64 := by omega
  have hmI2 : (p : Int) % 64 < 64 := by omega
  have hbl : b < 18446744073709551616 := by
    rw [hb]; exact Nat.lt_of_lt_of_le (Nat.pow_lt_pow_right (by omega) (Nat.mod_lt p (by omega) : p % 64 < 64)) (by decide)
  have hwb : IntKind.u64.wrap (2 ^ (p % 64)) = (b : Int) := by
    rw [hb, IntKind.wrap_u64]
    have e : (2 : Int) ^ (p % 64) = ((2 ^ (p % 64) : Nat) : Int) := by simp
    rw [e]
    rw [hb] at hbl
    omega
  obtain ⟨a, ha⟩ : ∃ a : Nat, a = wordOf f (p / 64) := ⟨_, rfl⟩
  rw [← ha] at k0
  obtain ⟨aI, haI⟩ : ∃ aI : Int, (a : Int) = aI := ⟨_, rfl⟩
  obtain ⟨bI, hbI⟩ : ∃ bI : Int, (b : Int) = bI := ⟨_, rfl⟩
  have hal : a < 18446744073709551616 := by rw [ha]; exact wordOf_lt _ _
  obtain ⟨eI, heI⟩ : ∃ eI : Int, ((a ||| b : Nat) : Int) = eI := ⟨_, rfl⟩
  have hor : bits .or .u64 aI bI = eI := by rw [← haI, ← hbI, ← heI]; exact bits_or_u64_nat a b hal hbl
  have hs2 := word_or f p
  rw [← ha, ← hb] at hs2
  have hBS := h.set p hp
  rw [← hs2, heI, ← hde] at hBS
  have HBS : Hid (∀ n, BS ((w.drewN n).setCell ⟨g, d * 8 + e, none⟩ (.int .u64 eI)) g m (fun q => decide (q = p) || f q)) := hid0 (fun n => ⟨hBS.row, hBS.out⟩)
  have HO : Hid (∀ n, Only w ((w.drewN n).setCell ⟨g, d * 8 + e, none⟩ (.int .u64 eI)) (fun k => k = g)) := hid0 (fun n => (Only.drewN w n _).trans (Only.setCell _ g _ _) (fun i hi => .inl hi))
  rw [haI, ← hde] at k0
  rw [← hde] at k1
  rw [hbI] at hwb
  clear hb hd hr he hde hp ha hbl haI hbI heI hal hs2 hBS h
  go_enter Tryd.func92, Tryd.ntmps92
  go_wp2
  go_region
  go_wp2
  go_end0
  exact ⟨rfl, HBS.out _, HO.out _⟩
end Go.Proofs.YtleeedjpccooaaaDoor
