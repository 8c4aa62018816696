/-
  MrM, SentW, MrBW, PrOW, PrPM, PrPW, PrM, PrNM, ShelfQ, PrAW, MrCW, MrDW, MrGW, MrFW, MrHW.
-/
import Derived.Test.YtilnanefkbdbkaaDoorProg
import Derived.WalkKit
import Derived.WalkSpells
import Derived.WalkLawsBesides
import Derived.Deep.QuietTactic
import Derived.BigQuiet
import Derived.LaidEql
import Derived.KernelRfl
import Derived.Handy
import Derived.Maps.AppendAt
import Derived.Shelf.Abstract
import Derived.Lib.SlicesS
import Derived.Deep.DeepAppendRoom
import Derived.Deep.AppendLies
import Derived.Deep.RegionHeld3
import Derived.Lib.SmallJoins
import Derived.BigRegion
import Derived.Shelf.Slices.SearchI
import Derived.Shelf.Slices.Empties
import Derived.Ground.Names2Prog
import Derived.Laws.MakeOwn
namespace Go.Proofs.YtilnanefkbdbkaaDoor
/-- Is it one of so many? -/
def oneOf (n : Nat) (z : Int) : Bool := decide (0 ≤ z) && decide (z < (n : Int))
/-- Does a list rise, from lo on to below cnt? -/
def riseF (cnt : Int) : Int → List Int → Bool
  | _, [] => true
  | lo, z :: l => decide (lo ≤ z) && decide (z < cnt) && riseF cnt (z + 1) l
def rowF (n : Nat) (sy pa : Int) (r o : List Int) : Bool := decide ((r.length : Int) = sy) && r.all (oneOf n) && riseF pa 0 o
/-- May a machine be? -/
def chkF (st : Int) (N O : List (List Int)) (sy pa : Int) : Bool :=
  decide (1 ≤ sy ∧ sy ≤ 16384 ∧ 0 ≤ pa ∧ 1 ≤ N.length ∧ N.length ≤ 16384 ∧ O.length = N.length ∧ (N.length : Int) * sy ≤ 4194304) && oneOf N.length st && (List.range N.length).all fun j => rowF N.length sy pa (N.getD j []) (O.getD j [])
/-- The state to which a symbol leads. -/
def stepF (N : List (List Int)) (s : Nat) (z : Int) : Option Nat :=
  if 0 ≤ z ∧ z < ((N.getD s []).length : Int) then (if oneOf N.length ((N.getD s []).getD z.toNat 0) then some ((N.getD s []).getD z.toNat 0).toNat else none) else none
def goF (N : List (List Int)) : List Int → Nat → List Int → Option (List Int)
  | acc, _, [] => some acc
  | acc, s, z :: l => match stepF N s z with | none => none | some t => goF N (acc ++ [(t : Int)]) t l
/-- The states of a run; none: it is refused. -/
def runF (N : List (List Int)) (st : Int) (l : List Int) : Option (List Int) := if oneOf N.length st then goF N [st] st.toNat l else none
theorem oneOf_iff (n : Nat) (z : Int) : oneOf n z = true ↔ 0 ≤ z ∧ z < (n : Int) := by unfold oneOf; simp
theorem oneOf_not (n : Nat) (z : Int) : oneOf n z = false ↔ ¬ (0 ≤ z ∧ z < (n : Int)) := by rw [← oneOf_iff]; simp
theorem goF_len (N : List (List Int)) : ∀ (l acc : List Int) (s : Nat) (r : List Int), goF N acc s l = some r → r.length = acc.length + l.length := by
  intro l
  induction l with
  | nil => intro acc s r h; rw [goF] at h; cases h; simp
  | cons z l ih =>
    intro acc s r h
    rw [goF] at h
    split at h
    · cases h
    · have := ih _ _ _ h
      simp at this ⊢
      omega
theorem runF_len {N : List (List Int)} {st : Int} {l r : List Int} (h : runF N st l = some r) : r.length = l.length + 1 := by
  unfold runF at h
  split at h
  · have := goF_len N _ _ _ _ h
    simp at this
    omega
  · cases h
theorem goF_drop {N : List (List Int)} {acc l : List Int} {s k : Nat} (hk : k < l.length) : goF N acc s (l.drop k) = match stepF N s l[k] with | none => none | some t => goF N (acc ++ [(t : Int)]) t (l.drop (k + 1)) := by
  rw [List.drop_eq_getElem_cons hk, goF]
theorem riseF_drop {cnt lo : Int} {l : List Int} {k : Nat} (hk : k < l.length) : riseF cnt lo (l.drop k) = (decide (lo ≤ l[k]) && decide (l[k] < cnt) && riseF cnt (l[k] + 1) (l.drop (k + 1))) := by
  rw [List.drop_eq_getElem_cons hk, riseF]
theorem riseF_end {cnt lo : Int} {l : List Int} {k : Nat} (hk : l.length ≤ k) : riseF cnt lo (l.drop k) = true := by
  rw [List.drop_of_length_le hk, riseF]
theorem all_drop {n : Nat} {l : List Int} {k : Nat} (hk : k < l.length) : (l.drop k).all (oneOf n) = (oneOf n l[k] && (l.drop (k + 1)).all (oneOf n)) := by
  rw [List.drop_eq_getElem_cons hk, List.all_cons]
theorem all_end {n : Nat} {l : List Int} {k : Nat} (hk : l.length ≤ k) : (l.drop k).all (oneOf n) = true := by
  rw [List.drop_of_length_le hk, List.all_nil]
/-- Rows that were looked at, and one more. -/
theorem range_snoc {p : Nat → Bool} {k : Nat} (h : (List.range k).all p = true) (hk : p k = true) : (List.range (k + 1)).all p = true := by
  rw [List.range_succ, List.all_append, h, List.all_cons, hk]; rfl
theorem range_bad {p : Nat → Bool} {k n : Nat} (hk : k < n) (h : p k = false) : (List.range n).all p = false := by
  rw [List.all_eq_false]
  exact ⟨k, List.mem_range.2 hk, by simp [h]⟩
end Go.Proofs.YtilnanefkbdbkaaDoor
namespace Go.Proofs.YtilnanefkbdbkaaDoor
open Go.RowKit
theorem hid1 {p : Prop} (h : p) : Hid p := h
/-- The eleven refusals: each variable's cell, each its own object. -/
structure Sents (w : World) (A : Nat → Addr) : Prop where
  c0 : w.cell? ⟨0, 0, none⟩ = some (.iface 71 (.pointer (some (A 0))))
  c1 : w.cell? ⟨1, 0, none⟩ = some (.iface 71 (.pointer (some (A 1))))
  c2 : w.cell? ⟨2, 0, none⟩ = some (.iface 71 (.pointer (some (A 2))))
  c3 : w.cell? ⟨3, 0, none⟩ = some (.iface 71 (.pointer (some (A 3))))
  c4 : w.cell? ⟨4, 0, none⟩ = some (.iface 71 (.pointer (some (A 4))))
  c5 : w.cell? ⟨6, 0, none⟩ = some (.iface 71 (.pointer (some (A 5))))
  c6 : w.cell? ⟨5, 0, none⟩ = some (.iface 71 (.pointer (some (A 6))))
  c7 : w.cell? ⟨7, 0, none⟩ = some (.iface 71 (.pointer (some (A 7))))
  c8 : w.cell? ⟨8, 0, none⟩ = some (.iface 71 (.pointer (some (A 8))))
  c9 : w.cell? ⟨9, 0, none⟩ = some (.iface 71 (.pointer (some (A 9))))
  c10 : w.cell? ⟨10, 0, none⟩ = some (.iface 71 (.pointer (some (A 10))))
  ne : ∀ i j, i < 11 → j < 11 → i ≠ j → A i ≠ A j
  blk : ∀ i, i < 11 → ∃ c t, w.heap[(A i).block]? = some (.cells c t (0, 0))
theorem compErr : (Tryd.prog.info? 71).map (·.comparable) = some true := by kernel_rfl
theorem sizeErr : (Tryd.prog.info? 89).map (·.size) = some 1 := by kernel_rfl
theorem Sents.eql {w : World} {A : Nat → Addr} (h : Sents w A) (i j : Nat) (hi : i < 11) (hj : j < 11) :
    (binOp .eql 34 (.iface 71 (.pointer (some (A i)))) (.iface 71 (.pointer (some (A j))))).run Tryd.prog w = .ok (.bool (decide (i = j))) w := by
  obtain ⟨ti, h1, h2⟩ := Option.map_eq_some_iff.1 compErr
  obtain ⟨tj, h3, h4⟩ := Option.map_eq_some_iff.1 sizeErr
  by_cases e : i = j
  · subst e
    rw [run_eql_iface_ptr_same w (A i) Tryd.underlying34 Tryd.underlying71 h1 h2 h3]
    simp
  · obtain ⟨ca, ta, ha⟩ := h.blk i hi
    obtain ⟨cb, tb, hb⟩ := h.blk j hj
    rw [run_eql_iface_ptr_other w Tryd.underlying34 Tryd.underlying71 h1 h2 h3 (by rw [h4]; decide) (h.ne i j hi hj e) ha hb]
    simp [e]
theorem Sents.below {w w' : World} {A : Nat → Addr} (h : Sents w A) (hb : Below w.heap.size w w') : Sents w' A where
  c0 := (hb.cell (p := ⟨0, 0, none⟩) (World.block_lt_of_cell? w _ h.c0)).trans h.c0
  c1 := (hb.cell (p := ⟨1, 0, none⟩) (World.block_lt_of_cell? w _ h.c1)).trans h.c1
  c2 := (hb.cell (p := ⟨2, 0, none⟩) (World.block_lt_of_cell? w _ h.c2)).trans h.c2
  c3 := (hb.cell (p := ⟨3, 0, none⟩) (World.block_lt_of_cell? w _ h.c3)).trans h.c3
  c4 := (hb.cell (p := ⟨4, 0, none⟩) (World.block_lt_of_cell? w _ h.c4)).trans h.c4
  c5 := (hb.cell (p := ⟨6, 0, none⟩) (World.block_lt_of_cell? w _ h.c5)).trans h.c5
  c6 := (hb.cell (p := ⟨5, 0, none⟩) (World.block_lt_of_cell? w _ h.c6)).trans h.c6
  c7 := (hb.cell (p := ⟨7, 0, none⟩) (World.block_lt_of_cell? w _ h.c7)).trans h.c7
  c8 := (hb.cell (p := ⟨8, 0, none⟩) (World.block_lt_of_cell? w _ h.c8)).trans h.c8
  c9 := (hb.cell (p := ⟨9, 0, none⟩) (World.block_lt_of_cell? w _ h.c9)).trans h.c9
  c10 := (hb.cell (p := ⟨10, 0, none⟩) (World.block_lt_of_cell? w _ h.c10)).trans h.c10
  ne := h.ne
  blk := fun i hi => by
    obtain ⟨c, t, hc⟩ := h.blk i hi
    exact ⟨c, t, (hb.block _ (Array.getElem?_eq_some_iff.1 hc).1).trans hc⟩
/-- The number of the refusal at a place of the list. -/
def refNo (i : Nat) : Int := [1, 2, 3, 4, 5, 7, 6, 8, 9, 10, 11].getD i 0
set_option maxRecDepth 10000 in
set_option maxHeartbeats 1600000 in
theorem kitNum_at (w : World) (A : Nat → Addr) (h : Sents w A) (i : Nat) (hi : i < 11) :
    Calls Tryd.prog 16 #[.iface 71 (.pointer (some (A i)))] w fun e w' => e = .returned (.int .i64 (refNo i)) ∧ w' = w := by
  have d0 := h.c0
  have d1 := h.c1
  have d2 := h.c2
  have d3 := h.c3
  have d4 := h.c4
  have d5 := h.c5
  have d6 := h.c6
  have d7 := h.c7
  have d8 := h.c8
  have d9 := h.c9
  have d10 := h.c10
  have hq := fun j => h.eql i j hi
  clear h
  have h11 : i = 0 ∨ i = 1 ∨ i = 2 ∨ i = 3 ∨ i = 4 ∨ i = 5 ∨ i = 6 ∨ i = 7 ∨ i = 8 ∨ i = 9 ∨ i = 10 := by omega
  clear hi
  have q0 := hq 0 (by omega)
  have q1 := hq 1 (by omega)
  have q2 := hq 2 (by omega)
  have q3 := hq 3 (by omega)
  have q4 := hq 4 (by omega)
  have q5 := hq 5 (by omega)
  have q6 := hq 6 (by omega)
  have q7 := hq 7 (by omega)
  have q8 := hq 8 (by omega)
  have q9 := hq 9 (by omega)
  have q10 := hq 10 (by omega)
  clear hq
  rcases h11 with rfl | rfl | rfl | rfl | rfl | rfl | rfl | rfl | rfl | rfl | rfl
  all_goals
    go_enter Tryd.func16, Tryd.ntmps16
    go_wp2
    go_ret
    exact ⟨rfl, rfl⟩
set_option maxRecDepth 10000 in
theorem kitNum_nil (w : World) : Calls Tryd.prog 16 #[.nilIface] w fun e w' => e = .returned (.int .i64 0) ∧ w' = w := by
  go_enter Tryd.func16, Tryd.ntmps16
  go_wp2
  go_ret
  exact ⟨rfl, rfl⟩
end Go.Proofs.YtilnanefkbdbkaaDoor
namespace Go.Proofs.YtilnanefkbdbkaaDoor
open Go.RowKit Go.Shelf
theorem hid0 {p : Prop} (h : p) : Hid p := h
/-- w' is w, but for new blocks and the blocks of S. -/
structure Only (w w' : World) (S : Nat → Prop) : Prop where
  os : w'.os = w.os
  tape : w'.tape = w.tape
  output : w'.output = w.output
  size : w.heap.size ≤ w'.heap.size
  block : ∀ k, k < w.heap.size → ¬ S k → w'.heap[k]? = w.heap[k]?
theorem Only.refl (w : World) (S : Nat → Prop) : Only w w S := ⟨rfl, rfl, rfl, Nat.le_refl _, fun _ _ _ => rfl⟩
theorem Only.trans {a b c : World} {S T : Nat → Prop} (h : Only a b S) (k : Only b c T) (hT : ∀ i, T i → S i ∨ a.heap.size ≤ i) : Only a c S :=
  ⟨k.os.trans h.os, k.tape.trans h.tape, k.output.trans h.output, Nat.le_trans h.size k.size, fun i hi hS =>
    (k.block i (Nat.lt_of_lt_of_le hi h.size) (fun ht => (hT i ht).elim hS (fun h => absurd hi (Nat.not_lt.2 h)))).trans (h.block i hi hS)⟩
theorem Only.drewN (w : World) (n : Nat) (S : Nat → Prop) : Only w (w.drewN n) S := ⟨rfl, rfl, rfl, Nat.le_refl _, fun _ _ _ => rfl⟩
theorem Only.alloc (w : World) (o : Obj) (S : Nat → Prop) : Only w (w.alloc o) S := ⟨rfl, rfl, rfl, by simp, fun k hk _ => Below.heap_alloc w o k hk⟩
theorem Only.setCell (w : World) (b off : Nat) (u : Value) : Only w (w.setCell ⟨b, off, none⟩ u) (fun k => k = b) := ⟨rfl, rfl, rfl, by simp [World.setCell], fun k _ h => Below.heap_setCell w _ u k h⟩
theorem Only.mono {w w' : World} {S T : Nat → Prop} (h : Only w w' S) (hs : ∀ i, S i → T i) : Only w w' T := ⟨h.os, h.tape, h.output, h.size, fun i hi ht => h.block i hi (fun s => ht (hs i s))⟩
theorem Only.below {w w' : World} {S : Nat → Prop} {B : Nat} (h : Only w w' S) (hB : B ≤ w.heap.size) (hs : ∀ i, S i → B ≤ i) : Below B w w' :=
  ⟨h.os, h.tape, h.output, h.size, fun i hi => h.block i (by omega) (fun s => by have := hs i s; omega)⟩
theorem Only.ofBelow {w w' : World} {B : Nat} (h : Below B w w') (S : Nat → Prop) (hs : ∀ i, B ≤ i → i < w.heap.size → S i) : Only w w' S :=
  ⟨h.os, h.tape, h.output, h.size, fun i hi hn => h.block i (Nat.lt_of_not_le fun hb => hn (hs i hb hi))⟩
theorem Only.cell {w w' : World} {S : Nat → Prop} (h : Only w w' S) {p : Addr} (hp : p.block < w.heap.size) (hn : ¬ S p.block) : w'.cell? p = w.cell? p := World.cell?_of_block (w := w) (h.block p.block hp hn)
theorem info_parts {t : TypeId} {z : Value} {n b : Nat} (h : (Tryd.prog.info? t).map (fun i => (i.zero, i.size, i.bytes)) = some (some z, n, b)) : ∃ i, Tryd.prog.info? t = some i ∧ i.zero = some z ∧ i.size = n ∧ i.bytes = b := by
  cases hq : Tryd.prog.info? t with
  | none => rw [hq] at h; cases h
  | some i =>
    rw [hq] at h
    simp only [Option.map_some, Option.some.injEq, Prod.mk.injEq] at h
    exact ⟨i, rfl, h.1, h.2.1, h.2.2⟩
theorem cell_one_new (w : World) (v : Value) (t : TypeId) : ∀ j u, [v][j]? = some u → (w.alloc (.cells #[v] t)).cell? ((⟨w.heap.size, 0, none⟩ : Addr).add j) = some u := by
  intro j u h
  rw [Addr.add_lit, cell_of_row _ w.heap.size _ _ _ _ (heap_alloc_new w _), Nat.zero_add]
  simpa using h
theorem Below.later {w a b : World} (h : Below w.heap.size w a) (k : Below a.heap.size a b) : Below w.heap.size w b :=
  ⟨k.os.trans h.os, k.tape.trans h.tape, k.output.trans h.output, Nat.le_trans h.size k.size, fun i hi => (k.block i (Nat.lt_of_lt_of_le hi h.size)).trans (h.block i hi)⟩
/-- cur is wk as far as the blocks from lo on go that wk has. -/
structure Agree (wk cur : World) (lo : Nat) : Prop where
  size : wk.heap.size ≤ cur.heap.size
  block : ∀ k, lo ≤ k → k < wk.heap.size → cur.heap[k]? = wk.heap[k]?
theorem Agree.refl (w : World) (lo : Nat) : Agree w w lo := ⟨Nat.le_refl _, fun _ _ _ => rfl⟩
theorem Agree.only {wk cur cur' : World} {lo : Nat} {S : Nat → Prop} (h : Agree wk cur lo) (ho : Only cur cur' S) (hs : ∀ k, S k → k < lo ∨ wk.heap.size ≤ k) : Agree wk cur' lo :=
  ⟨Nat.le_trans h.size ho.size, fun k h1 h2 => (ho.block k (Nat.lt_of_lt_of_le h2 h.size) (fun s => by have := hs k s; omega)).trans (h.block k h1 h2)⟩
theorem Agree.below {wk cur cur' : World} {lo : Nat} (h : Agree wk cur lo) (hb : Below cur.heap.size cur cur') : Agree wk cur' lo :=
  ⟨Nat.le_trans h.size hb.size, fun k h1 h2 => (hb.block k (Nat.lt_of_lt_of_le h2 h.size)).trans (h.block k h1 h2)⟩
theorem own_agree {wk cur : World} {lo t s n : Nat} {v : Value} {xs : List Value} (h : wk.ownsRow lo t s v n xs) (ha : Agree wk cur lo) : cur.ownsRow lo t s v n xs := by
  refine ⟨h.1, ?_⟩
  rcases h.2 with h2 | ⟨g, cap, cur0, hv, hg, hr, r⟩
  · exact .inl h2
  · exact .inr ⟨g, cap, cur0, hv, hg, (ha.block g hg (Array.getElem?_eq_some_iff.1 hr).1).trans hr, r⟩
theorem owns_lower {w : World} {base base' : Nat} {e : TypeId} {size : Nat} {v : Value} {n : Nat} {xs : List Value} (h : w.ownsRow base e size v n xs) (hb : base' ≤ base) : w.ownsRow base' e size v n xs :=
  ⟨h.1, h.2.imp id (fun ⟨g, cap, cur, h1, h2, h3⟩ => ⟨g, cap, cur, h1, Nat.le_trans hb h2, h3⟩)⟩
theorem own_form {w : World} {base : Nat} {e : TypeId} {size : Nat} {v : Value} {n : Nat} {xs : List Value} (h : w.ownsRow base e size v n xs) (hn : 0 < n) : ∃ g cap, v = .slice (some ⟨g, 0, none⟩) n cap ∧ base ≤ g ∧ g < w.heap.size ∧ n ≤ cap := by
  have h0 := h
  rcases h.2 with ⟨_, h1⟩ | ⟨g, cap, cur, rfl, hb, hr, hc, _⟩
  · omega
  · exact ⟨g, cap, rfl, hb, (World.ownsRow.lt h0 g rfl).2, hc⟩
theorem own_blk {W W' : World} {lo t s n : Nat} {v : Value} {xs : List Value} (h : W.ownsRow lo t s v n xs) (hb : ∀ k, v.ownBlock = some k → W'.heap[k]? = W.heap[k]?) : W'.ownsRow lo t s v n xs := by
  refine ⟨h.1, ?_⟩
  rcases h.2 with h2 | ⟨g, cap, cur0, hv, hg, hr, r⟩
  · exact .inl h2
  · exact .inr ⟨g, cap, cur0, hv, hg, (hb g (by rw [hv]; rfl)).trans hr, r⟩
theorem below_drew' {B : Nat} {w a : World} (h : Below B w a) (n : Nat) : Below B w (a.drewN n) := ⟨h.os, h.tape, h.output, h.size, h.block⟩
/-- Numbers in memory. -/
structure IA (w : World) (a : Option Addr) (L : List Int) : Prop where
  at' : ∀ k (h : k < L.length), ∃ b off, a = some ⟨b, off, none⟩ ∧ b < w.heap.size ∧ w.cell? ⟨b, off + k, none⟩ = some (.int .i64 L[k])
theorem IA.past {w w' : World} {a : Option Addr} {L : List Int} (h : IA w a L) (hb : Below w.heap.size w w') : IA w' a L := ⟨fun k hk => by
  obtain ⟨b, off, rfl, h1, h2⟩ := h.at' k hk
  exact ⟨b, off, rfl, Nat.lt_of_lt_of_le h1 hb.size, (hb.cell (p := ⟨b, off + k, none⟩) h1).trans h2⟩⟩
def OwnI (w : World) (base : Nat) (v : Value) (ps : List Int) : Prop := w.ownsRow base 3 1 v ps.length (ps.map (Value.int .i64))
theorem infoInt : (Tryd.prog.info? 3).map (fun i => (i.zero, i.size, i.bytes)) = some (some (.int .i64 0), 1, 8) := by kernel_rfl
theorem OwnI.ia {w : World} {base : Nat} {v : Value} {L : List Int} (h : OwnI w base v L) : ∃ a cap, v = .slice a L.length cap ∧ IA w a L := by
  have h0 := h
  rcases h.2 with ⟨rfl, hn⟩ | ⟨g, cap, cur, rfl, hg, hr, hc, _⟩
  · exact ⟨none, 0, by rw [hn], ⟨fun k hk => by omega⟩⟩
  · refine ⟨_, cap, rfl, ⟨fun k hk => ⟨g, 0, rfl, (World.ownsRow.lt h0 g rfl).2, ?_⟩⟩⟩
    have := World.ownsRow.cellAt h0 k (by omega)
    rw [Nat.zero_add, this]
    simp [hk]
theorem IA.below {w w' : World} {a : Option Addr} {L : List Int} {B : Nat} (h : IA w a L) (hb : Below B w w') (ha : ∀ p, a = some p → p.block < B) : IA w' a L := ⟨fun k hk => by
  obtain ⟨b, off, rfl, h1, h2⟩ := h.at' k hk
  exact ⟨b, off, rfl, Nat.lt_of_lt_of_le h1 hb.size, (hb.cell (p := ⟨b, off + k, none⟩) (ha ⟨b, off, none⟩ rfl)).trans h2⟩⟩
theorem ownI_snoc {w wr w1 : World} {base : Nat} {v v' : Value} {L : List Int} {c : Int} {o : Obj} {n : Nat} (hn : n = L.length) (hown : OwnI wr base v L)
    (hown' : w1.ownsRow base 3 1 v' (n + 1) (L.map (Value.int .i64) ++ [.int .i64 c])) (hgrow : (wr.alloc o).grownBy w1 v.ownBlock) (hbel : Below base w wr) (hb : base ≤ w.heap.size) :
    OwnI w1 base v' (L ++ [c]) ∧ Below base w w1 := by
  subst hn
  have hsz := hbel.size
  refine ⟨?_, (hbel.alloc (by omega) o).grown hgrow (by simp; omega) (fun k hk => (World.ownsRow.lt hown k hk).1)⟩
  unfold OwnI
  rw [List.length_append, List.length_singleton, List.map_append]
  exact hown'
section
variable {P : Program} (w : World)
theorem run_append_own_front (base : Nat) (t ty e : TypeId) (i : TypeInfo) (z : Value) (size bytes : Nat) (ht : P.underlying t = some (.slice e)) (hi : P.info? e = some i) (hz : i.zero = some z)
    (hsize : i.size = size) (hby : i.bytes = bytes) (hzs : z.cells.size = size) (hsz : 0 < size)
    (v : Value) (n : Nat) (xs : List Value) (hown : w.ownsRow base e size v n xs)
    (a : Addr) (m c : Nat) (news : List Value) (hl : news.length = m * size) (hnews : ∀ j u, news[j]? = some u → w.cell? (a.add j) = some u) (h1 : ∀ u ∈ news, u.oneCell' = true)
    (h63 : n + m ≤ maxLen) (hbytes : (n + m) * bytes ≤ 140737488355328) (hbase : base ≤ w.heap.size) :
    ∃ v' w', (Builtin.append_ #[t, t] ty #[v, .slice (some a) m c]).run P w = .ok v' w' ∧ w'.ownsRow base e size v' (n + m) (xs ++ news) ∧ w.grownBy w' v.ownBlock ∧
      (v'.ownBlock = v.ownBlock ∨ v'.ownBlock = some w.heap.size) ∧ (∀ g j u, v.ownBlock = some g → j < n * size → w.cell? ⟨g, j, none⟩ = some u → w'.cell? ⟨g, j, none⟩ = some u) := by
  obtain ⟨v', w', hr, h2, h3, _, h5⟩ := run_append_own_at (P := P) w base t ty e i z size bytes ht hi hz hsize hby hzs hsz v n xs hown a m c news hl hnews h1 h63 hbytes hbase
  refine ⟨v', w', hr, h2, h3, h5, ?_⟩
  intro g j u hg hj hc
  have hjx : j < xs.length := by rw [hown.1]; exact hj
  have hxu : xs[j]? = some u := by
    have e1 := hown.cells hg j xs[j] (List.getElem?_eq_getElem hjx)
    rw [Addr.add_lit, Nat.zero_add, hc] at e1
    rw [List.getElem?_eq_getElem hjx, ← Option.some.inj e1]
  rcases h5 with h5 | h5
  · have e2 := h2.cells (h5.trans hg) j u (by rw [List.getElem?_append_left hjx]; exact hxu)
    rw [Addr.add_lit, Nat.zero_add] at e2
    exact e2
  · have hglt := (hown.lt g hg).2
    rcases hown.2 with ⟨rfl, _⟩ | ⟨g', cap, cur, rfl, hbg, hgg, hnc, hcm, hcs, htake⟩
    · simp [Value.ownBlock] at hg
    · have hge : g' = g := by simpa [Value.ownBlock] using hg
      subst hge
      by_cases hroom : n + m ≤ cap
      · obtain ⟨w2, hr2, _⟩ := run_append_own_spare (P := P) w base t ty e i size ht hi hsize g' n cap xs hown a m c news hl hnews h1 hroom
        rw [hr] at hr2
        cases hr2
        simp [Value.ownBlock] at h5
        omega
      · subst hsize hby
        have holds : ∀ j u, xs[j]? = some u → w.cell? ((⟨g', 0, none⟩ : Addr).add j) = some u := hown.cells (g := g') rfl
        have hr2 := run_append_grow (P := P) w t ty e i z ht hi hz ⟨g', 0, none⟩ n cap xs hown.1 holds a m c news hl hnews (by omega) (by simp only [maxLen] at h63; omega) (growslice_fits (by omega) hbytes)
        rw [hr] at hr2
        cases hr2
        exact (World.cell?_of_block (w := w) (a := ⟨g', j, none⟩) (heap_alloc_old w.drew _ (r := g') hglt)).trans hc
theorem wpList_append_own_front {ops : Array Oper} {rest : List Oper} {o : Oper} {a : Act} {Q : Exit → Act → World → Prop} (hgd : o.guard = none) (s x : Operand) (t : TypeId)
    (ho : o.op = .call { callee := .builtin .append, args := #[s, x], argTypes := #[t, t] })
    (base : Nat) (e : TypeId) (i : TypeInfo) (z : Value) (size bytes : Nat) (ht : P.underlying t = some (.slice e)) (hi : P.info? e = some i) (hz : i.zero = some z)
    (hsize : i.size = size) (hby : i.bytes = bytes) (hzs : z.cells.size = size) (hsz : 0 < size)
    (v : Value) (n : Nat) (xs : List Value) (hs : a.eval s = v) (hown : w.ownsRow base e size v n xs)
    (ad : Addr) (m c : Nat) (news : List Value) (hx : a.eval x = .slice (some ad) m c) (hl : news.length = m * size) (hnews : ∀ j u, news[j]? = some u → w.cell? (ad.add j) = some u) (h1 : ∀ u ∈ news, u.oneCell' = true)
    (h63 : n + m ≤ maxLen) (hbytes : (n + m) * bytes ≤ 140737488355328) (hbase : base ≤ w.heap.size)
    (h : ∀ v' w', w'.ownsRow base e size v' (n + m) (xs ++ news) → w.grownBy w' v.ownBlock → (v'.ownBlock = v.ownBlock ∨ v'.ownBlock = some w.heap.size) → (∀ g j u, v.ownBlock = some g → j < n * size → w.cell? ⟨g, j, none⟩ = some u → w'.cell? ⟨g, j, none⟩ = some u) → wpList P ops Q rest (a.put o.dst v') w') :
    wpList P ops Q (o :: rest) a w := by
  refine wpList_plain hgd fun K hK => ?_
  obtain ⟨v', w', hr, h2, h3, h4, h5⟩ := run_append_own_front (P := P) w base t o.type e i z size bytes ht hi hz hsize hby hzs hsz v n xs hown ad m c news hl hnews h1 h63 hbytes hbase
  unfold Oper.wp execOp
  simp only [ho, resolve, invoke, builtin, Sem.run_bind, Sem.run_pure, Result.andThen_ok, List.map_toArray, List.map_cons, List.map_nil, hs, hx, hr]
  exact hK _ _ (h v' w' h2 h3 h4 h5)
end


theorem cell_alloc {w : World} {p : Addr} {v : Value} (h : w.cell? p = some v) (o : Obj) : (w.alloc o).cell? p = some v := ((Only.alloc w o (fun _ => False)).cell (World.block_lt_of_cell? w p h) (fun h => h)).trans h
theorem Only.ofGrown {w w' : World} {row : Option Nat} (h : w.grownBy w' row) : Only w w' (fun k => row = some k) := ⟨h.os, h.tape, h.output, h.size, fun k hk hn => h.block k hk (fun e => hn e.symm)⟩
theorem infoInts : (Tryd.prog.info? 28).map (fun i => (i.zero, i.size, i.bytes)) = some (some (.slice none 0 0), 1, 24) := by kernel_rfl
/-- Lists of numbers in memory. -/
structure RwA (w : World) (a : Option Addr) (L : List (List Int)) : Prop where
  at' : ∀ k (h : k < L.length), ∃ b off, a = some ⟨b, off, none⟩ ∧ b < w.heap.size ∧ ∃ a1 c1, w.cell? ⟨b, off + k, none⟩ = some (.slice a1 (L[k]).length c1) ∧ IA w a1 L[k]
theorem RwA.past {w w' : World} {a : Option Addr} {L : List (List Int)} (h : RwA w a L) (hb : Below w.heap.size w w') : RwA w' a L := ⟨fun k hk => by
  obtain ⟨b, off, rfl, h1, a1, c1, h2, h3⟩ := h.at' k hk
  exact ⟨b, off, rfl, Nat.lt_of_lt_of_le h1 hb.size, a1, c1, (hb.cell (p := ⟨b, off + k, none⟩) h1).trans h2, h3.past hb⟩⟩
theorem IA.front {w : World} {a : Option Addr} {L M : List Int} (h : IA w a (L ++ M)) : IA w a L := ⟨fun k hk => by
  obtain ⟨b, off, e, h1, h2⟩ := h.at' k (by simp; omega)
  rw [List.getElem_append_left hk] at h2
  exact ⟨b, off, e, h1, h2⟩⟩
theorem below_refl' (w : World) : Below w.heap.size w w := Below.refl _ _
end Go.Proofs.YtilnanefkbdbkaaDoor
namespace Go.Proofs.YtilnanefkbdbkaaDoor
open Go.RowKit Go.Shelf
theorem cell2_new (w : World) (a b : Value) (t : TypeId) : ∀ j u, [a, b][j]? = some u → (w.alloc (.cells #[a, b] t)).cell? ((⟨w.heap.size, 0, none⟩ : Addr).add j) = some u := by
  intro j u h
  rw [Addr.add_lit, cell_of_row _ w.heap.size _ _ _ _ (heap_alloc_new w _), Nat.zero_add]
  simpa using h
set_option maxRecDepth 10000 in
set_option maxHeartbeats 800000 in
theorem ints_any (L : List Int) (a : Option Addr) (cap : Nat) (w : World) (hl : L.length ≤ 1000000000) (ha : IA w a L) :
    Calls Tryd.prog 22 #[.slice a L.length cap] w fun e w' => ∃ v, e = .returned v ∧ OwnI w' w.heap.size v L ∧ Below w.heap.size w w' := by
  obtain ⟨i0, hi, hz0, hz1, hz2⟩ := info_parts infoInt
  have HA := hid0 ha
  clear ha
  go_enter Tryd.func22, Tryd.ntmps22
  go_wp2
  go_loopw [3, 4] (fun v i wr => ∃ k : Nat, k ≤ L.length ∧ i = .int .i64 (k : Int) ∧ Hid (OwnI wr w.heap.size v (L.take k)) ∧ Hid (Below w.heap.size w wr)) (fun _ i _ => L.length - (intOf i).toNat)
  case atStart => exact ⟨0, Nat.zero_le _, rfl, hid0 (World.ownsRow_nil _ _ _ _), hid0 (Below.refl _ _)⟩
  case round =>
    obtain ⟨k, hk, rfl, HO, HB⟩ := hrel
    have hbs := HB.out.size
    by_cases hlt : k < L.length
    · obtain ⟨b, off, rfl, hbw, hc⟩ := HA.out.at' k hlt
      have hc' := (HB.out.cell (p := ⟨b, off + k, none⟩) hbw).trans hc
      have hkI : (k : Int) < (L.length : Int) := by omega
      have hkI0 : (0 : Int) ≤ (k : Int) := by omega
      have HTK : Hid (L.take (k + 1) = L.take k ++ [L[k]]) := hid0 (by rw [List.take_add_one, List.getElem?_eq_getElem hlt]; rfl)
      have htl : (L.take k).length = k := by rw [List.length_take]; omega
      have hOO : wr.ownsRow w.heap.size 3 1 u3 k ((L.take k).map (Value.int .i64)) := by have h := HO.out; unfold OwnI at h; rw [htl] at h; exact h
      have HOO := hid0 hOO
      have HTL := hid0 htl
      generalize L[k] = s at *
      clear hc hOO htl
      go_wp2_with (at_builtin; refine wpList_append_own _ rfl _ _ 28 rfl w.heap.size 3 i0 (.int .i64 0) 1 8 Tryd.underlying28 hi hz0 hz1 hz2 rfl (by decide) _ _ _ rfl (HOO.out.alloc _) ⟨wr.heap.size, 0, none⟩ 1 1 [.int .i64 s] rfl rfl (cell_one_new _ _ _) ?c2b ?c3b ?c4b ?c5b ?_)
      case c2b => simp [Value.oneCell']
      case c3b => unfold maxLen; omega
      case c4b => omega
      case c5b => simp; omega
      intro v2 w4 hown' hgrow _
      rw [← List.map_take] at hown'
      obtain ⟨g1, g2⟩ := ownI_snoc (w := w) (base := w.heap.size) (L := L.take k) (c := s) (n := k) HTL.out.symm HO.out hown' hgrow HB.out (Nat.le_refl _)
      have HO4 : Hid (OwnI w4 w.heap.size v2 (L.take (k + 1))) := hid0 (by rw [HTK.out]; exact g1)
      have HB4 := hid0 g2
      clear hown' hgrow g1 g2 HOO HO HB
      go_wp2
      go_roundw
      case rel => exact ⟨k + 1, by omega, by go_num, HO4, HB4⟩
      case measure => simp [intOf]; omega
    · have hkI : ¬ (k : Int) < (L.length : Int) := by omega
      have HE : Hid (OwnI wr w.heap.size u3 L) := hid0 (by have h := HO.out; rw [List.take_of_length_le (by omega)] at h; exact h)
      go_wp2
      go_ret
      exact ⟨u3, rfl, HE.out, HB.out⟩
/-- A list that List made: two marks behind it. -/
def LW (w : World) (lo g c : Nat) (L : List Int) : Prop := w.ownsRow lo 3 1 (.slice (some ⟨g, 0, none⟩) (L.length + 2) c) (L.length + 2) (L.map (Value.int .i64) ++ [.int .i64 (-77), .int .i64 (-77)])
theorem LW.ia {w : World} {lo g c : Nat} {L : List Int} (h : LW w lo g c L) : IA w (some ⟨g, 0, none⟩) L := ⟨fun k hk => ⟨g, 0, rfl, (World.ownsRow.lt h g rfl).2, by
  have := World.ownsRow.cellAt h k (by omega)
  rw [Nat.zero_add, this, List.getElem?_append_left (by simpa using hk)]
  simp [hk]⟩⟩
theorem LW.past {w w' : World} {lo g c : Nat} {L : List Int} (h : LW w lo g c L) (hb : Below w.heap.size w w') : LW w' lo g c L :=
  own_blk h (fun k hk => hb.block k (World.ownsRow.lt h k hk).2)
theorem LW.cap {w : World} {lo g c : Nat} {L : List Int} (h : LW w lo g c L) : L.length + 2 ≤ c := by
  rcases h.2 with ⟨e, _⟩ | ⟨g', cap, cur, e, _, _, h1, h2, _⟩
  · cases e
  · cases e; omega
theorem LW.marks {w : World} {lo g c : Nat} {L : List Int} (h : LW w lo g c L) : w.cell? ⟨g, L.length, none⟩ = some (.int .i64 (-77)) ∧ w.cell? ⟨g, L.length + 1, none⟩ = some (.int .i64 (-77)) := by
  constructor
  · rw [World.ownsRow.cellAt h L.length (by omega), List.getElem?_append_right (by simp)]; simp
  · rw [World.ownsRow.cellAt h (L.length + 1) (by omega), List.getElem?_append_right (by simp)]; simp
def ListR (w : World) (L : List Int) (r : Ending) (w' : World) : Prop := ∃ g c, r = .returned (.slice (some ⟨g, 0, none⟩) L.length c) ∧ LW w' w.heap.size g c L ∧ Below w.heap.size w w'
set_option maxRecDepth 10000 in
set_option maxHeartbeats 800000 in
theorem list_any (L : List Int) (a : Option Addr) (cap : Nat) (w : World) (hl : L.length ≤ 1000000000) (ha : IA w a L) :
    Calls Tryd.prog 4 #[.slice a L.length cap] w fun r w' => ListR w L r w' := by
  obtain ⟨i0, hi, hz0, hz1, hz2⟩ := info_parts infoInt
  have HI := hid0 (ints_any L a cap w hl ha)
  clear ha
  go_enter Tryd.func4, Tryd.ntmps4
  go_wp2_with (first
    | (go_at_call 22; refine HI.out.mono ?_; rintro r w1 ⟨v, rfl, ho1, hb1⟩; have hs1 := hb1.size; have HO1 := hid0 ho1; have HB1 := hid0 hb1; clear ho1 hb1; obtain ⟨av, cv, rfl⟩ : ∃ av cv, v = .slice av L.length cv := by { obtain ⟨av, cv, e, _⟩ := HO1.out.ia; exact ⟨av, cv, e⟩ })
    | (at_builtin; go_loud ((
         refine wpList_append_own _ (by rfl) _ _ 28 (by rfl) w.heap.size 3 i0 (.int .i64 0) 1 8 Tryd.underlying28 hi hz0 hz1 hz2 rfl (by decide) (.slice av L.length cv) L.length (L.map (Value.int .i64)) (by rfl) (World.ownsRow.alloc HO1.out _) ⟨w1.heap.size, 0, none⟩ 2 2 [.int .i64 (-77), .int .i64 (-77)] (by rfl) (by rfl) (cell2_new w1 _ _ _) (fun u hu => by simp only [List.mem_cons, List.not_mem_nil, or_false] at hu; rcases hu with rfl | rfl <;> rfl) (by unfold maxLen; omega) (by omega) (by simp; omega) ?_
         intro v2 w2 hown2 hgrow2 _
         obtain ⟨g, c, rfl⟩ := Go.Joins.ownsRow_form hown2 (by omega)
         have HL2 : Hid (LW w2 w.heap.size g c L) := hid0 hown2
         have hcap := HL2.out.cap
         have HB2 := hid0 (((HB1.out).alloc (by omega) _).grown hgrow2 (by simp; omega) (fun q hq => (World.ownsRow.lt HO1.out q hq).1))
         clear hown2 hgrow2)))
    | fail)
  go_ret
  exact ⟨g, c, rfl, HL2.out, HB2.out⟩
set_option maxRecDepth 10000 in
set_option maxHeartbeats 800000 in
theorem listLeft_any (L : List Int) (lo g c : Nat) (w : World) (hl : L.length ≤ 1000000000) (h : LW w lo g c L) :
    Calls Tryd.prog 13 #[.slice (some ⟨g, 0, none⟩) L.length c] w fun r w' => r = .returned (.bool true) ∧ ∃ n, w' = w.drewN n := by
  obtain ⟨m1, m2⟩ := h.marks
  have hcap := h.cap
  clear h
  go_enter Tryd.func13, Tryd.ntmps13
  go_wp2
  go_ret
  exact ⟨rfl, 0, rfl⟩
end Go.Proofs.YtilnanefkbdbkaaDoor
namespace Go.Proofs.YtilnanefkbdbkaaDoor
open Go.RowKit Go.Shelf
theorem row_later {w w' : World} {base : Nat} {t : TypeId} {size n : Nat} {v : Value} {xs : List Value} (h : w.ownsRow base t size v n xs) (hb : Below w.heap.size w w') : w'.ownsRow base t size v n xs := own_blk h (fun k hk => hb.block k (World.ownsRow.lt h k hk).2)
abbrev Lot := List (Value × List Int)
theorem LW.lt {w : World} {lo g c : Nat} {L : List Int} (h : LW w lo g c L) : lo ≤ g ∧ g < w.heap.size := World.ownsRow.lt h g rfl
theorem LW.frozen {w : World} {lo g c : Nat} {L : List Int} (h : LW w lo g c L) (k : Nat) : w.frozen? ⟨g, k, none⟩ = false := World.ownsRow.frozenAt h k
theorem LW.put {w : World} {lo g c : Nat} {L : List Int} (h : LW w lo g c L) (k : Nat) (hk : k < L.length) (z : Int) : LW (w.setCell ⟨g, k, none⟩ (.int .i64 z)) lo g c (L.set k z) := by
  have h1 := (World.ownsRow.stored h k (.int .i64 z)).1
  unfold LW
  rw [List.length_set, List.map_set]
  rw [List.set_append_left _ _ (by simpa using hk)] at h1
  exact h1
/-- A slice of such lists. -/
structure Pile (w : World) (base : Nat) (v : Value) (ps : Lot) : Prop where
  outer : w.ownsRow base 28 1 v ps.length (ps.map (·.1))
  row : ∀ x ∈ ps, ∃ g c, x.1 = .slice (some ⟨g, 0, none⟩) x.2.length c ∧ LW w base g c x.2
  apart : ps.Pairwise fun x y => ∀ g, x.1.ownBlock = some g → y.1.ownBlock ≠ some g
  away : ∀ x ∈ ps, ∀ g, v.ownBlock = some g → x.1.ownBlock ≠ some g
theorem Pile.nil (w : World) (base : Nat) : Pile w base (.slice none 0 0) [] := ⟨World.ownsRow_nil _ _ _ _, by simp, List.Pairwise.nil, by simp⟩
theorem Pile.later {w w' : World} {base : Nat} {v : Value} {ps : Lot} (h : Pile w base v ps) (hb : Below w.heap.size w w') : Pile w' base v ps :=
  ⟨row_later h.outer hb, fun x hx => by obtain ⟨g, c, e, hl⟩ := h.row x hx; exact ⟨g, c, e, hl.past hb⟩, h.apart, h.away⟩
theorem Pile.blk {w : World} {base : Nat} {v : Value} {ps : Lot} (h : Pile w base v ps) {x : Value × List Int} (hx : x ∈ ps) {g : Nat} (hg : x.1.ownBlock = some g) : base ≤ g ∧ g < w.heap.size := by
  obtain ⟨g', c, e, hl⟩ := h.row x hx
  rw [e] at hg
  obtain rfl : g' = g := by simpa [Value.ownBlock] using hg
  exact hl.lt
/-- What only other blocks are written into leaves a pile as it is. -/
theorem Pile.kept {w w' : World} {base : Nat} {v : Value} {ps : Lot} (h : Pile w base v ps) (hb : ∀ k, base ≤ k → k < w.heap.size → w'.heap[k]? = w.heap[k]?) : Pile w' base v ps :=
  ⟨own_blk h.outer (fun k hk => hb k (World.ownsRow.lt h.outer k hk).1 (World.ownsRow.lt h.outer k hk).2), fun x hx => by
    obtain ⟨g, c, e, hl⟩ := h.row x hx
    exact ⟨g, c, e, own_blk hl (fun k hk => hb k (World.ownsRow.lt hl k hk).1 (World.ownsRow.lt hl k hk).2)⟩, h.apart, h.away⟩
/-- One more, made behind the pile. -/
theorem Pile.snoc {W wr w1 : World} {base : Nat} {v v' : Value} {ps : Lot} {l : List Int} {g c : Nat} {o : Obj} {n : Nat} (hn : n = ps.length) (h : Pile W base v ps) (hk : Below W.heap.size W wr) (hx : LW wr W.heap.size g c l) (hbase : base ≤ W.heap.size)
    (hown' : w1.ownsRow base 28 1 v' (n + 1) (ps.map (·.1) ++ [.slice (some ⟨g, 0, none⟩) l.length c])) (hgrow : (wr.alloc o).grownBy w1 v.ownBlock) (hat : v'.ownBlock = v.ownBlock ∨ v'.ownBlock = some (wr.alloc o).heap.size) {w : World} (hb : Below base w W) :
    Pile w1 base v' (ps ++ [(.slice (some ⟨g, 0, none⟩) l.length c, l)]) ∧ Below base w w1 := by
  subst hn
  have h2 := h.later hk
  have hs := hk.size
  have hgl := hx.lt
  have old : ∀ {t : TypeId} {size m : Nat} {u : Value} {xs : List Value} {b : Nat}, wr.ownsRow b t size u m xs → (∀ g, v.ownBlock = some g → u.ownBlock ≠ some g) → w1.ownsRow b t size u m xs := fun {t size m u xs b} hu hne => by
    refine World.ownsRow.kept (World.ownsRow.alloc hu o) hgrow ?_
    cases e : u.ownBlock with
    | none => exact .inl rfl
    | some g => exact .inr fun hc => hne g hc.symm e
  have hxa : ∀ q, v.ownBlock = some q → q ≠ g := fun q hq hqg => by
    have e1 := (World.ownsRow.lt h.outer q hq).2
    omega
  refine ⟨⟨?_, ?_, ?_, ?_⟩, ?_⟩
  · rw [List.length_append, List.map_append]
    exact hown'
  · intro y hy
    rcases List.mem_append.1 hy with hy | hy
    · obtain ⟨g1, c1, e1, hl1⟩ := h2.row y hy
      refine ⟨g1, c1, e1, old hl1 (fun q hq hqg => ?_)⟩
      exact h.away y hy q hq (by rw [e1]; exact hqg)
    · rw [List.mem_singleton] at hy
      subst hy
      exact ⟨g, c, rfl, owns_lower (old hx (fun q hq hqg => hxa q hq (by simpa [Value.ownBlock] using hqg.symm))) hbase⟩
  · rw [List.pairwise_append]
    refine ⟨h.apart, List.pairwise_singleton _ _, ?_⟩
    intro y hy z hz q hq hzq
    rw [List.mem_singleton] at hz
    subst hz
    have e1 := (h.blk hy hq).2
    have e2 : g = q := by simpa [Value.ownBlock] using hzq
    omega
  · intro y hy q hq hyq
    have hyl : y.1.ownBlock = some q → q < wr.heap.size ∧ (y ∈ ps ∨ q = g) := fun e => by
      rcases List.mem_append.1 hy with hy | hy
      · exact ⟨(h2.blk hy e).2, .inl hy⟩
      · rw [List.mem_singleton] at hy
        subst hy
        have e2 : g = q := by simpa [Value.ownBlock] using e
        subst e2
        exact ⟨hgl.2, .inr rfl⟩
    obtain ⟨e1, e2⟩ := hyl hyq
    rcases hat with hat | hat
    · rw [hat] at hq
      rcases e2 with e2 | e2
      · exact h.away y e2 q hq hyq
      · exact hxa q hq e2
    · rw [hat] at hq
      simp at hq
      omega
  · refine ((hb.trans (hk.mono hbase)).alloc ?_ o).grown hgrow ?_ (fun k hk' => (World.ownsRow.lt h.outer k hk').1)
    · omega
    · simp; omega
theorem Pile.cells {w : World} {base : Nat} {v : Value} {ps : Lot} (h : Pile w base v ps) : ∃ a c, v = .slice a ps.length c ∧ (a = none → c = 0) ∧ ∀ j (hj : j < ps.length), ∃ b, a = some ⟨b, 0, none⟩ ∧ v.ownBlock = some b ∧ b < w.heap.size ∧ w.cell? ⟨b, j, none⟩ = some (ps[j]).1 := by
  have h0 := h.outer
  rcases h0.2 with ⟨hv, hn⟩ | ⟨g, cap, cur, hv, _⟩
  · exact ⟨none, 0, by rw [hv, hn], fun _ => rfl, fun j hj => by omega⟩
  · refine ⟨some ⟨g, 0, none⟩, cap, hv, fun e => (by cases e), fun j hj => ⟨g, rfl, by rw [hv]; rfl, ?_, ?_⟩⟩
    · exact (World.ownsRow.lt h0 g (by rw [hv]; rfl)).2
    · rw [hv] at h0
      rw [World.ownsRow.cellAt h0 j (by omega)]
      simp [hj]
theorem Pile.rwa {w : World} {base : Nat} {v : Value} {ps : Lot} (h : Pile w base v ps) : ∃ a c, v = .slice a ps.length c ∧ RwA w a (ps.map (·.2)) := by
  obtain ⟨a, c, hv, _, hc⟩ := h.cells
  refine ⟨a, c, hv, ⟨fun k hk => ?_⟩⟩
  have hk' : k < ps.length := by simpa using hk
  obtain ⟨b, rfl, _, hb, hcell⟩ := hc k hk'
  obtain ⟨g1, c1, e1, hl⟩ := h.row ps[k] (List.getElem_mem hk')
  refine ⟨b, 0, rfl, hb, some ⟨g1, 0, none⟩, c1, ?_, ?_⟩
  · rw [Nat.zero_add, hcell, e1]
    simp
  · simp only [List.getElem_map]
    exact hl.ia
/-- One number of one list written over. -/
theorem Pile.put {w : World} {base : Nat} {v : Value} {ps : Lot} (h : Pile w base v ps) (i : Nat) (hi : i < ps.length) {g c : Nat} (hp : (ps[i]).1 = .slice (some ⟨g, 0, none⟩) (ps[i]).2.length c) (k : Nat) (hk : k < (ps[i]).2.length) (z : Int) :
    ∃ ps', ps'.length = ps.length ∧ ps'.map (fun x => x.2.length) = ps.map (fun x => x.2.length) ∧ ps'.map (·.1) = ps.map (·.1) ∧ Pile (w.setCell ⟨g, k, none⟩ (.int .i64 z)) base v ps' := by
  have hmem : ps[i] ∈ ps := List.getElem_mem hi
  have hbl : (ps[i]).1.ownBlock = some g := by rw [hp]; rfl
  have haw : ∀ g', v.ownBlock = some g' → g' ≠ g := fun g' hg' e => by subst e; exact h.away _ hmem g' hg' hbl
  have keep : ∀ {t : TypeId} {size m : Nat} {u : Value} {xs : List Value}, w.ownsRow base t size u m xs → (∀ g', u.ownBlock = some g' → g' ≠ g) → (w.setCell ⟨g, k, none⟩ (.int .i64 z)).ownsRow base t size u m xs := by
    intro t size m u xs ho hne
    exact own_blk ho (fun q hq => Below.heap_setCell w _ _ q (hne q hq))
  have hmap : (ps.set i ((ps[i]).1, (ps[i]).2.set k z)).map (·.1) = ps.map (·.1) := by
    rw [List.map_set]
    apply List.ext_getElem
    · simp
    · intro j h1 h2
      rw [List.getElem_set]
      split
      · subst_vars; simp
      · rfl
  have hmap2 : (ps.set i ((ps[i]).1, (ps[i]).2.set k z)).map (fun x => x.2.length) = ps.map (fun x => x.2.length) := by
    rw [List.map_set]
    apply List.ext_getElem
    · simp
    · intro j h1 h2
      rw [List.getElem_set]
      split
      · subst_vars; simp
      · rfl
  refine ⟨ps.set i ((ps[i]).1, (ps[i]).2.set k z), by simp, hmap2, hmap, ?_, ?_, ?_, ?_⟩
  · rw [hmap, List.length_set]
    exact keep h.outer haw
  · intro x hx
    obtain ⟨j, hj, rfl⟩ := List.getElem_of_mem hx
    have hj2 : j < ps.length := by simpa using hj
    rw [List.getElem_set]
    split
    · obtain ⟨g1, c1, e1, hl⟩ := h.row _ hmem
      rw [hp] at e1
      simp only [Value.slice.injEq, Option.some.injEq, Addr.mk.injEq, and_true, true_and] at e1
      obtain ⟨rfl, rfl⟩ := e1
      exact ⟨g, c, by simp only [List.length_set]; exact hp, hl.put k hk z⟩
    · rename_i hne
      obtain ⟨g1, c1, e1, hl⟩ := h.row _ (List.getElem_mem hj2)
      refine ⟨g1, c1, e1, keep hl ?_⟩
      intro g' hg' e
      subst e
      have e2 : g1 = g' := by simpa [Value.ownBlock] using hg'
      subst e2
      have hbj : (ps[j]).1.ownBlock = some g1 := by rw [e1]; rfl
      have := List.pairwise_iff_getElem.1 h.apart
      rcases Nat.lt_or_gt_of_ne hne with hlt | hlt
      · exact this i j hi hj2 hlt g1 hbl hbj
      · exact this j i hj2 hi hlt g1 hbj hbl
  · have hpr : ∀ (qs : Lot), qs.Pairwise (fun x y => ∀ g, x.1.ownBlock = some g → y.1.ownBlock ≠ some g) ↔ (qs.map (·.1)).Pairwise (fun x y => ∀ g, x.ownBlock = some g → y.ownBlock ≠ some g) := fun qs => by rw [List.pairwise_map]
    rw [hpr, hmap, ← hpr]
    exact h.apart
  · intro x hx g' hg'
    have hx1 : x.1 ∈ ps.map (·.1) := by rw [← hmap]; exact List.mem_map_of_mem hx
    obtain ⟨y, hy, hye⟩ := List.mem_map.1 hx1
    rw [← hye]
    exact h.away y hy g' hg'
end Go.Proofs.YtilnanefkbdbkaaDoor
namespace Go.Proofs.YtilnanefkbdbkaaDoor
open Go.RowKit Go.Shelf
theorem drew_add {w w' : World} {a : Nat} (h : ∃ m, w' = (w.drewN a).drewN m) : ∃ n, w' = w.drewN n := by
  obtain ⟨m, hm⟩ := h
  exact ⟨a + m, by rw [hm, World.drewN_drewN]⟩
/-- One more element behind the lists, that is none of them. -/
theorem Pile.tail {W wr w1 : World} {base g c n : Nat} {v x : Value} {ps : Lot} (hn : n = ps.length) (h : Pile W base v ps) (hk : Below W.heap.size W wr) (hbase : base ≤ W.heap.size)
    (hown' : w1.ownsRow base 28 1 (.slice (some ⟨g, 0, none⟩) (n + 1) c) (n + 1) (ps.map (·.1) ++ [x])) (hgrow : wr.grownBy w1 v.ownBlock) (hat : some g = v.ownBlock ∨ W.heap.size ≤ g) {w : World} (hb : Below base w W) :
    Pile w1 base (.slice (some ⟨g, 0, none⟩) n c) ps ∧ n + 1 ≤ c ∧ w1.cell? ⟨g, n, none⟩ = some x ∧ Below base w w1 := by
  subst hn
  have h2 := h.later hk
  have hs := hk.size
  have hrows : ∀ y ∈ ps, ∃ g1 c1, y.1 = .slice (some ⟨g1, 0, none⟩) y.2.length c1 ∧ LW w1 base g1 c1 y.2 := fun y hy => by
    obtain ⟨g1, c1, e1, hl1⟩ := h2.row y hy
    refine ⟨g1, c1, e1, World.ownsRow.kept hl1 hgrow ?_⟩
    right
    intro hc
    exact h.away y hy g1 hc.symm (by rw [e1]; rfl)
  refine ⟨⟨?_, hrows, h.apart, ?_⟩, ?_, ?_, ?_⟩
  · rcases hown'.2 with ⟨e, _⟩ | ⟨g', cap, cur, e, q1, q2, q3, q4, q5, q6⟩
    · cases e
    · cases e
      refine ⟨by simp, .inr ⟨g, c, cur, rfl, q1, q2, by omega, q4, q5, ?_⟩⟩
      have e2 : cur.toList.take (ps.length * 1) = (cur.toList.take ((ps.length + 1) * 1)).take (ps.length * 1) := by rw [List.take_take]; congr 1; omega
      rw [e2, q6, Nat.mul_one, List.take_append_of_le_length (by simp), List.take_of_length_le (by simp)]
  · intro y hy q hq hyq
    have e : g = q := by simpa [Value.ownBlock] using hq
    subst e
    rcases hat with hat | hat
    · exact h.away y hy g hat.symm hyq
    · have := (h.blk hy hyq).2; omega
  · rcases hown'.2 with ⟨e, _⟩ | ⟨g', cap, cur, e, _, _, q3, _⟩
    · cases e
    · cases e; exact q3
  · rw [World.ownsRow.cellAt hown' ps.length (by omega), List.getElem?_append_right (by simp)]
    simp
  · exact ((hb.trans (hk.mono hbase))).grown hgrow (by omega) (fun k hk' => (World.ownsRow.lt h.outer k hk').1)
/-- What Rows leaves: lists, and a row of marks behind them. -/
def RowsR (w : World) (L : List (List Int)) (r : Ending) (w' : World) : Prop := ∃ g c, r = .returned (.slice (some ⟨g, 0, none⟩) L.length c) ∧ ∃ gm ps, Pile w' w.heap.size (.slice (some ⟨g, 0, none⟩) L.length c) ps ∧ ps.map (·.2) = L ∧ L.length + 1 ≤ c ∧ w'.cell? ⟨g, L.length, none⟩ = some (.slice (some ⟨gm, 0, none⟩) 1 1) ∧ w'.cell? ⟨gm, 0, none⟩ = some (.int .i64 (-77)) ∧ Below w.heap.size w w' ∧ w.heap.size ≤ gm
set_option maxRecDepth 10000 in
set_option maxHeartbeats 1600000 in
theorem rows_any (L : List (List Int)) (a : Option Addr) (cap : Nat) (w : World) (hl : L.length ≤ 1000000000) (hr : ∀ r ∈ L, r.length ≤ 1000000000) (ha : RwA w a L) :
    Calls Tryd.prog 23 #[.slice a L.length cap] w fun r w' => RowsR w L r w' := by
  obtain ⟨i0, hi, hz0, hz1, hz2⟩ := info_parts infoInts
  have HA := hid0 ha
  have HR := hid0 hr
  clear ha hr
  go_enter Tryd.func23, Tryd.ntmps23
  go_wp2
  go_loopw [3, 4] (fun v i wr => ∃ (k : Nat) (ps : Lot), k ≤ L.length ∧ i = .int .i64 (k : Int) ∧ Hid (ps.map (·.2) = L.take k) ∧ Hid (ps.length = k) ∧ Hid (Pile wr w.heap.size v ps) ∧ Hid (Below w.heap.size w wr)) (fun _ i _ => L.length - (intOf i).toNat)
  case atStart => exact ⟨0, [], Nat.zero_le _, rfl, hid0 rfl, hid0 rfl, hid0 (Pile.nil _ _), hid0 (Below.refl _ _)⟩
  case round =>
    obtain ⟨k, ps, hk, rfl, HM, HK, HP, HB⟩ := hrel
    have hbs := HB.out.size
    have HOO : Hid (wr.ownsRow w.heap.size 28 1 u3 k (ps.map (·.1))) := hid0 (by have h := HP.out.outer; rw [HK.out] at h; exact h)
    by_cases hlt : k < L.length
    · obtain ⟨b, off, rfl, _, a1, c1, d1, i1⟩ := (HA.out.past HB.out).at' k hlt
      have hkI : (k : Int) < (L.length : Int) := by omega
      have hkI0 : (0 : Int) ≤ (k : Int) := by omega
      have HTK : Hid (L.take (k + 1) = L.take k ++ [L[k]]) := hid0 (by rw [List.take_add_one, List.getElem?_eq_getElem hlt]; rfl)
      have HLI := hid0 (list_any L[k] a1 c1 wr (HR.out _ (List.getElem_mem hlt)) i1)
      clear i1
      generalize L[k] = s at *
      go_wp2_with (first
        | (go_at_call 4; refine HLI.out.mono ?_; rintro e w1 ⟨g, c, rfl, hx, hb1⟩; have hs1 := hb1.size; have HX := hid0 hx; have HB1 := hid0 hb1; clear hx hb1)
        | (at_builtin; go_loud (refine wpList_append_own_at _ rfl _ _ 22 rfl w.heap.size 28 i0 (.slice none 0 0) 1 24 Tryd.underlying22 hi hz0 hz1 hz2 rfl (by decide) _ k (ps.map (·.1)) rfl (World.ownsRow.alloc (row_later HOO.out HB1.out) _) ⟨w1.heap.size, 0, none⟩ 1 1 [.slice (some ⟨g, 0, none⟩) s.length c] rfl rfl (cell_one_new _ _ _) (by simp [Value.oneCell']) (by unfold maxLen; omega) (by omega) (by simp; omega) ?_; intro v2 w2 hown2 hgrow2 _ hat2; have HS := hid0 (Pile.snoc (w := w) HK.out.symm HP.out HB1.out HX.out hbs hown2 hgrow2 hat2 HB.out); clear hown2 hgrow2 hat2))
        | fail)
      have HP2 := hid0 HS.out.1
      have HB2 := hid0 HS.out.2
      have HM2 : Hid ((ps ++ [(Value.slice (some ⟨g, 0, none⟩) s.length c, s)]).map (·.2) = L.take (k + 1)) := hid0 (by rw [List.map_append, HM.out, HTK.out]; rfl)
      have HK2 : Hid ((ps ++ [(Value.slice (some ⟨g, 0, none⟩) s.length c, s)]).length = k + 1) := hid0 (by rw [List.length_append, HK.out]; rfl)
      clear HS HP HB HM HK HOO HTK HX HB1
      go_roundw
      case rel => exact ⟨k + 1, _, by omega, by go_num, HM2, HK2, HP2, HB2⟩
      case measure => simp [intOf]; omega
    · have hkI : ¬ (k : Int) < (L.length : Int) := by omega
      have hkn : k = L.length := by omega
      have HE : Hid (ps.map (·.2) = L) := hid0 (by rw [HM.out, List.take_of_length_le (by omega)])
      subst hkn
      clear HM
      obtain ⟨w1, hw1⟩ : ∃ w1, w1 = wr.alloc (.cells #[.int .i64 (-77)] 3) := ⟨_, rfl⟩
      have hb1 : Below wr.heap.size wr w1 := by rw [hw1]; exact (Below.refl _ _).alloc (Nat.le_refl _) _
      have hr1 : w1.heap[wr.heap.size]? = some (.cells #[.int .i64 (-77)] 3 (0, 0)) := by rw [hw1]; exact heap_alloc_new wr _
      have hs1 : w1.heap.size = wr.heap.size + 1 := by rw [hw1]; simp
      have HB1 := hid0 hb1
      have HR1 := hid0 hr1
      have HS1 := hid0 hs1
      have hfold := hw1.symm
      clear hw1 hb1 hr1 hs1
      go_wp2_with (at_builtin; go_loud ((
        refine wpList_append_own_at _ rfl _ _ 22 rfl w.heap.size 28 i0 (.slice none 0 0) 1 24 Tryd.underlying22 hi hz0 hz1 hz2 rfl (by decide) _ L.length (ps.map (·.1)) rfl (World.ownsRow.alloc (row_later HOO.out HB1.out) _) ⟨w1.heap.size, 0, none⟩ 1 1 [.slice (some ⟨wr.heap.size, 0, none⟩) 1 1] rfl rfl (cell_one_new _ _ _) (by simp [Value.oneCell']) (by unfold maxLen; omega) (by omega) (by have := HS1.out; simp; omega) ?_
        intro v2 w2 hown2 hgrow2 _ hat2
        obtain ⟨g, c, rfl⟩ := Go.Joins.ownsRow_form hown2 (by omega)
        have ht := Pile.tail (w := w) HK.out.symm HP.out (Below.later HB1.out ((Below.refl _ w1).alloc (Nat.le_refl _) _)) hbs hown2 hgrow2 (hat2.imp (fun h => h) (fun h => by have e := Option.some.inj (show some g = _ from h); have := HS1.out; simp at e; omega)) HB.out
        have hcap := ht.2.1
        have HT := hid0 ht
        have HMk : Hid (w2.cell? ⟨wr.heap.size, 0, none⟩ = some (.int .i64 (-77))) := hid0 (by {
          have hc1 : (w1.alloc (.cells #[.slice (some ⟨wr.heap.size, 0, none⟩) 1 1] 28)).cell? ⟨wr.heap.size, 0, none⟩ = some (.int .i64 (-77)) := cell_alloc (by rw [cell_of_row _ _ _ _ _ _ HR1.out]; rfl) _
          exact hgrow2.cell hc1 (fun e => by have := (World.ownsRow.lt HOO.out wr.heap.size e.symm).2; omega) })
        clear hown2 hgrow2 hat2 ht)))
      go_ret
      exact ⟨g, c, rfl, wr.heap.size, ps, HT.out.1, HE.out, HT.out.2.1, HT.out.2.2.1, HMk.out, HT.out.2.2.2, HB.out.size⟩
set_option maxRecDepth 10000 in
set_option maxHeartbeats 1600000 in
theorem rowsLeft_any (ps : Lot) (base g c gm : Nat) (w : World) (hl : ps.length ≤ 1000000000) (hr : ∀ x ∈ ps, x.2.length ≤ 1000000000) (hP : Pile w base (.slice (some ⟨g, 0, none⟩) ps.length c) ps) (hc : ps.length + 1 ≤ c) (h1 : w.cell? ⟨g, ps.length, none⟩ = some (.slice (some ⟨gm, 0, none⟩) 1 1)) (h2 : w.cell? ⟨gm, 0, none⟩ = some (.int .i64 (-77))) :
    Calls Tryd.prog 35 #[.slice (some ⟨g, 0, none⟩) ps.length c] w fun r w' => r = .returned (.bool true) ∧ ∃ n, w' = w.drewN n := by
  obtain ⟨a', c', ev, _, hcell⟩ := hP.cells
  simp only [Value.slice.injEq, true_and] at ev
  obtain ⟨rfl, rfl⟩ := ev
  have HC := hid0 hcell
  have HP := hid0 hP
  have HR := hid0 hr
  clear hcell hP hr
  go_enter Tryd.func35, Tryd.ntmps35
  go_wp2
  go_loopw [4] (fun i wr => ∃ k : Nat, k ≤ ps.length ∧ i = .int .i64 (k : Int) ∧ ∃ n, wr = w.drewN n) (fun i _ => ps.length - (intOf i).toNat)
  case atStart => exact ⟨0, Nat.zero_le _, rfl, 0, rfl⟩
  case round =>
    obtain ⟨k, hk, rfl, nd, rfl⟩ := hrel
    by_cases hlt : k < ps.length
    · obtain ⟨b1, e1, _, _, d1⟩ := HC.out k hlt
      cases e1
      obtain ⟨g1, c1, e1, hlw⟩ := HP.out.row _ (List.getElem_mem hlt)
      have hrl := HR.out _ (List.getElem_mem hlt)
      rw [e1] at d1
      have HLL := hid0 (listLeft_any (ps[k]).2 base g1 c1 (w.drewN nd) hrl hlw)
      clear e1 hlw
      generalize (ps[k]).2 = s at *
      have hkI : (k : Int) < (ps.length : Int) := by omega
      have hkI0 : (0 : Int) ≤ (k : Int) := by omega
      go_wp2_with (go_at_call 13; refine HLL.out.mono ?_; rintro e w1 ⟨rfl, hw1⟩; obtain ⟨q1, rfl⟩ := drew_add hw1; clear hw1)
      go_roundw
      case rel => exact ⟨k + 1, by omega, by go_num, _, rfl⟩
      case measure => simp [intOf]; omega
    · have hkI : ¬ (k : Int) < (ps.length : Int) := by omega
      go_wp2
      go_ret
      exact ⟨rfl, nd, rfl⟩
end Go.Proofs.YtilnanefkbdbkaaDoor
namespace Go.Proofs.YtilnanefkbdbkaaDoor
/-- The least of both; -1: none. -/
def lstF (a b : List Int) : Int := (a.find? fun x => b.contains x).getD (-1)
theorem lstF_nil (b : List Int) : lstF [] b = -1 := rfl
theorem lstF_nil2 (a : List Int) : lstF a [] = -1 := by
  unfold lstF
  have : a.find? (fun x => ([] : List Int).contains x) = none := List.find?_eq_none.2 (fun x _ => by simp)
  rw [this]
  rfl
theorem lstF_head {a b : List Int} {x : Int} (hb : x ∈ b) : lstF (x :: a) b = x := by
  unfold lstF
  rw [List.find?_cons_of_pos (by simpa using hb)]
  rfl
theorem lstF_skip {a b : List Int} {x : Int} (hb : x ∉ b) : lstF (x :: a) b = lstF a b := by
  unfold lstF
  rw [List.find?_cons_of_neg (by simpa using hb)]
/-- What is not in the other list may be left out. -/
theorem lstF_drop (b : List Int) : ∀ (k : Nat) (a : List Int), (∀ z ∈ a.take k, z ∉ b) → lstF (a.drop k) b = lstF a b
  | 0, a, _ => rfl
  | k + 1, [], _ => rfl
  | k + 1, x :: a, h => by
    rw [List.drop_succ_cons, lstF_drop b k a (fun z hz => h z (by rw [List.take_succ_cons]; exact .tail _ hz)), lstF_skip (h x (by rw [List.take_succ_cons]; exact .head _))]
theorem lstF_congr {a b c : List Int} (h : ∀ x ∈ a, x ∈ b ↔ x ∈ c) : lstF a b = lstF a c := by
  induction a with
  | nil => rfl
  | cons x a ih =>
    have ih' := ih (fun y hy => h y (.tail _ hy))
    by_cases hb : x ∈ b
    · rw [lstF_head hb, lstF_head ((h x (.head _)).1 hb)]
    · rw [lstF_skip hb, lstF_skip (fun q => hb ((h x (.head _)).2 q)), ih']
theorem lstF_drop2 (a b : List Int) (k : Nat) (h : ∀ z ∈ b.take k, z ∉ a) : lstF a (b.drop k) = lstF a b := lstF_congr (fun x hx => by
  constructor
  · exact fun q => List.mem_of_mem_drop q
  · intro q
    rw [← List.take_append_drop k b] at q
    rcases List.mem_append.1 q with q | q
    · exact absurd hx (h x q)
    · exact q)
def Rs (l : List Int) : Prop := l.Pairwise (· < ·)
theorem riseF_rs {cnt : Int} : ∀ (l : List Int) (lo : Int), riseF cnt lo l = true → Rs l ∧ ∀ z ∈ l, lo ≤ z ∧ z < cnt
  | [], _, _ => ⟨List.Pairwise.nil, fun z hz => (by cases hz)⟩
  | z :: l, lo, h => by
    rw [riseF] at h
    simp only [Bool.and_eq_true, decide_eq_true_eq] at h
    obtain ⟨⟨h1, h2⟩, h3⟩ := h
    obtain ⟨h4, h5⟩ := riseF_rs l (z + 1) h3
    refine ⟨List.Pairwise.cons (fun y hy => by have := h5 y hy; omega) h4, fun y hy => ?_⟩
    rcases List.mem_cons.1 hy with rfl | hy
    · exact ⟨h1, h2⟩
    · have := h5 y hy; omega
theorem Rs.drop {l : List Int} (h : Rs l) (k : Nat) : Rs (l.drop k) := List.Pairwise.sublist (List.drop_sublist k l) h
/-- How many are below. -/
def blw (l : List Int) (x : Int) : Nat := l.countP (· < x)
theorem blw_le (l : List Int) (x : Int) : blw l x ≤ l.length := List.countP_le_length
theorem blw_take : ∀ {l : List Int} (x : Int), Rs l → (∀ z ∈ l.take (blw l x), z < x) ∧ ∀ z ∈ l.drop (blw l x), x ≤ z
  | [], x, _ => ⟨fun z hz => (by simp at hz), fun z hz => (by simp at hz)⟩
  | y :: l, x, h => by
    obtain ⟨h1, h2⟩ := List.pairwise_cons.1 h
    obtain ⟨i1, i2⟩ := blw_take x h2
    by_cases hy : y < x
    · have e : blw (y :: l) x = blw l x + 1 := by unfold blw; rw [List.countP_cons_of_pos (by simpa using hy)]
      rw [e]
      refine ⟨fun z hz => ?_, fun z hz => i2 z (by rw [List.drop_succ_cons] at hz; exact hz)⟩
      rw [List.take_succ_cons] at hz
      rcases List.mem_cons.1 hz with rfl | hz
      · exact hy
      · exact i1 z hz
    · have e : blw (y :: l) x = 0 := by
        unfold blw
        rw [List.countP_eq_zero]
        intro z hz
        rcases List.mem_cons.1 hz with rfl | hz
        · simpa using hy
        · have := h1 z hz; simp; omega
      rw [e]
      refine ⟨fun z hz => (by simp at hz), fun z hz => ?_⟩
      rw [List.drop_zero] at hz
      rcases List.mem_cons.1 hz with rfl | hz
      · omega
      · have := h1 z hz; omega
/-- Of a beginning behind which nothing is below. -/
theorem blw_part {l : List Int} {x : Int} {m : Nat} (h : ∀ z ∈ l.drop m, ¬ z < x) : blw (l.take m) x = blw l x := by
  unfold blw
  have h2 : (l.take m ++ l.drop m).countP (· < x) = (l.take m).countP (· < x) + (l.drop m).countP (· < x) := List.countP_append
  rw [List.take_append_drop] at h2
  have h3 : (l.drop m).countP (· < x) = 0 := List.countP_eq_zero.2 (fun z hz => by simpa using h z hz)
  omega
/-- Both without what is below the greater of their firsts. -/
theorem lstF_low {x y : Int} {a b : List Int} (ha : Rs (x :: a)) (hb : Rs (y :: b)) : lstF ((x :: a).drop (blw (x :: a) (max x y))) ((y :: b).drop (blw (y :: b) (max x y))) = lstF (x :: a) (y :: b) := by
  obtain ⟨a1, a2⟩ := blw_take (max x y) ha
  obtain ⟨b1, b2⟩ := blw_take (max x y) hb
  have hx : ∀ z ∈ x :: a, x ≤ z := fun z hz => by
    rcases List.mem_cons.1 hz with rfl | hz
    · exact Int.le_refl _
    · have := (List.pairwise_cons.1 ha).1 z hz; omega
  have hy : ∀ z ∈ y :: b, y ≤ z := fun z hz => by
    rcases List.mem_cons.1 hz with rfl | hz
    · exact Int.le_refl _
    · have := (List.pairwise_cons.1 hb).1 z hz; omega
  rw [lstF_drop2, lstF_drop]
  · intro z hz hzb
    have h1 := a1 z hz
    have h2 := hx z (List.mem_of_mem_take hz)
    have h3 := hy z hzb
    rcases Int.le_total x y with h | h
    · rw [Int.max_eq_right h] at h1; omega
    · rw [Int.max_eq_left h] at h1; omega
  · intro z hz hza
    have h1 := b1 z hz
    have h2 := hy z (List.mem_of_mem_take hz)
    have h3 := a2 z hza
    omega
theorem blw_pos {x y : Int} {a b : List Int} (h : x ≠ y) : 0 < blw (x :: a) (max x y) ∨ 0 < blw (y :: b) (max x y) := by
  unfold blw
  rcases Int.lt_or_gt_of_ne h with h | h
  · left
    rw [Int.max_eq_right (by omega), List.countP_cons_of_pos (by simpa using h)]
    omega
  · right
    rw [Int.max_eq_left (by omega), List.countP_cons_of_pos (by simpa using h)]
    omega
end Go.Proofs.YtilnanefkbdbkaaDoor
namespace Go.Proofs.YtilnanefkbdbkaaDoor
/-- The symbols of a pairing. -/
def symF (N : List (List Int)) : Nat := (N.getD 0 []).length
def chkP (sl : Int) (N O : List (List Int)) (sr : Int) (N' O' : List (List Int)) (nb : Nat) (sy : Int) : Bool := chkF sl N O sy (nb : Int) && chkF sr N' O' sy (nb : Int)
def okD (sl : Int) (N O : List (List Int)) (sr : Int) (N' O' : List (List Int)) (nb : Nat) (l : List Int) : Bool := chkP sl N O sr N' O' nb (symF N : Int) && l.all (oneOf (symF N))
/-- The next state. -/
def nxS (N : List (List Int)) (s : Nat) (z : Int) : Nat := ((N.getD s []).getD z.toNat 0).toNat
/-- The state behind so many symbols. -/
def stK (N : List (List Int)) (s : Nat) (l : List Int) : Nat → Nat
  | 0 => s
  | k + 1 => nxS N (stK N s l k) (l.getD k 0)
/-- The number at a place. -/
def decK (sl : Int) (N O : List (List Int)) (sr : Int) (N' O' : List (List Int)) (l : List Int) (k : Nat) : Int := lstF (O.getD (stK N sl.toNat l (k + 1)) []) (O'.getD (stK N' sr.toNat l.reverse (l.length - 1 - k)) [])
def decF (sl : Int) (N O : List (List Int)) (sr : Int) (N' O' : List (List Int)) (l : List Int) : List Int := (List.range (l.length - 1)).map (decK sl N O sr N' O' l)
def sayF (B : List Bool) (el : Bool) (d : Int) : Bool := if d < 0 then el else B.getD d.toNat false
/-- The places of boundaries among the first so many. -/
def brkK (D : List Int) (B : List Bool) (el : Bool) (k : Nat) : List Int := ((List.range k).filter fun j => sayF B el (D.getD j 0)).map fun (j : Nat) => (j : Int) + 1
def brkF (D : List Int) (B : List Bool) (el : Bool) (n : Nat) : List Int := if n = 0 then [] else 0 :: (brkK D B el D.length ++ [(n : Int)])
theorem brkK_step (D : List Int) (B : List Bool) (el : Bool) (k : Nat) : brkK D B el (k + 1) = brkK D B el k ++ (if sayF B el (D.getD k 0) then [(k : Int) + 1] else []) := by
  unfold brkK
  rw [List.range_succ, List.filter_append, List.map_append]
  congr 1
  rw [List.filter_cons, List.filter_nil]
  cases sayF B el (D.getD k 0) <;> rfl
theorem brkK_len (D : List Int) (B : List Bool) (el : Bool) (k : Nat) : (brkK D B el k).length ≤ k := by
  unfold brkK
  rw [List.length_map]
  have := List.length_filter_le (fun j => sayF B el (D.getD j 0)) (List.range k)
  rw [List.length_range] at this
  exact this
/-- What a check that passes gives. -/
structure Fine (st : Int) (N O : List (List Int)) (sy : Nat) (nb : Nat) : Prop where
  start : 0 ≤ st ∧ st < (N.length : Int)
  out : O.length = N.length
  row : ∀ j, j < N.length → (N.getD j []).length = sy
  num : ∀ j, j < N.length → ∀ z ∈ N.getD j [], 0 ≤ z ∧ z < (N.length : Int)
  rise : ∀ j, j < N.length → Rs (O.getD j []) ∧ ∀ z ∈ O.getD j [], 0 ≤ z ∧ z < (nb : Int)
theorem fine_of {st : Int} {N O : List (List Int)} {sy nb : Nat} (h : chkF st N O (sy : Int) (nb : Int) = true) : Fine st N O sy nb := by
  unfold chkF at h
  simp only [Bool.and_eq_true, decide_eq_true_eq, List.all_eq_true, List.mem_range] at h
  obtain ⟨⟨⟨_, _, _, _, _, h6, _⟩, h8⟩, h9⟩ := h
  have key : ∀ j, j < N.length → ((N.getD j []).length = sy ∧ (N.getD j []).all (oneOf N.length) = true) ∧ riseF (nb : Int) 0 (O.getD j []) = true := fun j hj => by
    have h := h9 j hj
    unfold rowF at h
    simp only [Bool.and_eq_true, decide_eq_true_eq] at h
    exact ⟨⟨by omega, h.1.2⟩, h.2⟩
  refine ⟨(oneOf_iff _ _).1 h8, h6, fun j hj => (key j hj).1.1, fun j hj z hz => (oneOf_iff _ _).1 (List.all_eq_true.1 (key j hj).1.2 z hz), fun j hj => riseF_rs _ _ (key j hj).2⟩
theorem Fine.next {st : Int} {N O : List (List Int)} {sy nb s : Nat} {z : Int} (h : Fine st N O sy nb) (hs : s < N.length) (hz : 0 ≤ z ∧ z < (sy : Int)) : nxS N s z < N.length ∧ (N.getD s []).getD z.toNat 0 = (nxS N s z : Int) := by
  have hl := h.row s hs
  have hm : (N.getD s []).getD z.toNat 0 ∈ N.getD s [] := by
    rw [List.getD_eq_getElem?_getD (l := N.getD s []), List.getElem?_eq_getElem (by omega)]
    exact List.getElem_mem _
  have := h.num s hs _ hm
  unfold nxS
  omega
theorem Fine.st {st : Int} {N O : List (List Int)} {sy nb : Nat} {l : List Int} (h : Fine st N O sy nb) (hl : ∀ z ∈ l, 0 ≤ z ∧ z < (sy : Int)) : ∀ k, k ≤ l.length → stK N st.toNat l k < N.length
  | 0, _ => by have := h.start; show st.toNat < _; omega
  | k + 1, hk => by
    have ih := h.st hl k (by omega)
    have hm : l.getD k 0 ∈ l := by rw [List.getD_eq_getElem?_getD, List.getElem?_eq_getElem (by omega)]; exact List.getElem_mem _
    exact (h.next ih (hl _ hm)).1
/-- A run that is not refused. -/
theorem Fine.run {st : Int} {N O : List (List Int)} {sy nb : Nat} {l : List Int} (h : Fine st N O sy nb) (hl : ∀ z ∈ l, 0 ≤ z ∧ z < (sy : Int)) : runF N st l = some ((List.range (l.length + 1)).map fun k => (stK N st.toNat l k : Int)) := by
  have hst := h.start
  have step : ∀ k, k < l.length → stepF N (stK N st.toNat l k) (l.getD k 0) = some (stK N st.toNat l (k + 1)) := fun k hk => by
    have hs := h.st hl k (by omega)
    have hm : l.getD k 0 ∈ l := by rw [List.getD_eq_getElem?_getD, List.getElem?_eq_getElem (by omega)]; exact List.getElem_mem _
    have hz := hl _ hm
    obtain ⟨n1, n2⟩ := h.next hs hz
    unfold stepF
    rw [if_pos (by rw [h.row _ hs]; exact hz), n2, if_pos ((oneOf_iff _ _).2 ⟨by omega, by omega⟩), Int.toNat_natCast]
    rfl
  have key : ∀ d k, k + d = l.length → goF N ((List.range (k + 1)).map fun j => (stK N st.toNat l j : Int)) (stK N st.toNat l k) (l.drop k) = some ((List.range (l.length + 1)).map fun j => (stK N st.toNat l j : Int)) := by
    intro d
    induction d with
    | zero =>
      intro k hk
      rw [List.drop_of_length_le (by omega), goF]
      have : k = l.length := by omega
      rw [this]
    | succ d ih =>
      intro k hk
      have hkl : k < l.length := by omega
      have hg : l.getD k 0 = l[k] := by rw [List.getD_eq_getElem?_getD, List.getElem?_eq_getElem hkl]; rfl
      rw [goF_drop hkl, ← hg, step k hkl]
      have := ih (k + 1) (by omega)
      rw [List.range_succ, List.map_append] at this
      exact this
  unfold runF
  rw [if_pos ((oneOf_iff _ _).2 hst)]
  have := key l.length 0 (by omega)
  rw [List.drop_zero] at this
  have e : ((List.range (0 + 1)).map fun j => (stK N st.toNat l j : Int)) = [st] := by
    show [((stK N st.toNat l 0 : Nat) : Int)] = [st]
    unfold stK
    congr 1
    omega
  rw [e] at this
  exact this
theorem lstF_mem {a b : List Int} (h : ¬ lstF a b = -1) : lstF a b ∈ a := by
  unfold lstF at *
  cases e : a.find? (fun x => b.contains x) with
  | none => rw [e] at h; exact absurd rfl h
  | some x => exact List.mem_of_find?_eq_some e
end Go.Proofs.YtilnanefkbdbkaaDoor
namespace Go.Proofs
open Go.Shelf
def Tryd.lays225_ren : Go.Shelf.Ren := ⟨fun | 25 => 47 | 31 => 48 | 32 => 49 | 37 => 50 | n => n, fun | 22 => 28 | 3 => 3 | 4 => 4 | 40 => 69 | 0 => 0 | n => n, fun | n => n⟩
theorem Tryd.lays225 : Go.Proofs.Lays2.n25 Tryd.prog Tryd.lays225_ren := {
  mixed := by kernel_rfl
  f25 := Tryd.func47.trans (congrArg some (by kernel_rfl))
  f31 := Tryd.func48.trans (congrArg some (by kernel_rfl))
  f32 := Tryd.func49.trans (congrArg some (by kernel_rfl))
  f37 := Tryd.func50.trans (congrArg some (by kernel_rfl))
  t0 := Tryd.underlying0
  a0 := Tryd.isAgg0
  z0 := Tryd.sizeOf0
  v0 := Tryd.zeroValue0
  t3 := Tryd.underlying3
  a3 := Tryd.isAgg3
  z3 := Tryd.sizeOf3
  v3 := Tryd.zeroValue3
  t4 := Tryd.underlying4
  a4 := Tryd.isAgg4
  z4 := Tryd.sizeOf4
  v4 := Tryd.zeroValue4
  t22 := Tryd.underlying28
  a22 := Tryd.isAgg28
  z22 := Tryd.sizeOf28
  v22 := Tryd.zeroValue28
  t40 := Tryd.underlying69
  a40 := Tryd.isAgg69
  z40 := Tryd.sizeOf69
  v40 := Tryd.zeroValue69 }
end Go.Proofs
namespace Go.Proofs.YtilnanefkbdbkaaDoor
open Go.RowKit Go.Shelf
theorem Rs.at_le {L : List Int} (h : Rs L) {i j : Nat} (hi : i ≤ j) (hj : j < L.length) : L[i]'(by omega) ≤ L[j] := by
  rcases Nat.eq_or_lt_of_le hi with rfl | hlt
  · exact Int.le_refl _
  · have := List.pairwise_iff_getElem.1 h i j (by omega) hj hlt; omega
theorem IA.drop {w : World} {b off : Nat} {L : List Int} (h : IA w (some ⟨b, off, none⟩) L) (k : Nat) : IA w (some ⟨b, off + k, none⟩) (L.drop k) := ⟨fun j hj => by
  obtain ⟨b', o', e, h1, h2⟩ := h.at' (k + j) (by rw [List.length_drop] at hj; omega)
  cases e
  refine ⟨b, off + k, rfl, h1, ?_⟩
  rw [List.getElem_drop, Nat.add_assoc]
  exact h2⟩
theorem IA.none {w : World} {a : Option Addr} : IA w a [] := ⟨fun _k hk => absurd hk (Nat.not_lt_zero _)⟩
set_option maxRecDepth 10000 in
set_option maxHeartbeats 1600000 in
theorem startingAt_any (L : List Int) (b off c : Nat) (low : Int) (w : World) (hl : L.length ≤ 1000000000) (hc : L.length ≤ c) (hr : Rs L) (h0 : 0 < L.length) (ha : IA w (some ⟨b, off, none⟩) L) :
    Calls Tryd.prog 46 #[.slice (some ⟨b, off, none⟩) L.length c, .int .i64 low] w fun e w' => ∃ a', e = .returned (.slice a' (L.length - blw L low) (c - blw L low)) ∧ IA w a' (L.drop (blw L low)) ∧ ∃ n, w' = w.drewN n := by
  have HA := hid0 ha
  have HRs := hid0 hr
  have HBs : Hid (∀ (m n : Nat), m ≤ L.length → 0 < m → Calls Tryd.prog 47 #[.slice (some ⟨b, off, none⟩) m c, .int .i64 low] (w.drewN n) fun e w' => e = .returned (.tuple #[.int .i64 (blw (L.take m) low : Nat), .bool ((L.take m).contains low)]) ∧ ∃ q, w' = (w.drewN n).drewN q) := hid0 (fun m n hm _ => by
    refine Any.slices_BinarySearch_int Tryd.lays225 b off m c L low (w.drewN n) hm (by omega) (fun j hj => ?_) ?_
    · obtain ⟨b', o', e, h1, h2⟩ := ha.at' j hj
      cases e
      rw [List.getD_eq_getElem?_getD, List.getElem?_eq_getElem hj]
      exact h2
    · exact List.Pairwise.sublist (List.take_sublist m L) (List.Pairwise.imp (fun h => Int.le_of_lt h) hr))
  obtain ⟨k, hk⟩ : ∃ k, k = blw L low := ⟨_, rfl⟩
  have hkl : k ≤ L.length := by rw [hk]; exact blw_le _ _
  have HK := hid0 hk
  rw [← hk]
  clear ha hr hk
  have hcI : (L.length : Int) ≤ (c : Int) := by omega
  go_enter Tryd.func46, Tryd.ntmps46
  go_wp2
  go_loopw [5] (fun i wr => ∃ e : Nat, 1 ≤ e ∧ e ≤ 2000000000 ∧ i = .int .i64 (e : Int) ∧ wr = w) (fun i _ => L.length - (intOf i).toNat)
  case atStart => exact ⟨1, Nat.le_refl _, by omega, rfl, rfl⟩
  case round =>
    obtain ⟨e, he1, he2, rfl, rfl⟩ := hrel
    have fin : ∀ m, 0 < m → m ≤ L.length → (∀ z ∈ L.drop m, ¬ z < low) → blw (L.take m) low = blw L low := fun m _ _ h => blw_part h
    by_cases hel : e < L.length
    · have helI : (e : Int) < (L.length : Int) := by omega
      have hsub : IntKind.i64.wrap ((e : Int) - 1) = ((e - 1 : Nat) : Int) := by simp [IntKind.wrap, IntKind.bits, IntKind.signed]; omega
      obtain ⟨e1, hee⟩ : ∃ e1, e = e1 + 1 := ⟨e - 1, by omega⟩
      obtain ⟨b', o', eq, _, d1⟩ := HA.out.at' e1 (by omega)
      cases eq
      have hsub1 : IntKind.i64.wrap ((e : Int) - 1) = (e1 : Int) := by simp [IntKind.wrap, IntKind.bits, IntKind.signed]; omega
      have hsub2 : (e : Int) - 1 = (e1 : Int) := by omega
      have he1I : (e1 : Int) < (L.length : Int) := by omega
      have he1I0 : (0 : Int) ≤ (e1 : Int) := by omega
      have he1n : e1 < L.length := by omega
      by_cases hlow : L[e1] < low
      · have hmul : IntKind.i64.wrap ((e : Int) * 2) = (e : Int) * 2 := by simp [IntKind.wrap, IntKind.bits, IntKind.signed]; omega
        generalize L[e1] = z at *
        clear hee fin
        go_wp2
        go_roundw
        case rel => exact ⟨e * 2, by omega, by omega, by go_num, trivial⟩
        case measure => simp [intOf]; omega
      · have HFin := hid0 (fin e (by omega) (by omega) (fun z hz => by
          obtain ⟨k, hk, rfl⟩ := List.getElem_of_mem hz
          rw [List.getElem_drop]
          have := HRs.out.at_le (i := e1) (j := e + k) (by omega) (by rw [List.length_drop] at hk; omega)
          omega))
        have hmin : min (e : Int) (L.length : Int) = (e : Int) := by omega
        have HB := hid0 (HBs.out e 0 (by omega) (by omega))
        rw [HFin.out, ← HK.out] at HB
        generalize L[e1] = z at *
        generalize (L.take e).contains low = bf at *
        have hkI : (k : Int) ≤ (L.length : Int) := by omega
        have hkI0 : (0 : Int) ≤ (k : Int) := by omega
        have hec : (e : Int) ≤ (c : Int) := by omega
        have hkc : (k : Int) ≤ (c : Int) := by omega
        clear hee fin HFin
        go_wp2_with (go_at_call 47; go_loud ((
          refine HB.out.mono ?_
          rintro e w2 ⟨rfl, q, hw2⟩
          subst hw2)))
        all_goals (go_ret; first | exact ⟨_, rfl, HA.out.drop k, q, rfl⟩ | (refine ⟨_, rfl, ?_, q, rfl⟩; rw [List.drop_of_length_le (by omega)]; exact IA.none))
    · have helI : ¬ (e : Int) < (L.length : Int) := by omega
      have HFin := hid0 (fin L.length h0 (Nat.le_refl _) (fun z hz => by rw [List.drop_length] at hz; cases hz))
      have hmin : min (e : Int) (L.length : Int) = (L.length : Int) := by omega
      have HB := hid0 (HBs.out L.length 0 (Nat.le_refl _) h0)
      rw [HFin.out, ← HK.out] at HB
      generalize (L.take L.length).contains low = bf at *
      have hkI : (k : Int) ≤ (L.length : Int) := by omega
      have hkI0 : (0 : Int) ≤ (k : Int) := by omega
      have hkc : (k : Int) ≤ (c : Int) := by omega
      clear fin HFin
      go_wp2_with (go_at_call 47; go_loud ((
        refine HB.out.mono ?_
        rintro e w2 ⟨rfl, q, hw2⟩
        subst hw2)))
      all_goals (go_ret; first | exact ⟨_, rfl, HA.out.drop k, q, rfl⟩ | (refine ⟨_, rfl, ?_, q, rfl⟩; rw [List.drop_of_length_le (by omega)]; exact IA.none))
/-- Lists of which one is left. -/
theorem lens {a b : List Int} {x y : Int} (h : x ≠ y) : ((x :: a).drop (blw (x :: a) (max x y))).length + ((y :: b).drop (blw (y :: b) (max x y))).length < (x :: a).length + (y :: b).length := by
  have := blw_pos (a := a) (b := b) h
  have h1 := blw_le (x :: a) (max x y)
  have h2 := blw_le (y :: b) (max x y)
  rw [List.length_drop, List.length_drop]
  simp only [List.length_cons] at *
  omega
theorem cons_of {L : List Int} (h : 0 < L.length) : ∃ x l, L = x :: l := by
  cases L with
  | nil => simp at h
  | cons x l => exact ⟨x, l, rfl⟩
set_option maxRecDepth 10000 in
set_option maxHeartbeats 1600000 in
theorem leastOfBoth_any (P Q : List Int) (a b : Option Addr) (ca cb : Nat) (w : World) (hp : P.length ≤ 1000000000) (hq : Q.length ≤ 1000000000) (hca : P.length ≤ ca) (hcb : Q.length ≤ cb) (rp : Rs P) (rq : Rs Q) (ha : IA w a P) (hb : IA w b Q) :
    Calls Tryd.prog 43 #[.slice a P.length ca, .slice b Q.length cb] w fun e w' => e = .returned (.int .i64 (lstF P Q)) ∧ ∃ n, w' = w.drewN n := by
  obtain ⟨res, hres⟩ : ∃ res, res = lstF P Q := ⟨_, rfl⟩
  have HR := hid0 hres
  have HRP := hid0 rp
  have HRQ := hid0 rq
  have HA := hid0 ha
  have HB := hid0 hb
  rw [← hres]
  clear hres rp rq ha hb
  go_enter Tryd.func43, Tryd.ntmps43
  go_wp2
  go_loopw [0, 1] (fun va vb wr => ∃ (P' Q' : List Int) (a' b' : Option Addr) (ca' cb' : Nat), va = .slice a' P'.length ca' ∧ vb = .slice b' Q'.length cb' ∧ P'.length ≤ ca' ∧ Q'.length ≤ cb' ∧ P'.length ≤ 1000000000 ∧ Q'.length ≤ 1000000000 ∧ Hid (Rs P' ∧ Rs Q' ∧ IA w a' P' ∧ IA w b' Q' ∧ lstF P' Q' = res) ∧ ∃ n, wr = w.drewN n) (fun va vb _ => (match va with | .slice _ n _ => n | _ => 0) + (match vb with | .slice _ n _ => n | _ => 0))
  case atStart => exact ⟨P, Q, a, b, ca, cb, rfl, rfl, hca, hcb, hp, hq, hid0 ⟨HRP.out, HRQ.out, HA.out, HB.out, HR.out.symm⟩, 0, rfl⟩
  case round =>
    clear hp hq hca hcb HR HRP HRQ HA HB
    obtain ⟨P, Q, a, b, ca, cb, rfl, rfl, hca, hcb, hp, hq, HE, nd, rfl⟩ := hrel
    obtain ⟨rp, rq, ha, hb, hres⟩ := HE.out
    by_cases h1 : 0 < P.length
    · by_cases h2 : 0 < Q.length
      · obtain ⟨b1, o1, rfl, _, d1⟩ := ha.at' 0 h1
        obtain ⟨b2, o2, rfl, _, d2⟩ := hb.at' 0 h2
        obtain ⟨x, P', eP⟩ := cons_of h1
        obtain ⟨y, Q', eQ⟩ := cons_of h2
        have ex : P[0] = x := by simp [eP]
        have ey : Q[0] = y := by simp [eQ]
        rw [ex, Nat.add_zero] at d1
        rw [ey, Nat.add_zero] at d2
        have h1I : (P.length : Int) > 0 := by omega
        have h2I : (Q.length : Int) > 0 := by omega
        by_cases hxy : x = y
        · have HV : Hid (res = x) := hid0 (by rw [← hres, eP, eQ, hxy]; exact lstF_head (.head _))
          have hxy' : (x == y) = true := by simpa using hxy
          have HXy := hid0 hxy
          clear hxy HE rp rq ha hb hres ex ey eP eQ
          go_wp2
          go_quiet ((fail))
          go_wp2
          go_ret
          exact ⟨by rw [HV.out]; rfl, _, rfl⟩
        · have hxy' : (x == y) = false := by simpa using hxy
          obtain ⟨lw, hlw⟩ : ∃ lw, lw = max x y := ⟨_, rfl⟩
          have HLn := hid0 (lens (a := P') (b := Q') hxy)
          have HLo : Hid (lstF (P.drop (blw P lw)) (Q.drop (blw Q lw)) = res) := hid0 (by rw [hlw, ← hres, eP, eQ]; exact lstF_low (by rw [← eP]; exact rp) (by rw [← eQ]; exact rq))
          rw [← eP, ← eQ, ← hlw] at HLn
          have HRr : Hid (Rs (P.drop (blw P lw)) ∧ Rs (Q.drop (blw Q lw))) := hid0 ⟨rp.drop _, rq.drop _⟩
          have HS1 : Hid (∀ n, Calls Tryd.prog 46 #[.slice (some ⟨b1, o1, none⟩) P.length ca, .int .i64 lw] (w.drewN n) fun e w' => ∃ a', e = .returned (.slice a' (P.length - blw P lw) (ca - blw P lw)) ∧ IA w a' (P.drop (blw P lw)) ∧ ∃ m, w' = (w.drewN n).drewN m) := hid0 (fun n => startingAt_any P b1 o1 ca lw (w.drewN n) hp hca rp h1 ⟨ha.at'⟩ |>.mono (fun e w' ⟨a', h1, h2, h3⟩ => ⟨a', h1, ⟨h2.at'⟩, h3⟩))
          have HS2 : Hid (∀ n, Calls Tryd.prog 46 #[.slice (some ⟨b2, o2, none⟩) Q.length cb, .int .i64 lw] (w.drewN n) fun e w' => ∃ a', e = .returned (.slice a' (Q.length - blw Q lw) (cb - blw Q lw)) ∧ IA w a' (Q.drop (blw Q lw)) ∧ ∃ m, w' = (w.drewN n).drewN m) := hid0 (fun n => startingAt_any Q b2 o2 cb lw (w.drewN n) hq hcb rq h2 ⟨hb.at'⟩ |>.mono (fun e w' ⟨a', h1, h2, h3⟩ => ⟨a', h1, ⟨h2.at'⟩, h3⟩))
          have hmx := hlw.symm
          obtain ⟨k1, ek1⟩ : ∃ k, k = blw P lw := ⟨_, rfl⟩
          obtain ⟨k2, ek2⟩ : ∃ k, k = blw Q lw := ⟨_, rfl⟩
          have hk1 : k1 ≤ P.length := by rw [ek1]; exact blw_le _ _
          have hk2 : k2 ≤ Q.length := by rw [ek2]; exact blw_le _ _
          rw [← ek1, ← ek2] at HLn HLo HRr
          rw [← ek1] at HS1
          rw [← ek2] at HS2
          clear hxy hlw HE rp rq ha hb hres ex ey eP eQ ek1 ek2
          go_wp2
          go_quiet ((fail))
          go_wp2
          go_quiet ((fail))
          rw [World.drewN_drewN, World.drewN_drewN]
          go_wp2_with (first
            | (go_at_call 46; have hq0 := HQ0.out; refine (HS2.out n4).mono ?_; rintro e w2 ⟨a2, rfl, ia2, n5, hw2⟩; rw [World.drewN_drewN] at hw2; subst hw2; have HI2 := hid0 ia2; clear ia2 hq0)
            | (go_at_call 46; refine (HS1.out _).mono ?_; rintro e w1 ⟨a1, rfl, ia1, n4', hw1⟩; rw [World.drewN_drewN] at hw1; obtain ⟨n4, hn4⟩ : ∃ n4, w1 = w.drewN n4 := ⟨_, hw1⟩; clear hw1; subst hn4; have HI1 := hid0 ia1; have HQ0 : Hid True := hid0 trivial; clear ia1 HS1))
          have HL1 : Hid ((P.drop k1).length = P.length - k1) := hid0 (List.length_drop ..)
          have HL2 : Hid ((Q.drop k2).length = Q.length - k2) := hid0 (List.length_drop ..)
          go_roundw
          case rel => exact ⟨P.drop k1, Q.drop k2, a1, a2, ca - k1, cb - k2, by rw [HL1.out], by rw [HL2.out], by have := HL1.out; omega, by have := HL2.out; omega, by have := HL1.out; omega, by have := HL2.out; omega, hid0 ⟨HRr.out.1, HRr.out.2, HI1.out, HI2.out, HLo.out⟩, _, rfl⟩
          case measure => have h3 := HLn.out; have h4 := HL1.out; have h5 := HL2.out; simp only; omega
      · have h2I : ¬ (Q.length : Int) > 0 := by omega
        have h1I : (P.length : Int) > 0 := by omega
        have HV : Hid (res = -1) := hid0 (by rw [← hres, List.eq_nil_of_length_eq_zero (show Q.length = 0 by omega)]; exact lstF_nil2 _)
        clear HE rp rq ha hb hres
        go_wp2
        go_ret
        exact ⟨by rw [HV.out]; rfl, nd, rfl⟩
    · have h1I : ¬ (P.length : Int) > 0 := by omega
      have HV : Hid (res = -1) := hid0 (by rw [← hres, List.eq_nil_of_length_eq_zero (show P.length = 0 by omega)]; rfl)
      clear HE rp rq ha hb hres
      go_wp2
      go_ret
      exact ⟨by rw [HV.out]; rfl, nd, rfl⟩
end Go.Proofs.YtilnanefkbdbkaaDoor
namespace Go.Proofs.YtilnanefkbdbkaaDoor
open Go.RowKit Go.Shelf
set_option maxRecDepth 10000 in
set_option maxHeartbeats 800000 in
theorem isOneOf_any (n : Nat) (z : Int) (w : World) : Calls Tryd.prog 39 #[.int .i64 z, .int .i64 (n : Int)] w fun e w' => e = .returned (.bool (oneOf n z)) ∧ w' = w := by
  by_cases h : z ≥ 0
  · by_cases h2 : z < (n : Int)
    · have e : oneOf n z = true := (oneOf_iff n z).2 ⟨h, h2⟩
      rw [e]
      go_enter Tryd.func39, Tryd.ntmps39
      go_wp2
      go_ret
      exact ⟨rfl, rfl⟩
    · have e : oneOf n z = false := (oneOf_not n z).2 (fun q => h2 q.2)
      rw [e]
      go_enter Tryd.func39, Tryd.ntmps39
      go_wp2
      go_ret
      exact ⟨rfl, rfl⟩
  · have e : oneOf n z = false := (oneOf_not n z).2 (fun q => h q.1)
    rw [e]
    go_enter Tryd.func39, Tryd.ntmps39
    go_wp2
    go_ret
    exact ⟨rfl, rfl⟩
set_option maxRecDepth 10000 in
set_option maxHeartbeats 800000 in
theorem allOf_any (n : Nat) (L : List Int) (a : Option Addr) (c : Nat) (w : World) (hl : L.length ≤ 17592186043904) (ha : IA w a L) : Calls Tryd.prog 40 #[.slice a L.length c, .int .i64 (n : Int)] w fun e w' => e = .returned (.bool (L.all (oneOf n))) ∧ w' = w := by
  have HA := hid0 ha
  have HO := hid0 (fun z => isOneOf_any n z w)
  clear ha
  go_enter Tryd.func40, Tryd.ntmps40
  go_wp2
  go_loopw [9] (fun i wr => ∃ k : Nat, k ≤ L.length ∧ i = .int .i64 (k : Int) ∧ wr = w ∧ Hid ((L.drop k).all (oneOf n) = L.all (oneOf n))) (fun i _ => L.length - (intOf i).toNat)
  case atStart => exact ⟨0, Nat.zero_le _, rfl, rfl, hid0 rfl⟩
  case round =>
    obtain ⟨k, hk, rfl, rfl, HD⟩ := hrel
    by_cases hlt : k < L.length
    · obtain ⟨b, off, rfl, _, d1⟩ := HA.out.at' k hlt
      have hkI : (k : Int) < (L.length : Int) := by omega
      have hkI0 : (0 : Int) ≤ (k : Int) := by omega
      have HS := hid0 (all_drop (n := n) hlt)
      generalize L[k] = s at *
      have HOS := hid0 (HO.out s)
      cases hs : oneOf n s with
      | true =>
        rw [hs] at HOS
        have HD2 : Hid ((L.drop (k + 1)).all (oneOf n) = L.all (oneOf n)) := hid0 (by rw [← HD.out, HS.out, hs, Bool.true_and])
        clear HS HD hs
        go_wp2_with (go_at_call 39; refine HOS.out.mono ?_; rintro e w1 ⟨rfl, rfl⟩)
        go_roundw
        case rel => exact ⟨k + 1, by omega, by go_num, trivial, HD2⟩
        case measure => simp [intOf]; omega
      | false =>
        rw [hs] at HOS
        have HD2 : Hid (L.all (oneOf n) = false) := hid0 (by rw [← HD.out, HS.out, hs, Bool.false_and])
        clear HS HD hs
        go_wp2_with (go_at_call 39; refine HOS.out.mono ?_; rintro e w1 ⟨rfl, rfl⟩)
        go_ret
        exact ⟨by rw [HD2.out]; rfl, rfl⟩
    · have hkI : ¬ (k : Int) < (L.length : Int) := by omega
      have HD2 : Hid (L.all (oneOf n) = true) := hid0 (by rw [← HD.out]; exact all_end (by omega))
      clear HD
      go_wp2
      go_ret
      exact ⟨by rw [HD2.out]; rfl, rfl⟩
set_option maxRecDepth 10000 in
set_option maxHeartbeats 800000 in
theorem rises_any (pa : Int) (L : List Int) (a : Option Addr) (c : Nat) (w : World) (hl : L.length ≤ 17592186043904) (hpa : pa ≤ 9223372036854775807) (ha : IA w a L) : Calls Tryd.prog 41 #[.slice a L.length c, .int .i64 pa] w fun e w' => e = .returned (.bool (riseF pa 0 L)) ∧ w' = w := by
  have HA := hid0 ha
  clear ha
  go_enter Tryd.func41, Tryd.ntmps41
  go_wp2
  go_loopw [5, 10] (fun l i wr => ∃ (k : Nat) (lo : Int), k ≤ L.length ∧ 0 ≤ lo ∧ i = .int .i64 (k : Int) ∧ l = .int .i64 (lo) ∧ wr = w ∧ Hid (riseF pa lo (L.drop k) = riseF pa 0 L)) (fun _ i _ => L.length - (intOf i).toNat)
  case atStart => exact ⟨0, 0, Nat.zero_le _, Int.le_refl _, rfl, rfl, rfl, hid0 rfl⟩
  case round =>
    obtain ⟨k, lo, hk, hlo, rfl, rfl, rfl, HD⟩ := hrel
    by_cases hlt : k < L.length
    · obtain ⟨b, off, rfl, _, d1⟩ := HA.out.at' k hlt
      have hkI : (k : Int) < (L.length : Int) := by omega
      have hkI0 : (0 : Int) ≤ (k : Int) := by omega
      have HS := hid0 (riseF_drop (cnt := pa) (lo := lo) hlt)
      generalize L[k] = s at *
      by_cases h1 : s < lo
      · have HD2 : Hid (riseF pa 0 L = false) := hid0 (by rw [← HD.out, HS.out, decide_eq_false (by omega)]; rfl)
        clear HS HD
        go_wp2
        go_ret
        exact ⟨by rw [HD2.out]; rfl, rfl⟩
      · by_cases h2 : s ≥ pa
        · have HD2 : Hid (riseF pa 0 L = false) := hid0 (by rw [← HD.out, HS.out, decide_eq_false (p := s < pa) (by omega), Bool.and_false]; rfl)
          clear HS HD
          go_wp2
          go_ret
          exact ⟨by rw [HD2.out]; rfl, rfl⟩
        · have HD2 : Hid (riseF pa (s + 1) (L.drop (k + 1)) = riseF pa 0 L) := hid0 (by rw [← HD.out, HS.out, decide_eq_true (p := s < pa) (by omega), decide_eq_true (p := lo ≤ s) (by omega)]; rfl)
          clear HS HD
          go_wp2
          go_roundw
          case rel => exact ⟨k + 1, s + 1, by omega, by omega, by go_num, by go_num, trivial, HD2⟩
          case measure => simp [intOf]; omega
    · have hkI : ¬ (k : Int) < (L.length : Int) := by omega
      have HD2 : Hid (riseF pa 0 L = true) := hid0 (by rw [← HD.out]; exact riseF_end (by omega))
      clear HD
      go_wp2
      go_ret
      exact ⟨by rw [HD2.out]; rfl, rfl⟩
set_option maxRecDepth 10000 in
set_option maxHeartbeats 800000 in
theorem refRises_any (pa : Int) (L : List Int) (a : Option Addr) (c : Nat) (w : World) (hl : L.length ≤ 17592186043904) (ha : IA w a L) : Calls Tryd.prog 45 #[.slice a L.length c, .int .i64 pa] w fun e w' => e = .returned (.bool (riseF pa 0 L)) ∧ w' = w := by
  have HA := hid0 ha
  clear ha
  go_enter Tryd.func45, Tryd.ntmps45
  go_wp2
  go_loopw [5, 6] (fun l i wr => ∃ (k : Nat) (lo : Int), k ≤ L.length ∧ 0 ≤ lo ∧ i = .int .i64 (k : Int) ∧ l = .int .i64 (lo - 1) ∧ wr = w ∧ Hid (riseF pa lo (L.drop k) = riseF pa 0 L)) (fun _ i _ => L.length - (intOf i).toNat)
  case atStart => exact ⟨0, 0, Nat.zero_le _, Int.le_refl _, rfl, rfl, rfl, hid0 rfl⟩
  case round =>
    obtain ⟨k, lo, hk, hlo, rfl, rfl, rfl, HD⟩ := hrel
    by_cases hlt : k < L.length
    · obtain ⟨b, off, rfl, _, d1⟩ := HA.out.at' k hlt
      have hkI : (k : Int) < (L.length : Int) := by omega
      have hkI0 : (0 : Int) ≤ (k : Int) := by omega
      have HS := hid0 (riseF_drop (cnt := pa) (lo := lo) hlt)
      generalize L[k] = s at *
      by_cases h1 : s ≤ lo - 1
      · have HD2 : Hid (riseF pa 0 L = false) := hid0 (by rw [← HD.out, HS.out, decide_eq_false (by omega)]; rfl)
        clear HS HD
        go_wp2
        go_ret
        exact ⟨by rw [HD2.out]; rfl, rfl⟩
      · by_cases h2 : s ≥ pa
        · have HD2 : Hid (riseF pa 0 L = false) := hid0 (by rw [← HD.out, HS.out, decide_eq_false (p := s < pa) (by omega), Bool.and_false]; rfl)
          clear HS HD
          go_wp2
          go_ret
          exact ⟨by rw [HD2.out]; rfl, rfl⟩
        · have HD2 : Hid (riseF pa (s + 1) (L.drop (k + 1)) = riseF pa 0 L) := hid0 (by rw [← HD.out, HS.out, decide_eq_true (p := s < pa) (by omega), decide_eq_true (p := lo ≤ s) (by omega)]; rfl)
          clear HS HD
          go_wp2
          go_roundw
          case rel => exact ⟨k + 1, s + 1, by omega, by omega, by go_num, by congr 1; omega, trivial, HD2⟩
          case measure => simp [intOf]; omega
    · have hkI : ¬ (k : Int) < (L.length : Int) := by omega
      have HD2 : Hid (riseF pa 0 L = true) := hid0 (by rw [← HD.out]; exact riseF_end (by omega))
      clear HD
      go_wp2
      go_ret
      exact ⟨by rw [HD2.out]; rfl, rfl⟩
set_option maxRecDepth 10000 in
set_option maxHeartbeats 800000 in
theorem sameI (l : List Int) (a b : Option Addr) (ca cb : Nat) (w : World) (hl : l.length ≤ 17592186044000) (ha : IA w a l) (hb : IA w b l) :
    Calls Tryd.prog 11 #[.slice a l.length ca, .slice b l.length cb] w fun e w' => e = .returned (.bool true) ∧ ∃ n, w' = w.drewN n := by
  have HA := hid0 ha
  have HB := hid0 hb
  clear ha hb
  go_enter Tryd.func11, Tryd.ntmps11
  go_wp2
  go_loopw [5] (fun i wr => ∃ k : Nat, k ≤ l.length ∧ i = .int .i64 (k : Int) ∧ ∃ n, wr = w.drewN n) (fun i _ => l.length - (intOf i).toNat)
  case atStart => exact ⟨0, Nat.zero_le _, rfl, 0, rfl⟩
  case round =>
    obtain ⟨k, hk, rfl, nd, rfl⟩ := hrel
    by_cases hlt : k < l.length
    · obtain ⟨b1, o1, rfl, _, d1⟩ := HA.out.at' k hlt
      obtain ⟨b2, o2, rfl, _, d2⟩ := HB.out.at' k hlt
      have hkI : (k : Int) < (l.length : Int) := by omega
      have hkI0 : (0 : Int) ≤ (k : Int) := by omega
      generalize l[k] = s at *
      have hself : (s == s) = true := by simp
      go_wp2
      go_quiet ((fail))
      go_wp2
      go_roundw
      case rel => exact ⟨k + 1, by omega, by go_num, _, rfl⟩
      case measure => simp [intOf]; omega
    · have hkI : ¬ (k : Int) < (l.length : Int) := by omega
      go_wp2
      go_ret
      exact ⟨rfl, nd, rfl⟩
end Go.Proofs.YtilnanefkbdbkaaDoor
namespace Go.Proofs.YtilnanefkbdbkaaDoor
open Go.RowKit Go.Shelf
/-- A refusal, or none. -/
def errC (A : Nat → Addr) (b : Bool) : Value := if b then .nilIface else .iface 71 (.pointer (some (A 0)))
theorem getD_at {L : List (List Int)} {k : Nat} (h : k < L.length) : L.getD k [] = L[k] := by rw [List.getD_eq_getElem?_getD, List.getElem?_eq_getElem h]; rfl
theorem mul_small {n : Nat} {sy : Int} (h1 : n ≤ 16384) (h2 : 0 ≤ sy) (h3 : sy ≤ 16384) : 0 ≤ (n : Int) * sy ∧ (n : Int) * sy ≤ 268435456 := by
  refine ⟨Int.mul_nonneg (by omega) h2, ?_⟩
  calc (n : Int) * sy ≤ 16384 * 16384 := Int.mul_le_mul (by omega) h3 h2 (by omega)
    _ = 268435456 := by decide
set_option maxRecDepth 10000 in
set_option maxHeartbeats 1600000 in
theorem check_any (A : Nat → Addr) (st sy pa : Int) (N O : List (List Int)) (aN aO : Option Addr) (cN cO : Nat) (w : World) (hN : N.length ≤ 17592186043904) (hNr : ∀ r ∈ N, r.length ≤ 17592186043904) (hOr : ∀ r ∈ O, r.length ≤ 17592186043904) (hpa : pa ≤ 9223372036854775807) (ha : RwA w aN N) (hb : RwA w aO O) (he : Sents w A) :
    Calls Tryd.prog 24 #[.agg #[.int .i64 st, .slice aN N.length cN, .slice aO O.length cO], .int .i64 sy, .int .i64 pa] w fun e w' => e = .returned (errC A (chkF st N O sy pa)) ∧ Below w.heap.size w w' := by
  obtain ⟨w0, hw0⟩ : ∃ w0, w0 = w.alloc (.cells #[.int .i64 st, .slice aN N.length cN, .slice aO O.length cO] 24) := ⟨_, rfl⟩
  have hB0 : Below w.heap.size w w0 := by rw [hw0]; exact (Below.refl _ _).alloc (Nat.le_refl _) _
  have hX0 : w0.heap[w.heap.size]? = some (.cells #[.int .i64 st, .slice aN N.length cN, .slice aO O.length cO] 24 (0, 0)) := by rw [hw0]; exact heap_alloc_new w _
  have HB0 := hid0 hB0
  have HA := hid0 (ha.past hB0)
  have HB := hid0 (hb.past hB0)
  have x0 : w0.cell? ⟨w.heap.size, 0, none⟩ = some (.int .i64 st) := by rw [cell_of_row _ _ _ _ _ _ hX0]; rfl
  have x1 : w0.cell? ⟨w.heap.size, 1, none⟩ = some (.slice aN N.length cN) := by rw [cell_of_row _ _ _ _ _ _ hX0]; rfl
  have x2 : w0.cell? ⟨w.heap.size, 2, none⟩ = some (.slice aO O.length cO) := by rw [cell_of_row _ _ _ _ _ _ hX0]; rfl
  have e0 := (he.below hB0).c0
  have HNr := hid0 hNr
  have HOr := hid0 hOr
  clear ha hb he hB0 hX0 hNr hOr
  have hfold := hw0.symm
  clear hw0
  by_cases h0 : sy < 1
  case pos =>
    have HV : Hid (chkF st N O sy pa = false) := hid0 (by unfold chkF; rw [decide_eq_false (by omega)]; rfl)
    go_enter Tryd.func24, Tryd.ntmps24
    go_wp2
    go_ret
    exact ⟨by rw [HV.out]; rfl, HB0.out⟩
  by_cases h1 : sy > 16384
  case pos =>
    have HV : Hid (chkF st N O sy pa = false) := hid0 (by unfold chkF; rw [decide_eq_false (by omega)]; rfl)
    go_enter Tryd.func24, Tryd.ntmps24
    go_wp2
    go_ret
    exact ⟨by rw [HV.out]; rfl, HB0.out⟩
  by_cases h2 : pa < 0
  case pos =>
    have HV : Hid (chkF st N O sy pa = false) := hid0 (by unfold chkF; rw [decide_eq_false (by omega)]; rfl)
    go_enter Tryd.func24, Tryd.ntmps24
    go_wp2
    go_ret
    exact ⟨by rw [HV.out]; rfl, HB0.out⟩
  by_cases h3 : (N.length : Int) < 1
  case pos =>
    have HV : Hid (chkF st N O sy pa = false) := hid0 (by unfold chkF; rw [decide_eq_false (by omega)]; rfl)
    go_enter Tryd.func24, Tryd.ntmps24
    go_wp2
    go_ret
    exact ⟨by rw [HV.out]; rfl, HB0.out⟩
  by_cases h4 : (N.length : Int) > 16384
  case pos =>
    have HV : Hid (chkF st N O sy pa = false) := hid0 (by unfold chkF; rw [decide_eq_false (by omega)]; rfl)
    go_enter Tryd.func24, Tryd.ntmps24
    go_wp2
    go_ret
    exact ⟨by rw [HV.out]; rfl, HB0.out⟩
  by_cases h5 : (O.length : Int) = (N.length : Int)
  case neg =>
    have HV : Hid (chkF st N O sy pa = false) := hid0 (by unfold chkF; rw [decide_eq_false (by omega)]; rfl)
    go_enter Tryd.func24, Tryd.ntmps24
    go_wp2
    go_ret
    exact ⟨by rw [HV.out]; rfl, HB0.out⟩
  obtain ⟨m0, m1⟩ := mul_small (n := N.length) (sy := sy) (by omega) (by omega) (by omega)
  obtain ⟨q, hq⟩ : ∃ q, q = (N.length : Int) * sy := ⟨_, rfl⟩
  rw [← hq] at m0 m1
  by_cases h6 : q > 4194304
  case pos =>
    have HV : Hid (chkF st N O sy pa = false) := hid0 (by unfold chkF; rw [decide_eq_false (by omega)]; rfl)
    have hq' := hq.symm
    clear hq
    go_enter Tryd.func24, Tryd.ntmps24
    go_wp2
    go_ret
    exact ⟨by rw [HV.out]; rfl, HB0.out⟩
  have HC : Hid (chkF st N O sy pa = (oneOf N.length st && (List.range N.length).all fun j => rowF N.length sy pa (N.getD j []) (O.getD j []))) := hid0 (by unfold chkF; rw [decide_eq_true (by omega), Bool.true_and])
  have hq' := hq.symm
  clear hq
  have HON := hid0 (isOneOf_any N.length st w0)
  cases h7 : oneOf N.length st with
  | false =>
    rw [h7] at HON
    have HV : Hid (chkF st N O sy pa = false) := hid0 (by rw [HC.out, h7]; rfl)
    clear HC h7
    go_enter Tryd.func24, Tryd.ntmps24
    go_wp2_with (go_at_call 39; refine HON.out.mono ?_; rintro e w1 ⟨rfl, hw1⟩; have hw1' := hw1.symm; subst hw1'; clear hw1)
    go_ret
    exact ⟨by rw [HV.out]; rfl, HB0.out⟩
  | true =>
    rw [h7] at HON
    rw [h7, Bool.true_and] at HC
    clear h7
    go_enter Tryd.func24, Tryd.ntmps24
    go_wp2_with (go_at_call 39; refine HON.out.mono ?_; rintro e w1 ⟨rfl, hw1⟩; have hw1' := hw1.symm; subst hw1'; clear hw1)
    go_loopw [50] (fun i wr => ∃ k : Nat, k ≤ N.length ∧ i = .int .i64 (k : Int) ∧ wr = w0 ∧ Hid ((List.range k).all (fun j => rowF N.length sy pa (N.getD j []) (O.getD j [])) = true)) (fun i _ => N.length - (intOf i).toNat)
    case atStart => exact ⟨0, Nat.zero_le _, rfl, rfl, hid0 rfl⟩
    case round =>
      obtain ⟨k, hk, rfl, hwr, HD⟩ := hrel
      subst hwr
      by_cases hlt : k < N.length
      · have hlo : k < O.length := by omega
        obtain ⟨b, off, rfl, _, a1, c1, d1, i1⟩ := HA.out.at' k hlt
        obtain ⟨b2, off2, rfl, _, a2, c2, d2, i2⟩ := HB.out.at' k hlo
        have HAll := hid0 (allOf_any N.length N[k] a1 c1 wr (HNr.out _ (List.getElem_mem hlt)) i1)
        have HRis := hid0 (rises_any pa O[k] a2 c2 wr (HOr.out _ (List.getElem_mem hlo)) hpa i2)
        have HRow : Hid (rowF N.length sy pa (N.getD k []) (O.getD k []) = (decide ((N[k].length : Int) = sy) && N[k].all (oneOf N.length) && riseF pa 0 O[k])) := hid0 (by rw [getD_at hlt, getD_at hlo]; rfl)
        have hkI : (k : Int) < (N.length : Int) := by omega
        have hkI0 : (0 : Int) ≤ (k : Int) := by omega
        have hkO : (k : Int) < (O.length : Int) := by omega
        clear i1 i2
        generalize N[k] = r at *
        generalize O[k] = o at *
        by_cases g1 : (r.length : Int) = sy
        case neg =>
          have HV : Hid (chkF st N O sy pa = false) := hid0 (by rw [HC.out]; exact range_bad hlt (by rw [HRow.out, decide_eq_false g1]; rfl))
          clear HC HD HRow
          go_wp2
          go_ret
          exact ⟨by rw [HV.out]; rfl, HB0.out⟩
        cases g2 : r.all (oneOf N.length) with
        | false =>
          rw [g2] at HAll
          have HV : Hid (chkF st N O sy pa = false) := hid0 (by rw [HC.out]; exact range_bad hlt (by rw [HRow.out, g2, Bool.and_false]; rfl))
          clear HC HD HRow g2
          go_wp2_with (go_at_call 40; refine HAll.out.mono ?_; rintro e w1 ⟨rfl, hw1⟩; have hw1' := hw1.symm; subst hw1'; clear hw1)
          go_ret
          exact ⟨by rw [HV.out]; rfl, HB0.out⟩
        | true =>
          rw [g2] at HAll
          cases g3 : riseF pa 0 o with
          | false =>
            rw [g3] at HRis
            have HV : Hid (chkF st N O sy pa = false) := hid0 (by rw [HC.out]; exact range_bad hlt (by rw [HRow.out, g3, Bool.and_false]))
            clear HC HD HRow g2 g3
            go_wp2_with (first
              | (go_at_call 40; refine HAll.out.mono ?_; rintro e w1 ⟨rfl, hw1⟩; have hw1' := hw1.symm; subst hw1'; clear hw1)
              | (go_at_call 41; refine HRis.out.mono ?_; rintro e w1 ⟨rfl, hw1⟩; have hw1' := hw1.symm; subst hw1'; clear hw1))
            go_ret
            exact ⟨by rw [HV.out]; rfl, HB0.out⟩
          | true =>
            rw [g3] at HRis
            have HD2 : Hid ((List.range (k + 1)).all (fun j => rowF N.length sy pa (N.getD j []) (O.getD j [])) = true) := hid0 (range_snoc HD.out (by rw [HRow.out, g2, g3, decide_eq_true g1]; rfl))
            clear HD HRow g2 g3
            go_wp2_with (first
              | (go_at_call 40; refine HAll.out.mono ?_; rintro e w1 ⟨rfl, hw1⟩; have hw1' := hw1.symm; subst hw1'; clear hw1)
              | (go_at_call 41; refine HRis.out.mono ?_; rintro e w1 ⟨rfl, hw1⟩; have hw1' := hw1.symm; subst hw1'; clear hw1))
            go_roundw
            case rel => exact ⟨k + 1, by omega, by go_num, trivial, HD2⟩
            case measure => simp [intOf]; omega
      · have hkI : ¬ (k : Int) < (N.length : Int) := by omega
        have hkn : k = N.length := by omega
        have HV : Hid (chkF st N O sy pa = true) := hid0 (by rw [HC.out]; have h := HD.out; rw [hkn] at h; exact h)
        clear HC HD hkn
        go_wp2
        go_ret
        exact ⟨by rw [HV.out]; rfl, HB0.out⟩
end Go.Proofs.YtilnanefkbdbkaaDoor
namespace Go.Proofs.YtilnanefkbdbkaaDoor
open Go.RowKit Go.Shelf
theorem wpList_make_one {ops : Array Oper} {rest : List Oper} {o : Oper} {a : Act} {w : World} {Q : Exit → Act → World → Prop} (hg : o.guard = none) (l c : Operand) (hop : o.op = Op.makeSlice 28 l c)
    (base : Nat) (C : Int) (n : Nat) (hl : a.eval l = .int .i64 1) (hc : a.eval c = .int .i64 C) (hC : C = (n : Int)) (h1 : 1 ≤ n) (hn : n ≤ 17592186044416) (hb : base ≤ w.heap.size)
    (hK : ∀ w', OwnI w' base (.slice (some ⟨w.heap.size, 0, none⟩) 1 n) [0] → w.grownBy w' none → wpList Tryd.prog ops Q rest (a.put o.dst (.slice (some ⟨w.heap.size, 0, none⟩) 1 n)) w') :
    wpList Tryd.prog ops Q (o :: rest) a w := by
  obtain ⟨i, hi, hz0, hz1, hz2⟩ := info_parts infoInt
  refine wpList_plain hg fun K hK' => ?_
  subst hC
  have hr := run_make (P := Tryd.prog) w 28 3 i (.int .i64 0) Tryd.underlying28 hi hz0 .i64 .i64 1 n (by omega) (by omega) (by rw [hz2]; omega) (by omega)
  have e1 : (1 : Int).toNat = 1 := rfl
  have e2 : ((n : Int)).toNat = n := Int.toNat_natCast n
  simp only [e1, e2, hz1] at hr
  unfold Oper.wp
  simp [execOp, hop, hl, hc, hr, Result.andThen]
  refine hK' _ _ (hK _ ?_ (World.grownBy_alloc w _ none))
  refine ⟨rfl, .inr ⟨w.heap.size, n, _, rfl, hb, heap_alloc_new w _, h1, by unfold maxLen; omega, ?_, ?_⟩⟩
  · first | exact size_madeCells _ _ | (rw [size_madeCells]; simp)
  · obtain ⟨m, rfl⟩ : ∃ m, n = m + 1 := ⟨n - 1, by omega⟩
    simp only [madeCells, Value.cells, Array.toList_map, Array.toList_range, List.range_succ_eq_map]
    simp
theorem oneOf_call {n : Nat} {z : Int} {b : Bool} (h : oneOf n z = b) (w : World) : Calls Tryd.prog 39 #[.int .i64 z, .int .i64 (n : Int)] w fun e w' => e = .returned (.bool b) ∧ w' = w := by subst h; exact isOneOf_any n z w
theorem OwnI.past {w w' : World} {base : Nat} {v : Value} {L : List Int} (h : OwnI w base v L) (hb : Below w.heap.size w w') : OwnI w' base v L := own_blk h (fun k hk => hb.block k (World.ownsRow.lt h k hk).2)
theorem stepF_none1 {N : List (List Int)} {s : Nat} {z : Int} (h : ¬ (0 ≤ z ∧ z < ((N.getD s []).length : Int))) : stepF N s z = none := by unfold stepF; rw [if_neg h]
theorem stepF_at {N : List (List Int)} {s k : Nat} (hk : k < (N.getD s []).length) : stepF N s (k : Int) = if oneOf N.length (N.getD s [])[k] then some ((N.getD s [])[k]).toNat else none := by
  unfold stepF
  rw [if_pos (by omega), Int.toNat_natCast, List.getD_eq_getElem?_getD (l := N.getD s []), List.getElem?_eq_getElem hk]
  rfl
set_option maxRecDepth 10000 in
set_option maxHeartbeats 1600000 in
theorem run_any (A : Nat → Addr) (st : Int) (N : List (List Int)) (l : List Int) (aN aO aw : Option Addr) (cN nO cO cw : Nat) (w : World) (hNr : ∀ r ∈ N, r.length ≤ 17592186043904) (hl : l.length ≤ 17592186043904) (ha : RwA w aN N) (hb : IA w aw l) (he : Sents w A) :
    Calls Tryd.prog 27 #[.agg #[.int .i64 st, .slice aN N.length cN, .slice aO nO cO], .slice aw l.length cw] w fun e w' => ∃ v, e = .returned (.tuple #[v, errC A (runF N st l).isSome]) ∧ OwnI w' w.heap.size v ((runF N st l).getD []) ∧ Below w.heap.size w w' := by
  obtain ⟨w0, hw0⟩ : ∃ w0, w0 = w.alloc (.cells #[.int .i64 st, .slice aN N.length cN, .slice aO nO cO] 24) := ⟨_, rfl⟩
  have hB0 : Below w.heap.size w w0 := by rw [hw0]; exact (Below.refl _ _).alloc (Nat.le_refl _) _
  have hX0 : w0.heap[w.heap.size]? = some (.cells #[.int .i64 st, .slice aN N.length cN, .slice aO nO cO] 24 (0, 0)) := by rw [hw0]; exact heap_alloc_new w _
  have hs0 : w0.heap.size = w.heap.size + 1 := by rw [hw0]; simp
  have HB0 := hid0 hB0
  have HS0 := hid0 hs0
  have HA := hid0 (ha.past hB0)
  have HI := hid0 (hb.past hB0)
  have HE := hid0 (he.below hB0)
  have x0 : w0.cell? ⟨w.heap.size, 0, none⟩ = some (.int .i64 st) := by rw [cell_of_row _ _ _ _ _ _ hX0]; rfl
  have x1 : w0.cell? ⟨w.heap.size, 1, none⟩ = some (.slice aN N.length cN) := by rw [cell_of_row _ _ _ _ _ _ hX0]; rfl
  have HX1 := hid0 x1
  have e0 := HE.out.c0
  have HNr := hid0 hNr
  clear ha hb he hB0 hX0 hNr hs0
  have hfold := hw0.symm
  clear hw0
  have HON := hid0 (fun W => isOneOf_any N.length st W)
  cases h7 : oneOf N.length st with
  | false =>
    rw [h7] at HON
    have HV : Hid (runF N st l = none) := hid0 (by unfold runF; rw [h7]; rfl)
    clear h7
    go_enter Tryd.func27, Tryd.ntmps27
    go_wp2_with (go_at_call 39; refine (HON.out _).mono ?_; rintro e w1 ⟨rfl, hw1⟩; have hw1' := hw1.symm; subst hw1'; clear hw1)
    go_quiet ((fail))
    go_wp2
    go_returns
    refine ⟨.slice none 0 0, ?_, ?_, ?_⟩
    · rw [HV.out]; rfl
    · rw [HV.out]; exact World.ownsRow_nil _ _ _ _
    · exact below_drew' HB0.out _
  | true =>
    rw [h7] at HON
    obtain ⟨s0, hs0⟩ : ∃ s0 : Nat, st = (s0 : Int) := ⟨st.toNat, by have := (oneOf_iff _ _).1 h7; omega⟩
    subst hs0
    have hs0 : s0 < N.length := by have := (oneOf_iff _ _).1 h7; omega
    have HR0 : Hid (goF N [(s0 : Int)] s0 (l.drop 0) = runF N (s0 : Int) l) := hid0 (by unfold runF; rw [h7]; rfl)
    clear h7
    go_enter Tryd.func27, Tryd.ntmps27
    go_wp2_with (first
      | (go_at_call 39; refine (HON.out _).mono ?_; rintro e w1 ⟨rfl, hw1⟩; have hw1' := hw1.symm; subst hw1'; clear hw1)
      | (at_make; refine wpList_make_one rfl _ _ rfl w0.heap.size _ (l.length + 1) rfl rfl (by go_num) (by omega) (by omega) (Nat.le_refl _) ?_; intro w1 hown1 hgrow1; have HO1 := hid0 hown1; have HG1 := hid0 hgrow1; have f1 : w1.frozen? ⟨w0.heap.size, 0, none⟩ = false := World.ownsRow.frozenAt hown1 0; have c1 : w1.cell? ⟨w0.heap.size, 0, none⟩ = some (.int .i64 0) := (World.ownsRow.cellAt hown1 0 (by decide)).trans rfl; clear hown1 hgrow1)
      | fail)
    have HO2 : Hid (OwnI (w1.setCell ⟨w0.heap.size, 0, none⟩ (.int .i64 (s0 : Int))) w0.heap.size (.slice (some ⟨w0.heap.size, 0, none⟩) 1 (l.length + 1)) [(s0 : Int)]) := hid0 (by have h := (World.ownsRow.stored HO1.out 0 (.int .i64 (s0 : Int))).1; exact h)
    have HB2 : Hid (Below w0.heap.size w0 (w1.setCell ⟨w0.heap.size, 0, none⟩ (.int .i64 (s0 : Int)))) := hid0 (((Below.refl _ w0).grown HG1.out (Nat.le_refl _) (fun k hk => by cases hk)).setCell (p := ⟨w0.heap.size, 0, none⟩) (Nat.le_refl _) _)
    clear HO1 HG1
    go_loopw [6, 7, 29] (fun s v i wr => ∃ (k q : Nat) (acc : List Int), k ≤ l.length ∧ q < N.length ∧ s = .int .i64 (q : Int) ∧ i = .int .i64 (k : Int) ∧ Hid (OwnI wr w0.heap.size v acc) ∧ Hid (acc.length = k + 1) ∧ Hid (goF N acc q (l.drop k) = runF N (s0 : Int) l) ∧ Hid (Below w0.heap.size w0 wr)) (fun _ _ i _ => l.length - (intOf i).toNat)
    case atStart => exact ⟨0, s0, [(s0 : Int)], Nat.zero_le _, hs0, rfl, rfl, HO2, hid0 rfl, HR0, HB2⟩
    case round =>
      clear HO2 HB2 HR0 e0 f1 c1 x0 x1 HON
      obtain ⟨k, q, acc, hk, hq, rfl, rfl, HO, HL, HG, HB⟩ := hrel
      have x1 : wr.cell? ⟨w.heap.size, 1, none⟩ = some (.slice aN N.length cN) := (HB.out.cell (p := ⟨w.heap.size, 1, none⟩) (by have := HS0.out; show w.heap.size < w0.heap.size; omega)).trans HX1.out
      have e0 := (HE.out.below HB.out).c0
      by_cases hlt : k < l.length
      · obtain ⟨b, off, rfl, _, d1⟩ := (HI.out.past HB.out).at' k hlt
        obtain ⟨b2, off2, rfl, _, a2, c2, d2, i2⟩ := (HA.out.past HB.out).at' q hq
        have HI2 := hid0 i2
        clear i2
        have hkI : (k : Int) < (l.length : Int) := by omega
        have hkI0 : (0 : Int) ≤ (k : Int) := by omega
        have hqI : (q : Int) < (N.length : Int) := by omega
        have hqI0 : (0 : Int) ≤ (q : Int) := by omega
        have HGD := hid0 (goF_drop (N := N) (acc := acc) (s := q) hlt)
        have hgd := getD_at hq
        have hrl := HNr.out _ (List.getElem_mem hq)
        generalize l[k] = z at *
        by_cases g1 : 0 ≤ z ∧ z < (N[q].length : Int)
        case neg =>
          have HV : Hid (runF N (s0 : Int) l = none) := hid0 (by rw [← HG.out, HGD.out, stepF_none1 (by rw [hgd]; exact g1)])
          have HZ := hid0 ((oneOf_not _ _).2 g1)
          clear HG HGD HO HI2 hgd
          generalize N[q] = r at *
          go_wp2
          go_quiet ((go_at_call 39; exact (oneOf_call HZ.out _).mono (fun _ _ h => ⟨h.1, _, h.2⟩)))
          go_wp2
          go_quiet ((fail))
          go_wp2
          go_returns
          refine ⟨.slice none 0 0, ?_, ?_, ?_⟩
          · rw [HV.out]; rfl
          · rw [HV.out]; exact World.ownsRow_nil _ _ _ _
          · exact Below.later HB0.out (below_drew' (below_drew' HB.out _) _)
        obtain ⟨j, rfl⟩ : ∃ j : Nat, z = (j : Int) := ⟨z.toNat, by omega⟩
        have hj : j < N[q].length := by omega
        have HZ := hid0 ((oneOf_iff _ _).2 g1)
        have HST := hid0 (stepF_at (N := N) (s := q) (k := j) (by rw [hgd]; exact hj))
        have hgj : (N.getD q [])[j]'(by rw [hgd]; exact hj) = N[q][j] := by simp only [hgd]
        rw [hgj] at HST
        clear hgj hgd
        generalize N[q] = r at *
        obtain ⟨b3, off3, rfl, _, d3⟩ := HI2.out.at' j hj
        have hjI : (j : Int) < (r.length : Int) := by omega
        have hjI0 : (0 : Int) ≤ (j : Int) := by omega
        generalize r[j] = t at *
        cases g2 : oneOf N.length t with
        | false =>
          have HT := hid0 g2
          rw [g2] at HST
          have HV : Hid (runF N (s0 : Int) l = none) := hid0 (by rw [← HG.out, HGD.out, HST.out]; rfl)
          clear HG HGD HO HI2 HST g2
          go_wp2
          go_quiet ((go_at_call 39; first | exact (oneOf_call (by first | exact HT.out | exact HZ.out) _).mono (fun _ _ h => ⟨h.1, _, h.2⟩)))
          go_wp2
          go_quiet ((fail))
          go_wp2
          go_returns
          refine ⟨.slice none 0 0, ?_, ?_, ?_⟩
          · rw [HV.out]; rfl
          · rw [HV.out]; exact World.ownsRow_nil _ _ _ _
          · exact Below.later HB0.out (below_drew' (below_drew' HB.out _) _)
        | true =>
          have HT := hid0 g2
          rw [g2] at HST
          have ht := (oneOf_iff _ _).1 g2
          obtain ⟨p, rfl⟩ : ∃ p : Nat, t = (p : Int) := ⟨t.toNat, by omega⟩
          have hp : p < N.length := by omega
          have HG2 : Hid (goF N (acc ++ [(p : Int)]) p (l.drop (k + 1)) = runF N (s0 : Int) l) := hid0 (by rw [← HG.out, HGD.out, HST.out]; rfl)
          have HO' : Hid (wr.ownsRow w0.heap.size 3 1 u7 (k + 1) (acc.map (Value.int .i64))) := hid0 (by have h := HO.out; unfold OwnI at h; rw [HL.out] at h; exact h)
          clear HG HGD HST g2 ht HI2
          obtain ⟨i0, hi, hz0, hz1, hz2⟩ := info_parts infoInt
          go_wp2
          go_quiet ((go_at_call 39; first | exact (oneOf_call (by first | exact HT.out | exact HZ.out) _).mono (fun _ _ h => ⟨h.1, _, h.2⟩)))
          have hsz := HB.out.size
          go_wp2_with (at_builtin; refine wpList_append_own _ rfl _ _ 28 rfl w0.heap.size 3 i0 (.int .i64 0) 1 8 Tryd.underlying28 hi hz0 hz1 hz2 rfl (by decide) _ (k + 1) (acc.map (Value.int .i64)) rfl (World.ownsRow.alloc (show World.ownsRow (World.drewN wr _) _ _ _ _ _ _ from HO'.out) _) ⟨wr.heap.size, 0, none⟩ 1 1 [.int .i64 (p : Int)] rfl rfl (cell_one_new _ _ _) (by simp [Value.oneCell']) (by unfold maxLen; omega) (by omega) (by simp; omega) ?_; intro v2 w4 hown' hgrow _; have HH := hid0 (ownI_snoc (w := w0) (base := w0.heap.size) (L := acc) (c := (p : Int)) (n := k + 1) HL.out.symm (show OwnI (World.drewN wr _) _ _ _ from HO.out) hown' hgrow (below_drew' HB.out _) (Nat.le_refl _)); clear hown' hgrow)
          have HO4 := hid0 HH.out.1
          have HB4 := hid0 HH.out.2
          have HL4 : Hid ((acc ++ [(p : Int)]).length = k + 1 + 1) := hid0 (by rw [List.length_append, HL.out]; rfl)
          clear HH HO HO' HB HL
          go_roundw
          case rel => exact ⟨k + 1, p, _, by omega, hp, rfl, by go_num, HO4, HL4, HG2, HB4⟩
          case measure => simp [intOf]; omega
      · have hkI : ¬ (k : Int) < (l.length : Int) := by omega
        have HV : Hid (runF N (s0 : Int) l = some acc) := hid0 (by rw [← HG.out, List.drop_of_length_le (by omega), goF])
        clear HG
        go_wp2
        go_returns
        refine ⟨u7, ?_, ?_, ?_⟩
        · rw [HV.out]; rfl
        · rw [HV.out]; exact owns_lower HO.out (by have := HS0.out; omega)
        · exact Below.later HB0.out HB.out
end Go.Proofs.YtilnanefkbdbkaaDoor
namespace Go.Proofs.YtilnanefkbdbkaaDoor
open Go.RowKit Go.Shelf
/-- The number of a refusal, or none. -/
def numC (b : Bool) : Int := if b then 0 else 1
set_option maxRecDepth 10000 in
set_option maxHeartbeats 1600000 in
theorem refCheck_any (st sy pa : Int) (N O : List (List Int)) (aN aO : Option Addr) (cN cO : Nat) (w : World) (hN : N.length ≤ 17592186043904) (hNr : ∀ r ∈ N, r.length ≤ 17592186043904) (hOr : ∀ r ∈ O, r.length ≤ 17592186043904) (ha : RwA w aN N) (hb : RwA w aO O) :
    Calls Tryd.prog 38 #[.agg #[.int .i64 st, .slice aN N.length cN, .slice aO O.length cO], .int .i64 sy, .int .i64 pa] w fun e w' => e = .returned (.int .i64 (numC (chkF st N O sy pa))) ∧ Below w.heap.size w w' := by
  obtain ⟨w0, hw0⟩ : ∃ w0, w0 = w.alloc (.cells #[.int .i64 st, .slice aN N.length cN, .slice aO O.length cO] 24) := ⟨_, rfl⟩
  have hB0 : Below w.heap.size w w0 := by rw [hw0]; exact (Below.refl _ _).alloc (Nat.le_refl _) _
  have hX0 : w0.heap[w.heap.size]? = some (.cells #[.int .i64 st, .slice aN N.length cN, .slice aO O.length cO] 24 (0, 0)) := by rw [hw0]; exact heap_alloc_new w _
  have HB0 := hid0 hB0
  have HA := hid0 (ha.past hB0)
  have HB := hid0 (hb.past hB0)
  have x0 : w0.cell? ⟨w.heap.size, 0, none⟩ = some (.int .i64 st) := by rw [cell_of_row _ _ _ _ _ _ hX0]; rfl
  have x1 : w0.cell? ⟨w.heap.size, 1, none⟩ = some (.slice aN N.length cN) := by rw [cell_of_row _ _ _ _ _ _ hX0]; rfl
  have x2 : w0.cell? ⟨w.heap.size, 2, none⟩ = some (.slice aO O.length cO) := by rw [cell_of_row _ _ _ _ _ _ hX0]; rfl
  have HNr := hid0 hNr
  have HOr := hid0 hOr
  clear ha hb hB0 hX0 hNr hOr
  have hfold := hw0.symm
  clear hw0
  by_cases h0 : sy < 1
  case pos =>
    have HV : Hid (chkF st N O sy pa = false) := hid0 (by unfold chkF; rw [decide_eq_false (by omega)]; rfl)
    go_enter Tryd.func38, Tryd.ntmps38
    go_wp2
    go_ret
    exact ⟨by rw [HV.out]; rfl, HB0.out⟩
  by_cases h1 : sy > 16384
  case pos =>
    have HV : Hid (chkF st N O sy pa = false) := hid0 (by unfold chkF; rw [decide_eq_false (by omega)]; rfl)
    go_enter Tryd.func38, Tryd.ntmps38
    go_wp2
    go_ret
    exact ⟨by rw [HV.out]; rfl, HB0.out⟩
  by_cases h2 : pa < 0
  case pos =>
    have HV : Hid (chkF st N O sy pa = false) := hid0 (by unfold chkF; rw [decide_eq_false (by omega)]; rfl)
    go_enter Tryd.func38, Tryd.ntmps38
    go_wp2
    go_ret
    exact ⟨by rw [HV.out]; rfl, HB0.out⟩
  by_cases h3 : (N.length : Int) < 1
  case pos =>
    have HV : Hid (chkF st N O sy pa = false) := hid0 (by unfold chkF; rw [decide_eq_false (by omega)]; rfl)
    go_enter Tryd.func38, Tryd.ntmps38
    go_wp2
    go_ret
    exact ⟨by rw [HV.out]; rfl, HB0.out⟩
  by_cases h4 : (N.length : Int) > 16384
  case pos =>
    have HV : Hid (chkF st N O sy pa = false) := hid0 (by unfold chkF; rw [decide_eq_false (by omega)]; rfl)
    go_enter Tryd.func38, Tryd.ntmps38
    go_wp2
    go_ret
    exact ⟨by rw [HV.out]; rfl, HB0.out⟩
  by_cases h5 : (O.length : Int) = (N.length : Int)
  case neg =>
    have HV : Hid (chkF st N O sy pa = false) := hid0 (by unfold chkF; rw [decide_eq_false (by omega)]; rfl)
    go_enter Tryd.func38, Tryd.ntmps38
    go_wp2
    go_ret
    exact ⟨by rw [HV.out]; rfl, HB0.out⟩
  obtain ⟨m0, m1⟩ := mul_small (n := N.length) (sy := sy) (by omega) (by omega) (by omega)
  obtain ⟨q, hq⟩ : ∃ q, q = (N.length : Int) * sy := ⟨_, rfl⟩
  rw [← hq] at m0 m1
  by_cases h6 : q > 4194304
  case pos =>
    have HV : Hid (chkF st N O sy pa = false) := hid0 (by unfold chkF; rw [decide_eq_false (by omega)]; rfl)
    have hq' := hq.symm
    clear hq
    go_enter Tryd.func38, Tryd.ntmps38
    go_wp2
    go_ret
    exact ⟨by rw [HV.out]; rfl, HB0.out⟩
  have HC : Hid (chkF st N O sy pa = (oneOf N.length st && (List.range N.length).all fun j => rowF N.length sy pa (N.getD j []) (O.getD j []))) := hid0 (by unfold chkF; rw [decide_eq_true (by omega), Bool.true_and])
  have hq' := hq.symm
  clear hq
  by_cases g : st < 0
  case pos =>
    have HV : Hid (chkF st N O sy pa = false) := hid0 (by rw [HC.out, (oneOf_not N.length st).2 (by omega)]; rfl)
    clear HC
    go_enter Tryd.func38, Tryd.ntmps38
    go_wp2
    go_ret
    exact ⟨by rw [HV.out]; rfl, HB0.out⟩
  have g0 := g
  clear g
  by_cases g : st ≥ (N.length : Int)
  case pos =>
    have HV : Hid (chkF st N O sy pa = false) := hid0 (by rw [HC.out, (oneOf_not N.length st).2 (by omega)]; rfl)
    clear HC
    go_enter Tryd.func38, Tryd.ntmps38
    go_wp2
    go_ret
    exact ⟨by rw [HV.out]; rfl, HB0.out⟩
  have g1 := g
  clear g
  rw [(oneOf_iff N.length st).2 (by omega), Bool.true_and] at HC
  go_enter Tryd.func38, Tryd.ntmps38
  go_wp2
  go_loopw [8] (fun i wr => ∃ k : Nat, k ≤ N.length ∧ i = .int .i64 (k : Int) ∧ wr = w0 ∧ Hid ((List.range k).all (fun j => rowF N.length sy pa (N.getD j []) (O.getD j [])) = true)) (fun i _ => N.length - (intOf i).toNat)
  case atStart => exact ⟨0, Nat.zero_le _, rfl, rfl, hid0 rfl⟩
  case round =>
    obtain ⟨k, hk, rfl, hwr, HD⟩ := hrel
    subst hwr
    by_cases hlt : k < N.length
    · have hlo : k < O.length := by omega
      obtain ⟨b, off, rfl, _, a1, c1, d1, i1⟩ := HA.out.at' k hlt
      obtain ⟨b2, off2, rfl, _, a2, c2, d2, i2⟩ := HB.out.at' k hlo
      have HI := hid0 i1
      have HRis := hid0 (refRises_any pa O[k] a2 c2 wr (HOr.out _ (List.getElem_mem hlo)) i2)
      have HRow : Hid (rowF N.length sy pa (N.getD k []) (O.getD k []) = (decide ((N[k].length : Int) = sy) && N[k].all (oneOf N.length) && riseF pa 0 O[k])) := hid0 (by rw [getD_at hlt, getD_at hlo]; rfl)
      have hrl := HNr.out _ (List.getElem_mem hlt)
      have hkI : (k : Int) < (N.length : Int) := by omega
      have hkI0 : (0 : Int) ≤ (k : Int) := by omega
      have hkO : (k : Int) < (O.length : Int) := by omega
      clear i1 i2
      generalize N[k] = r at *
      generalize O[k] = o at *
      by_cases g2 : (r.length : Int) = sy
      case neg =>
        have HV : Hid (chkF st N O sy pa = false) := hid0 (by rw [HC.out]; exact range_bad hlt (by rw [HRow.out, decide_eq_false g2]; rfl))
        clear HC HD HRow
        go_wp2
        go_ret
        exact ⟨by rw [HV.out]; rfl, HB0.out⟩
      go_wp2
      go_loopw [9] (fun i w2 => ∃ j : Nat, j ≤ r.length ∧ i = .int .i64 (j : Int) ∧ w2 = wr ∧ Hid ((r.drop j).all (oneOf N.length) = r.all (oneOf N.length))) (fun i _ => r.length - (intOf i).toNat)
      case atStart => exact ⟨0, Nat.zero_le _, rfl, rfl, hid0 rfl⟩
      case round =>
        obtain ⟨j, hj, rfl, hw2, HE⟩ := hrel
        have hw2' := hw2.symm
        subst hw2'
        clear hw2
        by_cases hjl : j < r.length
        · obtain ⟨b3, off3, rfl, _, d3⟩ := HI.out.at' j hjl
          have hjI : (j : Int) < sy := by omega
          have hjL : (j : Int) < (r.length : Int) := by omega
          have hjI0 : (0 : Int) ≤ (j : Int) := by omega
          have HS := hid0 (all_drop (n := N.length) hjl)
          generalize r[j] = s at *
          by_cases q1 : s < 0
          case pos =>
            have HV : Hid (chkF st N O sy pa = false) := hid0 (by rw [HC.out]; exact range_bad hlt (by rw [HRow.out, ← HE.out, HS.out, (oneOf_not N.length s).2 (by omega), Bool.false_and, Bool.and_false]; rfl))
            clear HC HD HRow HE HS
            go_wp2
            go_ret
            exact ⟨by rw [HV.out]; rfl, HB0.out⟩
          by_cases q2 : s ≥ (N.length : Int)
          case pos =>
            have HV : Hid (chkF st N O sy pa = false) := hid0 (by rw [HC.out]; exact range_bad hlt (by rw [HRow.out, ← HE.out, HS.out, (oneOf_not N.length s).2 (by omega), Bool.false_and, Bool.and_false]; rfl))
            clear HC HD HRow HE HS
            go_wp2
            go_ret
            exact ⟨by rw [HV.out]; rfl, HB0.out⟩
          have HE2 : Hid ((r.drop (j + 1)).all (oneOf N.length) = r.all (oneOf N.length)) := hid0 (by rw [← HE.out, HS.out, (oneOf_iff N.length s).2 (by omega), Bool.true_and])
          clear HE HS
          go_wp2
          go_roundw
          case rel => exact ⟨j + 1, by omega, by go_num, trivial, HE2⟩
          case measure => simp [intOf]; omega
        · have hjI : ¬ (j : Int) < sy := by omega
          have HE2 : Hid (r.all (oneOf N.length) = true) := hid0 (by rw [← HE.out]; exact all_end (by omega))
          clear HE
          cases g3 : riseF pa 0 o with
          | false =>
            rw [g3] at HRis
            have HV : Hid (chkF st N O sy pa = false) := hid0 (by rw [HC.out]; exact range_bad hlt (by rw [HRow.out, g3, Bool.and_false]))
            clear HC HD HRow g3
            go_wp2_with (go_at_call 45; refine HRis.out.mono ?_; rintro e w1 ⟨rfl, hw1⟩; have hw1' := hw1.symm; subst hw1'; clear hw1)
            go_ret
            exact ⟨by rw [HV.out]; rfl, HB0.out⟩
          | true =>
            rw [g3] at HRis
            have HD2 : Hid ((List.range (k + 1)).all (fun j => rowF N.length sy pa (N.getD j []) (O.getD j [])) = true) := hid0 (range_snoc HD.out (by rw [HRow.out, HE2.out, g3, decide_eq_true g2]; rfl))
            clear HD HRow g3
            go_wp2_with (go_at_call 45; refine HRis.out.mono ?_; rintro e w1 ⟨rfl, hw1⟩; have hw1' := hw1.symm; subst hw1'; clear hw1)
            go_roundw
            case rel => exact ⟨k + 1, by omega, by go_num, trivial, HD2⟩
            case measure => simp [intOf]; omega
    · have hkI : ¬ (k : Int) < (N.length : Int) := by omega
      have hkn : k = N.length := by omega
      have HV : Hid (chkF st N O sy pa = true) := hid0 (by rw [HC.out]; have h := HD.out; rw [hkn] at h; exact h)
      clear HC HD hkn
      go_wp2
      go_ret
      exact ⟨by rw [HV.out]; rfl, HB0.out⟩
end Go.Proofs.YtilnanefkbdbkaaDoor
namespace Go.Proofs.YtilnanefkbdbkaaDoor
open Go.RowKit Go.Shelf
theorem own_one (w : World) (lo : Nat) (z : Int) (h : lo ≤ w.heap.size) : OwnI (w.alloc (.cells #[.int .i64 z] 3)) lo (.slice (some ⟨w.heap.size, 0, none⟩) 1 1) [z] :=
  ⟨rfl, .inr ⟨w.heap.size, 1, #[.int .i64 z], rfl, h, heap_alloc_new w _, Nat.le_refl _, by decide, rfl, rfl⟩⟩
set_option maxRecDepth 10000 in
set_option maxHeartbeats 1600000 in
theorem refRun_any (st : Int) (N : List (List Int)) (l : List Int) (aN aO aw : Option Addr) (cN nO cO cw : Nat) (w : World) (hNr : ∀ r ∈ N, r.length ≤ 17592186043904) (hl : l.length ≤ 17592186043904) (ha : RwA w aN N) (hb : IA w aw l) :
    Calls Tryd.prog 30 #[.agg #[.int .i64 st, .slice aN N.length cN, .slice aO nO cO], .slice aw l.length cw] w fun e w' => ∃ v, e = .returned (.tuple #[v, .int .i64 (numC (runF N st l).isSome)]) ∧ OwnI w' w.heap.size v ((runF N st l).getD []) ∧ Below w.heap.size w w' := by
  obtain ⟨w0, hw0⟩ : ∃ w0, w0 = w.alloc (.cells #[.int .i64 st, .slice aN N.length cN, .slice aO nO cO] 24) := ⟨_, rfl⟩
  have hB0 : Below w.heap.size w w0 := by rw [hw0]; exact (Below.refl _ _).alloc (Nat.le_refl _) _
  have hX0 : w0.heap[w.heap.size]? = some (.cells #[.int .i64 st, .slice aN N.length cN, .slice aO nO cO] 24 (0, 0)) := by rw [hw0]; exact heap_alloc_new w _
  have hs0 : w0.heap.size = w.heap.size + 1 := by rw [hw0]; simp
  have HB0 := hid0 hB0
  have HS0 := hid0 hs0
  have HA := hid0 (ha.past hB0)
  have HI := hid0 (hb.past hB0)
  have x0 : w0.cell? ⟨w.heap.size, 0, none⟩ = some (.int .i64 st) := by rw [cell_of_row _ _ _ _ _ _ hX0]; rfl
  have x1 : w0.cell? ⟨w.heap.size, 1, none⟩ = some (.slice aN N.length cN) := by rw [cell_of_row _ _ _ _ _ _ hX0]; rfl
  have HX1 := hid0 x1
  have HNr := hid0 hNr
  clear ha hb hB0 hX0 hNr hs0
  have hfold := hw0.symm
  clear hw0
  by_cases g : st < 0
  case pos =>
    have HV : Hid (runF N st l = none) := hid0 (by unfold runF; rw [(oneOf_not N.length st).2 (by omega)]; rfl)
    go_enter Tryd.func30, Tryd.ntmps30
    go_wp2
    go_returns
    refine ⟨.slice none 0 0, ?_, ?_, ?_⟩
    · rw [HV.out]; rfl
    · rw [HV.out]; exact World.ownsRow_nil _ _ _ _
    · exact HB0.out
  have g0 := g
  clear g
  by_cases g : st ≥ (N.length : Int)
  case pos =>
    have HV : Hid (runF N st l = none) := hid0 (by unfold runF; rw [(oneOf_not N.length st).2 (by omega)]; rfl)
    go_enter Tryd.func30, Tryd.ntmps30
    go_wp2
    go_returns
    refine ⟨.slice none 0 0, ?_, ?_, ?_⟩
    · rw [HV.out]; rfl
    · rw [HV.out]; exact World.ownsRow_nil _ _ _ _
    · exact HB0.out
  have g1 := g
  clear g
  obtain ⟨s0, hs0⟩ : ∃ s0 : Nat, st = (s0 : Int) := ⟨st.toNat, by omega⟩
  subst hs0
  have hs0 : s0 < N.length := by omega
  have HR0 : Hid (goF N [(s0 : Int)] s0 (l.drop 0) = runF N (s0 : Int) l) := hid0 (by unfold runF; rw [(oneOf_iff N.length (s0 : Int)).2 (by omega)]; rfl)
  have HO2 : Hid (OwnI (w0.alloc (.cells #[.int .i64 (s0 : Int)] 3)) w0.heap.size (.slice (some ⟨w0.heap.size, 0, none⟩) 1 1) [(s0 : Int)]) := hid0 (own_one w0 _ _ (Nat.le_refl _))
  have HB2 : Hid (Below w0.heap.size w0 (w0.alloc (.cells #[.int .i64 (s0 : Int)] 3))) := hid0 ((Below.refl _ w0).alloc (Nat.le_refl _) _)
  go_enter Tryd.func30, Tryd.ntmps30
  go_wp2
  go_loopw [6, 7, 8] (fun s v i wr => ∃ (k q : Nat) (acc : List Int), k ≤ l.length ∧ q < N.length ∧ s = .int .i64 (q : Int) ∧ i = .int .i64 (k : Int) ∧ Hid (OwnI wr w0.heap.size v acc) ∧ Hid (acc.length = k + 1) ∧ Hid (goF N acc q (l.drop k) = runF N (s0 : Int) l) ∧ Hid (Below w0.heap.size w0 wr)) (fun _ _ i _ => l.length - (intOf i).toNat)
  case atStart => exact ⟨0, s0, [(s0 : Int)], Nat.zero_le _, hs0, rfl, rfl, HO2, hid0 rfl, HR0, HB2⟩
  case round =>
    clear HO2 HB2 HR0 x0 x1
    obtain ⟨k, q, acc, hk, hq, rfl, rfl, HO, HL, HG, HB⟩ := hrel
    have x1 : wr.cell? ⟨w.heap.size, 1, none⟩ = some (.slice aN N.length cN) := (HB.out.cell (p := ⟨w.heap.size, 1, none⟩) (by have := HS0.out; show w.heap.size < w0.heap.size; omega)).trans HX1.out
    by_cases hlt : k < l.length
    · obtain ⟨b, off, rfl, _, d1⟩ := (HI.out.past HB.out).at' k hlt
      obtain ⟨b2, off2, rfl, _, a2, c2, d2, i2⟩ := (HA.out.past HB.out).at' q hq
      have HI2 := hid0 i2
      clear i2
      have hkI : (k : Int) < (l.length : Int) := by omega
      have hkI0 : (0 : Int) ≤ (k : Int) := by omega
      have hqI : (q : Int) < (N.length : Int) := by omega
      have hqI0 : (0 : Int) ≤ (q : Int) := by omega
      have HGD := hid0 (goF_drop (N := N) (acc := acc) (s := q) hlt)
      have hgd := getD_at hq
      have hrl := HNr.out _ (List.getElem_mem hq)
      generalize l[k] = z at *
      by_cases g2 : z < 0
      case pos =>
        have HV : Hid (runF N (s0 : Int) l = none) := hid0 (by rw [← HG.out, HGD.out, stepF_none1 (by rw [hgd]; omega)])
        have hd : decide (z < 0) = true := decide_eq_true g2
        clear HG HGD HO HI2 hgd
        generalize N[q] = r at *
        go_wp2
        go_quiet ((fail))
        go_wp2
        go_returns
        refine ⟨.slice none 0 0, ?_, ?_, ?_⟩
        · rw [HV.out]; rfl
        · rw [HV.out]; exact World.ownsRow_nil _ _ _ _
        · exact Below.later HB0.out (below_drew' HB.out _)
      have hd0 : decide (z < 0) = false := decide_eq_false g2
      by_cases g3 : z ≥ (N[q].length : Int)
      case pos =>
        have HV : Hid (runF N (s0 : Int) l = none) := hid0 (by rw [← HG.out, HGD.out, stepF_none1 (by rw [hgd]; omega)])
        have hd : decide (z ≥ (N[q].length : Int)) = true := decide_eq_true g3
        clear HG HGD HO HI2 hgd
        generalize N[q] = r at *
        go_wp2
        go_quiet ((fail))
        go_wp2
        go_returns
        refine ⟨.slice none 0 0, ?_, ?_, ?_⟩
        · rw [HV.out]; rfl
        · rw [HV.out]; exact World.ownsRow_nil _ _ _ _
        · exact Below.later HB0.out (below_drew' HB.out _)
      obtain ⟨j, rfl⟩ : ∃ j : Nat, z = (j : Int) := ⟨z.toNat, by omega⟩
      have hj : j < N[q].length := by omega
      have HST := hid0 (stepF_at (N := N) (s := q) (k := j) (by rw [hgd]; exact hj))
      have hgj : (N.getD q [])[j]'(by rw [hgd]; exact hj) = N[q][j] := by simp only [hgd]
      rw [hgj] at HST
      clear hgj hgd
      generalize N[q] = r at *
      obtain ⟨b3, off3, rfl, _, d3⟩ := HI2.out.at' j hj
      have hd1 : decide ((j : Int) ≥ (r.length : Int)) = false := decide_eq_false g3
      have hjI : (j : Int) < (r.length : Int) := by omega
      have hjI0 : (0 : Int) ≤ (j : Int) := by omega
      generalize r[j] = t at *
      by_cases q0 : t < 0
      case pos =>
        have HV : Hid (runF N (s0 : Int) l = none) := hid0 (by rw [← HG.out, HGD.out, HST.out, (oneOf_not N.length t).2 (by omega)]; rfl)
        clear HG HGD HO HI2 HST
        go_wp2
        go_quiet ((fail))
        go_wp2
        go_quiet ((fail))
        go_wp2
        go_returns
        refine ⟨.slice none 0 0, ?_, ?_, ?_⟩
        · rw [HV.out]; rfl
        · rw [HV.out]; exact World.ownsRow_nil _ _ _ _
        · exact Below.later HB0.out (below_drew' HB.out _)
      by_cases q1 : t ≥ (N.length : Int)
      case pos =>
        have HV : Hid (runF N (s0 : Int) l = none) := hid0 (by rw [← HG.out, HGD.out, HST.out, (oneOf_not N.length t).2 (by omega)]; rfl)
        clear HG HGD HO HI2 HST
        go_wp2
        go_quiet ((fail))
        go_wp2
        go_quiet ((fail))
        go_wp2
        go_returns
        refine ⟨.slice none 0 0, ?_, ?_, ?_⟩
        · rw [HV.out]; rfl
        · rw [HV.out]; exact World.ownsRow_nil _ _ _ _
        · exact Below.later HB0.out (below_drew' HB.out _)
      obtain ⟨p, rfl⟩ : ∃ p : Nat, t = (p : Int) := ⟨t.toNat, by omega⟩
      have hp : p < N.length := by omega
      have HG2 : Hid (goF N (acc ++ [(p : Int)]) p (l.drop (k + 1)) = runF N (s0 : Int) l) := hid0 (by rw [← HG.out, HGD.out, HST.out, (oneOf_iff N.length (p : Int)).2 (by omega)]; rfl)
      have HO' : Hid (wr.ownsRow w0.heap.size 3 1 u7 (k + 1) (acc.map (Value.int .i64))) := hid0 (by have h := HO.out; unfold OwnI at h; rw [HL.out] at h; exact h)
      clear HG HGD HST HI2
      obtain ⟨i0, hi, hz0, hz1, hz2⟩ := info_parts infoInt
      have hsz := HB.out.size
      go_wp2
      go_quiet ((fail))
      go_wp2
      go_quiet ((fail))
      go_wp2_with (at_builtin; refine wpList_append_own _ rfl _ _ 28 rfl w0.heap.size 3 i0 (.int .i64 0) 1 8 Tryd.underlying28 hi hz0 hz1 hz2 rfl (by decide) _ (k + 1) (acc.map (Value.int .i64)) rfl (World.ownsRow.alloc (show World.ownsRow (World.drewN wr _) _ _ _ _ _ _ from HO'.out) _) ⟨wr.heap.size, 0, none⟩ 1 1 [.int .i64 (p : Int)] rfl rfl (cell_one_new _ _ _) (by simp [Value.oneCell']) (by unfold maxLen; omega) (by omega) (by simp; omega) ?_; intro v2 w4 hown' hgrow _; have HH := hid0 (ownI_snoc (w := w0) (base := w0.heap.size) (L := acc) (c := (p : Int)) (n := k + 1) HL.out.symm (show OwnI (World.drewN wr _) _ _ _ from HO.out) hown' hgrow (below_drew' HB.out _) (Nat.le_refl _)); clear hown' hgrow)
      have HO4 := hid0 HH.out.1
      have HB4 := hid0 HH.out.2
      have HL4 : Hid ((acc ++ [(p : Int)]).length = k + 1 + 1) := hid0 (by rw [List.length_append, HL.out]; rfl)
      clear HH HO HO' HB HL
      go_roundw
      case rel => exact ⟨k + 1, p, _, by omega, hp, rfl, by go_num, HO4, HL4, HG2, HB4⟩
      case measure => simp [intOf]; omega
    · have hkI : ¬ (k : Int) < (l.length : Int) := by omega
      have HV : Hid (runF N (s0 : Int) l = some acc) := hid0 (by rw [← HG.out, List.drop_of_length_le (by omega), goF])
      clear HG
      go_wp2
      go_returns
      refine ⟨u7, ?_, ?_, ?_⟩
      · rw [HV.out]; rfl
      · rw [HV.out]; exact owns_lower HO.out (by have := HS0.out; omega)
      · exact Below.later HB0.out HB.out
end Go.Proofs.YtilnanefkbdbkaaDoor
