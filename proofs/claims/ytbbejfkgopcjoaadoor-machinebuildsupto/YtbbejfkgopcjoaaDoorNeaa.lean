/-
  MrM, SentW, MrBW, PlAW, PlM, PlCW, PlDW.
-/
import Derived.Test.YtbbejfkgopcjoaaDoorProg
import Derived.WalkKit
import Derived.WalkSpells
import Derived.WalkLawsBesides
import Derived.Deep.QuietTactic
import Derived.BigQuiet
import Derived.LaidEql
import Derived.KernelRfl
import Derived.Handy
import Derived.Maps.AppendAt
import Derived.Shelf.Abstract
import Derived.Lib.SlicesS
import Derived.Deep.DeepAppendRoom
import Derived.Deep.AppendLies
import Derived.Deep.RegionHeld3
import Derived.Lib.SmallJoins
namespace Go.Proofs.YtbbejfkgopcjoaaDoor
/-- Is it one of so many? -/
def oneOf (n : Nat) (z : Int) : Bool := decide (0 ≤ z) && decide (z < (n : Int))
/-- Does a list rise, from lo on to below cnt? -/
def riseF (cnt : Int) : Int → List Int → Bool
  | _, [] => true
  | lo, z :: l => decide (lo ≤ z) && decide (z < cnt) && riseF cnt (z + 1) l
theorem oneOf_iff (n : Nat) (z : Int) : oneOf n z = true ↔ 0 ≤ z ∧ z < (n : Int) := by unfold oneOf; simp
theorem riseF_drop {cnt lo : Int} {l : List Int} {k : Nat} (hk : k < l.length) : riseF cnt lo (l.drop k) = (decide (lo ≤ l[k]) && decide (l[k] < cnt) && riseF cnt (l[k] + 1) (l.drop (k + 1))) := by
  rw [List.drop_eq_getElem_cons hk, riseF]
theorem riseF_end {cnt lo : Int} {l : List Int} {k : Nat} (hk : l.length ≤ k) : riseF cnt lo (l.drop k) = true := by
  rw [List.drop_of_length_le hk, riseF]
end Go.Proofs.YtbbejfkgopcjoaaDoor
namespace Go.Proofs.YtbbejfkgopcjoaaDoor
open Go.RowKit
/-- The eleven refusals: each variable's cell, each its own object. -/
structure Sents (w : World) (A : Nat → Addr) : Prop where
  c0 : w.cell? ⟨0, 0, none⟩ = some (.iface 157 (.pointer (some (A 0))))
  c1 : w.cell? ⟨2, 0, none⟩ = some (.iface 157 (.pointer (some (A 1))))
  c2 : w.cell? ⟨1, 0, none⟩ = some (.iface 157 (.pointer (some (A 2))))
  c3 : w.cell? ⟨3, 0, none⟩ = some (.iface 157 (.pointer (some (A 3))))
  c4 : w.cell? ⟨4, 0, none⟩ = some (.iface 157 (.pointer (some (A 4))))
  c5 : w.cell? ⟨6, 0, none⟩ = some (.iface 157 (.pointer (some (A 5))))
  c6 : w.cell? ⟨5, 0, none⟩ = some (.iface 157 (.pointer (some (A 6))))
  c7 : w.cell? ⟨7, 0, none⟩ = some (.iface 157 (.pointer (some (A 7))))
  c8 : w.cell? ⟨8, 0, none⟩ = some (.iface 157 (.pointer (some (A 8))))
  c9 : w.cell? ⟨9, 0, none⟩ = some (.iface 157 (.pointer (some (A 9))))
  c10 : w.cell? ⟨10, 0, none⟩ = some (.iface 157 (.pointer (some (A 10))))
  ne : ∀ i j, i < 11 → j < 11 → i ≠ j → A i ≠ A j
  blk : ∀ i, i < 11 → ∃ c t, w.heap[(A i).block]? = some (.cells c t (0, 0))
theorem compErr : (Tryd.prog.info? 157).map (·.comparable) = some true := by kernel_rfl
theorem sizeErr : (Tryd.prog.info? 175).map (·.size) = some 1 := by kernel_rfl
theorem Sents.eql {w : World} {A : Nat → Addr} (h : Sents w A) (i j : Nat) (hi : i < 11) (hj : j < 11) :
    (binOp .eql 30 (.iface 157 (.pointer (some (A i)))) (.iface 157 (.pointer (some (A j))))).run Tryd.prog w = .ok (.bool (decide (i = j))) w := by
  obtain ⟨ti, h1, h2⟩ := Option.map_eq_some_iff.1 compErr
  obtain ⟨tj, h3, h4⟩ := Option.map_eq_some_iff.1 sizeErr
  by_cases e : i = j
  · subst e
    rw [run_eql_iface_ptr_same w (A i) Tryd.underlying30 Tryd.underlying157 h1 h2 h3]
    simp
  · obtain ⟨ca, ta, ha⟩ := h.blk i hi
    obtain ⟨cb, tb, hb⟩ := h.blk j hj
    rw [run_eql_iface_ptr_other w Tryd.underlying30 Tryd.underlying157 h1 h2 h3 (by rw [h4]; decide) (h.ne i j hi hj e) ha hb]
    simp [e]
theorem Sents.below {w w' : World} {A : Nat → Addr} (h : Sents w A) (hb : Below w.heap.size w w') : Sents w' A where
  c0 := (hb.cell (p := ⟨0, 0, none⟩) (World.block_lt_of_cell? w _ h.c0)).trans h.c0
  c1 := (hb.cell (p := ⟨2, 0, none⟩) (World.block_lt_of_cell? w _ h.c1)).trans h.c1
  c2 := (hb.cell (p := ⟨1, 0, none⟩) (World.block_lt_of_cell? w _ h.c2)).trans h.c2
  c3 := (hb.cell (p := ⟨3, 0, none⟩) (World.block_lt_of_cell? w _ h.c3)).trans h.c3
  c4 := (hb.cell (p := ⟨4, 0, none⟩) (World.block_lt_of_cell? w _ h.c4)).trans h.c4
  c5 := (hb.cell (p := ⟨6, 0, none⟩) (World.block_lt_of_cell? w _ h.c5)).trans h.c5
  c6 := (hb.cell (p := ⟨5, 0, none⟩) (World.block_lt_of_cell? w _ h.c6)).trans h.c6
  c7 := (hb.cell (p := ⟨7, 0, none⟩) (World.block_lt_of_cell? w _ h.c7)).trans h.c7
  c8 := (hb.cell (p := ⟨8, 0, none⟩) (World.block_lt_of_cell? w _ h.c8)).trans h.c8
  c9 := (hb.cell (p := ⟨9, 0, none⟩) (World.block_lt_of_cell? w _ h.c9)).trans h.c9
  c10 := (hb.cell (p := ⟨10, 0, none⟩) (World.block_lt_of_cell? w _ h.c10)).trans h.c10
  ne := h.ne
  blk := fun i hi => by
    obtain ⟨c, t, hc⟩ := h.blk i hi
    exact ⟨c, t, (hb.block _ (Array.getElem?_eq_some_iff.1 hc).1).trans hc⟩
/-- The number of the refusal at a place of the list. -/
def refNo (i : Nat) : Int := [1, 2, 3, 4, 5, 7, 6, 8, 9, 10, 11].getD i 0
set_option maxRecDepth 10000 in
set_option maxHeartbeats 1600000 in
theorem kitNum_at (w : World) (A : Nat → Addr) (h : Sents w A) (i : Nat) (hi : i < 11) :
    Calls Tryd.prog 19 #[.iface 157 (.pointer (some (A i)))] w fun e w' => e = .returned (.int .i64 (refNo i)) ∧ w' = w := by
  have d0 := h.c0
  have d1 := h.c1
  have d2 := h.c2
  have d3 := h.c3
  have d4 := h.c4
  have d5 := h.c5
  have d6 := h.c6
  have d7 := h.c7
  have d8 := h.c8
  have d9 := h.c9
  have d10 := h.c10
  have hq := fun j => h.eql i j hi
  clear h
  have h11 : i = 0 ∨ i = 1 ∨ i = 2 ∨ i = 3 ∨ i = 4 ∨ i = 5 ∨ i = 6 ∨ i = 7 ∨ i = 8 ∨ i = 9 ∨ i = 10 := by omega
  clear hi
  have q0 := hq 0 (by omega)
  have q1 := hq 1 (by omega)
  have q2 := hq 2 (by omega)
  have q3 := hq 3 (by omega)
  have q4 := hq 4 (by omega)
  have q5 := hq 5 (by omega)
  have q6 := hq 6 (by omega)
  have q7 := hq 7 (by omega)
  have q8 := hq 8 (by omega)
  have q9 := hq 9 (by omega)
  have q10 := hq 10 (by omega)
  clear hq
  rcases h11 with rfl | rfl | rfl | rfl | rfl | rfl | rfl | rfl | rfl | rfl | rfl
  all_goals
    go_enter Tryd.func19, Tryd.ntmps19
    go_wp2
    go_ret
    exact ⟨rfl, rfl⟩
set_option maxRecDepth 10000 in
theorem kitNum_nil (w : World) : Calls Tryd.prog 19 #[.nilIface] w fun e w' => e = .returned (.int .i64 0) ∧ w' = w := by
  go_enter Tryd.func19, Tryd.ntmps19
  go_wp2
  go_ret
  exact ⟨rfl, rfl⟩
end Go.Proofs.YtbbejfkgopcjoaaDoor
namespace Go.Proofs.YtbbejfkgopcjoaaDoor
open Go.RowKit Go.Shelf
theorem hid0 {p : Prop} (h : p) : Hid p := h
/-- w' is w, but for new blocks and the blocks of S. -/
structure Only (w w' : World) (S : Nat → Prop) : Prop where
  os : w'.os = w.os
  tape : w'.tape = w.tape
  output : w'.output = w.output
  size : w.heap.size ≤ w'.heap.size
  block : ∀ k, k < w.heap.size → ¬ S k → w'.heap[k]? = w.heap[k]?
theorem Only.refl (w : World) (S : Nat → Prop) : Only w w S := ⟨rfl, rfl, rfl, Nat.le_refl _, fun _ _ _ => rfl⟩
theorem Only.trans {a b c : World} {S T : Nat → Prop} (h : Only a b S) (k : Only b c T) (hT : ∀ i, T i → S i ∨ a.heap.size ≤ i) : Only a c S :=
  ⟨k.os.trans h.os, k.tape.trans h.tape, k.output.trans h.output, Nat.le_trans h.size k.size, fun i hi hS =>
    (k.block i (Nat.lt_of_lt_of_le hi h.size) (fun ht => (hT i ht).elim hS (fun h => absurd hi (Nat.not_lt.2 h)))).trans (h.block i hi hS)⟩
theorem Only.drewN (w : World) (n : Nat) (S : Nat → Prop) : Only w (w.drewN n) S := ⟨rfl, rfl, rfl, Nat.le_refl _, fun _ _ _ => rfl⟩
theorem Only.alloc (w : World) (o : Obj) (S : Nat → Prop) : Only w (w.alloc o) S := ⟨rfl, rfl, rfl, by simp, fun k hk _ => Below.heap_alloc w o k hk⟩
theorem Only.setCell (w : World) (b off : Nat) (u : Value) : Only w (w.setCell ⟨b, off, none⟩ u) (fun k => k = b) := ⟨rfl, rfl, rfl, by simp [World.setCell], fun k _ h => Below.heap_setCell w _ u k h⟩
theorem Only.mono {w w' : World} {S T : Nat → Prop} (h : Only w w' S) (hs : ∀ i, S i → T i) : Only w w' T := ⟨h.os, h.tape, h.output, h.size, fun i hi ht => h.block i hi (fun s => ht (hs i s))⟩
theorem Only.below {w w' : World} {S : Nat → Prop} {B : Nat} (h : Only w w' S) (hB : B ≤ w.heap.size) (hs : ∀ i, S i → B ≤ i) : Below B w w' :=
  ⟨h.os, h.tape, h.output, h.size, fun i hi => h.block i (by omega) (fun s => by have := hs i s; omega)⟩
theorem Only.ofBelow {w w' : World} {B : Nat} (h : Below B w w') (S : Nat → Prop) (hs : ∀ i, B ≤ i → i < w.heap.size → S i) : Only w w' S :=
  ⟨h.os, h.tape, h.output, h.size, fun i hi hn => h.block i (Nat.lt_of_not_le fun hb => hn (hs i hb hi))⟩
theorem Only.cell {w w' : World} {S : Nat → Prop} (h : Only w w' S) {p : Addr} (hp : p.block < w.heap.size) (hn : ¬ S p.block) : w'.cell? p = w.cell? p := World.cell?_of_block (w := w) (h.block p.block hp hn)
theorem info_parts {t : TypeId} {z : Value} {n b : Nat} (h : (Tryd.prog.info? t).map (fun i => (i.zero, i.size, i.bytes)) = some (some z, n, b)) : ∃ i, Tryd.prog.info? t = some i ∧ i.zero = some z ∧ i.size = n ∧ i.bytes = b := by
  cases hq : Tryd.prog.info? t with
  | none => rw [hq] at h; cases h
  | some i =>
    rw [hq] at h
    simp only [Option.map_some, Option.some.injEq, Prod.mk.injEq] at h
    exact ⟨i, rfl, h.1, h.2.1, h.2.2⟩
theorem cell_one_new (w : World) (v : Value) (t : TypeId) : ∀ j u, [v][j]? = some u → (w.alloc (.cells #[v] t)).cell? ((⟨w.heap.size, 0, none⟩ : Addr).add j) = some u := by
  intro j u h
  rw [Addr.add_lit, cell_of_row _ w.heap.size _ _ _ _ (heap_alloc_new w _), Nat.zero_add]
  simpa using h
theorem Below.later {w a b : World} (h : Below w.heap.size w a) (k : Below a.heap.size a b) : Below w.heap.size w b :=
  ⟨k.os.trans h.os, k.tape.trans h.tape, k.output.trans h.output, Nat.le_trans h.size k.size, fun i hi => (k.block i (Nat.lt_of_lt_of_le hi h.size)).trans (h.block i hi)⟩
/-- cur is wk as far as the blocks from lo on go that wk has. -/
structure Agree (wk cur : World) (lo : Nat) : Prop where
  size : wk.heap.size ≤ cur.heap.size
  block : ∀ k, lo ≤ k → k < wk.heap.size → cur.heap[k]? = wk.heap[k]?
theorem Agree.refl (w : World) (lo : Nat) : Agree w w lo := ⟨Nat.le_refl _, fun _ _ _ => rfl⟩
theorem Agree.only {wk cur cur' : World} {lo : Nat} {S : Nat → Prop} (h : Agree wk cur lo) (ho : Only cur cur' S) (hs : ∀ k, S k → k < lo ∨ wk.heap.size ≤ k) : Agree wk cur' lo :=
  ⟨Nat.le_trans h.size ho.size, fun k h1 h2 => (ho.block k (Nat.lt_of_lt_of_le h2 h.size) (fun s => by have := hs k s; omega)).trans (h.block k h1 h2)⟩
theorem Agree.below {wk cur cur' : World} {lo : Nat} (h : Agree wk cur lo) (hb : Below cur.heap.size cur cur') : Agree wk cur' lo :=
  ⟨Nat.le_trans h.size hb.size, fun k h1 h2 => (hb.block k (Nat.lt_of_lt_of_le h2 h.size)).trans (h.block k h1 h2)⟩
theorem owns_lower {w : World} {base base' : Nat} {e : TypeId} {size : Nat} {v : Value} {n : Nat} {xs : List Value} (h : w.ownsRow base e size v n xs) (hb : base' ≤ base) : w.ownsRow base' e size v n xs :=
  ⟨h.1, h.2.imp id (fun ⟨g, cap, cur, h1, h2, h3⟩ => ⟨g, cap, cur, h1, Nat.le_trans hb h2, h3⟩)⟩
theorem own_form {w : World} {base : Nat} {e : TypeId} {size : Nat} {v : Value} {n : Nat} {xs : List Value} (h : w.ownsRow base e size v n xs) (hn : 0 < n) : ∃ g cap, v = .slice (some ⟨g, 0, none⟩) n cap ∧ base ≤ g ∧ g < w.heap.size ∧ n ≤ cap := by
  have h0 := h
  rcases h.2 with ⟨_, h1⟩ | ⟨g, cap, cur, rfl, hb, hr, hc, _⟩
  · omega
  · exact ⟨g, cap, rfl, hb, (World.ownsRow.lt h0 g rfl).2, hc⟩
theorem own_blk {W W' : World} {lo t s n : Nat} {v : Value} {xs : List Value} (h : W.ownsRow lo t s v n xs) (hb : ∀ k, v.ownBlock = some k → W'.heap[k]? = W.heap[k]?) : W'.ownsRow lo t s v n xs := by
  refine ⟨h.1, ?_⟩
  rcases h.2 with h2 | ⟨g, cap, cur0, hv, hg, hr, r⟩
  · exact .inl h2
  · exact .inr ⟨g, cap, cur0, hv, hg, (hb g (by rw [hv]; rfl)).trans hr, r⟩
theorem below_drew' {B : Nat} {w a : World} (h : Below B w a) (n : Nat) : Below B w (a.drewN n) := ⟨h.os, h.tape, h.output, h.size, h.block⟩
/-- Numbers in memory. -/
structure IA (w : World) (a : Option Addr) (L : List Int) : Prop where
  at' : ∀ k (h : k < L.length), ∃ b off, a = some ⟨b, off, none⟩ ∧ b < w.heap.size ∧ w.cell? ⟨b, off + k, none⟩ = some (.int .i64 L[k])
theorem IA.past {w w' : World} {a : Option Addr} {L : List Int} (h : IA w a L) (hb : Below w.heap.size w w') : IA w' a L := ⟨fun k hk => by
  obtain ⟨b, off, rfl, h1, h2⟩ := h.at' k hk
  exact ⟨b, off, rfl, Nat.lt_of_lt_of_le h1 hb.size, (hb.cell (p := ⟨b, off + k, none⟩) h1).trans h2⟩⟩
def OwnI (w : World) (base : Nat) (v : Value) (ps : List Int) : Prop := w.ownsRow base 3 1 v ps.length (ps.map (Value.int .i64))
theorem infoInt : (Tryd.prog.info? 3).map (fun i => (i.zero, i.size, i.bytes)) = some (some (.int .i64 0), 1, 8) := by kernel_rfl
theorem OwnI.ia {w : World} {base : Nat} {v : Value} {L : List Int} (h : OwnI w base v L) : ∃ a cap, v = .slice a L.length cap ∧ IA w a L := by
  have h0 := h
  rcases h.2 with ⟨rfl, hn⟩ | ⟨g, cap, cur, rfl, hg, hr, hc, _⟩
  · exact ⟨none, 0, by rw [hn], ⟨fun k hk => by omega⟩⟩
  · refine ⟨_, cap, rfl, ⟨fun k hk => ⟨g, 0, rfl, (World.ownsRow.lt h0 g rfl).2, ?_⟩⟩⟩
    have := World.ownsRow.cellAt h0 k (by omega)
    rw [Nat.zero_add, this]
    simp [hk]
theorem IA.below {w w' : World} {a : Option Addr} {L : List Int} {B : Nat} (h : IA w a L) (hb : Below B w w') (ha : ∀ p, a = some p → p.block < B) : IA w' a L := ⟨fun k hk => by
  obtain ⟨b, off, rfl, h1, h2⟩ := h.at' k hk
  exact ⟨b, off, rfl, Nat.lt_of_lt_of_le h1 hb.size, (hb.cell (p := ⟨b, off + k, none⟩) (ha ⟨b, off, none⟩ rfl)).trans h2⟩⟩
theorem ownI_snoc {w wr w1 : World} {base : Nat} {v v' : Value} {L : List Int} {c : Int} {o : Obj} {n : Nat} (hn : n = L.length) (hown : OwnI wr base v L)
    (hown' : w1.ownsRow base 3 1 v' (n + 1) (L.map (Value.int .i64) ++ [.int .i64 c])) (hgrow : (wr.alloc o).grownBy w1 v.ownBlock) (hbel : Below base w wr) (hb : base ≤ w.heap.size) :
    OwnI w1 base v' (L ++ [c]) ∧ Below base w w1 := by
  subst hn
  have hsz := hbel.size
  refine ⟨?_, (hbel.alloc (by omega) o).grown hgrow (by simp; omega) (fun k hk => (World.ownsRow.lt hown k hk).1)⟩
  unfold OwnI
  rw [List.length_append, List.length_singleton, List.map_append]
  exact hown'
section
variable {P : Program} (w : World)
theorem run_append_own_front (base : Nat) (t ty e : TypeId) (i : TypeInfo) (z : Value) (size bytes : Nat) (ht : P.underlying t = some (.slice e)) (hi : P.info? e = some i) (hz : i.zero = some z)
    (hsize : i.size = size) (hby : i.bytes = bytes) (hzs : z.cells.size = size) (hsz : 0 < size)
    (v : Value) (n : Nat) (xs : List Value) (hown : w.ownsRow base e size v n xs)
    (a : Addr) (m c : Nat) (news : List Value) (hl : news.length = m * size) (hnews : ∀ j u, news[j]? = some u → w.cell? (a.add j) = some u) (h1 : ∀ u ∈ news, u.oneCell' = true)
    (h63 : n + m ≤ maxLen) (hbytes : (n + m) * bytes ≤ 140737488355328) (hbase : base ≤ w.heap.size) :
    ∃ v' w', (Builtin.append_ #[t, t] ty #[v, .slice (some a) m c]).run P w = .ok v' w' ∧ w'.ownsRow base e size v' (n + m) (xs ++ news) ∧ w.grownBy w' v.ownBlock ∧
      (v'.ownBlock = v.ownBlock ∨ v'.ownBlock = some w.heap.size) ∧ (∀ g j u, v.ownBlock = some g → j < n * size → w.cell? ⟨g, j, none⟩ = some u → w'.cell? ⟨g, j, none⟩ = some u) := by
  obtain ⟨v', w', hr, h2, h3, _, h5⟩ := run_append_own_at (P := P) w base t ty e i z size bytes ht hi hz hsize hby hzs hsz v n xs hown a m c news hl hnews h1 h63 hbytes hbase
  refine ⟨v', w', hr, h2, h3, h5, ?_⟩
  intro g j u hg hj hc
  have hjx : j < xs.length := by rw [hown.1]; exact hj
  have hxu : xs[j]? = some u := by
    have e1 := hown.cells hg j xs[j] (List.getElem?_eq_getElem hjx)
    rw [Addr.add_lit, Nat.zero_add, hc] at e1
    rw [List.getElem?_eq_getElem hjx, ← Option.some.inj e1]
  rcases h5 with h5 | h5
  · have e2 := h2.cells (h5.trans hg) j u (by rw [List.getElem?_append_left hjx]; exact hxu)
    rw [Addr.add_lit, Nat.zero_add] at e2
    exact e2
  · have hglt := (hown.lt g hg).2
    rcases hown.2 with ⟨rfl, _⟩ | ⟨g', cap, cur, rfl, hbg, hgg, hnc, hcm, hcs, htake⟩
    · simp [Value.ownBlock] at hg
    · have hge : g' = g := by simpa [Value.ownBlock] using hg
      subst hge
      by_cases hroom : n + m ≤ cap
      · obtain ⟨w2, hr2, _⟩ := run_append_own_spare (P := P) w base t ty e i size ht hi hsize g' n cap xs hown a m c news hl hnews h1 hroom
        rw [hr] at hr2
        cases hr2
        simp [Value.ownBlock] at h5
        omega
      · subst hsize hby
        have holds : ∀ j u, xs[j]? = some u → w.cell? ((⟨g', 0, none⟩ : Addr).add j) = some u := hown.cells (g := g') rfl
        have hr2 := run_append_grow (P := P) w t ty e i z ht hi hz ⟨g', 0, none⟩ n cap xs hown.1 holds a m c news hl hnews (by omega) (by simp only [maxLen] at h63; omega) (growslice_fits (by omega) hbytes)
        rw [hr] at hr2
        cases hr2
        exact (World.cell?_of_block (w := w) (a := ⟨g', j, none⟩) (heap_alloc_old w.drew _ (r := g') hglt)).trans hc
theorem wpList_append_own_front {ops : Array Oper} {rest : List Oper} {o : Oper} {a : Act} {Q : Exit → Act → World → Prop} (hgd : o.guard = none) (s x : Operand) (t : TypeId)
    (ho : o.op = .call { callee := .builtin .append, args := #[s, x], argTypes := #[t, t] })
    (base : Nat) (e : TypeId) (i : TypeInfo) (z : Value) (size bytes : Nat) (ht : P.underlying t = some (.slice e)) (hi : P.info? e = some i) (hz : i.zero = some z)
    (hsize : i.size = size) (hby : i.bytes = bytes) (hzs : z.cells.size = size) (hsz : 0 < size)
    (v : Value) (n : Nat) (xs : List Value) (hs : a.eval s = v) (hown : w.ownsRow base e size v n xs)
    (ad : Addr) (m c : Nat) (news : List Value) (hx : a.eval x = .slice (some ad) m c) (hl : news.length = m * size) (hnews : ∀ j u, news[j]? = some u → w.cell? (ad.add j) = some u) (h1 : ∀ u ∈ news, u.oneCell' = true)
    (h63 : n + m ≤ maxLen) (hbytes : (n + m) * bytes ≤ 140737488355328) (hbase : base ≤ w.heap.size)
    (h : ∀ v' w', w'.ownsRow base e size v' (n + m) (xs ++ news) → w.grownBy w' v.ownBlock → (v'.ownBlock = v.ownBlock ∨ v'.ownBlock = some w.heap.size) → (∀ g j u, v.ownBlock = some g → j < n * size → w.cell? ⟨g, j, none⟩ = some u → w'.cell? ⟨g, j, none⟩ = some u) → wpList P ops Q rest (a.put o.dst v') w') :
    wpList P ops Q (o :: rest) a w := by
  refine wpList_plain hgd fun K hK => ?_
  obtain ⟨v', w', hr, h2, h3, h4, h5⟩ := run_append_own_front (P := P) w base t o.type e i z size bytes ht hi hz hsize hby hzs hsz v n xs hown ad m c news hl hnews h1 h63 hbytes hbase
  unfold Oper.wp execOp
  simp only [ho, resolve, invoke, builtin, Sem.run_bind, Sem.run_pure, Result.andThen_ok, List.map_toArray, List.map_cons, List.map_nil, hs, hx, hr]
  exact hK _ _ (h v' w' h2 h3 h4 h5)
end
theorem cell_alloc {w : World} {p : Addr} {v : Value} (h : w.cell? p = some v) (o : Obj) : (w.alloc o).cell? p = some v := ((Only.alloc w o (fun _ => False)).cell (World.block_lt_of_cell? w p h) (fun h => h)).trans h
theorem Only.ofGrown {w w' : World} {row : Option Nat} (h : w.grownBy w' row) : Only w w' (fun k => row = some k) := ⟨h.os, h.tape, h.output, h.size, fun k hk hn => h.block k hk (fun e => hn e.symm)⟩
theorem infoInts : (Tryd.prog.info? 34).map (fun i => (i.zero, i.size, i.bytes)) = some (some (.slice none 0 0), 1, 24) := by kernel_rfl
/-- Lists of numbers in memory. -/
structure RwA (w : World) (a : Option Addr) (L : List (List Int)) : Prop where
  at' : ∀ k (h : k < L.length), ∃ b off, a = some ⟨b, off, none⟩ ∧ b < w.heap.size ∧ ∃ a1 c1, w.cell? ⟨b, off + k, none⟩ = some (.slice a1 (L[k]).length c1) ∧ IA w a1 L[k]
theorem RwA.past {w w' : World} {a : Option Addr} {L : List (List Int)} (h : RwA w a L) (hb : Below w.heap.size w w') : RwA w' a L := ⟨fun k hk => by
  obtain ⟨b, off, rfl, h1, a1, c1, h2, h3⟩ := h.at' k hk
  exact ⟨b, off, rfl, Nat.lt_of_lt_of_le h1 hb.size, a1, c1, (hb.cell (p := ⟨b, off + k, none⟩) h1).trans h2, h3.past hb⟩⟩
end Go.Proofs.YtbbejfkgopcjoaaDoor
namespace Go.Proofs.YtbbejfkgopcjoaaDoor
open Go.RowKit Go.Shelf
theorem cell2_new (w : World) (a b : Value) (t : TypeId) : ∀ j u, [a, b][j]? = some u → (w.alloc (.cells #[a, b] t)).cell? ((⟨w.heap.size, 0, none⟩ : Addr).add j) = some u := by
  intro j u h
  rw [Addr.add_lit, cell_of_row _ w.heap.size _ _ _ _ (heap_alloc_new w _), Nat.zero_add]
  simpa using h
set_option maxRecDepth 10000 in
set_option maxHeartbeats 800000 in
theorem sameI (l : List Int) (a b : Option Addr) (ca cb : Nat) (w : World) (hl : l.length ≤ 1000000000) (ha : IA w a l) (hb : IA w b l) :
    Calls Tryd.prog 14 #[.slice a l.length ca, .slice b l.length cb] w fun e w' => e = .returned (.bool true) ∧ ∃ n, w' = w.drewN n := by
  have HA := hid0 ha
  have HB := hid0 hb
  clear ha hb
  go_enter Tryd.func14, Tryd.ntmps14
  go_wp2
  go_loopw [5] (fun i wr => ∃ k : Nat, k ≤ l.length ∧ i = .int .i64 (k : Int) ∧ ∃ n, wr = w.drewN n) (fun i _ => l.length - (intOf i).toNat)
  case atStart => exact ⟨0, Nat.zero_le _, rfl, 0, rfl⟩
  case round =>
    obtain ⟨k, hk, rfl, nd, rfl⟩ := hrel
    by_cases hlt : k < l.length
    · obtain ⟨b1, o1, rfl, _, d1⟩ := HA.out.at' k hlt
      obtain ⟨b2, o2, rfl, _, d2⟩ := HB.out.at' k hlt
      have hkI : (k : Int) < (l.length : Int) := by omega
      have hkI0 : (0 : Int) ≤ (k : Int) := by omega
      generalize l[k] = s at *
      have hself : (s == s) = true := by simp
      go_wp2
      go_quiet ((fail))
      go_wp2
      go_roundw
      case rel => exact ⟨k + 1, by omega, by go_num, _, rfl⟩
      case measure => simp [intOf]; omega
    · have hkI : ¬ (k : Int) < (l.length : Int) := by omega
      go_wp2
      go_ret
      exact ⟨rfl, nd, rfl⟩
/-- A list that List made: two marks behind it. -/
def LW (w : World) (lo g c : Nat) (L : List Int) : Prop := w.ownsRow lo 3 1 (.slice (some ⟨g, 0, none⟩) (L.length + 2) c) (L.length + 2) (L.map (Value.int .i64) ++ [.int .i64 (-77), .int .i64 (-77)])
theorem LW.ia {w : World} {lo g c : Nat} {L : List Int} (h : LW w lo g c L) : IA w (some ⟨g, 0, none⟩) L := ⟨fun k hk => ⟨g, 0, rfl, (World.ownsRow.lt h g rfl).2, by
  have := World.ownsRow.cellAt h k (by omega)
  rw [Nat.zero_add, this, List.getElem?_append_left (by simpa using hk)]
  simp [hk]⟩⟩
theorem LW.past {w w' : World} {lo g c : Nat} {L : List Int} (h : LW w lo g c L) (hb : Below w.heap.size w w') : LW w' lo g c L :=
  own_blk h (fun k hk => hb.block k (World.ownsRow.lt h k hk).2)
theorem LW.cap {w : World} {lo g c : Nat} {L : List Int} (h : LW w lo g c L) : L.length + 2 ≤ c := by
  rcases h.2 with ⟨e, _⟩ | ⟨g', cap, cur, e, _, _, h1, h2, _⟩
  · cases e
  · cases e; omega
theorem LW.marks {w : World} {lo g c : Nat} {L : List Int} (h : LW w lo g c L) : w.cell? ⟨g, L.length, none⟩ = some (.int .i64 (-77)) ∧ w.cell? ⟨g, L.length + 1, none⟩ = some (.int .i64 (-77)) := by
  constructor
  · rw [World.ownsRow.cellAt h L.length (by omega), List.getElem?_append_right (by simp)]; simp
  · rw [World.ownsRow.cellAt h (L.length + 1) (by omega), List.getElem?_append_right (by simp)]; simp
end Go.Proofs.YtbbejfkgopcjoaaDoor
namespace Go.Proofs.YtbbejfkgopcjoaaDoor
/-- How many elements lists have together. -/
def sumL (L : List (List Int)) : Nat := (L.map List.length).sum
theorem sumL_drop {L : List (List Int)} {k : Nat} (hk : k < L.length) : sumL (L.drop k) = (L[k]).length + sumL (L.drop (k + 1)) := by
  unfold sumL
  rw [List.drop_eq_getElem_cons hk, List.map_cons, List.sum_cons]
theorem sumL_end {L : List (List Int)} {k : Nat} (hk : L.length ≤ k) : sumL (L.drop k) = 0 := by
  rw [List.drop_of_length_le hk]; rfl
theorem sumL_take {L : List (List Int)} {k : Nat} (hk : k < L.length) : sumL (L.take (k + 1)) = sumL (L.take k) + (L[k]).length := by
  unfold sumL
  rw [List.take_add_one, List.getElem?_eq_getElem hk, List.map_append, List.sum_append]
  simp
theorem sumL_split (L : List (List Int)) (k : Nat) : sumL L = sumL (L.take k) + sumL (L.drop k) := by
  have h := List.take_append_drop k L
  unfold sumL
  rw [← List.sum_append, ← List.map_append, h]
/-- Are all lists rising lists of numbers below n? -/
def riseA (n : Int) (L : List (List Int)) : Bool := L.all (riseF n 0)
theorem riseA_drop {n : Int} {L : List (List Int)} {k : Nat} (hk : k < L.length) : riseA n (L.drop k) = (riseF n 0 L[k] && riseA n (L.drop (k + 1))) := by
  unfold riseA
  rw [List.drop_eq_getElem_cons hk, List.all_cons]
theorem riseA_end {n : Int} {L : List (List Int)} {k : Nat} (hk : L.length ≤ k) : riseA n (L.drop k) = true := by
  unfold riseA
  rw [List.drop_of_length_le hk, List.all_nil]
/-- Are First, Last and Follow rising lists of places? -/
def plRise (n : Nat) (Fi La : List Int) (Fo : List (List Int)) : Bool := riseF n 0 Fi && riseF n 0 La && riseA n Fo
/-- The refusal of positions: its place in the list of refusals. -/
def chkP (Le Fo : List (List Int)) (Fi La : List Int) (sy : Int) : Option Nat :=
  if 4000 < Le.length ∨ 4194304 < sumL Le ∨ 1048576 < sumL Fo then some 2
  else if sy < 1 ∨ 16384 < sy ∨ ¬ Fo.length = Le.length then some 0
  else if riseA sy Le && plRise Le.length Fi La Fo then none else some 0
end Go.Proofs.YtbbejfkgopcjoaaDoor
namespace Go.Proofs.YtbbejfkgopcjoaaDoor
open Go.RowKit Go.Shelf
set_option maxRecDepth 10000 in
set_option maxHeartbeats 800000 in
theorem rises_any (pa : Int) (L : List Int) (a : Option Addr) (c : Nat) (w : World) (hl : L.length ≤ 17592186043904) (hpa : pa ≤ 9223372036854775807) (ha : IA w a L) : Calls Tryd.prog 64 #[.slice a L.length c, .int .i64 pa] w fun e w' => e = .returned (.bool (riseF pa 0 L)) ∧ w' = w := by
  have HA := hid0 ha
  clear ha
  go_enter Tryd.func64, Tryd.ntmps64
  go_wp2
  go_loopw [5, 10] (fun l i wr => ∃ (k : Nat) (lo : Int), k ≤ L.length ∧ 0 ≤ lo ∧ i = .int .i64 (k : Int) ∧ l = .int .i64 (lo) ∧ wr = w ∧ Hid (riseF pa lo (L.drop k) = riseF pa 0 L)) (fun _ i _ => L.length - (intOf i).toNat)
  case atStart => exact ⟨0, 0, Nat.zero_le _, Int.le_refl _, rfl, rfl, rfl, hid0 rfl⟩
  case round =>
    obtain ⟨k, lo, hk, hlo, rfl, rfl, rfl, HD⟩ := hrel
    by_cases hlt : k < L.length
    · obtain ⟨b, off, rfl, _, d1⟩ := HA.out.at' k hlt
      have hkI : (k : Int) < (L.length : Int) := by omega
      have hkI0 : (0 : Int) ≤ (k : Int) := by omega
      have HS := hid0 (riseF_drop (cnt := pa) (lo := lo) hlt)
      generalize L[k] = s at *
      by_cases h1 : s < lo
      · have HD2 : Hid (riseF pa 0 L = false) := hid0 (by rw [← HD.out, HS.out, decide_eq_false (by omega)]; rfl)
        clear HS HD
        go_wp2
        go_ret
        exact ⟨by rw [HD2.out]; rfl, rfl⟩
      · by_cases h2 : s ≥ pa
        · have HD2 : Hid (riseF pa 0 L = false) := hid0 (by rw [← HD.out, HS.out, decide_eq_false (p := s < pa) (by omega), Bool.and_false]; rfl)
          clear HS HD
          go_wp2
          go_ret
          exact ⟨by rw [HD2.out]; rfl, rfl⟩
        · have HD2 : Hid (riseF pa (s + 1) (L.drop (k + 1)) = riseF pa 0 L) := hid0 (by rw [← HD.out, HS.out, decide_eq_true (p := s < pa) (by omega), decide_eq_true (p := lo ≤ s) (by omega)]; rfl)
          clear HS HD
          go_wp2
          go_roundw
          case rel => exact ⟨k + 1, s + 1, by omega, by omega, by go_num, by go_num, trivial, HD2⟩
          case measure => simp [intOf]; omega
    · have hkI : ¬ (k : Int) < (L.length : Int) := by omega
      have HD2 : Hid (riseF pa 0 L = true) := hid0 (by rw [← HD.out]; exact riseF_end (by omega))
      clear HD
      go_wp2
      go_ret
      exact ⟨by rw [HD2.out]; rfl, rfl⟩
set_option maxRecDepth 10000 in
set_option maxHeartbeats 800000 in
theorem allRise_any (n : Int) (L : List (List Int)) (a : Option Addr) (c : Nat) (w : World) (hl : L.length ≤ 1000000000) (hr : ∀ r ∈ L, r.length ≤ 1000000000) (hn : n ≤ 9223372036854775807) (ha : RwA w a L) : Calls Tryd.prog 46 #[.slice a L.length c, .int .i64 n] w fun e w' => e = .returned (.bool (riseA n L)) ∧ w' = w := by
  have HA := hid0 ha
  have HR := hid0 hr
  clear ha hr
  go_enter Tryd.func46, Tryd.ntmps46
  go_wp2
  go_loopw [9] (fun i wr => ∃ k : Nat, k ≤ L.length ∧ i = .int .i64 (k : Int) ∧ wr = w ∧ Hid (riseA n (L.drop k) = riseA n L)) (fun i _ => L.length - (intOf i).toNat)
  case atStart => exact ⟨0, Nat.zero_le _, rfl, rfl, hid0 rfl⟩
  case round =>
    obtain ⟨k, hk, rfl, rfl, HD⟩ := hrel
    by_cases hlt : k < L.length
    · obtain ⟨b, off, rfl, _, a1, c1, d1, i1⟩ := HA.out.at' k hlt
      have hkI : (k : Int) < (L.length : Int) := by omega
      have hkI0 : (0 : Int) ≤ (k : Int) := by omega
      have HS := hid0 (riseA_drop (n := n) hlt)
      have HRi := hid0 (rises_any n L[k] a1 c1 wr (Nat.le_trans (HR.out _ (List.getElem_mem hlt)) (by decide)) hn i1)
      clear i1
      generalize L[k] = s at *
      cases hs : riseF n 0 s with
      | true =>
        rw [hs] at HRi
        have HD2 : Hid (riseA n (L.drop (k + 1)) = riseA n L) := hid0 (by rw [← HD.out, HS.out, hs, Bool.true_and])
        clear HS HD hs
        go_wp2_with (go_at_call 64; refine HRi.out.mono ?_; rintro e w1 ⟨rfl, rfl⟩)
        go_roundw
        case rel => exact ⟨k + 1, by omega, by go_num, trivial, HD2⟩
        case measure => simp [intOf]; omega
      | false =>
        rw [hs] at HRi
        have HD2 : Hid (riseA n L = false) := hid0 (by rw [← HD.out, HS.out, hs, Bool.false_and])
        clear HS HD hs
        go_wp2_with (go_at_call 64; refine HRi.out.mono ?_; rintro e w1 ⟨rfl, rfl⟩)
        go_ret
        exact ⟨by rw [HD2.out]; rfl, rfl⟩
    · have hkI : ¬ (k : Int) < (L.length : Int) := by omega
      have HD2 : Hid (riseA n L = true) := hid0 (by rw [← HD.out]; exact riseA_end (by omega))
      clear HD
      go_wp2
      go_ret
      exact ⟨by rw [HD2.out]; rfl, rfl⟩
set_option maxRecDepth 10000 in
set_option maxHeartbeats 800000 in
theorem hasMore_any (m : Nat) (L : List (List Int)) (a : Option Addr) (c : Nat) (w : World) (hm : m ≤ 1000000000) (hl : L.length ≤ 1000000000) (hr : ∀ r ∈ L, r.length ≤ 1000000000) (ha : RwA w a L) : Calls Tryd.prog 45 #[.slice a L.length c, .int .i64 (m : Int)] w fun e w' => e = .returned (.bool (decide (m < sumL L))) ∧ w' = w := by
  have HA := hid0 ha
  have HR := hid0 hr
  clear ha hr
  go_enter Tryd.func45, Tryd.ntmps45
  go_wp2
  go_loopw [1, 9] (fun v i wr => ∃ (k q : Nat), k ≤ L.length ∧ q ≤ m ∧ v = .int .i64 (q : Int) ∧ i = .int .i64 (k : Int) ∧ wr = w ∧ Hid (sumL (L.take k) + q = m)) (fun _ i _ => L.length - (intOf i).toNat)
  case atStart => exact ⟨0, m, Nat.zero_le _, Nat.le_refl _, rfl, rfl, rfl, hid0 (by simp [sumL])⟩
  case round =>
    obtain ⟨k, q, hk, hq, rfl, rfl, rfl, HD⟩ := hrel
    have HSp := hid0 (sumL_split L k)
    by_cases hlt : k < L.length
    · obtain ⟨b, off, rfl, _, a1, c1, d1, i1⟩ := HA.out.at' k hlt
      have hkI : (k : Int) < (L.length : Int) := by omega
      have hkI0 : (0 : Int) ≤ (k : Int) := by omega
      have HS := hid0 (sumL_drop hlt)
      have HT := hid0 (sumL_take hlt)
      have hrl := HR.out _ (List.getElem_mem hlt)
      clear i1
      generalize (L[k]).length = s at *
      by_cases h1 : (q : Int) - (s : Int) < 0
      · have HD2 : Hid (m < sumL L) := hid0 (by rw [HSp.out, HS.out]; have := HD.out; omega)
        clear HS HT HD HSp
        go_wp2
        go_ret
        exact ⟨by rw [decide_eq_true HD2.out]; rfl, rfl⟩
      · have hqs : (q : Int) - (s : Int) = ((q - s : Nat) : Int) := by omega
        have HD2 : Hid (sumL (L.take (k + 1)) + (q - s) = m) := hid0 (by rw [HT.out]; have := HD.out; omega)
        clear HS HT HD HSp
        go_wp2
        go_roundw
        case rel => exact ⟨k + 1, q - s, by omega, by omega, rfl, by go_num, trivial, HD2⟩
        case measure => simp [intOf]; omega
    · have hkI : ¬ (k : Int) < (L.length : Int) := by omega
      have HD2 : Hid (¬ m < sumL L) := hid0 (by have h1 := HSp.out; rw [sumL_end (by omega)] at h1; have := HD.out; omega)
      clear HD HSp
      go_wp2
      go_ret
      exact ⟨by rw [decide_eq_false HD2.out]; rfl, rfl⟩
/-- Positions as a value. -/
def posV (aL aF aA aO : Option Addr) (cL cF cA cO : Nat) (Le Fo : List (List Int)) (Fi La : List Int) (em : Bool) : Value := .agg #[.slice aL Le.length cL, .slice aF Fi.length cF, .slice aA La.length cA, .slice aO Fo.length cO, .bool em]
/-- Positions that are read, of no great size. -/
structure PosA (w : World) (aL aF aA aO : Option Addr) (Le Fo : List (List Int)) (Fi La : List Int) : Prop where
  le : RwA w aL Le
  fi : IA w aF Fi
  la : IA w aA La
  fo : RwA w aO Fo
  l1 : Le.length ≤ 4000000
  l2 : Fi.length ≤ 4000000
  l3 : La.length ≤ 4000000
  l4 : Fo.length ≤ 4000000
  r1 : ∀ r ∈ Le, r.length ≤ 4000000
  r4 : ∀ r ∈ Fo, r.length ≤ 4000000
theorem PosA.past {w w' : World} {aL aF aA aO : Option Addr} {Le Fo : List (List Int)} {Fi La : List Int} (h : PosA w aL aF aA aO Le Fo Fi La) (hb : Below w.heap.size w w') : PosA w' aL aF aA aO Le Fo Fi La := ⟨h.le.past hb, h.fi.past hb, h.la.past hb, h.fo.past hb, h.l1, h.l2, h.l3, h.l4, h.r1, h.r4⟩
theorem row5 {W : World} {X : Nat} {t : TypeId} {a b c d e : Value} (h : W.heap[X]? = some (.cells #[a, b, c, d, e] t (0, 0))) : W.cell? ⟨X, 0, none⟩ = some a ∧ W.cell? ⟨X, 1, none⟩ = some b ∧ W.cell? ⟨X, 2, none⟩ = some c ∧ W.cell? ⟨X, 3, none⟩ = some d ∧ W.cell? ⟨X, 4, none⟩ = some e :=
  ⟨by rw [cell_of_row _ _ _ _ _ _ h]; rfl, by rw [cell_of_row _ _ _ _ _ _ h]; rfl, by rw [cell_of_row _ _ _ _ _ _ h]; rfl, by rw [cell_of_row _ _ _ _ _ _ h]; rfl, by rw [cell_of_row _ _ _ _ _ _ h]; rfl⟩
set_option maxRecDepth 10000 in
set_option maxHeartbeats 1600000 in
theorem placesRise_any (aL aF aA aO : Option Addr) (cL cF cA cO : Nat) (Le Fo : List (List Int)) (Fi La : List Int) (em : Bool) (w : World) (hp : PosA w aL aF aA aO Le Fo Fi La) :
    Calls Tryd.prog 47 #[posV aL aF aA aO cL cF cA cO Le Fo Fi La em] w fun e w' => e = .returned (.bool (plRise Le.length Fi La Fo)) ∧ Below w.heap.size w w' := by
  unfold posV
  obtain ⟨w0, hw0⟩ : ∃ w0, w0 = w.alloc (.cells #[.slice aL Le.length cL, .slice aF Fi.length cF, .slice aA La.length cA, .slice aO Fo.length cO, .bool em] 46) := ⟨_, rfl⟩
  have hB0 : Below w.heap.size w w0 := by rw [hw0]; exact (Below.refl _ _).alloc (Nat.le_refl _) _
  have hX0 : w0.heap[w.heap.size]? = some (.cells #[.slice aL Le.length cL, .slice aF Fi.length cF, .slice aA La.length cA, .slice aO Fo.length cO, .bool em] 46 (0, 0)) := by rw [hw0]; exact heap_alloc_new w _
  have HB0 := hid0 hB0
  have hp0 := hp.past hB0
  obtain ⟨x0, x1, x2, x3, x4⟩ := row5 hX0
  have H1 := hid0 (rises_any Le.length Fi aF cF w0 (by have := hp.l2; omega) (by have := hp.l1; omega) hp0.fi)
  have H2 := hid0 (rises_any Le.length La aA cA w0 (by have := hp.l3; omega) (by have := hp.l1; omega) hp0.la)
  have H3 := hid0 (allRise_any Le.length Fo aO cO w0 (by have := hp.l4; omega) (fun r hr => by have := hp.r4 r hr; omega) (by have := hp.l1; omega) hp0.fo)
  have hfold := hw0.symm
  clear hw0 hp hp0 hB0 hX0
  unfold plRise
  generalize riseF (Le.length : Int) 0 Fi = b1 at *
  generalize riseF (Le.length : Int) 0 La = b2 at *
  generalize riseA (Le.length : Int) Fo = b3 at *
  cases b1 <;> cases b2 <;> cases b3
  all_goals
    go_enter Tryd.func47, Tryd.ntmps47
    go_wp2_with (first
      | (go_at_call 46; refine H3.out.mono ?_; rintro e w3 ⟨rfl, hw3⟩; have hw3' := hw3.symm; subst hw3'; clear hw3)
      | (go_at_call 64; have hq := HQ1.out; refine H2.out.mono ?_; rintro e w2 ⟨rfl, hw2⟩; have hw2' := hw2.symm; subst hw2'; clear hw2 hq)
      | (go_at_call 64; (fail_if_success (have hq := HQ1.out)); refine H1.out.mono ?_; rintro e w1 ⟨rfl, hw1⟩; have hw1' := hw1.symm; subst hw1'; clear hw1; have HQ1 : Hid True := hid0 trivial)
      | fail)
    go_ret
    exact ⟨rfl, HB0.out⟩
/-- A refusal, or none. -/
def errP (A : Nat → Addr) (o : Option Nat) : Value := match o with | none => .nilIface | some i => .iface 157 (.pointer (some (A i)))
end Go.Proofs.YtbbejfkgopcjoaaDoor
namespace Go.Proofs.YtbbejfkgopcjoaaDoor
open Go.RowKit Go.Shelf
theorem drew_add {w w' : World} {a : Nat} (h : ∃ m, w' = (w.drewN a).drewN m) : ∃ n, w' = w.drewN n := by
  obtain ⟨m, hm⟩ := h
  exact ⟨a + m, by rw [hm, World.drewN_drewN]⟩
def numP (o : Option Nat) : Int := match o with | none => 0 | some i => refNo i
set_option maxRecDepth 10000 in
set_option maxHeartbeats 1600000 in
theorem refRises_any (n : Int) (L : List Int) (a : Option Addr) (c : Nat) (w : World) (hl : L.length ≤ 1000000000) (ha : IA w a L) : Calls Tryd.prog 86 #[.slice a L.length c, .int .i64 n] w fun e w' => e = .returned (.bool (riseF n 0 L)) ∧ ∃ q, w' = w.drewN q := by
  have HA := hid0 ha
  clear ha
  go_enter Tryd.func86, Tryd.ntmps86
  go_wp2
  go_loopw [5] (fun i wr => ∃ (k : Nat) (lo : Int), k ≤ L.length ∧ 0 ≤ lo ∧ i = .int .i64 (k : Int) ∧ (∃ q, wr = w.drewN q) ∧ Hid ((k = 0 ∧ lo = 0) ∨ ∃ h : k - 1 < L.length, 0 < k ∧ lo = L[k - 1] + 1) ∧ Hid (riseF n lo (L.drop k) = riseF n 0 L)) (fun i _ => L.length - (intOf i).toNat)
  case atStart => exact ⟨0, 0, Nat.zero_le _, Int.le_refl _, rfl, ⟨0, rfl⟩, hid0 (.inl ⟨rfl, rfl⟩), hid0 rfl⟩
  case round =>
    obtain ⟨k, lo, hk, hlo, rfl, ⟨q, rfl⟩, HK, HD⟩ := hrel
    by_cases hlt : k < L.length
    · obtain ⟨b, off, rfl, _, d1⟩ := HA.out.at' k hlt
      have hkI : (k : Int) < (L.length : Int) := by omega
      have hkI0 : (0 : Int) ≤ (k : Int) := by omega
      have HS := hid0 (riseF_drop (cnt := n) (lo := lo) hlt)
      obtain ⟨s, hs⟩ : ∃ s, L[k] = s := ⟨_, rfl⟩
      have HLk : Hid (∃ h : k + 1 - 1 < L.length, 0 < k + 1 ∧ s + 1 = L[k + 1 - 1] + 1) := hid0 ⟨by omega, by omega, by simp [hs]⟩
      rw [hs] at d1 HS
      clear hs
      by_cases h1 : s < 0
      case pos =>
        have hd1 : decide (s < 0) = true := decide_eq_true h1
        have HD2 : Hid (riseF n 0 L = false) := hid0 (by rw [← HD.out, HS.out, decide_eq_false (by omega)]; rfl)
        clear HS HD
        go_wp2
        go_quiet ((fail))
        go_wp2
        go_ret
        exact ⟨by rw [HD2.out]; rfl, drew_add ⟨_, rfl⟩⟩
      have hd1 : decide (s < 0) = false := decide_eq_false h1
      by_cases h2 : s ≥ n
      case pos =>
        have hd2 : decide (s ≥ n) = true := decide_eq_true h2
        have HD2 : Hid (riseF n 0 L = false) := hid0 (by rw [← HD.out, HS.out, decide_eq_false (p := s < n) (by omega), Bool.and_false]; rfl)
        clear HS HD
        go_wp2
        go_quiet ((fail))
        go_wp2
        go_ret
        exact ⟨by rw [HD2.out]; rfl, drew_add ⟨_, rfl⟩⟩
      have hd2 : decide (s ≥ n) = false := decide_eq_false h2
      rcases HK.out with ⟨rfl, rfl⟩ | ⟨hp, hk0, rfl⟩
      · have hd3 : decide (((0 : Nat) : Int) > 0) = false := by decide
        have hd4 : decide ((0 : Int) > 0) = false := by decide
        rw [Nat.add_zero] at d1
        have HD2 : Hid (riseF n (s + 1) (L.drop (0 + 1)) = riseF n 0 L) := hid0 (by rw [← HD.out, HS.out, decide_eq_true (p := s < n) (by omega), decide_eq_true (p := 0 ≤ s) (by omega)]; rfl)
        clear HS HD HK
        go_wp2
        go_quiet ((fail))
        go_wp2
        go_roundw
        case rel => exact ⟨0 + 1, s + 1, by omega, by omega, by go_num, (by first | exact ⟨_, rfl⟩ | exact drew_add ⟨_, rfl⟩), hid0 (.inr HLk.out), HD2⟩
        case measure => simp [intOf]; omega
      · obtain ⟨b', off', e', _, d0⟩ := HA.out.at' (k - 1) hp
        cases e'
        have hd3 : decide ((k : Int) > 0) = true := decide_eq_true (by omega)
        have hj0 : (0 : Int) ≤ (k : Int) - 1 := by omega
        have hj1 : (k : Int) - 1 < (L.length : Int) := by omega
        generalize L[k - 1] = p at *
        by_cases h3 : s ≤ p
        · have hd4 : decide (s ≤ p) = true := decide_eq_true h3
          have HD2 : Hid (riseF n 0 L = false) := hid0 (by rw [← HD.out, HS.out, decide_eq_false (by omega)]; rfl)
          clear HS HD
          go_wp2
          go_quiet ((fail))
          go_wp2
          go_ret
          exact ⟨by rw [HD2.out]; rfl, drew_add ⟨_, rfl⟩⟩
        · have hd4 : decide (s ≤ p) = false := decide_eq_false h3
          have HD2 : Hid (riseF n (s + 1) (L.drop (k + 1)) = riseF n 0 L) := hid0 (by rw [← HD.out, HS.out, decide_eq_true (p := s < n) (by omega), decide_eq_true (p := p + 1 ≤ s) (by omega)]; rfl)
          clear HS HD HK
          go_wp2
          go_quiet ((fail))
          go_wp2
          go_roundw
          case rel => exact ⟨k + 1, s + 1, by omega, by omega, by go_num, (by first | exact ⟨_, rfl⟩ | exact drew_add ⟨_, rfl⟩), hid0 (.inr HLk.out), HD2⟩
          case measure => simp [intOf]; omega
    · have hkI : ¬ (k : Int) < (L.length : Int) := by omega
      have HD2 : Hid (riseF n 0 L = true) := hid0 (by rw [← HD.out]; exact riseF_end (by omega))
      clear HD
      go_wp2
      go_ret
      exact ⟨by rw [HD2.out]; rfl, q, rfl⟩
theorem RwA.drewN {w : World} {a : Option Addr} {L : List (List Int)} (h : RwA w a L) (n : Nat) : RwA (w.drewN n) a L := h.past ⟨rfl, rfl, rfl, Nat.le_refl _, fun _ _ => rfl⟩
set_option maxRecDepth 10000 in
set_option maxHeartbeats 1600000 in
theorem refAll_any (n : Int) (L : List (List Int)) (a : Option Addr) (c : Nat) (w : World) (hl : L.length ≤ 1000000000) (hr : ∀ r ∈ L, r.length ≤ 1000000000) (ha : RwA w a L) : Calls Tryd.prog 85 #[.slice a L.length c, .int .i64 n] w fun e w' => e = .returned (.bool (riseA n L)) ∧ ∃ q, w' = w.drewN q := by
  have HA := hid0 ha
  have HR := hid0 hr
  clear ha hr
  go_enter Tryd.func85, Tryd.ntmps85
  go_wp2
  go_loopw [5] (fun i wr => ∃ k : Nat, k ≤ L.length ∧ i = .int .i64 (k : Int) ∧ (∃ q, wr = w.drewN q) ∧ Hid (riseA n (L.drop k) = riseA n L)) (fun i _ => L.length - (intOf i).toNat)
  case atStart => exact ⟨0, Nat.zero_le _, rfl, ⟨0, rfl⟩, hid0 rfl⟩
  case round =>
    obtain ⟨k, hk, rfl, ⟨q, rfl⟩, HD⟩ := hrel
    by_cases hlt : k < L.length
    · obtain ⟨b, off, rfl, _, a1, c1, d1, i1⟩ := HA.out.at' k hlt
      have hkI : (k : Int) < (L.length : Int) := by omega
      have hkI0 : (0 : Int) ≤ (k : Int) := by omega
      have HS := hid0 (riseA_drop (n := n) hlt)
      have HRi := hid0 (refRises_any n L[k] a1 c1 (w.drewN q) (HR.out _ (List.getElem_mem hlt)) ⟨i1.at'⟩)
      clear i1
      generalize L[k] = s at *
      cases hs : riseF n 0 s with
      | true =>
        rw [hs] at HRi
        have HD2 : Hid (riseA n (L.drop (k + 1)) = riseA n L) := hid0 (by rw [← HD.out, HS.out, hs, Bool.true_and])
        clear HS HD hs
        go_wp2_with (go_at_call 86; refine HRi.out.mono ?_; rintro e w1 ⟨rfl, hw1⟩; obtain ⟨q1, rfl⟩ := drew_add hw1; clear hw1)
        go_roundw
        case rel => exact ⟨k + 1, by omega, by go_num, ⟨_, rfl⟩, HD2⟩
        case measure => simp [intOf]; omega
      | false =>
        rw [hs] at HRi
        have HD2 : Hid (riseA n L = false) := hid0 (by rw [← HD.out, HS.out, hs, Bool.false_and])
        clear HS HD hs
        go_wp2_with (go_at_call 86; refine HRi.out.mono ?_; rintro e w1 ⟨rfl, hw1⟩; obtain ⟨q1, rfl⟩ := drew_add hw1; clear hw1)
        go_ret
        exact ⟨by rw [HD2.out]; rfl, _, rfl⟩
    · have hkI : ¬ (k : Int) < (L.length : Int) := by omega
      have HD2 : Hid (riseA n L = true) := hid0 (by rw [← HD.out]; exact riseA_end (by omega))
      clear HD
      go_wp2
      go_ret
      exact ⟨by rw [HD2.out]; rfl, q, rfl⟩
end Go.Proofs.YtbbejfkgopcjoaaDoor
