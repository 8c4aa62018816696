/-
  MrM, SentW, MrBW, MiM, MiQM, MiMM, MiCW, ExTk, MiEM, MiEW, MiHM, MiStM, MiHW, MiNM, MjM.
-/
import Derived.Test.YtjmmckkiicefhaaDoorProg
import Derived.WalkKit
import Derived.WalkSpells
import Derived.WalkLawsBesides
import Derived.Deep.QuietTactic
import Derived.BigQuiet
import Derived.LaidEql
import Derived.KernelRfl
import Derived.Handy
import Derived.Maps.AppendAt
import Derived.Shelf.Abstract
import Derived.Lib.SlicesS
import Derived.Deep.DeepAppendRoom
import Derived.Deep.AppendLies
import Derived.Deep.RegionHeld3
import Derived.Lib.SmallJoins
namespace Go.Proofs.YtjmmckkiicefhaaDoor
/-- Is it one of so many? -/
def oneOf (n : Nat) (z : Int) : Bool := decide (0 ≤ z) && decide (z < (n : Int))
/-- Does a list rise, from lo on to below cnt? -/
def riseF (cnt : Int) : Int → List Int → Bool
  | _, [] => true
  | lo, z :: l => decide (lo ≤ z) && decide (z < cnt) && riseF cnt (z + 1) l
def rowF (n : Nat) (sy pa : Int) (r o : List Int) : Bool := decide ((r.length : Int) = sy) && r.all (oneOf n) && riseF pa 0 o
/-- May a machine be? -/
def chkF (st : Int) (N O : List (List Int)) (sy pa : Int) : Bool :=
  decide (1 ≤ sy ∧ sy ≤ 16384 ∧ 0 ≤ pa ∧ 1 ≤ N.length ∧ N.length ≤ 16384 ∧ O.length = N.length ∧ (N.length : Int) * sy ≤ 4194304) && oneOf N.length st && (List.range N.length).all fun j => rowF N.length sy pa (N.getD j []) (O.getD j [])
/-- The state to which a symbol leads. -/
def stepF (N : List (List Int)) (s : Nat) (z : Int) : Option Nat :=
  if 0 ≤ z ∧ z < ((N.getD s []).length : Int) then (if oneOf N.length ((N.getD s []).getD z.toNat 0) then some ((N.getD s []).getD z.toNat 0).toNat else none) else none
def goF (N : List (List Int)) : List Int → Nat → List Int → Option (List Int)
  | acc, _, [] => some acc
  | acc, s, z :: l => match stepF N s z with | none => none | some t => goF N (acc ++ [(t : Int)]) t l
/-- The states of a run; none: it is refused. -/
def runF (N : List (List Int)) (st : Int) (l : List Int) : Option (List Int) := if oneOf N.length st then goF N [st] st.toNat l else none
theorem oneOf_iff (n : Nat) (z : Int) : oneOf n z = true ↔ 0 ≤ z ∧ z < (n : Int) := by unfold oneOf; simp
theorem oneOf_not (n : Nat) (z : Int) : oneOf n z = false ↔ ¬ (0 ≤ z ∧ z < (n : Int)) := by rw [← oneOf_iff]; simp
theorem goF_len (N : List (List Int)) : ∀ (l acc : List Int) (s : Nat) (r : List Int), goF N acc s l = some r → r.length = acc.length + l.length := by
  intro l
  induction l with
  | nil => intro acc s r h; rw [goF] at h; cases h; simp
  | cons z l ih =>
    intro acc s r h
    rw [goF] at h
    split at h
    · cases h
    · have := ih _ _ _ h
      simp at this ⊢
      omega
theorem runF_len {N : List (List Int)} {st : Int} {l r : List Int} (h : runF N st l = some r) : r.length = l.length + 1 := by
  unfold runF at h
  split at h
  · have := goF_len N _ _ _ _ h
    simp at this
    omega
  · cases h
theorem goF_drop {N : List (List Int)} {acc l : List Int} {s k : Nat} (hk : k < l.length) : goF N acc s (l.drop k) = match stepF N s l[k] with | none => none | some t => goF N (acc ++ [(t : Int)]) t (l.drop (k + 1)) := by
  rw [List.drop_eq_getElem_cons hk, goF]
theorem riseF_drop {cnt lo : Int} {l : List Int} {k : Nat} (hk : k < l.length) : riseF cnt lo (l.drop k) = (decide (lo ≤ l[k]) && decide (l[k] < cnt) && riseF cnt (l[k] + 1) (l.drop (k + 1))) := by
  rw [List.drop_eq_getElem_cons hk, riseF]
theorem riseF_end {cnt lo : Int} {l : List Int} {k : Nat} (hk : l.length ≤ k) : riseF cnt lo (l.drop k) = true := by
  rw [List.drop_of_length_le hk, riseF]
theorem all_drop {n : Nat} {l : List Int} {k : Nat} (hk : k < l.length) : (l.drop k).all (oneOf n) = (oneOf n l[k] && (l.drop (k + 1)).all (oneOf n)) := by
  rw [List.drop_eq_getElem_cons hk, List.all_cons]
theorem all_end {n : Nat} {l : List Int} {k : Nat} (hk : l.length ≤ k) : (l.drop k).all (oneOf n) = true := by
  rw [List.drop_of_length_le hk, List.all_nil]
/-- Rows that were looked at, and one more. -/
theorem range_snoc {p : Nat → Bool} {k : Nat} (h : (List.range k).all p = true) (hk : p k = true) : (List.range (k + 1)).all p = true := by
  rw [List.range_succ, List.all_append, h, List.all_cons, hk]; rfl
theorem range_bad {p : Nat → Bool} {k n : Nat} (hk : k < n) (h : p k = false) : (List.range n).all p = false := by
  rw [List.all_eq_false]
  exact ⟨k, List.mem_range.2 hk, by simp [h]⟩
end Go.Proofs.YtjmmckkiicefhaaDoor
namespace Go.Proofs.YtjmmckkiicefhaaDoor
open Go.RowKit
theorem hid1 {p : Prop} (h : p) : Hid p := h
/-- The refusal: its variable's cell. -/
structure Sents (w : World) (A : Nat → Addr) : Prop where
  c0 : w.cell? ⟨0, 0, none⟩ = some (.iface 112 (.pointer (some (A 0))))
theorem Sents.below {w w' : World} {A : Nat → Addr} (h : Sents w A) (hb : Below w.heap.size w w') : Sents w' A where
  c0 := (hb.cell (p := ⟨0, 0, none⟩) (World.block_lt_of_cell? w _ h.c0)).trans h.c0
end Go.Proofs.YtjmmckkiicefhaaDoor
namespace Go.Proofs.YtjmmckkiicefhaaDoor
open Go.RowKit Go.Shelf
theorem hid0 {p : Prop} (h : p) : Hid p := h
/-- w' is w, but for new blocks and the blocks of S. -/
structure Only (w w' : World) (S : Nat → Prop) : Prop where
  os : w'.os = w.os
  tape : w'.tape = w.tape
  output : w'.output = w.output
  size : w.heap.size ≤ w'.heap.size
  block : ∀ k, k < w.heap.size → ¬ S k → w'.heap[k]? = w.heap[k]?
theorem Only.refl (w : World) (S : Nat → Prop) : Only w w S := ⟨rfl, rfl, rfl, Nat.le_refl _, fun _ _ _ => rfl⟩
theorem Only.trans {a b c : World} {S T : Nat → Prop} (h : Only a b S) (k : Only b c T) (hT : ∀ i, T i → S i ∨ a.heap.size ≤ i) : Only a c S :=
  ⟨k.os.trans h.os, k.tape.trans h.tape, k.output.trans h.output, Nat.le_trans h.size k.size, fun i hi hS =>
    (k.block i (Nat.lt_of_lt_of_le hi h.size) (fun ht => (hT i ht).elim hS (fun h => absurd hi (Nat.not_lt.2 h)))).trans (h.block i hi hS)⟩
theorem Only.drewN (w : World) (n : Nat) (S : Nat → Prop) : Only w (w.drewN n) S := ⟨rfl, rfl, rfl, Nat.le_refl _, fun _ _ _ => rfl⟩
theorem Only.alloc (w : World) (o : Obj) (S : Nat → Prop) : Only w (w.alloc o) S := ⟨rfl, rfl, rfl, by simp, fun k hk _ => Below.heap_alloc w o k hk⟩
theorem Only.setCell (w : World) (b off : Nat) (u : Value) : Only w (w.setCell ⟨b, off, none⟩ u) (fun k => k = b) := ⟨rfl, rfl, rfl, by simp [World.setCell], fun k _ h => Below.heap_setCell w _ u k h⟩
theorem Only.mono {w w' : World} {S T : Nat → Prop} (h : Only w w' S) (hs : ∀ i, S i → T i) : Only w w' T := ⟨h.os, h.tape, h.output, h.size, fun i hi ht => h.block i hi (fun s => ht (hs i s))⟩
theorem Only.below {w w' : World} {S : Nat → Prop} {B : Nat} (h : Only w w' S) (hB : B ≤ w.heap.size) (hs : ∀ i, S i → B ≤ i) : Below B w w' :=
  ⟨h.os, h.tape, h.output, h.size, fun i hi => h.block i (by omega) (fun s => by have := hs i s; omega)⟩
theorem Only.ofBelow {w w' : World} {B : Nat} (h : Below B w w') (S : Nat → Prop) (hs : ∀ i, B ≤ i → i < w.heap.size → S i) : Only w w' S :=
  ⟨h.os, h.tape, h.output, h.size, fun i hi hn => h.block i (Nat.lt_of_not_le fun hb => hn (hs i hb hi))⟩
theorem Only.cell {w w' : World} {S : Nat → Prop} (h : Only w w' S) {p : Addr} (hp : p.block < w.heap.size) (hn : ¬ S p.block) : w'.cell? p = w.cell? p := World.cell?_of_block (w := w) (h.block p.block hp hn)
theorem info_parts {t : TypeId} {z : Value} {n b : Nat} (h : (Tryd.prog.info? t).map (fun i => (i.zero, i.size, i.bytes)) = some (some z, n, b)) : ∃ i, Tryd.prog.info? t = some i ∧ i.zero = some z ∧ i.size = n ∧ i.bytes = b := by
  cases hq : Tryd.prog.info? t with
  | none => rw [hq] at h; cases h
  | some i =>
    rw [hq] at h
    simp only [Option.map_some, Option.some.injEq, Prod.mk.injEq] at h
    exact ⟨i, rfl, h.1, h.2.1, h.2.2⟩
theorem cell_one_new (w : World) (v : Value) (t : TypeId) : ∀ j u, [v][j]? = some u → (w.alloc (.cells #[v] t)).cell? ((⟨w.heap.size, 0, none⟩ : Addr).add j) = some u := by
  intro j u h
  rw [Addr.add_lit, cell_of_row _ w.heap.size _ _ _ _ (heap_alloc_new w _), Nat.zero_add]
  simpa using h
theorem Below.later {w a b : World} (h : Below w.heap.size w a) (k : Below a.heap.size a b) : Below w.heap.size w b :=
  ⟨k.os.trans h.os, k.tape.trans h.tape, k.output.trans h.output, Nat.le_trans h.size k.size, fun i hi => (k.block i (Nat.lt_of_lt_of_le hi h.size)).trans (h.block i hi)⟩
/-- cur is wk as far as the blocks from lo on go that wk has. -/
structure Agree (wk cur : World) (lo : Nat) : Prop where
  size : wk.heap.size ≤ cur.heap.size
  block : ∀ k, lo ≤ k → k < wk.heap.size → cur.heap[k]? = wk.heap[k]?
theorem Agree.refl (w : World) (lo : Nat) : Agree w w lo := ⟨Nat.le_refl _, fun _ _ _ => rfl⟩
theorem Agree.only {wk cur cur' : World} {lo : Nat} {S : Nat → Prop} (h : Agree wk cur lo) (ho : Only cur cur' S) (hs : ∀ k, S k → k < lo ∨ wk.heap.size ≤ k) : Agree wk cur' lo :=
  ⟨Nat.le_trans h.size ho.size, fun k h1 h2 => (ho.block k (Nat.lt_of_lt_of_le h2 h.size) (fun s => by have := hs k s; omega)).trans (h.block k h1 h2)⟩
theorem Agree.below {wk cur cur' : World} {lo : Nat} (h : Agree wk cur lo) (hb : Below cur.heap.size cur cur') : Agree wk cur' lo :=
  ⟨Nat.le_trans h.size hb.size, fun k h1 h2 => (hb.block k (Nat.lt_of_lt_of_le h2 h.size)).trans (h.block k h1 h2)⟩
theorem own_agree {wk cur : World} {lo t s n : Nat} {v : Value} {xs : List Value} (h : wk.ownsRow lo t s v n xs) (ha : Agree wk cur lo) : cur.ownsRow lo t s v n xs := by
  refine ⟨h.1, ?_⟩
  rcases h.2 with h2 | ⟨g, cap, cur0, hv, hg, hr, r⟩
  · exact .inl h2
  · exact .inr ⟨g, cap, cur0, hv, hg, (ha.block g hg (Array.getElem?_eq_some_iff.1 hr).1).trans hr, r⟩
theorem owns_lower {w : World} {base base' : Nat} {e : TypeId} {size : Nat} {v : Value} {n : Nat} {xs : List Value} (h : w.ownsRow base e size v n xs) (hb : base' ≤ base) : w.ownsRow base' e size v n xs :=
  ⟨h.1, h.2.imp id (fun ⟨g, cap, cur, h1, h2, h3⟩ => ⟨g, cap, cur, h1, Nat.le_trans hb h2, h3⟩)⟩
theorem own_form {w : World} {base : Nat} {e : TypeId} {size : Nat} {v : Value} {n : Nat} {xs : List Value} (h : w.ownsRow base e size v n xs) (hn : 0 < n) : ∃ g cap, v = .slice (some ⟨g, 0, none⟩) n cap ∧ base ≤ g ∧ g < w.heap.size ∧ n ≤ cap := by
  have h0 := h
  rcases h.2 with ⟨_, h1⟩ | ⟨g, cap, cur, rfl, hb, hr, hc, _⟩
  · omega
  · exact ⟨g, cap, rfl, hb, (World.ownsRow.lt h0 g rfl).2, hc⟩
theorem own_blk {W W' : World} {lo t s n : Nat} {v : Value} {xs : List Value} (h : W.ownsRow lo t s v n xs) (hb : ∀ k, v.ownBlock = some k → W'.heap[k]? = W.heap[k]?) : W'.ownsRow lo t s v n xs := by
  refine ⟨h.1, ?_⟩
  rcases h.2 with h2 | ⟨g, cap, cur0, hv, hg, hr, r⟩
  · exact .inl h2
  · exact .inr ⟨g, cap, cur0, hv, hg, (hb g (by rw [hv]; rfl)).trans hr, r⟩
theorem below_drew' {B : Nat} {w a : World} (h : Below B w a) (n : Nat) : Below B w (a.drewN n) := ⟨h.os, h.tape, h.output, h.size, h.block⟩
/-- Numbers in memory. -/
structure IA (w : World) (a : Option Addr) (L : List Int) : Prop where
  at' : ∀ k (h : k < L.length), ∃ b off, a = some ⟨b, off, none⟩ ∧ b < w.heap.size ∧ w.cell? ⟨b, off + k, none⟩ = some (.int .i64 L[k])
theorem IA.past {w w' : World} {a : Option Addr} {L : List Int} (h : IA w a L) (hb : Below w.heap.size w w') : IA w' a L := ⟨fun k hk => by
  obtain ⟨b, off, rfl, h1, h2⟩ := h.at' k hk
  exact ⟨b, off, rfl, Nat.lt_of_lt_of_le h1 hb.size, (hb.cell (p := ⟨b, off + k, none⟩) h1).trans h2⟩⟩
def OwnI (w : World) (base : Nat) (v : Value) (ps : List Int) : Prop := w.ownsRow base 3 1 v ps.length (ps.map (Value.int .i64))
theorem infoInt : (Tryd.prog.info? 3).map (fun i => (i.zero, i.size, i.bytes)) = some (some (.int .i64 0), 1, 8) := by kernel_rfl
theorem OwnI.ia {w : World} {base : Nat} {v : Value} {L : List Int} (h : OwnI w base v L) : ∃ a cap, v = .slice a L.length cap ∧ IA w a L := by
  have h0 := h
  rcases h.2 with ⟨rfl, hn⟩ | ⟨g, cap, cur, rfl, hg, hr, hc, _⟩
  · exact ⟨none, 0, by rw [hn], ⟨fun k hk => by omega⟩⟩
  · refine ⟨_, cap, rfl, ⟨fun k hk => ⟨g, 0, rfl, (World.ownsRow.lt h0 g rfl).2, ?_⟩⟩⟩
    have := World.ownsRow.cellAt h0 k (by omega)
    rw [Nat.zero_add, this]
    simp [hk]
theorem IA.below {w w' : World} {a : Option Addr} {L : List Int} {B : Nat} (h : IA w a L) (hb : Below B w w') (ha : ∀ p, a = some p → p.block < B) : IA w' a L := ⟨fun k hk => by
  obtain ⟨b, off, rfl, h1, h2⟩ := h.at' k hk
  exact ⟨b, off, rfl, Nat.lt_of_lt_of_le h1 hb.size, (hb.cell (p := ⟨b, off + k, none⟩) (ha ⟨b, off, none⟩ rfl)).trans h2⟩⟩
theorem ownI_snoc {w wr w1 : World} {base : Nat} {v v' : Value} {L : List Int} {c : Int} {o : Obj} {n : Nat} (hn : n = L.length) (hown : OwnI wr base v L)
    (hown' : w1.ownsRow base 3 1 v' (n + 1) (L.map (Value.int .i64) ++ [.int .i64 c])) (hgrow : (wr.alloc o).grownBy w1 v.ownBlock) (hbel : Below base w wr) (hb : base ≤ w.heap.size) :
    OwnI w1 base v' (L ++ [c]) ∧ Below base w w1 := by
  subst hn
  have hsz := hbel.size
  refine ⟨?_, (hbel.alloc (by omega) o).grown hgrow (by simp; omega) (fun k hk => (World.ownsRow.lt hown k hk).1)⟩
  unfold OwnI
  rw [List.length_append, List.length_singleton, List.map_append]
  exact hown'
section
variable {P : Program} (w : World)
theorem run_append_own_front (base : Nat) (t ty e : TypeId) (i : TypeInfo) (z : Value) (size bytes : Nat) (ht : P.underlying t = some (.slice e)) (hi : P.info? e = some i) (hz : i.zero = some z)
    (hsize : i.size = size) (hby : i.bytes = bytes) (hzs : z.cells.size = size) (hsz : 0 < size)
    (v : Value) (n : Nat) (xs : List Value) (hown : w.ownsRow base e size v n xs)
    (a : Addr) (m c : Nat) (news : List Value) (hl : news.length = m * size) (hnews : ∀ j u, news[j]? = some u → w.cell? (a.add j) = some u) (h1 : ∀ u ∈ news, u.oneCell' = true)
    (h63 : n + m ≤ maxLen) (hbytes : (n + m) * bytes ≤ 140737488355328) (hbase : base ≤ w.heap.size) :
    ∃ v' w', (Builtin.append_ #[t, t] ty #[v, .slice (some a) m c]).run P w = .ok v' w' ∧ w'.ownsRow base e size v' (n + m) (xs ++ news) ∧ w.grownBy w' v.ownBlock ∧
      (v'.ownBlock = v.ownBlock ∨ v'.ownBlock = some w.heap.size) ∧ (∀ g j u, v.ownBlock = some g → j < n * size → w.cell? ⟨g, j, none⟩ = some u → w'.cell? ⟨g, j, none⟩ = some u) := by
  obtain ⟨v', w', hr, h2, h3, _, h5⟩ := run_append_own_at (P := P) w base t ty e i z size bytes ht hi hz hsize hby hzs hsz v n xs hown a m c news hl hnews h1 h63 hbytes hbase
  refine ⟨v', w', hr, h2, h3, h5, ?_⟩
  intro g j u hg hj hc
  have hjx : j < xs.length := by rw [hown.1]; exact hj
  have hxu : xs[j]? = some u := by
    have e1 := hown.cells hg j xs[j] (List.getElem?_eq_getElem hjx)
    rw [Addr.add_lit, Nat.zero_add, hc] at e1
    rw [List.getElem?_eq_getElem hjx, ← Option.some.inj e1]
  rcases h5 with h5 | h5
  · have e2 := h2.cells (h5.trans hg) j u (by rw [List.getElem?_append_left hjx]; exact hxu)
    rw [Addr.add_lit, Nat.zero_add] at e2
    exact e2
  · have hglt := (hown.lt g hg).2
    rcases hown.2 with ⟨rfl, _⟩ | ⟨g', cap, cur, rfl, hbg, hgg, hnc, hcm, hcs, htake⟩
    · simp [Value.ownBlock] at hg
    · have hge : g' = g := by simpa [Value.ownBlock] using hg
      subst hge
      by_cases hroom : n + m ≤ cap
      · obtain ⟨w2, hr2, _⟩ := run_append_own_spare (P := P) w base t ty e i size ht hi hsize g' n cap xs hown a m c news hl hnews h1 hroom
        rw [hr] at hr2
        cases hr2
        simp [Value.ownBlock] at h5
        omega
      · subst hsize hby
        have holds : ∀ j u, xs[j]? = some u → w.cell? ((⟨g', 0, none⟩ : Addr).add j) = some u := hown.cells (g := g') rfl
        have hr2 := run_append_grow (P := P) w t ty e i z ht hi hz ⟨g', 0, none⟩ n cap xs hown.1 holds a m c news hl hnews (by omega) (by simp only [maxLen] at h63; omega) (growslice_fits (by omega) hbytes)
        rw [hr] at hr2
        cases hr2
        exact (World.cell?_of_block (w := w) (a := ⟨g', j, none⟩) (heap_alloc_old w.drew _ (r := g') hglt)).trans hc
theorem wpList_append_own_front {ops : Array Oper} {rest : List Oper} {o : Oper} {a : Act} {Q : Exit → Act → World → Prop} (hgd : o.guard = none) (s x : Operand) (t : TypeId)
    (ho : o.op = .call { callee := .builtin .append, args := #[s, x], argTypes := #[t, t] })
    (base : Nat) (e : TypeId) (i : TypeInfo) (z : Value) (size bytes : Nat) (ht : P.underlying t = some (.slice e)) (hi : P.info? e = some i) (hz : i.zero = some z)
    (hsize : i.size = size) (hby : i.bytes = bytes) (hzs : z.cells.size = size) (hsz : 0 < size)
    (v : Value) (n : Nat) (xs : List Value) (hs : a.eval s = v) (hown : w.ownsRow base e size v n xs)
    (ad : Addr) (m c : Nat) (news : List Value) (hx : a.eval x = .slice (some ad) m c) (hl : news.length = m * size) (hnews : ∀ j u, news[j]? = some u → w.cell? (ad.add j) = some u) (h1 : ∀ u ∈ news, u.oneCell' = true)
    (h63 : n + m ≤ maxLen) (hbytes : (n + m) * bytes ≤ 140737488355328) (hbase : base ≤ w.heap.size)
    (h : ∀ v' w', w'.ownsRow base e size v' (n + m) (xs ++ news) → w.grownBy w' v.ownBlock → (v'.ownBlock = v.ownBlock ∨ v'.ownBlock = some w.heap.size) → (∀ g j u, v.ownBlock = some g → j < n * size → w.cell? ⟨g, j, none⟩ = some u → w'.cell? ⟨g, j, none⟩ = some u) → wpList P ops Q rest (a.put o.dst v') w') :
    wpList P ops Q (o :: rest) a w := by
  refine wpList_plain hgd fun K hK => ?_
  obtain ⟨v', w', hr, h2, h3, h4, h5⟩ := run_append_own_front (P := P) w base t o.type e i z size bytes ht hi hz hsize hby hzs hsz v n xs hown ad m c news hl hnews h1 h63 hbytes hbase
  unfold Oper.wp execOp
  simp only [ho, resolve, invoke, builtin, Sem.run_bind, Sem.run_pure, Result.andThen_ok, List.map_toArray, List.map_cons, List.map_nil, hs, hx, hr]
  exact hK _ _ (h v' w' h2 h3 h4 h5)
end


theorem cell_alloc {w : World} {p : Addr} {v : Value} (h : w.cell? p = some v) (o : Obj) : (w.alloc o).cell? p = some v := ((Only.alloc w o (fun _ => False)).cell (World.block_lt_of_cell? w p h) (fun h => h)).trans h
theorem Only.ofGrown {w w' : World} {row : Option Nat} (h : w.grownBy w' row) : Only w w' (fun k => row = some k) := ⟨h.os, h.tape, h.output, h.size, fun k hk hn => h.block k hk (fun e => hn e.symm)⟩
theorem infoInts : (Tryd.prog.info? 25).map (fun i => (i.zero, i.size, i.bytes)) = some (some (.slice none 0 0), 1, 24) := by kernel_rfl
/-- Lists of numbers in memory. -/
structure RwA (w : World) (a : Option Addr) (L : List (List Int)) : Prop where
  at' : ∀ k (h : k < L.length), ∃ b off, a = some ⟨b, off, none⟩ ∧ b < w.heap.size ∧ ∃ a1 c1, w.cell? ⟨b, off + k, none⟩ = some (.slice a1 (L[k]).length c1) ∧ IA w a1 L[k]
theorem RwA.past {w w' : World} {a : Option Addr} {L : List (List Int)} (h : RwA w a L) (hb : Below w.heap.size w w') : RwA w' a L := ⟨fun k hk => by
  obtain ⟨b, off, rfl, h1, a1, c1, h2, h3⟩ := h.at' k hk
  exact ⟨b, off, rfl, Nat.lt_of_lt_of_le h1 hb.size, a1, c1, (hb.cell (p := ⟨b, off + k, none⟩) h1).trans h2, h3.past hb⟩⟩
theorem IA.front {w : World} {a : Option Addr} {L M : List Int} (h : IA w a (L ++ M)) : IA w a L := ⟨fun k hk => by
  obtain ⟨b, off, e, h1, h2⟩ := h.at' k (by simp; omega)
  rw [List.getElem_append_left hk] at h2
  exact ⟨b, off, e, h1, h2⟩⟩
theorem below_refl' (w : World) : Below w.heap.size w w := Below.refl _ _
end Go.Proofs.YtjmmckkiicefhaaDoor
namespace Go.Proofs.YtjmmckkiicefhaaDoor
/-- A word as a number. -/
def val (m : Nat) (w : List Nat) : Nat := w.foldl (fun a c => a * m + c) 0
theorem val_from (m : Nat) : ∀ (v : List Nat) (a : Nat), v.foldl (fun a c => a * m + c) a = a * m ^ v.length + val m v
  | [], a => by simp [val]
  | c :: v, a => by
    rw [List.foldl_cons, val_from m v]
    have h : val m (c :: v) = c * m ^ v.length + val m v := by
      unfold val
      rw [List.foldl_cons, val_from m v]
      simp [val]
    rw [h, List.length_cons, Nat.add_mul, Nat.pow_succ]
    have : a * m * m ^ v.length = a * (m ^ v.length * m) := by rw [Nat.mul_assoc, Nat.mul_comm m]
    omega
theorem val_append (m : Nat) (u v : List Nat) : val m (u ++ v) = val m u * m ^ v.length + val m v := by
  unfold val
  rw [List.foldl_append]
  exact val_from m v _
theorem val_snoc (m : Nat) (u : List Nat) (c : Nat) : val m (u ++ [c]) = val m u * m + c := by
  rw [val_append]
  simp [val]
/-- Shorter, or as long and less. -/
def slx (m : Nat) (u v : List Nat) : Prop := u.length < v.length ∨ (u.length = v.length ∧ val m u < val m v)
theorem slx_irrefl {m : Nat} {u : List Nat} (h : slx m u u) : False := by
  rcases h with h | ⟨_, h⟩ <;> omega
theorem slx_trans {m : Nat} {u v w : List Nat} (h : slx m u v) (k : slx m v w) : slx m u w := by
  unfold slx at *
  omega
theorem slx_wf (m : Nat) : WellFounded (slx m) := by
  have h := InvImage.wf (fun w : List Nat => (w.length, val m w)) (Prod.lex (α := Nat) (β := Nat) ⟨_, Nat.lt_wfRel.wf⟩ ⟨_, Nat.lt_wfRel.wf⟩).wf
  refine Subrelation.wf (fun {u v} huv => ?_) h
  rcases huv with h1 | ⟨h1, h2⟩
  · exact Prod.Lex.left _ _ h1
  · show Prod.Lex _ _ (u.length, val m u) (v.length, val m v)
    rw [h1]
    exact Prod.Lex.right _ h2
theorem slx_snoc {m : Nat} {u v : List Nat} {c d : Nat} (h : slx m u v) (hc : c < m) : slx m (u ++ [c]) (v ++ [d]) := by
  unfold slx at *
  rw [List.length_append, List.length_append, val_snoc, val_snoc]
  rcases h with h | ⟨h1, h2⟩
  · left; simpa using h
  · right
    refine ⟨by simpa using h1, ?_⟩
    have : (val m u + 1) * m ≤ val m v * m := Nat.mul_le_mul_right m h2
    rw [Nat.add_mul] at this
    omega
theorem slx_last {m : Nat} (u : List Nat) {c d : Nat} (h : c < d) : slx m (u ++ [c]) (u ++ [d]) := by
  right
  rw [val_snoc, val_snoc]
  exact ⟨by simp, by omega⟩
theorem slx_more {m : Nat} (u : List Nat) {v : List Nat} (h : v ≠ []) : slx m u (u ++ v) := by
  left
  have := List.length_pos_iff.2 h
  rw [List.length_append]
  omega
theorem slx_with {m : Nat} {u v : List Nat} (w : List Nat) (hm : 0 < m) (h : slx m u v) : slx m (u ++ w) (v ++ w) := by
  unfold slx at *
  rw [List.length_append, List.length_append, val_append, val_append]
  rcases h with h | ⟨h1, h2⟩
  · left; omega
  · right
    refine ⟨by omega, ?_⟩
    have : val m u * m ^ w.length < val m v * m ^ w.length := Nat.mul_lt_mul_of_pos_right h2 (Nat.pow_pos hm)
    omega
theorem val_inj {m : Nat} : ∀ (n : Nat) (u v : List Nat), u.length = n → v.length = n → (∀ c ∈ u, c < m) → (∀ c ∈ v, c < m) → val m u = val m v → u = v
  | 0, u, v, hu, hv, _, _, _ => by rw [List.eq_nil_of_length_eq_zero hu, List.eq_nil_of_length_eq_zero hv]
  | n + 1, u, v, hu, hv, cu, cv, h => by
    obtain ⟨x, u', rfl⟩ : ∃ x u', u = u' ++ [x] := ⟨u.getLast (by intro e; subst e; simp at hu), u.dropLast, (List.dropLast_concat_getLast _).symm⟩
    obtain ⟨y, v', rfl⟩ : ∃ y v', v = v' ++ [y] := ⟨v.getLast (by intro e; subst e; simp at hv), v.dropLast, (List.dropLast_concat_getLast _).symm⟩
    rw [val_snoc, val_snoc] at h
    have hx : x < m := cu x (by simp)
    have hy : y < m := cv y (by simp)
    have h1 : val m u' = val m v' := by
      have e1 : (val m u' * m + x) / m = val m u' := by rw [Nat.mul_comm, Nat.mul_add_div (by omega), Nat.div_eq_of_lt hx, Nat.add_zero]
      have e2 : (val m v' * m + y) / m = val m v' := by rw [Nat.mul_comm, Nat.mul_add_div (by omega), Nat.div_eq_of_lt hy, Nat.add_zero]
      rw [← e1, h, e2]
    have h2 : x = y := by rw [h1] at h; omega
    rw [val_inj n u' v' (by simpa using hu) (by simpa using hv) (fun c hc => cu c (by simp [hc])) (fun c hc => cv c (by simp [hc])) h1, h2]
theorem slx_eq {m : Nat} {u v : List Nat} (cu : ∀ c ∈ u, c < m) (cv : ∀ c ∈ v, c < m) (h1 : ¬ slx m u v) (h2 : ¬ slx m v u) : u = v := by
  unfold slx at *
  have hl : u.length = v.length := by omega
  exact val_inj u.length u v rfl hl.symm cu cv (by omega)
/-- The state behind a word. -/
def runW (f : Nat → Nat → Nat) (s : Nat) (w : List Nat) : Nat := w.foldl f s
theorem runW_append (f : Nat → Nat → Nat) (s : Nat) (u v : List Nat) : runW f s (u ++ v) = runW f (runW f s u) v := List.foldl_append ..
/-- Two machines over so many symbols. -/
structure Two where
  m : Nat
  fa : Nat → Nat → Nat
  fb : Nat → Nat → Nat
  ta : Nat → List Int
  tb : Nat → List Int
  sa : Nat
  sb : Nat
def Two.dis (T : Two) (x y : Nat) (w : List Nat) : Prop := T.ta (runW T.fa x w) ≠ T.tb (runW T.fb y w)
def Two.ok (T : Two) (w : List Nat) : Prop := ∀ c ∈ w, c < T.m
/-- The word that is asked for. -/
structure Two.Best (T : Two) (w : List Nat) : Prop where
  ok : T.ok w
  dis : T.dis T.sa T.sb w
  least : ∀ z, T.ok z → T.dis T.sa T.sb z → ¬ slx T.m z w
theorem Two.Best.one {T : Two} {u v : List Nat} (h : T.Best u) (k : T.Best v) : u = v := slx_eq h.ok k.ok (k.least u h.ok h.dis) (h.least v k.ok k.dis)
/-- A meeting: the states, the meeting ahead, the symbol. -/
structure Mt where
  a : Nat
  b : Nat
  fr : Nat
  sy : Nat
deriving Inhabited
/-- The meetings so far, and their words. -/
structure Met (T : Two) (l : List Mt) (W : Nat → List Nat) : Prop where
  pos : 0 < l.length
  z : W 0 = [] ∧ (l.getD 0 default).a = T.sa ∧ (l.getD 0 default).b = T.sb
  st : ∀ k, 0 < k → k < l.length → (l.getD k default).fr < k ∧ (l.getD k default).sy < T.m ∧ W k = W (l.getD k default).fr ++ [(l.getD k default).sy] ∧ (l.getD k default).a = T.fa (l.getD (l.getD k default).fr default).a (l.getD k default).sy ∧ (l.getD k default).b = T.fb (l.getD (l.getD k default).fr default).b (l.getD k default).sy
  up : ∀ k, 0 < k → k + 1 < l.length → (l.getD k default).fr < (l.getD (k + 1) default).fr ∨ ((l.getD k default).fr = (l.getD (k + 1) default).fr ∧ (l.getD k default).sy < (l.getD (k + 1) default).sy)
/-- A place in the queue: a meeting and a symbol. -/
def pl (i c j d : Nat) : Prop := i < j ∨ (i = j ∧ c < d)
theorem Met.ok {T : Two} {l : List Mt} {W : Nat → List Nat} (h : Met T l W) : ∀ k, k < l.length → T.ok (W k) ∧ (l.getD k default).a = runW T.fa T.sa (W k) ∧ (l.getD k default).b = runW T.fb T.sb (W k) := by
  intro k
  induction k using Nat.strongRecOn with
  | _ k ih =>
    intro hk
    by_cases h0 : k = 0
    · subst h0
      rw [h.z.1]
      exact ⟨fun c hc => (by cases hc), h.z.2.1, h.z.2.2⟩
    · obtain ⟨h1, h2, h3, h4, h5⟩ := h.st k (by omega) hk
      obtain ⟨i1, i2, i3⟩ := ih _ h1 (by omega)
      rw [h3, runW_append, runW_append, ← i2, ← i3]
      refine ⟨fun c hc => ?_, h4, h5⟩
      rcases List.mem_append.1 hc with hc | hc
      · exact i1 c hc
      · rw [List.mem_singleton.1 hc]; exact h2
/-- The words rise. -/
theorem Met.rise {T : Two} {l : List Mt} {W : Nat → List Nat} (h : Met T l W) : ∀ k, k + 1 < l.length → slx T.m (W k) (W (k + 1)) := by
  intro k
  induction k using Nat.strongRecOn with
  | _ k ih =>
    intro hk
    obtain ⟨g1, g2, g3, _, _⟩ := h.st (k + 1) (by omega) hk
    by_cases h0 : k = 0
    · subst h0
      rw [h.z.1, g3]
      left
      simp
    · obtain ⟨h1, h2, h3, _, _⟩ := h.st k (by omega) (by omega)
      rw [h3, g3]
      rcases h.up k (by omega) hk with hu | ⟨hu, hs⟩
      · refine slx_snoc ?_ h2
        have mono : ∀ d i, i + d + 1 ≤ k → slx T.m (W i) (W (i + d + 1)) := fun d => by
          induction d with
          | zero => intro i hi; exact ih i (by omega) (by omega)
          | succ d ihd =>
            intro i hi
            exact slx_trans (ihd i (by omega)) (ih (i + d + 1) (by omega) (by omega))
        have := mono ((l.getD (k + 1) default).fr - (l.getD k default).fr - 1) (l.getD k default).fr (by omega)
        rw [show (l.getD k default).fr + ((l.getD (k + 1) default).fr - (l.getD k default).fr - 1) + 1 = (l.getD (k + 1) default).fr by omega] at this
        exact this
      · rw [hu]
        exact slx_last _ hs
theorem Met.mono {T : Two} {l : List Mt} {W : Nat → List Nat} (h : Met T l W) {i j : Nat} (hij : i < j) (hj : j < l.length) : slx T.m (W i) (W j) := by
  induction j with
  | zero => omega
  | succ j ih =>
    by_cases e : i = j
    · subst e; exact h.rise i hj
    · exact slx_trans (ih (by omega) (by omega)) (h.rise j hj)
/-- All that is in the queue lies ahead of the place at which one is. -/
theorem Met.ahead {T : Two} {l : List Mt} {W : Nat → List Nat} (h : Met T l W) {i c : Nat} (hi : i < l.length) (hl : ∀ k, 0 < k → k < l.length → pl (l.getD k default).fr (l.getD k default).sy i c) : ∀ k, k < l.length → slx T.m (W k) (W i ++ [c]) := fun k hk => by
  by_cases h0 : k = 0
  · subst h0
    rw [h.z.1]
    left
    simp
  · obtain ⟨h1, h2, h3, _, _⟩ := h.st k (by omega) hk
    rw [h3]
    rcases hl k (by omega) hk with hf | ⟨hf, hs⟩
    · exact slx_snoc (h.mono hf hi) h2
    · rw [hf]; exact slx_last _ hs
/-- What two states tell apart is told apart by a meeting of a lesser word. -/
def Cov (T : Two) (l : List Mt) (W : Nat → List Nat) (x y : Nat) (u : List Nat) : Prop := ∀ v, T.dis x y v → ∃ k, k < l.length ∧ slx T.m (W k) u ∧ T.dis (l.getD k default).a (l.getD k default).b v
/-- Is a meeting's successor in the queue, or covered? -/
def Did (T : Two) (l : List Mt) (W : Nat → List Nat) (i c : Nat) : Prop := (∃ k, k < l.length ∧ W k = W i ++ [c]) ∨ Cov T l W (T.fa (l.getD i default).a c) (T.fb (l.getD i default).b c) (W i ++ [c])
theorem Met.dis {T : Two} {l : List Mt} {W : Nat → List Nat} (h : Met T l W) {k : Nat} (hk : k < l.length) (v : List Nat) : T.dis T.sa T.sb (W k ++ v) ↔ T.dis (l.getD k default).a (l.getD k default).b v := by
  obtain ⟨_, h2, h3⟩ := h.ok k hk
  unfold Two.dis
  rw [runW_append, runW_append, h2, h3]
/-- The first meeting of states that tell unlike things has the least word. -/
theorem Met.best {T : Two} {l : List Mt} {W : Nat → List Nat} (h : Met T l W) {p : Nat} (hp : p ≤ l.length) (hd : ∀ i, i < p → ∀ c, c < T.m → Did T l W i c) (hs : ∀ i, i < p → T.ta (l.getD i default).a = T.tb (l.getD i default).b) :
    ∀ z, T.ok z → T.dis T.sa T.sb z → p < l.length ∧ ¬ slx T.m z (W p) := by
  intro z
  induction z using (slx_wf T.m).induction with
  | _ z ih =>
    intro hok hz
    -- every beginning of z is a word of the queue, or a lesser word tells them apart, or the place p is reached
    have key : ∀ n, n ≤ z.length → (p < l.length ∧ ¬ slx T.m z (W p)) ∨ ∃ k, k < l.length ∧ W k = z.take n := by
      intro n
      induction n with
      | zero => exact fun _ => .inr ⟨0, h.pos, by rw [h.z.1]; simp⟩
      | succ n ihn =>
        intro hn
        rcases ihn (by omega) with hh | ⟨k, hk, hw⟩
        · exact .inl hh
        · have hzn : z = z.take n ++ z.drop n := (List.take_append_drop n z).symm
          by_cases hkp : k < p
          · have hc : z[n]'(by omega) < T.m := hok _ (List.getElem_mem _)
            have hz2 : z = W k ++ [z[n]'(by omega)] ++ z.drop (n + 1) := by rw [hw, List.append_assoc]; simp
            rcases hd k hkp _ hc with ⟨j, hj, e⟩ | hcov
            · exact .inr ⟨j, hj, by rw [e, hw, List.take_succ_eq_append_getElem (by omega)]⟩
            · have hz3 : T.dis (T.fa (l.getD k default).a (z[n]'(by omega))) (T.fb (l.getD k default).b (z[n]'(by omega))) (z.drop (n + 1)) := by
                have hh := hz
                rw [hz2, List.append_assoc, h.dis hk] at hh
                unfold Two.dis at hh ⊢
                rw [runW_append, runW_append] at hh
                exact hh
              obtain ⟨j, hj, hlt, hdj⟩ := hcov _ hz3
              have hlt2 : slx T.m (W j ++ z.drop (n + 1)) z := by
                have := slx_with (z.drop (n + 1)) (by omega : 0 < T.m) hlt
                rw [← hz2] at this
                exact this
              have ok2 : T.ok (W j ++ z.drop (n + 1)) := fun c hc => by
                rcases List.mem_append.1 hc with hc | hc
                · exact (h.ok j hj).1 c hc
                · exact hok c (List.mem_of_mem_drop hc)
              obtain ⟨r1, r2⟩ := ih _ hlt2 ok2 ((h.dis hj _).2 hdj)
              exact .inl ⟨r1, fun hh => r2 (slx_trans hlt2 hh)⟩
          · left
            refine ⟨by omega, fun hh => ?_⟩
            have h1 : ¬ slx T.m (W k) (W p) := fun hx => by
              by_cases e : k = p
              · subst e; exact slx_irrefl hx
              · exact slx_irrefl (slx_trans hx (h.mono (by omega) hk))
            apply h1
            by_cases e : z.drop n = []
            · rw [hw]
              rw [e, List.append_nil] at hzn
              rw [← hzn]
              exact hh
            · refine slx_trans ?_ hh
              rw [hw]
              have hm := slx_more (m := T.m) (z.take n) e
              rw [List.take_append_drop] at hm
              exact hm
    rcases key z.length (Nat.le_refl _) with hh | ⟨k, hk, hw⟩
    · exact hh
    · rw [List.take_length] at hw
      have hkp : ¬ k < p := fun hkp => by
        have hh := hz
        rw [← hw, ← List.append_nil (W k), h.dis hk] at hh
        exact hh (hs k hkp)
      refine ⟨by omega, fun hh => ?_⟩
      rw [← hw] at hh
      by_cases e : k = p
      · subst e; exact slx_irrefl hh
      · exact slx_irrefl (slx_trans hh (h.mono (by omega) hk))
end Go.Proofs.YtjmmckkiicefhaaDoor
namespace Go.Proofs.YtjmmckkiicefhaaDoor
theorem getD_snoc_old {l : List Mt} {x : Mt} {k : Nat} (h : k < l.length) : (l ++ [x]).getD k default = l.getD k default := by
  rw [List.getD_eq_getElem?_getD, List.getD_eq_getElem?_getD, List.getElem?_append_left h]
theorem getD_snoc_new (l : List Mt) (x : Mt) : (l ++ [x]).getD l.length default = x := by
  rw [List.getD_eq_getElem?_getD]
  simp
theorem Met.one (T : Two) (f s : Nat) : Met T [⟨T.sa, T.sb, f, s⟩] (fun _ => []) :=
  ⟨by simp, ⟨rfl, rfl, rfl⟩, fun k h1 h2 => (by simp at h2; omega), fun k h1 h2 => (by simp at h2)⟩
theorem Met.snoc {T : Two} {l : List Mt} {W : Nat → List Nat} (h : Met T l W) {i c : Nat} (hi : i < l.length) (hc : c < T.m) (hl : ∀ k, 0 < k → k < l.length → pl (l.getD k default).fr (l.getD k default).sy i c) :
    Met T (l ++ [⟨T.fa (l.getD i default).a c, T.fb (l.getD i default).b c, i, c⟩]) (fun k => if k = l.length then W i ++ [c] else W k) := by
  have hp := h.pos
  refine ⟨by simp, ?_, fun k h1 h2 => ?_, fun k h1 h2 => ?_⟩
  · rw [getD_snoc_old hp, if_neg (by omega)]
    exact h.z
  · rw [List.length_append, List.length_singleton] at h2
    by_cases e : k = l.length
    · subst e
      rw [getD_snoc_new]
      simp only [if_true]
      rw [getD_snoc_old hi, if_neg (by omega)]
      exact ⟨hi, hc, rfl, rfl, rfl⟩
    · obtain ⟨g1, g2, g3, g4, g5⟩ := h.st k h1 (by omega)
      rw [getD_snoc_old (by omega : k < l.length), getD_snoc_old (by omega : (l.getD k default).fr < l.length), if_neg e, if_neg (by omega)]
      exact ⟨g1, g2, g3, g4, g5⟩
  · rw [List.length_append, List.length_singleton] at h2
    rw [getD_snoc_old (by omega : k < l.length)]
    by_cases e : k + 1 = l.length
    · rw [e, getD_snoc_new]
      exact hl k h1 (by omega)
    · rw [getD_snoc_old (by omega : k + 1 < l.length)]
      exact h.up k h1 (by omega)
theorem Did.snoc {T : Two} {l : List Mt} {W : Nat → List Nat} {i c : Nat} {x : Mt} {u : List Nat} (h : Did T l W i c) (hi : i < l.length) : Did T (l ++ [x]) (fun k => if k = l.length then u else W k) i c := by
  unfold Did Cov at *
  simp only [getD_snoc_old hi, if_neg (by omega : ¬ i = l.length)]
  rcases h with ⟨k, hk, e⟩ | h
  · exact .inl ⟨k, by rw [List.length_append]; omega, by rw [if_neg (by omega)]; exact e⟩
  · refine .inr (fun v hv => ?_)
    obtain ⟨k, hk, h1, h2⟩ := h v hv
    exact ⟨k, by rw [List.length_append]; omega, by rw [if_neg (by omega)]; exact h1, by rw [getD_snoc_old hk]; exact h2⟩
/-- The queue, where one is at a meeting and a symbol. -/
structure Que (T : Two) (l : List Mt) (W : Nat → List Nat) (i c : Nat) : Prop where
  met : Met T l W
  all : ∀ k, 0 < k → k < l.length → pl (l.getD k default).fr (l.getD k default).sy i c
  did : ∀ j, j < i → ∀ d, d < T.m → Did T l W j d
  now : ∀ d, d < c → Did T l W i d
  same : ∀ j, j < i → T.ta (l.getD j default).a = T.tb (l.getD j default).b
theorem Que.start (T : Two) (f s : Nat) : Que T [⟨T.sa, T.sb, f, s⟩] (fun _ => []) 0 0 :=
  ⟨Met.one T f s, fun k h1 h2 => (by simp at h2; omega), fun j h => absurd h (Nat.not_lt_zero _), fun j h => absurd h (Nat.not_lt_zero _), fun j h => absurd h (Nat.not_lt_zero _)⟩
theorem pl_next {i c j d : Nat} (h : pl i c j d) : pl i c j (d + 1) := by unfold pl at *; omega
/-- The next states are covered. -/
theorem Que.keep {T : Two} {l : List Mt} {W : Nat → List Nat} {i c : Nat} (h : Que T l W i c) (hi : i < l.length) (hc : ∀ v, T.dis (T.fa (l.getD i default).a c) (T.fb (l.getD i default).b c) v → ∃ k, k < l.length ∧ T.dis (l.getD k default).a (l.getD k default).b v) : Que T l W i (c + 1) := by
  refine ⟨h.met, fun k h1 h2 => pl_next (h.all k h1 h2), h.did, fun d hd => ?_, h.same⟩
  by_cases e : d = c
  · subst e
    refine .inr (fun v hv => ?_)
    obtain ⟨k, hk, hd'⟩ := hc v hv
    exact ⟨k, hk, h.met.ahead hi h.all k hk, hd'⟩
  · exact h.now d (by omega)
/-- They are met. -/
theorem Que.push {T : Two} {l : List Mt} {W : Nat → List Nat} {i c : Nat} (h : Que T l W i c) (hi : i < l.length) (hc : c < T.m) : ∃ W', Que T (l ++ [⟨T.fa (l.getD i default).a c, T.fb (l.getD i default).b c, i, c⟩]) W' i (c + 1) := by
  refine ⟨fun k => if k = l.length then W i ++ [c] else W k, h.met.snoc hi hc h.all, fun k h1 h2 => ?_, fun j hj d hd => (h.did j hj d hd).snoc (by omega), fun d hd => ?_, fun j hj => ?_⟩
  · rw [List.length_append, List.length_singleton] at h2
    by_cases e : k = l.length
    · subst e
      rw [getD_snoc_new]
      exact .inr ⟨rfl, Nat.lt_succ_self _⟩
    · rw [getD_snoc_old (by omega : k < l.length)]
      exact pl_next (h.all k h1 (by omega))
  · by_cases e : d = c
    · subst e
      exact .inl ⟨l.length, by simp, by simp only [if_true]; rw [if_neg (by omega)]⟩
    · exact (h.now d (by omega)).snoc hi
  · rw [getD_snoc_old (by omega : j < l.length)]
    exact h.same j hj
theorem Que.next {T : Two} {l : List Mt} {W : Nat → List Nat} {i : Nat} (h : Que T l W i T.m) (hs : T.ta (l.getD i default).a = T.tb (l.getD i default).b) : Que T l W (i + 1) 0 := by
  refine ⟨h.met, fun k h1 h2 => ?_, fun j hj d hd => ?_, fun d hd => absurd hd (Nat.not_lt_zero _), fun j hj => ?_⟩
  · have := h.all k h1 h2
    unfold pl at *
    omega
  · by_cases e : j = i
    · subst e; exact h.now d hd
    · exact h.did j (by omega) d hd
  · by_cases e : j = i
    · subst e; exact hs
    · exact h.same j (by omega)
theorem Que.found {T : Two} {l : List Mt} {W : Nat → List Nat} {i : Nat} (h : Que T l W i 0) (hi : i < l.length) (hs : T.ta (l.getD i default).a ≠ T.tb (l.getD i default).b) : T.Best (W i) := by
  have hd : T.dis T.sa T.sb (W i) := by
    have := (h.met.dis hi []).2 hs
    rw [List.append_nil] at this
    exact this
  exact ⟨(h.met.ok i hi).1, hd, fun z hz hzd => (h.met.best (Nat.le_of_lt hi) h.did h.same z hz hzd).2⟩
theorem Que.none {T : Two} {l : List Mt} {W : Nat → List Nat} (h : Que T l W l.length 0) : ∀ z, T.ok z → ¬ T.dis T.sa T.sb z := fun z hz hzd => by
  have := (h.met.best (Nat.le_refl _) h.did h.same z hz hzd).1
  omega
/-- A forest: above each node another, up to a root. -/
structure Frst (n : Nat) (p rt d : Nat → Nat) : Prop where
  lt : ∀ s, s < n → p s < n
  r0 : ∀ s, s < n → rt s < n
  r1 : ∀ s, s < n → p (rt s) = rt s
  r2 : ∀ s, s < n → rt (p s) = rt s
  r3 : ∀ s, s < n → p s = s → rt s = s
  dn : ∀ s, s < n → p s ≠ s → d (p s) < d s
def putF (p : Nat → Nat) (s v : Nat) : Nat → Nat := fun x => if x = s then v else p x
theorem Frst.one (n : Nat) : Frst n (fun s => s) (fun s => s) (fun _ => 0) := ⟨fun _ h => h, fun _ h => h, fun _ _ => rfl, fun _ _ => rfl, fun _ _ _ => rfl, fun _ _ h => absurd rfl h⟩
theorem Frst.two {n : Nat} {p rt d : Nat → Nat} (h : Frst n p rt d) {s : Nat} (hs : s < n) (hp : p s ≠ s) : p (p s) ≠ s ∧ d (p (p s)) < d s := by
  have h1 := h.dn s hs hp
  by_cases e : p (p s) = p s
  · rw [e]; exact ⟨hp, h1⟩
  · have h2 := h.dn (p s) (h.lt s hs) e
    exact ⟨fun e2 => by rw [e2] at h2; omega, by omega⟩
/-- A node is hung one higher. -/
theorem Frst.halve {n : Nat} {p rt d : Nat → Nat} (h : Frst n p rt d) {s : Nat} (hs : s < n) (hp : p s ≠ s) : Frst n (putF p s (p (p s))) rt d := by
  obtain ⟨t1, t2⟩ := h.two hs hp
  unfold putF
  refine ⟨fun x hx => ?_, h.r0, fun x hx => ?_, fun x hx => ?_, fun x hx e => ?_, fun x hx e => ?_⟩
  · show (if x = s then _ else _) < n
    split
    · exact h.lt _ (h.lt _ hs)
    · exact h.lt x hx
  · show (if rt x = s then _ else _) = rt x
    have hr := h.r1 x hx
    split
    · rename_i e; rw [e] at hr; exact absurd hr hp
    · exact hr
  · show rt (if x = s then _ else _) = rt x
    split
    · rename_i e; subst e; rw [h.r2 _ (h.lt _ hx), h.r2 _ hx]
    · exact h.r2 x hx
  · split at e
    · rename_i e2; subst e2; exact absurd e t1
    · exact h.r3 x hx e
  · split at e
    · rename_i e2; subst e2; rw [if_pos rfl]; exact t2
    · rename_i e2; rw [if_neg e2]; exact h.dn x hx e
/-- Two circles are brought together. -/
theorem Frst.unite {n : Nat} {p rt d : Nat → Nat} (h : Frst n p rt d) {a b : Nat} (ha : a < n) (hb : b < n) (ra : p a = a) (rb : p b = b) (hab : a ≠ b) :
    Frst n (putF p b a) (fun x => if rt x = b then a else rt x) (fun x => if rt x = b then d x + d a + 1 else d x) := by
  have hra := h.r3 a ha ra
  have hrb := h.r3 b hb rb
  unfold putF
  refine ⟨fun x hx => ?_, fun x hx => ?_, fun x hx => ?_, fun x hx => ?_, fun x hx e => ?_, fun x hx e => ?_⟩
  · show (if x = b then a else p x) < n
    split
    · exact ha
    · exact h.lt x hx
  · show (if rt x = b then a else rt x) < n
    split
    · exact ha
    · exact h.r0 x hx
  · show (if (if rt x = b then a else rt x) = b then a else p (if rt x = b then a else rt x)) = if rt x = b then a else rt x
    by_cases e : rt x = b
    · rw [if_pos e, if_neg hab]; exact ra
    · rw [if_neg e, if_neg e]; exact h.r1 x hx
  · show (if rt (if x = b then a else p x) = b then a else rt (if x = b then a else p x)) = if rt x = b then a else rt x
    by_cases e : x = b
    · subst e; rw [if_pos rfl, hra, hrb, if_neg hab, if_pos rfl]
    · rw [if_neg e, h.r2 x hx]
  · by_cases e2 : x = b
    · subst e2; rw [if_pos rfl] at e; exact absurd e hab
    · rw [if_neg e2] at e
      have := h.r3 x hx e
      rw [this, if_neg e2]
  · by_cases e2 : x = b
    · subst e2
      rw [if_pos rfl, hra, if_neg hab, if_pos hrb]
      omega
    · rw [if_neg e2] at e ⊢
      rw [h.r2 x hx]
      have := h.dn x hx e
      split <;> omega
/-- How many roots there are. -/
def rootsF (n : Nat) (p : Nat → Nat) : Nat := (List.range n).countP (fun s => p s == s)
theorem rootsF_one (n : Nat) : rootsF n (fun s => s) = n := by
  unfold rootsF
  rw [List.countP_eq_length.2 (by simp), List.length_range]
theorem rootsF_congr {n : Nat} {p q : Nat → Nat} (h : ∀ s, s < n → (p s = s ↔ q s = s)) : rootsF n p = rootsF n q := by
  unfold rootsF
  refine List.countP_congr (fun s hs => ?_)
  have := h s (List.mem_range.1 hs)
  simpa using this
theorem rootsF_unite {p : Nat → Nat} {a b : Nat} (rb : p b = b) (hab : a ≠ b) : ∀ n, rootsF n (putF p b a) + (if b < n then 1 else 0) = rootsF n p
  | 0 => by simp [rootsF]
  | n + 1 => by
    have ih := rootsF_unite rb hab n
    unfold rootsF at *
    rw [List.range_succ, List.countP_append, List.countP_append]
    by_cases e : n = b
    · subst e
      simp only [List.countP_cons, List.countP_nil, putF, if_true, beq_iff_eq, rb]
      rw [if_neg (by omega : ¬ n < n)] at ih
      rw [if_neg hab, if_pos (by omega : n < n + 1)]
      simp only [putF] at ih
      omega
    · have h1 : putF p b a n = p n := by unfold putF; rw [if_neg e]
      simp only [List.countP_cons, List.countP_nil, h1]
      have h2 : (if b < n + 1 then 1 else 0) = (if b < n then 1 else 0) := by
        by_cases hb : b < n
        · rw [if_pos hb, if_pos (by omega)]
        · rw [if_neg hb, if_neg (by omega)]
      rw [h2]
      omega
theorem rootsF_pos {n : Nat} {p rt d : Nat → Nat} (h : Frst n p rt d) (hn : 0 < n) : 0 < rootsF n p := by
  unfold rootsF
  rw [List.countP_pos_iff]
  exact ⟨rt 0, List.mem_range.2 (h.r0 0 hn), by simpa using h.r1 0 hn⟩
/-- What a node of either machine tells behind a word. -/
def Two.beh (T : Two) (na : Nat) (x : Nat) (v : List Nat) : List Int := if x < na then T.ta (runW T.fa x v) else T.tb (runW T.fb (x - na) v)
/-- Nodes of one circle are told apart by a meeting. -/
def Circ (T : Two) (na n : Nat) (rt : Nat → Nat) (l : List Mt) : Prop := ∀ x y, x < n → y < n → rt x = rt y → ∀ v, T.beh na x v ≠ T.beh na y v → ∃ k, k < l.length ∧ T.dis (l.getD k default).a (l.getD k default).b v
theorem Circ.one (T : Two) (na n : Nat) : Circ T na n (fun s => s) [] := fun x y _ _ h v hv => by subst h; exact absurd rfl hv
theorem Circ.cov {T : Two} {na nb : Nat} {rt : Nat → Nat} {l : List Mt} (h : Circ T na (na + nb) rt l) {x y : Nat} (hx : x < na) (hy : y < nb) (e : rt x = rt (na + y)) : ∀ v, T.dis x y v → ∃ k, k < l.length ∧ T.dis (l.getD k default).a (l.getD k default).b v := fun v hv => by
  refine h x (na + y) (by omega) (by omega) e v ?_
  unfold Two.beh
  rw [if_pos hx, if_neg (by omega), Nat.add_sub_cancel_left]
  exact hv
theorem Circ.unite {T : Two} {na nb : Nat} {rt : Nat → Nat} {l : List Mt} (h : Circ T na (na + nb) rt l) {x y : Nat} (hx : x < na) (hy : y < nb) (f s : Nat) :
    Circ T na (na + nb) (fun z => if rt z = rt (na + y) then rt x else rt z) (l ++ [⟨x, y, f, s⟩]) := by
  have old : ∀ u w, u < na + nb → w < na + nb → rt u = rt w → ∀ v, T.beh na u v ≠ T.beh na w v → ∃ k, k < (l ++ [(⟨x, y, f, s⟩ : Mt)]).length ∧ T.dis ((l ++ [(⟨x, y, f, s⟩ : Mt)]).getD k default).a ((l ++ [(⟨x, y, f, s⟩ : Mt)]).getD k default).b v := fun u w hu hw e v hv => by
    obtain ⟨k, hk, hd⟩ := h u w hu hw e v hv
    exact ⟨k, by rw [List.length_append]; omega, by rw [getD_snoc_old hk]; exact hd⟩
  have new : ∀ v, T.beh na x v ≠ T.beh na (na + y) v → ∃ k, k < (l ++ [(⟨x, y, f, s⟩ : Mt)]).length ∧ T.dis ((l ++ [(⟨x, y, f, s⟩ : Mt)]).getD k default).a ((l ++ [(⟨x, y, f, s⟩ : Mt)]).getD k default).b v := fun v hv => by
    refine ⟨l.length, by simp, ?_⟩
    rw [getD_snoc_new]
    unfold Two.beh at hv
    rw [if_pos hx, if_neg (by omega), Nat.add_sub_cancel_left] at hv
    exact hv
  -- u lies with y's, w with x's
  have mix : ∀ u w, u < na + nb → w < na + nb → rt u = rt (na + y) → rt w = rt x → ∀ v, T.beh na u v ≠ T.beh na w v → ∃ k, k < (l ++ [(⟨x, y, f, s⟩ : Mt)]).length ∧ T.dis ((l ++ [(⟨x, y, f, s⟩ : Mt)]).getD k default).a ((l ++ [(⟨x, y, f, s⟩ : Mt)]).getD k default).b v := fun u w hu hw e1 e2 v hv => by
    by_cases c1 : T.beh na u v = T.beh na (na + y) v
    · by_cases c2 : T.beh na x v = T.beh na (na + y) v
      · exact old x w (by omega) hw e2.symm v (by rw [c2, ← c1]; exact hv)
      · exact new v c2
    · exact old u (na + y) hu (by omega) e1 v c1
  intro u w hu hw e v hv
  simp only at e
  by_cases e1 : rt u = rt (na + y)
  · by_cases e2 : rt w = rt (na + y)
    · exact old u w hu hw (by rw [e1, e2]) v hv
    · rw [if_pos e1, if_neg e2] at e
      exact mix u w hu hw e1 e.symm v hv
  · by_cases e2 : rt w = rt (na + y)
    · rw [if_neg e1, if_pos e2] at e
      exact mix w u hw hu e2 e v (fun hh => hv hh.symm)
    · rw [if_neg e1, if_neg e2] at e
      exact old u w hu hw e v hv
end Go.Proofs.YtjmmckkiicefhaaDoor
namespace Go.Proofs.YtjmmckkiicefhaaDoor
/-- Does a list rise, from a number on? -/
def upF : Int → List Int → Bool
  | _, [] => true
  | lo, z :: l => decide (lo ≤ z) && upF (z + 1) l
/-- May a machine be? -/
def mayF (st : Int) (N O : List (List Int)) (m : Int) : Bool := decide (0 ≤ m) && decide (O.length = N.length) && oneOf N.length st && N.all (fun r => decide ((r.length : Int) = m) && r.all (oneOf N.length)) && O.all (upF 0)
structure May (st : Int) (N O : List (List Int)) (m : Nat) : Prop where
  out : O.length = N.length
  start : 0 ≤ st ∧ st < (N.length : Int)
  row : ∀ r ∈ N, r.length = m
  num : ∀ r ∈ N, ∀ z ∈ r, 0 ≤ z ∧ z < (N.length : Int)
theorem mayF_may {st : Int} {N O : List (List Int)} {m : Int} (h : mayF st N O m = true) : ∃ n : Nat, m = (n : Int) ∧ May st N O n := by
  unfold mayF at h
  simp only [Bool.and_eq_true, decide_eq_true_eq, List.all_eq_true] at h
  obtain ⟨⟨⟨⟨h1, h2⟩, h3⟩, h4⟩, _⟩ := h
  refine ⟨m.toNat, by omega, h2, (oneOf_iff _ _).1 h3, fun r hr => by have := (h4 r hr).1; omega, fun r hr z hz => (oneOf_iff _ _).1 ((h4 r hr).2 z hz)⟩
/-- The next state. -/
def nxF (N : List (List Int)) (s c : Nat) : Nat := ((N.getD s []).getD c 0).toNat
def twoF (m : Nat) (st st' : Int) (N O N' O' : List (List Int)) : Two := ⟨m, nxF N, nxF N', fun s => O.getD s [], fun s => O'.getD s [], st.toNat, st'.toNat⟩
theorem May.next {st : Int} {N O : List (List Int)} {m : Nat} (h : May st N O m) {s c : Nat} (hs : s < N.length) (hc : c < m) : nxF N s c < N.length ∧ (N.getD s []).getD c 0 = (nxF N s c : Int) ∧ (N.getD s []).length = m := by
  have hm : N.getD s [] ∈ N := by rw [List.getD_eq_getElem?_getD, List.getElem?_eq_getElem hs]; exact List.getElem_mem hs
  have hl := h.row _ hm
  have hz : (N.getD s []).getD c 0 ∈ N.getD s [] := by
    rw [List.getD_eq_getElem?_getD (l := N.getD s []), List.getElem?_eq_getElem (by omega)]
    exact List.getElem_mem _
  have := h.num _ hm _ hz
  unfold nxF
  omega
/-- All meetings are of states that there are. -/
def InM (na nb : Nat) (l : List Mt) : Prop := ∀ k, k < l.length → (l.getD k default).a < na ∧ (l.getD k default).b < nb
theorem InM.snoc {na nb : Nat} {l : List Mt} (h : InM na nb l) {x : Mt} (ha : x.a < na) (hb : x.b < nb) : InM na nb (l ++ [x]) := fun k hk => by
  rw [List.length_append, List.length_singleton] at hk
  by_cases e : k = l.length
  · subst e
    rw [getD_snoc_new]
    exact ⟨ha, hb⟩
  · rw [getD_snoc_old (by omega : k < l.length)]
    exact h k (by omega)
/-- The answer of Apart. -/
structure ApA (T : Two) (r : Option (List Nat)) : Prop where
  some' : ∀ w, r = some w → T.Best w
  none' : r = none → ∀ z, T.ok z → ¬ T.dis T.sa T.sb z
theorem ApA.one {T : Two} {r s : Option (List Nat)} (h : ApA T r) (k : ApA T s) : r = s := by
  cases r with
  | none => cases s with
    | none => rfl
    | some v => exact absurd (k.some' v rfl).dis (h.none' rfl v (k.some' v rfl).ok)
  | some u => cases s with
    | none => exact absurd (h.some' u rfl).dis (k.none' rfl u (h.some' u rfl).ok)
    | some v => rw [(h.some' u rfl).one (k.some' v rfl)]
end Go.Proofs.YtjmmckkiicefhaaDoor
namespace Go.Proofs.YtjmmckkiicefhaaDoor
open Go.RowKit Go.Shelf
theorem upF_drop {L : List Int} {k : Nat} {lo : Int} (h : k < L.length) : upF lo (L.drop k) = (decide (lo ≤ L[k]) && upF (L[k] + 1) (L.drop (k + 1))) := by
  rw [List.drop_eq_getElem_cons h]
  rfl
theorem upF_end {L : List Int} {k : Nat} {lo : Int} (h : L.length ≤ k) : upF lo (L.drop k) = true := by
  rw [List.drop_eq_nil_of_le h]
  rfl
set_option maxRecDepth 10000 in
set_option maxHeartbeats 800000 in
theorem isOneOf_any (n : Nat) (z : Int) (w : World) : Calls Tryd.prog 27 #[.int .i64 z, .int .i64 (n : Int)] w fun e w' => e = .returned (.bool (oneOf n z)) ∧ w' = w := by
  by_cases h : z ≥ 0
  · by_cases h2 : z < (n : Int)
    · have e : oneOf n z = true := (oneOf_iff n z).2 ⟨h, h2⟩
      rw [e]
      go_enter Tryd.func27, Tryd.ntmps27
      go_wp2
      go_ret
      exact ⟨rfl, rfl⟩
    · have e : oneOf n z = false := (oneOf_not n z).2 (fun q => h2 q.2)
      rw [e]
      go_enter Tryd.func27, Tryd.ntmps27
      go_wp2
      go_ret
      exact ⟨rfl, rfl⟩
  · have e : oneOf n z = false := (oneOf_not n z).2 (fun q => h q.1)
    rw [e]
    go_enter Tryd.func27, Tryd.ntmps27
    go_wp2
    go_ret
    exact ⟨rfl, rfl⟩
set_option maxRecDepth 10000 in
set_option maxHeartbeats 800000 in
theorem allOf_any (n : Nat) (L : List Int) (a : Option Addr) (c : Nat) (w : World) (hl : L.length ≤ 17592186043904) (ha : IA w a L) : Calls Tryd.prog 28 #[.slice a L.length c, .int .i64 (n : Int)] w fun e w' => e = .returned (.bool (L.all (oneOf n))) ∧ w' = w := by
  have HA := hid0 ha
  have HO := hid0 (fun z => isOneOf_any n z w)
  clear ha
  go_enter Tryd.func28, Tryd.ntmps28
  go_wp2
  go_loopw [9] (fun i wr => ∃ k : Nat, k ≤ L.length ∧ i = .int .i64 (k : Int) ∧ wr = w ∧ Hid ((L.drop k).all (oneOf n) = L.all (oneOf n))) (fun i _ => L.length - (intOf i).toNat)
  case atStart => exact ⟨0, Nat.zero_le _, rfl, rfl, hid0 rfl⟩
  case round =>
    obtain ⟨k, hk, rfl, rfl, HD⟩ := hrel
    by_cases hlt : k < L.length
    · obtain ⟨b, off, rfl, _, d1⟩ := HA.out.at' k hlt
      have hkI : (k : Int) < (L.length : Int) := by omega
      have hkI0 : (0 : Int) ≤ (k : Int) := by omega
      have HS := hid0 (all_drop (n := n) hlt)
      generalize L[k] = s at *
      have HOS := hid0 (HO.out s)
      cases hs : oneOf n s with
      | true =>
        rw [hs] at HOS
        have HD2 : Hid ((L.drop (k + 1)).all (oneOf n) = L.all (oneOf n)) := hid0 (by rw [← HD.out, HS.out, hs, Bool.true_and])
        clear HS HD hs
        go_wp2_with (go_at_call 27; refine HOS.out.mono ?_; rintro e w1 ⟨rfl, rfl⟩)
        go_roundw
        case rel => exact ⟨k + 1, by omega, by go_num, trivial, HD2⟩
        case measure => simp [intOf]; omega
      | false =>
        rw [hs] at HOS
        have HD2 : Hid (L.all (oneOf n) = false) := hid0 (by rw [← HD.out, HS.out, hs, Bool.false_and])
        clear HS HD hs
        go_wp2_with (go_at_call 27; refine HOS.out.mono ?_; rintro e w1 ⟨rfl, rfl⟩)
        go_ret
        exact ⟨by rw [HD2.out]; rfl, rfl⟩
    · have hkI : ¬ (k : Int) < (L.length : Int) := by omega
      have HD2 : Hid (L.all (oneOf n) = true) := hid0 (by rw [← HD.out]; exact all_end (by omega))
      clear HD
      go_wp2
      go_ret
      exact ⟨by rw [HD2.out]; rfl, rfl⟩
set_option maxRecDepth 10000 in
set_option maxHeartbeats 800000 in
theorem rises_any (L : List Int) (a : Option Addr) (c : Nat) (w : World) (hl : L.length ≤ 17592186043904) (ha : IA w a L) : Calls Tryd.prog 29 #[.slice a L.length c] w fun e w' => e = .returned (.bool (upF 0 L)) ∧ w' = w := by
  have HA := hid0 ha
  clear ha
  go_enter Tryd.func29, Tryd.ntmps29
  go_wp2
  go_loopw [3, 8] (fun l i wr => ∃ (k : Nat) (lo : Int), k ≤ L.length ∧ i = .int .i64 (k : Int) ∧ l = .int .i64 (lo - 1) ∧ wr = w ∧ Hid (upF lo (L.drop k) = upF 0 L)) (fun _ i _ => L.length - (intOf i).toNat)
  case atStart => exact ⟨0, 0, Nat.zero_le _, rfl, rfl, rfl, hid0 rfl⟩
  case round =>
    obtain ⟨k, lo, hk, rfl, rfl, rfl, HD⟩ := hrel
    by_cases hlt : k < L.length
    · obtain ⟨b, off, rfl, _, d1⟩ := HA.out.at' k hlt
      have hkI : (k : Int) < (L.length : Int) := by omega
      have hkI0 : (0 : Int) ≤ (k : Int) := by omega
      have HS := hid0 (upF_drop (lo := lo) hlt)
      generalize L[k] = s at *
      by_cases h1 : s ≤ lo - 1
      · have HD2 : Hid (upF 0 L = false) := hid0 (by rw [← HD.out, HS.out, decide_eq_false (by omega)]; rfl)
        clear HS HD
        go_wp2
        go_ret
        exact ⟨by rw [HD2.out]; rfl, rfl⟩
      · have HD2 : Hid (upF (s + 1) (L.drop (k + 1)) = upF 0 L) := hid0 (by rw [← HD.out, HS.out, decide_eq_true (p := lo ≤ s) (by omega)]; rfl)
        clear HS HD
        go_wp2
        go_roundw
        case rel => exact ⟨k + 1, s + 1, by omega, by go_num, by congr 1; omega, trivial, HD2⟩
        case measure => simp [intOf]; omega
    · have hkI : ¬ (k : Int) < (L.length : Int) := by omega
      have HD2 : Hid (upF 0 L = true) := hid0 (by rw [← HD.out]; exact upF_end (by omega))
      clear HD
      go_wp2
      go_ret
      exact ⟨by rw [HD2.out]; rfl, rfl⟩
theorem drew_two (w : World) (a b : Nat) : ∃ n, (w.drewN a).drewN b = w.drewN n := ⟨a + b, by rw [World.drewN_drewN]⟩
/-- The least that may come at a place. -/
def loAt (L : List Int) (k : Nat) : Int := if k = 0 then 0 else L.getD (k - 1) 0 + 1
set_option maxRecDepth 10000 in
set_option maxHeartbeats 800000 in
theorem refRises_any (L : List Int) (a : Option Addr) (c : Nat) (w : World) (hl : L.length ≤ 17592186043904) (ha : IA w a L) : Calls Tryd.prog 24 #[.slice a L.length c] w fun e w' => e = .returned (.bool (upF 0 L)) ∧ ∃ n, w' = w.drewN n := by
  have HA := hid0 ha
  clear ha
  go_enter Tryd.func24, Tryd.ntmps24
  go_wp2
  go_loopw [3] (fun i wr => ∃ k : Nat, k ≤ L.length ∧ 0 ≤ loAt L k ∧ i = .int .i64 (k : Int) ∧ (∃ n, wr = w.drewN n) ∧ Hid (upF (loAt L k) (L.drop k) = upF 0 L)) (fun i _ => L.length - (intOf i).toNat)
  case atStart => exact ⟨0, Nat.zero_le _, Int.le_refl _, rfl, ⟨0, rfl⟩, hid0 rfl⟩
  case round =>
    obtain ⟨k, hk, hlo, rfl, ⟨nd, rfl⟩, HD⟩ := hrel
    by_cases hlt : k < L.length
    · obtain ⟨b, off, rfl, _, d1⟩ := HA.out.at' k hlt
      have hkI : (k : Int) < (L.length : Int) := by omega
      have hkI0 : (0 : Int) ≤ (k : Int) := by omega
      have HS := hid0 (upF_drop (lo := loAt L k) hlt)
      have HN : Hid (loAt L (k + 1) = L[k] + 1) := hid0 (by unfold loAt; rw [if_neg (by omega), Nat.add_sub_cancel, List.getD_eq_getElem?_getD, List.getElem?_eq_getElem hlt]; rfl)
      by_cases h0 : k = 0
      · have e0 : loAt L k = 0 := by unfold loAt; rw [if_pos h0]
        rw [e0] at HS HD
        clear e0 hlo
        generalize L[k] = s at *
        have h00 : ¬ (k : Int) > 0 := by omega
        have h01 : decide ((0 : Int) < (k : Int)) = false := decide_eq_false h00
        have h02 : decide (0 < k) = false := decide_eq_false (by omega)
        clear h0
        by_cases h1 : s < 0
        · have HD2 : Hid (upF 0 L = false) := hid0 (by rw [← HD.out, HS.out, decide_eq_false (by omega)]; rfl)
          have hd : decide (s < 0) = true := decide_eq_true h1
          clear HS HD
          go_wp2
          go_quiet ((fail))
          go_wp2
          go_ret
          exact ⟨by rw [HD2.out]; rfl, drew_two _ _ _⟩
        · have HD2 : Hid (upF (s + 1) (L.drop (k + 1)) = upF 0 L) := hid0 (by rw [← HD.out, HS.out, decide_eq_true (p := 0 ≤ s) (by omega)]; rfl)
          have hd : decide (s < 0) = false := decide_eq_false h1
          clear HS HD
          go_wp2
          go_quiet ((fail))
          go_wp2
          go_roundw
          case rel => exact ⟨k + 1, by omega, by rw [HN.out]; omega, by go_num, ⟨_, rfl⟩, hid0 (by rw [HN.out]; exact HD2.out)⟩
          case measure => simp [intOf]; omega
      · obtain ⟨j, rfl⟩ : ∃ j, k = j + 1 := ⟨k - 1, by omega⟩
        obtain ⟨b2, off2, e2, _, d2⟩ := HA.out.at' j (by omega)
        cases e2
        have e0 : loAt L (j + 1) = L[j]'(by omega) + 1 := by unfold loAt; rw [if_neg (by omega), Nat.add_sub_cancel, List.getD_eq_getElem?_getD, List.getElem?_eq_getElem (by omega)]; rfl
        rw [e0] at HS HD hlo
        clear e0
        generalize L[j + 1] = s at *
        generalize L[j]'(by omega) = q at *
        have ej : ((j + 1 : Nat) : Int) - 1 = (j : Int) := by omega
        have hj0 : ((j + 1 : Nat) : Int) > 0 := by omega
        have hj1 : decide (((j + 1 : Nat) : Int) > 0) = true := decide_eq_true hj0
        by_cases h1 : s < 0
        · have HD2 : Hid (upF 0 L = false) := hid0 (by rw [← HD.out, HS.out, decide_eq_false (by omega)]; rfl)
          have hd : decide (s < 0) = true := decide_eq_true h1
          clear HS HD
          go_wp2
          go_quiet ((fail))
          go_wp2
          go_ret
          exact ⟨by rw [HD2.out]; rfl, drew_two _ _ _⟩
        · have hd : decide (s < 0) = false := decide_eq_false h1
          by_cases h2 : s ≤ q
          · have HD2 : Hid (upF 0 L = false) := hid0 (by rw [← HD.out, HS.out, decide_eq_false (by omega)]; rfl)
            clear HS HD
            go_wp2
            go_quiet ((fail))
            go_wp2
            go_ret
            exact ⟨by rw [HD2.out]; rfl, drew_two _ _ _⟩
          · have HD2 : Hid (upF (s + 1) (L.drop (j + 1 + 1)) = upF 0 L) := hid0 (by rw [← HD.out, HS.out, decide_eq_true (p := q + 1 ≤ s) (by omega)]; rfl)
            clear HS HD
            go_wp2
            go_quiet ((fail))
            go_wp2
            go_roundw
            case rel => exact ⟨j + 1 + 1, by omega, by rw [HN.out]; omega, by go_num, ⟨_, rfl⟩, hid0 (by rw [HN.out]; exact HD2.out)⟩
            case measure => simp [intOf]; omega
    · have hkI : ¬ (k : Int) < (L.length : Int) := by omega
      have HD2 : Hid (upF 0 L = true) := hid0 (by rw [← HD.out]; exact upF_end (by omega))
      clear HD
      go_wp2
      go_ret
      exact ⟨by rw [HD2.out]; rfl, nd, rfl⟩
set_option maxRecDepth 10000 in
set_option maxHeartbeats 800000 in
theorem sameI (l : List Int) (a b : Option Addr) (ca cb : Nat) (w : World) (hl : l.length ≤ 17592186044000) (ha : IA w a l) (hb : IA w b l) :
    Calls Tryd.prog 40 #[.slice a l.length ca, .slice b l.length cb] w fun e w' => e = .returned (.bool true) ∧ ∃ n, w' = w.drewN n := by
  have HA := hid0 ha
  have HB := hid0 hb
  clear ha hb
  go_enter Tryd.func40, Tryd.ntmps40
  go_wp2
  go_loopw [5] (fun i wr => ∃ k : Nat, k ≤ l.length ∧ i = .int .i64 (k : Int) ∧ ∃ n, wr = w.drewN n) (fun i _ => l.length - (intOf i).toNat)
  case atStart => exact ⟨0, Nat.zero_le _, rfl, 0, rfl⟩
  case round =>
    obtain ⟨k, hk, rfl, nd, rfl⟩ := hrel
    by_cases hlt : k < l.length
    · obtain ⟨b1, o1, rfl, _, d1⟩ := HA.out.at' k hlt
      obtain ⟨b2, o2, rfl, _, d2⟩ := HB.out.at' k hlt
      have hkI : (k : Int) < (l.length : Int) := by omega
      have hkI0 : (0 : Int) ≤ (k : Int) := by omega
      generalize l[k] = s at *
      have hself : (s == s) = true := by simp
      go_wp2
      go_quiet ((fail))
      go_wp2
      go_roundw
      case rel => exact ⟨k + 1, by omega, by go_num, _, rfl⟩
      case measure => simp [intOf]; omega
    · have hkI : ¬ (k : Int) < (l.length : Int) := by omega
      go_wp2
      go_ret
      exact ⟨rfl, nd, rfl⟩
end Go.Proofs.YtjmmckkiicefhaaDoor
namespace Go.Proofs.YtjmmckkiicefhaaDoor
open Go.RowKit
section
variable {P : Program} {ops : Array Oper} {Q : Exit → Act → World → Prop} {md : Region.Mode} {S : World → Prop}
/-- An operation that yields a value is taken first. -/
theorem tkV {i : Nat} {oi : Oper} {d : Option Tmp} {v : Value} {fuel : Nat} {listed : Array Bool} {a : Act} {w : World} (hi : ops[i]? = some oi)
    (hs : Region.noSelect ops = true) (hf : Region.free md ops listed i = true) (hr : (Region.ready md ops listed).contains i = true) (hd : oi.dst = d)
    (hQ : ∀ c a w, Q (.panic c) (a.put d v) w → Q (.panic c) a w) (hw : Region.wanted oi (yielded ops a.tmps) = true) (hv : ∀ w, S w → (execOp a.eval oi).run P w = .ok (.value v) w) (hS : S w)
    (h : wpAnyH P md ops Q S fuel (listed.setIfInBounds i true) (a.put d v) w) : wpAnyH P md ops Q S (fuel + 1) listed a w := by
  subst hd
  exact wpAnyH_take hi hs hf hr hQ (.inl ⟨hw, hv⟩) hS h
/-- One that is not wanted. -/
theorem tkU {i : Nat} {oi : Oper} {d : Option Tmp} {fuel : Nat} {listed : Array Bool} {a : Act} {w : World} (hi : ops[i]? = some oi)
    (hs : Region.noSelect ops = true) (hf : Region.free md ops listed i = true) (hr : (Region.ready md ops listed).contains i = true) (hd : oi.dst = d)
    (hQ : ∀ c a w, Q (.panic c) (a.put d undef) w → Q (.panic c) a w) (hw : Region.wanted oi (yielded ops a.tmps) = false) (hS : S w)
    (h : wpAnyH P md ops Q S fuel (listed.setIfInBounds i true) (a.put d undef) w) : wpAnyH P md ops Q S (fuel + 1) listed a w := by
  subst hd
  exact wpAnyH_take hi hs hf hr hQ (.inr ⟨hw, rfl⟩) hS h
end
end Go.Proofs.YtjmmckkiicefhaaDoor
namespace Go.Proofs.YtjmmckkiicefhaaDoor
open Go.RowKit Go.Shelf
def ovF (n : Nat) (p : Nat → Nat) : List Value := (List.range n).map fun s => .int .i64 (p s : Int)
/-- The row of the nodes above. -/
structure Ov (W : World) (G n : Nat) (p : Nat → Nat) : Prop where
  blk : W.heap[G]? = some (.cells (ovF n p).toArray 3 (0, 0))
theorem Ov.cell {W : World} {G n : Nat} {p : Nat → Nat} (h : Ov W G n p) {s : Nat} (hs : s < n) : W.cell? ⟨G, s, none⟩ = some (.int .i64 (p s : Int)) := by
  rw [cell_of_row _ _ _ _ _ _ h.blk]
  simp [ovF, hs]
theorem Ov.lt {W : World} {G n : Nat} {p : Nat → Nat} (h : Ov W G n p) : G < W.heap.size := (Array.getElem?_eq_some_iff.1 h.blk).1
theorem Ov.frozen {W : World} {G n : Nat} {p : Nat → Nat} (h : Ov W G n p) (s : Nat) : W.frozen? ⟨G, s, none⟩ = false := by
  simp [World.frozen?, h.blk]
theorem Ov.put {W : World} {G n : Nat} {p : Nat → Nat} (h : Ov W G n p) {s : Nat} (v : Nat) : Ov (W.setCell ⟨G, s, none⟩ (.int .i64 (v : Int))) G n (putF p s v) := by
  have e := heap_setCell_same W G s _ _ (.int .i64 (v : Int)) h.blk
  refine ⟨e.trans ?_⟩
  congr 2
  simp only [List.setIfInBounds_toArray]
  congr 1
  refine List.ext_getElem (by simp [ovF]) (fun i h1 h2 => ?_)
  rw [List.getElem_set]
  simp only [ovF, List.getElem_map, List.getElem_range, putF]
  by_cases e : s = i
  · subst e; simp
  · rw [if_neg e, if_neg (fun q => e q.symm)]
theorem Ov.keep {W W' : World} {G n : Nat} {p : Nat → Nat} (h : Ov W G n p) (hk : W'.heap[G]? = W.heap[G]?) : Ov W' G n p := ⟨hk.trans h.blk⟩
/-- Nothing but a block is another one. -/
structure Oth1 (W W' : World) (G : Nat) : Prop where
  os : W'.os = W.os
  tape : W'.tape = W.tape
  output : W'.output = W.output
  size : W'.heap.size = W.heap.size
  oth : ∀ k, ¬ k = G → W'.heap[k]? = W.heap[k]?
theorem Oth1.refl (W : World) (G : Nat) : Oth1 W W G := ⟨rfl, rfl, rfl, rfl, fun _ _ => rfl⟩
theorem Oth1.trans {a b c : World} {G : Nat} (h : Oth1 a b G) (k : Oth1 b c G) : Oth1 a c G := ⟨k.os.trans h.os, k.tape.trans h.tape, k.output.trans h.output, k.size.trans h.size, fun i hi => (k.oth i hi).trans (h.oth i hi)⟩
theorem Oth1.drewN (W : World) (n G : Nat) : Oth1 W (W.drewN n) G := ⟨rfl, rfl, rfl, rfl, fun _ _ => rfl⟩
theorem Oth1.drew (W : World) (G : Nat) : Oth1 W W.drew G := ⟨rfl, rfl, rfl, rfl, fun _ _ => rfl⟩
theorem Oth1.setCell (W : World) (G off : Nat) (u : Value) : Oth1 W (W.setCell ⟨G, off, none⟩ u) G := ⟨rfl, rfl, rfl, by simp [World.setCell], fun k hk => Below.heap_setCell W _ u k hk⟩
theorem Oth1.cell {W W' : World} {G : Nat} (h : Oth1 W W' G) {X o : Nat} (hX : X ≠ G) : W'.cell? ⟨X, o, none⟩ = W.cell? ⟨X, o, none⟩ := World.cell?_of_block (w := W) (h.oth X hX)
end Go.Proofs.YtjmmckkiicefhaaDoor
namespace Go.Proofs.YtjmmckkiicefhaaDoor
open Go.RowKit Go.Shelf
/-- What circle leaves. -/
def CirR (w : World) (G n : Nat) (rt d p : Nat → Nat) (w' : World) : Prop := ∃ p', Frst n p' rt d ∧ rootsF n p' = rootsF n p ∧ Ov w' G n p' ∧ Oth1 w w' G
end Go.Proofs.YtjmmckkiicefhaaDoor
namespace Go.Proofs.YtjmmckkiicefhaaDoor
open Go.RowKit Go.Shelf
/-- Meetings as cells. -/
def mtV (l : List Mt) : List Value := l.flatMap fun x => [.int .i64 (x.a : Int), .int .i64 (x.b : Int), .int .i64 (x.fr : Int), .int .i64 (x.sy : Int)]
theorem mtV_len (l : List Mt) : (mtV l).length = l.length * 4 := by
  induction l with
  | nil => rfl
  | cons x l ih => unfold mtV at *; rw [List.flatMap_cons, List.length_append, ih, List.length_cons]; simp; omega
theorem mtV_snoc (l : List Mt) (x : Mt) : mtV (l ++ [x]) = mtV l ++ [.int .i64 (x.a : Int), .int .i64 (x.b : Int), .int .i64 (x.fr : Int), .int .i64 (x.sy : Int)] := by
  unfold mtV
  rw [List.flatMap_append]
  simp
theorem mtV_at : ∀ (l : List Mt) (k : Nat), k < l.length → (mtV l)[k * 4]? = some (.int .i64 ((l.getD k default).a : Int)) ∧ (mtV l)[k * 4 + 1]? = some (.int .i64 ((l.getD k default).b : Int)) ∧ (mtV l)[k * 4 + 2]? = some (.int .i64 ((l.getD k default).fr : Int)) ∧ (mtV l)[k * 4 + 3]? = some (.int .i64 ((l.getD k default).sy : Int))
  | [], k, h => absurd h (Nat.not_lt_zero _)
  | x :: l, 0, _ => by unfold mtV; rw [List.flatMap_cons]; simp
  | x :: l, k + 1, h => by
    have ih := mtV_at l k (by simpa using h)
    have e : mtV (x :: l) = [.int .i64 (x.a : Int), .int .i64 (x.b : Int), .int .i64 (x.fr : Int), .int .i64 (x.sy : Int)] ++ mtV l := by unfold mtV; rw [List.flatMap_cons]
    have g : (x :: l).getD (k + 1) default = l.getD k default := by simp
    rw [e, g]
    have s0 : (k + 1) * 4 = 4 + k * 4 := by omega
    refine ⟨?_, ?_, ?_, ?_⟩
    · rw [s0, List.getElem?_append_right (by simp)]; simpa using ih.1
    · rw [s0, List.getElem?_append_right (by simp; omega)]; have := ih.2.1; simp only [List.length_cons, List.length_nil]; rw [show 4 + k * 4 + 1 - (0 + 1 + 1 + 1 + 1) = k * 4 + 1 by omega]; exact this
    · rw [s0, List.getElem?_append_right (by simp; omega)]; have := ih.2.2.1; simp only [List.length_cons, List.length_nil]; rw [show 4 + k * 4 + 2 - (0 + 1 + 1 + 1 + 1) = k * 4 + 2 by omega]; exact this
    · rw [s0, List.getElem?_append_right (by simp; omega)]; have := ih.2.2.2; simp only [List.length_cons, List.length_nil]; rw [show 4 + k * 4 + 3 - (0 + 1 + 1 + 1 + 1) = k * 4 + 3 by omega]; exact this
section
variable {W W' : World} {lo X G B n : Nat} {v0 v1 v2 v3 v4 v5 vm : Value} {p : Nat → Nat} {l : List Mt}
theorem Oth1.below (ho : Oth1 W W' G) (hl : lo ≤ G) : Below lo W W' := ⟨ho.os, ho.tape, ho.output, by rw [ho.size]; exact Nat.le_refl _, fun k hk => ho.oth k (by omega)⟩
end
/-- What the circles say. -/
structure Lg (T : Two) (na nb : Nat) (p rt d : Nat → Nat) (l : List Mt) : Prop where
  fr : Frst (na + nb) p rt d
  ci : Circ T na (na + nb) rt l
  rc : l.length + rootsF (na + nb) p = na + nb
  inm : InM na nb l
end Go.Proofs.YtjmmckkiicefhaaDoor
namespace Go.Proofs.YtjmmckkiicefhaaDoor
open Go.RowKit
theorem step_append_own_at {P : Program} {ops : Array Oper} {o : Oper} {a : Act} {w : World} {K : Act → World → Prop} {Q : Exit → Act → World → Prop} {E : Prop} (hg : o.guard = none) (s x : Operand) (t : TypeId)
    (ho : o.op = .call { callee := .builtin .append, args := #[s, x], argTypes := #[t, t] })
    (base : Nat) (e : TypeId) (i : TypeInfo) (z : Value) (size bytes : Nat) (ht : P.underlying t = some (.slice e)) (hi : P.info? e = some i) (hz : i.zero = some z)
    (hsize : i.size = size) (hby : i.bytes = bytes) (hzs : z.cells.size = size) (hsz : 0 < size)
    (v : Value) (n : Nat) (xs : List Value) (hs : a.eval s = v) (hown : w.ownsRow base e size v n xs)
    (ad : Addr) (m c : Nat) (news : List Value) (hx : a.eval x = .slice (some ad) m c) (hl : news.length = m * size) (hnews : ∀ j u, news[j]? = some u → w.cell? (ad.add j) = some u) (h1 : ∀ u ∈ news, u.oneCell' = true)
    (h63 : n + m ≤ maxLen) (hbytes : (n + m) * bytes ≤ 140737488355328) (hbase : base ≤ w.heap.size)
    (h : ∀ v' w', w'.ownsRow base e size v' (n + m) (xs ++ news) → w.grownBy w' v.ownBlock → (v'.ownBlock = v.ownBlock ∨ v'.ownBlock = some w.heap.size) → K (a.put o.dst v') w') :
    if Region.wanted o (yielded ops a.tmps) = true then Oper.wp P o a w K Q else E := by
  have hw : Region.wanted o (yielded ops a.tmps) = true := by simp [Region.wanted, hg]
  rw [if_pos hw]
  obtain ⟨v', w', hr, h2, h3, _, h5⟩ := run_append_own_at (P := P) w base t o.type e i z size bytes ht hi hz hsize hby hzs hsz v n xs hown ad m c news hl hnews h1 h63 hbytes hbase
  unfold Oper.wp execOp
  simp only [ho, resolve, invoke, builtin, Sem.run_bind, Sem.run_pure, Result.andThen_ok, List.map_toArray, List.map_cons, List.map_nil, hs, hx, hr]
  exact h v' w' h2 h3 h5
end Go.Proofs.YtjmmckkiicefhaaDoor
namespace Go.Proofs.YtjmmckkiicefhaaDoor
open Go.RowKit Go.Shelf
theorem four_new (w : World) (a b c d : Value) (t : TypeId) : ∀ j u, [a, b, c, d][j]? = some u → (w.alloc (.cells #[a, b, c, d] t)).cell? ((⟨w.heap.size, 0, none⟩ : Addr).add j) = some u := by
  intro j u hj
  have hr := heap_alloc_new w (.cells #[a, b, c, d] t)
  rw [Addr.add_lit, Nat.zero_add, cell_of_row _ _ _ _ _ _ hr]
  simpa using hj
end Go.Proofs.YtjmmckkiicefhaaDoor
namespace Go.Proofs.YtjmmckkiicefhaaDoor
theorem apA_ex (T : Two) : ∃ r, ApA T r := by
  by_cases h : ∃ z, T.ok z ∧ T.dis T.sa T.sb z
  · obtain ⟨z, hz⟩ := h
    have key : ∀ z, T.ok z ∧ T.dis T.sa T.sb z → ∃ u, T.Best u := by
      intro z
      induction z using (slx_wf T.m).induction with
      | _ z ih =>
        intro hz
        by_cases h2 : ∃ y, slx T.m y z ∧ T.ok y ∧ T.dis T.sa T.sb y
        · obtain ⟨y, h3, h4⟩ := h2
          exact ih y h3 h4
        · exact ⟨z, hz.1, hz.2, fun y hy hd hl => h2 ⟨y, hl, hy, hd⟩⟩
    obtain ⟨u, hu⟩ := key z hz
    exact ⟨some u, ⟨fun w e => (by cases e; exact hu), fun e => (by cases e)⟩⟩
  · exact ⟨none, ⟨fun w e => (by cases e), fun _ z h1 h2 => h ⟨z, h1, h2⟩⟩⟩
/-- What both say: none: it is refused. -/
inductive ApR (sa sb sy : Int) (N O N' O' : List (List Int)) : Option (Option (List Nat)) → Prop
  | bad (h : mayF sa N O sy = true → mayF sb N' O' sy = true → False) : ApR sa sb sy N O N' O' none
  | good (m : Nat) (r : Option (List Nat)) (hm : sy = (m : Int)) (h1 : mayF sa N O sy = true) (h2 : mayF sb N' O' sy = true) (h3 : May sa N O m) (h4 : May sb N' O' m) (h : ApA (twoF m sa sb N O N' O') r) : ApR sa sb sy N O N' O' (some r)
theorem apR_ex (sa sb sy : Int) (N O N' O' : List (List Int)) : ∃ res, ApR sa sb sy N O N' O' res := by
  by_cases h1 : mayF sa N O sy = true
  · by_cases h2 : mayF sb N' O' sy = true
    · obtain ⟨m, hm, h3⟩ := mayF_may h1
      obtain ⟨m', hm', h4⟩ := mayF_may h2
      obtain rfl : m = m' := by omega
      obtain ⟨r, hr⟩ := apA_ex (twoF m sa sb N O N' O')
      exact ⟨some r, .good m r hm h1 h2 h3 h4 hr⟩
    · exact ⟨none, .bad (fun _ h => h2 h)⟩
  · exact ⟨none, .bad (fun h _ => h1 h)⟩
def nums (w : List Nat) : List Int := w.map Int.ofNat
/-- The word, whether there is one, the number of the refusal. -/
def apW : Option (Option (List Nat)) → List Int
  | some (some u) => nums u
  | _ => []
def apB : Option (Option (List Nat)) → Bool
  | some (some _) => true
  | _ => false
def apE : Option (Option (List Nat)) → Int
  | none => 1
  | _ => 0
theorem nodup_le : ∀ (n : Nat) (l : List Nat), l.Nodup → (∀ x ∈ l, x < n) → l.length ≤ n
  | 0, l, _, h => by
    cases l with
    | nil => exact Nat.le_refl _
    | cons x r => exact absurd (h x (.head _)) (Nat.not_lt_zero _)
  | n + 1, l, hd, h => by
    have h1 := nodup_le n (l.erase n) (hd.erase n) (fun x hx => by
      have h2 := h x (List.mem_of_mem_erase hx)
      have h3 : x ≠ n := fun e => by subst e; exact absurd hx hd.not_mem_erase
      omega)
    have h4 : l.length - 1 ≤ (l.erase n).length := by rw [List.length_erase]; split <;> omega
    omega
end Go.Proofs.YtjmmckkiicefhaaDoor
namespace Go.Proofs.YtjmmckkiicefhaaDoor
/-- The greatest of the first so many numbers, 0 at least. -/
def top (F : Nat → Nat) : Nat → Nat
  | 0 => 0
  | i + 1 => max (top F i) (F i)
theorem top_succ (F : Nat → Nat) (i : Nat) : top F (i + 1) = max (top F i) (F i) := rfl
theorem top_mono (F : Nat → Nat) {i j : Nat} (h : i ≤ j) : top F i ≤ top F j := by
  induction j with
  | zero => obtain rfl : i = 0 := by omega
            exact Nat.le_refl _
  | succ j ih =>
    by_cases e : i = j + 1
    · subst e; exact Nat.le_refl _
    · have := ih (by omega)
      rw [top_succ]
      omega
theorem top_le (F : Nat → Nat) {i j : Nat} (h : j < i) : F j ≤ top F i := by
  have h1 := top_mono F (i := j + 1) (j := i) (by omega)
  rw [top_succ] at h1
  omega
theorem top_lt {F : Nat → Nat} {n : Nat} (hn : 0 < n) : ∀ {i : Nat}, (∀ j, j < i → F j < n) → top F i < n
  | 0, _ => hn
  | i + 1, h => by
    have h1 := top_lt hn (i := i) (fun j hj => h j (by omega))
    have h2 := h i (by omega)
    rw [top_succ]
    omega
theorem top_congr {F G : Nat → Nat} : ∀ {i : Nat}, (∀ j, j < i → F j = G j) → top F i = top G i
  | 0, _ => rfl
  | i + 1, h => by
    rw [top_succ, top_succ, top_congr (i := i) (fun j hj => h j (by omega)), h i (by omega)]
/-- Numbered as they are met, row by row. -/
structure Bfs (F : Nat → Nat) (n m : Nat) : Prop where
  up : ∀ i, i < n * m → F i ≤ top F i + 1
  row : ∀ q, q < n → q ≤ top F (q * m)
theorem Bfs.hit {F : Nat → Nat} {n m : Nat} (h : Bfs F n m) : ∀ i, i ≤ n * m → ∀ s, 1 ≤ s → s ≤ top F i → ∃ j, j < i ∧ F j = s
  | 0, _, s, h1, h2 => by simp [top] at h2; omega
  | i + 1, hi, s, h1, h2 => by
    by_cases e : s ≤ top F i
    · obtain ⟨j, hj, e2⟩ := h.hit i (by omega) s h1 e
      exact ⟨j, by omega, e2⟩
    · rw [top_succ] at h2
      have := h.up i (by omega)
      exact ⟨i, by omega, by omega⟩
/-- A word over so many symbols. -/
def okW (m : Nat) (w : List Nat) : Prop := ∀ c ∈ w, c < m
theorem okW.nil (m : Nat) : okW m [] := fun c h => by cases h
theorem okW.cons {m c : Nat} {w : List Nat} (hc : c < m) (h : okW m w) : okW m (c :: w) := fun d hd => by
  rcases List.mem_cons.1 hd with rfl | hd
  · exact hc
  · exact h d hd
/-- Two states tell the same behind every word. -/
def SameL (m : Nat) (f g : Nat → Nat → Nat) (o u : Nat → List Int) (s t : Nat) : Prop := ∀ w, okW m w → o (runW f s w) = u (runW g t w)
theorem SameL.step {m : Nat} {f g : Nat → Nat → Nat} {o u : Nat → List Int} {s t c : Nat} (h : SameL m f g o u s t) (hc : c < m) : SameL m f g o u (f s c) (g t c) := fun w hw => h (c :: w) (okW.cons hc hw)
theorem SameL.nil {m : Nat} {f g : Nat → Nat → Nat} {o u : Nat → List Int} {s t : Nat} (h : SameL m f g o u s t) : o s = u t := h [] (okW.nil m)
theorem SameL.symm {m : Nat} {f g : Nat → Nat → Nat} {o u : Nat → List Int} {s t : Nat} (h : SameL m f g o u s t) : SameL m g f u o t s := fun w hw => (h w hw).symm
theorem SameL.trans {m : Nat} {f g e : Nat → Nat → Nat} {o u v : Nat → List Int} {s t r : Nat} (h : SameL m f g o u s t) (k : SameL m g e u v t r) : SameL m f e o v s r := fun w hw => (h w hw).trans (k w hw)
def outF (O : List (List Int)) (s : Nat) : List Int := O.getD s []
def clF (N : List (List Int)) (m i : Nat) : Nat := nxF N (i / m) (i % m)
/-- Any two states tell unlike things behind some word, and they are numbered as they are met. -/
structure Red (m : Nat) (N O : List (List Int)) : Prop where
  may : mayF 0 N O (m : Int) = true
  bfs : Bfs (clF N m) N.length m
  sep : ∀ p q, p < N.length → q < N.length → SameL m (nxF N) (nxF N) (outF O) (outF O) p q → p = q
theorem Red.may' {m : Nat} {N O : List (List Int)} (h : Red m N O) : May 0 N O m := by
  obtain ⟨n, hn, hm⟩ := mayF_may h.may
  obtain rfl : m = n := by omega
  exact hm
theorem Red.pos {m : Nat} {N O : List (List Int)} (h : Red m N O) : 0 < N.length := by have := h.may'.start; omega
theorem clF_at (N : List (List Int)) {m : Nat} (s : Nat) {c : Nat} (hc : c < m) : clF N m (s * m + c) = nxF N s c := by
  unfold clF
  rw [Nat.mul_comm, Nat.mul_add_div (by omega), Nat.div_eq_of_lt hc, Nat.mul_add_mod, Nat.mod_eq_of_lt hc, Nat.add_zero]
theorem clF_lt {m : Nat} {N O : List (List Int)} {st : Int} (h : May st N O m) {i : Nat} (hi : i < N.length * m) : clF N m i < N.length := by
  have hm : 0 < m := by
    rcases Nat.eq_zero_or_pos m with rfl | h
    · simp at hi
    · exact h
  exact (h.next ((Nat.div_lt_iff_lt_mul hm).2 hi) (Nat.mod_lt _ hm)).1
theorem Red.same {m : Nat} {N O N' O' : List (List Int)} (h1 : Red m N O) (h2 : Red m N' O') (hl : SameL m (nxF N) (nxF N') (outF O) (outF O') 0 0) :
    ∀ i, i ≤ N.length * m → i ≤ N'.length * m → (∀ j, j < i → clF N m j = clF N' m j) ∧ ∀ q, q ≤ top (clF N m) i → SameL m (nxF N) (nxF N') (outF O) (outF O') q q
  | 0, _, _ => ⟨fun j h => absurd h (Nat.not_lt_zero _), fun q hq => (Nat.le_zero.1 hq).symm ▸ hl⟩
  | i + 1, ha, hb => by
    obtain ⟨e1, e2⟩ := h1.same h2 hl i (by omega) (by omega)
    have hm : 0 < m := by
      rcases Nat.eq_zero_or_pos m with rfl | h
      · simp at ha
      · exact h
    have hsa : i / m < N.length := (Nat.div_lt_iff_lt_mul hm).2 ha
    have hsb : i / m < N'.length := (Nat.div_lt_iff_lt_mul hm).2 hb
    have hc : i % m < m := Nat.mod_lt _ hm
    have hrow := h1.bfs.row _ hsa
    have htt := top_mono (clF N m) (i := i / m * m) (j := i) (Nat.div_mul_le_self i m)
    have hE : SameL m (nxF N) (nxF N') (outF O) (outF O') (clF N m i) (clF N' m i) := (e2 (i / m) (by omega)).step hc
    have ht : top (clF N m) i = top (clF N' m) i := top_congr e1
    have key : clF N m i = clF N' m i := by
      by_cases c1 : clF N m i ≤ top (clF N m) i
      · have hlt : top (clF N' m) i < N'.length := top_lt h2.pos (fun j hj => clF_lt h2.may' (by omega))
        exact h2.sep _ _ (by omega) (clF_lt h2.may' (by omega)) ((e2 _ c1).symm.trans hE)
      · by_cases c2 : clF N' m i ≤ top (clF N m) i
        · have hlt : top (clF N m) i < N.length := top_lt h1.pos (fun j hj => clF_lt h1.may' (by omega))
          exact h1.sep _ _ (clF_lt h1.may' (by omega)) (by omega) (hE.trans (e2 _ c2).symm)
        · have u1 := h1.bfs.up i (by omega)
          have u2 := h2.bfs.up i (by omega)
          omega
    refine ⟨fun j hj => ?_, fun q hq => ?_⟩
    · by_cases e : j = i
      · subst e; exact key
      · exact e1 j (by omega)
    · rw [top_succ] at hq
      by_cases e : q ≤ top (clF N m) i
      · exact e2 q e
      · obtain rfl : q = clF N m i := by have := h1.bfs.up i (by omega); omega
        rw [← key] at hE
        exact hE
theorem Red.notless {m : Nat} {N O N' O' : List (List Int)} (h1 : Red m N O) (h2 : Red m N' O') (hl : SameL m (nxF N) (nxF N') (outF O) (outF O') 0 0) : N'.length ≤ N.length := by
  apply Nat.le_of_not_lt
  intro hlt
  have hle := Nat.mul_le_mul_right m (Nat.le_of_lt hlt)
  obtain ⟨e1, _⟩ := h1.same h2 hl (N.length * m) (Nat.le_refl _) hle
  have h3 := h2.bfs.row _ hlt
  rw [← top_congr e1] at h3
  have h4 : top (clF N m) (N.length * m) < N.length := top_lt h1.pos (fun j hj => clF_lt h1.may' hj)
  omega
/-- There is one least machine alone. -/
theorem Red.uniq {m : Nat} {N O N' O' : List (List Int)} (h1 : Red m N O) (h2 : Red m N' O') (hl : SameL m (nxF N) (nxF N') (outF O) (outF O') 0 0) : N = N' ∧ O = O' := by
  have hn : N.length = N'.length := Nat.le_antisymm (h2.notless h1 hl.symm) (h1.notless h2 hl)
  obtain ⟨e1, e2⟩ := h1.same h2 hl (N.length * m) (Nat.le_refl _) (by rw [hn]; exact Nat.le_refl _)
  refine ⟨List.ext_getElem hn (fun s a b => ?_), List.ext_getElem (by rw [h1.may'.out, h2.may'.out, hn]) (fun s a b => ?_)⟩
  · have ra : N.getD s [] = N[s] := by rw [List.getD_eq_getElem?_getD, List.getElem?_eq_getElem a]; rfl
    have rb : N'.getD s [] = N'[s] := by rw [List.getD_eq_getElem?_getD, List.getElem?_eq_getElem b]; rfl
    have la : N[s].length = m := h1.may'.row _ (List.getElem_mem a)
    have lb : N'[s].length = m := h2.may'.row _ (List.getElem_mem b)
    refine List.ext_getElem (by omega) (fun c ca cb => ?_)
    have hc : c < m := by omega
    obtain ⟨_, x1, _⟩ := h1.may'.next a hc
    obtain ⟨_, x2, _⟩ := h2.may'.next b hc
    rw [ra, List.getD_eq_getElem?_getD, List.getElem?_eq_getElem ca] at x1
    rw [rb, List.getD_eq_getElem?_getD, List.getElem?_eq_getElem cb] at x2
    have hlt : s * m + c < N.length * m := by
      have := Nat.mul_le_mul_right m (show s + 1 ≤ N.length by omega)
      rw [Nat.add_mul] at this
      omega
    have := e1 _ hlt
    rw [clF_at N s hc, clF_at N' s hc] at this
    simp only [Option.getD_some] at x1 x2
    rw [x1, x2, this]
  · have hs : s < N.length := by have := h1.may'.out; omega
    have h3 := h1.bfs.row s hs
    have h4 := top_mono (clF N m) (Nat.mul_le_mul_right m (Nat.le_of_lt hs))
    have h5 := (e2 s (by omega)).nil
    unfold outF at h5
    rw [List.getD_eq_getElem?_getD, List.getElem?_eq_getElem a, List.getD_eq_getElem?_getD, List.getElem?_eq_getElem b] at h5
    exact h5
/-- N', O' is the least machine of N, O. -/
structure Lst (m : Nat) (st : Int) (N O N' O' : List (List Int)) : Prop where
  red : Red m N' O'
  lang : SameL m (nxF N') (nxF N) (outF O') (outF O) 0 st.toNat
  less : N'.length ≤ N.length
theorem Lst.uniq {m : Nat} {st : Int} {N O N' O' N2 O2 : List (List Int)} (h : Lst m st N O N' O') (k : Lst m st N O N2 O2) : N' = N2 ∧ O' = O2 := h.red.uniq k.red (h.lang.trans k.lang.symm)
/-- The least machine of the least one is it. -/
theorem Lst.again {m : Nat} {st : Int} {N O N' O' N2 O2 : List (List Int)} (h : Lst m st N O N' O') (k : Lst m 0 N' O' N2 O2) : N' = N2 ∧ O' = O2 := h.red.uniq k.red k.lang.symm
/-- The states that are met, in their order: the state i is g i, its cells are F. -/
structure Whl (m : Nat) (st : Nat) (N : List (List Int)) (n : Nat) (g F : Nat → Nat) : Prop where
  pos : 0 < n
  le : n ≤ N.length
  g0 : g 0 = st
  gl : ∀ i, i < n → g i < N.length
  fl : ∀ i c, i < n → c < m → F (i * m + c) < n
  fs : ∀ i c, i < n → c < m → g (F (i * m + c)) = nxF N (g i) c
  bfs : Bfs F n m
theorem runW_in {m n : Nat} {f : Nat → Nat → Nat} (hf : ∀ s c, s < n → c < m → f s c < n) : ∀ (w : List Nat) (s : Nat), s < n → okW m w → runW f s w < n
  | [], _, hs, _ => hs
  | c :: w, s, hs, hw => runW_in hf w (f s c) (hf s c hs (hw c (.head _))) (fun d hd => hw d (.tail _ hd))
/-- A map of states that goes along with the symbols. -/
theorem runW_hom {m n : Nat} {f g : Nat → Nat → Nat} {φ : Nat → Nat} (hf : ∀ s c, s < n → c < m → f s c < n) (hφ : ∀ s c, s < n → c < m → g (φ s) c = φ (f s c)) : ∀ (w : List Nat) (s : Nat), s < n → okW m w → runW g (φ s) w = φ (runW f s w)
  | [], _, _, _ => rfl
  | c :: w, s, hs, hw => by
    show runW g (g (φ s) c) w = φ (runW f (f s c) w)
    rw [hφ s c hs (hw c (.head _))]
    exact runW_hom hf hφ w (f s c) (hf s c hs (hw c (.head _))) (fun d hd => hw d (.tail _ hd))
/-- Classes that are as fine as they must be, and not finer. -/
structure Cls (m n : Nat) (F : Nat → Nat) (out : Nat → List Int) (cl : Nat → Nat) : Prop where
  told : ∀ s t, s < n → t < n → cl s = cl t → out s = out t
  next : ∀ s t, s < n → t < n → cl s = cl t → ∀ c, c < m → cl (F (s * m + c)) = cl (F (t * m + c))
  wide : ∀ s t, s < n → t < n → SameL m (fun x c => F (x * m + c)) (fun x c => F (x * m + c)) out out s t → cl s = cl t
/-- The cells of the joined machine. -/
def jF (m : Nat) (F cl nu : Nat → Nat) (fi : List Nat) (i : Nat) : Nat := nu (cl (F (fi.getD (i / m) 0 * m + i % m)))
/-- The classes by number, as they come. -/
structure Num1 (n : Nat) (cl nu : Nat → Nat) (fi : List Nat) : Prop where
  up : ∀ i j, i < j → j < fi.length → fi.getD i 0 < fi.getD j 0
  lt : ∀ q, q < fi.length → fi.getD q 0 < n
  of : ∀ s, s < n → nu (cl s) < fi.length ∧ cl (fi.getD (nu (cl s)) 0) = cl s ∧ fi.getD (nu (cl s)) 0 ≤ s
  nu : ∀ q, q < fi.length → nu (cl (fi.getD q 0)) = q
section
variable {m n : Nat} {F cl nu : Nat → Nat} {out : Nat → List Int} {fi : List Nat}
theorem Num1.first (h : Num1 n cl nu fi) (hn : 0 < n) : 0 < fi.length ∧ fi.getD 0 0 = 0 ∧ nu (cl 0) = 0 := by
  obtain ⟨h1, h2, h3⟩ := h.of 0 hn
  have h4 : fi.getD 0 0 = 0 := by
    rcases Nat.eq_zero_or_pos (nu (cl 0)) with e | e
    · rw [e] at h3; omega
    · have := h.up 0 _ e h1; omega
  exact ⟨by omega, h4, by have := h.nu 0 (by omega); rw [h4] at this; exact this⟩
theorem Num1.less (h : Num1 n cl nu fi) {r q : Nat} (hr : r < n) (hl : r < fi.getD q 0) : nu (cl r) < q := by
  obtain ⟨h1, h2, h3⟩ := h.of r hr
  apply Nat.lt_of_not_le
  intro hle
  rcases Nat.eq_or_lt_of_le hle with e | e
  · rw [← e] at h3; omega
  · have := h.up q _ e h1; omega
theorem Num1.bfs (h : Num1 n cl nu fi) (hb : Bfs F n m) (hc : Cls m n F out cl) (hF : ∀ i c, i < n → c < m → F (i * m + c) < n) : Bfs (jF m F cl nu fi) fi.length m := by
  have hcell : ∀ q c, q < fi.length → c < m → (jF m F cl nu fi) (q * m + c) = nu (cl (F (fi.getD q 0 * m + c))) := fun q c _ hc => by
    show nu (cl (F (fi.getD ((q * m + c) / m) 0 * m + (q * m + c) % m))) = _
    rw [Nat.mul_comm q, Nat.mul_add_div (by omega), Nat.div_eq_of_lt hc, Nat.mul_add_mod, Nat.mod_eq_of_lt hc, Nat.add_zero]
  have hmet : ∀ r c s, r < n → c < m → s = F (r * m + c) → nu (cl (F (fi.getD (nu (cl r)) 0 * m + c))) = nu (cl s) := fun r c s hr hcm hs => by
    obtain ⟨h1, h2, h3⟩ := h.of r hr
    rw [hc.next _ r (h.lt _ h1) hr h2 c hcm, hs]
  refine ⟨fun i hi => ?_, fun q hq => ?_⟩
  · have hm : 0 < m := by
      rcases Nat.eq_zero_or_pos m with rfl | h
      · simp at hi
      · exact h
    obtain ⟨q, c, rfl, hcm⟩ : ∃ q c, i = q * m + c ∧ c < m := ⟨i / m, i % m, by rw [Nat.mul_comm]; exact (Nat.div_add_mod i m).symm, Nat.mod_lt _ hm⟩
    have hq : q < fi.length := by
      apply Nat.lt_of_not_le
      intro hle
      have := Nat.mul_le_mul_right m hle
      omega
    have hqn := h.lt q hq
    rw [hcell q c hq hcm]
    obtain ⟨x, hx⟩ : ∃ x, x = F (fi.getD q 0 * m + c) := ⟨_, rfl⟩
    rw [← hx]
    have hxn : x < n := by rw [hx]; exact hF _ _ hqn hcm
    obtain ⟨v1, v2, v3⟩ := h.of x hxn
    obtain ⟨v, hv⟩ : ∃ v, v = nu (cl x) := ⟨_, rfl⟩
    rw [← hv] at v1 v2 v3 ⊢
    rcases Nat.lt_or_ge v 2 with h2 | h2
    · omega
    · -- the class ahead of v was met ahead
      have hu := h.up (v - 1) v (by omega) v1
      have hup := h.up 0 (v - 1) (by omega) (by omega)
      have hlt : fi.getD q 0 * m + c < n * m := by
        have := Nat.mul_le_mul_right m (show fi.getD q 0 + 1 ≤ n by omega)
        rw [Nat.add_mul] at this
        omega
      have hx2 := hb.up _ hlt
      rw [← hx] at hx2
      obtain ⟨j, hj, ej⟩ := hb.hit (fi.getD q 0 * m + c) (by omega) (fi.getD (v - 1) 0) (by omega) (by omega)
      obtain ⟨r, d, rfl, hd⟩ : ∃ r d, j = r * m + d ∧ d < m := ⟨j / m, j % m, by rw [Nat.mul_comm]; exact (Nat.div_add_mod j m).symm, Nat.mod_lt _ hm⟩
      have hrq : r ≤ fi.getD q 0 := by
        apply Nat.le_of_not_lt
        intro hlt
        have := Nat.mul_le_mul_right m (show fi.getD q 0 + 1 ≤ r by omega)
        rw [Nat.add_mul] at this
        omega
      have hval : nu (cl (F (fi.getD (nu (cl r)) 0 * m + d))) = v - 1 := by
        rw [hmet r d _ (by omega) hd rfl, ej]
        exact h.nu _ (by omega)
      have hpos : nu (cl r) * m + d < q * m + c := by
        rcases Nat.eq_or_lt_of_le hrq with e | e
        · rw [e, h.nu q hq]
          rw [e] at hj
          omega
        · have h5 := h.less (by omega) e
          have := Nat.mul_le_mul_right m (show nu (cl r) + 1 ≤ q by omega)
          rw [Nat.add_mul] at this
          omega
      have hnr := (h.of r (by omega)).1
      have := top_le (jF m F cl nu fi) hpos
      rw [hcell _ d hnr hd, hval] at this
      omega
  · rcases Nat.eq_zero_or_pos q with rfl | hq0
    · exact Nat.zero_le _
    · have hup := h.up 0 q hq0 hq
      have hqn := h.lt q hq
      have hrow := hb.row _ hqn
      have hle := Nat.mul_le_mul_right m (Nat.le_of_lt hqn)
      obtain ⟨j, hj, ej⟩ := hb.hit _ hle (fi.getD q 0) (by omega) hrow
      have hm : 0 < m := by
        rcases Nat.eq_zero_or_pos m with rfl | h
        · simp at hj
        · exact h
      obtain ⟨r, d, rfl, hd⟩ : ∃ r d, j = r * m + d ∧ d < m := ⟨j / m, j % m, by rw [Nat.mul_comm]; exact (Nat.div_add_mod j m).symm, Nat.mod_lt _ hm⟩
      have hrq : r < fi.getD q 0 := by
        apply Nat.lt_of_not_le
        intro hle
        have := Nat.mul_le_mul_right m hle
        omega
      have hval : nu (cl (F (fi.getD (nu (cl r)) 0 * m + d))) = q := by
        rw [hmet r d _ (by omega) hd rfl, ej]
        exact h.nu _ hq
      have h5 := h.less (by omega) hrq
      have hnr := (h.of r (by omega)).1
      have hpos : nu (cl r) * m + d < q * m := by
        have := Nat.mul_le_mul_right m (show nu (cl r) + 1 ≤ q by omega)
        rw [Nat.add_mul] at this
        omega
      have := top_le (jF m F cl nu fi) hpos
      rw [hcell _ d hnr hd, hval] at this
      omega
end
theorem upF_rise {st : Int} {N O : List (List Int)} {m : Int} (h : mayF st N O m = true) : ∀ r ∈ O, upF 0 r = true := by
  unfold mayF at h
  simp only [Bool.and_eq_true, List.all_eq_true] at h
  exact h.2
theorem mayF_of {N O : List (List Int)} {m : Nat} (h1 : O.length = N.length) (h0 : 0 < N.length) (h2 : ∀ r ∈ N, r.length = m) (h3 : ∀ r ∈ N, ∀ z ∈ r, 0 ≤ z ∧ z < (N.length : Int)) (h4 : ∀ r ∈ O, upF 0 r = true) : mayF 0 N O (m : Int) = true := by
  unfold mayF
  simp only [Bool.and_eq_true, decide_eq_true_eq, List.all_eq_true]
  exact ⟨⟨⟨⟨by omega, h1⟩, (oneOf_iff _ _).2 ⟨by omega, by omega⟩⟩, fun r hr => ⟨by rw [h2 r hr], fun z hz => (oneOf_iff _ _).2 (h3 r hr z hz)⟩⟩, h4⟩
/-- The joined rows. -/
def joinN (m : Nat) (F cl nu : Nat → Nat) (fi : List Nat) : List (List Int) := fi.map fun s => (List.range m).map fun c => ((nu (cl (F (s * m + c))) : Nat) : Int)
def joinO (O : List (List Int)) (g : Nat → Nat) (fi : List Nat) : List (List Int) := fi.map fun s => outF O (g s)
theorem joined_lst {m : Nat} {st : Int} {N O : List (List Int)} {n : Nat} {g F cl nu : Nat → Nat} {fi : List Nat} (hmy : mayF st N O (m : Int) = true) (hw : Whl m st.toNat N n g F) (hc : Cls m n F (fun i => outF O (g i)) cl) (hu : Num1 n cl nu fi) : Lst m st N O (joinN m F cl nu fi) (joinO O g fi) := by
  obtain ⟨n', hn', hm⟩ := mayF_may hmy
  obtain rfl : m = n' := by omega
  obtain ⟨f0, f1, f2⟩ := hu.first hw.pos
  have hlen : (joinN m F cl nu fi).length = fi.length := by simp [joinN]
  have hlen2 : (joinO O g fi).length = fi.length := by simp [joinO]
  have hrow : ∀ q, q < fi.length → (joinN m F cl nu fi).getD q [] = (List.range m).map fun c => ((nu (cl (F (fi.getD q 0 * m + c))) : Nat) : Int) := fun q hq => by
    unfold joinN
    rw [List.getD_eq_getElem?_getD, List.getElem?_map, List.getElem?_eq_getElem hq, List.getD_eq_getElem?_getD, List.getElem?_eq_getElem hq]
    rfl
  have hnx : ∀ q c, q < fi.length → c < m → nxF (joinN m F cl nu fi) q c = nu (cl (F (fi.getD q 0 * m + c))) := fun q c hq hcm => by
    unfold nxF
    rw [hrow q hq, List.getD_eq_getElem?_getD, List.getElem?_map, List.getElem?_range hcm]
    simp
  have hou : ∀ q, q < fi.length → outF (joinO O g fi) q = outF O (g (fi.getD q 0)) := fun q hq => by
    show (joinO O g fi).getD q [] = _
    unfold joinO
    rw [List.getD_eq_getElem?_getD, List.getElem?_map, List.getElem?_eq_getElem hq, List.getD_eq_getElem?_getD, List.getElem?_eq_getElem hq]
    rfl
  have hin : ∀ s c, s < n → c < m → F (s * m + c) < n := hw.fl
  have hmay : mayF 0 (joinN m F cl nu fi) (joinO O g fi) (m : Int) = true := by
    refine mayF_of (by rw [hlen, hlen2]) (by omega) (fun r hr => ?_) (fun r hr z hz => ?_) (fun r hr => ?_)
    · unfold joinN at hr
      obtain ⟨s, _, rfl⟩ := List.mem_map.1 hr
      simp
    · unfold joinN at hr
      obtain ⟨s, hs, rfl⟩ := List.mem_map.1 hr
      obtain ⟨c, hcm, rfl⟩ := List.mem_map.1 hz
      obtain ⟨q, hq, rfl⟩ := List.getElem_of_mem hs
      have h1 := hu.lt q hq
      rw [List.getD_eq_getElem?_getD, List.getElem?_eq_getElem hq] at h1
      have := (hu.of _ (hin _ c h1 (List.mem_range.1 hcm))).1
      rw [hlen]
      simp only [Option.getD_some] at this ⊢
      omega
    · unfold joinO at hr
      obtain ⟨s, hs, rfl⟩ := List.mem_map.1 hr
      obtain ⟨q, hq, rfl⟩ := List.getElem_of_mem hs
      have h1 := hu.lt q hq
      rw [List.getD_eq_getElem?_getD, List.getElem?_eq_getElem hq] at h1
      have h2 := hw.gl _ h1
      unfold outF
      have h3 : g fi[q] < O.length := by have := hm.out; simp only [Option.getD_some] at h2; omega
      rw [List.getD_eq_getElem?_getD, List.getElem?_eq_getElem h3]
      exact upF_rise hmy _ (List.getElem_mem h3)
  -- the state s of the whole is the state f s of the joined one
  have hom : ∀ s c, s < n → c < m → nxF (joinN m F cl nu fi) (nu (cl s)) c = nu (cl (F (s * m + c))) := fun s c hs hcm => by
    obtain ⟨h1, h2, _⟩ := hu.of s hs
    rw [hnx _ c h1 hcm, hc.next _ s (hu.lt _ h1) hs h2 c hcm]
  have hot : ∀ s, s < n → outF (joinO O g fi) (nu (cl s)) = outF O (g s) := fun s hs => by
    obtain ⟨h1, h2, _⟩ := hu.of s hs
    rw [hou _ h1]
    exact hc.told _ s (hu.lt _ h1) hs h2
  have hrun : ∀ w s, s < n → okW m w → runW (nxF (joinN m F cl nu fi)) (nu (cl s)) w = nu (cl (runW (fun x c => F (x * m + c)) s w)) := fun w s hs hw' =>
    runW_hom (φ := fun s => nu (cl s)) (f := fun x c => F (x * m + c)) hin hom w s hs hw'
  have hrg : ∀ w s, s < n → okW m w → runW (nxF N) (g s) w = g (runW (fun x c => F (x * m + c)) s w) := fun w s hs hw' =>
    runW_hom (φ := g) (f := fun x c => F (x * m + c)) hin (fun s c hs hcm => (hw.fs s c hs hcm).symm) w s hs hw'
  refine ⟨⟨hmay, ?_, fun p q hp hq hs => ?_⟩, fun w hok => ?_, ?_⟩
  · have hb := hu.bfs hw.bfs hc hw.fl
    rw [hlen]
    have hcong : ∀ i, i < fi.length * m → clF (joinN m F cl nu fi) m i = nu (cl (F (fi.getD (i / m) 0 * m + i % m))) := fun i hi => by
      have hm0 : 0 < m := by
        rcases Nat.eq_zero_or_pos m with rfl | h
        · simp at hi
        · exact h
      exact hnx _ _ ((Nat.div_lt_iff_lt_mul hm0).2 hi) (Nat.mod_lt _ hm0)
    refine ⟨fun i hi => ?_, fun q hq => ?_⟩
    · rw [hcong i hi, top_congr (G := jF m F cl nu fi) (fun j hj => hcong j (by omega))]
      exact hb.up i hi
    · have hle := Nat.mul_le_mul_right m (Nat.le_of_lt hq)
      rw [top_congr (G := jF m F cl nu fi) (fun j hj => hcong j (by omega))]
      exact hb.row q hq
  · rw [hlen] at hp hq
    have e1 := hu.nu p hp
    have e2 := hu.nu q hq
    have n1 := hu.lt p hp
    have n2 := hu.lt q hq
    rw [← e1, ← e2]
    congr 1
    refine hc.wide _ _ n1 n2 (fun w hok => ?_)
    have h1 := hs w hok
    rw [← e1, ← e2, hrun w _ n1 hok, hrun w _ n2 hok] at h1
    rw [hot _ (runW_in (m := m) (n := n) (f := fun x c => F (x * m + c)) hin w _ n1 hok), hot _ (runW_in (m := m) (n := n) (f := fun x c => F (x * m + c)) hin w _ n2 hok)] at h1
    exact h1
  · have h0 : 0 = nu (cl 0) := f2.symm
    rw [h0, hrun w 0 hw.pos hok, hot _ (runW_in (m := m) (n := n) (f := fun x c => F (x * m + c)) hin w _ hw.pos hok)]
    have := hrg w 0 hw.pos hok
    rw [hw.g0] at this
    rw [← this]
  · rw [hlen]
    have h1 : fi.length ≤ n := by
      refine nodup_le n fi ?_ (fun x hx => ?_)
      · rw [List.nodup_iff_pairwise_ne, List.pairwise_iff_getElem]
        intro i j hi hj hij
        have := hu.up i j hij hj
        rw [List.getD_eq_getElem?_getD, List.getElem?_eq_getElem hi, List.getD_eq_getElem?_getD, List.getElem?_eq_getElem hj] at this
        simp only [Option.getD_some] at this
        omega
      · obtain ⟨q, hq, rfl⟩ := List.getElem_of_mem hx
        have := hu.lt q hq
        rw [List.getD_eq_getElem?_getD, List.getElem?_eq_getElem hq] at this
        exact this
    have := hw.le
    omega
end Go.Proofs.YtjmmckkiicefhaaDoor
