/-
  MrBW, MiCW, ExTk, MiEM, MjAM, MjAW, MjCM, MiStM, MjBW.
-/
import Derived.Test.YtjemjccgfgijiaaDoorMha
import Derived.WalkKit
import Derived.WalkSpells
import Derived.WalkLawsBesides
import Derived.Handy
import Derived.Maps.AppendAt
import Derived.Deep.QuietTactic
import Derived.BigQuiet
import Derived.Shelf.Abstract
import Derived.Lib.SlicesS
import Derived.Deep.DeepAppendRoom
import Derived.Deep.AppendLies
import Derived.Deep.RegionHeld3
import Derived.Test.YtjemjccgfgijiaaDoorProg
import Derived.BigRegion
import Derived.Laws.OwnMore
import Derived.Lib.SmallJoins
import Derived.Deep.Cut
import Derived.Deep.RegionLaw
namespace Go.Proofs.YtjemjccgfgijiaaDoor
open Go.RowKit Go.Shelf
theorem hid0 {p : Prop} (h : p) : Hid p := h
/-- w' is w, but for new blocks and the blocks of S. -/
structure Only (w w' : World) (S : Nat → Prop) : Prop where
  os : w'.os = w.os
  tape : w'.tape = w.tape
  output : w'.output = w.output
  size : w.heap.size ≤ w'.heap.size
  block : ∀ k, k < w.heap.size → ¬ S k → w'.heap[k]? = w.heap[k]?
theorem Only.refl (w : World) (S : Nat → Prop) : Only w w S := ⟨rfl, rfl, rfl, Nat.le_refl _, fun _ _ _ => rfl⟩
theorem Only.trans {a b c : World} {S T : Nat → Prop} (h : Only a b S) (k : Only b c T) (hT : ∀ i, T i → S i ∨ a.heap.size ≤ i) : Only a c S :=
  ⟨k.os.trans h.os, k.tape.trans h.tape, k.output.trans h.output, Nat.le_trans h.size k.size, fun i hi hS =>
    (k.block i (Nat.lt_of_lt_of_le hi h.size) (fun ht => (hT i ht).elim hS (fun h => absurd hi (Nat.not_lt.2 h)))).trans (h.block i hi hS)⟩
theorem Only.drewN (w : World) (n : Nat) (S : Nat → Prop) : Only w (w.drewN n) S := ⟨rfl, rfl, rfl, Nat.le_refl _, fun _ _ _ => rfl⟩
theorem Only.alloc (w : World) (o : Obj) (S : Nat → Prop) : Only w (w.alloc o) S := ⟨rfl, rfl, rfl, by simp, fun k hk _ => Below.heap_alloc w o k hk⟩
theorem Only.setCell (w : World) (b off : Nat) (u : Value) : Only w (w.setCell ⟨b, off, none⟩ u) (fun k => k = b) := ⟨rfl, rfl, rfl, by simp [World.setCell], fun k _ h => Below.heap_setCell w _ u k h⟩
theorem Only.mono {w w' : World} {S T : Nat → Prop} (h : Only w w' S) (hs : ∀ i, S i → T i) : Only w w' T := ⟨h.os, h.tape, h.output, h.size, fun i hi ht => h.block i hi (fun s => ht (hs i s))⟩
theorem Only.below {w w' : World} {S : Nat → Prop} {B : Nat} (h : Only w w' S) (hB : B ≤ w.heap.size) (hs : ∀ i, S i → B ≤ i) : Below B w w' :=
  ⟨h.os, h.tape, h.output, h.size, fun i hi => h.block i (by omega) (fun s => by have := hs i s; omega)⟩
theorem Only.ofBelow {w w' : World} {B : Nat} (h : Below B w w') (S : Nat → Prop) (hs : ∀ i, B ≤ i → i < w.heap.size → S i) : Only w w' S :=
  ⟨h.os, h.tape, h.output, h.size, fun i hi hn => h.block i (Nat.lt_of_not_le fun hb => hn (hs i hb hi))⟩
theorem Only.cell {w w' : World} {S : Nat → Prop} (h : Only w w' S) {p : Addr} (hp : p.block < w.heap.size) (hn : ¬ S p.block) : w'.cell? p = w.cell? p := World.cell?_of_block (w := w) (h.block p.block hp hn)
theorem info_parts {t : TypeId} {z : Value} {n b : Nat} (h : (Tryd.prog.info? t).map (fun i => (i.zero, i.size, i.bytes)) = some (some z, n, b)) : ∃ i, Tryd.prog.info? t = some i ∧ i.zero = some z ∧ i.size = n ∧ i.bytes = b := by
  cases hq : Tryd.prog.info? t with
  | none => rw [hq] at h; cases h
  | some i =>
    rw [hq] at h
    simp only [Option.map_some, Option.some.injEq, Prod.mk.injEq] at h
    exact ⟨i, rfl, h.1, h.2.1, h.2.2⟩
theorem cell_one_new (w : World) (v : Value) (t : TypeId) : ∀ j u, [v][j]? = some u → (w.alloc (.cells #[v] t)).cell? ((⟨w.heap.size, 0, none⟩ : Addr).add j) = some u := by
  intro j u h
  rw [Addr.add_lit, cell_of_row _ w.heap.size _ _ _ _ (heap_alloc_new w _), Nat.zero_add]
  simpa using h
theorem Below.later {w a b : World} (h : Below w.heap.size w a) (k : Below a.heap.size a b) : Below w.heap.size w b :=
  ⟨k.os.trans h.os, k.tape.trans h.tape, k.output.trans h.output, Nat.le_trans h.size k.size, fun i hi => (k.block i (Nat.lt_of_lt_of_le hi h.size)).trans (h.block i hi)⟩
/-- cur is wk as far as the blocks from lo on go that wk has. -/
structure Agree (wk cur : World) (lo : Nat) : Prop where
  size : wk.heap.size ≤ cur.heap.size
  block : ∀ k, lo ≤ k → k < wk.heap.size → cur.heap[k]? = wk.heap[k]?
theorem Agree.refl (w : World) (lo : Nat) : Agree w w lo := ⟨Nat.le_refl _, fun _ _ _ => rfl⟩
theorem Agree.only {wk cur cur' : World} {lo : Nat} {S : Nat → Prop} (h : Agree wk cur lo) (ho : Only cur cur' S) (hs : ∀ k, S k → k < lo ∨ wk.heap.size ≤ k) : Agree wk cur' lo :=
  ⟨Nat.le_trans h.size ho.size, fun k h1 h2 => (ho.block k (Nat.lt_of_lt_of_le h2 h.size) (fun s => by have := hs k s; omega)).trans (h.block k h1 h2)⟩
theorem Agree.below {wk cur cur' : World} {lo : Nat} (h : Agree wk cur lo) (hb : Below cur.heap.size cur cur') : Agree wk cur' lo :=
  ⟨Nat.le_trans h.size hb.size, fun k h1 h2 => (hb.block k (Nat.lt_of_lt_of_le h2 h.size)).trans (h.block k h1 h2)⟩
theorem own_agree {wk cur : World} {lo t s n : Nat} {v : Value} {xs : List Value} (h : wk.ownsRow lo t s v n xs) (ha : Agree wk cur lo) : cur.ownsRow lo t s v n xs := by
  refine ⟨h.1, ?_⟩
  rcases h.2 with h2 | ⟨g, cap, cur0, hv, hg, hr, r⟩
  · exact .inl h2
  · exact .inr ⟨g, cap, cur0, hv, hg, (ha.block g hg (Array.getElem?_eq_some_iff.1 hr).1).trans hr, r⟩
theorem owns_lower {w : World} {base base' : Nat} {e : TypeId} {size : Nat} {v : Value} {n : Nat} {xs : List Value} (h : w.ownsRow base e size v n xs) (hb : base' ≤ base) : w.ownsRow base' e size v n xs :=
  ⟨h.1, h.2.imp id (fun ⟨g, cap, cur, h1, h2, h3⟩ => ⟨g, cap, cur, h1, Nat.le_trans hb h2, h3⟩)⟩
theorem own_form {w : World} {base : Nat} {e : TypeId} {size : Nat} {v : Value} {n : Nat} {xs : List Value} (h : w.ownsRow base e size v n xs) (hn : 0 < n) : ∃ g cap, v = .slice (some ⟨g, 0, none⟩) n cap ∧ base ≤ g ∧ g < w.heap.size ∧ n ≤ cap := by
  have h0 := h
  rcases h.2 with ⟨_, h1⟩ | ⟨g, cap, cur, rfl, hb, hr, hc, _⟩
  · omega
  · exact ⟨g, cap, rfl, hb, (World.ownsRow.lt h0 g rfl).2, hc⟩
theorem own_blk {W W' : World} {lo t s n : Nat} {v : Value} {xs : List Value} (h : W.ownsRow lo t s v n xs) (hb : ∀ k, v.ownBlock = some k → W'.heap[k]? = W.heap[k]?) : W'.ownsRow lo t s v n xs := by
  refine ⟨h.1, ?_⟩
  rcases h.2 with h2 | ⟨g, cap, cur0, hv, hg, hr, r⟩
  · exact .inl h2
  · exact .inr ⟨g, cap, cur0, hv, hg, (hb g (by rw [hv]; rfl)).trans hr, r⟩
theorem below_drew' {B : Nat} {w a : World} (h : Below B w a) (n : Nat) : Below B w (a.drewN n) := ⟨h.os, h.tape, h.output, h.size, h.block⟩
/-- Numbers in memory. -/
structure IA (w : World) (a : Option Addr) (L : List Int) : Prop where
  at' : ∀ k (h : k < L.length), ∃ b off, a = some ⟨b, off, none⟩ ∧ b < w.heap.size ∧ w.cell? ⟨b, off + k, none⟩ = some (.int .i64 L[k])
theorem IA.past {w w' : World} {a : Option Addr} {L : List Int} (h : IA w a L) (hb : Below w.heap.size w w') : IA w' a L := ⟨fun k hk => by
  obtain ⟨b, off, rfl, h1, h2⟩ := h.at' k hk
  exact ⟨b, off, rfl, Nat.lt_of_lt_of_le h1 hb.size, (hb.cell (p := ⟨b, off + k, none⟩) h1).trans h2⟩⟩
def OwnI (w : World) (base : Nat) (v : Value) (ps : List Int) : Prop := w.ownsRow base 3 1 v ps.length (ps.map (Value.int .i64))
theorem infoInt : (Tryd.prog.info? 3).map (fun i => (i.zero, i.size, i.bytes)) = some (some (.int .i64 0), 1, 8) := by kernel_rfl
theorem OwnI.ia {w : World} {base : Nat} {v : Value} {L : List Int} (h : OwnI w base v L) : ∃ a cap, v = .slice a L.length cap ∧ IA w a L := by
  have h0 := h
  rcases h.2 with ⟨rfl, hn⟩ | ⟨g, cap, cur, rfl, hg, hr, hc, _⟩
  · exact ⟨none, 0, by rw [hn], ⟨fun k hk => by omega⟩⟩
  · refine ⟨_, cap, rfl, ⟨fun k hk => ⟨g, 0, rfl, (World.ownsRow.lt h0 g rfl).2, ?_⟩⟩⟩
    have := World.ownsRow.cellAt h0 k (by omega)
    rw [Nat.zero_add, this]
    simp [hk]
theorem IA.below {w w' : World} {a : Option Addr} {L : List Int} {B : Nat} (h : IA w a L) (hb : Below B w w') (ha : ∀ p, a = some p → p.block < B) : IA w' a L := ⟨fun k hk => by
  obtain ⟨b, off, rfl, h1, h2⟩ := h.at' k hk
  exact ⟨b, off, rfl, Nat.lt_of_lt_of_le h1 hb.size, (hb.cell (p := ⟨b, off + k, none⟩) (ha ⟨b, off, none⟩ rfl)).trans h2⟩⟩
theorem ownI_snoc {w wr w1 : World} {base : Nat} {v v' : Value} {L : List Int} {c : Int} {o : Obj} {n : Nat} (hn : n = L.length) (hown : OwnI wr base v L)
    (hown' : w1.ownsRow base 3 1 v' (n + 1) (L.map (Value.int .i64) ++ [.int .i64 c])) (hgrow : (wr.alloc o).grownBy w1 v.ownBlock) (hbel : Below base w wr) (hb : base ≤ w.heap.size) :
    OwnI w1 base v' (L ++ [c]) ∧ Below base w w1 := by
  subst hn
  have hsz := hbel.size
  refine ⟨?_, (hbel.alloc (by omega) o).grown hgrow (by simp; omega) (fun k hk => (World.ownsRow.lt hown k hk).1)⟩
  unfold OwnI
  rw [List.length_append, List.length_singleton, List.map_append]
  exact hown'
section
variable {P : Program} (w : World)
theorem run_append_own_front (base : Nat) (t ty e : TypeId) (i : TypeInfo) (z : Value) (size bytes : Nat) (ht : P.underlying t = some (.slice e)) (hi : P.info? e = some i) (hz : i.zero = some z)
    (hsize : i.size = size) (hby : i.bytes = bytes) (hzs : z.cells.size = size) (hsz : 0 < size)
    (v : Value) (n : Nat) (xs : List Value) (hown : w.ownsRow base e size v n xs)
    (a : Addr) (m c : Nat) (news : List Value) (hl : news.length = m * size) (hnews : ∀ j u, news[j]? = some u → w.cell? (a.add j) = some u) (h1 : ∀ u ∈ news, u.oneCell' = true)
    (h63 : n + m ≤ maxLen) (hbytes : (n + m) * bytes ≤ 140737488355328) (hbase : base ≤ w.heap.size) :
    ∃ v' w', (Builtin.append_ #[t, t] ty #[v, .slice (some a) m c]).run P w = .ok v' w' ∧ w'.ownsRow base e size v' (n + m) (xs ++ news) ∧ w.grownBy w' v.ownBlock ∧
      (v'.ownBlock = v.ownBlock ∨ v'.ownBlock = some w.heap.size) ∧ (∀ g j u, v.ownBlock = some g → j < n * size → w.cell? ⟨g, j, none⟩ = some u → w'.cell? ⟨g, j, none⟩ = some u) := by
  obtain ⟨v', w', hr, h2, h3, _, h5⟩ := run_append_own_at (P := P) w base t ty e i z size bytes ht hi hz hsize hby hzs hsz v n xs hown a m c news hl hnews h1 h63 hbytes hbase
  refine ⟨v', w', hr, h2, h3, h5, ?_⟩
  intro g j u hg hj hc
  have hjx : j < xs.length := by rw [hown.1]; exact hj
  have hxu : xs[j]? = some u := by
    have e1 := hown.cells hg j xs[j] (List.getElem?_eq_getElem hjx)
    rw [Addr.add_lit, Nat.zero_add, hc] at e1
    rw [List.getElem?_eq_getElem hjx, ← Option.some.inj e1]
  rcases h5 with h5 | h5
  · have e2 := h2.cells (h5.trans hg) j u (by rw [List.getElem?_append_left hjx]; exact hxu)
    rw [Addr.add_lit, Nat.zero_add] at e2
    exact e2
  · have hglt := (hown.lt g hg).2
    rcases hown.2 with ⟨rfl, _⟩ | ⟨g', cap, cur, rfl, hbg, hgg, hnc, hcm, hcs, htake⟩
    · simp [Value.ownBlock] at hg
    · have hge : g' = g := by simpa [Value.ownBlock] using hg
      subst hge
      by_cases hroom : n + m ≤ cap
      · obtain ⟨w2, hr2, _⟩ := run_append_own_spare (P := P) w base t ty e i size ht hi hsize g' n cap xs hown a m c news hl hnews h1 hroom
        rw [hr] at hr2
        cases hr2
        simp [Value.ownBlock] at h5
        omega
      · subst hsize hby
        have holds : ∀ j u, xs[j]? = some u → w.cell? ((⟨g', 0, none⟩ : Addr).add j) = some u := hown.cells (g := g') rfl
        have hr2 := run_append_grow (P := P) w t ty e i z ht hi hz ⟨g', 0, none⟩ n cap xs hown.1 holds a m c news hl hnews (by omega) (by simp only [maxLen] at h63; omega) (growslice_fits (by omega) hbytes)
        rw [hr] at hr2
        cases hr2
        exact (World.cell?_of_block (w := w) (a := ⟨g', j, none⟩) (heap_alloc_old w.drew _ (r := g') hglt)).trans hc
theorem wpList_append_own_front {ops : Array Oper} {rest : List Oper} {o : Oper} {a : Act} {Q : Exit → Act → World → Prop} (hgd : o.guard = none) (s x : Operand) (t : TypeId)
    (ho : o.op = .call { callee := .builtin .append, args := #[s, x], argTypes := #[t, t] })
    (base : Nat) (e : TypeId) (i : TypeInfo) (z : Value) (size bytes : Nat) (ht : P.underlying t = some (.slice e)) (hi : P.info? e = some i) (hz : i.zero = some z)
    (hsize : i.size = size) (hby : i.bytes = bytes) (hzs : z.cells.size = size) (hsz : 0 < size)
    (v : Value) (n : Nat) (xs : List Value) (hs : a.eval s = v) (hown : w.ownsRow base e size v n xs)
    (ad : Addr) (m c : Nat) (news : List Value) (hx : a.eval x = .slice (some ad) m c) (hl : news.length = m * size) (hnews : ∀ j u, news[j]? = some u → w.cell? (ad.add j) = some u) (h1 : ∀ u ∈ news, u.oneCell' = true)
    (h63 : n + m ≤ maxLen) (hbytes : (n + m) * bytes ≤ 140737488355328) (hbase : base ≤ w.heap.size)
    (h : ∀ v' w', w'.ownsRow base e size v' (n + m) (xs ++ news) → w.grownBy w' v.ownBlock → (v'.ownBlock = v.ownBlock ∨ v'.ownBlock = some w.heap.size) → (∀ g j u, v.ownBlock = some g → j < n * size → w.cell? ⟨g, j, none⟩ = some u → w'.cell? ⟨g, j, none⟩ = some u) → wpList P ops Q rest (a.put o.dst v') w') :
    wpList P ops Q (o :: rest) a w := by
  refine wpList_plain hgd fun K hK => ?_
  obtain ⟨v', w', hr, h2, h3, h4, h5⟩ := run_append_own_front (P := P) w base t o.type e i z size bytes ht hi hz hsize hby hzs hsz v n xs hown ad m c news hl hnews h1 h63 hbytes hbase
  unfold Oper.wp execOp
  simp only [ho, resolve, invoke, builtin, Sem.run_bind, Sem.run_pure, Result.andThen_ok, List.map_toArray, List.map_cons, List.map_nil, hs, hx, hr]
  exact hK _ _ (h v' w' h2 h3 h4 h5)
end


theorem cell_alloc {w : World} {p : Addr} {v : Value} (h : w.cell? p = some v) (o : Obj) : (w.alloc o).cell? p = some v := ((Only.alloc w o (fun _ => False)).cell (World.block_lt_of_cell? w p h) (fun h => h)).trans h
theorem Only.ofGrown {w w' : World} {row : Option Nat} (h : w.grownBy w' row) : Only w w' (fun k => row = some k) := ⟨h.os, h.tape, h.output, h.size, fun k hk hn => h.block k hk (fun e => hn e.symm)⟩
theorem infoInts : (Tryd.prog.info? 25).map (fun i => (i.zero, i.size, i.bytes)) = some (some (.slice none 0 0), 1, 24) := by kernel_rfl
/-- Lists of numbers in memory. -/
structure RwA (w : World) (a : Option Addr) (L : List (List Int)) : Prop where
  at' : ∀ k (h : k < L.length), ∃ b off, a = some ⟨b, off, none⟩ ∧ b < w.heap.size ∧ ∃ a1 c1, w.cell? ⟨b, off + k, none⟩ = some (.slice a1 (L[k]).length c1) ∧ IA w a1 L[k]
theorem RwA.past {w w' : World} {a : Option Addr} {L : List (List Int)} (h : RwA w a L) (hb : Below w.heap.size w w') : RwA w' a L := ⟨fun k hk => by
  obtain ⟨b, off, rfl, h1, a1, c1, h2, h3⟩ := h.at' k hk
  exact ⟨b, off, rfl, Nat.lt_of_lt_of_le h1 hb.size, a1, c1, (hb.cell (p := ⟨b, off + k, none⟩) h1).trans h2, h3.past hb⟩⟩
theorem IA.front {w : World} {a : Option Addr} {L M : List Int} (h : IA w a (L ++ M)) : IA w a L := ⟨fun k hk => by
  obtain ⟨b, off, e, h1, h2⟩ := h.at' k (by simp; omega)
  rw [List.getElem_append_left hk] at h2
  exact ⟨b, off, e, h1, h2⟩⟩
theorem below_refl' (w : World) : Below w.heap.size w w := Below.refl _ _
end Go.Proofs.YtjemjccgfgijiaaDoor
namespace Go.Proofs.YtjemjccgfgijiaaDoor
open Go.RowKit Go.Shelf
theorem upF_drop {L : List Int} {k : Nat} {lo : Int} (h : k < L.length) : upF lo (L.drop k) = (decide (lo ≤ L[k]) && upF (L[k] + 1) (L.drop (k + 1))) := by
  rw [List.drop_eq_getElem_cons h]
  rfl
theorem upF_end {L : List Int} {k : Nat} {lo : Int} (h : L.length ≤ k) : upF lo (L.drop k) = true := by
  rw [List.drop_eq_nil_of_le h]
  rfl
set_option maxRecDepth 10000 in
set_option maxHeartbeats 800000 in
theorem isOneOf_any (n : Nat) (z : Int) (w : World) : Calls Tryd.prog 45 #[.int .i64 z, .int .i64 (n : Int)] w fun e w' => e = .returned (.bool (oneOf n z)) ∧ w' = w := by
  by_cases h : z ≥ 0
  · by_cases h2 : z < (n : Int)
    · have e : oneOf n z = true := (oneOf_iff n z).2 ⟨h, h2⟩
      rw [e]
      go_enter Tryd.func45, Tryd.ntmps45
      go_wp2
      go_ret
      exact ⟨rfl, rfl⟩
    · have e : oneOf n z = false := (oneOf_not n z).2 (fun q => h2 q.2)
      rw [e]
      go_enter Tryd.func45, Tryd.ntmps45
      go_wp2
      go_ret
      exact ⟨rfl, rfl⟩
  · have e : oneOf n z = false := (oneOf_not n z).2 (fun q => h q.1)
    rw [e]
    go_enter Tryd.func45, Tryd.ntmps45
    go_wp2
    go_ret
    exact ⟨rfl, rfl⟩
set_option maxRecDepth 10000 in
set_option maxHeartbeats 800000 in
theorem allOf_any (n : Nat) (L : List Int) (a : Option Addr) (c : Nat) (w : World) (hl : L.length ≤ 17592186043904) (ha : IA w a L) : Calls Tryd.prog 46 #[.slice a L.length c, .int .i64 (n : Int)] w fun e w' => e = .returned (.bool (L.all (oneOf n))) ∧ w' = w := by
  have HA := hid0 ha
  have HO := hid0 (fun z => isOneOf_any n z w)
  clear ha
  go_enter Tryd.func46, Tryd.ntmps46
  go_wp2
  go_loopw [9] (fun i wr => ∃ k : Nat, k ≤ L.length ∧ i = .int .i64 (k : Int) ∧ wr = w ∧ Hid ((L.drop k).all (oneOf n) = L.all (oneOf n))) (fun i _ => L.length - (intOf i).toNat)
  case atStart => exact ⟨0, Nat.zero_le _, rfl, rfl, hid0 rfl⟩
  case round =>
    obtain ⟨k, hk, rfl, rfl, HD⟩ := hrel
    by_cases hlt : k < L.length
    · obtain ⟨b, off, rfl, _, d1⟩ := HA.out.at' k hlt
      have hkI : (k : Int) < (L.length : Int) := by omega
      have hkI0 : (0 : Int) ≤ (k : Int) := by omega
      have HS := hid0 (all_drop (n := n) hlt)
      generalize L[k] = s at *
      have HOS := hid0 (HO.out s)
      cases hs : oneOf n s with
      | true =>
        rw [hs] at HOS
        have HD2 : Hid ((L.drop (k + 1)).all (oneOf n) = L.all (oneOf n)) := hid0 (by rw [← HD.out, HS.out, hs, Bool.true_and])
        clear HS HD hs
        go_wp2_with (go_at_call 45; refine HOS.out.mono ?_; rintro e w1 ⟨rfl, rfl⟩)
        go_roundw
        case rel => exact ⟨k + 1, by omega, by go_num, trivial, HD2⟩
        case measure => simp [intOf]; omega
      | false =>
        rw [hs] at HOS
        have HD2 : Hid (L.all (oneOf n) = false) := hid0 (by rw [← HD.out, HS.out, hs, Bool.false_and])
        clear HS HD hs
        go_wp2_with (go_at_call 45; refine HOS.out.mono ?_; rintro e w1 ⟨rfl, rfl⟩)
        go_ret
        exact ⟨by rw [HD2.out]; rfl, rfl⟩
    · have hkI : ¬ (k : Int) < (L.length : Int) := by omega
      have HD2 : Hid (L.all (oneOf n) = true) := hid0 (by rw [← HD.out]; exact all_end (by omega))
      clear HD
      go_wp2
      go_ret
      exact ⟨by rw [HD2.out]; rfl, rfl⟩
set_option maxRecDepth 10000 in
set_option maxHeartbeats 800000 in
theorem rises_any (L : List Int) (a : Option Addr) (c : Nat) (w : World) (hl : L.length ≤ 17592186043904) (ha : IA w a L) : Calls Tryd.prog 47 #[.slice a L.length c] w fun e w' => e = .returned (.bool (upF 0 L)) ∧ w' = w := by
  have HA := hid0 ha
  clear ha
  go_enter Tryd.func47, Tryd.ntmps47
  go_wp2
  go_loopw [3, 8] (fun l i wr => ∃ (k : Nat) (lo : Int), k ≤ L.length ∧ i = .int .i64 (k : Int) ∧ l = .int .i64 (lo - 1) ∧ wr = w ∧ Hid (upF lo (L.drop k) = upF 0 L)) (fun _ i _ => L.length - (intOf i).toNat)
  case atStart => exact ⟨0, 0, Nat.zero_le _, rfl, rfl, rfl, hid0 rfl⟩
  case round =>
    obtain ⟨k, lo, hk, rfl, rfl, rfl, HD⟩ := hrel
    by_cases hlt : k < L.length
    · obtain ⟨b, off, rfl, _, d1⟩ := HA.out.at' k hlt
      have hkI : (k : Int) < (L.length : Int) := by omega
      have hkI0 : (0 : Int) ≤ (k : Int) := by omega
      have HS := hid0 (upF_drop (lo := lo) hlt)
      generalize L[k] = s at *
      by_cases h1 : s ≤ lo - 1
      · have HD2 : Hid (upF 0 L = false) := hid0 (by rw [← HD.out, HS.out, decide_eq_false (by omega)]; rfl)
        clear HS HD
        go_wp2
        go_ret
        exact ⟨by rw [HD2.out]; rfl, rfl⟩
      · have HD2 : Hid (upF (s + 1) (L.drop (k + 1)) = upF 0 L) := hid0 (by rw [← HD.out, HS.out, decide_eq_true (p := lo ≤ s) (by omega)]; rfl)
        clear HS HD
        go_wp2
        go_roundw
        case rel => exact ⟨k + 1, s + 1, by omega, by go_num, by congr 1; omega, trivial, HD2⟩
        case measure => simp [intOf]; omega
    · have hkI : ¬ (k : Int) < (L.length : Int) := by omega
      have HD2 : Hid (upF 0 L = true) := hid0 (by rw [← HD.out]; exact upF_end (by omega))
      clear HD
      go_wp2
      go_ret
      exact ⟨by rw [HD2.out]; rfl, rfl⟩
theorem drew_two (w : World) (a b : Nat) : ∃ n, (w.drewN a).drewN b = w.drewN n := ⟨a + b, by rw [World.drewN_drewN]⟩
/-- The least that may come at a place. -/
def loAt (L : List Int) (k : Nat) : Int := if k = 0 then 0 else L.getD (k - 1) 0 + 1
set_option maxRecDepth 10000 in
set_option maxHeartbeats 800000 in
theorem refRises_any (L : List Int) (a : Option Addr) (c : Nat) (w : World) (hl : L.length ≤ 17592186043904) (ha : IA w a L) : Calls Tryd.prog 28 #[.slice a L.length c] w fun e w' => e = .returned (.bool (upF 0 L)) ∧ ∃ n, w' = w.drewN n := by
  have HA := hid0 ha
  clear ha
  go_enter Tryd.func28, Tryd.ntmps28
  go_wp2
  go_loopw [3] (fun i wr => ∃ k : Nat, k ≤ L.length ∧ 0 ≤ loAt L k ∧ i = .int .i64 (k : Int) ∧ (∃ n, wr = w.drewN n) ∧ Hid (upF (loAt L k) (L.drop k) = upF 0 L)) (fun i _ => L.length - (intOf i).toNat)
  case atStart => exact ⟨0, Nat.zero_le _, Int.le_refl _, rfl, ⟨0, rfl⟩, hid0 rfl⟩
  case round =>
    obtain ⟨k, hk, hlo, rfl, ⟨nd, rfl⟩, HD⟩ := hrel
    by_cases hlt : k < L.length
    · obtain ⟨b, off, rfl, _, d1⟩ := HA.out.at' k hlt
      have hkI : (k : Int) < (L.length : Int) := by omega
      have hkI0 : (0 : Int) ≤ (k : Int) := by omega
      have HS := hid0 (upF_drop (lo := loAt L k) hlt)
      have HN : Hid (loAt L (k + 1) = L[k] + 1) := hid0 (by unfold loAt; rw [if_neg (by omega), Nat.add_sub_cancel, List.getD_eq_getElem?_getD, List.getElem?_eq_getElem hlt]; rfl)
      by_cases h0 : k = 0
      · have e0 : loAt L k = 0 := by unfold loAt; rw [if_pos h0]
        rw [e0] at HS HD
        clear e0 hlo
        generalize L[k] = s at *
        have h00 : ¬ (k : Int) > 0 := by omega
        have h01 : decide ((0 : Int) < (k : Int)) = false := decide_eq_false h00
        have h02 : decide (0 < k) = false := decide_eq_false (by omega)
        clear h0
        by_cases h1 : s < 0
        · have HD2 : Hid (upF 0 L = false) := hid0 (by rw [← HD.out, HS.out, decide_eq_false (by omega)]; rfl)
          have hd : decide (s < 0) = true := decide_eq_true h1
          clear HS HD
          go_wp2
          go_quiet ((fail))
          go_wp2
          go_ret
          exact ⟨by rw [HD2.out]; rfl, drew_two _ _ _⟩
        · have HD2 : Hid (upF (s + 1) (L.drop (k + 1)) = upF 0 L) := hid0 (by rw [← HD.out, HS.out, decide_eq_true (p := 0 ≤ s) (by omega)]; rfl)
          have hd : decide (s < 0) = false := decide_eq_false h1
          clear HS HD
          go_wp2
          go_quiet ((fail))
          go_wp2
          go_roundw
          case rel => exact ⟨k + 1, by omega, by rw [HN.out]; omega, by go_num, ⟨_, rfl⟩, hid0 (by rw [HN.out]; exact HD2.out)⟩
          case measure => simp [intOf]; omega
      · obtain ⟨j, rfl⟩ : ∃ j, k = j + 1 := ⟨k - 1, by omega⟩
        obtain ⟨b2, off2, e2, _, d2⟩ := HA.out.at' j (by omega)
        cases e2
        have e0 : loAt L (j + 1) = L[j]'(by omega) + 1 := by unfold loAt; rw [if_neg (by omega), Nat.add_sub_cancel, List.getD_eq_getElem?_getD, List.getElem?_eq_getElem (by omega)]; rfl
        rw [e0] at HS HD hlo
        clear e0
        generalize L[j + 1] = s at *
        generalize L[j]'(by omega) = q at *
        have ej : ((j + 1 : Nat) : Int) - 1 = (j : Int) := by omega
        have hj0 : ((j + 1 : Nat) : Int) > 0 := by omega
        have hj1 : decide (((j + 1 : Nat) : Int) > 0) = true := decide_eq_true hj0
        by_cases h1 : s < 0
        · have HD2 : Hid (upF 0 L = false) := hid0 (by rw [← HD.out, HS.out, decide_eq_false (by omega)]; rfl)
          have hd : decide (s < 0) = true := decide_eq_true h1
          clear HS HD
          go_wp2
          go_quiet ((fail))
          go_wp2
          go_ret
          exact ⟨by rw [HD2.out]; rfl, drew_two _ _ _⟩
        · have hd : decide (s < 0) = false := decide_eq_false h1
          by_cases h2 : s ≤ q
          · have HD2 : Hid (upF 0 L = false) := hid0 (by rw [← HD.out, HS.out, decide_eq_false (by omega)]; rfl)
            clear HS HD
            go_wp2
            go_quiet ((fail))
            go_wp2
            go_ret
            exact ⟨by rw [HD2.out]; rfl, drew_two _ _ _⟩
          · have HD2 : Hid (upF (s + 1) (L.drop (j + 1 + 1)) = upF 0 L) := hid0 (by rw [← HD.out, HS.out, decide_eq_true (p := q + 1 ≤ s) (by omega)]; rfl)
            clear HS HD
            go_wp2
            go_quiet ((fail))
            go_wp2
            go_roundw
            case rel => exact ⟨j + 1 + 1, by omega, by rw [HN.out]; omega, by go_num, ⟨_, rfl⟩, hid0 (by rw [HN.out]; exact HD2.out)⟩
            case measure => simp [intOf]; omega
    · have hkI : ¬ (k : Int) < (L.length : Int) := by omega
      have HD2 : Hid (upF 0 L = true) := hid0 (by rw [← HD.out]; exact upF_end (by omega))
      clear HD
      go_wp2
      go_ret
      exact ⟨by rw [HD2.out]; rfl, nd, rfl⟩
set_option maxRecDepth 10000 in
set_option maxHeartbeats 800000 in
theorem sameI (l : List Int) (a b : Option Addr) (ca cb : Nat) (w : World) (hl : l.length ≤ 17592186044000) (ha : IA w a l) (hb : IA w b l) :
    Calls Tryd.prog 12 #[.slice a l.length ca, .slice b l.length cb] w fun e w' => e = .returned (.bool true) ∧ ∃ n, w' = w.drewN n := by
  have HA := hid0 ha
  have HB := hid0 hb
  clear ha hb
  go_enter Tryd.func12, Tryd.ntmps12
  go_wp2
  go_loopw [5] (fun i wr => ∃ k : Nat, k ≤ l.length ∧ i = .int .i64 (k : Int) ∧ ∃ n, wr = w.drewN n) (fun i _ => l.length - (intOf i).toNat)
  case atStart => exact ⟨0, Nat.zero_le _, rfl, 0, rfl⟩
  case round =>
    obtain ⟨k, hk, rfl, nd, rfl⟩ := hrel
    by_cases hlt : k < l.length
    · obtain ⟨b1, o1, rfl, _, d1⟩ := HA.out.at' k hlt
      obtain ⟨b2, o2, rfl, _, d2⟩ := HB.out.at' k hlt
      have hkI : (k : Int) < (l.length : Int) := by omega
      have hkI0 : (0 : Int) ≤ (k : Int) := by omega
      generalize l[k] = s at *
      have hself : (s == s) = true := by simp
      go_wp2
      go_quiet ((fail))
      go_wp2
      go_roundw
      case rel => exact ⟨k + 1, by omega, by go_num, _, rfl⟩
      case measure => simp [intOf]; omega
    · have hkI : ¬ (k : Int) < (l.length : Int) := by omega
      go_wp2
      go_ret
      exact ⟨rfl, nd, rfl⟩
end Go.Proofs.YtjemjccgfgijiaaDoor
namespace Go.Proofs.YtjemjccgfgijiaaDoor
open Go.RowKit
section
variable {P : Program} {ops : Array Oper} {Q : Exit → Act → World → Prop} {md : Region.Mode} {S : World → Prop}
/-- An operation that yields a value is taken first. -/
theorem tkV {i : Nat} {oi : Oper} {d : Option Tmp} {v : Value} {fuel : Nat} {listed : Array Bool} {a : Act} {w : World} (hi : ops[i]? = some oi)
    (hs : Region.noSelect ops = true) (hf : Region.free md ops listed i = true) (hr : (Region.ready md ops listed).contains i = true) (hd : oi.dst = d)
    (hQ : ∀ c a w, Q (.panic c) (a.put d v) w → Q (.panic c) a w) (hw : Region.wanted oi (yielded ops a.tmps) = true) (hv : ∀ w, S w → (execOp a.eval oi).run P w = .ok (.value v) w) (hS : S w)
    (h : wpAnyH P md ops Q S fuel (listed.setIfInBounds i true) (a.put d v) w) : wpAnyH P md ops Q S (fuel + 1) listed a w := by
  subst hd
  exact wpAnyH_take hi hs hf hr hQ (.inl ⟨hw, hv⟩) hS h
/-- One that is not wanted. -/
theorem tkU {i : Nat} {oi : Oper} {d : Option Tmp} {fuel : Nat} {listed : Array Bool} {a : Act} {w : World} (hi : ops[i]? = some oi)
    (hs : Region.noSelect ops = true) (hf : Region.free md ops listed i = true) (hr : (Region.ready md ops listed).contains i = true) (hd : oi.dst = d)
    (hQ : ∀ c a w, Q (.panic c) (a.put d undef) w → Q (.panic c) a w) (hw : Region.wanted oi (yielded ops a.tmps) = false) (hS : S w)
    (h : wpAnyH P md ops Q S fuel (listed.setIfInBounds i true) (a.put d undef) w) : wpAnyH P md ops Q S (fuel + 1) listed a w := by
  subst hd
  exact wpAnyH_take hi hs hf hr hQ (.inr ⟨hw, rfl⟩) hS h
end
end Go.Proofs.YtjemjccgfgijiaaDoor
namespace Go.Proofs.YtjemjccgfgijiaaDoor
open Go.RowKit Go.Shelf
def ovF (n : Nat) (p : Nat → Nat) : List Value := (List.range n).map fun s => .int .i64 (p s : Int)
/-- The row of the nodes above. -/
structure Ov (W : World) (G n : Nat) (p : Nat → Nat) : Prop where
  blk : W.heap[G]? = some (.cells (ovF n p).toArray 3 (0, 0))
theorem Ov.cell {W : World} {G n : Nat} {p : Nat → Nat} (h : Ov W G n p) {s : Nat} (hs : s < n) : W.cell? ⟨G, s, none⟩ = some (.int .i64 (p s : Int)) := by
  rw [cell_of_row _ _ _ _ _ _ h.blk]
  simp [ovF, hs]
theorem Ov.lt {W : World} {G n : Nat} {p : Nat → Nat} (h : Ov W G n p) : G < W.heap.size := (Array.getElem?_eq_some_iff.1 h.blk).1
theorem Ov.frozen {W : World} {G n : Nat} {p : Nat → Nat} (h : Ov W G n p) (s : Nat) : W.frozen? ⟨G, s, none⟩ = false := by
  simp [World.frozen?, h.blk]
theorem Ov.put {W : World} {G n : Nat} {p : Nat → Nat} (h : Ov W G n p) {s : Nat} (v : Nat) : Ov (W.setCell ⟨G, s, none⟩ (.int .i64 (v : Int))) G n (putF p s v) := by
  have e := heap_setCell_same W G s _ _ (.int .i64 (v : Int)) h.blk
  refine ⟨e.trans ?_⟩
  congr 2
  simp only [List.setIfInBounds_toArray]
  congr 1
  refine List.ext_getElem (by simp [ovF]) (fun i h1 h2 => ?_)
  rw [List.getElem_set]
  simp only [ovF, List.getElem_map, List.getElem_range, putF]
  by_cases e : s = i
  · subst e; simp
  · rw [if_neg e, if_neg (fun q => e q.symm)]
theorem Ov.keep {W W' : World} {G n : Nat} {p : Nat → Nat} (h : Ov W G n p) (hk : W'.heap[G]? = W.heap[G]?) : Ov W' G n p := ⟨hk.trans h.blk⟩
/-- Nothing but a block is another one. -/
structure Oth1 (W W' : World) (G : Nat) : Prop where
  os : W'.os = W.os
  tape : W'.tape = W.tape
  output : W'.output = W.output
  size : W'.heap.size = W.heap.size
  oth : ∀ k, ¬ k = G → W'.heap[k]? = W.heap[k]?
theorem Oth1.refl (W : World) (G : Nat) : Oth1 W W G := ⟨rfl, rfl, rfl, rfl, fun _ _ => rfl⟩
theorem Oth1.trans {a b c : World} {G : Nat} (h : Oth1 a b G) (k : Oth1 b c G) : Oth1 a c G := ⟨k.os.trans h.os, k.tape.trans h.tape, k.output.trans h.output, k.size.trans h.size, fun i hi => (k.oth i hi).trans (h.oth i hi)⟩
theorem Oth1.drewN (W : World) (n G : Nat) : Oth1 W (W.drewN n) G := ⟨rfl, rfl, rfl, rfl, fun _ _ => rfl⟩
theorem Oth1.drew (W : World) (G : Nat) : Oth1 W W.drew G := ⟨rfl, rfl, rfl, rfl, fun _ _ => rfl⟩
theorem Oth1.setCell (W : World) (G off : Nat) (u : Value) : Oth1 W (W.setCell ⟨G, off, none⟩ u) G := ⟨rfl, rfl, rfl, by simp [World.setCell], fun k hk => Below.heap_setCell W _ u k hk⟩
theorem Oth1.cell {W W' : World} {G : Nat} (h : Oth1 W W' G) {X o : Nat} (hX : X ≠ G) : W'.cell? ⟨X, o, none⟩ = W.cell? ⟨X, o, none⟩ := World.cell?_of_block (w := W) (h.oth X hX)
end Go.Proofs.YtjemjccgfgijiaaDoor
namespace Go.Proofs.YtjemjccgfgijiaaDoor
open Go.RowKit Go.Shelf
/-- Spans as cells. -/
def spV (l : List (Nat × Nat)) : List Value := l.flatMap fun x => [.int .i64 (x.1 : Int), .int .i64 (x.2 : Int)]
theorem spV_len (l : List (Nat × Nat)) : (spV l).length = l.length * 2 := by
  induction l with
  | nil => rfl
  | cons x l ih => unfold spV at *; rw [List.flatMap_cons, List.length_append, ih, List.length_cons]; simp; omega
theorem spV_snoc (l : List (Nat × Nat)) (x : Nat × Nat) : spV (l ++ [x]) = spV l ++ [.int .i64 (x.1 : Int), .int .i64 (x.2 : Int)] := by
  unfold spV
  rw [List.flatMap_append]
  simp
theorem spV_at : ∀ (l : List (Nat × Nat)) (k : Nat), k < l.length → (spV l)[k * 2]? = some (.int .i64 ((spF l k).1 : Int)) ∧ (spV l)[k * 2 + 1]? = some (.int .i64 ((spF l k).2 : Int))
  | [], k, h => absurd h (Nat.not_lt_zero _)
  | x :: l, 0, _ => by unfold spV spF; rw [List.flatMap_cons]; simp
  | x :: l, k + 1, h => by
    have ih := spV_at l k (by simpa using h)
    have e : spV (x :: l) = [.int .i64 (x.1 : Int), .int .i64 (x.2 : Int)] ++ spV l := by unfold spV; rw [List.flatMap_cons]
    have g : spF (x :: l) (k + 1) = spF l k := by unfold spF; simp
    rw [e, g]
    have s0 : (k + 1) * 2 = 2 + k * 2 := by omega
    refine ⟨?_, ?_⟩
    · rw [s0, List.getElem?_append_right (by simp)]; simpa using ih.1
    · rw [s0, List.getElem?_append_right (by simp; omega)]; have := ih.2; simp only [List.length_cons, List.length_nil]; rw [show 2 + k * 2 + 1 - (0 + 1 + 1) = k * 2 + 1 by omega]; exact this
theorem spV_set : ∀ (l : List (Nat × Nat)) (k : Nat), k < l.length → ∀ x : Nat × Nat, spV (l.set k x) = ((spV l).set (k * 2) (.int .i64 (x.1 : Int))).set (k * 2 + 1) (.int .i64 (x.2 : Int))
  | [], k, h, _ => absurd h (Nat.not_lt_zero _)
  | y :: l, 0, _, x => by unfold spV; rw [List.set_cons_zero, List.flatMap_cons, List.flatMap_cons]; simp
  | y :: l, k + 1, h, x => by
    have ih := spV_set l k (by simpa using h) x
    have e : ∀ (y : Nat × Nat) (l : List (Nat × Nat)), spV (y :: l) = .int .i64 (y.1 : Int) :: .int .i64 (y.2 : Int) :: spV l := fun y l => by unfold spV; rw [List.flatMap_cons]; rfl
    rw [List.set_cons_succ, e, e, ih]
    have s0 : (k + 1) * 2 = k * 2 + 1 + 1 := by omega
    rw [s0, List.set_cons_succ, List.set_cons_succ, List.set_cons_succ, List.set_cons_succ]
theorem infoSp : (Tryd.prog.info? 97).map (fun i => (i.zero, i.size, i.bytes)) = some (some (.agg #[.int .i64 0, .int .i64 0]), 2, 16) := by kernel_rfl
def natI (q : List Nat) : List Int := q.map fun x => ((x : Nat) : Int)
theorem natI_len (q : List Nat) : (natI q).length = q.length := by simp [natI]
/-- Blocks from lo on that do not lie in the gap. -/
def gapF (lo l0 h0 j0 j1 : Nat) (k : Nat) : Prop := lo ≤ k ∧ (k < l0 ∨ h0 ≤ k) ∧ (k < j0 ∨ j1 ≤ k)
/-- The parts in memory. -/
structure Pt (W : World) (lo l0 h0 j0 j1 P R L C n : Nat) (ro pl cl : Nat → Nat) (vs : Value) (sp : List (Nat × Nat)) (vq : Value) (q : List Nat) : Prop where
  blk : W.heap[P]? = some (.cells #[.slice (some ⟨R, 0, none⟩) n n, .slice (some ⟨L, 0, none⟩) n n, .slice (some ⟨C, 0, none⟩) n n, vs, vq] 83 (0, 0))
  row : Ov W R n ro
  place : Ov W L n pl
  class' : Ov W C n cl
  spans : W.ownsRow lo 97 2 vs sp.length (spV sp)
  queue : OwnI W lo vq (natI q)
  gs : ∀ k, vs.ownBlock = some k → gapF lo l0 h0 j0 j1 k
  gq : ∀ k, vq.ownBlock = some k → gapF lo l0 h0 j0 j1 k
  ne : P ≠ R ∧ P ≠ L ∧ P ≠ C ∧ R ≠ L ∧ R ≠ C ∧ L ≠ C
  g4 : gapF lo l0 h0 j0 j1 P ∧ gapF lo l0 h0 j0 j1 R ∧ gapF lo l0 h0 j0 j1 L ∧ gapF lo l0 h0 j0 j1 C
  nq : ∀ k, vq.ownBlock = some k → k ≠ R ∧ k ≠ L ∧ k ≠ C
  big : h0 ≤ W.heap.size
  lol : lo ≤ l0
  bj : j1 ≤ W.heap.size
theorem own_ty {W : World} {lo t s n k : Nat} {v : Value} {xs : List Value} (h : W.ownsRow lo t s v n xs) (hk : v.ownBlock = some k) : ∃ cs, W.heap[k]? = some (.cells cs t (0, 0)) := by
  rcases h.2 with ⟨rfl, _⟩ | ⟨g, cap, cur, rfl, _, hr, _⟩
  · cases hk
  · have : g = k := by simpa [Value.ownBlock] using hk
    subst this
    exact ⟨_, hr⟩
theorem own_neq {W : World} {lo t s n lo' t' s' n' k k' : Nat} {v v' : Value} {xs xs' : List Value} (h : W.ownsRow lo t s v n xs) (h' : W.ownsRow lo' t' s' v' n' xs') (hk : v.ownBlock = some k) (hk' : v'.ownBlock = some k') (ht : t ≠ t') : k ≠ k' := by
  intro e
  subst e
  obtain ⟨cs, h1⟩ := own_ty h hk
  obtain ⟨cs', h2⟩ := own_ty h' hk'
  rw [h1] at h2
  injection h2 with h2
  injection h2 with _ h2
  exact ht h2
theorem ov_ty {W : World} {G n : Nat} {p : Nat → Nat} {k : Nat} {cs : Array Value} {t : TypeId} (h : Ov W G n p) (hk : W.heap[k]? = some (.cells cs t (0, 0))) (ht : t ≠ 3) : k ≠ G := by
  intro e
  subst e
  rw [h.blk] at hk
  injection hk with hk
  injection hk with _ hk
  exact ht hk.symm
section
variable {W W' : World} {lo l0 h0 j0 j1 P R L C n : Nat} {ro pl cl : Nat → Nat} {vs vq : Value} {sp : List (Nat × Nat)} {q : List Nat}
theorem Pt.cell (h : Pt W lo l0 h0 j0 j1 P R L C n ro pl cl vs sp vq q) : W.cell? ⟨P, 0, none⟩ = some (.slice (some ⟨R, 0, none⟩) n n) ∧ W.cell? ⟨P, 1, none⟩ = some (.slice (some ⟨L, 0, none⟩) n n) ∧ W.cell? ⟨P, 2, none⟩ = some (.slice (some ⟨C, 0, none⟩) n n) ∧ W.cell? ⟨P, 3, none⟩ = some vs ∧ W.cell? ⟨P, 4, none⟩ = some vq := by
  refine ⟨?_, ?_, ?_, ?_, ?_⟩ <;> (rw [cell_of_row _ _ _ _ _ _ h.blk]; rfl)
theorem Pt.frozen (h : Pt W lo l0 h0 j0 j1 P R L C n ro pl cl vs sp vq q) (o : Nat) : W.frozen? ⟨P, o, none⟩ = false := by simp [World.frozen?, h.blk]
theorem Pt.lt (h : Pt W lo l0 h0 j0 j1 P R L C n ro pl cl vs sp vq q) : P < W.heap.size ∧ R < W.heap.size ∧ L < W.heap.size ∧ C < W.heap.size := ⟨(Array.getElem?_eq_some_iff.1 h.blk).1, h.row.lt, h.place.lt, h.class'.lt⟩
/-- Where spans lie. -/
theorem Pt.span (h : Pt W lo l0 h0 j0 j1 P R L C n ro pl cl vs sp vq q) {k : Nat} (hk : k < sp.length) : ∃ g c, vs = .slice (some ⟨g, 0, none⟩) sp.length c ∧ W.cell? ⟨g, k * 2, none⟩ = some (.int .i64 ((spF sp k).1 : Int)) ∧ W.cell? ⟨g, k * 2 + 1, none⟩ = some (.int .i64 ((spF sp k).2 : Int)) ∧ (∀ o, W.frozen? ⟨g, o, none⟩ = false) ∧ vs.ownBlock = some g := by
  have h0 := h.spans
  rcases h.spans.2 with ⟨e, hn⟩ | ⟨g, cap, cur, e, hg, hr, hc, _⟩
  · omega
  · subst e
    obtain ⟨m0, m1⟩ := spV_at sp k hk
    have c0 := World.ownsRow.cellAt h0 (k * 2) (by omega)
    have c1 := World.ownsRow.cellAt h0 (k * 2 + 1) (by omega)
    exact ⟨g, cap, rfl, c0.trans m0, c1.trans m1, fun o => by simp [World.frozen?, hr], rfl⟩
theorem Pt.past (h : Pt W lo l0 h0 j0 j1 P R L C n ro pl cl vs sp vq q) (hb : Below W.heap.size W W') : Pt W' lo l0 h0 j0 j1 P R L C n ro pl cl vs sp vq q :=
  ⟨(hb.block _ h.lt.1).trans h.blk, h.row.keep (hb.block _ h.lt.2.1), h.place.keep (hb.block _ h.lt.2.2.1), h.class'.keep (hb.block _ h.lt.2.2.2), own_blk h.spans (fun k hk => hb.block _ (World.ownsRow.lt h.spans k hk).2), own_blk h.queue (fun k hk => hb.block _ (World.ownsRow.lt h.queue k hk).2), h.gs, h.gq, h.ne, h.g4, h.nq, Nat.le_trans h.big hb.size, h.lol, Nat.le_trans h.bj hb.size⟩
/-- The world is another one where none of the parts lies. -/
theorem Pt.only {S : Nat → Prop} (h : Pt W lo l0 h0 j0 j1 P R L C n ro pl cl vs sp vq q) (hb : Only W W' S) (hS : ∀ k, S k → ¬ gapF lo l0 h0 j0 j1 k) : Pt W' lo l0 h0 j0 j1 P R L C n ro pl cl vs sp vq q := by
  obtain ⟨g1, g2, g3, g4⟩ := h.g4
  exact ⟨(hb.block _ h.lt.1 (fun s => hS _ s g1)).trans h.blk, h.row.keep (hb.block _ h.lt.2.1 (fun s => hS _ s g2)), h.place.keep (hb.block _ h.lt.2.2.1 (fun s => hS _ s g3)), h.class'.keep (hb.block _ h.lt.2.2.2 (fun s => hS _ s g4)), own_blk h.spans (fun k hk => hb.block _ (World.ownsRow.lt h.spans k hk).2 (fun s => hS _ s (h.gs k hk))), own_blk h.queue (fun k hk => hb.block _ (World.ownsRow.lt h.queue k hk).2 (fun s => hS _ s (h.gq k hk))), h.gs, h.gq, h.ne, h.g4, h.nq, Nat.le_trans h.big hb.size, h.lol, Nat.le_trans h.bj hb.size⟩
/-- Another gap, that lies behind all that there is. -/
theorem Pt.gap (h : Pt W lo l0 h0 j0 j1 P R L C n ro pl cl vs sp vq q) (hb : Below W.heap.size W W') : Pt W' lo W.heap.size W'.heap.size j0 j1 P R L C n ro pl cl vs sp vq q := by
  obtain ⟨g1, g2, g3, g4⟩ := h.g4
  obtain ⟨l1, l2, l3, l4⟩ := h.lt
  have h2 := h.past hb
  exact ⟨h2.blk, h2.row, h2.place, h2.class', h2.spans, h2.queue, fun k hk => ⟨(h.gs k hk).1, .inl (World.ownsRow.lt h.spans k hk).2, (h.gs k hk).2.2⟩, fun k hk => ⟨(h.gq k hk).1, .inl (World.ownsRow.lt h.queue k hk).2, (h.gq k hk).2.2⟩, h.ne, ⟨⟨g1.1, .inl l1, g1.2.2⟩, ⟨g2.1, .inl l2, g2.2.2⟩, ⟨g3.1, .inl l3, g3.2.2⟩, ⟨g4.1, .inl l4, g4.2.2⟩⟩, h.nq, Nat.le_refl _, by have := g1.1; omega, h2.bj⟩
/-- Blocks that were made meanwhile are none of the parts'. -/
theorem Pt.setJ (h : Pt W lo l0 h0 j0 j1 P R L C n ro pl cl vs sp vq q) (hb : Below W.heap.size W W') : Pt W' lo l0 h0 W.heap.size W'.heap.size P R L C n ro pl cl vs sp vq q := by
  obtain ⟨g1, g2, g3, g4⟩ := h.g4
  obtain ⟨l1, l2, l3, l4⟩ := h.lt
  have h2 := h.past hb
  exact ⟨h2.blk, h2.row, h2.place, h2.class', h2.spans, h2.queue, fun k hk => ⟨(h.gs k hk).1, (h.gs k hk).2.1, .inl (World.ownsRow.lt h.spans k hk).2⟩, fun k hk => ⟨(h.gq k hk).1, (h.gq k hk).2.1, .inl (World.ownsRow.lt h.queue k hk).2⟩, h.ne, ⟨⟨g1.1, g1.2.1, .inl l1⟩, ⟨g2.1, g2.2.1, .inl l2⟩, ⟨g3.1, g3.2.1, .inl l3⟩, ⟨g4.1, g4.2.1, .inl l4⟩⟩, h.nq, h2.big, h.lol, Nat.le_refl _⟩
/-- The world is another one from a block on that lies behind all parts. -/
structure PtLow (z P R L C : Nat) (vs vq : Value) : Prop where
  b4 : P < z ∧ R < z ∧ L < z ∧ C < z
  s : ∀ k, vs.ownBlock = some k → k < z
  q : ∀ k, vq.ownBlock = some k → k < z
theorem Pt.low (h : Pt W lo l0 h0 j0 j1 P R L C n ro pl cl vs sp vq q) : PtLow W.heap.size P R L C vs vq := ⟨h.lt, fun k hk => (World.ownsRow.lt h.spans k hk).2, fun k hk => (World.ownsRow.lt h.queue k hk).2⟩
theorem Pt.far {z : Nat} (h : Pt W lo l0 h0 j0 j1 P R L C n ro pl cl vs sp vq q) (hl : PtLow z P R L C vs vq) (ho : Only W W' (fun b => z ≤ b)) : Pt W' lo l0 h0 j0 j1 P R L C n ro pl cl vs sp vq q := by
  obtain ⟨m1, m2, m3, m4⟩ := hl.b4
  exact ⟨(ho.block _ h.lt.1 (by omega)).trans h.blk, h.row.keep (ho.block _ h.lt.2.1 (by omega)), h.place.keep (ho.block _ h.lt.2.2.1 (by omega)), h.class'.keep (ho.block _ h.lt.2.2.2 (by omega)), own_blk h.spans (fun k hk => ho.block _ (World.ownsRow.lt h.spans k hk).2 (by have := hl.s k hk; omega)), own_blk h.queue (fun k hk => ho.block _ (World.ownsRow.lt h.queue k hk).2 (by have := hl.q k hk; omega)), h.gs, h.gq, h.ne, h.g4, h.nq, Nat.le_trans h.big ho.size, h.lol, Nat.le_trans h.bj ho.size⟩
/-- The row and the places have changed. -/
theorem Pt.rows (h : Pt W lo l0 h0 j0 j1 P R L C n ro pl cl vs sp vq q) {ro' pl' : Nat → Nat} (ho : Only W W' (fun k => k = R ∨ k = L)) (h1 : Ov W' R n ro') (h2 : Ov W' L n pl') : Pt W' lo l0 h0 j0 j1 P R L C n ro' pl' cl vs sp vq q := by
  obtain ⟨n1, n2, n3, n4, n5, n6⟩ := h.ne
  have ks : ∀ k, vs.ownBlock = some k → ¬ (k = R ∨ k = L) := fun k hk => by
    obtain ⟨cs, e⟩ := own_ty h.spans hk
    have a1 := ov_ty h.row e (by decide)
    have a2 := ov_ty h.place e (by decide)
    omega
  exact ⟨(ho.block _ h.lt.1 (by omega)).trans h.blk, h1, h2, h.class'.keep (ho.block _ h.lt.2.2.2 (by omega)), own_blk h.spans (fun k hk => ho.block _ (World.ownsRow.lt h.spans k hk).2 (ks k hk)), own_blk h.queue (fun k hk => ho.block _ (World.ownsRow.lt h.queue k hk).2 (by have := h.nq k hk; omega)), h.gs, h.gq, h.ne, h.g4, h.nq, Nat.le_trans h.big ho.size, h.lol, Nat.le_trans h.bj ho.size⟩
end
end Go.Proofs.YtjemjccgfgijiaaDoor
namespace Go.Proofs.YtjemjccgfgijiaaDoor
open Go.RowKit Go.Shelf
set_option maxRecDepth 10000 in
set_option maxHeartbeats 800000 in
theorem size_any (a b : Nat) (w : World) (h : a ≤ b) (hb : b ≤ 100000000000) : Calls Tryd.prog 72 #[.agg #[.int .i64 (a : Int), .int .i64 (b : Int)]] w fun e w' => e = .returned (.int .i64 ((b - a : Nat) : Int)) ∧ Below w.heap.size w w' := by
  obtain ⟨w0, hw0⟩ : ∃ w0, w0 = w.alloc (.cells #[.int .i64 (a : Int), .int .i64 (b : Int)] 97) := ⟨_, rfl⟩
  have HB0 : Hid (Below w.heap.size w w0) := hid0 (by rw [hw0]; exact (Below.refl _ _).alloc (Nat.le_refl _) _)
  have hX0 : w0.heap[w.heap.size]? = some (.cells #[.int .i64 (a : Int), .int .i64 (b : Int)] 97 (0, 0)) := by rw [hw0]; exact heap_alloc_new w _
  have x0 : w0.cell? ⟨w.heap.size, 0, none⟩ = some (.int .i64 (a : Int)) := by rw [cell_of_row _ _ _ _ _ _ hX0]; rfl
  have x1 : w0.cell? ⟨w.heap.size, 1, none⟩ = some (.int .i64 (b : Int)) := by rw [cell_of_row _ _ _ _ _ _ hX0]; rfl
  obtain ⟨d, hd⟩ : ∃ d : Nat, d = b - a := ⟨_, rfl⟩
  have hdI : (b : Int) - (a : Int) = (d : Int) := by omega
  have hdW : IntKind.i64.wrap (d : Int) = (d : Int) := by simp [IntKind.wrap, IntKind.bits, IntKind.signed]; omega
  rw [← hd]
  have hfold := hw0.symm
  clear hw0 hX0 hd h hb
  go_enter Tryd.func72, Tryd.ntmps72
  go_wp2
  go_ret
  exact ⟨rfl, HB0.out⟩
set_option maxRecDepth 10000 in
set_option maxHeartbeats 1600000 in
theorem swap_any (lo l0 h0 j0 j1 P R L C n i j : Nat) (ro pl cl : Nat → Nat) (vs : Value) (sp : List (Nat × Nat)) (vq : Value) (q : List Nat) (w : World) (hp : Pt w lo l0 h0 j0 j1 P R L C n ro pl cl vs sp vq q) (hi : i < n) (hj : j < n) (ha : ro i < n) (hb : ro j < n) (_hn : n ≤ 100000000000) :
    Calls Tryd.prog 71 #[.pointer (some ⟨P, 0, none⟩), .int .i64 (i : Int), .int .i64 (j : Int)] w fun e w' => e = .returned (.tuple #[]) ∧ Pt w' lo l0 h0 j0 j1 P R L C n (swR ro i j) (swP ro pl i j) cl vs sp vq q ∧ Only w w' (fun k => k = R ∨ k = L) ∧ w'.heap.size = w.heap.size := by
  obtain ⟨c0, c1, _, _, _⟩ := hp.cell
  have r1 := hp.row.cell hi
  have r2 := hp.row.cell hj
  have hiI : (i : Int) < (n : Int) := by omega
  have hjI : (j : Int) < (n : Int) := by omega
  have hi0 : (0 : Int) ≤ (i : Int) := by omega
  have hj0 : (0 : Int) ≤ (j : Int) := by omega
  have HP := hid0 hp
  obtain ⟨n1, n2, n3, n4, n5, n6⟩ := hp.ne
  clear hp
  obtain ⟨a, hae⟩ : ∃ a, a = ro i := ⟨_, rfl⟩
  obtain ⟨b, hbe⟩ : ∃ b, b = ro j := ⟨_, rfl⟩
  rw [← hae] at r1 ha
  rw [← hbe] at r2 hb
  have haI : (a : Int) < (n : Int) := by omega
  have hbI : (b : Int) < (n : Int) := by omega
  have ha0 : (0 : Int) ≤ (a : Int) := by omega
  have hb0 : (0 : Int) ≤ (b : Int) := by omega
  have HAe := hid0 hae
  have HBe := hid0 hbe
  clear hae hbe
  go_enter Tryd.func71, Tryd.ntmps71
  go_wp2
  go_quiet ((fail))
  have hP1 : Pt (w.drewN (nq + 1)) lo l0 h0 j0 j1 P R L C n ro pl cl vs sp vq q := HP.out.past (below_drew' (Below.refl _ _) _)
  obtain ⟨v1, hv1⟩ : ∃ v1, v1 = (w.drewN (nq + 1)).setCell ⟨R, i, none⟩ (.int .i64 (b : Int)) := ⟨_, rfl⟩
  have o1 : Ov v1 R n (putF ro i b) := by rw [hv1]; exact hP1.row.put b
  have k1 : Oth1 (w.drewN (nq + 1)) v1 R := by rw [hv1]; exact Oth1.setCell _ _ _ _
  obtain ⟨v2, hv2⟩ : ∃ v2, v2 = v1.setCell ⟨R, j, none⟩ (.int .i64 (a : Int)) := ⟨_, rfl⟩
  have o2 : Ov v2 R n (swR ro i j) := by rw [hv2, swR, ← HAe.out, ← HBe.out]; exact o1.put a
  have k2 : Oth1 (w.drewN (nq + 1)) v2 R := k1.trans (by rw [hv2]; exact Oth1.setCell _ _ _ _)
  have f1 : (w.drewN (nq + 1)).frozen? ⟨R, i, none⟩ = false := hP1.row.frozen i
  have f2 : v1.frozen? ⟨R, j, none⟩ = false := o1.frozen j
  have e2 := o1.cell hj
  have p1 : Ov v2 L n pl := hP1.place.keep (k2.oth _ (fun e => n4 e.symm))
  obtain ⟨v3, hv3⟩ : ∃ v3, v3 = v2.drew.setCell ⟨L, a, none⟩ (.int .i64 (j : Int)) := ⟨_, rfl⟩
  have p3 : Ov v3 L n (putF pl a j) := by rw [hv3]; exact (p1.keep rfl : Ov v2.drew L n pl).put j
  have k3 : Oth1 v2.drew v3 L := by rw [hv3]; exact Oth1.setCell _ _ _ _
  obtain ⟨v4, hv4⟩ : ∃ v4, v4 = v3.setCell ⟨L, b, none⟩ (.int .i64 (i : Int)) := ⟨_, rfl⟩
  have p4 : Ov v4 L n (swP ro pl i j) := by rw [hv4, swP, ← HAe.out, ← HBe.out]; exact p3.put i
  have k4 : Oth1 v2.drew v4 L := k3.trans (by rw [hv4]; exact Oth1.setCell _ _ _ _)
  have g1 : v2.drew.frozen? ⟨L, a, none⟩ = false := (p1.keep rfl : Ov v2.drew L n pl).frozen a
  have g2 : v3.frozen? ⟨L, b, none⟩ = false := p3.frozen b
  have d1 : v2.drew.cell? ⟨P, 1, none⟩ = some (.slice (some ⟨L, 0, none⟩) n n) := (k2.cell n1).trans c1
  have d2 := (p1.keep rfl : Ov v2.drew L n pl).cell ha
  have d3 := p3.cell hb
  have HO : Hid (Only w v4 (fun k => k = R ∨ k = L)) := hid0 ⟨by rw [k4.os]; exact k2.os, by rw [k4.tape]; exact k2.tape, by rw [k4.output]; exact k2.output, by rw [k4.size]; show _ ≤ v2.heap.size; rw [k2.size]; exact Nat.le_refl _, fun k _ hk => (k4.oth k (fun e => hk (.inr e))).trans (k2.oth k (fun e => hk (.inl e)))⟩
  have HZ : Hid (v4.heap.size = w.heap.size) := hid0 (by rw [k4.size]; exact k2.size)
  have HPt : Hid (Pt v4 lo l0 h0 j0 j1 P R L C n (swR ro i j) (swP ro pl i j) cl vs sp vq q) := hid0 (HP.out.rows HO.out (o2.keep (k4.oth _ n4)) p4)
  have q1 := hv1.symm
  have q2 := hv2.symm
  have q3 := hv3.symm
  have q4 := hv4.symm
  clear hv1 hv2 hv3 hv4 hP1 o1 k1 o2 k2 p1 p3 k3 p4 k4
  go_wp2
  go_region
  go_wp2
  go_region
  go_wp2
  go_returns
  exact ⟨rfl, HPt.out, HO.out, HZ.out⟩
end Go.Proofs.YtjemjccgfgijiaaDoor
namespace Go.Proofs.YtjemjccgfgijiaaDoor
open Go.RowKit Go.Shelf
section
variable {W W' w2 : World} {lo l0 h0 j0 j1 P R L C n : Nat} {ro pl cl : Nat → Nat} {vs vq v' : Value} {sp : List (Nat × Nat)} {q : List Nat}
theorem blk_ne {W : World} {a b : Nat} {ca cb : Array Value} {ta tb : TypeId} (ha : W.heap[a]? = some (.cells ca ta (0, 0))) (hb : W.heap[b]? = some (.cells cb tb (0, 0))) (ht : ta ≠ tb) : a ≠ b := by
  intro e
  subst e
  rw [ha] at hb
  injection hb with hb
  injection hb with _ hb
  exact ht hb
/-- Nothing but the block of the spans has changed. -/
theorem Pt.spansTo (h : Pt W lo l0 h0 j0 j1 P R L C n ro pl cl vs sp vq q) {sp' : List (Nat × Nat)} (ho : Only W W' (fun k => vs.ownBlock = some k)) (_hown : W'.ownsRow lo 97 2 v' sp'.length (spV sp')) :
    W'.heap[P]? = W.heap[P]? ∧ Ov W' R n ro ∧ Ov W' L n pl ∧ Ov W' C n cl ∧ OwnI W' lo vq (natI q) := by
  have key : ∀ {b : Nat} {cb : Array Value} {tb : TypeId}, W.heap[b]? = some (.cells cb tb (0, 0)) → tb ≠ 97 → W'.heap[b]? = W.heap[b]? := fun {b cb tb} hb ht => ho.block _ (Array.getElem?_eq_some_iff.1 hb).1 (fun e => by
    obtain ⟨cs, hc⟩ := own_ty h.spans e
    exact blk_ne hb hc ht rfl)
  refine ⟨key h.blk (by decide), h.row.keep (key h.row.blk (by decide)), h.place.keep (key h.place.blk (by decide)), h.class'.keep (key h.class'.blk (by decide)), own_blk h.queue (fun k hk => ?_)⟩
  obtain ⟨cs, hc⟩ := own_ty h.queue hk
  exact key hc (by decide)
theorem Pt.setSpan {g c : Nat} (h : Pt W lo l0 h0 j0 j1 P R L C n ro pl cl (.slice (some ⟨g, 0, none⟩) sp.length c) sp vq q) {k : Nat} (hk : k < sp.length) (x : Nat × Nat) :
    Pt ((W.setCell ⟨g, k * 2, none⟩ (.int .i64 (x.1 : Int))).setCell ⟨g, k * 2 + 1, none⟩ (.int .i64 (x.2 : Int))) lo l0 h0 j0 j1 P R L C n ro pl cl (.slice (some ⟨g, 0, none⟩) sp.length c) (sp.set k x) vq q ∧ Only W ((W.setCell ⟨g, k * 2, none⟩ (.int .i64 (x.1 : Int))).setCell ⟨g, k * 2 + 1, none⟩ (.int .i64 (x.2 : Int))) (fun b => b = g) := by
  have h1 := World.ownsRow.stored h.spans (k * 2) (.int .i64 (x.1 : Int))
  have h2 := World.ownsRow.stored h1.1 (k * 2 + 1) (.int .i64 (x.2 : Int))
  have ho : Only W ((W.setCell ⟨g, k * 2, none⟩ (.int .i64 (x.1 : Int))).setCell ⟨g, k * 2 + 1, none⟩ (.int .i64 (x.2 : Int))) (fun b => b = g) := (Only.setCell _ _ _ _).trans (Only.setCell _ _ _ _) (fun _ h => .inl h)
  have h3 := h2.1
  rw [← spV_set sp k hk x] at h3
  have h3' : ((W.setCell ⟨g, k * 2, none⟩ (.int .i64 (x.1 : Int))).setCell ⟨g, k * 2 + 1, none⟩ (.int .i64 (x.2 : Int))).ownsRow lo 97 2 (.slice (some ⟨g, 0, none⟩) sp.length c) (sp.set k x).length (spV (sp.set k x)) := by rw [List.length_set]; exact h3
  obtain ⟨e1, e2, e3, e4, e5⟩ := h.spansTo (ho.mono (fun b hb => by rw [hb]; rfl)) h3'
  exact ⟨⟨e1.trans h.blk, e2, e3, e4, h3', e5, h.gs, h.gq, h.ne, h.g4, h.nq, Nat.le_trans h.big ho.size, h.lol, Nat.le_trans h.bj ho.size⟩, ho⟩
/-- One more span. -/
theorem Pt.addSpan (h : Pt W lo l0 h0 j0 j1 P R L C n ro pl cl vs sp vq q) (x : Nat × Nat) (ho : Only W w2 (fun k => vs.ownBlock = some k)) (hown : w2.ownsRow lo 97 2 v' (sp.length + 1) (spV sp ++ [.int .i64 (x.1 : Int), .int .i64 (x.2 : Int)])) (hat : v'.ownBlock = vs.ownBlock ∨ ∃ z, W.heap.size ≤ z ∧ v'.ownBlock = some z) :
    Pt (w2.setCell ⟨P, 3, none⟩ v') lo l0 h0 j0 j1 P R L C n ro pl cl v' (sp ++ [x]) vq q ∧ w2.cell? ⟨P, 3, none⟩ = some vs ∧ w2.frozen? ⟨P, 3, none⟩ = false ∧ Only W (w2.setCell ⟨P, 3, none⟩ v') (fun k => vs.ownBlock = some k ∨ k = P) := by
  have hl : (sp ++ [x]).length = sp.length + 1 := by simp
  have hown' : w2.ownsRow lo 97 2 v' (sp ++ [x]).length (spV (sp ++ [x])) := by rw [hl, spV_snoc]; exact hown
  obtain ⟨e1, e2, e3, e4, e5⟩ := h.spansTo ho hown'
  have hP := e1.trans h.blk
  obtain ⟨n1, n2, n3, n4, n5, n6⟩ := h.ne
  have key : ∀ b, b ≠ P → (w2.setCell ⟨P, 3, none⟩ v').heap[b]? = w2.heap[b]? := fun b hb => Below.heap_setCell _ _ _ _ hb
  have hsn : ∀ k, v'.ownBlock = some k → k ≠ P := fun k hk => by
    obtain ⟨cs, hc⟩ := own_ty hown' hk
    exact blk_ne hc hP (by decide)
  have hqn : ∀ k, vq.ownBlock = some k → k ≠ P := fun k hk => by
    obtain ⟨cs, hc⟩ := own_ty e5 hk
    exact blk_ne hc hP (by decide)
  refine ⟨⟨heap_setCell_same _ _ 3 _ _ v' hP, e2.keep (key _ (Ne.symm n1)), e3.keep (key _ (Ne.symm n2)), e4.keep (key _ (Ne.symm n3)), own_blk hown' (fun k hk => key _ (hsn k hk)), own_blk e5 (fun k hk => key _ (hqn k hk)), fun k hk => ?_, h.gq, h.ne, h.g4, h.nq, by have := h.big; have := ho.size; simp [World.setCell]; omega, h.lol, by have := h.bj; have := ho.size; simp [World.setCell]; omega⟩, by rw [cell_of_row _ _ _ _ _ _ hP]; rfl, by simp [World.frozen?, hP], ?_⟩
  · rcases hat with e | ⟨z, hz, e⟩
    · exact h.gs k (by rw [← e]; exact hk)
    · rw [e] at hk
      cases hk
      have := h.big
      have := h.lol
      have := h.g4.1.1
      have := h.lt.1
      have := h.bj
      exact ⟨by omega, .inr (by omega), .inr (by omega)⟩
  · exact (ho.mono (T := fun k => vs.ownBlock = some k ∨ k = P) (fun k hk => .inl hk)).trans (Only.setCell _ _ _ _) (fun k hk => .inl (.inr hk))
/-- One more in the queue. -/
theorem Pt.addQueue (h : Pt W lo l0 h0 j0 j1 P R L C n ro pl cl vs sp vq q) (x : Nat) (ho : Only W w2 (fun k => vq.ownBlock = some k)) (hown : w2.ownsRow lo 3 1 v' (q.length + 1) ((natI q).map (Value.int .i64) ++ [.int .i64 (x : Int)])) (hat : v'.ownBlock = vq.ownBlock ∨ ∃ z, W.heap.size ≤ z ∧ v'.ownBlock = some z) :
    Pt (w2.setCell ⟨P, 4, none⟩ v') lo l0 h0 j0 j1 P R L C n ro pl cl vs sp v' (q ++ [x]) ∧ w2.cell? ⟨P, 4, none⟩ = some vq ∧ w2.frozen? ⟨P, 4, none⟩ = false ∧ Only W (w2.setCell ⟨P, 4, none⟩ v') (fun k => vq.ownBlock = some k ∨ k = P) := by
  have hown' : OwnI w2 lo v' (natI (q ++ [x])) := by
    unfold OwnI
    rw [natI_len, List.length_append, List.length_singleton]
    have : natI (q ++ [x]) = natI q ++ [(x : Int)] := by simp [natI]
    rw [this, List.map_append]
    exact hown
  obtain ⟨n1, n2, n3, n4, n5, n6⟩ := h.ne
  have kq : ∀ {b : Nat}, b < W.heap.size → (∀ k, vq.ownBlock = some k → b ≠ k) → w2.heap[b]? = W.heap[b]? := fun {b} hb hne => ho.block b hb (fun e => hne b e rfl)
  have tq : ∀ {b : Nat} {cb : Array Value} {tb : TypeId}, W.heap[b]? = some (.cells cb tb (0, 0)) → tb ≠ 3 → w2.heap[b]? = W.heap[b]? := fun {b cb tb} hb ht => kq (Array.getElem?_eq_some_iff.1 hb).1 (fun k hk => by
    obtain ⟨cs, hc⟩ := own_ty h.queue hk
    exact blk_ne hb hc ht)
  have hP := (tq h.blk (by decide)).trans h.blk
  have e2 := h.row.keep (kq h.lt.2.1 (fun k hk => Ne.symm (h.nq k hk).1))
  have e3 := h.place.keep (kq h.lt.2.2.1 (fun k hk => Ne.symm (h.nq k hk).2.1))
  have e4 := h.class'.keep (kq h.lt.2.2.2 (fun k hk => Ne.symm (h.nq k hk).2.2))
  have e5 : w2.ownsRow lo 97 2 vs sp.length (spV sp) := own_blk h.spans (fun k hk => by
    obtain ⟨cs, hc⟩ := own_ty h.spans hk
    exact tq hc (by decide))
  have key : ∀ b, b ≠ P → (w2.setCell ⟨P, 4, none⟩ v').heap[b]? = w2.heap[b]? := fun b hb => Below.heap_setCell _ _ _ _ hb
  have hsn : ∀ k, vs.ownBlock = some k → k ≠ P := fun k hk => by
    obtain ⟨cs, hc⟩ := own_ty e5 hk
    exact blk_ne hc hP (by decide)
  have hqn : ∀ k, v'.ownBlock = some k → k ≠ P := fun k hk => by
    obtain ⟨cs, hc⟩ := own_ty hown' hk
    exact blk_ne hc hP (by decide)
  obtain ⟨l1, l2, l3, l4⟩ := h.lt
  refine ⟨⟨heap_setCell_same _ _ 4 _ _ v' hP, e2.keep (key _ (Ne.symm n1)), e3.keep (key _ (Ne.symm n2)), e4.keep (key _ (Ne.symm n3)), own_blk e5 (fun k hk => key _ (hsn k hk)), own_blk hown' (fun k hk => key _ (hqn k hk)), h.gs, fun k hk => ?_, h.ne, h.g4, fun k hk => ?_, by have := h.big; have := ho.size; simp [World.setCell]; omega, h.lol, by have := h.bj; have := ho.size; simp [World.setCell]; omega⟩, by rw [cell_of_row _ _ _ _ _ _ hP]; rfl, by simp [World.frozen?, hP], ?_⟩
  · rcases hat with e | ⟨z, hz, e⟩
    · exact h.gq k (by rw [← e]; exact hk)
    · rw [e] at hk
      cases hk
      have := h.big
      have := h.g4.1.1
      have := h.bj
      exact ⟨by omega, .inr (by omega), .inr (by omega)⟩
  · rcases hat with e | ⟨z, hz, e⟩
    · exact h.nq k (by rw [← e]; exact hk)
    · rw [e] at hk
      cases hk
      omega
  · exact (ho.mono (T := fun k => vq.ownBlock = some k ∨ k = P) (fun k hk => .inl hk)).trans (Only.setCell _ _ _ _) (fun k hk => .inl (.inr hk))
/-- A class is another. -/
theorem Pt.setClass (h : Pt W lo l0 h0 j0 j1 P R L C n ro pl cl vs sp vq q) (s k : Nat) : Pt (W.setCell ⟨C, s, none⟩ (.int .i64 (k : Int))) lo l0 h0 j0 j1 P R L C n ro pl (putF cl s k) vs sp vq q := by
  obtain ⟨n1, n2, n3, n4, n5, n6⟩ := h.ne
  have key : ∀ b, b ≠ C → (W.setCell ⟨C, s, none⟩ (.int .i64 (k : Int))).heap[b]? = W.heap[b]? := fun b hb => Below.heap_setCell _ _ _ _ hb
  exact ⟨(key _ n3).trans h.blk, h.row.keep (key _ n5), h.place.keep (key _ n6), h.class'.put k, own_blk h.spans (fun b hb => key _ (by
    obtain ⟨cs, hc⟩ := own_ty h.spans hb
    exact blk_ne hc h.class'.blk (by decide))), own_blk h.queue (fun b hb => key _ (h.nq b hb).2.2), h.gs, h.gq, h.ne, h.g4, h.nq, by have := h.big; simp [World.setCell]; omega, h.lol, by have := h.bj; simp [World.setCell]; omega⟩
theorem Pt.congr (h : Pt W lo l0 h0 j0 j1 P R L C n ro pl cl vs sp vq q) {cl' : Nat → Nat} (e : ∀ s, s < n → cl s = cl' s) : Pt W lo l0 h0 j0 j1 P R L C n ro pl cl' vs sp vq q := by
  have e4 : Ov W C n cl' := ⟨by
    have : ovF n cl = ovF n cl' := by
      unfold ovF
      exact List.map_congr_left (fun s hs => by rw [e s (List.mem_range.1 hs)])
    rw [← this]
    exact h.class'.blk⟩
  exact ⟨h.blk, h.row, h.place, e4, h.spans, h.queue, h.gs, h.gq, h.ne, h.g4, h.nq, h.big, h.lol, h.bj⟩
/-- All of it lies in the gap's outside. -/
theorem Pt.gap4 (h : Pt W lo l0 h0 j0 j1 P R L C n ro pl cl vs sp vq q) : ∀ k, vs.ownBlock = some k ∨ vq.ownBlock = some k ∨ k = P ∨ k = C → gapF lo l0 h0 j0 j1 k := by
  rintro k (h1 | h1 | rfl | rfl)
  · exact h.gs k h1
  · exact h.gq k h1
  · exact h.g4.1
  · exact h.g4.2.2.2
end
end Go.Proofs.YtjemjccgfgijiaaDoor
namespace Go.Proofs.YtjemjccgfgijiaaDoor
open Go.RowKit
theorem step_append_own_at {P : Program} {ops : Array Oper} {o : Oper} {a : Act} {w : World} {K : Act → World → Prop} {Q : Exit → Act → World → Prop} {E : Prop} (hg : o.guard = none) (s x : Operand) (t : TypeId)
    (ho : o.op = .call { callee := .builtin .append, args := #[s, x], argTypes := #[t, t] })
    (base : Nat) (e : TypeId) (i : TypeInfo) (z : Value) (size bytes : Nat) (ht : P.underlying t = some (.slice e)) (hi : P.info? e = some i) (hz : i.zero = some z)
    (hsize : i.size = size) (hby : i.bytes = bytes) (hzs : z.cells.size = size) (hsz : 0 < size)
    (v : Value) (n : Nat) (xs : List Value) (hs : a.eval s = v) (hown : w.ownsRow base e size v n xs)
    (ad : Addr) (m c : Nat) (news : List Value) (hx : a.eval x = .slice (some ad) m c) (hl : news.length = m * size) (hnews : ∀ j u, news[j]? = some u → w.cell? (ad.add j) = some u) (h1 : ∀ u ∈ news, u.oneCell' = true)
    (h63 : n + m ≤ maxLen) (hbytes : (n + m) * bytes ≤ 140737488355328) (hbase : base ≤ w.heap.size)
    (h : ∀ v' w', w'.ownsRow base e size v' (n + m) (xs ++ news) → w.grownBy w' v.ownBlock → (v'.ownBlock = v.ownBlock ∨ v'.ownBlock = some w.heap.size) → K (a.put o.dst v') w') :
    if Region.wanted o (yielded ops a.tmps) = true then Oper.wp P o a w K Q else E := by
  have hw : Region.wanted o (yielded ops a.tmps) = true := by simp [Region.wanted, hg]
  rw [if_pos hw]
  obtain ⟨v', w', hr, h2, h3, _, h5⟩ := run_append_own_at (P := P) w base t o.type e i z size bytes ht hi hz hsize hby hzs hsz v n xs hown ad m c news hl hnews h1 h63 hbytes hbase
  unfold Oper.wp execOp
  simp only [ho, resolve, invoke, builtin, Sem.run_bind, Sem.run_pure, Result.andThen_ok, List.map_toArray, List.map_cons, List.map_nil, hs, hx, hr]
  exact h v' w' h2 h3 h5
end Go.Proofs.YtjemjccgfgijiaaDoor
namespace Go.Proofs.YtjemjccgfgijiaaDoor
open Go.RowKit Go.Shelf
/-- While the states are put to the end. -/
structure CtI (w W : World) (lo l0 h0 j0 j1 P R L C n : Nat) (ro pl cl : Nat → Nat) (vs : Value) (sp : List (Nat × Nat)) (vq : Value) (q : List Nat) (S : List Nat) (k0 f to t B : Nat) : Prop where
  pt : Pt W lo l0 h0 j0 j1 P R L C n ro pl cl vs sp vq q
  ba : W.heap[w.heap.size]? = some (.cells #[.int .i64 (f : Int), .int .i64 ((to - t : Nat) : Int)] 97 (0, 0))
  bz : B = w.heap.size + 1
  bb : W.heap[B]? = some (.cells #[.int .i64 (to : Int), .int .i64 (to : Int)] 97 (0, 0))
  c1 : Cut1 n S k0 f to t ro pl cl sp
  frm : Only w W (gapF lo l0 h0 j0 j1)
theorem gap_ia {w W : World} {lo l0 h0 j0 j1 : Nat} {a : Option Addr} {l : List Int} (h : IA w a l) (hb : Only w W (gapF lo l0 h0 j0 j1)) (hg : ∀ p, a = some p → l0 ≤ p.block ∧ p.block < h0) : IA W a l := ⟨fun k hk => by
  obtain ⟨b, off, rfl, h1, h2⟩ := h.at' k hk
  have := hg _ rfl
  refine ⟨b, off, rfl, Nat.lt_of_lt_of_le h1 hb.size, (hb.cell (p := ⟨b, off + k, none⟩) h1 (fun s => ?_)).trans h2⟩
  have := s.2.1
  simp only at *
  omega⟩
/-- Two spans more. -/
structure CtB (wq w6 W : World) (M E m1 m2 e1 e2 : Nat) : Prop where
  bm : W.heap[M]? = some (.cells #[.int .i64 (m1 : Int), .int .i64 (m2 : Int)] 97 (0, 0))
  be : W.heap[E]? = some (.cells #[.int .i64 (e1 : Int), .int .i64 (e2 : Int)] 97 (0, 0))
  ne : M ≠ E
  bel : Only w6 W (fun _ => False)
  nw : w6.heap.size ≤ M ∧ w6.heap.size ≤ E
theorem CtB.drew {wq w6 W : World} {M E m1 m2 e1 e2 : Nat} (h : CtB wq w6 W M E m1 m2 e1 e2) : CtB wq w6 W.drew M E m1 m2 e1 e2 := ⟨h.bm, h.be, h.ne, ⟨h.bel.os, h.bel.tape, h.bel.output, h.bel.size, h.bel.block⟩, h.nw⟩
/-- Four spans. -/
structure CtC (W : World) (A B M E a1 a2 b1 b2 m1 m2 e1 e2 : Nat) : Prop where
  ba : W.heap[A]? = some (.cells #[.int .i64 (a1 : Int), .int .i64 (a2 : Int)] 97 (0, 0))
  bb : W.heap[B]? = some (.cells #[.int .i64 (b1 : Int), .int .i64 (b2 : Int)] 97 (0, 0))
  bm : W.heap[M]? = some (.cells #[.int .i64 (m1 : Int), .int .i64 (m2 : Int)] 97 (0, 0))
  be : W.heap[E]? = some (.cells #[.int .i64 (e1 : Int), .int .i64 (e2 : Int)] 97 (0, 0))
  ne : A ≠ B ∧ A ≠ M ∧ A ≠ E ∧ B ≠ M ∧ B ≠ E ∧ M ≠ E
theorem CtC.past {W W' : World} {A B M E a1 a2 b1 b2 m1 m2 e1 e2 : Nat} (h : CtC W A B M E a1 a2 b1 b2 m1 m2 e1 e2) (hb : Below W.heap.size W W') : CtC W' A B M E a1 a2 b1 b2 m1 m2 e1 e2 :=
  ⟨(hb.block _ (Array.getElem?_eq_some_iff.1 h.ba).1).trans h.ba, (hb.block _ (Array.getElem?_eq_some_iff.1 h.bb).1).trans h.bb, (hb.block _ (Array.getElem?_eq_some_iff.1 h.bm).1).trans h.bm, (hb.block _ (Array.getElem?_eq_some_iff.1 h.be).1).trans h.be, h.ne⟩
/-- The greater piece and the lesser one. -/
structure CtD (wq W : World) (lo l0 h0 j0 j1 P R L C n : Nat) (ro pl cl : Nat → Nat) (vs : Value) (sp : List (Nat × Nat)) (vq : Value) (q : List Nat) (M E f u to d1 d2 m1 m2 e1 e2 : Nat) : Prop where
  pt : Pt W lo l0 h0 j0 j1 P R L C n ro pl cl vs sp vq q
  bm : W.heap[M]? = some (.cells #[.int .i64 (m1 : Int), .int .i64 (m2 : Int)] 97 (0, 0))
  be : W.heap[E]? = some (.cells #[.int .i64 (e1 : Int), .int .i64 (e2 : Int)] 97 (0, 0))
  frm : Only wq W (gapF lo l0 h0 j0 j1)
  dis : (d1 < d2 ∧ m1 = u ∧ m2 = to ∧ e1 = f ∧ e2 = u) ∨ (¬ d1 < d2 ∧ m1 = f ∧ m2 = u ∧ e1 = u ∧ e2 = to)
/-- With one span more. -/
structure CtE (wq W : World) (lo l0 h0 j0 j1 P R L C n : Nat) (ro pl cl : Nat → Nat) (vs : Value) (sp : List (Nat × Nat)) (vq : Value) (q : List Nat) (E e1 e2 : Nat) : Prop where
  pt : Pt W lo l0 h0 j0 j1 P R L C n ro pl cl vs sp vq q
  be : W.heap[E]? = some (.cells #[.int .i64 (e1 : Int), .int .i64 (e2 : Int)] 97 (0, 0))
  frm : Only wq W (gapF lo l0 h0 j0 j1)
/-- While the lesser piece gets its number. -/
structure CtG (wq W : World) (lo l0 h0 j0 j1 P R L C n : Nat) (ro pl cl : Nat → Nat) (vs : Value) (sp : List (Nat × Nat)) (q : List Nat) : Prop where
  pt : ∃ vq, Pt W lo l0 h0 j0 j1 P R L C n ro pl cl vs sp vq q ∧ Only wq W (gapF lo l0 h0 j0 j1)
theorem CtG.drew {wq W : World} {lo l0 h0 j0 j1 P R L C n : Nat} {ro pl cl : Nat → Nat} {vs : Value} {sp : List (Nat × Nat)} {q : List Nat} (h : CtG wq W lo l0 h0 j0 j1 P R L C n ro pl cl vs sp q) (k : Nat) : CtG wq (W.drewN k) lo l0 h0 j0 j1 P R L C n ro pl cl vs sp q := by
  obtain ⟨vq, h1, h2⟩ := h.pt
  exact ⟨vq, h1.past (below_drew' (Below.refl _ _) k), ⟨h2.os, h2.tape, h2.output, h2.size, h2.block⟩⟩
theorem seg_succ (ro : Nat → Nat) (a j : Nat) : seg ro a (a + (j + 1)) = seg ro a (a + j) ++ [ro (a + j)] := by
  unfold seg
  rw [show a + (j + 1) - a = j + 1 by omega, show a + j - a = j by omega, List.range_succ, List.map_append]
  rfl
/-- What cut leaves. -/
def CutW (w : World) (lo l0 h0 j0 j1 P R L C n : Nat) (cl : Nat → Nat) (sp : List (Nat × Nat)) (q S : List Nat) (w' : World) : Prop := ∃ ro' pl' cl' vs' sp' vq' add, Pt w' lo l0 h0 j0 j1 P R L C n ro' pl' cl' vs' sp' vq' (q ++ add) ∧ Prt n ro' pl' cl' sp' ∧ CutR n S cl cl' add sp.length sp'.length ∧ Only w w' (gapF lo l0 h0 j0 j1)
set_option maxRecDepth 10000 in
set_option maxHeartbeats 1600000 in
theorem cut_any (lo l0 h0 j0 j1 P R L C n : Nat) (ro pl cl : Nat → Nat) (vs : Value) (sp : List (Nat × Nat)) (vq : Value) (q S : List Nat) (aS : Option Addr) (cS : Nat) (w : World) (hp : Pt w lo l0 h0 j0 j1 P R L C n ro pl cl vs sp vq q) (hr : Prt n ro pl cl sp) (hS : Cuttable n cl S) (ha : IA w aS (natI S)) (hg : ∀ p, aS = some p → l0 ≤ p.block ∧ p.block < h0) (hn : n ≤ 4000000) (hq : q.length ≤ 5000000000000) :
    Calls Tryd.prog 64 #[.pointer (some ⟨P, 0, none⟩), .slice aS S.length cS] w fun e w' => e = .returned (.tuple #[]) ∧ CutW w lo l0 h0 j0 j1 P R L C n cl sp q S w' := by
  obtain ⟨i0, hi, hz0', hz1, hz2⟩ := info_parts infoSp
  obtain ⟨i1, hi1, hy0, hy1, hy2⟩ := info_parts infoInt
  have hSn : S.length ≤ n := nodup_le n S hS.nd hS.lt
  have hSp : 0 < S.length := List.length_pos_iff.2 hS.ne
  have hx0 : S[0] < n := hS.lt _ (List.getElem_mem _)
  obtain ⟨k0, hk0⟩ : ∃ k0, k0 = cl S[0] := ⟨_, rfl⟩
  have hkS : ∀ x ∈ S, cl x = k0 := fun x hx => by rw [hk0]; exact hS.one x hx _ (List.getElem_mem _)
  have hc1 := cut1_zero hr hS hkS
  obtain ⟨f, hf⟩ : ∃ f, f = (spF sp k0).1 := ⟨_, rfl⟩
  obtain ⟨to, hto⟩ : ∃ to, to = (spF sp k0).2 := ⟨_, rfl⟩
  rw [← hf, ← hto] at hc1
  have hkl := hc1.k'
  obtain ⟨z1, z2⟩ := hr.sz k0 hkl
  rw [← hf, ← hto] at z1
  rw [← hto] at z2
  have hspn := hr.few
  obtain ⟨g, cg, rfl, s0, s1, _, _⟩ := hp.span hkl
  rw [← hf] at s0
  rw [← hto] at s1
  obtain ⟨bS, oS, rfl, hbS, dS⟩ := ha.at' 0 (by rw [natI_len]; exact hSp)
  have dS' : w.cell? ⟨bS, oS, none⟩ = some (.int .i64 (S[0] : Int)) := by simpa [natI] using dS
  have dC := hp.class'.cell hx0
  rw [← hk0] at dC
  obtain ⟨c0, c1, c2, c3, c4⟩ := hp.cell
  obtain ⟨x0, hx0e⟩ : ∃ x0, x0 = S[0] := ⟨_, rfl⟩
  rw [← hx0e] at hx0 dS' dC
  have hx0I : (x0 : Int) < (n : Int) := by omega
  have hx00 : (0 : Int) ≤ (x0 : Int) := by omega
  have hkI : (k0 : Int) < (sp.length : Int) := by omega
  have hkI0 : (0 : Int) ≤ (k0 : Int) := by omega
  have hSI : (0 : Int) < (S.length : Int) := by omega
  have HP := hid0 hp
  have HR := hid0 hr
  have HS := hid0 hS
  have HA := hid0 ha
  have HG := hid0 hg
  have HKS := hid0 hkS
  have HC1 := hid0 hc1
  have HF := hid0 (And.intro hf hto)
  clear hp hr hS ha hg hkS hc1 hk0 hx0e hf hto dS hspn
  go_enter Tryd.func64, Tryd.ntmps64
  go_wp2
  go_quiet ((fail))
  have hBq : Below w.heap.size w (w.drewN nq) := below_drew' (Below.refl _ _) nq
  have HPq := hid0 (HP.out.past hBq)
  have HAq := hid0 (HA.out.past hBq)
  have HOq : Hid (∀ W, Only (w.drewN nq) W (gapF lo l0 h0 j0 j1) → Only w W (gapF lo l0 h0 j0 j1)) := hid0 (fun W h => ⟨h.os, h.tape, h.output, h.size, h.block⟩)
  have s0q : (w.drewN nq).cell? ⟨g, k0 * 2, none⟩ = some (.int .i64 (f : Int)) := s0
  have s1q : (w.drewN nq).cell? ⟨g, k0 * 2 + 1, none⟩ = some (.int .i64 (to : Int)) := s1
  have c3q : (w.drewN nq).cell? ⟨P, 3, none⟩ = some (.slice (some ⟨g, 0, none⟩) sp.length cg) := c3
  clear HP HA hBq s0 s1 c3 dS' dC c0 c1 c2 c4 hbS hx0I hx00 hx0
  generalize w.drewN nq = wq at *
  obtain ⟨w1, hw1⟩ : ∃ w1, w1 = wq.alloc (.cells #[.int .i64 (f : Int), .int .i64 (to : Int)] 97) := ⟨_, rfl⟩
  have hsz1 : w1.heap.size = wq.heap.size + 1 := by rw [hw1]; simp
  obtain ⟨w2, hw2⟩ : ∃ w2, w2 = w1.alloc (.cells #[.int .i64 (to : Int), .int .i64 (to : Int)] 97) := ⟨_, rfl⟩
  have hB1 : Below wq.heap.size wq w1 := by rw [hw1]; exact (Below.refl _ _).alloc (Nat.le_refl _) _
  have hB2 : Below wq.heap.size wq w2 := by rw [hw2]; exact hB1.alloc (by omega) _
  have r1 : w1.heap[wq.heap.size]? = some (.cells #[.int .i64 (f : Int), .int .i64 (to : Int)] 97 (0, 0)) := by rw [hw1]; exact heap_alloc_new _ _
  have x1 : w1.cell? ⟨wq.heap.size, 1, none⟩ = some (.int .i64 (to : Int)) := by rw [cell_of_row _ _ _ _ _ _ r1]; rfl
  have HI0 : Hid (CtI wq w2 lo l0 h0 j0 j1 P R L C n ro pl cl (.slice (some ⟨g, 0, none⟩) sp.length cg) sp vq q S k0 f to 0 w1.heap.size) := hid0 ⟨HPq.out.past hB2, by
      rw [hw2, Below.heap_alloc _ _ _ (by omega), r1]; rfl, hsz1, by
      have := heap_alloc_new w1 (.cells #[.int .i64 (to : Int), .int .i64 (to : Int)] 97)
      rw [← hw2] at this
      exact this, HC1.out, Only.ofBelow hB2 _ (fun i a b => by omega)⟩
  have q1 := hw1.symm
  have q2 := hw2.symm
  clear hw1 hw2 hsz1 hB1 hB2 r1
  go_wp2
  clear q1 q2 x1 s0q s1q c3q
  go_loopw [36] (fun i wr => ∃ (k : Nat) (ro' pl' : Nat → Nat), k ≤ S.length ∧ i = .int .i64 (k : Int) ∧ Hid (CtI wq wr lo l0 h0 j0 j1 P R L C n ro' pl' cl (.slice (some ⟨g, 0, none⟩) sp.length cg) sp vq q S k0 f to k w1.heap.size)) (fun i _ => S.length - (intOf i).toNat)
  case atStart => exact ⟨0, ro, pl, Nat.zero_le _, rfl, HI0⟩
  case round =>
    obtain ⟨k, ro', pl', hk, rfl, HI⟩ := hrel
    by_cases hlt : k < S.length
    · have hkkI : (k : Int) < (S.length : Int) := by omega
      have hkk0 : (0 : Int) ≤ (k : Int) := by omega
      obtain ⟨b', o', e, hb', d1⟩ := (gap_ia HAq.out HI.out.frm HG.out).at' k (by rw [natI_len]; exact hlt)
      cases e
      obtain ⟨a1, a2, a3, a4⟩ := HI.out.c1.at HS.out HKS.out hlt
      have hstep := HI.out.c1.step HS.out HKS.out hlt
      have d1' : wr.cell? ⟨bS, oS + k, none⟩ = some (.int .i64 (S[k] : Int)) := by simpa [natI] using d1
      have dp := HI.out.pt.place.cell a4
      have pr := HI.out.c1.prt.lr _ a4
      obtain ⟨s, hs⟩ : ∃ s, s = S[k] := ⟨_, rfl⟩
      rw [← hs] at a1 a2 a4 d1' dp hstep pr
      obtain ⟨i', hi'⟩ : ∃ i', i' = pl' s := ⟨_, rfl⟩
      rw [← hi'] at a1 a2 dp hstep pr
      obtain ⟨u, hu⟩ : ∃ u, u = to - k := ⟨_, rfl⟩
      obtain ⟨u', hu'⟩ : ∃ u', u' = to - (k + 1) := ⟨_, rfl⟩
      rw [← hu'] at hstep
      have b0 : wr.cell? ⟨wq.heap.size, 1, none⟩ = some (.int .i64 (u : Int)) := by rw [cell_of_row _ _ _ _ _ _ HI.out.ba, hu]; rfl
      have bz : wr.frozen? ⟨wq.heap.size, 1, none⟩ = false := by simp [World.frozen?, HI.out.ba]
      have huI : (u : Int) - 1 = (u' : Int) := by omega
      have huW : IntKind.i64.wrap (u' : Int) = (u' : Int) := by simp [IntKind.wrap, IntKind.bits, IntKind.signed]; omega
      have hsI : (s : Int) < (n : Int) := by omega
      have hs0 : (0 : Int) ≤ (s : Int) := by omega
      have hjn : u' < n := by omega
      have hro := HI.out.c1.prt.rl u' hjn
      obtain ⟨l1, l2, l3, l4⟩ := HPq.out.lt
      obtain ⟨n1, n2, n3, n4, n5, n6⟩ := HPq.out.ne
      have hbig := HPq.out.big
      obtain ⟨w5, hw5⟩ : ∃ w5, w5 = wr.setCell ⟨wq.heap.size, 1, none⟩ (.int .i64 (u' : Int)) := ⟨_, rfl⟩
      have hO5 : Only wr w5 (fun b => b = wq.heap.size) := by rw [hw5]; exact Only.setCell _ _ _ _
      have hp5 : Pt w5.drew lo l0 h0 j0 j1 P R L C n ro' pl' cl (.slice (some ⟨g, 0, none⟩) sp.length cg) sp vq q := by
        have h := HI.out.pt
        obtain ⟨m1, m2, m3, m4⟩ := h.lt
        have key : ∀ b, b < wr.heap.size → b ≠ wq.heap.size → w5.heap[b]? = wr.heap[b]? := fun b hb hne => hO5.block b hb hne
        have hw : wq.heap.size < wr.heap.size := (Array.getElem?_eq_some_iff.1 HI.out.ba).1
        have q1 : ∀ b, vq.ownBlock = some b → b ≠ wq.heap.size := fun b hb => by have := (World.ownsRow.lt HPq.out.queue b hb).2; omega
        have q2 : ∀ b, (Value.slice (some ⟨g, 0, none⟩) sp.length cg).ownBlock = some b → b ≠ wq.heap.size := fun b hb => by have := (World.ownsRow.lt HPq.out.spans b hb).2; omega
        exact ⟨(key _ m1 (by omega)).trans h.blk, h.row.keep (key _ m2 (by omega)), h.place.keep (key _ m3 (by omega)), h.class'.keep (key _ m4 (by omega)), own_blk h.spans (fun b hb => key _ (World.ownsRow.lt h.spans b hb).2 (q2 b hb)), own_blk h.queue (fun b hb => key _ (World.ownsRow.lt h.queue b hb).2 (q1 b hb)), h.gs, h.gq, h.ne, h.g4, h.nq, Nat.le_trans h.big hO5.size, h.lol, Nat.le_trans h.bj hO5.size⟩
      have r5 : w5.heap[wq.heap.size]? = some (.cells #[.int .i64 (f : Int), .int .i64 (u' : Int)] 97 (0, 0)) := by
        rw [hw5]
        exact heap_setCell_same _ _ 1 _ _ _ HI.out.ba
      have b1 : w5.cell? ⟨wq.heap.size, 1, none⟩ = some (.int .i64 (u' : Int)) := by rw [cell_of_row _ _ _ _ _ _ r5]; rfl
      have c1 : w5.cell? ⟨P, 1, none⟩ = some (.slice (some ⟨L, 0, none⟩) n n) := hp5.cell.2.1
      have dp5 : w5.cell? ⟨L, s, none⟩ = some (.int .i64 (i' : Int)) := (hO5.cell (p := ⟨L, s, none⟩) HI.out.pt.lt.2.2.1 (by simp only; omega)).trans dp
      have HSw := hid0 (swap_any lo l0 h0 j0 j1 P R L C n i' u' ro' pl' cl _ sp vq q w5.drew hp5 (by omega) hjn (by rw [pr.2]; exact a4) hro.1 (by omega))
      have HNx : Hid (∀ w3, Pt w3 lo l0 h0 j0 j1 P R L C n (swR ro' i' u') (swP ro' pl' i' u') cl (.slice (some ⟨g, 0, none⟩) sp.length cg) sp vq q → Only w5.drew w3 (fun k => k = R ∨ k = L) → w3.heap.size = w5.drew.heap.size → CtI wq w3 lo l0 h0 j0 j1 P R L C n (swR ro' i' u') (swP ro' pl' i' u') cl (.slice (some ⟨g, 0, none⟩) sp.length cg) sp vq q S k0 f to (k + 1) w1.heap.size) := hid0 (fun w3 hp3 ho3 hz3 => by
        have hsz : w1.heap.size < wr.heap.size := (Array.getElem?_eq_some_iff.1 HI.out.bb).1
        have hbz := HI.out.bz
        have hsz5 : w5.heap.size = wr.heap.size := by rw [hw5]; simp [World.setCell]
        have g4 := HPq.out.g4
        refine ⟨hp3, ?_, hbz, ?_, hstep, ?_⟩
        · rw [← hu']
          exact (ho3.block _ (by show wq.heap.size < w5.heap.size; omega) (by omega)).trans r5
        · exact (ho3.block _ (by show w1.heap.size < w5.heap.size; omega) (by omega)).trans ((hO5.block _ hsz (by omega)).trans HI.out.bb)
        · refine HI.out.frm.trans ((hO5.mono (T := fun b => b = R ∨ b = L ∨ wq.heap.size ≤ b) (fun b hb => by omega)).trans (show Only w5 w3 (fun b => b = R ∨ b = L) from ⟨ho3.os, ho3.tape, ho3.output, ho3.size, ho3.block⟩) (fun b hb => by omega)) (fun b hb => ?_)
          rcases hb with rfl | rfl | hb
          · exact .inl g4.2.1
          · exact .inl g4.2.2.1
          · exact .inr hb)
      have HCe : Hid (∀ w3, Pt w3 lo l0 h0 j0 j1 P R L C n (swR ro' i' u') (swP ro' pl' i' u') cl (.slice (some ⟨g, 0, none⟩) sp.length cg) sp vq q → Only w5.drew w3 (fun k => k = R ∨ k = L) → w3.cell? ⟨P, 1, none⟩ = some (.slice (some ⟨L, 0, none⟩) n n) ∧ w3.cell? ⟨wq.heap.size, 1, none⟩ = some (.int .i64 (u' : Int))) := hid0 (fun w3 hp3 ho3 => by
        have hsz5 : wq.heap.size < w5.heap.size := (Array.getElem?_eq_some_iff.1 r5).1
        exact ⟨hp3.cell.2.1, (ho3.cell (p := ⟨wq.heap.size, 1, none⟩) hsz5 (by simp only; omega)).trans b1⟩)
      have q5 := hw5.symm
      clear hw5 hO5 hp5 r5 HI d1 hstep pr hro hs hi' hu hu' a1 a2 a3 a4 dp
      go_wp2
      refine wp_region_noPanic ?_
      refine wp_region_held_drew (S := (fun V => V.cell? ⟨P, 1, none⟩ = some (.slice (some ⟨L, 0, none⟩) n n) ∧ V.cell? ⟨wq.heap.size, 1, none⟩ = some (.int .i64 (u' : Int)))) (by kernel_rfl) ?_ (fun hHeld => ?_)
      · exact ⟨c1, b1⟩
      refine tkV (i := 0) (d := some 44) (v := ?_) rfl (by kernel_rfl) (by kernel_rfl) (by kernel_rfl) rfl (fun _ _ _ h => h) (by rfl) ?_ (by assumption) ?_
      rotate_left
      · (intro w hSw; (try dsimp only at hSw); (try simp only [List.getElem_toArray, List.getElem_cons_zero]); go_simp; try with_reducible rfl)
      try simp only [Act.put, List.setIfInBounds_toArray, List.set_cons_zero, List.set_cons_succ]
      refine tkV (i := 1) (d := some 45) (v := ?_) rfl (by kernel_rfl) (by kernel_rfl) (by kernel_rfl) rfl (fun _ _ _ h => h) (by rfl) ?_ (by assumption) ?_
      rotate_left
      · (intro w hSw; (try dsimp only at hSw); (try simp only [List.getElem_toArray, List.getElem_cons_zero, List.getElem_cons_succ]); go_simp; try with_reducible rfl)
      try simp only [Act.put, List.setIfInBounds_toArray, List.set_cons_zero, List.set_cons_succ]
      refine tkV (i := 2) (d := some 46) (v := ?_) rfl (by kernel_rfl) (by kernel_rfl) (by kernel_rfl) rfl (fun _ _ _ h => h) (by rfl) ?_ (by assumption) ?_
      rotate_left
      · (intro w hSw; (try dsimp only at hSw); (try simp only [List.getElem_toArray, List.getElem_cons_zero, List.getElem_cons_succ]); go_simp; try with_reducible rfl)
      try simp only [Act.put, List.setIfInBounds_toArray, List.set_cons_zero, List.set_cons_succ]
      refine tkV (i := 3) (d := some 47) (v := ?_) rfl (by kernel_rfl) (by kernel_rfl) (by kernel_rfl) rfl (fun _ _ _ h => h) (by rfl) ?_ (by assumption) ?_
      rotate_left
      · (intro w hSw; (try dsimp only at hSw); (try simp only [List.getElem_toArray, List.getElem_cons_zero, List.getElem_cons_succ]); go_simp; try with_reducible rfl)
      try simp only [Act.put, List.setIfInBounds_toArray, List.set_cons_zero, List.set_cons_succ]
      refine tkV (i := 4) (d := some 48) (v := ?_) rfl (by kernel_rfl) (by kernel_rfl) (by kernel_rfl) rfl (fun _ _ _ h => h) (by rfl) ?_ (by assumption) ?_
      rotate_left
      · (intro w hSw; (try dsimp only at hSw); (try simp only [List.getElem_toArray, List.getElem_cons_zero, List.getElem_cons_succ]); go_simp; try with_reducible rfl)
      try simp only [Act.put, List.setIfInBounds_toArray, List.set_cons_zero, List.set_cons_succ]
      refine tkV (i := 5) (d := some 49) (v := ?_) rfl (by kernel_rfl) (by kernel_rfl) (by kernel_rfl) rfl (fun _ _ _ h => h) (by rfl) ?_ (by assumption) ?_
      rotate_left
      · (intro w hSw; (try dsimp only at hSw); (try simp only [List.getElem_toArray, List.getElem_cons_zero, List.getElem_cons_succ]); go_simp; try with_reducible rfl)
      try simp only [Act.put, List.setIfInBounds_toArray, List.set_cons_zero, List.set_cons_succ]
      refine tkV (i := 6) (d := some 50) (v := ?_) rfl (by kernel_rfl) (by kernel_rfl) (by kernel_rfl) rfl (fun _ _ _ h => h) (by rfl) ?_ (by assumption) ?_
      rotate_left
      · (intro w hSw; (try dsimp only at hSw); (try simp only [List.getElem_toArray, List.getElem_cons_zero, List.getElem_cons_succ]); go_simp; try with_reducible rfl)
      try simp only [Act.put, List.setIfInBounds_toArray, List.set_cons_zero, List.set_cons_succ]
      refine tkV (i := 8) (d := some 52) (v := ?_) rfl (by kernel_rfl) (by kernel_rfl) (by kernel_rfl) rfl (fun _ _ _ h => h) (by rfl) ?_ (by assumption) ?_
      rotate_left
      · (intro w hSw; (try dsimp only at hSw); (try simp only [List.getElem_toArray, List.getElem_cons_zero, List.getElem_cons_succ]); go_simp; try with_reducible rfl)
      try simp only [Act.put, List.setIfInBounds_toArray, List.set_cons_zero, List.set_cons_succ]
      refine tkV (i := 9) (d := some 53) (v := ?_) rfl (by kernel_rfl) (by kernel_rfl) (by kernel_rfl) rfl (fun _ _ _ h => h) (by rfl) ?_ (by assumption) ?_
      rotate_left
      · (intro w hSw; (try dsimp only at hSw); (try simp only [List.getElem_toArray, List.getElem_cons_zero, List.getElem_cons_succ]); go_simp; try with_reducible rfl)
      try simp only [Act.put, List.setIfInBounds_toArray, List.set_cons_zero, List.set_cons_succ]
      refine wpAnyH_ready (rs := [7]) (by kernel_rfl) (by simp) (AllReadyH.cons rfl (fun K hK => ?_) AllReadyH.nil)
      try simp only [List.getElem_toArray, List.getElem_cons_zero, List.getElem_cons_succ]
      go_simp
      refine hK.out _ _ ?_ (fun hHeld7 => ?_)
      · exact ⟨c1, b1⟩
      clear hK K
      (try simp only [Act.put]); (try simp only [List.setIfInBounds_toArray]); (try simp only [List.set_cons_succ]); (try simp only [List.set_cons_zero])
      refine wpAnyH_ready (rs := [10]) (by kernel_rfl) (by simp) (AllReadyH.cons rfl (fun K hK => ?_) AllReadyH.nil)
      try simp only [List.getElem_toArray, List.getElem_cons_zero, List.getElem_cons_succ]
      go_simp
      refine HSw.out.mono ?_
      rintro e w3 ⟨rfl, hp3, ho3, hz3⟩
      have HI3 := hid0 (HNx.out w3 hp3 ho3 hz3)
      have hs3 : w3.cell? ⟨P, 1, none⟩ = some (.slice (some ⟨L, 0, none⟩) n n) ∧ w3.cell? ⟨wq.heap.size, 1, none⟩ = some (.int .i64 (u' : Int)) := HCe.out w3 hp3 ho3
      clear hp3 ho3 hz3
      go_wp2_with fail
      refine hK.out _ _ ?_ (fun hHeld10 => ?_)
      · exact hs3
      clear hK K
      (try simp only [Act.put]); (try simp only [List.setIfInBounds_toArray]); (try simp only [List.set_cons_succ]); (try simp only [List.set_cons_zero])
      refine wpAnyH_done (by kernel_rfl) ?_ _
      refine NoPanic.normal ?_
      clear hHeld hHeld7 hHeld10
      go_wp2
      go_roundw
      case rel => exact ⟨k + 1, _, _, by omega, by go_num, HI3⟩
      case measure => simp [intOf]; omega
    · obtain rfl : k = S.length := by omega
      have hkkI : ¬ (S.length : Int) < (S.length : Int) := by omega
      have hbz := HI.out.bz
      obtain ⟨u, hu⟩ : ∃ u, u = to - S.length := ⟨_, rfl⟩
      have hba := HI.out.ba
      rw [← hu] at hba
      have hbb := HI.out.bb
      obtain ⟨w6, hw6⟩ : ∃ w6, w6 = wr.setCell ⟨w1.heap.size, 0, none⟩ (.int .i64 (u : Int)) := ⟨_, rfl⟩
      have hO6 : Only wr w6 (fun b => b = w1.heap.size) := by rw [hw6]; exact Only.setCell _ _ _ _
      have hbb6 : w6.heap[w1.heap.size]? = some (.cells #[.int .i64 (u : Int), .int .i64 (to : Int)] 97 (0, 0)) := by rw [hw6]; exact heap_setCell_same _ _ 0 _ _ _ hbb
      have hba6 : w6.heap[wq.heap.size]? = some (.cells #[.int .i64 (f : Int), .int .i64 (u : Int)] 97 (0, 0)) := (hO6.block _ (Array.getElem?_eq_some_iff.1 hba).1 (by omega)).trans hba
      have y1 : wr.cell? ⟨wq.heap.size, 1, none⟩ = some (.int .i64 (u : Int)) := by rw [cell_of_row _ _ _ _ _ _ hba]; rfl
      have y2 : wr.cell? ⟨w1.heap.size, 0, none⟩ = some (.int .i64 (to : Int)) := by rw [cell_of_row _ _ _ _ _ _ hbb]; rfl
      have y3 : wr.frozen? ⟨w1.heap.size, 0, none⟩ = false := by simp [World.frozen?, hbb]
      have y4 : w6.cell? ⟨wq.heap.size, 0, none⟩ = some (.int .i64 (f : Int)) := by rw [cell_of_row _ _ _ _ _ _ hba6]; rfl
      have y5 : w6.cell? ⟨wq.heap.size, 1, none⟩ = some (.int .i64 (u : Int)) := by rw [cell_of_row _ _ _ _ _ _ hba6]; rfl
      have y6 : w6.cell? ⟨w1.heap.size, 0, none⟩ = some (.int .i64 (u : Int)) := by rw [cell_of_row _ _ _ _ _ _ hbb6]; rfl
      have y7 : w6.cell? ⟨w1.heap.size, 1, none⟩ = some (.int .i64 (to : Int)) := by rw [cell_of_row _ _ _ _ _ _ hbb6]; rfl
      have HB6 := hid0 (And.intro hba6 hbb6)
      have HO6 := hid0 hO6
      have HU := hid0 hu
      have q6 := hw6.symm
      clear hbz hba hbb hO6 hba6 hbb6 hw6 hu HI0
      go_upto_region 10 with (fail)
      go_cut [9, 10] from 59 (fun p9 p10 wx => ∃ M E : Nat, p9 = .pointer (some ⟨M, 0, none⟩) ∧ p10 = .pointer (some ⟨E, 0, none⟩) ∧ Hid (CtB wq w6 wx M E f u u to))
      case first =>
        obtain ⟨v1, hv1⟩ : ∃ v1, v1 = w6.alloc (.cells #[.int .i64 0, .int .i64 0] 97) := ⟨_, rfl⟩
        obtain ⟨v2, hv2⟩ : ∃ v2, v2 = v1.alloc (.cells #[.int .i64 0, .int .i64 0] 97) := ⟨_, rfl⟩
        have hs1 : v1.heap.size = w6.heap.size + 1 := by rw [hv1]; simp
        have hs0 : w1.heap.size < w6.heap.size := World.block_lt_of_cell? w6 _ y6
        have hs2 : v2.heap.size = v1.heap.size + 1 := by rw [hv2]; simp
        have hv1o : Only w6 v1 (fun _ => False) := by rw [hv1]; exact Only.alloc _ _ _
        have hv2o : Only w6 v2 (fun _ => False) := hv1o.trans (by rw [hv2]; exact Only.alloc _ _ (fun _ => False)) (fun _ h => False.elim h)
        have rx1 : v1.heap[w6.heap.size]? = some (.cells #[.int .i64 0, .int .i64 0] 97 (0, 0)) := by rw [hv1]; exact heap_alloc_new _ _
        have rx : v2.heap[w6.heap.size]? = some (.cells #[.int .i64 0, .int .i64 0] 97 (0, 0)) := by rw [hv2, Below.heap_alloc _ _ _ (by omega)]; exact rx1
        have ry : v2.heap[v1.heap.size]? = some (.cells #[.int .i64 0, .int .i64 0] 97 (0, 0)) := by rw [hv2]; exact heap_alloc_new _ _
        have c10 : v1.cell? ⟨wq.heap.size, 0, none⟩ = some (.int .i64 (f : Int)) := by rw [hv1]; exact cell_alloc y4 _
        have c11 : v1.cell? ⟨wq.heap.size, 1, none⟩ = some (.int .i64 (u : Int)) := by rw [hv1]; exact cell_alloc y5 _
        have c12 : v1.cell? ⟨w1.heap.size, 0, none⟩ = some (.int .i64 (u : Int)) := by rw [hv1]; exact cell_alloc y6 _
        have c13 : v1.cell? ⟨w1.heap.size, 1, none⟩ = some (.int .i64 (to : Int)) := by rw [hv1]; exact cell_alloc y7 _
        have c20 : v2.cell? ⟨wq.heap.size, 0, none⟩ = some (.int .i64 (f : Int)) := by rw [hv2]; exact cell_alloc c10 _
        have c21 : v2.cell? ⟨wq.heap.size, 1, none⟩ = some (.int .i64 (u : Int)) := by rw [hv2]; exact cell_alloc c11 _
        have c22 : v2.cell? ⟨w1.heap.size, 0, none⟩ = some (.int .i64 (u : Int)) := by rw [hv2]; exact cell_alloc c12 _
        have c23 : v2.cell? ⟨w1.heap.size, 1, none⟩ = some (.int .i64 (to : Int)) := by rw [hv2]; exact cell_alloc c13 _
        have e1 : v2.cell? ⟨w6.heap.size, 0, none⟩ = some (.int .i64 0) := by rw [cell_of_row _ _ _ _ _ _ rx]; rfl
        have e2 : v2.cell? ⟨w6.heap.size, 1, none⟩ = some (.int .i64 0) := by rw [cell_of_row _ _ _ _ _ _ rx]; rfl
        have e3 : v2.cell? ⟨v1.heap.size, 0, none⟩ = some (.int .i64 0) := by rw [cell_of_row _ _ _ _ _ _ ry]; rfl
        have e4 : v2.cell? ⟨v1.heap.size, 1, none⟩ = some (.int .i64 0) := by rw [cell_of_row _ _ _ _ _ _ ry]; rfl
        have e5 : ∀ o, v2.frozen? ⟨w6.heap.size, o, none⟩ = false := fun o => by simp [World.frozen?, rx]
        have e6 : ∀ o, v2.frozen? ⟨v1.heap.size, o, none⟩ = false := fun o => by simp [World.frozen?, ry]
        obtain ⟨p1, hp1⟩ : ∃ p1, p1 = v2.setCell ⟨w6.heap.size, 0, none⟩ (.int .i64 (f : Int)) := ⟨_, rfl⟩
        obtain ⟨p2, hp2⟩ : ∃ p2, p2 = p1.setCell ⟨w6.heap.size, 1, none⟩ (.int .i64 (u : Int)) := ⟨_, rfl⟩
        obtain ⟨p3, hp3⟩ : ∃ p3, p3 = p2.setCell ⟨v1.heap.size, 0, none⟩ (.int .i64 (u : Int)) := ⟨_, rfl⟩
        obtain ⟨p4, hp4⟩ : ∃ p4, p4 = p3.setCell ⟨v1.heap.size, 1, none⟩ (.int .i64 (to : Int)) := ⟨_, rfl⟩
        have rp1 : p1.heap[w6.heap.size]? = some (.cells #[.int .i64 (f : Int), .int .i64 0] 97 (0, 0)) := by rw [hp1]; exact heap_setCell_same _ _ 0 _ _ _ rx
        have rp2 : p2.heap[w6.heap.size]? = some (.cells #[.int .i64 (f : Int), .int .i64 (u : Int)] 97 (0, 0)) := by rw [hp2]; exact heap_setCell_same _ _ 1 _ _ _ rp1
        have kp1 : Only v2 p1 (fun b => b = w6.heap.size) := by rw [hp1]; exact Only.setCell _ _ _ _
        have kp2 : Only v2 p2 (fun b => b = w6.heap.size) := kp1.trans (by rw [hp2]; exact Only.setCell _ _ _ _) (fun _ h => .inl h)
        have tp2 : p2.heap[v1.heap.size]? = some (.cells #[.int .i64 0, .int .i64 0] 97 (0, 0)) := (kp2.block _ (by omega) (by omega)).trans ry
        have tp3 : p3.heap[v1.heap.size]? = some (.cells #[.int .i64 (u : Int), .int .i64 0] 97 (0, 0)) := by rw [hp3]; exact heap_setCell_same _ _ 0 _ _ _ tp2
        have tp4 : p4.heap[v1.heap.size]? = some (.cells #[.int .i64 (u : Int), .int .i64 (to : Int)] 97 (0, 0)) := by rw [hp4]; exact heap_setCell_same _ _ 1 _ _ _ tp3
        have kp4 : Only p2 p4 (fun b => b = v1.heap.size) := (by rw [hp3]; exact Only.setCell _ _ _ _ : Only p2 p3 (fun b => b = v1.heap.size)).trans (by rw [hp4]; exact Only.setCell _ _ _ _) (fun _ h => .inl h)
        have Hp : Hid (CtB wq w6 p4 (w6.heap.size) (v1.heap.size) f u u to) := hid0 ⟨(kp4.block _ (Array.getElem?_eq_some_iff.1 rp2).1 (by omega)).trans rp2, tp4, by omega, (hv2o.trans ((kp2.mono (T := fun b => w6.heap.size ≤ b) (fun b hb => by omega)).trans kp4 (fun b hb => .inl (by omega))) (fun b hb => .inr hb)), by omega, by omega⟩
        have zp1 : p1.cell? ⟨w6.heap.size, 1, none⟩ = some (.int .i64 0) := by rw [cell_of_row _ _ _ _ _ _ rp1]; rfl
        have zp2 : p2.cell? ⟨v1.heap.size, 0, none⟩ = some (.int .i64 0) := by rw [cell_of_row _ _ _ _ _ _ tp2]; rfl
        have zp3 : p3.cell? ⟨v1.heap.size, 1, none⟩ = some (.int .i64 0) := by rw [cell_of_row _ _ _ _ _ _ tp3]; rfl
        have zp5 : p2.cell? ⟨v1.heap.size, 1, none⟩ = some (.int .i64 0) := by rw [cell_of_row _ _ _ _ _ _ tp2]; rfl
        have op1 : p1.frozen? ⟨w6.heap.size, 1, none⟩ = false := by simp [World.frozen?, rp1]
        have op2 : p2.frozen? ⟨v1.heap.size, 0, none⟩ = false := by simp [World.frozen?, tp2]
        have op3 : p3.frozen? ⟨v1.heap.size, 1, none⟩ = false := by simp [World.frozen?, tp3]
        have op4 : p2.frozen? ⟨v1.heap.size, 1, none⟩ = false := by simp [World.frozen?, tp2]
        have lp1 : p2.cell? ⟨w1.heap.size, 0, none⟩ = some (.int .i64 (u : Int)) := (kp2.cell (p := ⟨w1.heap.size, 0, none⟩) (World.block_lt_of_cell? v2 _ c22) (by simp only; omega)).trans c22
        have lp2 : p2.cell? ⟨w1.heap.size, 1, none⟩ = some (.int .i64 (to : Int)) := (kp2.cell (p := ⟨w1.heap.size, 1, none⟩) (World.block_lt_of_cell? v2 _ c23) (by simp only; omega)).trans c23
        have gp1 := hp1.symm; have gp2 := hp2.symm; have gp3 := hp3.symm; have gp4 := hp4.symm
        clear hp1 hp2 hp3 hp4 rp1 rp2 kp1 kp2 kp4 tp2 tp3 tp4
        obtain ⟨s1, hs1⟩ : ∃ s1, s1 = v2.setCell ⟨v1.heap.size, 0, none⟩ (.int .i64 (f : Int)) := ⟨_, rfl⟩
        obtain ⟨s2, hs2⟩ : ∃ s2, s2 = s1.setCell ⟨v1.heap.size, 1, none⟩ (.int .i64 (u : Int)) := ⟨_, rfl⟩
        obtain ⟨s3, hs3⟩ : ∃ s3, s3 = s2.setCell ⟨w6.heap.size, 0, none⟩ (.int .i64 (u : Int)) := ⟨_, rfl⟩
        obtain ⟨s4, hs4⟩ : ∃ s4, s4 = s3.setCell ⟨w6.heap.size, 1, none⟩ (.int .i64 (to : Int)) := ⟨_, rfl⟩
        have rs1 : s1.heap[v1.heap.size]? = some (.cells #[.int .i64 (f : Int), .int .i64 0] 97 (0, 0)) := by rw [hs1]; exact heap_setCell_same _ _ 0 _ _ _ ry
        have rs2 : s2.heap[v1.heap.size]? = some (.cells #[.int .i64 (f : Int), .int .i64 (u : Int)] 97 (0, 0)) := by rw [hs2]; exact heap_setCell_same _ _ 1 _ _ _ rs1
        have ks1 : Only v2 s1 (fun b => b = v1.heap.size) := by rw [hs1]; exact Only.setCell _ _ _ _
        have ks2 : Only v2 s2 (fun b => b = v1.heap.size) := ks1.trans (by rw [hs2]; exact Only.setCell _ _ _ _) (fun _ h => .inl h)
        have ts2 : s2.heap[w6.heap.size]? = some (.cells #[.int .i64 0, .int .i64 0] 97 (0, 0)) := (ks2.block _ (by omega) (by omega)).trans rx
        have ts3 : s3.heap[w6.heap.size]? = some (.cells #[.int .i64 (u : Int), .int .i64 0] 97 (0, 0)) := by rw [hs3]; exact heap_setCell_same _ _ 0 _ _ _ ts2
        have ts4 : s4.heap[w6.heap.size]? = some (.cells #[.int .i64 (u : Int), .int .i64 (to : Int)] 97 (0, 0)) := by rw [hs4]; exact heap_setCell_same _ _ 1 _ _ _ ts3
        have ks4 : Only s2 s4 (fun b => b = w6.heap.size) := (by rw [hs3]; exact Only.setCell _ _ _ _ : Only s2 s3 (fun b => b = w6.heap.size)).trans (by rw [hs4]; exact Only.setCell _ _ _ _) (fun _ h => .inl h)
        have Hs : Hid (CtB wq w6 s4 (v1.heap.size) (w6.heap.size) f u u to) := hid0 ⟨(ks4.block _ (Array.getElem?_eq_some_iff.1 rs2).1 (by omega)).trans rs2, ts4, by omega, (hv2o.trans ((ks2.mono (T := fun b => w6.heap.size ≤ b) (fun b hb => by omega)).trans ks4 (fun b hb => .inl (by omega))) (fun b hb => .inr hb)), by omega, by omega⟩
        have zs1 : s1.cell? ⟨v1.heap.size, 1, none⟩ = some (.int .i64 0) := by rw [cell_of_row _ _ _ _ _ _ rs1]; rfl
        have zs2 : s2.cell? ⟨w6.heap.size, 0, none⟩ = some (.int .i64 0) := by rw [cell_of_row _ _ _ _ _ _ ts2]; rfl
        have zs3 : s3.cell? ⟨w6.heap.size, 1, none⟩ = some (.int .i64 0) := by rw [cell_of_row _ _ _ _ _ _ ts3]; rfl
        have zs5 : s2.cell? ⟨w6.heap.size, 1, none⟩ = some (.int .i64 0) := by rw [cell_of_row _ _ _ _ _ _ ts2]; rfl
        have os1 : s1.frozen? ⟨v1.heap.size, 1, none⟩ = false := by simp [World.frozen?, rs1]
        have os2 : s2.frozen? ⟨w6.heap.size, 0, none⟩ = false := by simp [World.frozen?, ts2]
        have os3 : s3.frozen? ⟨w6.heap.size, 1, none⟩ = false := by simp [World.frozen?, ts3]
        have os4 : s2.frozen? ⟨w6.heap.size, 1, none⟩ = false := by simp [World.frozen?, ts2]
        have ls1 : s2.cell? ⟨w1.heap.size, 0, none⟩ = some (.int .i64 (u : Int)) := (ks2.cell (p := ⟨w1.heap.size, 0, none⟩) (World.block_lt_of_cell? v2 _ c22) (by simp only; omega)).trans c22
        have ls2 : s2.cell? ⟨w1.heap.size, 1, none⟩ = some (.int .i64 (to : Int)) := (ks2.cell (p := ⟨w1.heap.size, 1, none⟩) (World.block_lt_of_cell? v2 _ c23) (by simp only; omega)).trans c23
        have gs1 := hs1.symm; have gs2 := hs2.symm; have gs3 := hs3.symm; have gs4 := hs4.symm
        clear hs1 hs2 hs3 hs4 rs1 rs2 ks1 ks2 ks4 ts2 ts3 ts4
        have gv1 := hv1.symm
        have gv2 := hv2.symm
        clear hv1 hv2 hs0 hs1 hs2 hv1o hv2o rx1 rx ry
        go_wp2_with fail
        go_region
        all_goals go_wp2_with fail
        · go_meet
          case rel => exact ⟨_, _, rfl, rfl, hid0 Hp.out.drew⟩
        · go_meet
          case rel => exact ⟨_, _, rfl, rfl, hid0 Hs.out.drew⟩
      case rest =>
        obtain ⟨M, E, rfl, rfl, HX⟩ := hcut
        have hwz : wq.heap.size < w6.heap.size := World.block_lt_of_cell? w6 _ y4
        have hwy : w1.heap.size < w6.heap.size := World.block_lt_of_cell? w6 _ y6
        have HPc : Hid (Pt wc lo l0 h0 j0 j1 P R L C n ro' pl' cl (.slice (some ⟨g, 0, none⟩) sp.length cg) sp vq q) := hid0 (HI.out.pt.far HPq.out.low ((HO6.out.mono (T := fun b => wq.heap.size ≤ b) (fun b hb => by have := HI.out.bz; omega)).trans (HX.out.bel.mono (T := fun b => wq.heap.size ≤ b) (fun b hb => False.elim hb)) (fun b hb => .inl hb)))
        have HFc : Hid (Only wq wc (gapF lo l0 h0 j0 j1)) := hid0 (HI.out.frm.trans ((HO6.out.mono (T := fun b => wq.heap.size ≤ b) (fun b hb => by have := HI.out.bz; omega)).trans (HX.out.bel.mono (T := fun b => wq.heap.size ≤ b) (fun b hb => False.elim hb)) (fun b hb => .inl hb)) (fun b hb => .inr hb))
        have HC := hid0 HI.out.c1
        have HBox : Hid (CtC wc wq.heap.size w1.heap.size M E f u u to f u u to) := hid0 ⟨(HX.out.bel.block _ hwz (fun h => h)).trans HB6.out.1, (HX.out.bel.block _ hwy (fun h => h)).trans HB6.out.2, HX.out.bm, HX.out.be, by have := HX.out.nw; have := HX.out.ne; have := HI.out.bz; omega⟩
        have HLo : Hid (wq.heap.size < M ∧ wq.heap.size < E ∧ wq.heap.size < w1.heap.size) := hid0 (by have := HX.out.nw; have := HI.out.bz; omega)
        have hroom := HI.out.c1.room
        have hfu : f ≤ u := by have := HU.out; omega
        have hut : u ≤ to := by have := HU.out; omega
        have HSz : Hid (to - u = S.length) := hid0 (by have := HU.out; omega)
        have HLw := hid0 HPq.out.low
        clear HI HX HB6 HO6 hwz hwy hroom y1 y2 y3 y4 y5 y6 y7 q6
        obtain ⟨A, hA⟩ : ∃ A, A = wq.heap.size := ⟨_, rfl⟩
        have HAw : Hid (wq.heap.size ≤ A) := hid0 (by omega)
        rw [← hA] at HBox HLo HLw ⊢
        clear hA
        generalize w1.heap.size = B at *
        have HSo : Hid (∀ V : World, Below wc.heap.size wc V → V.cell? ⟨A, 0, none⟩ = some (.int .i64 (f : Int)) ∧ V.cell? ⟨A, 1, none⟩ = some (.int .i64 (u : Int)) ∧ V.cell? ⟨B, 0, none⟩ = some (.int .i64 (u : Int)) ∧ V.cell? ⟨B, 1, none⟩ = some (.int .i64 (to : Int)) ∧ Below wc.heap.size wc V) := hid0 (fun V hV => by
          have h1 := (hV.block _ (Array.getElem?_eq_some_iff.1 HBox.out.ba).1).trans HBox.out.ba
          have h2 := (hV.block _ (Array.getElem?_eq_some_iff.1 HBox.out.bb).1).trans HBox.out.bb
          exact ⟨by rw [cell_of_row _ _ _ _ _ _ h1]; rfl, by rw [cell_of_row _ _ _ _ _ _ h1]; rfl, by rw [cell_of_row _ _ _ _ _ _ h2]; rfl, by rw [cell_of_row _ _ _ _ _ _ h2]; rfl, hV⟩)
        have HSz1 : Hid (∀ V : World, Below wc.heap.size wc V → Calls Tryd.prog 72 #[.agg #[.int .i64 (f : Int), .int .i64 (u : Int)]] V fun e w' => e = .returned (.int .i64 ((u - f : Nat) : Int)) ∧ Below wc.heap.size wc w') := hid0 (fun V hV => (size_any f u V hfu (by omega)).mono (fun e w' h => ⟨h.1, hV.trans (h.2.mono hV.size)⟩))
        have HSz2 : Hid (∀ V : World, Below wc.heap.size wc V → Calls Tryd.prog 72 #[.agg #[.int .i64 (u : Int), .int .i64 (to : Int)]] V fun e w' => e = .returned (.int .i64 ((to - u : Nat) : Int)) ∧ Below wc.heap.size wc w') := hid0 (fun V hV => (size_any u to V hut (by omega)).mono (fun e w' h => ⟨h.1, hV.trans (h.2.mono hV.size)⟩))
        obtain ⟨x0', x1', x2', x3', _⟩ := HSo.out wc (Below.refl _ _)
        obtain ⟨d1, hd1⟩ : ∃ d1, d1 = u - f := ⟨_, rfl⟩
        obtain ⟨d2, hd2⟩ : ∃ d2, d2 = to - u := ⟨_, rfl⟩
        rw [← hd1] at HSz1
        rw [← hd2] at HSz2
        have HD := hid0 (And.intro hd1 hd2)
        clear hd1 hd2
        go_upto_region 11 with (fail)
        go_region_held3 (fun W => W.cell? ⟨A, 0, none⟩ = some (.int .i64 (f : Int)) ∧ W.cell? ⟨A, 1, none⟩ = some (.int .i64 (u : Int)) ∧ W.cell? ⟨B, 0, none⟩ = some (.int .i64 (u : Int)) ∧ W.cell? ⟨B, 1, none⟩ = some (.int .i64 (to : Int)) ∧ Below wc.heap.size wc W) (first | exact HSo.out _ (by go_grown) | (go_split_ands; exact HSo.out _ (by go_grown)) | (go_split_ands; exact HSo.out _ (by assumption)))
          (first
            | (go_at_call 72; go_split_ands; with_reducible refine (HSz1.out _ (by go_grown)).mono ?_; rintro e wx ⟨rfl, hbx⟩)
            | (go_at_call 72; go_split_ands; with_reducible refine (HSz2.out _ (by go_grown)).mono ?_; rintro e wx ⟨rfl, hbx⟩))
        have HPx := hid0 (HPc.out.past hbx)
        have HBx := hid0 (HBox.out.past hbx)
        have HFx : Hid (Only wq wx (gapF lo l0 h0 j0 j1)) := hid0 (HFc.out.trans (Only.ofBelow hbx (fun _ => False) (fun i a b => absurd b (Nat.not_lt.2 a))) (fun i h => False.elim h))
        clear HSo HSz1 HSz2 HPc HBox HFc x0' x1' x2' x3'
        go_upto_if 65 with (fail)
        go_cut [] from 61 (fun wy => ∃ m1 m2 e1 e2 : Nat, Hid (CtD wq wy lo l0 h0 j0 j1 P R L C n ro' pl' cl (.slice (some ⟨g, 0, none⟩) sp.length cg) sp vq q M E f u to d1 d2 m1 m2 e1 e2))
        case first =>
          by_cases hdd : (d1 : Int) < (d2 : Int)
          · obtain ⟨na, nb, nc, nd, ne, nf⟩ := HBx.out.ne
            obtain ⟨x1, hx1⟩ : ∃ x1, x1 = wx.setCell ⟨M, 0, none⟩ (.int .i64 (u : Int)) := ⟨_, rfl⟩
            obtain ⟨x2, hx2⟩ : ∃ x2, x2 = x1.setCell ⟨M, 1, none⟩ (.int .i64 (to : Int)) := ⟨_, rfl⟩
            obtain ⟨x3, hx3⟩ : ∃ x3, x3 = x2.setCell ⟨E, 0, none⟩ (.int .i64 (f : Int)) := ⟨_, rfl⟩
            obtain ⟨x4, hx4⟩ : ∃ x4, x4 = x3.setCell ⟨E, 1, none⟩ (.int .i64 (u : Int)) := ⟨_, rfl⟩
            have r1 : x1.heap[M]? = some (.cells #[.int .i64 (u : Int), .int .i64 (u : Int)] 97 (0, 0)) := by rw [hx1]; exact heap_setCell_same _ _ 0 _ _ _ HBx.out.bm
            have r2 : x2.heap[M]? = some (.cells #[.int .i64 (u : Int), .int .i64 (to : Int)] 97 (0, 0)) := by rw [hx2]; exact heap_setCell_same _ _ 1 _ _ _ r1
            have k2 : Only wx x2 (fun b => b = M) := (by rw [hx1]; exact Only.setCell _ _ _ _ : Only wx x1 (fun b => b = M)).trans (by rw [hx2]; exact Only.setCell _ _ _ _) (fun _ h => .inl h)
            have lA := (Array.getElem?_eq_some_iff.1 HBx.out.ba).1
            have lE := (Array.getElem?_eq_some_iff.1 HBx.out.be).1
            have a2 := (k2.block A lA nb).trans HBx.out.ba
            have t2 := (k2.block E lE (fun e => nf e.symm)).trans HBx.out.be
            have t3 : x3.heap[E]? = some (.cells #[.int .i64 (f : Int), .int .i64 (to : Int)] 97 (0, 0)) := by rw [hx3]; exact heap_setCell_same _ _ 0 _ _ _ t2
            have t4 : x4.heap[E]? = some (.cells #[.int .i64 (f : Int), .int .i64 (u : Int)] 97 (0, 0)) := by rw [hx4]; exact heap_setCell_same _ _ 1 _ _ _ t3
            have k4 : Only x2 x4 (fun b => b = E) := (by rw [hx3]; exact Only.setCell _ _ _ _ : Only x2 x3 (fun b => b = E)).trans (by rw [hx4]; exact Only.setCell _ _ _ _) (fun _ h => .inl h)
            have k5 : Only wx x4 (fun b => A < b) := (k2.mono (T := fun b => A < b) (fun b hb => by have := HLo.out; omega)).trans k4 (fun b hb => .inl (by have := HLo.out; omega))
            have HRel : Hid (CtD wq x4.drew lo l0 h0 j0 j1 P R L C n ro' pl' cl (.slice (some ⟨g, 0, none⟩) sp.length cg) sp vq q M E f u to d1 d2 u to f u) := hid0 ⟨(HPx.out.far HLw.out (k5.mono (T := fun b => A ≤ b) (fun b hb => Nat.le_of_lt hb))).past ⟨rfl, rfl, rfl, Nat.le_refl _, fun _ _ => rfl⟩, (k4.block _ (Array.getElem?_eq_some_iff.1 r2).1 (fun e => nf e)).trans r2, t4, (HFx.out.trans ⟨k5.os, k5.tape, k5.output, k5.size, k5.block⟩ (fun b hb => .inr (by have := HAw.out; omega))), .inl ⟨by omega, rfl, rfl, rfl, rfl⟩⟩
            have z1 : wx.cell? ⟨B, 0, none⟩ = some (.int .i64 (u : Int)) := by rw [cell_of_row _ _ _ _ _ _ HBx.out.bb]; rfl
            have z2 : wx.cell? ⟨B, 1, none⟩ = some (.int .i64 (to : Int)) := by rw [cell_of_row _ _ _ _ _ _ HBx.out.bb]; rfl
            have z3 : wx.cell? ⟨A, 0, none⟩ = some (.int .i64 (f : Int)) := by rw [cell_of_row _ _ _ _ _ _ HBx.out.ba]; rfl
            have z4 : wx.cell? ⟨A, 1, none⟩ = some (.int .i64 (u : Int)) := by rw [cell_of_row _ _ _ _ _ _ HBx.out.ba]; rfl
            have z5 : x2.cell? ⟨A, 0, none⟩ = some (.int .i64 (f : Int)) := by rw [cell_of_row _ _ _ _ _ _ a2]; rfl
            have z6 : x2.cell? ⟨A, 1, none⟩ = some (.int .i64 (u : Int)) := by rw [cell_of_row _ _ _ _ _ _ a2]; rfl
            have m0 : wx.cell? ⟨M, 0, none⟩ = some (.int .i64 (f : Int)) := by rw [cell_of_row _ _ _ _ _ _ HBx.out.bm]; rfl
            have m1 : wx.cell? ⟨M, 1, none⟩ = some (.int .i64 (u : Int)) := by rw [cell_of_row _ _ _ _ _ _ HBx.out.bm]; rfl
            have m2 : x1.cell? ⟨M, 1, none⟩ = some (.int .i64 (u : Int)) := by rw [cell_of_row _ _ _ _ _ _ r1]; rfl
            have e0 : x2.cell? ⟨E, 0, none⟩ = some (.int .i64 (u : Int)) := by rw [cell_of_row _ _ _ _ _ _ t2]; rfl
            have e1 : x2.cell? ⟨E, 1, none⟩ = some (.int .i64 (to : Int)) := by rw [cell_of_row _ _ _ _ _ _ t2]; rfl
            have e2 : x3.cell? ⟨E, 1, none⟩ = some (.int .i64 (to : Int)) := by rw [cell_of_row _ _ _ _ _ _ t3]; rfl
            have f0 : ∀ o, wx.frozen? ⟨M, o, none⟩ = false := fun o => by simp [World.frozen?, HBx.out.bm]
            have f1 : ∀ o, x1.frozen? ⟨M, o, none⟩ = false := fun o => by simp [World.frozen?, r1]
            have f2 : ∀ o, x2.frozen? ⟨E, o, none⟩ = false := fun o => by simp [World.frozen?, t2]
            have f3 : ∀ o, x3.frozen? ⟨E, o, none⟩ = false := fun o => by simp [World.frozen?, t3]
            have g1 := hx1.symm
            have g2 := hx2.symm
            have g3 := hx3.symm
            have g4 := hx4.symm
            clear hx1 hx2 hx3 hx4 r1 r2 k2 lA lE a2 t2 t3 t4 k4 k5
            go_wp2_with fail
            go_region
            all_goals
              go_wp2_with fail
              go_meet
              case rel => exact ⟨_, _, _, _, HRel⟩
          · have HRel : Hid (CtD wq wx lo l0 h0 j0 j1 P R L C n ro' pl' cl (.slice (some ⟨g, 0, none⟩) sp.length cg) sp vq q M E f u to d1 d2 f u u to) := hid0 ⟨HPx.out, HBx.out.bm, HBx.out.be, HFx.out, .inr ⟨by omega, rfl, rfl, rfl, rfl⟩⟩
            go_wp2_with fail
            go_meet
            case rel => exact ⟨_, _, _, _, HRel⟩
        case rest =>
          obtain ⟨m1, m2, e1, e2, HD2⟩ := hcut
          have hd := HD2.out.dis
          have he12 : e1 ≤ e2 := by omega
          have he2n : e2 ≤ n := by omega
          have HS3 := hid0 (size_any e1 e2 wc he12 (by omega))
          obtain ⟨d3, hd3⟩ : ∃ d3, d3 = e2 - e1 := ⟨_, rfl⟩
          rw [← hd3] at HS3
          have t0 : wc.cell? ⟨E, 0, none⟩ = some (.int .i64 (e1 : Int)) := by rw [cell_of_row _ _ _ _ _ _ HD2.out.be]; rfl
          have t1 : wc.cell? ⟨E, 1, none⟩ = some (.int .i64 (e2 : Int)) := by rw [cell_of_row _ _ _ _ _ _ HD2.out.be]; rfl
          by_cases h3 : d3 = 0
          · have HCW : Hid (∀ wz, Below wc.heap.size wc wz → CutW w lo l0 h0 j0 j1 P R L C n cl sp q S wz) := hid0 (fun wz hbz => by
              have hS0 := HSz.out
              have hle : to - S.length ≤ f := by have := HU.out; have := HD.out; omega
              exact ⟨ro', pl', cl, _, sp, vq, [], by rw [List.append_nil]; exact HD2.out.pt.past hbz, HC.out.prt, HC.out.none HKS.out HS.out hle, HOq.out wz (HD2.out.frm.trans (Only.ofBelow hbz (fun _ => False) (fun i a b => absurd b (Nat.not_lt.2 a))) (fun i h => False.elim h))⟩)
            subst h3
            have hz0 : (((0 : Nat) : Int) == 0) = true := by decide
            clear hd hd3
            go_wp2_with (go_at_call 72; go_loud ((refine HS3.out.mono ?_; rintro e wz ⟨rfl, hbz⟩)))
            go_returns
            exact ⟨rfl, HCW.out _ hbz⟩
          · have hz0 : ((d3 : Int) == 0) = false := by simpa using h3
            have hS0 := HSz.out
            have hfu' : f < to - S.length := by have := HU.out; have := HD.out; omega
            have hsome := HC.out.some HKS.out HS.out hfu' (mo := (m1, m2)) (le := (e1, e2)) (by
              have hu2 := HU.out
              rw [← hu2]
              rcases hd with ⟨_, q1, q2, q3, q4⟩ | ⟨_, q1, q2, q3, q4⟩
              · right; rw [q1, q2, q3, q4]; exact ⟨rfl, rfl⟩
              · left; rw [q1, q2, q3, q4]; exact ⟨rfl, rfl⟩)
            have HSm := hid0 hsome
            have h3I : e1 < e2 := by omega
            have HD3 := hid0 hd3
            clear hd hd3 hsome hfu' hS0 HC HSz HU HD hfu hut
            go_upto_region 14 with (go_at_call 72; go_loud ((refine HS3.out.mono ?_; rintro e wz ⟨rfl, hbz⟩)))
            have hPz := HD2.out.pt.past hbz
            have hFz : Only wq wz (gapF lo l0 h0 j0 j1) := HD2.out.frm.trans (Only.ofBelow hbz (fun _ => False) (fun i a b => absurd b (Nat.not_lt.2 a))) (fun i h => False.elim h)
            have hmz := (hbz.block _ (Array.getElem?_eq_some_iff.1 HD2.out.bm).1).trans HD2.out.bm
            have hez := (hbz.block _ (Array.getElem?_eq_some_iff.1 HD2.out.be).1).trans HD2.out.be
            obtain ⟨gg, cc, eq, s0, s1, fz, _⟩ := hPz.span hkl
            cases eq
            rw [← HF.out.1] at s0
            rw [← HF.out.2] at s1
            obtain ⟨hset, hoset⟩ := hPz.setSpan hkl (m1, m2)
            have hstored := (World.ownsRow.stored hPz.spans (k0 * 2) (.int .i64 (m1 : Int))).1
            obtain ⟨y1, hy1⟩ : ∃ y1, y1 = wz.setCell ⟨g, k0 * 2, none⟩ (.int .i64 (m1 : Int)) := ⟨_, rfl⟩
            obtain ⟨y2, hy2⟩ : ∃ y2, y2 = y1.setCell ⟨g, k0 * 2 + 1, none⟩ (.int .i64 (m2 : Int)) := ⟨_, rfl⟩
            rw [← hy1, ← hy2] at hset hoset
            rw [← hy1] at hstored
            have v1 : y1.frozen? ⟨g, k0 * 2 + 1, none⟩ = false := World.ownsRow.frozenAt hstored _
            have v2 : y1.cell? ⟨g, k0 * 2 + 1, none⟩ = some (.int .i64 (to : Int)) := by rw [hy1]; exact (World.cell?_setCell_other _ _ _ _ (by simp)).trans s1
            have v0 := fz (k0 * 2)
            have v3 : wz.cell? ⟨P, 3, none⟩ = some (.slice (some ⟨g, 0, none⟩) sp.length cg) := hPz.cell.2.2.2.1
            have v4 : wz.cell? ⟨M, 0, none⟩ = some (.int .i64 (m1 : Int)) := by rw [cell_of_row _ _ _ _ _ _ hmz]; rfl
            have v5 : wz.cell? ⟨M, 1, none⟩ = some (.int .i64 (m2 : Int)) := by rw [cell_of_row _ _ _ _ _ _ hmz]; rfl
            have hgA : g < A := HLw.out.s g rfl
            have HPv : Hid (Pt y2.drew lo l0 h0 j0 j1 P R L C n ro' pl' cl (.slice (some ⟨g, 0, none⟩) sp.length cg) (sp.set k0 (m1, m2)) vq q) := hid0 (hset.past ⟨rfl, rfl, rfl, Nat.le_refl _, fun _ _ => rfl⟩)
            have HEv : Hid (y2.drew.heap[E]? = some (.cells #[.int .i64 (e1 : Int), .int .i64 (e2 : Int)] 97 (0, 0))) := hid0 ((hoset.block _ (Array.getElem?_eq_some_iff.1 hez).1 (by have := HLo.out; omega)).trans hez)
            have HFv : Hid (Only wq y2.drew (gapF lo l0 h0 j0 j1)) := hid0 (hFz.trans (show Only wz y2.drew (fun b => b = g) from ⟨hoset.os, hoset.tape, hoset.output, hoset.size, hoset.block⟩) (fun b hb => .inl (by rw [hb]; exact hPz.gs g rfl)))
            have gy1 := hy1.symm
            have gy2 := hy2.symm
            clear hy1 hy2 hPz hFz hmz hez hset hoset hstored fz HS3 t0 t1
            go_wp2_with fail
            go_region
            clear gy1 gy2 v0 v1 v2 v3 v4 v5 s0 s1
            generalize y2.drew = w8 at *
            go_upto_region 15 with (fail)
            go_cut [] from 78 (fun w9 => ∃ g4 c4 : Nat, Hid (CtE wq w9 lo l0 h0 j0 j1 P R L C n ro' pl' cl (.slice (some ⟨g4, 0, none⟩) (sp.length + 1) c4) (sp.set k0 (m1, m2) ++ [(e1, e2)]) vq q E e1 e2))
            case first =>
              obtain ⟨wA, hwA⟩ : ∃ wA, wA = w8.alloc (.cells #[.int .i64 (e1 : Int), .int .i64 (e2 : Int)] 97) := ⟨_, rfl⟩
              have hOA : Only w8 wA (fun _ => False) := by rw [hwA]; exact Only.alloc _ _ _
              have hsA : wA.heap.size = w8.heap.size + 1 := by rw [hwA]; simp
              have HNew : Hid (∀ j u, [Value.int .i64 (e1 : Int), Value.int .i64 (e2 : Int)][j]? = some u → wA.cell? ((⟨w8.heap.size, 0, none⟩ : Addr).add j) = some u) := hid0 (fun j u hj => by
                have hr := heap_alloc_new w8 (.cells #[.int .i64 (e1 : Int), .int .i64 (e2 : Int)] 97)
                rw [← hwA] at hr
                rw [Addr.add_lit, Nat.zero_add, cell_of_row _ _ _ _ _ _ hr]
                simpa using hj)
              have HOwn : Hid (wA.ownsRow lo 97 2 (.slice (some ⟨g, 0, none⟩) sp.length cg) sp.length (spV (sp.set k0 (m1, m2)))) := hid0 (by
                have h := HPv.out.spans
                rw [List.length_set] at h
                exact own_blk h (fun k hk => hOA.block _ (World.ownsRow.lt h k hk).2 (fun h => h)))
              have HLo8 : Hid (lo ≤ wA.heap.size) := hid0 (by have := HPv.out.g4.1.1; have := HPv.out.lt.1; omega)
              have HNx : Hid (∀ (v' : Value) (w2 : World), w2.ownsRow lo 97 2 v' (sp.length + 1) (spV (sp.set k0 (m1, m2)) ++ [.int .i64 (e1 : Int), .int .i64 (e2 : Int)]) → wA.drew.grownBy w2 (Value.slice (some ⟨g, 0, none⟩) sp.length cg).ownBlock → (v'.ownBlock = (Value.slice (some ⟨g, 0, none⟩) sp.length cg).ownBlock ∨ v'.ownBlock = some wA.drew.heap.size) → w2.cell? ⟨P, 3, none⟩ = some (.slice (some ⟨g, 0, none⟩) sp.length cg) ∧ w2.frozen? ⟨P, 3, none⟩ = false ∧ CtE wq (w2.setCell ⟨P, 3, none⟩ v') lo l0 h0 j0 j1 P R L C n ro' pl' cl v' (sp.set k0 (m1, m2) ++ [(e1, e2)]) vq q E e1 e2) := hid0 (fun v' w2 hown hgrow hat => by
                have hO2 : Only w8 w2 (fun k => (Value.slice (some ⟨g, 0, none⟩) sp.length cg).ownBlock = some k) := (hOA.mono (T := fun k => (Value.slice (some ⟨g, 0, none⟩) sp.length cg).ownBlock = some k) (fun _ h => False.elim h)).trans (show Only wA w2 (fun k => (Value.slice (some ⟨g, 0, none⟩) sp.length cg).ownBlock = some k) from ⟨hgrow.os, hgrow.tape, hgrow.output, hgrow.size, fun k hk hn => hgrow.block k hk (fun e => hn e.symm)⟩) (fun _ h => .inl h)
                obtain ⟨a1, a2, a3, a4⟩ := HPv.out.addSpan (e1, e2) hO2 (by rw [List.length_set]; exact hown) (by
                  rcases hat with e | e
                  · exact .inl e
                  · exact .inr ⟨wA.heap.size, by omega, e⟩)
                refine ⟨a2, a3, a1, (a4.block _ (Array.getElem?_eq_some_iff.1 HEv.out).1 (fun hh => ?_)).trans HEv.out, HFv.out.trans a4 (fun b hb => .inl ?_)⟩
                · rcases hh with hh | hh
                  · have := HLo.out
                    have : g = E := by simpa [Value.ownBlock] using hh
                    omega
                  · have := HLo.out
                    have := HLw.out.b4
                    omega
                · rcases hb with hb | hb
                  · exact HPv.out.gs b hb
                  · rw [hb]; exact HPv.out.g4.1)
              have c3 : w8.cell? ⟨P, 3, none⟩ = some (.slice (some ⟨g, 0, none⟩) sp.length cg) := HPv.out.cell.2.2.2.1
              have c3A : wA.cell? ⟨P, 3, none⟩ = some (.slice (some ⟨g, 0, none⟩) sp.length cg) := by rw [hwA]; exact cell_alloc c3 _
              have t0 : w8.cell? ⟨E, 0, none⟩ = some (.int .i64 (e1 : Int)) := by rw [cell_of_row _ _ _ _ _ _ HEv.out]; rfl
              have t1 : w8.cell? ⟨E, 1, none⟩ = some (.int .i64 (e2 : Int)) := by rw [cell_of_row _ _ _ _ _ _ HEv.out]; rfl
              have gA := hwA.symm
              have hspl : sp.length ≤ 4000000 := by have := HC1.out.prt.few; omega
              clear hwA hOA hsA
              go_wp2_with fail
              go_region_law ((refine step_append_own_at (by rfl) _ _ 81 (by rfl) lo 97 i0 _ 2 16 Tryd.underlying81 hi hz0' hz1 hz2 rfl (by decide) (.slice (some ⟨g, 0, none⟩) sp.length cg) sp.length (spV (sp.set k0 (m1, m2))) (by rfl) HOwn.out ⟨w8.heap.size, 0, none⟩ 1 1 [.int .i64 (e1 : Int), .int .i64 (e2 : Int)] (by rfl) (by rfl) HNew.out (by simp [Value.oneCell']) (by unfold maxLen; omega) (by omega) HLo8.out ?_; intro v' w2 hown hgrow hat; obtain ⟨g4, cap4, rfl⟩ := Go.Joins.ownsRow_form hown (Nat.succ_pos _); obtain ⟨n1, n2, n3⟩ := HNx.out _ _ hown hgrow hat; have HN3 := hid0 n3; clear n3 hown hgrow hat))
              all_goals
                go_wp2_with fail
                go_meet
                case rel => exact ⟨_, _, HN3⟩
            case rest =>
              obtain ⟨g4, c4, HE⟩ := hcut
              have t0 : wc.cell? ⟨E, 0, none⟩ = some (.int .i64 (e1 : Int)) := by rw [cell_of_row _ _ _ _ _ _ HE.out.be]; rfl
              have t1 : wc.cell? ⟨E, 1, none⟩ = some (.int .i64 (e2 : Int)) := by rw [cell_of_row _ _ _ _ _ _ HE.out.be]; rfl
              have c0 : wc.cell? ⟨P, 0, none⟩ = some (.slice (some ⟨R, 0, none⟩) n n) := HE.out.pt.cell.1
              have i1' : (0 : Int) ≤ (e1 : Int) := by omega
              have i2' : (e1 : Int) ≤ (e2 : Int) := by omega
              have i3' : (e2 : Int) ≤ (n : Int) := by omega
              have i4' : ¬ n = e1 := by omega
              have hd3 : e2 - e1 = d3 := HD3.out.symm
              have hspl : sp.length ≤ 4000000 := by have := HC1.out.prt.few; omega
              obtain ⟨K, hK⟩ : ∃ K, K = sp.length := ⟨_, rfl⟩
              have hKI : ((sp.length + 1 : Nat) : Int) - 1 = (K : Int) := by omega
              have hKI2 : (sp.length : Int) + 1 - 1 = (K : Int) := by omega
              have hKW : IntKind.i64.wrap (K : Int) = (K : Int) := by simp [IntKind.wrap, IntKind.bits, IntKind.signed]; omega
              have HK := hid0 hK
              have HJ0 : Hid (CtG wq wc lo l0 h0 j0 j1 P R L C n ro' pl' (fun s => if e1 ≤ pl' s ∧ pl' s < e1 + 0 then K else cl s) (.slice (some ⟨g4, 0, none⟩) (sp.length + 1) c4) (sp.set k0 (m1, m2) ++ [(e1, e2)]) (q ++ seg ro' e1 (e1 + 0))) := hid0 ⟨vq, (by
                have e : seg ro' e1 (e1 + 0) = [] := by simp [seg]
                rw [e, List.append_nil]
                exact HE.out.pt.congr (fun s hs => by rw [if_neg (by omega)])), HE.out.frm⟩
              clear hK
              go_upto_region 16 with (fail)
              go_wp2
              go_quiet ((fail))
              clear t0 t1 c0
              go_wp2
              go_loopw [98] (fun i wr => ∃ j : Nat, j ≤ d3 ∧ i = .int .i64 (j : Int) ∧ Hid (CtG wq wr lo l0 h0 j0 j1 P R L C n ro' pl' (fun s => if e1 ≤ pl' s ∧ pl' s < e1 + j then K else cl s) (.slice (some ⟨g4, 0, none⟩) (sp.length + 1) c4) (sp.set k0 (m1, m2) ++ [(e1, e2)]) (q ++ seg ro' e1 (e1 + j)))) (fun i _ => d3 - (intOf i).toNat)
              case atStart => exact ⟨0, Nat.zero_le _, rfl, hid0 (HJ0.out.drew _)⟩
              case round =>
                obtain ⟨j, hj, rfl, HJ⟩ := hrel
                obtain ⟨vqj, hPj, hFj⟩ := HJ.out.pt
                by_cases hlt : j < d3
                · have hjI : (j : Int) < (d3 : Int) := by omega
                  have hj0 : (0 : Int) ≤ (j : Int) := by omega
                  have hpos : e1 + j < n := by have := HD3.out; omega
                  have hdr := hPj.row.cell hpos
                  obtain ⟨hsn, hsp⟩ := HSm.out.1.rl (e1 + j) hpos
                  obtain ⟨Q, hQ⟩ : ∃ Q, Q = q ++ seg ro' e1 (e1 + j) := ⟨_, rfl⟩
                  rw [← hQ] at hPj
                  have hQl : Q.length ≤ 6000000000000 := by rw [hQ, List.length_append]; simp [seg]; omega
                  have hQ2 : q ++ seg ro' e1 (e1 + (j + 1)) = Q ++ [ro' (e1 + j)] := by rw [seg_succ, hQ, List.append_assoc]
                  have hcl2 : ∀ t, t < n → putF (fun s => if e1 ≤ pl' s ∧ pl' s < e1 + j then K else cl s) (ro' (e1 + j)) K t = if e1 ≤ pl' t ∧ pl' t < e1 + (j + 1) then K else cl t := fun t ht => by
                    unfold putF
                    have hpt := HSm.out.1.lr t ht
                    by_cases e : t = ro' (e1 + j)
                    · rw [if_pos e, if_pos (by rw [e, hsp]; omega)]
                    · rw [if_neg e]
                      show (if e1 ≤ pl' t ∧ pl' t < e1 + j then K else cl t) = _
                      have hne : pl' t ≠ e1 + j := fun e' => e (by rw [← e']; exact hpt.2.symm)
                      by_cases e2' : e1 ≤ pl' t ∧ pl' t < e1 + j
                      · rw [if_pos e2', if_pos (by omega)]
                      · rw [if_neg e2', if_neg (by omega)]
                  have hS1 := (hPj.setClass (ro' (e1 + j)) K).congr hcl2
                  obtain ⟨s, hs⟩ : ∃ s, s = ro' (e1 + j) := ⟨_, rfl⟩
                  rw [← hs] at hdr hsn hS1 hQ2
                  have hsI : (s : Int) < (n : Int) := by omega
                  have hs0 : (0 : Int) ≤ (s : Int) := by omega
                  obtain ⟨_, _, p2, p3, _⟩ := hPj.cell
                  have fC := hPj.class'.frozen s
                  obtain ⟨zc, dC⟩ : ∃ zc, wr.cell? ⟨C, s, none⟩ = some zc := ⟨_, hPj.class'.cell hsn⟩
                  obtain ⟨zi, rfl⟩ : ∃ zi : Int, zc = .int .i64 zi := by
                    have := hPj.class'.cell hsn
                    rw [dC] at this
                    exact ⟨_, Option.some.inj this⟩
                  obtain ⟨x1, hx1⟩ : ∃ x1, x1 = wr.setCell ⟨C, s, none⟩ (.int .i64 (K : Int)) := ⟨_, rfl⟩
                  rw [← hx1] at hS1
                  obtain ⟨aq, cq, hvq, _⟩ := hPj.queue.ia
                  rw [natI_len] at hvq
                  subst hvq
                  have HP1 : Hid (Pt x1.drew lo l0 h0 j0 j1 P R L C n ro' pl' (fun t => if e1 ≤ pl' t ∧ pl' t < e1 + (j + 1) then K else cl t) (.slice (some ⟨g4, 0, none⟩) (sp.length + 1) c4) (sp.set k0 (m1, m2) ++ [(e1, e2)]) (.slice aq Q.length cq) Q) := hid0 (hS1.past ⟨rfl, rfl, rfl, Nat.le_refl _, fun _ _ => rfl⟩)
                  have HF1 : Hid (Only wq x1.drew (gapF lo l0 h0 j0 j1)) := hid0 (by
                    have ho : Only wr x1 (fun b => b = C) := by rw [hx1]; exact Only.setCell _ _ _ _
                    exact hFj.trans (show Only wr x1.drew (fun b => b = C) from ⟨ho.os, ho.tape, ho.output, ho.size, ho.block⟩) (fun b hb => .inl (by rw [hb]; exact hPj.g4.2.2.2)))
                  have gx1 := hx1.symm
                  have HQ2 := hid0 hQ2
                  clear hx1 hS1 hPj hFj hQ hQ2 hcl2 hsp HJ hs
                  go_upto_region 19 with (fail)
                  go_wp2_with fail
                  go_region
                  clear gx1 p2 p3 fC dC hdr
                  generalize x1.drew = v8 at *
                  have p4 : v8.cell? ⟨P, 4, none⟩ = some (.slice aq Q.length cq) := HP1.out.cell.2.2.2.2
                  have HNx : Hid (∀ (v' : Value) (w2 : World), w2.ownsRow lo 3 1 v' (Q.length + 1) ((natI Q).map (Value.int .i64) ++ [.int .i64 (s : Int)]) → (v8.alloc (.cells #[.int .i64 (s : Int)] 3)).grownBy w2 (Value.slice aq Q.length cq).ownBlock → (v'.ownBlock = (Value.slice aq Q.length cq).ownBlock ∨ v'.ownBlock = some (v8.alloc (.cells #[.int .i64 (s : Int)] 3)).heap.size) → w2.cell? ⟨P, 4, none⟩ = some (.slice aq Q.length cq) ∧ w2.frozen? ⟨P, 4, none⟩ = false ∧ CtG wq (w2.setCell ⟨P, 4, none⟩ v') lo l0 h0 j0 j1 P R L C n ro' pl' (fun t => if e1 ≤ pl' t ∧ pl' t < e1 + (j + 1) then K else cl t) (.slice (some ⟨g4, 0, none⟩) (sp.length + 1) c4) (sp.set k0 (m1, m2) ++ [(e1, e2)]) (q ++ seg ro' e1 (e1 + (j + 1)))) := hid0 (fun v' w2 hown hgrow hat => by
                    have hO2 : Only v8 w2 (fun k => (Value.slice aq Q.length cq).ownBlock = some k) := (Only.alloc v8 (.cells #[.int .i64 (s : Int)] 3) (fun k => (Value.slice aq Q.length cq).ownBlock = some k)).trans (Only.ofGrown hgrow) (fun _ h => .inl h)
                    obtain ⟨a1, a2, a3, a4⟩ := HP1.out.addQueue s hO2 hown (by
                      rcases hat with e | e
                      · exact .inl e
                      · exact .inr ⟨_, by simp, e⟩)
                    refine ⟨a2, a3, ⟨v', by rw [HQ2.out]; exact a1, HF1.out.trans a4 (fun b hb => .inl ?_)⟩⟩
                    rcases hb with hb | hb
                    · exact HP1.out.gq b hb
                    · rw [hb]; exact HP1.out.g4.1)
                  have HOw : Hid ((v8.alloc (.cells #[.int .i64 (s : Int)] 3)).ownsRow lo 3 1 (.slice aq Q.length cq) Q.length ((natI Q).map (Value.int .i64))) := hid0 (by
                    have h := HP1.out.queue
                    unfold OwnI at h
                    rw [natI_len] at h
                    exact World.ownsRow.alloc h _)
                  have HLo8 : Hid (lo ≤ (v8.alloc (.cells #[.int .i64 (s : Int)] 3)).heap.size) := hid0 (by have := HP1.out.g4.1.1; have := HP1.out.lt.1; simp; omega)
                  go_wp2_with (at_builtin; go_loud ((refine wpList_append_own_at _ rfl _ _ 25 rfl lo 3 i1 (.int .i64 0) 1 8 Tryd.underlying25 hi1 hy0 hy1 hy2 rfl (by decide) (.slice aq Q.length cq) Q.length ((natI Q).map (Value.int .i64)) rfl HOw.out ⟨v8.heap.size, 0, none⟩ 1 1 [.int .i64 (s : Int)] rfl rfl (cell_one_new _ _ _) (by simp [Value.oneCell']) (by unfold maxLen; omega) (by omega) HLo8.out ?_; intro v' w2 hown hgrow _ hat; obtain ⟨g5, cap5, rfl⟩ := Go.Joins.ownsRow_form hown (Nat.succ_pos _); obtain ⟨n1, n2, n3⟩ := HNx.out _ _ hown hgrow hat; have HN3 := hid0 n3; clear n3 hown hgrow hat)))
                  go_roundw
                  case rel => exact ⟨j + 1, by omega, by go_num, HN3⟩
                  case measure => simp [intOf]; omega
                · obtain rfl : j = d3 := by omega
                  have hjI : ¬ (j : Int) < (j : Int) := by omega
                  have HFin : Hid (CutW w lo l0 h0 j0 j1 P R L C n cl sp q S wr) := hid0 (by
                    have e : e1 + j = e2 := by have := HD3.out; omega
                    rw [e] at hPj
                    rw [HK.out] at hPj
                    exact ⟨ro', pl', _, _, _, vqj, _, hPj, HSm.out.1, by have := HSm.out.2.1; simpa using this, HOq.out wr hFj⟩)
                  clear hPj hFj HJ
                  go_wp2
                  go_returns
                  exact ⟨rfl, HFin.out⟩
end Go.Proofs.YtjemjccgfgijiaaDoor
