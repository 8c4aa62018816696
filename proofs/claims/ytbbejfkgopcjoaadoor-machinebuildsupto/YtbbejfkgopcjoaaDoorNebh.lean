/-
  MxJM, MxJW, MxKM, MxLM.
-/
import Derived.Test.YtbbejfkgopcjoaaDoorNeaa
import Derived.Test.YtbbejfkgopcjoaaDoorNeab
import Derived.Test.YtbbejfkgopcjoaaDoorNeag
import Derived.Lib.SmallJoins
import Derived.Test.YtbbejfkgopcjoaaDoorNeav
import Derived.Test.YtbbejfkgopcjoaaDoorNebb
namespace Go.Proofs.YtbbejfkgopcjoaaDoor.Lk
open Go.RowKit Go.Shelf
theorem app_nilI (w : World) (ty : TypeId) (c : Nat) : (Builtin.append_ #[34, 34] ty #[.slice none 0 0, .slice none 0 c]).run Tryd.prog w = .ok (.slice none 0 0) w := by
  go_simp
theorem wpList_spreadI {ops : Array Oper} {rest : List Oper} {op : Oper} {a : Act} {w : World} {Q : Exit → Act → World → Prop} (hgd : op.guard = none) (s x : Operand) (ho : op.op = .call { callee := .builtin .append, args := #[s, x], argTypes := #[34, 34] })
    (aN : Option Addr) (L : List Int) (cN base : Nat) (hs : a.eval s = .slice none 0 0) (hx : a.eval x = .slice aN L.length cN) (ha : IA w aN L) (hl : L.length ≤ 17592186044416) (hb : base ≤ w.heap.size)
    (h : ∀ v' w', OwnI w' base v' L → w.grownBy w' none → wpList Tryd.prog ops Q rest (a.put op.dst v') w') : wpList Tryd.prog ops Q (op :: rest) a w := by
  obtain ⟨i0, hi, hz0, hz1, hz2⟩ := info_parts infoInt
  cases aN with
  | none =>
    have hL : L = [] := by
      cases L with
      | nil => rfl
      | cons y r => obtain ⟨b, off, e, _⟩ := ha.at' 0 (by simp); cases e
    subst hL
    refine wpList_plain hgd fun K hK => ?_
    have hr := app_nilI w op.type cN
    unfold Oper.wp execOp
    simp only [ho, resolve, invoke, builtin, Sem.run_bind, Sem.run_pure, Result.andThen_ok, List.map_toArray, List.map_cons, List.map_nil, hs, hx, List.length_nil, hr]
    exact hK _ _ (h _ _ (World.ownsRow_nil _ _ _ _) ⟨rfl, rfl, rfl, Nat.le_refl _, fun _ _ _ => rfl⟩)
  | some ad =>
    refine wpList_append_own _ hgd s x 34 ho base 3 i0 (.int .i64 0) 1 8 Tryd.underlying34 hi hz0 hz1 hz2 rfl (by decide) (.slice none 0 0) 0 [] hs (World.ownsRow_nil _ _ _ _) ad L.length cN (L.map (Value.int .i64)) hx (by simp) (fun j u hu => ?_) (fun u hu => by obtain ⟨y, _, rfl⟩ := List.mem_map.1 hu; rfl) (by unfold maxLen; omega) (by omega) hb (fun v' w' h1 h2 _ => h v' w' (by rw [Nat.zero_add] at h1; exact h1) h2)
    have hj : j < L.length := by have := (List.getElem?_eq_some_iff.1 hu).1; simpa using this
    obtain ⟨b, off, e, h1, h2⟩ := ha.at' j hj
    cases e
    rw [Addr.add_mid, h2]
    have : (L.map (Value.int .i64))[j]? = some (.int .i64 L[j]) := by simp [hj]
    rw [this] at hu
    exact hu
/-- A list that list made: a mark behind it. -/
def LK (w : World) (lo g c : Nat) (L : List Int) : Prop := w.ownsRow lo 3 1 (.slice (some ⟨g, 0, none⟩) (L.length + 1) c) (L.length + 1) (L.map (Value.int .i64) ++ [.int .i64 (-99)])
theorem LK.ia {w : World} {lo g c : Nat} {L : List Int} (h : LK w lo g c L) : IA w (some ⟨g, 0, none⟩) L := ⟨fun k hk => ⟨g, 0, rfl, (World.ownsRow.lt h g rfl).2, by
  have := World.ownsRow.cellAt h k (by omega)
  rw [Nat.zero_add, this, List.getElem?_append_left (by simpa using hk)]
  simp [hk]⟩⟩
theorem LK.past {w w' : World} {lo g c : Nat} {L : List Int} (h : LK w lo g c L) (hb : Below w.heap.size w w') : LK w' lo g c L :=
  own_blk h (fun k hk => hb.block k (World.ownsRow.lt h k hk).2)
theorem LK.cap {w : World} {lo g c : Nat} {L : List Int} (h : LK w lo g c L) : L.length + 1 ≤ c := by
  rcases h.2 with ⟨e, _⟩ | ⟨g', cap, cur, e, _, _, h1, h2, _⟩
  · cases e
  · cases e; omega
theorem LK.mark {w : World} {lo g c : Nat} {L : List Int} (h : LK w lo g c L) : w.cell? ⟨g, L.length, none⟩ = some (.int .i64 (-99)) := by
  rw [World.ownsRow.cellAt h L.length (by omega), List.getElem?_append_right (by simp)]; simp
theorem LK.lt {w : World} {lo g c : Nat} {L : List Int} (h : LK w lo g c L) : lo ≤ g ∧ g < w.heap.size := World.ownsRow.lt h g rfl
theorem LK.frozen {w : World} {lo g c : Nat} {L : List Int} (h : LK w lo g c L) (k : Nat) : w.frozen? ⟨g, k, none⟩ = false := World.ownsRow.frozenAt h k
theorem LK.put {w : World} {lo g c : Nat} {L : List Int} (h : LK w lo g c L) (k : Nat) (hk : k < L.length) (z : Int) : LK (w.setCell ⟨g, k, none⟩ (.int .i64 z)) lo g c (L.set k z) := by
  have h1 := (World.ownsRow.stored h k (.int .i64 z)).1
  unfold LK
  rw [List.length_set, List.map_set]
  rw [List.set_append_left _ _ (by simpa using hk)] at h1
  exact h1
abbrev Lot := List (Value × List Int)
/-- A slice of such lists. -/
structure Pile (w : World) (base : Nat) (v : Value) (ps : Lot) : Prop where
  outer : w.ownsRow base 34 1 v ps.length (ps.map (·.1))
  row : ∀ x ∈ ps, ∃ g c, x.1 = .slice (some ⟨g, 0, none⟩) x.2.length c ∧ LK w base g c x.2
  apart : ps.Pairwise fun x y => ∀ g, x.1.ownBlock = some g → y.1.ownBlock ≠ some g
  away : ∀ x ∈ ps, ∀ g, v.ownBlock = some g → x.1.ownBlock ≠ some g
theorem Pile.nil (w : World) (base : Nat) : Pile w base (.slice none 0 0) [] := ⟨World.ownsRow_nil _ _ _ _, by simp, List.Pairwise.nil, by simp⟩
theorem Pile.later {w w' : World} {base : Nat} {v : Value} {ps : Lot} (h : Pile w base v ps) (hb : Below w.heap.size w w') : Pile w' base v ps :=
  ⟨row_later h.outer hb, fun x hx => by obtain ⟨g, c, e, hl⟩ := h.row x hx; exact ⟨g, c, e, hl.past hb⟩, h.apart, h.away⟩
theorem Pile.blk {w : World} {base : Nat} {v : Value} {ps : Lot} (h : Pile w base v ps) {x : Value × List Int} (hx : x ∈ ps) {g : Nat} (hg : x.1.ownBlock = some g) : base ≤ g ∧ g < w.heap.size := by
  obtain ⟨g', c, e, hl⟩ := h.row x hx
  rw [e] at hg
  obtain rfl : g' = g := by simpa [Value.ownBlock] using hg
  exact hl.lt
/-- What only other blocks are written into leaves a pile as it is. -/
theorem Pile.kept {w w' : World} {base : Nat} {v : Value} {ps : Lot} (h : Pile w base v ps) (hb : ∀ k, base ≤ k → k < w.heap.size → w'.heap[k]? = w.heap[k]?) : Pile w' base v ps :=
  ⟨own_blk h.outer (fun k hk => hb k (World.ownsRow.lt h.outer k hk).1 (World.ownsRow.lt h.outer k hk).2), fun x hx => by
    obtain ⟨g, c, e, hl⟩ := h.row x hx
    exact ⟨g, c, e, own_blk hl (fun k hk => hb k (World.ownsRow.lt hl k hk).1 (World.ownsRow.lt hl k hk).2)⟩, h.apart, h.away⟩
/-- One more, made behind the pile. -/
theorem Pile.snoc {W wr w1 : World} {base : Nat} {v v' : Value} {ps : Lot} {l : List Int} {g c : Nat} {o : Obj} {n : Nat} (hn : n = ps.length) (h : Pile W base v ps) (hk : Below W.heap.size W wr) (hx : LK wr W.heap.size g c l) (hbase : base ≤ W.heap.size)
    (hown' : w1.ownsRow base 34 1 v' (n + 1) (ps.map (·.1) ++ [.slice (some ⟨g, 0, none⟩) l.length c])) (hgrow : (wr.alloc o).grownBy w1 v.ownBlock) (hat : v'.ownBlock = v.ownBlock ∨ v'.ownBlock = some (wr.alloc o).heap.size) {w : World} (hb : Below base w W) :
    Pile w1 base v' (ps ++ [(.slice (some ⟨g, 0, none⟩) l.length c, l)]) ∧ Below base w w1 := by
  subst hn
  have h2 := h.later hk
  have hs := hk.size
  have hgl := hx.lt
  have old : ∀ {t : TypeId} {size m : Nat} {u : Value} {xs : List Value} {b : Nat}, wr.ownsRow b t size u m xs → (∀ g, v.ownBlock = some g → u.ownBlock ≠ some g) → w1.ownsRow b t size u m xs := fun {t size m u xs b} hu hne => by
    refine World.ownsRow.kept (World.ownsRow.alloc hu o) hgrow ?_
    cases e : u.ownBlock with
    | none => exact .inl rfl
    | some g => exact .inr fun hc => hne g hc.symm e
  have hxa : ∀ q, v.ownBlock = some q → q ≠ g := fun q hq hqg => by
    have e1 := (World.ownsRow.lt h.outer q hq).2
    omega
  refine ⟨⟨?_, ?_, ?_, ?_⟩, ?_⟩
  · rw [List.length_append, List.map_append]
    exact hown'
  · intro y hy
    rcases List.mem_append.1 hy with hy | hy
    · obtain ⟨g1, c1, e1, hl1⟩ := h2.row y hy
      refine ⟨g1, c1, e1, old hl1 (fun q hq hqg => ?_)⟩
      exact h.away y hy q hq (by rw [e1]; exact hqg)
    · rw [List.mem_singleton] at hy
      subst hy
      exact ⟨g, c, rfl, owns_lower (old hx (fun q hq hqg => hxa q hq (by simpa [Value.ownBlock] using hqg.symm))) hbase⟩
  · rw [List.pairwise_append]
    refine ⟨h.apart, List.pairwise_singleton _ _, ?_⟩
    intro y hy z hz q hq hzq
    rw [List.mem_singleton] at hz
    subst hz
    have e1 := (h.blk hy hq).2
    have e2 : g = q := by simpa [Value.ownBlock] using hzq
    omega
  · intro y hy q hq hyq
    have hyl : y.1.ownBlock = some q → q < wr.heap.size ∧ (y ∈ ps ∨ q = g) := fun e => by
      rcases List.mem_append.1 hy with hy | hy
      · exact ⟨(h2.blk hy e).2, .inl hy⟩
      · rw [List.mem_singleton] at hy
        subst hy
        have e2 : g = q := by simpa [Value.ownBlock] using e
        subst e2
        exact ⟨hgl.2, .inr rfl⟩
    obtain ⟨e1, e2⟩ := hyl hyq
    rcases hat with hat | hat
    · rw [hat] at hq
      rcases e2 with e2 | e2
      · exact h.away y e2 q hq hyq
      · exact hxa q hq e2
    · rw [hat] at hq
      simp at hq
      omega
  · refine ((hb.trans (hk.mono hbase)).alloc ?_ o).grown hgrow ?_ (fun k hk' => (World.ownsRow.lt h.outer k hk').1)
    · omega
    · simp; omega
theorem Pile.cells {w : World} {base : Nat} {v : Value} {ps : Lot} (h : Pile w base v ps) : ∃ a c, v = .slice a ps.length c ∧ (a = none → c = 0) ∧ ∀ j (hj : j < ps.length), ∃ b, a = some ⟨b, 0, none⟩ ∧ v.ownBlock = some b ∧ b < w.heap.size ∧ w.cell? ⟨b, j, none⟩ = some (ps[j]).1 := by
  have h0 := h.outer
  rcases h0.2 with ⟨hv, hn⟩ | ⟨g, cap, cur, hv, _⟩
  · exact ⟨none, 0, by rw [hv, hn], fun _ => rfl, fun j hj => by omega⟩
  · refine ⟨some ⟨g, 0, none⟩, cap, hv, fun e => (by cases e), fun j hj => ⟨g, rfl, by rw [hv]; rfl, ?_, ?_⟩⟩
    · exact (World.ownsRow.lt h0 g (by rw [hv]; rfl)).2
    · rw [hv] at h0
      rw [World.ownsRow.cellAt h0 j (by omega)]
      simp [hj]
theorem Pile.rwa {w : World} {base : Nat} {v : Value} {ps : Lot} (h : Pile w base v ps) : ∃ a c, v = .slice a ps.length c ∧ RwA w a (ps.map (·.2)) := by
  obtain ⟨a, c, hv, _, hc⟩ := h.cells
  refine ⟨a, c, hv, ⟨fun k hk => ?_⟩⟩
  have hk' : k < ps.length := by simpa using hk
  obtain ⟨b, rfl, _, hb, hcell⟩ := hc k hk'
  obtain ⟨g1, c1, e1, hl⟩ := h.row ps[k] (List.getElem_mem hk')
  refine ⟨b, 0, rfl, hb, some ⟨g1, 0, none⟩, c1, ?_, ?_⟩
  · rw [Nat.zero_add, hcell, e1]
    simp
  · simp only [List.getElem_map]
    exact hl.ia
end Go.Proofs.YtbbejfkgopcjoaaDoor.Lk
namespace Go.Proofs.YtbbejfkgopcjoaaDoor.Lk
open Go.RowKit Go.Shelf
set_option maxRecDepth 10000 in
set_option maxHeartbeats 800000 in
theorem list_any (L : List Int) (a : Option Addr) (cap : Nat) (w : World) (hl : L.length ≤ 17592186043904) (ha : IA w a L) :
    Calls Tryd.prog 37 #[.slice a L.length cap] w fun r w' => ∃ g c, r = .returned (.slice (some ⟨g, 0, none⟩) L.length c) ∧ LK w' w.heap.size g c L ∧ Below w.heap.size w w' := by
  obtain ⟨i0, hi, hz0, hz1, hz2⟩ := info_parts infoInt
  have HA := hid0 ha
  clear ha
  go_enter Tryd.func37, Tryd.ntmps37
  go_wp2_with (first
    | (at_builtin; go_loud ((
         refine wpList_append_own _ (by rfl) _ _ 34 (by rfl) w.heap.size 3 i0 (.int .i64 0) 1 8 Tryd.underlying34 hi hz0 hz1 hz2 rfl (by decide) (.slice av L.length cv) L.length (L.map (Value.int .i64)) (by rfl) (World.ownsRow.alloc HO1.out _) ⟨w1.heap.size, 0, none⟩ 1 1 [.int .i64 (-99)] (by rfl) (by rfl) (cell_one_new _ _ _) (by simp [Value.oneCell']) (by unfold maxLen; omega) (by omega) (by simp; omega) ?_
         intro v2 w2 hown2 hgrow2 _
         obtain ⟨g, c, rfl⟩ := Go.Joins.ownsRow_form hown2 (by omega)
         have HL2 : Hid (LK w2 w.heap.size g c L) := hid0 hown2
         have hcap := HL2.out.cap
         have HB2 := hid0 (((HB1.out).alloc (by omega) _).grown hgrow2 (by simp; omega) (fun q hq => (World.ownsRow.lt HO1.out q hq).1))
         clear hown2 hgrow2)))
    | (at_builtin; refine wpList_spreadI rfl _ _ rfl a L cap w.heap.size rfl rfl HA.out (by omega) (Nat.le_refl _) ?_; intro v1 w1 hown1 hgrow1; have hs1 := hgrow1.size; have HO1 := hid0 hown1; have HB1 := hid0 ((Below.refl w.heap.size w).grown hgrow1 (Nat.le_refl _) (fun k hk => by cases hk)); clear hown1 hgrow1; obtain ⟨av, cv, rfl⟩ : ∃ av cv, v1 = .slice av L.length cv := by { obtain ⟨av, cv, e, _⟩ := HO1.out.ia; exact ⟨av, cv, e⟩ })
    | fail)
  go_ret
  exact ⟨g, c, rfl, HL2.out, HB2.out⟩
set_option maxRecDepth 10000 in
set_option maxHeartbeats 800000 in
theorem still_any (L : List Int) (lo g c : Nat) (b : Option Addr) (cb : Nat) (w : World) (hl : L.length ≤ 1000000000) (h : LK w lo g c L) (hb : IA w b L) :
    Calls Tryd.prog 44 #[.slice (some ⟨g, 0, none⟩) L.length c, .slice b L.length cb] w fun r w' => r = .returned (.bool true) ∧ ∃ n, w' = w.drewN n := by
  have m1 := h.mark
  have hcap := h.cap
  have HS := hid0 (fun n => sameI L (some ⟨g, 0, none⟩) b c cb (w.drewN n) (by omega) (show IA (w.drewN n) _ _ from ⟨h.ia.at'⟩) (show IA (w.drewN n) _ _ from ⟨hb.at'⟩))
  have m2 : ∀ n, (w.drewN n).cell? ⟨g, L.length, none⟩ = some (.int .i64 (-99)) := fun n => m1
  have HM := hid0 m2
  clear h hb m2
  go_enter Tryd.func44, Tryd.ntmps44
  go_wp2_with (go_at_call 14; refine (HS.out 0).mono ?_; rintro e w1 ⟨rfl, n1, hw1⟩; have m3 := HM.out n1; have hw1' : w1 = w.drewN n1 := hw1; clear hw1; subst hw1')
  go_ret
  exact ⟨rfl, _, rfl⟩
theorem drew_moreL {w w' : World} {a b : Nat} (h : ∃ m, w' = (w.drewN (a + b)).drewN m) : ∃ n, w' = w.drewN (a + n) := by
  obtain ⟨m, hm⟩ := h
  exact ⟨b + m, by rw [hm, World.drewN_drewN, Nat.add_assoc]⟩
/-- Lists that rows made. -/
structure RwK (w : World) (lo : Nat) (a : Option Addr) (L : List (List Int)) : Prop where
  at' : ∀ k (h : k < L.length), ∃ b, a = some ⟨b, 0, none⟩ ∧ (∃ cs, w.heap[b]? = some (.cells cs 34 (0, 0))) ∧ ∃ g c, w.cell? ⟨b, k, none⟩ = some (.slice (some ⟨g, 0, none⟩) (L[k]).length c) ∧ LK w lo g c L[k]
theorem RwK.lower {w : World} {lo b : Nat} {a : Option Addr} {L : List (List Int)} (h : RwK w lo a L) (hb : b ≤ lo) : RwK w b a L := ⟨fun k hk => by
  obtain ⟨b1, e, h1, g, c, h2, h3⟩ := h.at' k hk
  exact ⟨b1, e, h1, g, c, h2, owns_lower h3 hb⟩⟩
theorem RwK.past {w w' : World} {lo : Nat} {a : Option Addr} {L : List (List Int)} (h : RwK w lo a L) (hb : Below w.heap.size w w') : RwK w' lo a L := ⟨fun k hk => by
  obtain ⟨b, e, h1, g, c, h2, h3⟩ := h.at' k hk
  obtain ⟨cs, hcs⟩ := h1
  have hl := (Array.getElem?_eq_some_iff.1 hcs).1
  exact ⟨b, e, ⟨cs, (hb.block _ hl).trans hcs⟩, g, c, (hb.cell (p := ⟨b, k, none⟩) hl).trans h2, h3.past hb⟩⟩
theorem RwK.rwa {w : World} {lo : Nat} {a : Option Addr} {L : List (List Int)} (h : RwK w lo a L) : RwA w a L := ⟨fun k hk => by
  obtain ⟨b, e, h1, g, c, h2, h3⟩ := h.at' k hk
  obtain ⟨cs, hcs⟩ := h1
  exact ⟨b, 0, e, (Array.getElem?_eq_some_iff.1 hcs).1, some ⟨g, 0, none⟩, c, by rw [Nat.zero_add]; exact h2, h3.ia⟩⟩
theorem Pile.rwk {w : World} {base : Nat} {v : Value} {ps : Lot} (h : Pile w base v ps) : ∃ a c, v = .slice a ps.length c ∧ (a = none → c = 0) ∧ RwK w base a (ps.map (·.2)) := by
  obtain ⟨a, c, hv, hn, hc⟩ := h.cells
  refine ⟨a, c, hv, hn, ⟨fun k hk => ?_⟩⟩
  have hk' : k < ps.length := by simpa using hk
  obtain ⟨b, rfl, hob, _, hcell⟩ := hc k hk'
  obtain ⟨g1, c1, e1, hl⟩ := h.row ps[k] (List.getElem_mem hk')
  refine ⟨b, rfl, own_typ h.outer hob, g1, c1, ?_, ?_⟩
  · rw [hcell, e1]
    simp
  · simp only [List.getElem_map]
    exact hl
set_option maxRecDepth 10000 in
set_option maxHeartbeats 800000 in
theorem rows_any (L : List (List Int)) (a : Option Addr) (cap : Nat) (w : World) (hl : L.length ≤ 5864062014634) (hr : ∀ r ∈ L, r.length ≤ 17592186043904) (ha : RwA w a L) :
    Calls Tryd.prog 36 #[.slice a L.length cap] w fun r w' => ∃ a c, r = .returned (.slice a L.length c) ∧ (a = none → c = 0) ∧ RwK w' w.heap.size a L ∧ Below w.heap.size w w' := by
  obtain ⟨i0, hi, hz0, hz1, hz2⟩ := info_parts infoInts
  have HA := hid0 ha
  have HR := hid0 hr
  clear ha hr
  go_enter Tryd.func36, Tryd.ntmps36
  go_wp2
  go_loopw [3, 4] (fun v i wr => ∃ (k : Nat) (ps : Lot), k ≤ L.length ∧ i = .int .i64 (k : Int) ∧ Hid (ps.map (·.2) = L.take k) ∧ Hid (ps.length = k) ∧ Hid (Pile wr w.heap.size v ps) ∧ Hid (Below w.heap.size w wr)) (fun _ i _ => L.length - (intOf i).toNat)
  case atStart => exact ⟨0, [], Nat.zero_le _, rfl, hid0 rfl, hid0 rfl, hid0 (Pile.nil _ _), hid0 (Below.refl _ _)⟩
  case round =>
    obtain ⟨k, ps, hk, rfl, HM, HK, HP, HB⟩ := hrel
    have hbs := HB.out.size
    by_cases hlt : k < L.length
    · obtain ⟨b, off, rfl, _, a1, c1, d1, i1⟩ := (HA.out.past HB.out).at' k hlt
      have hkI : (k : Int) < (L.length : Int) := by omega
      have hkI0 : (0 : Int) ≤ (k : Int) := by omega
      have HTK : Hid (L.take (k + 1) = L.take k ++ [L[k]]) := hid0 (by rw [List.take_add_one, List.getElem?_eq_getElem hlt]; rfl)
      have HLI := hid0 (list_any L[k] a1 c1 wr (HR.out _ (List.getElem_mem hlt)) i1)
      clear i1
      generalize L[k] = s at *
      have HOO : Hid (wr.ownsRow w.heap.size 34 1 u3 k (ps.map (·.1))) := hid0 (by have h := HP.out.outer; rw [HK.out] at h; exact h)
      go_wp2_with (first
        | (go_at_call 37; refine HLI.out.mono ?_; rintro e w1 ⟨g, c, rfl, hx, hb1⟩; have hs1 := hb1.size; have HX := hid0 hx; have HB1 := hid0 hb1; clear hx hb1)
        | (at_builtin; go_loud (refine wpList_append_own_at _ rfl _ _ 26 rfl w.heap.size 34 i0 (.slice none 0 0) 1 24 Tryd.underlying26 hi hz0 hz1 hz2 rfl (by decide) _ k (ps.map (·.1)) rfl (World.ownsRow.alloc (row_later HOO.out HB1.out) _) ⟨w1.heap.size, 0, none⟩ 1 1 [.slice (some ⟨g, 0, none⟩) s.length c] rfl rfl (cell_one_new _ _ _) (by simp [Value.oneCell']) (by unfold maxLen; omega) (by omega) (by simp; omega) ?_; intro v2 w2 hown2 hgrow2 _ hat2; have HS := hid0 (Pile.snoc (w := w) HK.out.symm HP.out HB1.out HX.out hbs hown2 hgrow2 hat2 HB.out); clear hown2 hgrow2 hat2))
        | fail)
      have HP2 := hid0 HS.out.1
      have HB2 := hid0 HS.out.2
      have HM2 : Hid ((ps ++ [(Value.slice (some ⟨g, 0, none⟩) s.length c, s)]).map (·.2) = L.take (k + 1)) := hid0 (by rw [List.map_append, HM.out, HTK.out]; rfl)
      have HK2 : Hid ((ps ++ [(Value.slice (some ⟨g, 0, none⟩) s.length c, s)]).length = k + 1) := hid0 (by rw [List.length_append, HK.out]; rfl)
      clear HS HP HB HM HK HOO HTK HX HB1
      go_roundw
      case rel => exact ⟨k + 1, _, by omega, by go_num, HM2, HK2, HP2, HB2⟩
      case measure => simp [intOf]; omega
    · have hkI : ¬ (k : Int) < (L.length : Int) := by omega
      have HE : Hid (ps.map (·.2) = L) := hid0 (by rw [HM.out, List.take_of_length_le (by omega)])
      clear HM
      go_wp2
      go_ret
      obtain ⟨a, c, e1, e2, e3⟩ := HP.out.rwk
      rw [HE.out] at e3
      have e4 : ps.length = L.length := by rw [← HE.out, List.length_map]
      rw [e4] at e1
      exact ⟨a, c, congrArg Ending.returned e1, e2, e3, HB.out⟩
set_option maxRecDepth 10000 in
set_option maxHeartbeats 800000 in
theorem stillRows_any (L : List (List Int)) (a b : Option Addr) (c cb lo : Nat) (w : World) (hl : L.length ≤ 1000000000) (hr : ∀ x ∈ L, x.length ≤ 1000000000) (hP : RwK w lo a L) (hb : RwA w b L) :
    Calls Tryd.prog 43 #[.slice a L.length c, .slice b L.length cb] w fun r w' => r = .returned (.bool true) ∧ ∃ n, w' = w.drewN n := by
  have HB := hid0 hb
  have HP := hid0 hP
  have HR := hid0 hr
  clear hb hP hr
  go_enter Tryd.func43, Tryd.ntmps43
  go_wp2
  go_loopw [5] (fun i wr => ∃ k : Nat, k ≤ L.length ∧ i = .int .i64 (k : Int) ∧ ∃ n, wr = w.drewN n) (fun i _ => L.length - (intOf i).toNat)
  case atStart => exact ⟨0, Nat.zero_le _, rfl, 0, rfl⟩
  case round =>
    obtain ⟨k, hk, rfl, nd, rfl⟩ := hrel
    by_cases hlt : k < L.length
    · obtain ⟨b1, rfl, _, g, cg, d1, hlk⟩ := HP.out.at' k hlt
      obtain ⟨b2, o2, rfl, _, a2, c2, d2, i2⟩ := HB.out.at' k hlt
      have hrl := HR.out _ (List.getElem_mem hlt)
      have HST := hid0 (fun n => still_any (L[k]) lo g cg a2 c2 (w.drewN n) hrl hlk ⟨i2.at'⟩)
      clear i2 hlk
      generalize L[k] = s at *
      have hkI : (k : Int) < (L.length : Int) := by omega
      have hkI0 : (0 : Int) ≤ (k : Int) := by omega
      go_wp2
      go_quiet ((go_at_call 44; exact (HST.out _).mono (fun _ _ h => ⟨h.1, drew_moreL h.2⟩)))
      go_wp2
      go_roundw
      case rel => exact ⟨k + 1, by omega, by go_num, _, rfl⟩
      case measure => simp [intOf]; omega
    · have hkI : ¬ (k : Int) < (L.length : Int) := by omega
      go_wp2
      go_ret
      exact ⟨rfl, nd, rfl⟩
end Go.Proofs.YtbbejfkgopcjoaaDoor.Lk
namespace Go.Proofs.YtbbejfkgopcjoaaDoor
open Go.RowKit Go.Shelf
theorem Lk.RwK.keB {T : List TypeId} {W W' : World} {lo : Nat} {a : Option Addr} {L : List (List Int)} (h : Lk.RwK W lo a L) (hk : KeB T W W') (h1 : 34 ∉ T) (h2 : 3 ∉ T) : Lk.RwK W' lo a L := ⟨fun k hk' => by
  obtain ⟨b, e, ⟨cs, hcs⟩, g, c, q1, q2⟩ := h.at' k hk'
  have e1 := hk.kp b _ hcs (fun cs' t' f' q => by injection q with _ q2; rw [← q2]; exact h1)
  exact ⟨b, e, ⟨cs, e1⟩, g, c, (World.cell?_of_block (w := W) (w' := W') (a := ⟨b, k, none⟩) (by show W'.heap[b]? = W.heap[b]?; rw [e1, hcs])).trans q1, hk.own q2 h2⟩⟩
/-- One pattern among values. -/
def PatV (W : World) (lo : Nat) (u : Nat → Option Value) (r : Pr) : Prop := ∃ (aL aO : Option Addr) (gF gA cL cF cA cO : Nat), u 0 = some (.slice aL r.Le.length cL) ∧ u 1 = some (.slice (some ⟨gF, 0, none⟩) r.Fi.length cF) ∧ u 2 = some (.slice (some ⟨gA, 0, none⟩) r.La.length cA) ∧ u 3 = some (.slice aO r.Fo.length cO) ∧ u 4 = some (.bool r.em) ∧ u 5 = some (.bool r.an) ∧ (aL = none → cL = 0) ∧ Lk.RwK W lo aL r.Le ∧ Lk.LK W lo gF cF r.Fi ∧ Lk.LK W lo gA cA r.La ∧ Lk.RwK W lo aO r.Fo
theorem PatV.keB {T : List TypeId} {W W' : World} {lo : Nat} {u : Nat → Option Value} {r : Pr} (h : PatV W lo u r) (hk : KeB T W W') (h1 : 34 ∉ T) (h2 : 3 ∉ T) : PatV W' lo u r := by
  obtain ⟨aL, aO, gF, gA, cL, cF, cA, cO, y0, y1, y2, y3, y4, y5, y6, r1, r2, r3, r4⟩ := h
  exact ⟨aL, aO, gF, gA, cL, cF, cA, cO, y0, y1, y2, y3, y4, y5, y6, r1.keB hk h1 h2, hk.own r2 h2, hk.own r3 h2, r4.keB hk h1 h2⟩
theorem PatV.same {W : World} {lo : Nat} {u u' : Nat → Option Value} {r : Pr} (h : PatV W lo u r) (e : ∀ j, j < 6 → u' j = u j) : PatV W lo u' r := by
  obtain ⟨aL, aO, gF, gA, cL, cF, cA, cO, y0, y1, y2, y3, y4, y5, y6, r1, r2, r3, r4⟩ := h
  exact ⟨aL, aO, gF, gA, cL, cF, cA, cO, (e 0 (by omega)).trans y0, (e 1 (by omega)).trans y1, (e 2 (by omega)).trans y2, (e 3 (by omega)).trans y3, (e 4 (by omega)).trans y4, (e 5 (by omega)).trans y5, y6, r1, r2, r3, r4⟩
/-- Patterns while they are lent. -/
structure PJL (W : World) (lo : Nat) (v : Value) (VS : List Value) (rs : List Pr) (k : Nat) : Prop where
  own : W.ownsRow lo 48 6 v k VS
  le : k ≤ rs.length
  at' : ∀ i (h : i < k), PatV W lo (fun j => VS[i * 6 + j]?) (rs[i]'(by omega))
theorem PJL.nil (W : World) (lo : Nat) (rs : List Pr) : PJL W lo (.slice none 0 0) [] rs 0 := ⟨World.ownsRow_nil _ _ _ _, Nat.zero_le _, fun _ h => absurd h (Nat.not_lt_zero _)⟩
theorem PJL.past {W W' : World} {lo : Nat} {v : Value} {VS : List Value} {rs : List Pr} {k : Nat} (h : PJL W lo v VS rs k) (hb : Below W.heap.size W W') : PJL W' lo v VS rs k := ⟨row_later h.own hb, h.le, fun i hi => (h.at' i hi).keB (KeB.below [] hb) (by simp) (by simp)⟩
theorem grown_onlyP {W W2 : World} {o : Obj} {v : Value} (hg : (W.alloc o).grownBy W2 v.ownBlock) : Only W W2 (fun k => v.ownBlock = some k) := (Only.alloc W o _).trans (Only.ofGrown hg) (fun _ h => .inl h)
theorem PJL.snoc {W W2 : World} {lo : Nat} {v v' : Value} {VS : List Value} {rs : List Pr} {k : Nat} {o : Obj} {x0 x1 x2 x3 x4 x5 : Value} (h : PJL W lo v VS rs k) (hk : k < rs.length) (hown : W2.ownsRow lo 48 6 v' (k + 1) (VS ++ [x0, x1, x2, x3, x4, x5])) (hg : (W.alloc o).grownBy W2 v.ownBlock) (hp : PatV W lo (fun j => [x0, x1, x2, x3, x4, x5][j]?) rs[k]) : PJL W2 lo v' (VS ++ [x0, x1, x2, x3, x4, x5]) rs (k + 1) := by
  have hK : KeB [48] W W2 := KeB.row h.own (by simp) (grown_onlyP hg)
  have hl : VS.length = k * 6 := h.own.1
  refine ⟨hown, hk, fun i hi => ?_⟩
  by_cases e : i = k
  · subst e
    refine (hp.keB hK (by decide) (by decide)).same (fun j hj => ?_)
    rw [List.getElem?_append_right (by omega), hl]
    congr 1
    omega
  · refine ((h.at' i (by omega)).keB hK (by decide) (by decide)).same (fun j hj => ?_)
    rw [List.getElem?_append_left (by omega)]
/-- Patterns that patterns made. -/
structure PatK (W : World) (lo G c : Nat) (rs : List Pr) : Prop where
  at' : ∀ i (h : i < rs.length), PatV W lo (fun j => W.cell? ⟨G, i * 6 + j, none⟩) rs[i]
  lt : G < W.heap.size
  mrk : W.cell? ⟨G, rs.length * 6, none⟩ = some (.slice none 0 0) ∧ W.cell? ⟨G, rs.length * 6 + 5, none⟩ = some (.bool true)
  cap : rs.length + 1 ≤ c
  fz : ∀ i, W.frozen? ⟨G, i, none⟩ = false
theorem frozen_pastP {w w' : World} (hb : Below w.heap.size w w') {b o : Nat} (h : b < w.heap.size) : w'.frozen? ⟨b, o, none⟩ = w.frozen? ⟨b, o, none⟩ := by
  unfold World.frozen?
  rw [show w'.heap[(⟨b, o, none⟩ : Addr).block]? = w.heap[(⟨b, o, none⟩ : Addr).block]? from hb.block b h]
theorem PatK.past {W W' : World} {lo G c : Nat} {rs : List Pr} (h : PatK W lo G c rs) (hb : Below W.heap.size W W') : PatK W' lo G c rs := ⟨fun i hi => ((h.at' i hi).keB (KeB.below [] hb) (by simp) (by simp)).same (fun j _ => hb.cell (p := ⟨G, i * 6 + j, none⟩) h.lt), Nat.lt_of_lt_of_le h.lt hb.size, ⟨(hb.cell (p := ⟨G, rs.length * 6, none⟩) h.lt).trans h.mrk.1, (hb.cell (p := ⟨G, rs.length * 6 + 5, none⟩) h.lt).trans h.mrk.2⟩, h.cap, fun i => (frozen_pastP hb h.lt).trans (h.fz i)⟩
theorem PatK.of {W W2 : World} {lo : Nat} {v : Value} {VS : List Value} {rs : List Pr} {o : Obj} {G c : Nat} (h : PJL W lo v VS rs rs.length) (hown : W2.ownsRow lo 48 6 (.slice (some ⟨G, 0, none⟩) (rs.length + 1) c) (rs.length + 1) (VS ++ [.slice none 0 0, .slice none 0 0, .slice none 0 0, .slice none 0 0, .bool false, .bool true])) (hg : (W.alloc o).grownBy W2 v.ownBlock) : PatK W2 lo G c rs := by
  have hK : KeB [48] W W2 := KeB.row h.own (by simp) (grown_onlyP hg)
  have hl : VS.length = rs.length * 6 := h.own.1
  refine ⟨fun i hi => ((h.at' i hi).keB hK (by decide) (by decide)).same (fun j hj => ?_), (World.ownsRow.lt hown G rfl).2, ⟨?_, ?_⟩, ?_, fun i => World.ownsRow.frozenAt hown i⟩
  · rw [World.ownsRow.cellAt hown (i * 6 + j) (by omega), List.getElem?_append_left (by omega)]
  · rw [World.ownsRow.cellAt hown _ (by omega), List.getElem?_append_right (by omega), hl, Nat.sub_self]
    rfl
  · rw [World.ownsRow.cellAt hown _ (by omega), List.getElem?_append_right (by omega), hl, Nat.add_sub_cancel_left]
    rfl
  · rcases hown.2 with ⟨e, _⟩ | ⟨g', cap, cur, e, _, _, q3, _⟩
    · cases e
    · cases e; exact q3
/-- Of no great size. -/
structure PrZ (r : Pr) : Prop where
  l1 : r.Le.length ≤ 4000000
  l2 : r.Fi.length ≤ 4000000
  l3 : r.La.length ≤ 4000000
  l4 : r.Fo.length ≤ 4000000
  r1 : ∀ l ∈ r.Le, l.length ≤ 4000000
  r4 : ∀ l ∈ r.Fo, l.length ≤ 4000000
theorem PaI.z {w : World} {a : Option Addr} {rs : List Pr} (h : PaI w a rs) : ∀ r ∈ rs, PrZ r := fun r hr => by
  obtain ⟨i, hi, rfl⟩ := List.getElem_of_mem hr
  obtain ⟨b, off, e, hbw, aL, aF, aA, aO, cL, cF, cA, cO, y0, y1, y2, y3, y4, y5, y6, y7⟩ := h.at' i hi
  exact ⟨y7.l1, y7.l2, y7.l3, y7.l4, y7.r1, y7.r4⟩
theorem PatK.pai {W : World} {lo G c : Nat} {rs : List Pr} (h : PatK W lo G c rs) (hz : ∀ r ∈ rs, PrZ r) : PaI W (some ⟨G, 0, none⟩) rs := ⟨fun i hi => by
  obtain ⟨aL, aO, gF, gA, cL, cF, cA, cO, y0, y1, y2, y3, y4, y5, y6, r1, r2, r3, r4⟩ := h.at' i hi
  have z := hz _ (List.getElem_mem hi)
  refine ⟨G, 0, rfl, h.lt, aL, some ⟨gF, 0, none⟩, some ⟨gA, 0, none⟩, aO, cL, cF, cA, cO, ?_, ?_, ?_, ?_, ?_, ?_, y6, r1.rwa, r2.ia, r3.ia, r4.rwa, z.l1, z.l2, z.l3, z.l4, z.r1, z.r4⟩
  · rw [Nat.zero_add]; exact y0
  · rw [Nat.zero_add]; exact y1
  · rw [Nat.zero_add]; exact y2
  · rw [Nat.zero_add]; exact y3
  · rw [Nat.zero_add]; exact y4
  · rw [Nat.zero_add]; exact y5⟩
end Go.Proofs.YtbbejfkgopcjoaaDoor
namespace Go.Proofs.YtbbejfkgopcjoaaDoor
open Go.RowKit Go.Shelf
theorem below_reflX (w : World) : Below w.heap.size w w := Below.refl _ _
/-- The empty positions. -/
abbrev pos0 : Obj := .cells #[.slice none 0 0, .slice none 0 0, .slice none 0 0, .slice none 0 0, .bool false] 46 (0, 0)
/-- Positions are laid. -/
structure LaidP (W v1 v2 v3 v4 v5 : World) (R : Nat) (a b c d e : Value) : Prop where
  g1 : W.setCell ⟨R, 0, none⟩ a = v1
  g2 : v1.setCell ⟨R, 1, none⟩ b = v2
  g3 : v2.setCell ⟨R, 2, none⟩ c = v3
  g4 : v3.setCell ⟨R, 3, none⟩ d = v4
  g5 : v4.setCell ⟨R, 4, none⟩ e = v5
  z : W.cell? ⟨R, 0, none⟩ = some (.slice none 0 0) ∧ W.cell? ⟨R, 1, none⟩ = some (.slice none 0 0) ∧ W.cell? ⟨R, 2, none⟩ = some (.slice none 0 0) ∧ W.cell? ⟨R, 3, none⟩ = some (.slice none 0 0) ∧ W.cell? ⟨R, 4, none⟩ = some (.bool false)
  a1 : v1.cell? ⟨R, 1, none⟩ = some (.slice none 0 0)
  a2 : v2.cell? ⟨R, 2, none⟩ = some (.slice none 0 0)
  a3 : v3.cell? ⟨R, 3, none⟩ = some (.slice none 0 0)
  a4 : v4.cell? ⟨R, 4, none⟩ = some (.bool false)
  f : ∀ k, W.frozen? ⟨R, k, none⟩ = false ∧ v1.frozen? ⟨R, k, none⟩ = false ∧ v2.frozen? ⟨R, k, none⟩ = false ∧ v3.frozen? ⟨R, k, none⟩ = false ∧ v4.frozen? ⟨R, k, none⟩ = false
  r : v5.heap[R]? = some (.cells #[a, b, c, d, e] 46 (0, 0))
  only : Only W v5 (fun k => k = R)
  w0 : W.heap[R]? = some pos0
theorem laidP {W : World} {R : Nat} (a b c d e : Value) (hrb : W.heap[R]? = some pos0) : ∃ v1 v2 v3 v4 v5, LaidP W v1 v2 v3 v4 v5 R a b c d e := by
  have r1 := heap_setCell_same W R 0 _ _ a hrb
  have r2 := heap_setCell_same _ R 1 _ _ b r1
  have r3 := heap_setCell_same _ R 2 _ _ c r2
  have r4 := heap_setCell_same _ R 3 _ _ d r3
  have r5 := heap_setCell_same _ R 4 _ _ e r4
  refine ⟨_, _, _, _, _, rfl, rfl, rfl, rfl, rfl, ⟨?_, ?_, ?_, ?_, ?_⟩, ?_, ?_, ?_, ?_, fun k => ⟨by simp [World.frozen?, hrb], by simp [World.frozen?, r1], by simp [World.frozen?, r2], by simp [World.frozen?, r3], by simp [World.frozen?, r4]⟩, r5, ((((Only.setCell _ _ _ _).trans (Only.setCell _ _ _ _) (fun _ h => .inl h)).trans (Only.setCell _ _ _ _) (fun _ h => .inl h)).trans (Only.setCell _ _ _ _) (fun _ h => .inl h)).trans (Only.setCell _ _ _ _) (fun _ h => .inl h), hrb⟩
  all_goals first
    | (rw [cell_of_row _ _ _ _ _ _ hrb]; rfl)
    | (rw [cell_of_row _ _ _ _ _ _ r1]; rfl)
    | (rw [cell_of_row _ _ _ _ _ _ r2]; rfl)
    | (rw [cell_of_row _ _ _ _ _ _ r3]; rfl)
    | (rw [cell_of_row _ _ _ _ _ _ r4]; rfl)
theorem pos_new (W : World) : (W.alloc pos0).heap[W.heap.size]? = some pos0 := heap_alloc_new W _
theorem pos_on {V W : World} {R : Nat} (h : V.heap[R]? = some pos0) (hb : Below V.heap.size V W) : W.heap[R]? = some pos0 := (hb.block _ (Array.getElem?_eq_some_iff.1 h).1).trans h
/-- What lies in the box of the new positions. -/
def KX (w1 wx : World) (lo Q : Nat) (vL vF vA vO : Value) (r : Pr) : Prop := wx.heap[Q]? = some (.cells #[vL, vF, vA, vO, .bool r.em] 46 (0, 0)) ∧ w1.heap.size ≤ Q ∧ Below w1.heap.size w1 wx ∧ PatV wx lo (fun j => [vL, vF, vA, vO, .bool r.em, .bool r.an][j]?) r
/-- The box, ahead of what is said of the lists. -/
structure KP (w1 u4 v5 : World) (Q : Nat) (a b c d e : Value) : Prop where
  q : w1.heap.size ≤ Q
  r : v5.heap[Q]? = some (.cells #[a, b, c, d, e] 46 (0, 0))
  k : KeB [46] u4 v5
theorem kx_pre {w1 u4 W v1 v2 v3 v4 v5 : World} {Q : Nat} {a b c d e : Value} (hl : LaidP W v1 v2 v3 v4 v5 Q a b c d e) (hq : w1.heap.size ≤ Q) (hb : Below w1.heap.size w1 u4) (hW : Below u4.heap.size u4 W) : KP w1 u4 v5 Q a b c d e ∧ Below w1.heap.size w1 v5 ∧ True := by
  have h1 := Below.later hb hW
  exact ⟨⟨hq, hl.r, (KeB.below _ hW).trans (KeB.only hl.only (fun k hk _ => by rw [hk]; exact ⟨_, _, _, hl.w0, by simp⟩))⟩, h1.trans (hl.only.below h1.size (fun k hk => by rw [hk]; exact hq)), trivial⟩
theorem kx_fin {w1 X0 X1 X2 X3 u1 u2 u3 u4 v5 : World} {lo Q gF gA cL cF cA cO nL nF nA nO : Nat} {em : Bool} {aL aO : Option Addr} {r : Pr} (hk : KP w1 u4 v5 Q (.slice aL nL cL) (.slice (some ⟨gF, 0, none⟩) nF cF) (.slice (some ⟨gA, 0, none⟩) nA cA) (.slice aO nO cO) (.bool em) ∧ Below w1.heap.size w1 v5 ∧ True) (hn : nL = r.Le.length ∧ nF = r.Fi.length ∧ nA = r.La.length ∧ nO = r.Fo.length) (he : em = r.em) (h1 : ((aL = none → cL = 0) ∧ Lk.RwK u1 X0.heap.size aL r.Le) ∧ lo ≤ X0.heap.size) (h2 : Lk.LK u2 X1.heap.size gF cF r.Fi ∧ lo ≤ X1.heap.size) (h3 : Lk.LK u3 X2.heap.size gA cA r.La ∧ lo ≤ X2.heap.size) (h4 : ((aO = none → cO = 0) ∧ Lk.RwK u4 X3.heap.size aO r.Fo) ∧ lo ≤ X3.heap.size) (hx2 : Below u1.heap.size u1 u2) (hx3 : Below u2.heap.size u2 u3) (hx4 : Below u3.heap.size u3 u4) : KX w1 v5 lo Q (.slice aL r.Le.length cL) (.slice (some ⟨gF, 0, none⟩) r.Fi.length cF) (.slice (some ⟨gA, 0, none⟩) r.La.length cA) (.slice aO r.Fo.length cO) r := by
  obtain ⟨rfl, rfl, rfl, rfl⟩ := hn
  subst he
  obtain ⟨hp, hb, _⟩ := hk
  refine ⟨hp.r, hp.q, hb, aL, aO, gF, gA, cL, cF, cA, cO, rfl, rfl, rfl, rfl, rfl, rfl, h1.1.1, ?_⟩
  exact ⟨((((h1.1.2.lower h1.2).past hx2).past hx3).past hx4).keB hp.k (by decide) (by decide), hp.k.own (Lk.LK.past (Lk.LK.past (owns_lower h2.1 h2.2) hx3) hx4) (by decide), hp.k.own (Lk.LK.past (owns_lower h3.1 h3.2) hx4) (by decide), (h4.1.2.lower h4.2).keB hp.k (by decide) (by decide)⟩
theorem pat_fin {W W2 : World} {lo k : Nat} {v : Value} {VS : List Value} {rs : List Pr} {o : Obj} {G c : Nat} (hk : k = rs.length) (h : PJL W lo v VS rs k) (hown : W2.ownsRow lo 48 6 (.slice (some ⟨G, 0, none⟩) (k + 1) c) (k + 1) (VS ++ [.slice none 0 0, .slice none 0 0, .slice none 0 0, .slice none 0 0, .bool false, .bool true])) (hg : (W.alloc o).grownBy W2 v.ownBlock) : PatK W2 lo G c rs := by
  subst hk
  exact PatK.of h hown hg
theorem infoPat : (Tryd.prog.info? 48).map (fun i => (i.zero, i.size, i.bytes)) = some (some (.agg #[.slice none 0 0, .slice none 0 0, .slice none 0 0, .slice none 0 0, .bool false, .bool false]), 6, 112) := by kernel_rfl
theorem cells6_new (w : World) (a b c d e f : Value) (t : TypeId) : ∀ j v, ([a, b, c, d, e, f] : List Value)[j]? = some v → (w.alloc (.cells #[a, b, c, d, e, f] t)).cell? ((⟨w.heap.size, 0, none⟩ : Addr).add j) = some v := by
  intro j v h
  rw [Addr.add_mid, cell_of_row _ _ _ _ _ _ (heap_alloc_new w _)]
  simpa using h
end Go.Proofs.YtbbejfkgopcjoaaDoor
