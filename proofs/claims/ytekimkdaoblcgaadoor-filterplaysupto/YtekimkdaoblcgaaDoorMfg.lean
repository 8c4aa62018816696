/-
  MrJM, FjGW, FjHW, FjKM, FjKW, FjAW, FjBM, FjBW, FjCW, PrCW, FjDW, FjEM.
-/
import Derived.Test.YtekimkdaoblcgaaDoorMfd
import Derived.Test.YtekimkdaoblcgaaDoorMff
import Derived.Test.YtekimkdaoblcgaaDoorMfc
import Derived.BigQuiet
namespace Go.Proofs.YtekimkdaoblcgaaDoor
open Go.RowKit Go.Shelf
theorem app_nilI (w : World) (ty : TypeId) : (Builtin.append_ #[28, 28] ty #[.slice none 0 0, .slice none 0 0]).run Tryd.prog w = .ok (.slice none 0 0) w := by
  go_simp
theorem wpList_spreadI {ops : Array Oper} {rest : List Oper} {op : Oper} {a : Act} {w : World} {Q : Exit → Act → World → Prop} (hgd : op.guard = none) (s x : Operand) (ho : op.op = .call { callee := .builtin .append, args := #[s, x], argTypes := #[28, 28] })
    (aN : Option Addr) (L : List Int) (cN base : Nat) (hs : a.eval s = .slice none 0 0) (hx : a.eval x = .slice aN L.length cN) (hnil : aN = none → cN = 0) (ha : IA w aN L) (hl : L.length ≤ 17592186044416) (hb : base ≤ w.heap.size)
    (h : ∀ v' w', OwnI w' base v' L → w.grownBy w' none → wpList Tryd.prog ops Q rest (a.put op.dst v') w') : wpList Tryd.prog ops Q (op :: rest) a w := by
  obtain ⟨i0, hi, hz0, hz1, hz2⟩ := info_parts infoInt
  cases aN with
  | none =>
    have hL : L = [] := by
      cases L with
      | nil => rfl
      | cons y r => obtain ⟨b, off, e, _⟩ := ha.at' 0 (by simp); cases e
    subst hL
    have hc := hnil rfl
    subst hc
    refine wpList_plain hgd fun K hK => ?_
    have hr := app_nilI w op.type
    unfold Oper.wp execOp
    simp only [ho, resolve, invoke, builtin, Sem.run_bind, Sem.run_pure, Result.andThen_ok, List.map_toArray, List.map_cons, List.map_nil, hs, hx, List.length_nil, hr]
    exact hK _ _ (h _ _ (World.ownsRow_nil _ _ _ _) ⟨rfl, rfl, rfl, Nat.le_refl _, fun _ _ _ => rfl⟩)
  | some ad =>
    refine wpList_append_own _ hgd s x 28 ho base 3 i0 (.int .i64 0) 1 8 Tryd.underlying28 hi hz0 hz1 hz2 rfl (by decide) (.slice none 0 0) 0 [] hs (World.ownsRow_nil _ _ _ _) ad L.length cN (L.map (Value.int .i64)) hx (by simp) (fun j u hu => ?_) (fun u hu => by obtain ⟨y, _, rfl⟩ := List.mem_map.1 hu; rfl) (by unfold maxLen; omega) (by omega) hb (fun v' w' h1 h2 _ => h v' w' (by rw [Nat.zero_add] at h1; exact h1) h2)
    have hj : j < L.length := by have := (List.getElem?_eq_some_iff.1 hu).1; simpa using this
    obtain ⟨b, off, e, h1, h2⟩ := ha.at' j hj
    cases e
    rw [Addr.add_mid, h2]
    have : (L.map (Value.int .i64))[j]? = some (.int .i64 L[j]) := by simp [hj]
    rw [this] at hu
    exact hu
/-- A list that list made: a mark behind it. -/
def LK (w : World) (lo g c : Nat) (L : List Int) : Prop := w.ownsRow lo 3 1 (.slice (some ⟨g, 0, none⟩) (L.length + 1) c) (L.length + 1) (L.map (Value.int .i64) ++ [.int .i64 (-99)])
theorem LK.ia {w : World} {lo g c : Nat} {L : List Int} (h : LK w lo g c L) : IA w (some ⟨g, 0, none⟩) L := ⟨fun k hk => ⟨g, 0, rfl, (World.ownsRow.lt h g rfl).2, by
  have := World.ownsRow.cellAt h k (by omega)
  rw [Nat.zero_add, this, List.getElem?_append_left (by simpa using hk)]
  simp [hk]⟩⟩
theorem LK.past {w w' : World} {lo g c : Nat} {L : List Int} (h : LK w lo g c L) (hb : Below w.heap.size w w') : LK w' lo g c L :=
  own_blk h (fun k hk => hb.block k (World.ownsRow.lt h k hk).2)
theorem LK.cap {w : World} {lo g c : Nat} {L : List Int} (h : LK w lo g c L) : L.length + 1 ≤ c := by
  rcases h.2 with ⟨e, _⟩ | ⟨g', cap, cur, e, _, _, h1, h2, _⟩
  · cases e
  · cases e; omega
theorem LK.mark {w : World} {lo g c : Nat} {L : List Int} (h : LK w lo g c L) : w.cell? ⟨g, L.length, none⟩ = some (.int .i64 (-99)) := by
  rw [World.ownsRow.cellAt h L.length (by omega), List.getElem?_append_right (by simp)]; simp
theorem LK.lt {w : World} {lo g c : Nat} {L : List Int} (h : LK w lo g c L) : lo ≤ g ∧ g < w.heap.size := World.ownsRow.lt h g rfl
theorem LK.frozen {w : World} {lo g c : Nat} {L : List Int} (h : LK w lo g c L) (k : Nat) : w.frozen? ⟨g, k, none⟩ = false := World.ownsRow.frozenAt h k
theorem LK.put {w : World} {lo g c : Nat} {L : List Int} (h : LK w lo g c L) (k : Nat) (hk : k < L.length) (z : Int) : LK (w.setCell ⟨g, k, none⟩ (.int .i64 z)) lo g c (L.set k z) := by
  have h1 := (World.ownsRow.stored h k (.int .i64 z)).1
  unfold LK
  rw [List.length_set, List.map_set]
  rw [List.set_append_left _ _ (by simpa using hk)] at h1
  exact h1
abbrev Lot := List (Value × List Int)
/-- A slice of such lists. -/
structure Pile (w : World) (base : Nat) (v : Value) (ps : Lot) : Prop where
  outer : w.ownsRow base 28 1 v ps.length (ps.map (·.1))
  row : ∀ x ∈ ps, ∃ g c, x.1 = .slice (some ⟨g, 0, none⟩) x.2.length c ∧ LK w base g c x.2
  apart : ps.Pairwise fun x y => ∀ g, x.1.ownBlock = some g → y.1.ownBlock ≠ some g
  away : ∀ x ∈ ps, ∀ g, v.ownBlock = some g → x.1.ownBlock ≠ some g
theorem Pile.nil (w : World) (base : Nat) : Pile w base (.slice none 0 0) [] := ⟨World.ownsRow_nil _ _ _ _, by simp, List.Pairwise.nil, by simp⟩
theorem row_later {w w' : World} {base : Nat} {t : TypeId} {size n : Nat} {v : Value} {xs : List Value} (h : w.ownsRow base t size v n xs) (hb : Below w.heap.size w w') : w'.ownsRow base t size v n xs := own_blk h (fun k hk => hb.block k (World.ownsRow.lt h k hk).2)
theorem Pile.later {w w' : World} {base : Nat} {v : Value} {ps : Lot} (h : Pile w base v ps) (hb : Below w.heap.size w w') : Pile w' base v ps :=
  ⟨row_later h.outer hb, fun x hx => by obtain ⟨g, c, e, hl⟩ := h.row x hx; exact ⟨g, c, e, hl.past hb⟩, h.apart, h.away⟩
theorem Pile.blk {w : World} {base : Nat} {v : Value} {ps : Lot} (h : Pile w base v ps) {x : Value × List Int} (hx : x ∈ ps) {g : Nat} (hg : x.1.ownBlock = some g) : base ≤ g ∧ g < w.heap.size := by
  obtain ⟨g', c, e, hl⟩ := h.row x hx
  rw [e] at hg
  obtain rfl : g' = g := by simpa [Value.ownBlock] using hg
  exact hl.lt
/-- What only other blocks are written into leaves a pile as it is. -/
theorem Pile.kept {w w' : World} {base : Nat} {v : Value} {ps : Lot} (h : Pile w base v ps) (hb : ∀ k, base ≤ k → k < w.heap.size → w'.heap[k]? = w.heap[k]?) : Pile w' base v ps :=
  ⟨own_blk h.outer (fun k hk => hb k (World.ownsRow.lt h.outer k hk).1 (World.ownsRow.lt h.outer k hk).2), fun x hx => by
    obtain ⟨g, c, e, hl⟩ := h.row x hx
    exact ⟨g, c, e, own_blk hl (fun k hk => hb k (World.ownsRow.lt hl k hk).1 (World.ownsRow.lt hl k hk).2)⟩, h.apart, h.away⟩
/-- One more, made behind the pile. -/
theorem Pile.snoc {W wr w1 : World} {base : Nat} {v v' : Value} {ps : Lot} {l : List Int} {g c : Nat} {o : Obj} {n : Nat} (hn : n = ps.length) (h : Pile W base v ps) (hk : Below W.heap.size W wr) (hx : LK wr W.heap.size g c l) (hbase : base ≤ W.heap.size)
    (hown' : w1.ownsRow base 28 1 v' (n + 1) (ps.map (·.1) ++ [.slice (some ⟨g, 0, none⟩) l.length c])) (hgrow : (wr.alloc o).grownBy w1 v.ownBlock) (hat : v'.ownBlock = v.ownBlock ∨ v'.ownBlock = some (wr.alloc o).heap.size) {w : World} (hb : Below base w W) :
    Pile w1 base v' (ps ++ [(.slice (some ⟨g, 0, none⟩) l.length c, l)]) ∧ Below base w w1 := by
  subst hn
  have h2 := h.later hk
  have hs := hk.size
  have hgl := hx.lt
  have old : ∀ {t : TypeId} {size m : Nat} {u : Value} {xs : List Value} {b : Nat}, wr.ownsRow b t size u m xs → (∀ g, v.ownBlock = some g → u.ownBlock ≠ some g) → w1.ownsRow b t size u m xs := fun {t size m u xs b} hu hne => by
    refine World.ownsRow.kept (World.ownsRow.alloc hu o) hgrow ?_
    cases e : u.ownBlock with
    | none => exact .inl rfl
    | some g => exact .inr fun hc => hne g hc.symm e
  have hxa : ∀ q, v.ownBlock = some q → q ≠ g := fun q hq hqg => by
    have e1 := (World.ownsRow.lt h.outer q hq).2
    omega
  refine ⟨⟨?_, ?_, ?_, ?_⟩, ?_⟩
  · rw [List.length_append, List.map_append]
    exact hown'
  · intro y hy
    rcases List.mem_append.1 hy with hy | hy
    · obtain ⟨g1, c1, e1, hl1⟩ := h2.row y hy
      refine ⟨g1, c1, e1, old hl1 (fun q hq hqg => ?_)⟩
      exact h.away y hy q hq (by rw [e1]; exact hqg)
    · rw [List.mem_singleton] at hy
      subst hy
      exact ⟨g, c, rfl, owns_lower (old hx (fun q hq hqg => hxa q hq (by simpa [Value.ownBlock] using hqg.symm))) hbase⟩
  · rw [List.pairwise_append]
    refine ⟨h.apart, List.pairwise_singleton _ _, ?_⟩
    intro y hy z hz q hq hzq
    rw [List.mem_singleton] at hz
    subst hz
    have e1 := (h.blk hy hq).2
    have e2 : g = q := by simpa [Value.ownBlock] using hzq
    omega
  · intro y hy q hq hyq
    have hyl : y.1.ownBlock = some q → q < wr.heap.size ∧ (y ∈ ps ∨ q = g) := fun e => by
      rcases List.mem_append.1 hy with hy | hy
      · exact ⟨(h2.blk hy e).2, .inl hy⟩
      · rw [List.mem_singleton] at hy
        subst hy
        have e2 : g = q := by simpa [Value.ownBlock] using e
        subst e2
        exact ⟨hgl.2, .inr rfl⟩
    obtain ⟨e1, e2⟩ := hyl hyq
    rcases hat with hat | hat
    · rw [hat] at hq
      rcases e2 with e2 | e2
      · exact h.away y e2 q hq hyq
      · exact hxa q hq e2
    · rw [hat] at hq
      simp at hq
      omega
  · refine ((hb.trans (hk.mono hbase)).alloc ?_ o).grown hgrow ?_ (fun k hk' => (World.ownsRow.lt h.outer k hk').1)
    · omega
    · simp; omega
theorem Pile.cells {w : World} {base : Nat} {v : Value} {ps : Lot} (h : Pile w base v ps) : ∃ a c, v = .slice a ps.length c ∧ (a = none → c = 0) ∧ ∀ j (hj : j < ps.length), ∃ b, a = some ⟨b, 0, none⟩ ∧ v.ownBlock = some b ∧ b < w.heap.size ∧ w.cell? ⟨b, j, none⟩ = some (ps[j]).1 := by
  have h0 := h.outer
  rcases h0.2 with ⟨hv, hn⟩ | ⟨g, cap, cur, hv, _⟩
  · exact ⟨none, 0, by rw [hv, hn], fun _ => rfl, fun j hj => by omega⟩
  · refine ⟨some ⟨g, 0, none⟩, cap, hv, fun e => (by cases e), fun j hj => ⟨g, rfl, by rw [hv]; rfl, ?_, ?_⟩⟩
    · exact (World.ownsRow.lt h0 g (by rw [hv]; rfl)).2
    · rw [hv] at h0
      rw [World.ownsRow.cellAt h0 j (by omega)]
      simp [hj]
theorem Pile.rwa {w : World} {base : Nat} {v : Value} {ps : Lot} (h : Pile w base v ps) : ∃ a c, v = .slice a ps.length c ∧ RwA w a (ps.map (·.2)) := by
  obtain ⟨a, c, hv, _, hc⟩ := h.cells
  refine ⟨a, c, hv, ⟨fun k hk => ?_⟩⟩
  have hk' : k < ps.length := by simpa using hk
  obtain ⟨b, rfl, _, hb, hcell⟩ := hc k hk'
  obtain ⟨g1, c1, e1, hl⟩ := h.row ps[k] (List.getElem_mem hk')
  refine ⟨b, 0, rfl, hb, some ⟨g1, 0, none⟩, c1, ?_, ?_⟩
  · rw [Nat.zero_add, hcell, e1]
    simp
  · simp only [List.getElem_map]
    exact hl.ia
/-- One number of one list written over. -/
theorem Pile.put {w : World} {base : Nat} {v : Value} {ps : Lot} (h : Pile w base v ps) (i : Nat) (hi : i < ps.length) {g c : Nat} (hp : (ps[i]).1 = .slice (some ⟨g, 0, none⟩) (ps[i]).2.length c) (k : Nat) (hk : k < (ps[i]).2.length) (z : Int) :
    ∃ ps', ps'.length = ps.length ∧ ps'.map (fun x => x.2.length) = ps.map (fun x => x.2.length) ∧ ps'.map (·.1) = ps.map (·.1) ∧ Pile (w.setCell ⟨g, k, none⟩ (.int .i64 z)) base v ps' := by
  have hmem : ps[i] ∈ ps := List.getElem_mem hi
  have hbl : (ps[i]).1.ownBlock = some g := by rw [hp]; rfl
  have haw : ∀ g', v.ownBlock = some g' → g' ≠ g := fun g' hg' e => by subst e; exact h.away _ hmem g' hg' hbl
  have keep : ∀ {t : TypeId} {size m : Nat} {u : Value} {xs : List Value}, w.ownsRow base t size u m xs → (∀ g', u.ownBlock = some g' → g' ≠ g) → (w.setCell ⟨g, k, none⟩ (.int .i64 z)).ownsRow base t size u m xs := by
    intro t size m u xs ho hne
    exact own_blk ho (fun q hq => Below.heap_setCell w _ _ q (hne q hq))
  have hmap : (ps.set i ((ps[i]).1, (ps[i]).2.set k z)).map (·.1) = ps.map (·.1) := by
    rw [List.map_set]
    apply List.ext_getElem
    · simp
    · intro j h1 h2
      rw [List.getElem_set]
      split
      · subst_vars; simp
      · rfl
  have hmap2 : (ps.set i ((ps[i]).1, (ps[i]).2.set k z)).map (fun x => x.2.length) = ps.map (fun x => x.2.length) := by
    rw [List.map_set]
    apply List.ext_getElem
    · simp
    · intro j h1 h2
      rw [List.getElem_set]
      split
      · subst_vars; simp
      · rfl
  refine ⟨ps.set i ((ps[i]).1, (ps[i]).2.set k z), by simp, hmap2, hmap, ?_, ?_, ?_, ?_⟩
  · rw [hmap, List.length_set]
    exact keep h.outer haw
  · intro x hx
    obtain ⟨j, hj, rfl⟩ := List.getElem_of_mem hx
    have hj2 : j < ps.length := by simpa using hj
    rw [List.getElem_set]
    split
    · obtain ⟨g1, c1, e1, hl⟩ := h.row _ hmem
      rw [hp] at e1
      simp only [Value.slice.injEq, Option.some.injEq, Addr.mk.injEq, and_true, true_and] at e1
      obtain ⟨rfl, rfl⟩ := e1
      exact ⟨g, c, by simp only [List.length_set]; exact hp, hl.put k hk z⟩
    · rename_i hne
      obtain ⟨g1, c1, e1, hl⟩ := h.row _ (List.getElem_mem hj2)
      refine ⟨g1, c1, e1, keep hl ?_⟩
      intro g' hg' e
      subst e
      have e2 : g1 = g' := by simpa [Value.ownBlock] using hg'
      subst e2
      have hbj : (ps[j]).1.ownBlock = some g1 := by rw [e1]; rfl
      have := List.pairwise_iff_getElem.1 h.apart
      rcases Nat.lt_or_gt_of_ne hne with hlt | hlt
      · exact this i j hi hj2 hlt g1 hbl hbj
      · exact this j i hj2 hi hlt g1 hbj hbl
  · have hpr : ∀ (qs : Lot), qs.Pairwise (fun x y => ∀ g, x.1.ownBlock = some g → y.1.ownBlock ≠ some g) ↔ (qs.map (·.1)).Pairwise (fun x y => ∀ g, x.ownBlock = some g → y.ownBlock ≠ some g) := fun qs => by rw [List.pairwise_map]
    rw [hpr, hmap, ← hpr]
    exact h.apart
  · intro x hx g' hg'
    have hx1 : x.1 ∈ ps.map (·.1) := by rw [← hmap]; exact List.mem_map_of_mem hx
    obtain ⟨y, hy, hye⟩ := List.mem_map.1 hx1
    rw [← hye]
    exact h.away y hy g' hg'
end Go.Proofs.YtekimkdaoblcgaaDoor
namespace Go.Proofs.YtekimkdaoblcgaaDoor
open Go.RowKit Go.Shelf Go.Maps
/-- A list with marks behind it. -/
def MkL (w : World) (lo g c : Nat) (L : List Int) : Prop := OwnI w lo (.slice (some ⟨g, 0, none⟩) (L ++ List.replicate 64 (-55)).length c) (L ++ List.replicate 64 (-55))
set_option maxRecDepth 100000 in
set_option maxHeartbeats 800000 in
theorem marked_any (L : List Int) (a : Option Addr) (cap : Nat) (w : World) (hl : L.length ≤ 1000000000) (ha : IA w a L) (hn : a = none → cap = 0) :
    Calls Tryd.prog 13 #[.slice a L.length cap] w fun r w' => ∃ g c, r = .returned (.slice (some ⟨g, 0, none⟩) L.length c) ∧ MkL w' w.heap.size g c L ∧ Below w.heap.size w w' := by
  obtain ⟨i0, hi, hz0, hz1, hz2⟩ := info_parts infoInt
  have HA := hid0 ha
  clear ha
  go_enter Tryd.func13, Tryd.ntmps13
  go_upto_region 3 with (at_builtin; go_loud ((
    refine wpList_spreadI rfl _ _ rfl a L cap w.heap.size rfl rfl hn HA.out (by omega) (Nat.le_refl _) ?_
    intro v1 w1 ho1 hg1
    have HO1 := hid0 ho1
    have HB1 : Hid (Below w.heap.size w w1) := hid0 ((Below.refl _ _).grown hg1 (Nat.le_refl _) (fun q hq => by cases hq))
    clear ho1 hg1)))
  go_wp2
  go_loopw [3, 4] (fun v x wr => ∃ k : Nat, k ≤ 64 ∧ x = .int .i64 (k : Int) ∧ Hid (OwnI wr w.heap.size v (L ++ List.replicate k (-55))) ∧ Hid (Below w.heap.size w wr)) (fun _ x _ => 64 - (intOf x).toNat)
  case atStart => exact ⟨0, Nat.zero_le _, rfl, hid0 (by rw [List.replicate_zero, List.append_nil]; exact HO1.out), HB1⟩
  case round =>
    obtain ⟨k, hk, rfl, HO, HB⟩ := hrel
    have hsz := HB.out.size
    by_cases hlt : k < 64
    · have hkI : (k : Int) < 64 := by omega
      have HE : Hid (L ++ List.replicate (k + 1) (-55) = (L ++ List.replicate k (-55)) ++ [(-55 : Int)]) := hid0 (by rw [List.replicate_succ', List.append_assoc])
      have hXl : (L ++ List.replicate k (-55 : Int)).length ≤ 1000000064 := by rw [List.length_append, List.length_replicate]; omega
      generalize L ++ List.replicate k (-55 : Int) = X at *
      obtain ⟨av3, cv3, ev3, _⟩ := HO.out.ia
      subst ev3
      go_wp2_with (at_builtin; go_loud ((
        refine wpList_append_own_at _ rfl _ _ 28 rfl w.heap.size 3 i0 (.int .i64 0) 1 8 Tryd.underlying28 hi hz0 hz1 hz2 rfl (by decide) _ X.length (X.map (Value.int .i64)) rfl (World.ownsRow.alloc HO.out _) ⟨wr.heap.size, 0, none⟩ 1 1 [.int .i64 (-55)] rfl rfl (cell_one_new _ _ _) (by simp [Value.oneCell']) (by unfold maxLen; omega) (by omega) (by simp; omega) ?_
        intro v2 w3 hown2 hgrow2 _ _
        have R := ownI_snoc rfl HO.out hown2 hgrow2 HB.out (Nat.le_refl _)
        have HO3 := hid0 R.1
        have HB3 := hid0 R.2
        obtain ⟨av2, cv2, ev2, _⟩ := R.1.ia
        rw [List.length_append, List.length_singleton] at ev2
        subst ev2
        clear R hown2 hgrow2)))
      go_roundw
      case rel => exact ⟨k + 1, by omega, by go_num, hid0 (by rw [HE.out]; exact HO3.out), HB3⟩
      case measure => simp [intOf]; omega
    · have hkI : ¬ (k : Int) < 64 := by omega
      obtain rfl : k = 64 := by omega
      obtain ⟨g, c, e, _⟩ := own_form HO.out (by simp)
      subst e
      have hc : (L.length : Int) ≤ (c : Int) := by
        obtain ⟨a', c', e', _, h2, _⟩ := own_slice HO.out
        injection e' with _ _ e3
        rw [List.length_append, List.length_replicate] at h2
        omega
      have hLn : (L ++ List.replicate 64 (-55 : Int)).length = L.length + 64 := by rw [List.length_append, List.length_replicate]
      have HM : Hid (MkL wr w.heap.size g c L) := hid0 HO.out
      clear HO
      generalize (L ++ List.replicate 64 (-55 : Int)).length = N at *
      clear hLn
      go_wp2
      go_ret
      exact ⟨g, c, rfl, HM.out, HB.out⟩
end Go.Proofs.YtekimkdaoblcgaaDoor
namespace Go.Proofs.YtekimkdaoblcgaaDoor
open Go.RowKit Go.Shelf Go.Maps
theorem MkL.past {w w' : World} {lo g c : Nat} {L : List Int} (h : MkL w lo g c L) (hb : Below w.heap.size w w') : MkL w' lo g c L := OwnI.past h hb
theorem MkL.all {w : World} {lo g c : Nat} {L : List Int} (h : MkL w lo g c L) : IA w (some ⟨g, 0, none⟩) (L ++ List.replicate 64 (-55)) ∧ L.length + 64 ≤ c := by
  obtain ⟨a', c', e', h1, h2, _⟩ := own_slice h
  injection e' with e1 _ e3
  rw [List.length_append, List.length_replicate] at h2
  exact ⟨by rw [e1]; exact h1, by omega⟩
theorem MkL.ia {w : World} {lo g c : Nat} {L : List Int} (h : MkL w lo g c L) : IA w (some ⟨g, 0, none⟩) L := ⟨fun k hk => by
  obtain ⟨b, off, e, h1, h2⟩ := h.all.1.at' k (by rw [List.length_append]; omega)
  refine ⟨b, off, e, h1, ?_⟩
  rw [h2, List.getElem_append_left hk]⟩
theorem MkL.mark {w : World} {lo g c : Nat} {L : List Int} (h : MkL w lo g c L) (k : Nat) (h1 : L.length ≤ k) (h2 : k < L.length + 64) : w.cell? ⟨g, k, none⟩ = some (.int .i64 (-55)) := by
  obtain ⟨b, off, e, _, h4⟩ := h.all.1.at' k (by rw [List.length_append, List.length_replicate]; omega)
  injection e with e
  injection e with e1 e2
  subst e1 e2
  rw [Nat.zero_add] at h4
  rw [h4, List.getElem_append_right h1, List.getElem_replicate]
set_option maxRecDepth 100000 in
set_option maxHeartbeats 800000 in
theorem still_any (L M : List Int) (lo g c : Nat) (b : Option Addr) (cb : Nat) (w : World) (hl : L.length ≤ 1000000000) (h : MkL w lo g c L) (hb : IA w b M) :
    Calls Tryd.prog 17 #[.slice (some ⟨g, 0, none⟩) L.length c, .slice b M.length cb] w fun r w' => r = .returned (.bool (decide (L = M))) ∧ ∃ n, w' = w.drewN n := by
  have HS := hid0 (sameInts_any L M (some ⟨g, 0, none⟩) b c cb w (by omega) h.ia hb)
  have HK : Hid (∀ (q k : Nat), L.length ≤ k → k < L.length + 64 → (w.drewN q).cell? ⟨g, k, none⟩ = some (.int .i64 (-55))) := hid0 (fun q k h1 h2 => (h.past (below_drew' (Below.refl _ _) q)).mark k h1 h2)
  have hc := h.all.2
  obtain ⟨n, hn⟩ : ∃ n, n = L.length + 64 := ⟨_, rfl⟩
  have hnI : (L.length : Int) + 64 = (n : Int) := by omega
  have hnc : (n : Int) ≤ (c : Int) := by omega
  have HN := hid0 hn
  generalize decide (L = M) = bb at *
  clear h hb hc hn
  go_enter Tryd.func17, Tryd.ntmps17
  go_upto_region 2 with (go_at_call 10; go_loud ((
    refine HS.out.mono ?_
    rintro e w1 ⟨rfl, q, rfl⟩
    clear HS)))
  go_wp2
  go_loopw [7] (fun x wr => ∃ k : Nat, L.length ≤ k ∧ k ≤ n ∧ x = .int .i64 (k : Int) ∧ wr = w.drewN q) (fun x _ => n - (intOf x).toNat)
  case atStart => exact ⟨L.length, Nat.le_refl _, by have := HN.out; omega, rfl, rfl⟩
  case round =>
    obtain ⟨k, hk1, hk, rfl, rfl⟩ := hrel
    by_cases hlt : k < n
    · have hkI : (k : Int) < (n : Int) := by omega
      have hkI0 : (0 : Int) ≤ (k : Int) := by omega
      have c1 := HK.out q k hk1 (by have := HN.out; omega)
      go_wp2
      go_roundw
      case rel => exact ⟨k + 1, by omega, hlt, by go_num, trivial⟩
      case measure => simp [intOf]; omega
    · have hkI : ¬ (k : Int) < (n : Int) := by omega
      go_wp2
      go_ret
      exact ⟨rfl, q, rfl⟩
end Go.Proofs.YtekimkdaoblcgaaDoor
namespace Go.Proofs.YtekimkdaoblcgaaDoor
open Go.RowKit Go.Shelf Go.Lib Go.Maps
def slI (a : Nat → Option Addr) (n cp : Nat → Nat) (j : Nat) : Value := .slice (a j) (n j) (cp j)
def mkI (j : Nat) : Int := -7 - (j : Int)
theorem own_type {w : World} {lo t s n g : Nat} {v : Value} {xs : List Value} (h : w.ownsRow lo t s v n xs) (hg : v.ownBlock = some g) : ∃ cur fr, w.heap[g]? = some (.cells cur t fr) := by
  rcases h.2 with ⟨rfl, _⟩ | ⟨g', cap, cur, rfl, _, hr, _⟩
  · cases hg
  · cases hg
    exact ⟨_, _, hr⟩
/-- Four lists, each in memory of its own. -/
structure LoI (w : World) (base : Nat) (v : Nat → Value) (c : Nat → List Int) : Prop where
  own : ∀ j, j < 4 → OwnI w base (v j) (c j)
  apart : ∀ i j, i < 4 → j < 4 → i ≠ j → ∀ g, (v i).ownBlock = some g → (v j).ownBlock ≠ some g
structure FiI (w : World) (base : Nat) (v : Nat → Value) (n : Nat → Nat) (i k : Nat) (c : Nat → List Int) : Prop where
  lon : LoI w base v c
  len : ∀ j, j < 4 → (c j).length = n j
  is : ∀ j, j < 4 → ∀ q, q < n j → (j < i ∨ j = i ∧ q < k) → (c j)[q]? = some (mkI j)
theorem FiI.next {w : World} {base : Nat} {v : Nat → Value} {n : Nat → Nat} {i k : Nat} {c : Nat → List Int} (h : FiI w base v n i k c) (hk : n i ≤ k) : FiI w base v n (i + 1) 0 c :=
  ⟨h.lon, h.len, fun j hj q hq hs => h.is j hj q hq (by
    rcases hs with hs | hs
    · by_cases e : j = i
      · subst e; exact .inr ⟨rfl, by omega⟩
      · exact .inl (by omega)
    · omega)⟩
theorem OwnI.slice {w : World} {base : Nat} {a : Option Addr} {n cap : Nat} {L : List Int} (h : OwnI w base (.slice a n cap) L) (hn : L.length = n) (h0 : 0 < n) : ∃ g, a = some ⟨g, 0, none⟩ ∧ base ≤ g ∧ g < w.heap.size := by
  unfold OwnI at h
  rw [hn] at h
  obtain ⟨g, cap', e, h1, h2, _⟩ := own_form h h0
  injection e with e1
  exact ⟨g, e1, h1, h2⟩
theorem FiI.put {w : World} {base : Nat} {a : Nat → Option Addr} {n cp : Nat → Nat} {i k : Nat} {c : Nat → List Int} (h : FiI w base (slI a n cp) n i k c) (hi : i < 4) (hk : k < n i) :
    ∃ g, a i = some ⟨g, 0, none⟩ ∧ (slI a n cp i).ownBlock = some g ∧ (∃ u0, w.cell? ⟨g, k, none⟩ = some (.int .i64 u0)) ∧ w.frozen? ⟨g, k, none⟩ = false ∧
      ∃ c', FiI (w.setCell ⟨g, k, none⟩ (.int .i64 (mkI i))) base (slI a n cp) n i (k + 1) c' := by
  have ho := h.lon.own i hi
  have hl := h.len i hi
  have hkc : k < (c i).length := by omega
  obtain ⟨g, ha, hg1, hg2⟩ := OwnI.slice (a := a i) (cap := cp i) ho hl (by omega)
  have hvi : slI a n cp i = .slice (some ⟨g, 0, none⟩) (n i) (cp i) := by unfold slI; rw [ha]
  have hvb : (slI a n cp i).ownBlock = some g := by rw [hvi]; rfl
  rw [hvi] at ho
  have ho' : w.ownsRow base 3 1 (.slice (some ⟨g, 0, none⟩) (n i) (cp i)) (n i) ((c i).map (Value.int .i64)) := by unfold OwnI at ho; rw [hl] at ho; exact ho
  refine ⟨g, ha, hvb, ⟨_, (World.ownsRow.cellAt ho' k (by omega)).trans (by rw [List.getElem?_map, List.getElem?_eq_getElem hkc]; rfl)⟩, World.ownsRow.frozenAt ho' k, fun j => if j = i then (c i).set k (mkI i) else c j, ⟨⟨fun j hj => ?_, h.lon.apart⟩, fun j hj => ?_, fun j hj q hq hs => ?_⟩⟩
  · by_cases e : j = i
    · subst e
      rw [if_pos rfl, hvi]
      unfold OwnI
      rw [List.length_set, hl, List.map_set]
      exact (World.ownsRow.stored ho' _ _).1
    · rw [if_neg e]
      refine own_blk (h.lon.own j hj) (fun b hb => ?_)
      have hbg : b ≠ g := fun e2 => h.lon.apart i j hi hj (fun e3 => e e3.symm) g hvb (by rw [← e2]; exact hb)
      exact Below.heap_setCell _ _ _ b hbg
  · by_cases e : j = i
    · subst e; rw [if_pos rfl, List.length_set]; exact hl
    · rw [if_neg e]; exact h.len j hj
  · by_cases e : j = i
    · subst e
      rw [if_pos rfl, List.getElem?_set]
      by_cases e2 : k = q
      · subst e2; rw [if_pos rfl, if_pos hkc]
      · rw [if_neg e2]
        exact h.is j hj q hq (.inr ⟨rfl, by omega⟩)
    · rw [if_neg e]
      exact h.is j hj q hq (.inl (by omega))
theorem FiI.full {w : World} {base : Nat} {v : Nat → Value} {n : Nat → Nat} {c : Nat → List Int} (h : FiI w base v n 4 0 c) : LoI w base v (fun j => List.replicate (n j) (mkI j)) := by
  refine ⟨fun j hj => ?_, h.lon.apart⟩
  have e : c j = List.replicate (n j) (mkI j) := by
    refine List.ext_getElem? (fun q => ?_)
    by_cases hq : q < n j
    · rw [h.is j hj q hq (.inl hj), List.getElem?_replicate, if_pos hq]
    · rw [List.getElem?_eq_none (by rw [h.len j hj]; omega), List.getElem?_eq_none (by rw [List.length_replicate]; omega)]
  have h1 := h.lon.own j hj
  rw [e] at h1
  exact h1
/-- Numbers in memory, in a row of numbers. -/
structure IAt (w : World) (a : Option Addr) (L : List Int) : Prop where
  ia : IA w a L
  ty : ∀ p, a = some p → ∃ cur fr, w.heap[p.block]? = some (.cells cur 3 fr)
theorem IAt.only {w w' : World} {S : Nat → Prop} {a : Option Addr} {L : List Int} (h : IAt w a L) (ho : Only w w' S) (hs : ∀ p, a = some p → ¬ S p.block) : IAt w' a L :=
  ⟨h.ia.only ho hs, fun p hp => by
    obtain ⟨cur, fr, hr⟩ := h.ty p hp
    exact ⟨cur, fr, (ho.block p.block (Array.getElem?_eq_some_iff.1 hr).1 (hs p hp)).trans hr⟩⟩
theorem OwnI.iat {w : World} {base : Nat} {v : Value} {L : List Int} (h : OwnI w base v L) : ∃ a cap, v = .slice a L.length cap ∧ IAt w a L ∧ ∀ p, a = some p → v.ownBlock = some p.block ∧ p.off = 0 ∧ p.block < w.heap.size := by
  have h0 := h
  obtain ⟨a, cap, e, hia⟩ := h.ia
  rcases h.2 with ⟨e1, hn⟩ | ⟨g, cap', cur, e1, _⟩
  · rw [e1] at e
    injection e with e2
    subst e2
    exact ⟨none, 0, by rw [e1, hn], ⟨hia, fun p hp => nomatch hp⟩, fun p hp => nomatch hp⟩
  · have e' := e
    rw [e1] at e
    injection e with e2
    subst e2
    have hb : v.ownBlock = some g := by rw [e1]; rfl
    refine ⟨_, cap, e', ⟨hia, fun p hp => ?_⟩, fun p hp => ?_⟩
    · injection hp with hp
      subst hp
      exact own_type h0 hb
    · injection hp with hp
      subst hp
      exact ⟨hb, rfl, (World.ownsRow.lt h0 g hb).2⟩
/-- What does not change while they are grown. -/
structure Fx (w0 : World) (a : Nat → Option Addr) (n cp : Nat → Nat) : Prop where
  blk : ∀ j, j < 4 → ∀ p, a j = some p → (slI a n cp j).ownBlock = some p.block ∧ p.off = 0 ∧ p.block < w0.heap.size
  lt : ∀ j, j < 4 → ∀ g, (slI a n cp j).ownBlock = some g → g < w0.heap.size
  apart : ∀ i j, i < 4 → j < 4 → i ≠ j → ∀ g, (slI a n cp i).ownBlock = some g → (slI a n cp j).ownBlock ≠ some g
/-- While they are grown. -/
structure GrI (lo3 : Nat) (w : World) (base : Nat) (a : Nat → Option Addr) (n cp : Nat → Nat) (i : Nat) (us : Nat → Value) (v3 : Value) : Prop where
  ia : ∀ j, j < 4 → IA w (a j) (List.replicate (n j) (mkI j))
  own : ∀ j, j < 4 → i ≤ j → OwnI w base (slI a n cp j) (List.replicate (n j) (mkI j))
  gr : ∀ j, j < i → ∃ au cu, us j = .slice au (n j + 64) cu ∧ IAt w au (List.replicate (n j + 64) (mkI j)) ∧ ∀ p, au = some p → p.block < w.heap.size ∧ ∀ j', j' < 4 → i ≤ j' → (slI a n cp j').ownBlock ≠ some p.block
  more : w.ownsRow lo3 28 1 v3 i ((List.range i).map us)
/-- While one of them is grown: wi is the world in which that began. -/
structure GsI (lo3 : Nat) (wi w : World) (base : Nat) (a : Nat → Option Addr) (n cp : Nat → Nat) (i k : Nat) (us : Nat → Value) (v3 u : Value) : Prop where
  ia : ∀ j, j < 4 → IA w (a j) (List.replicate (n j) (mkI j))
  own : ∀ j, j < 4 → i + 1 ≤ j → OwnI w base (slI a n cp j) (List.replicate (n j) (mkI j))
  gr : ∀ j, j < i → ∃ au cu, us j = .slice au (n j + 64) cu ∧ IAt w au (List.replicate (n j + 64) (mkI j)) ∧ ∀ p, au = some p → p.block < wi.heap.size ∧ ∀ j', j' < 4 → i ≤ j' → (slI a n cp j').ownBlock ≠ some p.block
  more : w.ownsRow lo3 28 1 v3 i ((List.range i).map us)
  cur : OwnI w base u (List.replicate (n i + k) (mkI i))
  blk : u.ownBlock = (slI a n cp i).ownBlock ∨ ∃ g, u.ownBlock = some g ∧ wi.heap.size ≤ g
  size : wi.heap.size ≤ w.heap.size
section
variable {lo3 : Nat} {w0 wi w w2 : World} {base : Nat} {a : Nat → Option Addr} {n cp : Nat → Nat} {i k : Nat} {us : Nat → Value} {v3 v4 u u2 : Value}
theorem GrI.first (h : GrI lo3 w base a n cp i us v3) (hi : i < 4) : GsI lo3 w w base a n cp i 0 us v3 (slI a n cp i) :=
  ⟨h.ia, fun j hj hij => h.own j hj (by omega), h.gr, h.more, h.own i hi (Nat.le_refl _), .inl rfl, Nat.le_refl _⟩
theorem GsI.snoc (hF : Fx w0 a n cp) (hi : i < 4) (h0 : w0.heap.size ≤ wi.heap.size) (h : GsI lo3 wi w base a n cp i k us v3 u) {o : Obj}
    (hown : w2.ownsRow base 3 1 u2 (n i + k + 1) ((List.replicate (n i + k) (mkI i)).map (Value.int .i64) ++ [.int .i64 (mkI i)])) (hg : (w.alloc o).grownBy w2 u.ownBlock) (hat : u2.ownBlock = u.ownBlock ∨ u2.ownBlock = some (w.alloc o).heap.size)
    (hfr : ∀ g j x, u.ownBlock = some g → j < (n i + k) * 1 → (w.alloc o).cell? ⟨g, j, none⟩ = some x → w2.cell? ⟨g, j, none⟩ = some x) :
    GsI lo3 wi w2 base a n cp i (k + 1) us v3 u2 ∧ Only w w2 (fun b => u.ownBlock = some b) := by
  have ho1 : Only w w2 (fun b => u.ownBlock = some b) := ((Only.alloc w o (fun k => u.ownBlock = some k))).trans (T := fun k => u.ownBlock = some k) ⟨hg.os, hg.tape, hg.output, hg.size, fun k hk hn => hg.block k hk (fun e => hn e.symm)⟩ (fun i hi => .inl hi)
  have hub : ∀ b, b < wi.heap.size → (slI a n cp i).ownBlock ≠ some b → u.ownBlock ≠ some b := fun b hb hne e => by
    rcases h.blk with e1 | ⟨g, e1, e2⟩
    · rw [e1] at e; exact hne e
    · rw [e1] at e; injection e with e; omega
  have hss := ho1.size
  refine ⟨⟨fun j hj => ?_, fun j hj hij => ?_, fun j hj => ?_, ?_, ?_, ?_, by have := h.size; omega⟩, ho1⟩
  · by_cases e : j = i
    · subst e
      refine ⟨fun q hq => ?_⟩
      obtain ⟨b, off, ea, h1, c0⟩ := (h.ia j hj).at' q hq
      obtain ⟨_, hoff, _⟩ := hF.blk j hj _ ea
      simp only at hoff
      subst hoff
      refine ⟨b, 0, ea, Nat.lt_of_lt_of_le h1 ho1.size, ?_⟩
      rw [List.length_replicate] at hq
      by_cases eu : u.ownBlock = some b
      · exact hfr b _ _ eu (by omega) (cell_alloc c0 o)
      · exact (ho1.cell (p := ⟨b, 0 + q, none⟩) h1 eu).trans c0
    · exact (h.ia j hj).only ho1 (fun p hp => by
        obtain ⟨q1, _, q3⟩ := hF.blk j hj p hp
        exact hub p.block (by omega) (fun e2 => hF.apart i j hi hj (fun e3 => e e3.symm) _ e2 q1))
  · exact own_blk (h.own j hj hij) (fun b hb => ho1.block b (World.ownsRow.lt (h.own j hj hij) b hb).2 (hub b (by have := hF.lt j hj b hb; omega) (fun e2 => hF.apart i j hi hj (by omega) b e2 hb)))
  · obtain ⟨au, cu, e1, h1, h2⟩ := h.gr j hj
    exact ⟨au, cu, e1, h1.only ho1 (fun p hp => hub p.block (h2 p hp).1 ((h2 p hp).2 i hi (Nat.le_refl _))), h2⟩
  · exact own_blk h.more (fun b hb => ho1.block b (World.ownsRow.lt h.more b hb).2 (fun e => by
      obtain ⟨c1, f1, r1⟩ := own_type h.more hb
      obtain ⟨c2, f2, r2⟩ := own_type h.cur e
      rw [r1] at r2
      injection r2 with r2
      injection r2 with _ r2
      cases r2))
  · unfold OwnI
    rw [List.length_replicate, show n i + (k + 1) = (n i + k) + 1 by omega, List.replicate_succ', List.map_append]
    exact hown
  · rcases hat with e | e
    · rw [e]; exact h.blk
    · exact .inr ⟨_, e, by have := h.size; simp; omega⟩
/-- It is grown, and is put to the others. -/
theorem GsI.done (hF : Fx w0 a n cp) (hi : i < 4) (h0 : w0.heap.size ≤ wi.heap.size) (hl3 : lo3 = w0.heap.size) (h : GsI lo3 wi w base a n cp i 64 us v3 u) {o : Obj}
    (hown : w2.ownsRow lo3 28 1 v4 (i + 1) ((List.range i).map us ++ [u])) (hg : (w.alloc o).grownBy w2 v3.ownBlock) :
    GrI lo3 w2 base a n cp (i + 1) (fun j => if j = i then u else us j) v4 ∧ Only w w2 (fun b => v3.ownBlock = some b) := by
  have ho1 : Only w w2 (fun b => v3.ownBlock = some b) := ((Only.alloc w o (fun k => v3.ownBlock = some k))).trans (T := fun k => v3.ownBlock = some k) ⟨hg.os, hg.tape, hg.output, hg.size, fun k hk hn => hg.block k hk (fun e => hn e.symm)⟩ (fun i hi => .inl hi)
  have hlt : ∀ b, b < w0.heap.size → v3.ownBlock ≠ some b := fun b hb e => by have := (World.ownsRow.lt h.more b e).1; omega
  have hty : ∀ b, (∃ cur fr, w.heap[b]? = some (.cells cur 3 fr)) → v3.ownBlock ≠ some b := fun b ⟨cur, fr, hr⟩ e => by
    obtain ⟨c1, f1, r1⟩ := own_type h.more e
    rw [r1] at hr
    injection hr with hr
    injection hr with _ hr
    cases hr
  have hss := ho1.size
  refine ⟨⟨fun j hj => (h.ia j hj).only ho1 (fun p hp => hlt _ (hF.blk j hj p hp).2.2), fun j hj hij => own_blk (h.own j hj hij) (fun b hb => ho1.block b (World.ownsRow.lt (h.own j hj hij) b hb).2 (hlt b (hF.lt j hj b hb))), fun j hj => ?_, ?_⟩, ho1⟩
  · by_cases e : j = i
    · subst e
      rw [if_pos rfl]
      obtain ⟨au, cu, e1, h1, h2⟩ := h.cur.iat
      rw [List.length_replicate] at e1
      refine ⟨au, cu, e1, h1.only ho1 (fun p hp => hty _ (h1.ty p hp)), fun p hp => ⟨by have := (h2 p hp).2.2; omega, fun j' hj' hjj e3 => ?_⟩⟩
      have hb := (h2 p hp).1
      rcases h.blk with e4 | ⟨g, e4, e5⟩
      · rw [e4] at hb
        exact hF.apart j j' hi hj' (by omega) _ hb e3
      · rw [e4] at hb
        injection hb with hb
        have := hF.lt j' hj' _ e3
        omega
    · rw [if_neg e]
      obtain ⟨au, cu, e1, h1, h2⟩ := h.gr j (by omega)
      exact ⟨au, cu, e1, h1.only ho1 (fun p hp => hty _ (h1.ty p hp)), fun p hp => ⟨by have := (h2 p hp).1; have := h.size; omega, fun j' hj' hjj => (h2 p hp).2 j' hj' (by omega)⟩⟩
  · have e : (List.range (i + 1)).map (fun j => if j = i then u else us j) = (List.range i).map us ++ [u] := by
      rw [List.range_succ, List.map_append, List.map_singleton, if_pos rfl]
      congr 1
      refine List.map_congr_left (fun j hj => ?_)
      rw [if_neg (by have := List.mem_range.1 hj; omega)]
    rw [e]
    exact hown
end
end Go.Proofs.YtekimkdaoblcgaaDoor
namespace Go.Proofs.YtekimkdaoblcgaaDoor
open Go.RowKit Go.Shelf Go.Maps
set_option maxRecDepth 100000 in
set_option maxHeartbeats 3200000 in
theorem apart_any (G base : Nat) (a : Nat → Option Addr) (n cp : Nat → Nat) (c : Nat → List Int) (w : World) (hc : ∀ j, j < 4 → w.cell? ⟨G, j, none⟩ = some (.slice (a j) (n j) (cp j))) (hL : LoI w base (slI a n cp) c) (hn : ∀ j, j < 4 → (c j).length = n j) (hm : ∀ j, j < 4 → n j ≤ 1000000000) (hGo : ∀ j, j < 4 → (slI a n cp j).ownBlock ≠ some G) (hb : base ≤ w.heap.size) :
    Calls Tryd.prog 56 #[.slice (some ⟨G, 0, none⟩) 4 4] w fun r w' => r = .returned (.bool true) ∧ Only w w' (fun b => ∃ j, j < 4 ∧ (slI a n cp j).ownBlock = some b) := by
  obtain ⟨i0, hi0, hz0, hz1, hz2⟩ := info_parts infoInt
  obtain ⟨j0, hj0, hy0, hy1, hy2⟩ := info_parts infoInts
  obtain ⟨S, hS⟩ : ∃ S : Nat → Prop, S = fun b => ∃ j, j < 4 ∧ (slI a n cp j).ownBlock = some b := ⟨_, rfl⟩
  have HX : Hid (∀ V : World, Only w V S → ∀ j, j < 4 → V.cell? ⟨G, j, none⟩ = some (.slice (a j) (n j) (cp j))) := hid0 (fun V hV j hj => (hV.cell (p := ⟨G, j, none⟩) (World.block_lt_of_cell? w _ (hc j hj)) (by
    rw [hS]
    rintro ⟨j', h1, h2⟩
    exact hGo j' h1 h2)).trans (hc j hj))
  have HF0 : Hid (FiI w base (slI a n cp) n 0 0 c) := hid0 ⟨hL, hn, fun j _ q _ hs => by omega⟩
  have HFx : Hid (Fx w a n cp) := hid0 ⟨fun j hj p hp => by
    obtain ⟨a', cap, e, _, h2⟩ := (hL.own j hj).iat
    unfold slI at e
    injection e with e1
    subst e1
    exact h2 p hp, fun j hj g hg => (World.ownsRow.lt (hL.own j hj) g hg).2, hL.apart⟩
  have HM := hid0 hm
  have HS : Hid (∀ j, j < 4 → ∀ g, (slI a n cp j).ownBlock = some g → S g) := hid0 (fun j hj g hg => by rw [hS]; exact ⟨j, hj, hg⟩)
  have HB := hid0 hb
  rw [← hS]
  clear hc hL hn hm hGo hb hS
  go_enter Tryd.func56, Tryd.ntmps56
  go_wp2
  go_loopw [4, 5] (fun x _ wr => ∃ (i : Nat) (c' : Nat → List Int), i ≤ 4 ∧ x = .int .i64 (i : Int) ∧ Hid (FiI wr base (slI a n cp) n i 0 c') ∧ Hid (Only w wr S)) (fun x _ _ => 4 - (intOf x).toNat)
  case atStart => exact ⟨0, c, Nat.zero_le _, rfl, HF0, hid0 (Only.refl _ _)⟩
  case round =>
    clear HF0
    obtain ⟨i, c', hi4, rfl, HF, HO⟩ := hrel
    by_cases hlt : i < 4
    · have hiI : (i : Int) < 4 := by omega
      have hiI0 : (0 : Int) ≤ (i : Int) := by omega
      obtain ⟨z, hz⟩ : ∃ z : Int, mkI i = z := ⟨_, rfl⟩
      have hzw : IntKind.i64.wrap (-7 - (i : Int)) = z := by rw [← hz]; simp [mkI, IntKind.wrap, IntKind.bits, IntKind.signed]; omega
      have HZ := hid0 hz
      have hni : n i ≤ 1000000000 := HM.out i hlt
      clear hz
      go_wp2
      go_loopw [5] (fun x wr => ∃ (k : Nat) (c' : Nat → List Int), k ≤ n i ∧ x = .int .i64 (k : Int) ∧ Hid (FiI wr base (slI a n cp) n i k c') ∧ Hid (Only w wr S)) (fun x _ => n i - (intOf x).toNat)
      case atStart => exact ⟨0, c', Nat.zero_le _, rfl, HF, HO⟩
      case round =>
        clear HF HO
        obtain ⟨k, c2, hk, rfl, HF, HO⟩ := hrel
        have x0 : wr.cell? ⟨G, i, none⟩ = some (.slice (a i) (n i) (cp i)) := HX.out wr HO.out i hlt
        by_cases hkn : k < n i
        · have hkI : (k : Int) < (n i : Int) := by omega
          have hkI0 : (0 : Int) ≤ (k : Int) := by omega
          obtain ⟨g, ha, hvb, ⟨u0, d0⟩, f0, c3, hF3⟩ := HF.out.put hlt hkn
          rw [HZ.out] at hF3
          rw [ha] at x0
          have HF3 := hid0 hF3
          have HO3 : Hid (Only w (wr.setCell ⟨g, k, none⟩ (.int .i64 z)) S) := hid0 (by
            have hSg := HS.out i hlt g hvb
            exact HO.out.trans (Only.setCell _ _ _ _) (fun b hb => .inl (by rw [hb]; exact hSg)))
          clear hF3 hvb ha HF HO
          go_wp2
          go_roundw
          case rel => exact ⟨k + 1, c3, hkn, by go_num, HF3, HO3⟩
          case measure => simp [intOf]; omega
        · have hkI : ¬ (k : Int) < (n i : Int) := by omega
          have HF3 := hid0 (HF.out.next (by omega))
          go_wp2
          go_roundw
          case rel => exact ⟨i + 1, c2, hlt, by go_num, HF3, HO⟩
          case measure => simp [intOf]; omega
    · have hiI : ¬ (i : Int) < 4 := by omega
      obtain rfl : i = 4 := by omega
      have HLo := hid0 HF.out.full
      have HG0 : Hid (GrI w.heap.size wr base a n cp 0 (fun _ => .nilIface) (.slice none 0 0)) := hid0 ⟨fun j hj => by
        obtain ⟨a', cap, e, h1, _⟩ := (HLo.out.own j hj).iat
        unfold slI at e
        injection e with e1
        rw [e1]
        exact h1.ia, fun j hj _ => HLo.out.own j hj, fun j hj => absurd hj (Nat.not_lt_zero _), World.ownsRow_nil _ _ _ _⟩
      have HBW : Hid (base ≤ wr.heap.size) := hid0 (Nat.le_trans HB.out HO.out.size)
      clear HF HLo
      go_wp2
      go_loopw [3, 6, 7, 8] (fun v y _ _ wr => ∃ (i : Nat) (us : Nat → Value), i ≤ 4 ∧ y = .int .i64 (i : Int) ∧ Hid (GrI w.heap.size wr base a n cp i us v) ∧ Hid (Only w wr S) ∧ Hid (base ≤ wr.heap.size)) (fun _ y _ _ _ => 4 - (intOf y).toNat)
      case atStart => exact ⟨0, _, Nat.zero_le _, rfl, HG0, HO, HBW⟩
      case round =>
        clear HG0 HO HBW hi4 hiI
        obtain ⟨i, us, hi4, rfl, HG, HO, HBW⟩ := hrel
        by_cases hlt : i < 4
        · have hiI : (i : Int) < 4 := by omega
          have hiI0 : (0 : Int) ≤ (i : Int) := by omega
          have hni : n i ≤ 1000000000 := HM.out i hlt
          have x0 : wr.cell? ⟨G, i, none⟩ = some (.slice (a i) (n i) (cp i)) := HX.out wr HO.out i hlt
          obtain ⟨z, hz⟩ : ∃ z : Int, mkI i = z := ⟨_, rfl⟩
          have hzw : IntKind.i64.wrap (-7 - (i : Int)) = z := by rw [← hz]; simp [mkI, IntKind.wrap, IntKind.bits, IntKind.signed]; omega
          have HZ := hid0 hz
          clear hz
          obtain ⟨Wi, hWi⟩ : ∃ Wi, Wi = wr := ⟨_, rfl⟩
          obtain ⟨v3, hv3⟩ : ∃ v3, v3 = u3 := ⟨_, rfl⟩
          have HG1 : Hid (GsI w.heap.size Wi wr base a n cp i 0 us u3 (.slice (a i) (n i) (cp i))) := hid0 (by rw [hWi]; exact HG.out.first hlt)
          have HWi : Hid (w.heap.size ≤ Wi.heap.size) := hid0 (by rw [hWi]; exact HO.out.size)
          clear hWi hv3
          go_wp2
          go_loopw [7, 8] (fun u y wr => ∃ k : Nat, k ≤ 64 ∧ y = .int .i64 (k : Int) ∧ Hid (GsI w.heap.size Wi wr base a n cp i k us u3 u) ∧ Hid (Only w wr S) ∧ Hid (base ≤ wr.heap.size)) (fun _ y _ => 64 - (intOf y).toNat)
          case atStart => exact ⟨0, Nat.zero_le _, rfl, HG1, HO, HBW⟩
          case round =>
            clear HG1 HG HO HBW x0
            obtain ⟨k, hk, rfl, HG, HO, HBW⟩ := hrel
            by_cases hkn : k < 64
            · have hkI : (k : Int) < 64 := by omega
              have HOO : Hid (wr.ownsRow base 3 1 u7 (n i + k) ((List.replicate (n i + k) (mkI i)).map (Value.int .i64))) := hid0 (by have h := HG.out.cur; unfold OwnI at h; rw [List.length_replicate] at h; exact h)
              have hbw := HBW.out
              obtain ⟨au, cu, hu, _⟩ := HG.out.cur.ia
              rw [List.length_replicate] at hu
              subst hu
              generalize hXX : (List.replicate (n i + k) (mkI i)).map (Value.int .i64) = XX at *
              have HXX := hid0 hXX
              clear hXX
              go_wp2_with (at_builtin; go_loud ((
                refine wpList_append_own_front _ (by rfl) _ _ 28 (by rfl) base 3 i0 (.int .i64 0) 1 8 Tryd.underlying28 hi0 hz0 hz1 hz2 rfl (by decide) _ (n i + k) XX (by rfl) (World.ownsRow.alloc HOO.out _) ⟨wr.heap.size, 0, none⟩ 1 1 [.int .i64 z] (by rfl) (by rfl) (cell_one_new _ _ _) (by simp [Value.oneCell']) (by unfold maxLen; omega) (by omega) (by simp; omega) ?_
                intro v2 w2 hown2 hgrow2 hat2 hfr2
                rw [← HXX.out, ← HZ.out] at hown2
                have hsn := GsI.snoc HFx.out hlt HWi.out HG.out hown2 hgrow2 hat2 hfr2
                have HG2 := hid0 hsn.1
                have HO2 : Hid (Only w w2 S) := hid0 (HO.out.trans hsn.2 (fun b hb => by
                  rcases HG.out.blk with e | ⟨g, e, e2⟩
                  · rw [e] at hb; exact .inl (HS.out i hlt b hb)
                  · rw [e] at hb
                    injection hb with hb
                    exact .inr (by rw [← hb]; exact Nat.le_trans HWi.out e2)))
                have HBW2 : Hid (base ≤ w2.heap.size) := hid0 (Nat.le_trans hbw hsn.2.size)
                clear hown2 hgrow2 hat2 hfr2 hsn)))
              go_roundw
              case rel => exact ⟨k + 1, hkn, by go_num, HG2, HO2, HBW2⟩
              case measure => simp [intOf]; omega
            · have hkI : ¬ (k : Int) < 64 := by omega
              obtain rfl : k = 64 := by omega
              have HOO : Hid (wr.ownsRow w.heap.size 28 1 u3 i ((List.range i).map us)) := hid0 HG.out.more
              have hws : w.heap.size ≤ wr.heap.size := HO.out.size
              obtain ⟨au, cu, hu, _⟩ := HG.out.cur.ia
              rw [List.length_replicate] at hu
              subst hu
              go_wp2_with (at_builtin; go_loud ((
                refine wpList_append_own_at _ rfl _ _ 22 rfl w.heap.size 28 j0 (.slice none 0 0) 1 24 Tryd.underlying22 hj0 hy0 hy1 hy2 rfl (by decide) _ i ((List.range i).map us) rfl (World.ownsRow.alloc HOO.out _) ⟨wr.heap.size, 0, none⟩ 1 1 [.slice au (n i + 64) cu] rfl rfl (cell_one_new _ _ _) (by simp [Value.oneCell']) (by unfold maxLen; omega) (by omega) (by simp; omega) ?_
                intro v2 w2 hown2 hgrow2 _ hat2
                have hdn := GsI.done HFx.out hlt HWi.out rfl HG.out hown2 hgrow2
                have HG2 := hid0 hdn.1
                have HO2 : Hid (Only w w2 S) := hid0 (HO.out.trans hdn.2 (fun b hb => .inr (World.ownsRow.lt HOO.out b hb).1))
                have HBW2 : Hid (base ≤ w2.heap.size) := hid0 (Nat.le_trans HBW.out hdn.2.size)
                clear hown2 hgrow2 hat2 hdn)))
              go_roundw
              case rel => exact ⟨i + 1, _, hlt, by go_num, HG2, HO2, HBW2⟩
              case measure => simp [intOf]; omega
        · have hiI : ¬ (i : Int) < 4 := by omega
          obtain rfl : i = 4 := by omega
          obtain ⟨W1, hW1⟩ : ∃ W1, W1 = wr := ⟨_, rfl⟩
          have HIa : Hid (∀ j, j < 4 → IA W1 (a j) (List.replicate (n j) (mkI j))) := hid0 (by rw [hW1]; exact HG.out.ia)
          have HGr : Hid (∀ j, j < 4 → ∃ au cu, us j = .slice au (n j + 64) cu ∧ IA W1 au (List.replicate (n j + 64) (mkI j))) := hid0 (by
            rw [hW1]
            intro j hj
            obtain ⟨au, cu, e, h1, _⟩ := HG.out.gr j hj
            exact ⟨au, cu, e, h1.ia⟩)
          have hmo : ∃ g3 c3, u3 = .slice (some ⟨g3, 0, none⟩) 4 c3 ∧ ∀ j, j < 4 → W1.cell? ⟨g3, j, none⟩ = some (us j) := by
            rw [hW1]
            have h := HG.out.more
            obtain ⟨g3, c3, e, _⟩ := own_form h (by omega)
            subst e
            refine ⟨g3, c3, rfl, fun j hj => ?_⟩
            rw [World.ownsRow.cellAt h j (by omega)]
            simp [hj]
          obtain ⟨g3, c3, e3, hmo⟩ := hmo
          subst e3
          have HMo := hid0 hmo
          have HX1 : Hid (∀ j, j < 4 → W1.cell? ⟨G, j, none⟩ = some (.slice (a j) (n j) (cp j))) := hid0 (by rw [hW1]; exact HX.out wr HO.out)
          have HO1 : Hid (Only w W1 S) := hid0 (by rw [hW1]; exact HO.out)
          subst hW1
          clear HG HO hmo
          go_wp2
          go_loopw [9, 10] (fun y _ wr => ∃ i : Nat, i ≤ 4 ∧ y = .int .i64 (i : Int) ∧ wr = W1) (fun y _ _ => 4 - (intOf y).toNat)
          case atStart => exact ⟨0, Nat.zero_le _, rfl, rfl⟩
          case round =>
            obtain ⟨i, hi4, rfl, rfl⟩ := hrel
            by_cases hlt : i < 4
            · have hiI : (i : Int) < 4 := by omega
              have hiI0 : (0 : Int) ≤ (i : Int) := by omega
              have x0 := HX1.out i hlt
              have y0 := HMo.out i hlt
              obtain ⟨au, cu, eus, hau⟩ := HGr.out i hlt
              rw [eus] at y0
              obtain ⟨z, hz⟩ : ∃ z : Int, mkI i = z := ⟨_, rfl⟩
              have hzw : IntKind.i64.wrap (-7 - (i : Int)) = z := by rw [← hz]; simp [mkI, IntKind.wrap, IntKind.bits, IntKind.signed]; omega
              have HZ := hid0 hz
              have hni : n i ≤ 1000000000 := HM.out i hlt
              obtain ⟨m, hm⟩ : ∃ m, m = n i + 64 := ⟨_, rfl⟩
              rw [← hm] at y0 hau
              have HAu := hid0 hau
              have HMm := hid0 hm
              clear hz hau hm eus
              go_wp2
              go_loopw [10] (fun y wx => ∃ k : Nat, k ≤ m ∧ y = .int .i64 (k : Int) ∧ wx = wr) (fun y _ => m - (intOf y).toNat)
              case atStart => exact ⟨0, Nat.zero_le _, rfl, rfl⟩
              case round =>
                obtain ⟨k, hk, rfl, rfl⟩ := hrel
                by_cases hkn : k < m
                · have hkI : (k : Int) < (m : Int) := by omega
                  have hkI0 : (0 : Int) ≤ (k : Int) := by omega
                  have hmm := HMm.out
                  have hm2 : m ≤ 1000000064 := by omega
                  obtain ⟨b, off, ea, _, d0⟩ := HAu.out.at' k (by rw [List.length_replicate]; exact hkn)
                  rw [List.getElem_replicate, HZ.out] at d0
                  subst ea
                  have hzz : (z != z) = false := by simp
                  by_cases hkl : k < n i
                  · have hklI : (k : Int) < (n i : Int) := by omega
                    have hkld : decide ((k : Int) < (n i : Int)) = true := decide_eq_true hklI
                    obtain ⟨b2, off2, ea2, _, d2⟩ := (HIa.out i hlt).at' k (by rw [List.length_replicate]; exact hkl)
                    rw [List.getElem_replicate, HZ.out] at d2
                    rw [ea2] at x0
                    clear ea2 hmm
                    go_wp2
                    go_roundw
                    case rel => exact ⟨k + 1, hkn, by go_num, trivial⟩
                    case measure => simp [intOf]; omega
                  · have hklI : ¬ (k : Int) < (n i : Int) := by omega
                    have hkld : decide ((k : Int) < (n i : Int)) = false := decide_eq_false hklI
                    clear hmm
                    go_wp2
                    go_roundw
                    case rel => exact ⟨k + 1, hkn, by go_num, trivial⟩
                    case measure => simp [intOf]; omega
                · have hkI : ¬ (k : Int) < (m : Int) := by omega
                  go_wp2
                  go_roundw
                  case rel => exact ⟨i + 1, hlt, by go_num, trivial⟩
                  case measure => simp [intOf]; omega
            · have hiI : ¬ (i : Int) < 4 := by omega
              go_wp2
              go_ret
              exact ⟨rfl, HO1.out⟩
end Go.Proofs.YtekimkdaoblcgaaDoor
namespace Go.Proofs.YtekimkdaoblcgaaDoor
open Go.RowKit Go.Shelf Go.Maps
set_option maxRecDepth 100000 in
set_option maxHeartbeats 800000 in
theorem refHas_any (l : List Int) (x : Int) (al : Option Addr) (cl : Nat) (w : World) (hl : IA w al l) (h2 : l.length ≤ 1000000000) :
    Calls Tryd.prog 73 #[.slice al l.length cl, .int .i64 x] w fun r w' => r = .returned (.bool (decide (x ∈ l))) ∧ w' = w := by
  have HL := hid0 hl
  clear hl
  go_enter Tryd.func73, Tryd.ntmps73
  go_wp2
  go_loopw [5] (fun i wr => ∃ k : Nat, k ≤ l.length ∧ i = .int .i64 (k : Int) ∧ Hid (x ∉ l.take k) ∧ wr = w) (fun i _ => l.length - (intOf i).toNat)
  case atStart => exact ⟨0, Nat.zero_le _, rfl, hid0 (by simp), rfl⟩
  case round =>
    obtain ⟨k, hk, rfl, HT, rfl⟩ := hrel
    by_cases hlt : k < l.length
    · obtain ⟨b2, o2, rfl, _, c2⟩ := HL.out.at' k hlt
      have hkI : (k : Int) < (l.length : Int) := by omega
      have hkI0 : (0 : Int) ≤ (k : Int) := by omega
      by_cases hxy : l[k] = x
      · have HF : Hid (decide (x ∈ l) = true) := hid0 (by rw [← hxy]; simp)
        have hb : (l[k] == x) = true := by simp [hxy]
        generalize l[k] = y at *
        clear hxy
        go_wp2
        go_ret
        exact ⟨by rw [HF.out]; rfl, rfl⟩
      · have HT2 : Hid (x ∉ l.take (k + 1)) := hid0 (by
          rw [take_snoc hlt]
          simp only [List.mem_append, List.mem_singleton, not_or]
          exact ⟨HT.out, fun h => hxy h.symm⟩)
        have hb : (l[k] == x) = false := by simpa using hxy
        generalize l[k] = y at *
        go_wp2
        go_roundw
        case rel => exact ⟨k + 1, hlt, by go_num, HT2, trivial⟩
        case measure => simp [intOf]; omega
    · have hkI : ¬ (k : Int) < (l.length : Int) := by omega
      have HF : Hid (decide (x ∈ l) = false) := hid0 (decide_eq_false (by have h := HT.out; rw [show k = l.length by omega, List.take_length] at h; exact h))
      go_wp2
      go_ret
      exact ⟨by rw [HF.out]; rfl, rfl⟩
set_option maxRecDepth 100000 in
set_option maxHeartbeats 800000 in
theorem refStands_any (e l : List Int) (ae al : Option Addr) (ce cl a : Nat) (w : World) (he : IA w ae e) (hl : IA w al l) (h1 : e.length ≤ 1000000000) (h2 : l.length ≤ 1000000000) (ha : a ≤ 1000000000) (hne : e ≠ []) :
    Calls Tryd.prog 78 #[.slice al l.length cl, .slice ae e.length ce, .int .i64 (a : Int)] w fun r w' => r = .returned (.bool (stdB e l a)) ∧ ∃ q, w' = w.drewN q := by
  have HE := hid0 he
  have HL := hid0 hl
  clear he hl
  have hw0 : IntKind.i64.wrap ((a : Int) + (e.length : Int)) = (a : Int) + (e.length : Int) := by simp [IntKind.wrap, IntKind.bits, IntKind.signed]; omega
  by_cases hgt : (a : Int) + (e.length : Int) > (l.length : Int)
  · have hr : stdB e l a = false := by
      cases hq : stdB e l a with
      | false => rfl
      | true => have := std_len hq hne; omega
    rw [hr]
    clear hr hne
    go_enter Tryd.func78, Tryd.ntmps78
    go_wp2
    go_ret
    exact ⟨rfl, 0, rfl⟩
  · have hle : a + e.length ≤ l.length := by omega
    clear hne
    go_enter Tryd.func78, Tryd.ntmps78
    go_wp2
    go_loopw [7] (fun i wr => ∃ k q : Nat, k ≤ e.length ∧ i = .int .i64 (k : Int) ∧ Hid ((l.drop a).take k = e.take k) ∧ wr = w.drewN q) (fun i _ => e.length - (intOf i).toNat)
    case atStart => exact ⟨0, 0, Nat.zero_le _, rfl, hid0 rfl, rfl⟩
    case round =>
      obtain ⟨k, q, hk, rfl, HT, rfl⟩ := hrel
      by_cases hlt : k < e.length
      · obtain ⟨b1, o1, rfl, _, c1⟩ := HE.out.at' k hlt
        obtain ⟨b2, o2, rfl, _, c2⟩ := HL.out.at' (a + k) (by omega)
        have hkI : (k : Int) < (e.length : Int) := by omega
        have hkI0 : (0 : Int) ≤ (k : Int) := by omega
        obtain ⟨m, hm⟩ : ∃ m, m = a + k := ⟨_, rfl⟩
        have hmI : (a : Int) + (k : Int) = (m : Int) := by omega
        have hml : (m : Int) < (l.length : Int) := by omega
        have HS := hid0 (std_step (e := e) (l := l) hlt hle HT.out)
        have HN : Hid ((l.drop a).take (k + 1) ≠ e.take (k + 1) → stdB e l a = false) := hid0 (fun hq => std_ne (by omega) hq)
        generalize l[a + k]'(by omega) = y at *
        generalize e[k] = x at *
        rw [← hm] at c2
        clear hm HE HL
        by_cases hxy : y = x
        · have HT2 : Hid ((l.drop a).take (k + 1) = e.take (k + 1)) := hid0 (HS.out.2 hxy)
          have hb : (y != x) = false := by simp [hxy]
          clear hxy HS HN
          go_wp2
          go_quiet ((fail))
          go_wp2
          go_roundw
          case rel => exact ⟨k + 1, _, hlt, by go_num, HT2, rfl⟩
          case measure => simp [intOf]; omega
        · have HF : Hid (stdB e l a = false) := hid0 (HN.out (fun hq => hxy (HS.out.1 hq)))
          have hb : (y != x) = true := by simpa using hxy
          clear HS HN
          go_wp2
          go_quiet ((fail))
          go_wp2
          go_ret
          exact ⟨by rw [HF.out]; rfl, _, World.drewN_drewN _ _ _⟩
      · have hkI : ¬ (k : Int) < (e.length : Int) := by omega
        have HF : Hid (stdB e l a = true) := hid0 (decide_eq_true (by have h := HT.out; rw [show k = e.length by omega, List.take_length] at h; exact h))
        clear HE HL
        go_wp2
        go_ret
        exact ⟨by rw [HF.out]; rfl, _, rfl⟩
end Go.Proofs.YtekimkdaoblcgaaDoor
namespace Go.Proofs.YtekimkdaoblcgaaDoor
open Go.RowKit Go.Shelf Go.Maps
/-- Where a filter of the document's lies, and the lists that it holds. -/
structure RfL where
  X : Nat
  aT : Option Addr
  cT : Nat
  aE : Option Addr
  cE : Nat
structure RfA (w : World) (p : Prg) (q : PrL) (sy bef : Int) (tr : List Int) (E : List (List Int)) (g : RfL) : Prop where
  lt : g.X < w.heap.size
  pc : (w.cell? ⟨g.X, 0, none⟩ = some (.int .i64 p.sl) ∧ w.cell? ⟨g.X, 1, none⟩ = some (.slice q.aN p.N.length q.cN) ∧ w.cell? ⟨g.X, 2, none⟩ = some (.slice q.aO p.O.length q.cO) ∧ w.cell? ⟨g.X, 3, none⟩ = some (.int .i64 p.sr)) ∧ w.cell? ⟨g.X, 4, none⟩ = some (.slice q.aM p.M.length q.cM) ∧ w.cell? ⟨g.X, 5, none⟩ = some (.slice q.aP p.P.length q.cP) ∧ w.cell? ⟨g.X, 6, none⟩ = some (.slice q.aB p.B.length q.cB) ∧ w.cell? ⟨g.X, 7, none⟩ = some (.bool p.el)
  c8 : w.cell? ⟨g.X, 8, none⟩ = some (.int .i64 sy)
  c9 : w.cell? ⟨g.X, 9, none⟩ = some (.int .i64 bef)
  c10 : w.cell? ⟨g.X, 10, none⟩ = some (.slice g.aT tr.length g.cT)
  c11 : w.cell? ⟨g.X, 11, none⟩ = some (.slice g.aE E.length g.cE)
  pr : PrA w p q
  ta : IA w g.aT tr
  ea : RwA w g.aE E
theorem RfA.past {w w' : World} {p : Prg} {q : PrL} {sy bef : Int} {tr : List Int} {E : List (List Int)} {g : RfL} (h : RfA w p q sy bef tr E g) (hb : Below w.heap.size w w') : RfA w' p q sy bef tr E g := by
  have c : ∀ i v, w.cell? ⟨g.X, i, none⟩ = some v → w'.cell? ⟨g.X, i, none⟩ = some v := fun i v hv => (hb.cell (p := ⟨g.X, i, none⟩) h.lt).trans hv
  obtain ⟨⟨h0, h1, h2, h3⟩, h4, h5, h6, h7⟩ := h.pc
  exact ⟨Nat.lt_of_lt_of_le h.lt hb.size, ⟨⟨c _ _ h0, c _ _ h1, c _ _ h2, c _ _ h3⟩, c _ _ h4, c _ _ h5, c _ _ h6, c _ _ h7⟩, c _ _ h.c8, c _ _ h.c9, c _ _ h.c10, c _ _ h.c11, h.pr.past hb, h.ta.past hb, h.ea.past hb⟩
/-- What a filter of the document's is made of. -/
structure RfS (p : Prg) (tr : List Int) (E : List (List Int)) : Prop where
  ps : PrS p
  tl : tr.length ≤ 1000000000
  el : E.length ≤ 1000000000
  er : ∀ e ∈ E, e.length ≤ 1000000000
  ne : [] ∉ E
/-- Does one of the entries at one of the places ahead hide the place? -/
def rhK (e tr P l : List Int) (i : Nat) (k : Nat) : Bool := (List.range k).any fun s => stdB e P s && decide (i ≤ trl tr l (s + e.length))
def rhF (E : List (List Int)) (tr P l : List Int) (i : Nat) : Bool := E.any fun e => rhK e tr P l i i
theorem rhK_step (e tr P l : List Int) (i k : Nat) : rhK e tr P l i (k + 1) = (rhK e tr P l i k || (stdB e P k && decide (i ≤ trl tr l (k + e.length)))) := by
  unfold rhK
  rw [List.range_succ, List.any_append]
  simp
end Go.Proofs.YtekimkdaoblcgaaDoor
namespace Go.Proofs.YtekimkdaoblcgaaDoor
open Go.RowKit Go.Shelf Go.Maps
section
variable {w : World} {p : Prg} {q : PrL} {sy bef : Int} {tr : List Int} {E : List (List Int)} {g : RfL}
set_option maxRecDepth 100000 in
set_option maxHeartbeats 800000 in
theorem refTrails_any (l : List Int) (aw : Option Addr) (cw a b : Nat) (h : RfA w p q sy bef tr E g) (ht : tr.length ≤ 1000000000) (hl : l.length ≤ 1000000000) (ha : IA w aw l) (hab : a ≤ b) (hb : b ≤ l.length) :
    Calls Tryd.prog 85 #[.pointer (some ⟨g.X, 0, none⟩), .slice aw l.length cw, .int .i64 (a : Int), .int .i64 (b : Int)] w fun e w' => e = .returned (.bool (decide (b ≤ trl tr l a))) ∧ ∃ n, w' = w.drewN n := by
  have HF := hid0 h
  have HA := hid0 ha
  clear h ha
  go_enter Tryd.func85, Tryd.ntmps85
  go_wp2
  go_loopw [9] (fun x wr => ∃ j : Nat, a ≤ j ∧ j ≤ b ∧ x = .int .i64 (j : Int) ∧ Hid (trl tr l j = trl tr l a) ∧ Hid (∃ n, wr = w.drewN n)) (fun x _ => b - (intOf x).toNat)
  case atStart => exact ⟨a, Nat.le_refl _, hab, rfl, hid0 rfl, hid0 ⟨0, rfl⟩⟩
  case round =>
    obtain ⟨j, haj, hj, rfl, HT, HW⟩ := hrel
    have hbw : Below w.heap.size w wr := by
      obtain ⟨n, rfl⟩ := HW.out
      exact below_drew' (Below.refl _ _) n
    have HFr := hid0 (HF.out.past hbw)
    have HAr := hid0 (HA.out.past hbw)
    have HWn : Hid (∀ m, ∃ n, wr.drewN m = w.drewN n) := hid0 (fun m => by
      obtain ⟨n, rfl⟩ := HW.out
      exact ⟨_, World.drewN_drewN _ _ _⟩)
    have c10 := HFr.out.c10
    clear hbw
    by_cases hlt : j < b
    · have hjl : j < l.length := by omega
      obtain ⟨bb, off, rfl, _, c1⟩ := HAr.out.at' j hjl
      have hjI : (j : Int) < (b : Int) := by omega
      have hjL : (j : Int) < (l.length : Int) := by omega
      have hjI0 : (0 : Int) ≤ (j : Int) := by omega
      have HIt : Hid (∀ m, Calls Tryd.prog 73 #[.slice g.aT tr.length g.cT, .int .i64 l[j]] (wr.drewN m) fun e w' => e = .returned (.bool (decide (l[j] ∈ tr))) ∧ ∃ k, w' = (wr.drewN m).drewN k) := hid0 (fun m => (refHas_any tr l[j] g.aT g.cT (wr.drewN m) ⟨HFr.out.ta.at'⟩ ht).mono (by
        rintro e w' ⟨rfl, rfl⟩
        exact ⟨rfl, 0, rfl⟩))
      have HTi : Hid (l[j] ∈ tr → trl tr l j = trl tr l (j + 1)) := hid0 (fun hx => trl_in hjl hx)
      have HTo : Hid (l[j] ∉ tr → trl tr l j = j) := hid0 (fun hx => trl_out hjl hx)
      generalize l[j] = x at *
      by_cases hx : x ∈ tr
      · rw [decide_eq_true hx] at HIt
        have HT2 : Hid (trl tr l (j + 1) = trl tr l a) := hid0 (by rw [← HTi.out hx]; exact HT.out)
        clear hx HTi HTo HT HF HA HFr HAr HW
        go_wp2
        go_quiet ((go_at_call 73; exact Calls.quiet_of (HIt.out _)))
        go_wp2
        go_roundw
        case rel => exact ⟨j + 1, by omega, hlt, by go_num, HT2, hid0 (HWn.out _)⟩
        case measure => simp [intOf]; omega
      · rw [decide_eq_false hx] at HIt
        have HT2 : Hid (decide (b ≤ trl tr l a) = false) := hid0 (decide_eq_false (by rw [← HT.out, HTo.out hx]; omega))
        clear hx HTi HTo HT HF HA HFr HAr HW
        go_wp2
        go_quiet ((go_at_call 73; exact Calls.quiet_of (HIt.out _)))
        go_wp2
        go_ret
        exact ⟨by rw [HT2.out]; rfl, HWn.out _⟩
    · have hjI : ¬ (j : Int) < (b : Int) := by omega
      have HT2 : Hid (decide (b ≤ trl tr l a) = true) := hid0 (decide_eq_true (by rw [← HT.out, show j = b by omega]; exact trl_ge _ _ _))
      clear HT
      go_wp2
      go_ret
      exact ⟨by rw [HT2.out]; rfl, HW.out⟩
set_option maxRecDepth 100000 in
set_option maxHeartbeats 800000 in
theorem refHides_any (l : List Int) (aw : Option Addr) (cw n s i : Nat) (h : RfA w p q sy bef tr E g) (ht : tr.length ≤ 1000000000) (hl : l.length ≤ 1000000000) (ha : IA w aw l) (hs : s < i) (hi : i ≤ l.length) (hn : s + n ≤ l.length) :
    Calls Tryd.prog 79 #[.pointer (some ⟨g.X, 0, none⟩), .slice aw l.length cw, .int .i64 (n : Int), .int .i64 (s : Int), .int .i64 (i : Int)] w fun e w' => e = .returned (.bool (decide (i ≤ trl tr l (s + n)))) ∧ ∃ n, w' = w.drewN n := by
  have hsI : (s : Int) < (i : Int) := by omega
  obtain ⟨m, hm⟩ : ∃ m, m = s + n := ⟨_, rfl⟩
  have hmI : (s : Int) + (n : Int) = (m : Int) := by omega
  rw [← hm]
  by_cases hlt : i < m
  · have hltI : (i : Int) < (m : Int) := by omega
    have HT : Hid (decide (i ≤ trl tr l m) = true) := hid0 (decide_eq_true (by have := trl_ge tr l m; omega))
    clear h ha hm
    go_enter Tryd.func79, Tryd.ntmps79
    go_wp2
    go_ret
    exact ⟨by rw [HT.out]; rfl, 0, rfl⟩
  · have hltI : ¬ (i : Int) < (m : Int) := by omega
    have hleI : (m : Int) ≤ (i : Int) := by omega
    have HTr := hid0 (refTrails_any l aw cw m i h ht hl ha (by omega) hi)
    generalize decide (i ≤ trl tr l m) = bb at *
    clear h ha hm
    go_enter Tryd.func79, Tryd.ntmps79
    go_wp2_with (go_at_call 85; go_loud ((
      refine HTr.out.mono ?_
      rintro e w1 ⟨rfl, k, rfl⟩)))
    go_ret
    exact ⟨rfl, k, rfl⟩
end
end Go.Proofs.YtekimkdaoblcgaaDoor
namespace Go.Proofs.YtekimkdaoblcgaaDoor
open Go.RowKit Go.Shelf Go.Maps
section
variable {w : World} {p : Prg} {q : PrL} {sy bef : Int} {tr : List Int} {E : List (List Int)} {g : RfL}
set_option maxRecDepth 100000 in
set_option maxHeartbeats 1600000 in
theorem refHiddenAt_any (P l : List Int) (ap aw : Option Addr) (cp cw i : Nat) (h : RfA w p q sy bef tr E g) (hs : RfS p tr E) (hl : l.length ≤ 1000000000) (hP : P.length = l.length) (hp : IA w ap P) (ha : IA w aw l) (hi : i ≤ l.length) :
    Calls Tryd.prog 71 #[.pointer (some ⟨g.X, 0, none⟩), .slice ap P.length cp, .slice aw l.length cw, .int .i64 (i : Int)] w fun e w' => e = .returned (.bool (rhF E tr P l i)) ∧ ∃ n, w' = w.drewN n := by
  obtain ⟨X, aT, cT, aE, cE⟩ := g
  have HF := hid0 h
  have HP := hid0 hp
  have HA := hid0 ha
  have HS := hid0 hs
  have HPl := hid0 hP
  have hEl := hs.el
  have hPl : P.length ≤ 1000000000 := by omega
  have HFw : Hid (∀ n, RfA (w.drewN n) p q sy bef tr E ⟨X, aT, cT, aE, cE⟩ ∧ IA (w.drewN n) ap P ∧ IA (w.drewN n) aw l) := hid0 (fun n => ⟨HF.out.past (below_drew' (Below.refl _ _) n), HP.out.past (below_drew' (Below.refl _ _) n), HA.out.past (below_drew' (Below.refl _ _) n)⟩)
  clear h hp ha hs hP HF HP HA
  go_enter Tryd.func71, Tryd.ntmps71
  go_wp2
  go_loopw [9] (fun x wr => ∃ k : Nat, k ≤ E.length ∧ x = .int .i64 (k : Int) ∧ Hid (((E.take k).any fun e => rhK e tr P l i i) = false) ∧ Hid (∃ n, wr = w.drewN n)) (fun x _ => E.length - (intOf x).toNat)
  case atStart => exact ⟨0, Nat.zero_le _, rfl, hid0 (by simp), hid0 ⟨0, rfl⟩⟩
  case round =>
    obtain ⟨k, hk, rfl, HT, HW⟩ := hrel
    have c11 : wr.cell? ⟨X, 11, none⟩ = some (.slice aE E.length cE) := by
      obtain ⟨n, rfl⟩ := HW.out
      exact (HFw.out n).1.c11
    by_cases hlt : k < E.length
    · have hkI : (k : Int) < (E.length : Int) := by omega
      have hkI0 : (0 : Int) ≤ (k : Int) := by omega
      have HE1 : Hid (E[k] ≠ [] ∧ (E[k]).length ≤ 1000000000) := hid0 ⟨fun he => HS.out.ne (by rw [← he]; exact List.getElem_mem hlt), HS.out.er _ (List.getElem_mem hlt)⟩
      have HTn : Hid (rhK E[k] tr P l i i = false → ((E.take (k + 1)).any fun e => rhK e tr P l i i) = false) := hid0 (fun hq => by
        rw [List.take_add_one, List.getElem?_eq_getElem hlt, List.any_append, HT.out]
        simp [hq])
      have HTy : Hid (rhK E[k] tr P l i i = true → rhF E tr P l i = true) := hid0 (fun hq => List.any_eq_true.2 ⟨_, List.getElem_mem hlt, hq⟩)
      have HRw : Hid (∀ n, ∃ b off, aE = some ⟨b, off, none⟩ ∧ ∃ a1 c1, (w.drewN n).cell? ⟨b, off + k, none⟩ = some (.slice a1 (E[k]).length c1) ∧ IA (w.drewN n) a1 E[k]) := hid0 (fun n => by
        obtain ⟨b, off, e1, _, a1, c1, e2, e3⟩ := (HFw.out n).1.ea.at' k hlt
        exact ⟨b, off, e1, a1, c1, e2, e3⟩)
      obtain ⟨b, off, e1, _⟩ := HRw.out 0
      subst e1
      generalize E[k] = e at *
      clear HT
      go_wp2
      go_loopw [10] (fun x wr => ∃ s : Nat, s ≤ i ∧ x = .int .i64 (s : Int) ∧ Hid (rhK e tr P l i s = false) ∧ Hid (∃ n, wr = w.drewN n)) (fun x _ => i - (intOf x).toNat)
      case atStart => exact ⟨0, Nat.zero_le _, rfl, hid0 rfl, HW⟩
      case round =>
        obtain ⟨s, hsi, rfl, HT, HW⟩ := hrel
        by_cases hst : s < i
        · have hsI : (s : Int) < (i : Int) := by omega
          obtain ⟨n, hn⟩ := HW.out
          obtain ⟨b', off', e1, a1, c1, d1, i1⟩ := HRw.out n
          injection e1 with e1
          injection e1 with e2 e3
          subst e2 e3
          obtain ⟨hf, hip, hia⟩ := HFw.out n
          rw [← hn] at d1 i1 hf hip hia
          have c11 : wr.cell? ⟨X, 11, none⟩ = some (.slice (some ⟨b, off, none⟩) E.length cE) := hf.c11
          have HSt := hid0 (refStands_any e P a1 ap c1 cp s wr i1 hip HE1.out.2 hPl (by omega) HE1.out.1)
          have HHd : Hid (stdB e P s = true → ∀ m, Calls Tryd.prog 79 #[.pointer (some ⟨X, 0, none⟩), .slice aw l.length cw, .int .i64 (e.length : Int), .int .i64 (s : Int), .int .i64 (i : Int)] (wr.drewN m) fun e' w' => e' = .returned (.bool (decide (i ≤ trl tr l (s + e.length)))) ∧ ∃ n, w' = w.drewN n) := hid0 (fun hq m => by
            have h1 := std_len hq HE1.out.1
            have h2 := HPl.out
            refine (refHides_any l aw cw e.length s i (g := ⟨X, aT, cT, some ⟨b, off, none⟩, cE⟩) (hf.past (below_drew' (Below.refl _ _) m)) HS.out.tl hl (hia.past (below_drew' (Below.refl _ _) m)) hst hi (by omega)).mono ?_
            rintro e' w' ⟨rfl, k', rfl⟩
            exact ⟨rfl, _, (congrArg (fun v : World => (v.drewN m).drewN k') hn).trans ((congrArg (fun v : World => v.drewN k') (World.drewN_drewN _ _ _)).trans (World.drewN_drewN _ _ _))⟩)
          have HWm : Hid (∀ m, ∃ n, wr.drewN m = w.drewN n) := hid0 (fun m => ⟨n + m, by rw [hn, World.drewN_drewN]⟩)
          have HKs : Hid (rhK e tr P l i (s + 1) = (stdB e P s && decide (i ≤ trl tr l (s + e.length)))) := hid0 (by rw [rhK_step, HT.out, Bool.false_or])
          have HKy : Hid (rhK e tr P l i (s + 1) = true → rhF E tr P l i = true) := hid0 (fun hq => HTy.out (by
            obtain ⟨z, hz, hz2⟩ := List.any_eq_true.1 hq
            exact List.any_eq_true.2 ⟨z, List.mem_range.2 (by have := List.mem_range.1 hz; omega), hz2⟩))
          generalize stdB e P s = bs at *
          generalize decide (i ≤ trl tr l (s + e.length)) = bh at *
          clear HW HT hn hf hip hia i1 HRw
          cases bs with
          | false =>
            go_wp2_with (go_at_call 78; go_loud ((
              refine HSt.out.mono ?_
              rintro e' w1 ⟨rfl, m, rfl⟩)))
            go_roundw
            case rel => exact ⟨s + 1, hst, by go_num, hid0 HKs.out, hid0 (HWm.out _)⟩
            case measure => simp [intOf]; omega
          | true =>
            have HHe := hid0 (HHd.out rfl)
            clear HHd
            cases bh with
            | false =>
              go_wp2_with (first
                | (go_at_call 78; go_loud ((
                    refine HSt.out.mono ?_
                    rintro e' w1 ⟨rfl, m, rfl⟩)))
                | (go_at_call 79; go_loud ((
                    refine (HHe.out m).mono ?_
                    rintro e' w1 ⟨rfl, hw1⟩
                    have HW1 := hid0 hw1
                    clear hw1))))
              go_roundw
              case rel => exact ⟨s + 1, hst, by go_num, hid0 HKs.out, HW1⟩
              case measure => simp [intOf]; omega
            | true =>
              go_wp2_with (first
                | (go_at_call 78; go_loud ((
                    refine HSt.out.mono ?_
                    rintro e' w1 ⟨rfl, m, rfl⟩)))
                | (go_at_call 79; go_loud ((
                    refine (HHe.out m).mono ?_
                    rintro e' w1 ⟨rfl, hw1⟩
                    have HW1 := hid0 hw1
                    clear hw1))))
              go_ret
              exact ⟨by rw [HKy.out HKs.out]; rfl, HW1.out⟩
        · have hsI : ¬ (s : Int) < (i : Int) := by omega
          have HT2 := hid0 (HTn.out (by rw [show i = s by omega]; rw [show i = s by omega] at HT; exact HT.out))
          go_wp2
          go_roundw
          case rel => exact ⟨k + 1, hlt, by go_num, HT2, HW⟩
          case measure => simp [intOf]; omega
    · have hkI : ¬ (k : Int) < (E.length : Int) := by omega
      have HF0 : Hid (rhF E tr P l i = false) := hid0 (by have h := HT.out; rw [show k = E.length by omega, List.take_length] at h; exact h)
      go_wp2
      go_ret
      exact ⟨by rw [HF0.out]; rfl, HW.out⟩
end
end Go.Proofs.YtekimkdaoblcgaaDoor
namespace Go.Proofs.YtekimkdaoblcgaaDoor
open Go.RowKit Go.Shelf
set_option maxRecDepth 10000 in
set_option maxHeartbeats 1600000 in
theorem least_any (P Q : List Int) (a b : Option Addr) (ca cb : Nat) (w : World) (hp : P.length ≤ 1000000000) (hq : Q.length ≤ 1000000000) (ha : IA w a P) (hb : IA w b Q) :
    Calls Tryd.prog 83 #[.slice a P.length ca, .slice b Q.length cb] w fun e w' => e = .returned (.int .i64 (lstF P Q)) ∧ ∃ n, w' = w.drewN n := by
  obtain ⟨res, hres⟩ : ∃ res, res = lstF P Q := ⟨_, rfl⟩
  have HR := hid0 hres
  have HA := hid0 ha
  have HB := hid0 hb
  rw [← hres]
  clear hres ha hb
  go_enter Tryd.func83, Tryd.ntmps83
  go_wp2
  go_loopw [5] (fun iv wr => ∃ i : Nat, i ≤ P.length ∧ iv = .int .i64 (i : Int) ∧ Hid (lstF (P.drop i) Q = res) ∧ ∃ n, wr = w.drewN n) (fun iv _ => P.length - (intOf iv).toNat)
  case atStart => exact ⟨0, Nat.zero_le _, rfl, hid0 (by rw [List.drop_zero, HR.out]), 0, rfl⟩
  case round =>
    obtain ⟨i, hi, rfl, HD, nd, rfl⟩ := hrel
    by_cases hil : i < P.length
    · have hiI : (i : Int) < (P.length : Int) := by omega
      have hiI0 : (0 : Int) ≤ (i : Int) := by omega
      have HDr : Hid (P.drop i = P[i] :: P.drop (i + 1)) := hid0 (List.drop_eq_getElem_cons hil)
      obtain ⟨b1, o1, rfl, _, d1⟩ := HA.out.at' i hil
      generalize P[i] = x at *
      go_wp2
      go_loopw [6] (fun kv wr => ∃ k : Nat, k ≤ Q.length ∧ kv = .int .i64 (k : Int) ∧ Hid (∀ z ∈ Q.take k, z ≠ x) ∧ ∃ n, wr = w.drewN n) (fun kv _ => Q.length - (intOf kv).toNat)
      case atStart => exact ⟨0, Nat.zero_le _, rfl, hid0 (fun z hz => (by simp at hz)), nd, rfl⟩
      case round =>
        obtain ⟨k, hk, rfl, HT, ne, rfl⟩ := hrel
        by_cases hkl : k < Q.length
        · have hkI : (k : Int) < (Q.length : Int) := by omega
          have hkI0 : (0 : Int) ≤ (k : Int) := by omega
          obtain ⟨b2, o2, rfl, _, d2⟩ := HB.out.at' k hkl
          have HQk : Hid (Q.take (k + 1) = Q.take k ++ [Q[k]]) := hid0 (List.take_succ_eq_append_getElem hkl)
          have HMe : Hid (Q[k] ∈ Q) := hid0 (List.getElem_mem hkl)
          generalize Q[k] = y at *
          by_cases hxy : x = y
          · have HV : Hid (res = x) := hid0 (by rw [← HD.out, HDr.out]; exact lstF_head (by rw [hxy]; exact HMe.out))
            have hxy' : (x == y) = true := by simpa using hxy
            clear hxy HD HDr HT HQk HMe
            go_wp2
            go_quiet ((fail))
            go_wp2
            go_ret
            exact ⟨by rw [HV.out]; rfl, _, rfl⟩
          · have hxy' : (x == y) = false := by simpa using hxy
            have HT2 : Hid (∀ z ∈ Q.take (k + 1), z ≠ x) := hid0 (fun z hz => by
              rw [HQk.out] at hz
              rcases List.mem_append.1 hz with hz | hz
              · exact HT.out z hz
              · rw [List.mem_singleton.1 hz]; exact fun e => hxy e.symm)
            clear hxy HT HQk HMe
            go_wp2
            go_quiet ((fail))
            go_wp2
            go_roundw
            case rel => exact ⟨k + 1, by omega, by go_num, HT2, _, rfl⟩
            case measure => simp [intOf]; omega
        · have hkI : ¬ (k : Int) < (Q.length : Int) := by omega
          have HD2 : Hid (lstF (P.drop (i + 1)) Q = res) := hid0 (by
            rw [← HD.out, HDr.out, lstF_skip]
            intro hm
            exact HT.out x (by rw [List.take_of_length_le (by omega)]; exact hm) rfl)
          clear HD HDr HT
          go_wp2
          go_roundw
          case rel => exact ⟨i + 1, by omega, by go_num, HD2, _, rfl⟩
          case measure => simp [intOf]; omega
    · have hiI : ¬ (i : Int) < (P.length : Int) := by omega
      have HV : Hid (res = -1) := hid0 (by rw [← HD.out, List.drop_of_length_le (by omega)]; rfl)
      clear HD
      go_wp2
      go_ret
      exact ⟨by rw [HV.out]; rfl, nd, rfl⟩
set_option maxRecDepth 10000 in
set_option maxHeartbeats 800000 in
theorem turned_any (Y : List Int) (a : Option Addr) (c : Nat) (w : World) (hl : Y.length ≤ 1000000000) (ha : IA w a Y) :
    Calls Tryd.prog 82 #[.slice a Y.length c] w fun e w' => ∃ v, e = .returned v ∧ OwnI w' w.heap.size v Y.reverse ∧ Below w.heap.size w w' := by
  obtain ⟨i0, hi, hz0, hz1, hz2⟩ := info_parts infoInt
  have HA := hid0 ha
  clear ha
  have hsub : IntKind.i64.wrap ((Y.length : Int) - 1) = (Y.length : Int) - 1 := by simp [IntKind.wrap, IntKind.bits, IntKind.signed]; omega
  go_enter Tryd.func82, Tryd.ntmps82
  go_wp2
  go_loopw [3, 4] (fun v k w2 => ∃ q : Nat, q ≤ Y.length ∧ k = .int .i64 ((q : Int) - 1) ∧ Hid (OwnI w2 w.heap.size v (Y.drop q).reverse) ∧ Hid (Below w.heap.size w w2)) (fun _ k _ => (intOf k + 1).toNat)
  case atStart => exact ⟨Y.length, Nat.le_refl _, rfl, hid0 (by rw [List.drop_length]; exact World.ownsRow_nil _ _ _ _), hid0 (Below.refl _ _)⟩
  case round =>
    obtain ⟨q, hq, rfl, HO2, HB2⟩ := hrel
    by_cases hq0 : q = 0
    · subst hq0
      go_wp2
      go_ret
      exact ⟨_, rfl, by have h := HO2.out; rw [List.drop_zero] at h; exact h, HB2.out⟩
    · obtain ⟨r, rfl⟩ : ∃ r, q = r + 1 := ⟨q - 1, by omega⟩
      have hrl : r < Y.length := by omega
      obtain ⟨b4, off4, rfl, _, d4⟩ := (HA.out.past HB2.out).at' r hrl
      have hrI : (r : Int) < (Y.length : Int) := by omega
      have hrI0 : (0 : Int) ≤ (r : Int) := by omega
      have hsz2 := HB2.out.size
      have HD : Hid ((Y.drop r).reverse = (Y.drop (r + 1)).reverse ++ [Y[r]]) := hid0 (by rw [List.drop_eq_getElem_cons hrl, List.reverse_cons])
      have hll : (Y.drop (r + 1)).reverse.length ≤ 1000000000 := by rw [List.length_reverse, List.length_drop]; omega
      generalize Y[r] = x at *
      obtain ⟨av3, cv3, ev3, _⟩ := HO2.out.ia
      subst ev3
      have ej : ((r + 1 : Nat) : Int) - 1 = (r : Int) := by omega
      rw [ej]
      generalize (Y.drop (r + 1)).reverse = X at *
      go_wp2_with (at_builtin; go_loud ((
        refine wpList_append_own_at _ rfl _ _ 28 rfl w.heap.size 3 i0 (.int .i64 0) 1 8 Tryd.underlying28 hi hz0 hz1 hz2 rfl (by decide) _ X.length (X.map (Value.int .i64)) rfl (World.ownsRow.alloc HO2.out _) ⟨wr.heap.size, 0, none⟩ 1 1 [.int .i64 x] rfl rfl (cell_one_new _ _ _) (by simp [Value.oneCell']) (by unfold maxLen; omega) (by omega) (by simp; omega) ?_
        intro v2 w3 hown2 hgrow2 _ _
        have R := ownI_snoc rfl HO2.out hown2 hgrow2 HB2.out (Nat.le_refl _)
        have HO3 := hid0 R.1
        have HB3 := hid0 R.2
        obtain ⟨av2, cv2, ev2, _⟩ := R.1.ia
        rw [List.length_append, List.length_singleton] at ev2
        subst ev2
        clear R hown2 hgrow2)))
      go_roundw
      case rel => exact ⟨r, by omega, by go_num, hid0 (by rw [HD.out]; exact HO3.out), HB3⟩
      case measure => simp [intOf]
end Go.Proofs.YtekimkdaoblcgaaDoor
namespace Go.Proofs.YtekimkdaoblcgaaDoor
open Go.RowKit Go.Shelf Go.Maps
section
variable {w : World} {p : Prg} {q : PrL} {sy bef : Int} {tr : List Int} {E : List (List Int)} {g : RfL}
/-- What the document's Hidden says. -/
def rhL (bef : Int) (E : List (List Int)) (tr P l : List Int) : List Int := if bef < 0 ∨ P.length ≠ l.length then [] else hpK (rhF E tr P l) (l.length - 1)
set_option maxRecDepth 100000 in
set_option maxHeartbeats 1600000 in
theorem refHidden_any (P l : List Int) (ap aw : Option Addr) (cp cw : Nat) (h : RfA w p q sy bef tr E g) (hs : RfS p tr E) (hl : l.length ≤ 1000000000) (_hl2 : P.length ≤ 1000000000) (hp : IA w ap P) (ha : IA w aw l) :
    Calls Tryd.prog 53 #[.pointer (some ⟨g.X, 0, none⟩), .slice ap P.length cp, .slice aw l.length cw] w fun e w' => ∃ v, e = .returned v ∧ OwnI w' w.heap.size v (rhL bef E tr P l) ∧ Below w.heap.size w w' := by
  have c9 := h.c9
  by_cases hb0 : bef < 0
  · rw [show rhL bef E tr P l = [] from if_pos (.inl hb0)]
    clear h hs hp ha
    go_enter Tryd.func53, Tryd.ntmps53
    go_wp2
    go_ret
    exact ⟨_, rfl, World.ownsRow_nil _ _ _ _, Below.refl _ _⟩
  · by_cases hP : P.length = l.length
    · have hPI : (P.length : Int) = (l.length : Int) := by omega
      have HRs : Hid (rhL bef E tr P l = hpK (rhF E tr P l) (l.length - 1)) := hid0 (if_neg (by omega))
      obtain ⟨i0, hi, hz0, hz1, hz2⟩ := info_parts infoInt
      have HHa : Hid (∀ (V : World) (i : Nat), Below w.heap.size w V → i ≤ l.length → Calls Tryd.prog 71 #[.pointer (some ⟨g.X, 0, none⟩), .slice ap P.length cp, .slice aw l.length cw, .int .i64 (i : Int)] V fun e w' => e = .returned (.bool (rhF E tr P l i)) ∧ Below V.heap.size V w') := hid0 (fun V i hV hi => (refHiddenAt_any P l ap aw cp cw i (h.past hV) hs hl hP (hp.past hV) (ha.past hV) hi).mono (by
        rintro e w' ⟨rfl, n, rfl⟩
        exact ⟨rfl, below_drew' (Below.refl _ _) n⟩))
      have HPK : Hid (∀ k, hpK (rhF E tr P l) (k + 1) = hpK (rhF E tr P l) k ++ (if rhF E tr P l (k + 1) then [(k : Int) + 1] else [])) := hid0 (fun k => hpK_step _ k)
      have HPL : Hid (∀ k, (hpK (rhF E tr P l) k).length ≤ k) := hid0 (fun k => hpK_len _ k)
      clear h hs hp ha hP
      generalize hhd : rhF E tr P l = hd at *
      clear hhd
      go_enter Tryd.func53, Tryd.ntmps53
      go_wp2
      go_loopw [7, 8] (fun v x wr => ∃ k : Nat, (k + 1 ≤ l.length ∨ k = 0) ∧ x = .int .i64 ((k : Int) + 1) ∧ Hid (OwnI wr w.heap.size v (hpK hd k)) ∧ Hid (Below w.heap.size w wr)) (fun _ x _ => (l.length + 1 - (intOf x).toNat))
      case atStart => exact ⟨0, .inr rfl, rfl, hid0 (World.ownsRow_nil _ _ _ _), hid0 (Below.refl _ _)⟩
      case round =>
        obtain ⟨k, hk, rfl, HO, HB⟩ := hrel
        by_cases hlt : k + 1 < l.length
        · have hkI : (k : Int) + 1 < (l.length : Int) := by omega
          obtain ⟨m, hm⟩ : ∃ m, m = k + 1 := ⟨_, rfl⟩
          have hmI : (k : Int) + 1 = (m : Int) := by omega
          have HH := hid0 (HHa.out wr m HB.out (by omega))
          have HK := hid0 (HPK.out k)
          rw [← hm, hmI] at HK
          have hll : (hpK hd k).length ≤ 1000000000 := by have := HPL.out k; omega
          have hmL : (m : Int) < (l.length : Int) := by omega
          have HM := hid0 hm
          have hmb : (m : Int) ≤ 1000000000 := by omega
          rw [hmI]
          clear hm hmI hkI
          obtain ⟨av3, cv3, ev3, _⟩ := HO.out.ia
          subst ev3
          generalize hpK hd k = X at *
          generalize hd m = bb at *
          cases bb with
          | false =>
            go_wp2_with (go_at_call 71; go_loud ((
              refine HH.out.mono ?_
              rintro e w1 ⟨rfl, hb⟩
              have HO2 := hid0 (own_blk HO.out (fun k' hk' => hb.block k' (World.ownsRow.lt HO.out k' hk').2))
              have HB2 := hid0 (Below.later HB.out hb)
              clear hb)))
            go_roundw
            case rel => exact ⟨m, .inl (by omega), by go_num, hid0 (by rw [HK.out, if_neg (by simp), List.append_nil]; exact HO2.out), HB2⟩
            case measure => simp [intOf]; omega
          | true =>
            go_upto_region 8 with (go_at_call 71; go_loud ((
              refine HH.out.mono ?_
              rintro e w1 ⟨rfl, hb⟩
              have HO2 := hid0 (own_blk HO.out (fun k' hk' => hb.block k' (World.ownsRow.lt HO.out k' hk').2))
              have HB2 := hid0 (Below.later HB.out hb)
              clear hb)))
            have hsz2 := HB2.out.size
            go_wp2_with (at_builtin; go_loud ((
              refine wpList_append_own_at _ rfl _ _ 28 rfl w.heap.size 3 i0 (.int .i64 0) 1 8 Tryd.underlying28 hi hz0 hz1 hz2 rfl (by decide) _ X.length (X.map (Value.int .i64)) rfl (World.ownsRow.alloc HO2.out _) ⟨w1.heap.size, 0, none⟩ 1 1 [.int .i64 (m : Int)] rfl rfl (cell_one_new _ _ _) (by simp [Value.oneCell']) (by unfold maxLen; omega) (by omega) (by simp; omega) ?_
              intro v2 w3 hown2 hgrow2 _ _
              have R := ownI_snoc rfl HO2.out hown2 hgrow2 HB2.out (Nat.le_refl _)
              have HO3 := hid0 R.1
              have HB3 := hid0 R.2
              obtain ⟨av2, cv2, ev2, _⟩ := R.1.ia
              rw [List.length_append, List.length_singleton] at ev2
              subst ev2
              clear R hown2 hgrow2)))
            go_roundw
            case rel => exact ⟨m, .inl (by omega), by go_num, hid0 (by rw [HK.out]; exact HO3.out), HB3⟩
            case measure => simp [intOf]; omega
        · have hkI : ¬ (k : Int) + 1 < (l.length : Int) := by omega
          have hkl : l.length - 1 = k := by omega
          rw [hkl] at HRs
          clear hkl
          go_wp2
          go_ret
          exact ⟨_, rfl, by rw [HRs.out]; exact HO.out, HB.out⟩
    · have hPI : ¬ (P.length : Int) = (l.length : Int) := by omega
      rw [show rhL bef E tr P l = [] from if_pos (.inr hP)]
      clear h hs hp ha hP
      go_enter Tryd.func53, Tryd.ntmps53
      go_wp2
      go_ret
      exact ⟨_, rfl, World.ownsRow_nil _ _ _ _, Below.refl _ _⟩
end
end Go.Proofs.YtekimkdaoblcgaaDoor
namespace Go.Proofs.YtekimkdaoblcgaaDoor
open Go.RowKit Go.Shelf Go.Maps
theorem rh_hid {E : List (List Int)} (h0 : [] ∉ E) (tr P l : List Int) (i : Nat) : rhF E tr P l i = hidB E tr P l i := by
  rw [Bool.eq_iff_iff]
  unfold hidB
  rw [decide_eq_true_eq, cntW_pos]
  constructor
  · intro h
    obtain ⟨e, he, h1⟩ := List.any_eq_true.1 h
    obtain ⟨s, hs, h2⟩ := List.any_eq_true.1 h1
    rw [Bool.and_eq_true, decide_eq_true_eq] at h2
    have hm := all_has he (fun e0 => h0 (by rw [← e0]; exact he)) h2.1
    refine ⟨_, List.mem_map.2 ⟨_, hm, rfl⟩, ?_, ?_⟩
    · show ((s : Int)).toNat < i
      have := List.mem_range.1 hs
      omega
    · show i ≤ trl tr l ((s : Int) + (e.length : Int)).toNat
      rw [show ((s : Int) + (e.length : Int)).toNat = s + e.length by omega]
      exact h2.2
  · rintro ⟨f, hf, h1, h2⟩
    obtain ⟨x, hx, rfl⟩ := List.mem_map.1 hf
    obtain ⟨j, s, hj, rfl, hst, _⟩ := all_mem P.length (Nat.le_refl _) x hx
    replace h1 : ((s : Int)).toNat < i := h1
    replace h2 : i ≤ trl tr l ((s : Int) + ((E[j]).length : Int)).toNat := h2
    rw [show ((s : Int) + ((E[j]).length : Int)).toNat = s + (E[j]).length by omega] at h2
    refine List.any_eq_true.2 ⟨E[j], List.getElem_mem hj, List.any_eq_true.2 ⟨s, List.mem_range.2 (by omega), ?_⟩⟩
    rw [hst, Bool.true_and]
    exact decide_eq_true h2
theorem rh_hd {E : List (List Int)} (h0 : [] ∉ E) (tr P l : List Int) (i : Nat) : rhF E tr P l i = hdF true E tr P l i := rh_hid h0 tr P l i
/-- What both say of what is hidden. -/
theorem rhL_same {E : List (List Int)} (h0 : [] ∉ E) (tr P l : List Int) {bef : Int} (hb : 0 ≤ bef) (hP : P.length = l.length) : rhL bef E tr P l = hpK (hdF (decide (0 ≤ bef)) E tr P l) (l.length - 1) := by
  unfold rhL
  rw [if_neg (by omega), decide_eq_true hb]
  congr 1
  funext i
  exact rh_hd h0 tr P l i
theorem hpK_off (E : List (List Int)) (tr P l : List Int) : ∀ k, hpK (hdF false E tr P l) k = []
  | 0 => rfl
  | k + 1 => by rw [hpK_step, hpK_off E tr P l k, if_neg (by rw [hd_off]; simp)]; rfl
theorem has_hp (hd : Nat → Bool) (k j : Nat) (hj : j < k) : decide (((j : Int) + 1) ∈ hpK hd k) = hd (j + 1) := by
  rw [Bool.eq_iff_iff, decide_eq_true_eq]
  unfold hpK
  rw [List.mem_map]
  constructor
  · rintro ⟨x, hx, e⟩
    obtain ⟨_, h2⟩ := List.mem_filter.1 hx
    rw [show j = x by omega]
    exact h2
  · intro h
    exact ⟨j, List.mem_filter.2 ⟨List.mem_range.2 hj, h⟩, rfl⟩
end Go.Proofs.YtekimkdaoblcgaaDoor
