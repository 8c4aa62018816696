/-
  A reader of one line while it reads (stage 23): its two lists.
-/
import Derived.Test.YtcbepmjojppokaaGreatDoorTgLW
import Derived.Test.YtcbepmjojppokaaGreatDoorTfAW
namespace Go.Proofs.YtcbepmjojppokaaGreatDoor
open Go.RowKit Go.Shelf
theorem own_neC {W : World} {lo t s n b : Nat} {v : Value} {xs : List Value} {cs : Array Value} {u : TypeId} {z : Nat × Nat} (h : W.ownsRow lo t s v n xs) (hb : W.heap[b]? = some (.cells cs u z)) (ht : u ≠ t) : v.ownBlock ≠ some b := fun e => by
  rcases h.2 with ⟨e1, _⟩ | ⟨g, cap, cur, e1, _, hr, _⟩
  · rw [e1] at e; cases e
  · rw [e1] at e
    injection e with e
    subst e
    rw [hb] at hr
    injection hr with hr
    injection hr with _ hr
    exact ht hr
theorem own_slC {W : World} {lo t s n : Nat} {v : Value} {xs : List Value} (h : W.ownsRow lo t s v n xs) : ∃ au cu, v = .slice au n cu := by
  rcases h.2 with ⟨e1, e2⟩ | ⟨g, cap, cur, e1, _⟩
  · exact ⟨none, 0, by rw [e1, e2]⟩
  · exact ⟨_, cap, e1⟩
theorem run_app_own {W : World} (lo : Nat) (v : Value) (L : List Int) (hown : OwnI W lo v L) (ad : Addr) (c : Nat) (N : List Int) (hN : ∀ j (hj : j < N.length), W.cell? (ad.add j) = some (.int .i64 N[j])) (hl : L.length + N.length ≤ 17592186044416) (hlo : lo ≤ W.heap.size) :
    ∃ v' w', (Builtin.append_ #[48, 48] 48 #[v, .slice (some ad) N.length c]).run Tryz.prog W = .ok v' w' ∧ OwnI w' lo v' (L ++ N) ∧ W.grownBy w' v.ownBlock ∧ (v'.ownBlock = v.ownBlock ∨ v'.ownBlock = some W.heap.size) := by
  obtain ⟨i0, hi, hz0, hz1, hz2⟩ := info_parts infoInt
  obtain ⟨v', w', h1, h2, h3, _, h5⟩ := run_append_own_at (P := Tryz.prog) (w := W) lo 48 48 3 i0 (.int .i64 0) 1 8 Tryz.underlying48 hi hz0 hz1 hz2 rfl (by decide) v L.length (L.map (Value.int .i64)) hown ad N.length c (N.map (Value.int .i64)) (by simp) (fun j u hu => by
    have hj : j < N.length := by have := (List.getElem?_eq_some_iff.1 hu).1; simpa using this
    rw [hN j hj]
    have : (N.map (Value.int .i64))[j]? = some (.int .i64 N[j]) := by simp [hj]
    rw [this] at hu
    exact hu) (fun u hu => by obtain ⟨y, _, rfl⟩ := List.mem_map.1 hu; rfl) (by unfold maxLen; omega) (by omega) hlo
  refine ⟨v', w', h1, ?_, h3, h5⟩
  unfold OwnI
  rw [List.length_append, List.map_append]
  exact h2
theorem one_cell {V : World} {z : Int} : ∀ j (hj : j < ([z] : List Int).length), (V.alloc (.cells #[.int .i64 z] 3)).cell? ((⟨V.heap.size, 0, none⟩ : Addr).add j) = some (.int .i64 ([z] : List Int)[j]) := fun j hj => by
  have h0 : j = 0 := by simpa using hj
  subst h0
  exact cell_one_new V (.int .i64 z) 3 0 _ rfl
/-- An append whose run is known, at a step of a region that draws. -/
theorem step_run {P : Program} {ops : Array Oper} {o : Oper} {a : Act} {w : World} {K : Act → World → Prop} {Q : Exit → Act → World → Prop} {E : Prop} (hg : o.guard = none) (s x : Operand) (t : TypeId)
    (ho : o.op = .call { callee := .builtin .append, args := #[s, x], argTypes := #[t, t] }) (vs vx : Value) (hs : a.eval s = vs) (hx : a.eval x = vx) {v' : Value} {w' : World}
    (hr : (Builtin.append_ #[t, t] o.type #[vs, vx]).run P w = .ok v' w') (h : K (a.put o.dst v') w') :
    if Region.wanted o (yielded ops a.tmps) = true then Oper.wp P o a w K Q else E := by
  have hw : Region.wanted o (yielded ops a.tmps) = true := by simp [Region.wanted, hg]
  rw [if_pos hw]
  unfold Oper.wp execOp
  simp only [ho, resolve, invoke, builtin, Sem.run_bind, Sem.run_pure, Result.andThen_ok, List.map_toArray, List.map_cons, List.map_nil, hs, hx, hr]
  exact h
/-- The same, in a list of operations. -/
theorem wpList_run {P : Program} {ops : Array Oper} {rest : List Oper} {op : Oper} {a : Act} {w : World} {Q : Exit → Act → World → Prop} (hgd : op.guard = none) (s x : Operand) (t : TypeId)
    (ho : op.op = .call { callee := .builtin .append, args := #[s, x], argTypes := #[t, t] }) (vs vx : Value) (hs : a.eval s = vs) (hx : a.eval x = vx) {v' : Value} {w' : World}
    (hr : (Builtin.append_ #[t, t] op.type #[vs, vx]).run P w = .ok v' w') (h : wpList P ops Q rest (a.put op.dst v') w') : wpList P ops Q (op :: rest) a w := by
  refine wpList_plain hgd fun K hK => ?_
  unfold Oper.wp execOp
  simp only [ho, resolve, invoke, builtin, Sem.run_bind, Sem.run_pure, Result.andThen_ok, List.map_toArray, List.map_cons, List.map_nil, hs, hx, hr]
  exact hK _ _ h
/-- A reader while it reads. -/
structure RSt (w0 V : World) (num : Int) (s : By) (nx : Value) (LP LB : List Int) (vP vB : Value) : Prop where
  box : V.heap[w0.heap.size]? = some (.cells #[.int .i64 num, .string (rd s), nx, vP, vB] 62 (0, 0))
  rp : OwnI V w0.heap.size vP LP
  rb : OwnI V w0.heap.size vB LB
  ne : ∀ g, vP.ownBlock = some g → vB.ownBlock ≠ some g
  bel : Below w0.heap.size w0 V
theorem rdrInt : (62 : TypeId) ≠ 3 := by decide
theorem RSt.grow {w0 V V1 W2 : World} {num : Int} {s : By} {nx : Value} {LP LB LP' : List Int} {vP vB v' : Value} (h : RSt w0 V num s nx LP LB vP vB) (hV1 : Below V.heap.size V V1) (_hown : OwnI W2 w0.heap.size v' LP') (hg : V1.grownBy W2 vP.ownBlock) (hat : v'.ownBlock = vP.ownBlock ∨ v'.ownBlock = some V1.heap.size) :
    W2.heap[w0.heap.size]? = some (.cells #[.int .i64 num, .string (rd s), nx, vP, vB] 62 (0, 0)) ∧ OwnI W2 w0.heap.size vB LB ∧ (∀ g, v'.ownBlock = some g → vB.ownBlock ≠ some g) ∧ Below w0.heap.size w0 W2 := by
  have hbl := (Array.getElem?_eq_some_iff.1 h.box).1
  have hs1 := hV1.size
  have hbx : W2.heap[w0.heap.size]? = some (.cells #[.int .i64 num, .string (rd s), nx, vP, vB] 62 (0, 0)) := (hg.block _ (by omega) (fun e => own_neC h.rp h.box rdrInt e.symm)).trans ((hV1.block _ hbl).trans h.box)
  refine ⟨hbx, own_blk h.rb (fun k hk => ?_), fun g hg1 hg2 => ?_, ?_⟩
  · have hl := (World.ownsRow.lt h.rb k hk).2
    exact (hg.block k (by omega) (fun e => h.ne k e.symm hk)).trans (hV1.block k hl)
  · rcases hat with e | e
    · exact h.ne g (by rw [← e]; exact hg1) hg2
    · have hl := (World.ownsRow.lt h.rb g hg2).2
      rw [e] at hg1
      injection hg1 with hg1
      omega
  · exact (h.bel.trans (hV1.mono h.bel.size)).grown hg (Nat.le_trans h.bel.size hs1) (fun k hk => (World.ownsRow.lt h.rp k hk).1)
theorem RSt.putP {w0 W2 : World} {num : Int} {s : By} {nx : Value} {LP' LB : List Int} {vP vB v' : Value} (hbx : W2.heap[w0.heap.size]? = some (.cells #[.int .i64 num, .string (rd s), nx, vP, vB] 62 (0, 0))) (hp : OwnI W2 w0.heap.size v' LP') (hb : OwnI W2 w0.heap.size vB LB) (hne : ∀ g, v'.ownBlock = some g → vB.ownBlock ≠ some g) (hbel : Below w0.heap.size w0 W2) :
    RSt w0 (W2.setCell ⟨w0.heap.size, 3, none⟩ v') num s nx LP' LB v' vB :=
  ⟨heap_setCell_same W2 _ 3 _ _ v' hbx, own_blk hp (fun k hk => Below.heap_setCell W2 _ v' k (fun e => own_neC hp hbx rdrInt (by rw [← show k = w0.heap.size from e]; exact hk))), own_blk hb (fun k hk => Below.heap_setCell W2 _ v' k (fun e => own_neC hb hbx rdrInt (by rw [← show k = w0.heap.size from e]; exact hk))), hne, hbel.setCell (p := ⟨w0.heap.size, 3, none⟩) (Nat.le_refl _) _⟩
theorem RSt.putB {w0 W2 : World} {num : Int} {s : By} {nx : Value} {LP LB' : List Int} {vP vB v' : Value} (hbx : W2.heap[w0.heap.size]? = some (.cells #[.int .i64 num, .string (rd s), nx, vP, vB] 62 (0, 0))) (hp : OwnI W2 w0.heap.size vP LP) (hb : OwnI W2 w0.heap.size v' LB') (hne : ∀ g, vP.ownBlock = some g → v'.ownBlock ≠ some g) (hbel : Below w0.heap.size w0 W2) :
    RSt w0 (W2.setCell ⟨w0.heap.size, 4, none⟩ v') num s nx LP LB' vP v' :=
  ⟨heap_setCell_same W2 _ 4 _ _ v' hbx, own_blk hp (fun k hk => Below.heap_setCell W2 _ v' k (fun e => own_neC hp hbx rdrInt (by rw [← show k = w0.heap.size from e]; exact hk))), own_blk hb (fun k hk => Below.heap_setCell W2 _ v' k (fun e => own_neC hb hbx rdrInt (by rw [← show k = w0.heap.size from e]; exact hk))), hne, hbel.setCell (p := ⟨w0.heap.size, 4, none⟩) (Nat.le_refl _) _⟩
/-- The same with the two lists in each other's places. -/
theorem RSt.growB {w0 V V1 W2 : World} {num : Int} {s : By} {nx : Value} {LP LB LB' : List Int} {vP vB v' : Value} (h : RSt w0 V num s nx LP LB vP vB) (hV1 : Below V.heap.size V V1) (_hown : OwnI W2 w0.heap.size v' LB') (hg : V1.grownBy W2 vB.ownBlock) (hat : v'.ownBlock = vB.ownBlock ∨ v'.ownBlock = some V1.heap.size) :
    W2.heap[w0.heap.size]? = some (.cells #[.int .i64 num, .string (rd s), nx, vP, vB] 62 (0, 0)) ∧ OwnI W2 w0.heap.size vP LP ∧ (∀ g, vP.ownBlock = some g → v'.ownBlock ≠ some g) ∧ Below w0.heap.size w0 W2 := by
  have hbl := (Array.getElem?_eq_some_iff.1 h.box).1
  have hs1 := hV1.size
  have hbx : W2.heap[w0.heap.size]? = some (.cells #[.int .i64 num, .string (rd s), nx, vP, vB] 62 (0, 0)) := (hg.block _ (by omega) (fun e => own_neC h.rb h.box rdrInt e.symm)).trans ((hV1.block _ hbl).trans h.box)
  refine ⟨hbx, own_blk h.rp (fun k hk => ?_), fun g hg1 hg2 => ?_, ?_⟩
  · have hl := (World.ownsRow.lt h.rp k hk).2
    exact (hg.block k (by omega) (fun e => h.ne k hk e.symm)).trans (hV1.block k hl)
  · rcases hat with e | e
    · exact h.ne g hg1 (by rw [← e]; exact hg2)
    · have hl := (World.ownsRow.lt h.rp g hg1).2
      rw [e] at hg2
      injection hg2 with hg2
      omega
  · exact (h.bel.trans (hV1.mono h.bel.size)).grown hg (Nat.le_trans h.bel.size hs1) (fun k hk => (World.ownsRow.lt h.rb k hk).1)
theorem RSt.at' {w0 V : World} {num : Int} {s : By} {nx : Value} {LP LB : List Int} {vP vB : Value} (h : RSt w0 V num s nx LP LB vP vB) : Rdr V w0.heap.size num s nx vP vB := h.box
/-- The reader's own cells that hold no list. -/
theorem RSt.set {w0 V : World} {num : Int} {s s' : By} {nx nx' : Value} {LP LB : List Int} {vP vB v : Value} {k : Nat} (h : RSt w0 V num s nx LP LB vP vB) (hk : #[Value.int .i64 num, .string (rd s), nx, vP, vB].setIfInBounds k v = #[.int .i64 num, .string (rd s'), nx', vP, vB]) : RSt w0 (V.setCell ⟨w0.heap.size, k, none⟩ v) num s' nx' LP LB vP vB :=
  ⟨by rw [← hk]; exact heap_setCell_same V _ k _ _ v h.box, own_blk h.rp (fun j hj => Below.heap_setCell V _ v j (fun e => own_neC h.rp h.box rdrInt (by rw [← show j = w0.heap.size from e]; exact hj))), own_blk h.rb (fun j hj => Below.heap_setCell V _ v j (fun e => own_neC h.rb h.box rdrInt (by rw [← show j = w0.heap.size from e]; exact hj))), h.ne, h.bel.setCell (p := ⟨w0.heap.size, k, none⟩) (Nat.le_refl _) _⟩
theorem RSt.past {w0 V V' : World} {num : Int} {s : By} {nx : Value} {LP LB : List Int} {vP vB : Value} (h : RSt w0 V num s nx LP LB vP vB) (hb : Below V.heap.size V V') : RSt w0 V' num s nx LP LB vP vB :=
  ⟨(hb.block _ (Array.getElem?_eq_some_iff.1 h.box).1).trans h.box, own_blk h.rp (fun k hk => hb.block k (World.ownsRow.lt h.rp k hk).2), own_blk h.rb (fun k hk => hb.block k (World.ownsRow.lt h.rb k hk).2), h.ne, h.bel.trans (hb.mono h.bel.size)⟩
theorem RSt.boxc {w0 V : World} {num : Int} {s : By} {nx : Value} {LP LB : List Int} {vP vB : Value} (h : RSt w0 V num s nx LP LB vP vB) : V.cell? ⟨w0.heap.size, 0, none⟩ = some (.int .i64 num) ∧ V.cell? ⟨w0.heap.size, 1, none⟩ = some (.string (rd s)) ∧ V.cell? ⟨w0.heap.size, 2, none⟩ = some nx ∧ V.cell? ⟨w0.heap.size, 3, none⟩ = some vP ∧ V.cell? ⟨w0.heap.size, 4, none⟩ = some vB ∧ ∀ k, V.frozen? ⟨w0.heap.size, k, none⟩ = false :=
  ⟨by rw [cell_of_row _ _ _ _ _ _ h.box]; rfl, by rw [cell_of_row _ _ _ _ _ _ h.box]; rfl, by rw [cell_of_row _ _ _ _ _ _ h.box]; rfl, by rw [cell_of_row _ _ _ _ _ _ h.box]; rfl, by rw [cell_of_row _ _ _ _ _ _ h.box]; rfl, fun k => frozen_of_row _ _ _ _ _ h.box⟩
end Go.Proofs.YtcbepmjojppokaaGreatDoor
