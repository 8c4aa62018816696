/-
  Cases that are lent: marks behind each list, cases behind the cases (stage 23).
-/
import Derived.Test.YtooeagpopncmgaaDoorTfOW
namespace Go.Proofs.YtooeagpopncmgaaDoor
open Go.RowKit Go.Shelf
theorem own_neC {W : World} {lo t s n b : Nat} {v : Value} {xs : List Value} {cs : Array Value} {u : TypeId} {z : Nat × Nat} (h : W.ownsRow lo t s v n xs) (hb : W.heap[b]? = some (.cells cs u z)) (ht : u ≠ t) : v.ownBlock ≠ some b := fun e => by
  rcases h.2 with ⟨e1, _⟩ | ⟨g, cap, cur, e1, _, hr, _⟩
  · rw [e1] at e; cases e
  · rw [e1] at e
    injection e with e
    subst e
    rw [hb] at hr
    injection hr with hr
    injection hr with _ hr
    exact ht hr
theorem own_slC {W : World} {lo t s n : Nat} {v : Value} {xs : List Value} (h : W.ownsRow lo t s v n xs) : ∃ au cu, v = .slice au n cu := by
  rcases h.2 with ⟨e1, e2⟩ | ⟨g, cap, cur, e1, _⟩
  · exact ⟨none, 0, by rw [e1, e2]⟩
  · exact ⟨_, cap, e1⟩
/-- A case of one's own that is being made. -/
structure CSt (w0 V : World) (LP LB : List Int) (vP vB : Value) : Prop where
  box : V.heap[w0.heap.size]? = some (.cells #[vP, vB] 36 (0, 0))
  rp : OwnI V w0.heap.size vP LP
  rb : OwnI V w0.heap.size vB LB
  ne : ∀ g, vP.ownBlock = some g → vB.ownBlock ≠ some g
  bel : Below w0.heap.size w0 V
theorem caseInt : (36 : TypeId) ≠ 3 := by decide
theorem CSt.grow {w0 V V1 W2 : World} {LP LB LP' : List Int} {vP vB v' : Value} (h : CSt w0 V LP LB vP vB) (hV1 : Below V.heap.size V V1) (_hown : OwnI W2 w0.heap.size v' LP') (hg : V1.grownBy W2 vP.ownBlock) (hat : v'.ownBlock = vP.ownBlock ∨ v'.ownBlock = some V1.heap.size) :
    W2.heap[w0.heap.size]? = some (.cells #[vP, vB] 36 (0, 0)) ∧ OwnI W2 w0.heap.size vB LB ∧ (∀ g, v'.ownBlock = some g → vB.ownBlock ≠ some g) ∧ Below w0.heap.size w0 W2 := by
  have hbl := (Array.getElem?_eq_some_iff.1 h.box).1
  have hs1 := hV1.size
  have hbx : W2.heap[w0.heap.size]? = some (.cells #[vP, vB] 36 (0, 0)) := (hg.block _ (by omega) (fun e => own_neC h.rp h.box caseInt e.symm)).trans ((hV1.block _ hbl).trans h.box)
  refine ⟨hbx, own_blk h.rb (fun k hk => ?_), fun g hg1 hg2 => ?_, ?_⟩
  · have hl := (World.ownsRow.lt h.rb k hk).2
    exact (hg.block k (by omega) (fun e => h.ne k e.symm hk)).trans (hV1.block k hl)
  · rcases hat with e | e
    · exact h.ne g (by rw [← e]; exact hg1) hg2
    · have hl := (World.ownsRow.lt h.rb g hg2).2
      rw [e] at hg1
      injection hg1 with hg1
      omega
  · exact (h.bel.trans (hV1.mono h.bel.size)).grown hg (Nat.le_trans h.bel.size hs1) (fun k hk => (World.ownsRow.lt h.rp k hk).1)
theorem CSt.putP {w0 W2 : World} {LP' LB : List Int} {vP vB v' : Value} (hbx : W2.heap[w0.heap.size]? = some (.cells #[vP, vB] 36 (0, 0))) (hp : OwnI W2 w0.heap.size v' LP') (hb : OwnI W2 w0.heap.size vB LB) (hne : ∀ g, v'.ownBlock = some g → vB.ownBlock ≠ some g) (hbel : Below w0.heap.size w0 W2) :
    CSt w0 (W2.setCell ⟨w0.heap.size, 0, none⟩ v') LP' LB v' vB :=
  ⟨heap_setCell_same W2 _ 0 _ _ v' hbx, own_blk hp (fun k hk => Below.heap_setCell W2 _ v' k (fun e => own_neC hp hbx caseInt (by rw [← show k = w0.heap.size from e]; exact hk))), own_blk hb (fun k hk => Below.heap_setCell W2 _ v' k (fun e => own_neC hb hbx caseInt (by rw [← show k = w0.heap.size from e]; exact hk))), hne, hbel.setCell (p := ⟨w0.heap.size, 0, none⟩) (Nat.le_refl _) _⟩
theorem CSt.putB {w0 W2 : World} {LP LB' : List Int} {vP vB v' : Value} (hbx : W2.heap[w0.heap.size]? = some (.cells #[vP, vB] 36 (0, 0))) (hp : OwnI W2 w0.heap.size vP LP) (hb : OwnI W2 w0.heap.size v' LB') (hne : ∀ g, vP.ownBlock = some g → v'.ownBlock ≠ some g) (hbel : Below w0.heap.size w0 W2) :
    CSt w0 (W2.setCell ⟨w0.heap.size, 1, none⟩ v') LP LB' vP v' :=
  ⟨heap_setCell_same W2 _ 1 _ _ v' hbx, own_blk hp (fun k hk => Below.heap_setCell W2 _ v' k (fun e => own_neC hp hbx caseInt (by rw [← show k = w0.heap.size from e]; exact hk))), own_blk hb (fun k hk => Below.heap_setCell W2 _ v' k (fun e => own_neC hb hbx caseInt (by rw [← show k = w0.heap.size from e]; exact hk))), hne, hbel.setCell (p := ⟨w0.heap.size, 1, none⟩) (Nat.le_refl _) _⟩
/-- The same with the two lists in each other's places. -/
theorem CSt.growB {w0 V V1 W2 : World} {LP LB LB' : List Int} {vP vB v' : Value} (h : CSt w0 V LP LB vP vB) (hV1 : Below V.heap.size V V1) (_hown : OwnI W2 w0.heap.size v' LB') (hg : V1.grownBy W2 vB.ownBlock) (hat : v'.ownBlock = vB.ownBlock ∨ v'.ownBlock = some V1.heap.size) :
    W2.heap[w0.heap.size]? = some (.cells #[vP, vB] 36 (0, 0)) ∧ OwnI W2 w0.heap.size vP LP ∧ (∀ g, vP.ownBlock = some g → v'.ownBlock ≠ some g) ∧ Below w0.heap.size w0 W2 := by
  have hbl := (Array.getElem?_eq_some_iff.1 h.box).1
  have hs1 := hV1.size
  have hbx : W2.heap[w0.heap.size]? = some (.cells #[vP, vB] 36 (0, 0)) := (hg.block _ (by omega) (fun e => own_neC h.rb h.box caseInt e.symm)).trans ((hV1.block _ hbl).trans h.box)
  refine ⟨hbx, own_blk h.rp (fun k hk => ?_), fun g hg1 hg2 => ?_, ?_⟩
  · have hl := (World.ownsRow.lt h.rp k hk).2
    exact (hg.block k (by omega) (fun e => h.ne k hk e.symm)).trans (hV1.block k hl)
  · rcases hat with e | e
    · exact h.ne g hg1 (by rw [← e]; exact hg2)
    · have hl := (World.ownsRow.lt h.rp g hg1).2
      rw [e] at hg2
      injection hg2 with hg2
      omega
  · exact (h.bel.trans (hV1.mono h.bel.size)).grown hg (Nat.le_trans h.bel.size hs1) (fun k hk => (World.ownsRow.lt h.rb k hk).1)
/-- Appending numbers to a row of one's own, as a run. -/
theorem run_app_own {W : World} (lo : Nat) (v : Value) (L : List Int) (hown : OwnI W lo v L) (ad : Addr) (c : Nat) (N : List Int) (hN : ∀ j (hj : j < N.length), W.cell? (ad.add j) = some (.int .i64 N[j])) (hl : L.length + N.length ≤ 17592186044416) (hlo : lo ≤ W.heap.size) :
    ∃ v' w', (Builtin.append_ #[34, 34] 34 #[v, .slice (some ad) N.length c]).run Tryd.prog W = .ok v' w' ∧ OwnI w' lo v' (L ++ N) ∧ W.grownBy w' v.ownBlock ∧ (v'.ownBlock = v.ownBlock ∨ v'.ownBlock = some W.heap.size) := by
  obtain ⟨i0, hi, hz0, hz1, hz2⟩ := info_parts infoInt
  obtain ⟨v', w', h1, h2, h3, _, h5⟩ := run_append_own_at (P := Tryd.prog) (w := W) lo 34 34 3 i0 (.int .i64 0) 1 8 Tryd.underlying34 hi hz0 hz1 hz2 rfl (by decide) v L.length (L.map (Value.int .i64)) hown ad N.length c (N.map (Value.int .i64)) (by simp) (fun j u hu => by
    have hj : j < N.length := by have := (List.getElem?_eq_some_iff.1 hu).1; simpa using this
    rw [hN j hj]
    have : (N.map (Value.int .i64))[j]? = some (.int .i64 N[j]) := by simp [hj]
    rw [this] at hu
    exact hu) (fun u hu => by obtain ⟨y, _, rfl⟩ := List.mem_map.1 hu; rfl) (by unfold maxLen; omega) (by omega) hlo
  refine ⟨v', w', h1, ?_, h3, h5⟩
  unfold OwnI
  rw [List.length_append, List.map_append]
  exact h2
/-- Appending a list to nothing, as a run. -/
theorem run_app_nil {W : World} (lo : Nat) (a : Option Addr) (c : Nat) (N : List Int) (hN : IA W a N) (hl : N.length ≤ 17592186044416) (hlo : lo ≤ W.heap.size) :
    ∃ v' w', (Builtin.append_ #[34, 34] 34 #[.slice none 0 0, .slice a N.length c]).run Tryd.prog W = .ok v' w' ∧ OwnI w' lo v' N ∧ W.grownBy w' none ∧ (v'.ownBlock = none ∨ v'.ownBlock = some W.heap.size) := by
  cases a with
  | none =>
    have hL : N = [] := by
      cases N with
      | nil => rfl
      | cons y r => obtain ⟨b, off, e, _⟩ := hN.at' 0 (by simp); cases e
    subst hL
    refine ⟨.slice none 0 0, W, by go_simp, World.ownsRow_nil _ _ _ _, ⟨rfl, rfl, rfl, Nat.le_refl _, fun _ _ _ => rfl⟩, .inl rfl⟩
  | some ad =>
    obtain ⟨v', w', h1, h2, h3, h4⟩ := run_app_own lo (.slice none 0 0) [] (World.ownsRow_nil _ _ _ _) ad c N (fun j hj => by
      obtain ⟨b, off, e, _, h⟩ := hN.at' j hj
      cases e
      rw [Addr.add_mid]
      exact h) (by simp; omega) hlo
    exact ⟨v', w', h1, by simpa using h2, h3, h4⟩
end Go.Proofs.YtooeagpopncmgaaDoor
