/-
  BxFW, BxGM, BxHM, BxIW, ShelfH, BwHW, IterW, USplitW, BwEW.
-/
import Derived.Test.YtlfeiadgahdgoaaGreatDoorMqh
import Derived.Shelf.Spec.TrailingZeros
import Derived.Ground.Names7Prog
import Derived.Test.YtlfeiadgahdgoaaGreatDoorProg
import Derived.Test.YtlfeiadgahdgoaaGreatDoorMqd
import Derived.Test.YtlfeiadgahdgoaaGreatDoorMqc
import Derived.RangeFuncNested
import Derived.RangeFuncBound
import Derived.RangeFuncCalls
import Derived.RangeFuncLeaves
import Derived.RangeFuncBox
import Derived.Shelf.Abstract
import Derived.OwnWalkIn
import Derived.TacticsInMore
import Derived.LoopNIn
import Derived.LoopIn
import Derived.Lib.RuneCount
import Derived.Laws.RangeString
import Derived.Laws.RangeAny
import Derived.Maps.OwnIn
namespace Go.Proofs.YtlfeiadgahdgoaaGreatDoor
open Go.RowKit Go.Shelf Go.Lib
def otS : List Sec := [⟨⟨#[101, 110]⟩, ⟨#[]⟩, [(true, ⟨#[97]⟩), (true, ⟨#[98]⟩)]⟩, ⟨⟨#[100, 101]⟩, ⟨#[]⟩, [(false, ⟨#[97]⟩)]⟩]
theorem five_new (w : World) (o0 o1 o2 o3 o4 : Obj) : ∀ W, W = ((((w.alloc o0).alloc o1).alloc o2).alloc o3).alloc o4 → W.heap[w.heap.size]? = some o0 ∧ W.heap[w.heap.size + 1]? = some o1 ∧ W.heap[w.heap.size + 3]? = some o3 ∧ W.heap[w.heap.size + 4]? = some o4 ∧ Below w.heap.size w W := by
  rintro W rfl
  obtain ⟨h0, h1, _, h3, hs, hb⟩ := four_new w o0 o1 o2 o3 _ rfl
  have n4 := heap_alloc_new ((((w.alloc o0).alloc o1).alloc o2).alloc o3) o4
  rw [hs] at n4
  exact ⟨(Below.heap_alloc _ _ _ (by omega)).trans h0, (Below.heap_alloc _ _ _ (by omega)).trans h1, (Below.heap_alloc _ _ _ (by omega)).trans h3, n4, hb.alloc (by omega) _⟩
theorem lt_heap {w : World} {g : Nat} {o : Obj} (h : w.heap[g]? = some o) : g < w.heap.size := (Array.getElem?_eq_some_iff.1 h).1
theorem otS_xa {W : World} {b : Nat} (h1 : W.heap[b + 1]? = some (.cells #[.bool true, .string ⟨#[97]⟩, .bool true, .string ⟨#[98]⟩] 40 (0, 0))) (h3 : W.heap[b + 3]? = some (.cells #[.bool false, .string ⟨#[97]⟩] 40 (0, 0)))
    (h4 : W.heap[b + 4]? = some (.cells #[.string ⟨#[101, 110]⟩, .string ⟨#[]⟩, .slice (some ⟨b + 1, 0, none⟩) 2 2, .string ⟨#[100, 101]⟩, .string ⟨#[]⟩, .slice (some ⟨b + 3, 0, none⟩) 1 1] 38 (0, 0))) : XA W (some ⟨b + 4, 0, none⟩) otS := by
  have c : ∀ {g : Nat} {cs : Array Value} {t : TypeId} (p : Nat), W.heap[g]? = some (.cells cs t (0, 0)) → W.cell? ⟨g, p, none⟩ = cs[p]? := fun p h => cell_of_row _ _ _ _ _ _ h
  refine ⟨fun k hk => ?_⟩
  have hk2 : k < 2 := hk
  obtain rfl | rfl : k = 0 ∨ k = 1 := by omega
  · refine ⟨b + 4, 0, some ⟨b + 1, 0, none⟩, 2, rfl, lt_heap h4, by rw [c _ h4]; rfl, by rw [c _ h4]; rfl, by rw [c _ h4]; rfl, ⟨fun j hj => ?_⟩⟩
    have hj2 : j < 2 := hj
    obtain rfl | rfl : j = 0 ∨ j = 1 := by omega
    · exact ⟨b + 1, 0, rfl, lt_heap h1, by rw [c _ h1]; rfl, by rw [c _ h1]; rfl⟩
    · exact ⟨b + 1, 0, rfl, lt_heap h1, by rw [c _ h1]; rfl, by rw [c _ h1]; rfl⟩
  · refine ⟨b + 4, 0, some ⟨b + 3, 0, none⟩, 1, rfl, lt_heap h4, by rw [c _ h4]; rfl, by rw [c _ h4]; rfl, by rw [c _ h4]; rfl, ⟨fun j hj => ?_⟩⟩
    have hj2 : j < 1 := hj
    obtain rfl : j = 0 := by omega
    exact ⟨b + 3, 0, rfl, lt_heap h3, by rw [c _ h3]; rfl, by rw [c _ h3]; rfl⟩
set_option maxRecDepth 10000 in
set_option maxHeartbeats 1600000 in
theorem other_any (w : World) : Calls Tryz.prog 15 #[] w fun e w' => ∃ a, e = .returned (.agg #[.slice a 2 2]) ∧ XA w' a otS ∧ Below w.heap.size w w' := by
  go_enter Tryz.func15, Tryz.ntmps15
  go_wp2
  generalize hW : World.alloc _ _ = W
  obtain ⟨h0, h1, h3, h4, hb⟩ := five_new w _ _ _ _ _ W hW.symm
  refine bodyPost_ret (results_cell_row rfl _ _ w.heap.size 24 _ _ _ rfl h0 Tryz.underlying24 rfl (by kernel_rfl)) rfl ?_
  exact ⟨_, rfl, otS_xa h1 h3 h4, hb⟩
end Go.Proofs.YtlfeiadgahdgoaaGreatDoor
namespace Go.Proofs.YtlfeiadgahdgoaaGreatDoor
open Go.RowKit Go.Shelf Go.Lib
structure Four (w : World) (lo gl : Nat) (vS : List (Value × List SecO)) : Prop where
  len : vS.length = 4
  row : ∀ j (h : j < vS.length), w.cell? ⟨gl, j, none⟩ = some vS[j].1
  wb : ∀ p ∈ vS, WB w lo p.1 p.2
  ap : vS.Pairwise fun p q => ∀ k, WB.owns p.1 p.2 k → ¬ WB.owns q.1 q.2 k
  far : ∀ p ∈ vS, ¬ WB.owns p.1 p.2 gl
  lt : gl < w.heap.size
  sm : ∀ p ∈ vS, p.2.length ≤ 500 ∧ ∀ x ∈ p.2, x.s.ed.length ≤ 20000
def evN (S : List SecO) : List (Value × Nat) := S.map fun x => (x.ev, x.s.ed.length)
def allE (vS : List (Value × List SecO)) : List (Value × Nat) := vS.flatMap fun p => evN p.2
def secN (vS : List (Value × List SecO)) : List (Value × Nat) := vS.map fun p => (p.1, p.2.length)
theorem evN_fst (S : List SecO) : (evN S).map (·.1) = S.map (·.ev) := by simp [evN]
theorem mem_all {vS : List (Value × List SecO)} {y : Value × Nat} (h : y ∈ allE vS) : ∃ p ∈ vS, ∃ x ∈ p.2, y = (x.ev, x.s.ed.length) := by
  obtain ⟨p, hp, h⟩ := List.mem_flatMap.1 h
  obtain ⟨x, hx, e⟩ := List.mem_map.1 h
  exact ⟨p, hp, x, hx, e.symm⟩
theorem aprt_of {vs : List (Value × Nat)} (h : vs.Pairwise fun x y => ∀ g, x.1.ownBlock = some g → y.1.ownBlock ≠ some g) : Aprt vs := fun j j' hj hj' hne g hg hg' => by
  have h1 := List.pairwise_iff_getElem.1 h
  rcases Nat.lt_or_gt_of_ne hne with hlt | hlt
  · exact h1 j j' hj hj' hlt g hg hg'
  · exact h1 j' j hj' hj hlt g hg' hg
theorem Four.aprt {w : World} {lo gl : Nat} {vS : List (Value × List SecO)} (h : Four w lo gl vS) : Aprt (allE vS) := by
  refine aprt_of (List.pairwise_flatMap.2 ⟨fun p hp => ?_, ?_⟩)
  · unfold evN
    rw [List.pairwise_map]
    exact (h.wb p hp).pw
  · refine h.ap.imp (fun {p q} hpq => ?_)
    intro x hx y hy g hg hg'
    obtain ⟨u, hu, rfl⟩ := List.mem_map.1 hx
    obtain ⟨v, hv, rfl⟩ := List.mem_map.1 hy
    exact hpq g (.inr ⟨u, hu, hg⟩) (.inr ⟨v, hv, hg'⟩)
theorem Four.aprtS {w : World} {lo gl : Nat} {vS : List (Value × List SecO)} (h : Four w lo gl vS) : Aprt (secN vS) := by
  refine aprt_of ?_
  unfold secN
  rw [List.pairwise_map]
  exact h.ap.imp (fun {p q} hpq g hg hg' => hpq g (.inl hg) (.inl hg'))
/-- No list of sections lies where a list of edits does. -/
theorem Four.cross {w : World} {lo gl : Nat} {vS : List (Value × List SecO)} (h : Four w lo gl vS) {p : Value × List SecO} (hp : p ∈ vS) {g : Nat} (hg : p.1.ownBlock = some g) : ∀ j (hj : j < (allE vS).length), (allE vS)[j].1.ownBlock ≠ some g := fun j hj e => by
  obtain ⟨q, hq, x, hx, e2⟩ := mem_all (List.getElem_mem hj)
  rw [e2] at e
  by_cases hpq : p = q
  · subst hpq
    exact (h.wb p hp).ne x hx g e hg
  · obtain ⟨i, hi, rfl⟩ := List.getElem_of_mem hp
    obtain ⟨i', hi', rfl⟩ := List.getElem_of_mem hq
    have hne : i ≠ i' := fun e3 => hpq (by subst e3; rfl)
    have h1 := List.pairwise_iff_getElem.1 h.ap
    rcases Nat.lt_or_gt_of_ne hne with hlt | hlt
    · exact h1 i i' hi hi' hlt g (.inl hg) (.inr ⟨x, hx, e⟩)
    · exact h1 i' i hi' hi hlt g (.inr ⟨x, hx, e⟩) (.inl hg)
theorem Four.glE {w : World} {lo gl : Nat} {vS : List (Value × List SecO)} (h : Four w lo gl vS) : ∀ j (hj : j < (allE vS).length), (allE vS)[j].1.ownBlock ≠ some gl := fun j hj e => by
  obtain ⟨q, hq, x, hx, e2⟩ := mem_all (List.getElem_mem hj)
  rw [e2] at e
  exact h.far q hq (.inr ⟨x, hx, e⟩)
theorem Four.ownE {w : World} {lo gl : Nat} {vS : List (Value × List SecO)} (h : Four w lo gl vS) : ∀ j (hj : j < (allE vS).length), (∃ xs, w.ownsRow lo 40 2 (allE vS)[j].1 (allE vS)[j].2 xs) ∧ (allE vS)[j].2 ≤ 20000 := fun j hj => by
  obtain ⟨q, hq, x, hx, e2⟩ := mem_all (List.getElem_mem hj)
  rw [e2]
  exact ⟨⟨_, (h.wb q hq).ed x hx⟩, (h.sm q hq).2 x hx⟩
theorem allE_len {vS : List (Value × List SecO)} (h : ∀ p ∈ vS, p.2.length ≤ 500) : (allE vS).length ≤ 500 * vS.length := by
  induction vS with
  | nil => simp [allE]
  | cons p l ih =>
    have h1 := ih (fun q hq => h q (.tail _ hq))
    have h2 := h p (.head _)
    unfold allE at h1 ⊢
    rw [List.flatMap_cons, List.length_append, List.length_cons]
    have : (evN p.2).length = p.2.length := by simp [evN]
    omega
theorem allE_take (vS : List (Value × List SecO)) (k : Nat) (h : k < vS.length) : allE (vS.take (k + 1)) = allE (vS.take k) ++ evN vS[k].2 := by
  unfold allE
  rw [List.take_succ_eq_append_getElem h, List.flatMap_append]
  simp
theorem In.trans {w W w' : World} {lo : Nat} {vk v' : Value} {us es : List Value} (h : In w W lo (.slice none 0 0) vk us) (h2 : In W w' lo vk v' (us ++ es)) : In w w' lo (.slice none 0 0) v' (us ++ es) := by
  have hvk : ∀ g, vk.ownBlock = some g → w.heap.size ≤ g := fun g hg => by
    rcases h.nb g hg with h1 | h1
    · cases h1
    · exact h1
  refine ⟨h2.own, fun g hg => .inr ?_, fun k h1 _ => ?_, Nat.le_trans h.sz h2.sz, h.bel.trans h2.bel⟩
  · rcases h2.nb g hg with h1 | h1
    · exact hvk g h1
    · exact Nat.le_trans h.sz h1
  · exact (h2.kp k (Nat.lt_of_lt_of_le h1 h.sz) (fun e => by have := hvk k e; omega)).trans (h.kp k h1 (fun e => by cases e))
end Go.Proofs.YtlfeiadgahdgoaaGreatDoor
namespace Go.Proofs.YtlfeiadgahdgoaaGreatDoor
open Go.RowKit Go.Shelf Go.Lib
structure Rdy (w wb : World) (lo gl : Nat) (vS : List (Value × List SecO)) (av : Option Addr) : Prop where
  row : ∀ W : World, Kp wb W lo (allE vS) → ∀ j (h : j < (allE vS).length), ∃ ga, av = some ⟨ga, 0, none⟩ ∧ W.cell? ⟨ga, j, none⟩ = some (allE vS)[j].1
  fl : Fl wb wb lo 40 2 1 (allE vS) 0 0
  v0 : ∀ j (h : j < (allE vS).length) g, (allE vS)[j].1.ownBlock = some g → g < wb.heap.size
  sl : ∀ j (h : j < (allE vS).length), ∃ a c, (allE vS)[j].1 = .slice a (allE vS)[j].2 c
  rowS : ∀ W : World, Kp wb W lo (allE vS) → ∀ j (h : j < (secN vS).length), W.cell? ⟨gl, j, none⟩ = some (secN vS)[j].1
  ownS : ∀ W : World, Kp wb W lo (allE vS) → ∀ j (h : j < (secN vS).length), ∃ xs, W.ownsRow lo 38 3 (secN vS)[j].1 (secN vS)[j].2 xs
  sz : w.heap.size ≤ wb.heap.size
  bel : Below lo w wb
  kw : ∀ k, k < w.heap.size → wb.heap[k]? = w.heap[k]?
theorem Four.ready {w wb : World} {lo gl : Nat} {vS : List (Value × List SecO)} {va : Value} (h : Four w lo gl vS) (hI : In w wb lo (.slice none 0 0) va ((allE vS).map (·.1))) : ∃ av cv, va = .slice av (allE vS).length cv ∧ Rdy w wb lo gl vS av := by
  have hlen : ((allE vS).map (·.1)).length = (allE vS).length := by simp
  have ho := hI.own
  rw [hlen] at ho
  obtain ⟨av, cv, e⟩ := own_slice6 ho
  subst e
  have kp : ∀ k, k < w.heap.size → wb.heap[k]? = w.heap[k]? := fun k hk => hI.kp k hk (fun e => by cases e)
  have hlt : ∀ j (hj : j < (allE vS).length) g, (allE vS)[j].1.ownBlock = some g → g < w.heap.size := fun j hj g hg => by
    obtain ⟨⟨xs, h1⟩, _⟩ := h.ownE j hj
    exact (World.ownsRow.lt h1 g hg).2
  have hsz := hI.sz
  refine ⟨av, cv, rfl, ⟨fun W hW j hj => ?_, ⟨fun j hj => ?_, Kp.refl _ _ _⟩, fun j hj g hg => by have := hlt j hj g hg; omega, fun j hj => ?_, fun W hW j hj => ?_, fun W hW j hj => ?_, hsz, hI.bel, kp⟩⟩
  · obtain ⟨ga, cap, e, _, hg2, _⟩ := own_form ho (by omega)
    injection e with e1 e2 e3
    subst e1 e3
    have hg0 : w.heap.size ≤ ga := by
      rcases hI.nb ga rfl with h1 | h1
      · cases h1
      · exact h1
    refine ⟨ga, rfl, ?_⟩
    rw [World.cell?_of_block (a := ⟨ga, j, none⟩) (hW.kp ga hg2 (fun q hq e => by have := hlt q hq ga e; omega)), World.ownsRow.cellAt ho j (by omega)]
    simp [hj]
  · obtain ⟨⟨xs, h1⟩, _⟩ := h.ownE j hj
    exact ⟨xs, own_blk h1 (fun k hk => kp k (World.ownsRow.lt h1 k hk).2), fun hh => absurd hh (Nat.not_lt_zero _), fun _ k hk => absurd hk (Nat.not_lt_zero _)⟩
  · obtain ⟨⟨xs, h1⟩, _⟩ := h.ownE j hj
    exact own_slice6 h1
  · have hj2 : j < vS.length := by simpa [secN] using hj
    have e : (secN vS)[j].1 = vS[j].1 := by simp [secN]
    rw [e, ← h.row j hj2]
    have hl := h.lt
    exact World.cell?_of_block (a := ⟨gl, j, none⟩) ((hW.kp gl (by omega) h.glE).trans (kp gl hl))
  · have hj2 : j < vS.length := by simpa [secN] using hj
    have e : (secN vS)[j] = (vS[j].1, vS[j].2.length) := by simp [secN]
    rw [e]
    have hm : vS[j] ∈ vS := List.getElem_mem hj2
    have h1 := (h.wb _ hm).sec
    refine ⟨_, own_blk h1 (fun k hk => ?_)⟩
    have hk2 := (World.ownsRow.lt h1 k hk).2
    exact (hW.kp k (by omega) (h.cross hm hk)).trans (kp k hk2)
end Go.Proofs.YtlfeiadgahdgoaaGreatDoor
namespace Go.Proofs.YtlfeiadgahdgoaaGreatDoor
open Go.RowKit Go.Shelf Go.Lib
set_option maxRecDepth 10000 in
set_option maxHeartbeats 9600000 in
theorem apart6_any (lo gl cl : Nat) (vS : List (Value × List SecO)) (w : World) (hlo : lo ≤ w.heap.size) (hf : Four w lo gl vS) :
    Calls Tryz.prog 16 #[.slice (some ⟨gl, 0, none⟩) 4 cl] w fun e w' => e = .returned (.bool true) ∧ Below lo w w' ∧ ∀ k, k < w.heap.size → (∀ p ∈ vS, ¬ WB.owns p.1 p.2 k) → w'.heap[k]? = w.heap[k]? := by
  have h4 := hf.len
  have HIn : Hid (∀ k (h : k < vS.length) (W : World) (vk : Value), In w W lo (.slice none 0 0) vk ((allE (vS.take k)).map (·.1)) → W.cell? ⟨gl, k, none⟩ = some vS[k].1 ∧ ∃ a c, vS[k].1 = .slice a vS[k].2.length c ∧ Calls Tryz.prog 32 #[vk, .agg #[.slice a vS[k].2.length c]] W fun e w' => ∃ v', e = .returned v' ∧ In w w' lo (.slice none 0 0) v' ((allE (vS.take (k + 1))).map (·.1))) := hid0 (fun k hk W vk hI => by
    have hm : vS[k] ∈ vS := List.getElem_mem hk
    have hwb := hf.wb _ hm
    obtain ⟨a, c, e, _⟩ := hwb.form
    have hlt := hf.lt
    refine ⟨(World.cell?_of_block (a := ⟨gl, k, none⟩) (hI.kp gl hlt (fun e => by cases e))).trans (hf.row k hk), a, c, e, ?_⟩
    have hul : ((allE (vS.take k)).map (·.1)).length ≤ 10000 := by
      have h1 := allE_len (vS := vS.take k) (fun p hp => (hf.sm p (List.mem_of_mem_take hp)).1)
      rw [List.length_take] at h1
      rw [List.length_map]
      omega
    have hel : (vS[k].2.map (·.ev)).length = vS[k].2.length := by simp
    have hsz := hI.sz
    have hsec := hwb.sec
    rw [e] at hsec
    have hin := inner_any lo vk ((allE (vS.take k)).map (·.1)) (vS[k].2.map (·.ev)) a c W (by omega) hul (by rw [hel]; exact (hf.sm _ hm).1) hI.own (fun j hj => by
      have hj2 : j < vS[k].2.length := by simpa using hj
      obtain ⟨g, cap, e2, _, hg2, _⟩ := own_form hsec (by omega)
      injection e2 with e2 e3 e4
      subst e2 e4
      refine ⟨g, 0, rfl, by omega, ?_⟩
      rw [World.cell?_of_block (a := ⟨g, 0 + j * 3 + 2, none⟩) (hI.kp g hg2 (fun e => by cases e)), Nat.zero_add, World.ownsRow.cellAt hsec _ (by omega), (cellsO_at vS[k].2 j hj2).2.2]
      simp) (fun x hx => by
      obtain ⟨y, hy, rfl⟩ := List.mem_map.1 hx
      obtain ⟨b, q, e2⟩ := own_slice6 (hwb.ed y hy)
      exact ⟨b, _, q, e2⟩) (fun b off eb e2 => by
      have h1 : b < w.heap.size := by
        have := World.ownsRow.lt hsec b (by rw [eb]; rfl)
        exact this.2
      rcases hI.nb b e2 with h2 | h2
      · cases h2
      · omega)
    rw [hel] at hin
    refine hin.mono ?_
    rintro e w' ⟨v', rfl, h2⟩
    refine ⟨v', rfl, ?_⟩
    rw [allE_take vS k hk, List.map_append, evN_fst]
    exact hI.trans h2)
  have HI0 : Hid (In w w lo (.slice none 0 0) (.slice none 0 0) ((allE (vS.take 0)).map (·.1))) := hid0 ⟨World.ownsRow_nil _ _ _ _, fun g e => (by cases e), fun _ _ _ => rfl, Nat.le_refl _, Below.refl _ _⟩
  have HFo := hid0 hf
  clear hf
  go_enter Tryz.func16, Tryz.ntmps16
  go_wp2
  go_loopw [3, 4] (fun v i wr => ∃ (k : Nat) (vk : Value), k ≤ 4 ∧ i = .int .i64 (k : Int) ∧ vk = v ∧ Hid (In w wr lo (.slice none 0 0) vk ((allE (vS.take k)).map (·.1)))) (fun _ i _ => 4 - (intOf i).toNat)
  case atStart => exact ⟨0, _, by omega, rfl, rfl, HI0⟩
  case round =>
    clear HI0
    obtain ⟨i, vk, hi, rfl, rfl, HI⟩ := hrel
    by_cases hlt : i < 4
    · have hiz : (i : Int) < 4 := by omega
      have hi0 : (0 : Int) ≤ (i : Int) := by omega
      have hil : i < vS.length := by omega
      obtain ⟨hc, a, c, he, hcall⟩ := HIn.out i hil wr vk HI.out
      rw [he] at hc
      have HCall := hid0 hcall
      clear hcall he HI
      generalize vS[i].2.length = n at *
      go_wp2_with (go_at_call 32; refine HCall.out.mono ?_; rintro e w1 ⟨v1, rfl, h1⟩; have HI1 := hid0 h1; clear h1)
      go_roundw
      case rel => exact ⟨i + 1, _, by omega, by go_num, rfl, HI1⟩
      case measure => simp [intOf]; omega
    · have hiI : (i : Int) = 4 := by omega
      have hi4 : vS.take i = vS := List.take_of_length_le (by omega)
      rw [hi4] at HI
      rw [hiI]
      obtain ⟨av, cv, rfl, hrdy⟩ := HFo.out.ready HI.out
      have hml := allE_len (vS := vS) (fun p hp => (HFo.out.sm p hp).1)
      rw [h4] at hml
      have HOut : Hid (∀ W : World, Kp wr W lo (allE vS) → Calls Tryz.prog 34 #[.slice (some ⟨gl, 0, none⟩) 4 cl] W fun e w' => e = .returned (.bool true) ∧ Kp W w' lo (secN vS)) := hid0 (fun W hW => outer_any lo gl cl (secN vS) W (by simp [secN, h4]) (by have := hrdy.sz; have := hW.sz; omega) (by have := HFo.out.lt; have := hrdy.sz; have := hW.sz; omega) (fun j hj e => by
          have hj2 : j < vS.length := by simpa [secN] using hj
          have e2 : (secN vS)[j].1 = vS[j].1 := by simp [secN]
          rw [e2] at e
          exact HFo.out.far _ (List.getElem_mem hj2) (.inl e)) (hrdy.rowS W hW) (hrdy.ownS W hW) HFo.out.aprtS (fun j hj => by
          have hj2 : j < vS.length := by simpa [secN] using hj
          have e2 : (secN vS)[j].2 = vS[j].2.length := by simp [secN]
          rw [e2]
          exact (HFo.out.sm _ (List.getElem_mem hj2)).1))
      have HKe : Hid (∀ W w' : World, Kp wr W lo (allE vS) → Kp W w' lo (secN vS) → ∀ k, k < w.heap.size → (∀ p ∈ vS, ¬ WB.owns p.1 p.2 k) → w'.heap[k]? = w.heap[k]?) := hid0 (fun W w' h1 h2 k hk hn => by
        have hz := hrdy.sz
        have hz2 := h1.sz
        refine (h2.kp k (by omega) (fun j hj e => ?_)).trans ((h1.kp k (by omega) (fun j hj e => ?_)).trans (hrdy.kw k hk))
        · have hj2 : j < vS.length := by simpa [secN] using hj
          have e2 : (secN vS)[j].1 = vS[j].1 := by simp [secN]
          rw [e2] at e
          exact hn _ (List.getElem_mem hj2) (.inl e)
        · obtain ⟨q, hq, x, hx, e2⟩ := mem_all (List.getElem_mem hj)
          rw [e2] at e
          exact hn q hq (.inr ⟨x, hx, e⟩))
      have HA := hid0 HFo.out.aprt
      have HNn : Hid (∀ j (h : j < (allE vS).length), (allE vS)[j].2 ≤ 20000) := hid0 (fun j hj => (HFo.out.ownE j hj).2)
      have HRow := hid0 hrdy.row
      have HSl := hid0 hrdy.sl
      have HV0 := hid0 hrdy.v0
      have HF0 := hid0 hrdy.fl
      have HBw := hid0 hrdy.bel
      have hlb : lo ≤ wr.heap.size := by have := hrdy.sz; omega
      have HMk := hid0 (fun i (hi : i < 2001) W => mark6_any i (by omega) W)
      obtain ⟨j0, hj, hy0, hy1, hy2⟩ := info_parts infoEdit
      obtain ⟨wb, hwb⟩ : ∃ wb, wb = wr := ⟨_, rfl⟩
      rw [← hwb] at HOut HRow HV0 HF0 HBw hlb HKe
      obtain ⟨SN, hSN⟩ : ∃ SN, SN = secN vS := ⟨_, rfl⟩
      rw [← hSN] at HOut HKe
      clear hrdy HI HFo HIn hi4 hi hlt hiI h4
      generalize allE vS = vs at *
      go_wp2
      go_loopw [5] (fun i wr => ∃ k : Nat, k ≤ vs.length ∧ i = .int .i64 (k : Int) ∧ Hid (Fl wb wr lo 40 2 1 vs k 0)) (fun i _ => vs.length - (intOf i).toNat)
      case atStart => exact ⟨0, by omega, rfl, by rw [← hwb]; exact HF0⟩
      case round =>
        clear HF0 hwb
        obtain ⟨i, hi, rfl, HF⟩ := hrel
        by_cases hil : i < vs.length
        · have hiz : (i : Int) < (vs.length : Int) := by omega
          have hi0 : (0 : Int) ≤ (i : Int) := by omega
          have hni := HNn.out i hil
          obtain ⟨a, c, hvi⟩ := HSl.out i hil
          have HVi := hid0 hvi
          have HMi := hid0 (HMk.out i (by omega))
          clear hvi
          go_wp2
          go_loopw [6] (fun j wr => ∃ k : Nat, k ≤ vs[i].2 ∧ j = .int .i64 (k : Int) ∧ Hid (Fl wb wr lo 40 2 1 vs i k)) (fun j _ => vs[i].2 - (intOf j).toNat)
          case atStart => exact ⟨0, Nat.zero_le _, rfl, HF⟩
          case round =>
            clear HF
            obtain ⟨k, hk, rfl, HF⟩ := hrel
            obtain ⟨ga, rfl, hr0⟩ := HRow.out wr HF.out.kp i hil
            rw [HVi.out] at hr0
            by_cases hkl : k < vs[i].2
            · have hkz : (k : Int) < (vs[i].2 : Int) := by omega
              have hk0 : (0 : Int) ≤ (k : Int) := by omega
              obtain ⟨g, cap, hv, hg1, hg2, hcs⟩ := HF.out.at hil (by omega)
              have hv2 := hv
              rw [HVi.out] at hv2
              injection hv2 with e1 e2 e3
              subst e1 e3
              clear hv e2
              have HCs : Hid (∀ W : World, Fl wb W lo 40 2 1 vs i k → W.cell? ⟨ga, i, none⟩ = some (.slice (some ⟨g, 0, none⟩) vs[i].2 c) ∧ ((∃ u, W.cell? ⟨g, k * 2, none⟩ = some u) ∧ W.frozen? ⟨g, k * 2, none⟩ = false) ∧ ((∃ u, W.cell? ⟨g, k * 2 + 1, none⟩ = some u) ∧ W.frozen? ⟨g, k * 2 + 1, none⟩ = false)) := hid0 (fun W hW => by
                obtain ⟨g2, cap2, h1, _, _, h2⟩ := hW.at hil (by omega)
                rw [HVi.out] at h1
                injection h1 with h1
                injection h1 with h1
                injection h1 with h1
                subst h1
                obtain ⟨ga2, e4, h3⟩ := HRow.out W hW.kp i hil
                injection e4 with e4
                injection e4 with e4
                subst e4
                rw [HVi.out] at h3
                exact ⟨h3, h2 _ (by omega), h2 _ (by omega)⟩)
              have HSt : Hid (∀ W : World, Fl wb W lo 40 2 1 vs i k → Fl wb ((W.setCell ⟨g, k * 2, none⟩ (.bool false)).setCell ⟨g, k * 2 + 1, none⟩ (.string (strOf (mkS i)))) lo 40 2 1 vs i (k + 1)) := hid0 (fun W hW => (hW.poke HA.out hil HVi.out (k * 2) _ (fun q _ => by omega)).mark HA.out hil HVi.out hkl (by omega))
              obtain ⟨_, ⟨⟨u0, c0⟩, f0⟩, ⟨⟨u1, c1⟩, f1⟩⟩ := HCs.out wr HF.out
              clear hcs
              generalize vs[i].2 = n at *
              go_wp2
              go_region_with (go_at_call 33; refine (HMi.out _).mono ?_; rintro e w1 ⟨rfl, hb1⟩; have HF1 := hid0 (HF.out.later (((Below.refl _ wr).drew).trans hb1) hlb); obtain ⟨x0, ⟨⟨v0, d0⟩, g0⟩, ⟨⟨v1, d1⟩, g1⟩⟩ := HCs.out w1 HF1.out; clear hb1)
              all_goals
                go_wp2
                go_roundw
                case rel => exact ⟨k + 1, by omega, by go_num, hid0 (HSt.out _ HF1.out)⟩
                case measure => simp [intOf]; omega
            · have hkz : ¬ (k : Int) < (vs[i].2 : Int) := by omega
              have HN2 := hid0 (HF.out.next (fun _ => by omega))
              generalize vs[i].2 = n at *
              go_wp2
              go_roundw
              case rel => exact ⟨i + 1, by omega, by go_num, HN2⟩
              case measure => simp [intOf]; omega
        · have hiI : (i : Int) = (vs.length : Int) := by omega
          have hi4 : i = vs.length := by omega
          rw [hi4] at HF
          have HG := hid0 (HF.out.gz (by omega))
          rw [hiI]
          clear HF hil hi hi4 hiI
          go_wp2
          go_loopw [7, 8] (fun t i wr => ∃ (k G : Nat), k ≤ vs.length ∧ i = .int .i64 (k : Int) ∧ t = .int .i64 (G : Int) ∧ 64 * k ≤ G ∧ G ≤ 20064 * k ∧ Hid (Gz wb wr lo 40 2 1 vs k)) (fun _ i _ => vs.length - (intOf i).toNat)
          case atStart => exact ⟨0, 0, by omega, rfl, rfl, by omega, by omega, HG⟩
          case round =>
            clear HG
            obtain ⟨i, G, hi, rfl, rfl, hG1, hG2, HG⟩ := hrel
            by_cases hil : i < vs.length
            · have hiz : (i : Int) < (vs.length : Int) := by omega
              have hi0 : (0 : Int) ≤ (i : Int) := by omega
              have hni := HNn.out i hil
              obtain ⟨a, c, hvi⟩ := HSl.out i hil
              obtain ⟨ga, rfl, hr0⟩ := HRow.out wr HG.out.kp i hil
              have hx0 := HG.out.start HA.out hil
              rw [hvi] at hr0 hx0
              have HX0 := hid0 hx0
              clear hx0 hvi HG
              generalize vs[i].2 = n at *
              go_wp2
              go_loopw [9, 10] (fun l j wr => ∃ (m : Nat) (lv : Value), m ≤ 64 ∧ j = .int .i64 (m : Int) ∧ lv = l ∧ Hid (Gx wb wr lo 40 2 1 vs i n m lv)) (fun _ j _ => 64 - (intOf j).toNat)
              case atStart => exact ⟨0, _, by omega, rfl, rfl, HX0⟩
              case round =>
                clear HX0 hr0
                obtain ⟨m, lv, hm, rfl, rfl, HX⟩ := hrel
                have hsW := HX.out.gz.kp.sz
                by_cases hml2 : m < 64
                · have hmz : (m : Int) < 64 := by omega
                  obtain ⟨xs, hxs⟩ := HX.out.own
                  have HXs := hid0 hxs
                  clear hxs
                  go_wp2_with (at_builtin; go_loud ((
                    refine wpList_append_own_front _ (by rfl) _ _ 36 (by rfl) lo 40 j0 (.agg #[.bool false, .string ⟨#[]⟩]) 2 24 Tryz.underlying36 hj hy0 hy1 hy2 rfl (by decide) _ (n + m) xs (by rfl) (World.ownsRow.alloc HXs.out _) ⟨_, 0, none⟩ 1 1 [.bool false, .string ⟨#[98, 101, 104, 105, 110, 100]⟩] (by rfl) (by rfl) (cell2_new _ _ _ _) (fun u hu => by simp only [List.mem_cons, List.not_mem_nil, or_false] at hu; rcases hu with rfl | rfl <;> rfl) (by unfold maxLen; omega) (by omega) (by simp; omega) ?_
                    intro v8 w8 hown8 hgrow8 hat8 hfr8
                    have HX1 := hid0 (HX.out.step (by omega) hlb HV0.out hown8 hgrow8 hat8 hfr8)
                    clear hown8 hgrow8 hat8 hfr8)))
                  go_roundw
                  case rel => exact ⟨m + 1, _, by omega, by go_num, rfl, HX1⟩
                  case measure => simp [intOf]; omega
                · have hmz : ¬ (m : Int) < 64 := by omega
                  have hm64 : m = 64 := by omega
                  subst hm64
                  obtain ⟨xs, hxs⟩ := HX.out.own
                  obtain ⟨al, cl2, rfl⟩ := own_slice6 hxs
                  have HG1 := hid0 HX.out.gz
                  clear hxs
                  go_wp2
                  go_roundw
                  case rel => exact ⟨i + 1, G + (n + 64), by omega, by go_num, by go_num, by omega, by omega, HG1⟩
                  case measure => simp [intOf]; omega
            · have hi4 : i = vs.length := by omega
              have hiI : (i : Int) = (vs.length : Int) := by omega
              rw [hi4] at HG hG1 hG2
              have hGI : 64 * (vs.length : Int) ≤ (G : Int) := by omega
              have hGd : decide (64 * (vs.length : Int) ≤ (G : Int)) = true := decide_eq_true hGI
              rw [hiI]
              clear hil hi hi4 hiI hG1
              go_wp2
              go_loopw [11] (fun i w2 => ∃ k : Nat, k ≤ vs.length ∧ i = .int .i64 (k : Int) ∧ Hid (Gz wb w2 lo 40 2 1 vs vs.length)) (fun i _ => vs.length - (intOf i).toNat)
              case atStart => exact ⟨0, by omega, rfl, HG⟩
              case round =>
                clear HG
                obtain ⟨i, hi, rfl, HG⟩ := hrel
                by_cases hil : i < vs.length
                · have hiz : (i : Int) < (vs.length : Int) := by omega
                  have hi0 : (0 : Int) ≤ (i : Int) := by omega
                  have hni := HNn.out i hil
                  obtain ⟨a, c, hvi⟩ := HSl.out i hil
                  have HVi := hid0 hvi
                  have HMi := hid0 (HMk.out i (by omega))
                  clear hvi
                  go_wp2
                  go_loopw [12] (fun j w2 => ∃ m : Nat, m ≤ vs[i].2 ∧ j = .int .i64 (m : Int) ∧ Hid (Gz wb w2 lo 40 2 1 vs vs.length)) (fun j _ => vs[i].2 - (intOf j).toNat)
                  case atStart => exact ⟨0, Nat.zero_le _, rfl, HG⟩
                  case round =>
                    clear HG
                    obtain ⟨k, hk, rfl, HG⟩ := hrel
                    obtain ⟨ga, rfl, hr0⟩ := HRow.out wr HG.out.kp i hil
                    rw [HVi.out] at hr0
                    by_cases hkl : k < vs[i].2
                    · have hkz : (k : Int) < (vs[i].2 : Int) := by omega
                      have hk0 : (0 : Int) ≤ (k : Int) := by omega
                      obtain ⟨g, cap, hv, hcs⟩ := HG.out.rd i hil k hkl
                      rw [HVi.out] at hv
                      injection hv with e1 e2 e3
                      subst e1 e3
                      clear e2
                      have HCs : Hid (∀ W : World, Gz wb W lo 40 2 1 vs vs.length → W.cell? ⟨ga, i, none⟩ = some (.slice (some ⟨g, 0, none⟩) vs[i].2 c) ∧ W.cell? ⟨g, k * 2 + 1, none⟩ = some (.string (strOf (mkS i)))) := hid0 (fun W hW => by
                        obtain ⟨g2, cap2, h1, h2⟩ := hW.rd i hil k hkl
                        rw [HVi.out] at h1
                        injection h1 with h1
                        injection h1 with h1
                        injection h1 with h1
                        subst h1
                        obtain ⟨ga2, e4, h3⟩ := HRow.out W hW.kp i hil
                        injection e4 with e4
                        injection e4 with e4
                        subst e4
                        rw [HVi.out] at h3
                        exact ⟨h3, h2⟩)
                      have hself : ((strOf (mkS i)).toList == (strOf (mkS i)).toList) = true := by simp
                      obtain ⟨_, c0⟩ := HCs.out wr HG.out
                      clear hcs
                      generalize vs[i].2 = n at *
                      generalize strOf (mkS i) = MK at *
                      go_wp2
                      go_region_with (go_at_call 33; refine (HMi.out _).mono ?_; rintro e w1 ⟨rfl, hb1⟩; have HG1 := hid0 (HG.out.later (((Below.refl _ wr).drew).trans hb1) hlb); obtain ⟨x0, d0⟩ := HCs.out w1 HG1.out; clear hb1)
                      all_goals
                        go_wp2
                        go_roundw
                        case rel => exact ⟨k + 1, by omega, by go_num, HG1⟩
                        case measure => simp [intOf]; omega
                    · have hkz : ¬ (k : Int) < (vs[i].2 : Int) := by omega
                      generalize vs[i].2 = n at *
                      go_wp2
                      go_roundw
                      case rel => exact ⟨i + 1, by omega, by go_num, HG⟩
                      case measure => simp [intOf]; omega
                · have hiz : ¬ (i : Int) < (vs.length : Int) := by omega
                  have HOu := hid0 (HOut.out wr HG.out.kp)
                  go_wp2_with (go_at_call 34; refine HOu.out.mono ?_; rintro e w1 ⟨rfl, hb1⟩; have HB1 := hid0 hb1; clear hb1)
                  go_ret
                  exact ⟨by simp, (HBw.out.trans HG.out.kp.bel).trans HB1.out.bel, HKe.out _ _ HG.out.kp HB1.out⟩
end Go.Proofs.YtlfeiadgahdgoaaGreatDoor
namespace Go.Proofs
open Go.Shelf
def Tryz.lays727_ren : Go.Shelf.Ren := ⟨fun | 27 => 152 | 28 => 169 | 29 => 170 | n => n, fun | 25 => 156 | 3 => 3 | 27 => 171 | 22 => 150 | 4 => 4 | 53 => 194 | 0 => 0 | 5 => 5 | 54 => 195 | n => n, fun | 0 => 16 | 1 => 17 | n => n⟩
theorem Tryz.lays727 : Go.Proofs.Lays7.n27 Tryz.prog Tryz.lays727_ren := {
  mixed := by kernel_rfl
  f27 := Tryz.func152.trans (congrArg some (by kernel_rfl))
  f28 := Tryz.func169.trans (congrArg some (by kernel_rfl))
  f29 := Tryz.func170.trans (congrArg some (by kernel_rfl))
  t0 := Tryz.underlying0
  a0 := Tryz.isAgg0
  z0 := Tryz.sizeOf0
  v0 := Tryz.zeroValue0
  i0 := by kernel_rfl
  t3 := Tryz.underlying3
  a3 := Tryz.isAgg3
  z3 := Tryz.sizeOf3
  v3 := Tryz.zeroValue3
  i3 := by kernel_rfl
  t4 := Tryz.underlying4
  a4 := Tryz.isAgg4
  z4 := Tryz.sizeOf4
  v4 := Tryz.zeroValue4
  i4 := by kernel_rfl
  t5 := Tryz.underlying5
  a5 := Tryz.isAgg5
  z5 := Tryz.sizeOf5
  v5 := Tryz.zeroValue5
  i5 := by kernel_rfl
  t22 := Tryz.underlying150
  a22 := Tryz.isAgg150
  z22 := Tryz.sizeOf150
  v22 := Tryz.zeroValue150
  i22 := by kernel_rfl
  t25 := Tryz.underlying156
  a25 := Tryz.isAgg156
  z25 := Tryz.sizeOf156
  v25 := Tryz.zeroValue156
  i25 := by kernel_rfl
  t27 := Tryz.underlying171
  a27 := Tryz.isAgg171
  z27 := Tryz.sizeOf171
  v27 := Tryz.zeroValue171
  i27 := by kernel_rfl
  t53 := Tryz.underlying194
  a53 := Tryz.isAgg194
  z53 := Tryz.sizeOf194
  v53 := Tryz.zeroValue194
  i53 := by kernel_rfl
  t54 := Tryz.underlying195
  a54 := Tryz.isAgg195
  z54 := Tryz.sizeOf195
  g0 := by kernel_rfl
  g1 := by kernel_rfl }
end Go.Proofs
namespace Go.Proofs.YtlfeiadgahdgoaaGreatDoor
open Go.RowKit Go.Shelf Go.Lib
set_option maxRecDepth 10000 in
theorem tz16 (w : World) (hT : TabAt 17 Lib.deBruijn64tab w) : Calls Tryz.prog 152 #[.int .u64 16] w fun e w' => e = .returned (.int .i64 4) ∧ w' = w := by
  have h := Any7.bits_TrailingZeros Tryz.lays727 16 (by omega) w (fun _ => hT)
  exact h
set_option maxRecDepth 10000 in
set_option maxHeartbeats 400000 in
theorem pow16 (w : World) : Calls Tryz.prog 151 #[.int .i64 16] w fun e w' => e = .returned (.bool true) ∧ w' = w := by
  go_enter Tryz.func151, Tryz.ntmps151
  go_wp2
  go_ret
  exact ⟨rfl, rfl⟩
theorem conv2 (w : World) (C : Array Value) (t : TypeId) (x y : UInt8) (h1 : C[63]? = some (.int .u8 (x.toNat : Int))) (h2 : C[64]? = some (.int .u8 (y.toNat : Int))) :
    (convert 48 9 (.slice (some ⟨w.heap.size, 63, none⟩) 2 2)).run Tryz.prog (w.alloc (.cells C t)) = .ok (.string ⟨#[x, y]⟩) (w.alloc (.cells C t)) := by
  refine run_convert_bytes_back (P := Tryz.prog) (w.alloc (.cells C t)) 48 9 5 ⟨w.heap.size, 63, none⟩ 2 [x, y] Tryz.underlying48 Tryz.underlying5 Tryz.underlying9 (fun j hj => ?_)
  have hj2 : j = 0 ∨ j = 1 := by simp at hj; omega
  rw [Addr.add_lit, cell_of_row _ _ _ _ _ _ (heap_alloc_new w _)]
  rcases hj2 with rfl | rfl
  · exact h1
  · exact h2
theorem conv1 (w : World) (C : Array Value) (t : TypeId) (x : UInt8) (h1 : C[64]? = some (.int .u8 (x.toNat : Int))) :
    (convert 48 9 (.slice (some ⟨w.heap.size, 64, none⟩) 1 1)).run Tryz.prog (w.alloc (.cells C t)) = .ok (.string ⟨#[x]⟩) (w.alloc (.cells C t)) := by
  refine run_convert_bytes_back (P := Tryz.prog) (w.alloc (.cells C t)) 48 9 5 ⟨w.heap.size, 64, none⟩ 1 [x] Tryz.underlying48 Tryz.underlying5 Tryz.underlying9 (fun j hj => ?_)
  have hj2 : j = 0 := by simp at hj; omega
  rw [Addr.add_lit, cell_of_row _ _ _ _ _ _ (heap_alloc_new w _)]
  subst hj2
  exact h1
/-- The table that TrailingZeros reads. -/
abbrev DT (w : World) : Prop := TabAt 17 Lib.deBruijn64tab w
theorem dt_later {w w' : World} (h : DT w) (hb : Below w.heap.size w w') : DT w' := fun j hj => (hb.cell (p := ⟨17, j, none⟩) (World.block_lt_of_cell? w _ (h j hj))).trans (h j hj)
/-- What formatBits answers. -/
def Fmt (n : Nat) (w : World) : Prop := Calls Tryz.prog 121 #[.slice none 0 0, .int .u64 (n : Int), .int .i64 16, .bool false, .bool false] w fun e w' => e = .returned (.tuple #[.slice none 0 0, .string ⟨(hexL n).toArray⟩]) ∧ Below w.heap.size w w'
set_option maxRecDepth 10000 in
set_option maxHeartbeats 800000 in
theorem fmt_0 (w : World) (hT : DT w) : Fmt 0 w := by
  unfold Fmt
  have HT := hid0 (fun W (hb : Below w.heap.size w W) => tz16 W (dt_later hT hb))
  have HB := hid0 (fun o : Obj => (Below.refl w.heap.size w).alloc (Nat.le_refl _) o)
  clear hT
  go_enter Tryz.func121, Tryz.ntmps121
  go_wp2_with (first
    | (go_at_call 151; refine (pow16 _).mono ?_; rintro e w1 ⟨rfl, rfl⟩)
    | (go_at_call 152; refine (HT.out _ (HB.out _)).mono ?_; rintro e w1 ⟨rfl, rfl⟩)
    | fail)
  refine wp_loop_rounds 1 ?_
  rw [rounds_succ]
  go_wp2
  rw [conv1 w _ _ 48]
  rotate_left
  · kernel_rfl
  go_wp2
  go_ret2
  exact ⟨rfl, HB.out _⟩
set_option maxRecDepth 10000 in
set_option maxHeartbeats 800000 in
theorem fmt_1 (w : World) (hT : DT w) : Fmt 1 w := by
  unfold Fmt
  have HT := hid0 (fun W (hb : Below w.heap.size w W) => tz16 W (dt_later hT hb))
  have HB := hid0 (fun o : Obj => (Below.refl w.heap.size w).alloc (Nat.le_refl _) o)
  clear hT
  go_enter Tryz.func121, Tryz.ntmps121
  go_wp2_with (first
    | (go_at_call 151; refine (pow16 _).mono ?_; rintro e w1 ⟨rfl, rfl⟩)
    | (go_at_call 152; refine (HT.out _ (HB.out _)).mono ?_; rintro e w1 ⟨rfl, rfl⟩)
    | fail)
  refine wp_loop_rounds 1 ?_
  rw [rounds_succ]
  go_wp2
  rw [conv1 w _ _ 49]
  rotate_left
  · kernel_rfl
  go_wp2
  go_ret2
  exact ⟨rfl, HB.out _⟩
set_option maxRecDepth 10000 in
set_option maxHeartbeats 800000 in
theorem fmt_2 (w : World) (hT : DT w) : Fmt 2 w := by
  unfold Fmt
  have HT := hid0 (fun W (hb : Below w.heap.size w W) => tz16 W (dt_later hT hb))
  have HB := hid0 (fun o : Obj => (Below.refl w.heap.size w).alloc (Nat.le_refl _) o)
  clear hT
  go_enter Tryz.func121, Tryz.ntmps121
  go_wp2_with (first
    | (go_at_call 151; refine (pow16 _).mono ?_; rintro e w1 ⟨rfl, rfl⟩)
    | (go_at_call 152; refine (HT.out _ (HB.out _)).mono ?_; rintro e w1 ⟨rfl, rfl⟩)
    | fail)
  refine wp_loop_rounds 1 ?_
  rw [rounds_succ]
  go_wp2
  rw [conv1 w _ _ 50]
  rotate_left
  · kernel_rfl
  go_wp2
  go_ret2
  exact ⟨rfl, HB.out _⟩
set_option maxRecDepth 10000 in
set_option maxHeartbeats 800000 in
theorem fmt_3 (w : World) (hT : DT w) : Fmt 3 w := by
  unfold Fmt
  have HT := hid0 (fun W (hb : Below w.heap.size w W) => tz16 W (dt_later hT hb))
  have HB := hid0 (fun o : Obj => (Below.refl w.heap.size w).alloc (Nat.le_refl _) o)
  clear hT
  go_enter Tryz.func121, Tryz.ntmps121
  go_wp2_with (first
    | (go_at_call 151; refine (pow16 _).mono ?_; rintro e w1 ⟨rfl, rfl⟩)
    | (go_at_call 152; refine (HT.out _ (HB.out _)).mono ?_; rintro e w1 ⟨rfl, rfl⟩)
    | fail)
  refine wp_loop_rounds 1 ?_
  rw [rounds_succ]
  go_wp2
  rw [conv1 w _ _ 51]
  rotate_left
  · kernel_rfl
  go_wp2
  go_ret2
  exact ⟨rfl, HB.out _⟩
set_option maxRecDepth 10000 in
set_option maxHeartbeats 800000 in
theorem fmt_4 (w : World) (hT : DT w) : Fmt 4 w := by
  unfold Fmt
  have HT := hid0 (fun W (hb : Below w.heap.size w W) => tz16 W (dt_later hT hb))
  have HB := hid0 (fun o : Obj => (Below.refl w.heap.size w).alloc (Nat.le_refl _) o)
  clear hT
  go_enter Tryz.func121, Tryz.ntmps121
  go_wp2_with (first
    | (go_at_call 151; refine (pow16 _).mono ?_; rintro e w1 ⟨rfl, rfl⟩)
    | (go_at_call 152; refine (HT.out _ (HB.out _)).mono ?_; rintro e w1 ⟨rfl, rfl⟩)
    | fail)
  refine wp_loop_rounds 1 ?_
  rw [rounds_succ]
  go_wp2
  rw [conv1 w _ _ 52]
  rotate_left
  · kernel_rfl
  go_wp2
  go_ret2
  exact ⟨rfl, HB.out _⟩
set_option maxRecDepth 10000 in
set_option maxHeartbeats 800000 in
theorem fmt_5 (w : World) (hT : DT w) : Fmt 5 w := by
  unfold Fmt
  have HT := hid0 (fun W (hb : Below w.heap.size w W) => tz16 W (dt_later hT hb))
  have HB := hid0 (fun o : Obj => (Below.refl w.heap.size w).alloc (Nat.le_refl _) o)
  clear hT
  go_enter Tryz.func121, Tryz.ntmps121
  go_wp2_with (first
    | (go_at_call 151; refine (pow16 _).mono ?_; rintro e w1 ⟨rfl, rfl⟩)
    | (go_at_call 152; refine (HT.out _ (HB.out _)).mono ?_; rintro e w1 ⟨rfl, rfl⟩)
    | fail)
  refine wp_loop_rounds 1 ?_
  rw [rounds_succ]
  go_wp2
  rw [conv1 w _ _ 53]
  rotate_left
  · kernel_rfl
  go_wp2
  go_ret2
  exact ⟨rfl, HB.out _⟩
set_option maxRecDepth 10000 in
set_option maxHeartbeats 800000 in
theorem fmt_6 (w : World) (hT : DT w) : Fmt 6 w := by
  unfold Fmt
  have HT := hid0 (fun W (hb : Below w.heap.size w W) => tz16 W (dt_later hT hb))
  have HB := hid0 (fun o : Obj => (Below.refl w.heap.size w).alloc (Nat.le_refl _) o)
  clear hT
  go_enter Tryz.func121, Tryz.ntmps121
  go_wp2_with (first
    | (go_at_call 151; refine (pow16 _).mono ?_; rintro e w1 ⟨rfl, rfl⟩)
    | (go_at_call 152; refine (HT.out _ (HB.out _)).mono ?_; rintro e w1 ⟨rfl, rfl⟩)
    | fail)
  refine wp_loop_rounds 1 ?_
  rw [rounds_succ]
  go_wp2
  rw [conv1 w _ _ 54]
  rotate_left
  · kernel_rfl
  go_wp2
  go_ret2
  exact ⟨rfl, HB.out _⟩
set_option maxRecDepth 10000 in
set_option maxHeartbeats 800000 in
theorem fmt_7 (w : World) (hT : DT w) : Fmt 7 w := by
  unfold Fmt
  have HT := hid0 (fun W (hb : Below w.heap.size w W) => tz16 W (dt_later hT hb))
  have HB := hid0 (fun o : Obj => (Below.refl w.heap.size w).alloc (Nat.le_refl _) o)
  clear hT
  go_enter Tryz.func121, Tryz.ntmps121
  go_wp2_with (first
    | (go_at_call 151; refine (pow16 _).mono ?_; rintro e w1 ⟨rfl, rfl⟩)
    | (go_at_call 152; refine (HT.out _ (HB.out _)).mono ?_; rintro e w1 ⟨rfl, rfl⟩)
    | fail)
  refine wp_loop_rounds 1 ?_
  rw [rounds_succ]
  go_wp2
  rw [conv1 w _ _ 55]
  rotate_left
  · kernel_rfl
  go_wp2
  go_ret2
  exact ⟨rfl, HB.out _⟩
set_option maxRecDepth 10000 in
set_option maxHeartbeats 800000 in
theorem fmt_8 (w : World) (hT : DT w) : Fmt 8 w := by
  unfold Fmt
  have HT := hid0 (fun W (hb : Below w.heap.size w W) => tz16 W (dt_later hT hb))
  have HB := hid0 (fun o : Obj => (Below.refl w.heap.size w).alloc (Nat.le_refl _) o)
  clear hT
  go_enter Tryz.func121, Tryz.ntmps121
  go_wp2_with (first
    | (go_at_call 151; refine (pow16 _).mono ?_; rintro e w1 ⟨rfl, rfl⟩)
    | (go_at_call 152; refine (HT.out _ (HB.out _)).mono ?_; rintro e w1 ⟨rfl, rfl⟩)
    | fail)
  refine wp_loop_rounds 1 ?_
  rw [rounds_succ]
  go_wp2
  rw [conv1 w _ _ 56]
  rotate_left
  · kernel_rfl
  go_wp2
  go_ret2
  exact ⟨rfl, HB.out _⟩
set_option maxRecDepth 10000 in
set_option maxHeartbeats 800000 in
theorem fmt_9 (w : World) (hT : DT w) : Fmt 9 w := by
  unfold Fmt
  have HT := hid0 (fun W (hb : Below w.heap.size w W) => tz16 W (dt_later hT hb))
  have HB := hid0 (fun o : Obj => (Below.refl w.heap.size w).alloc (Nat.le_refl _) o)
  clear hT
  go_enter Tryz.func121, Tryz.ntmps121
  go_wp2_with (first
    | (go_at_call 151; refine (pow16 _).mono ?_; rintro e w1 ⟨rfl, rfl⟩)
    | (go_at_call 152; refine (HT.out _ (HB.out _)).mono ?_; rintro e w1 ⟨rfl, rfl⟩)
    | fail)
  refine wp_loop_rounds 1 ?_
  rw [rounds_succ]
  go_wp2
  rw [conv1 w _ _ 57]
  rotate_left
  · kernel_rfl
  go_wp2
  go_ret2
  exact ⟨rfl, HB.out _⟩
set_option maxRecDepth 10000 in
set_option maxHeartbeats 800000 in
theorem fmt_10 (w : World) (hT : DT w) : Fmt 10 w := by
  unfold Fmt
  have HT := hid0 (fun W (hb : Below w.heap.size w W) => tz16 W (dt_later hT hb))
  have HB := hid0 (fun o : Obj => (Below.refl w.heap.size w).alloc (Nat.le_refl _) o)
  clear hT
  go_enter Tryz.func121, Tryz.ntmps121
  go_wp2_with (first
    | (go_at_call 151; refine (pow16 _).mono ?_; rintro e w1 ⟨rfl, rfl⟩)
    | (go_at_call 152; refine (HT.out _ (HB.out _)).mono ?_; rintro e w1 ⟨rfl, rfl⟩)
    | fail)
  refine wp_loop_rounds 1 ?_
  rw [rounds_succ]
  go_wp2
  rw [conv1 w _ _ 97]
  rotate_left
  · kernel_rfl
  go_wp2
  go_ret2
  exact ⟨rfl, HB.out _⟩
set_option maxRecDepth 10000 in
set_option maxHeartbeats 800000 in
theorem fmt_11 (w : World) (hT : DT w) : Fmt 11 w := by
  unfold Fmt
  have HT := hid0 (fun W (hb : Below w.heap.size w W) => tz16 W (dt_later hT hb))
  have HB := hid0 (fun o : Obj => (Below.refl w.heap.size w).alloc (Nat.le_refl _) o)
  clear hT
  go_enter Tryz.func121, Tryz.ntmps121
  go_wp2_with (first
    | (go_at_call 151; refine (pow16 _).mono ?_; rintro e w1 ⟨rfl, rfl⟩)
    | (go_at_call 152; refine (HT.out _ (HB.out _)).mono ?_; rintro e w1 ⟨rfl, rfl⟩)
    | fail)
  refine wp_loop_rounds 1 ?_
  rw [rounds_succ]
  go_wp2
  rw [conv1 w _ _ 98]
  rotate_left
  · kernel_rfl
  go_wp2
  go_ret2
  exact ⟨rfl, HB.out _⟩
set_option maxRecDepth 10000 in
set_option maxHeartbeats 800000 in
theorem fmt_12 (w : World) (hT : DT w) : Fmt 12 w := by
  unfold Fmt
  have HT := hid0 (fun W (hb : Below w.heap.size w W) => tz16 W (dt_later hT hb))
  have HB := hid0 (fun o : Obj => (Below.refl w.heap.size w).alloc (Nat.le_refl _) o)
  clear hT
  go_enter Tryz.func121, Tryz.ntmps121
  go_wp2_with (first
    | (go_at_call 151; refine (pow16 _).mono ?_; rintro e w1 ⟨rfl, rfl⟩)
    | (go_at_call 152; refine (HT.out _ (HB.out _)).mono ?_; rintro e w1 ⟨rfl, rfl⟩)
    | fail)
  refine wp_loop_rounds 1 ?_
  rw [rounds_succ]
  go_wp2
  rw [conv1 w _ _ 99]
  rotate_left
  · kernel_rfl
  go_wp2
  go_ret2
  exact ⟨rfl, HB.out _⟩
set_option maxRecDepth 10000 in
set_option maxHeartbeats 800000 in
theorem fmt_13 (w : World) (hT : DT w) : Fmt 13 w := by
  unfold Fmt
  have HT := hid0 (fun W (hb : Below w.heap.size w W) => tz16 W (dt_later hT hb))
  have HB := hid0 (fun o : Obj => (Below.refl w.heap.size w).alloc (Nat.le_refl _) o)
  clear hT
  go_enter Tryz.func121, Tryz.ntmps121
  go_wp2_with (first
    | (go_at_call 151; refine (pow16 _).mono ?_; rintro e w1 ⟨rfl, rfl⟩)
    | (go_at_call 152; refine (HT.out _ (HB.out _)).mono ?_; rintro e w1 ⟨rfl, rfl⟩)
    | fail)
  refine wp_loop_rounds 1 ?_
  rw [rounds_succ]
  go_wp2
  rw [conv1 w _ _ 100]
  rotate_left
  · kernel_rfl
  go_wp2
  go_ret2
  exact ⟨rfl, HB.out _⟩
set_option maxRecDepth 10000 in
set_option maxHeartbeats 800000 in
theorem fmt_14 (w : World) (hT : DT w) : Fmt 14 w := by
  unfold Fmt
  have HT := hid0 (fun W (hb : Below w.heap.size w W) => tz16 W (dt_later hT hb))
  have HB := hid0 (fun o : Obj => (Below.refl w.heap.size w).alloc (Nat.le_refl _) o)
  clear hT
  go_enter Tryz.func121, Tryz.ntmps121
  go_wp2_with (first
    | (go_at_call 151; refine (pow16 _).mono ?_; rintro e w1 ⟨rfl, rfl⟩)
    | (go_at_call 152; refine (HT.out _ (HB.out _)).mono ?_; rintro e w1 ⟨rfl, rfl⟩)
    | fail)
  refine wp_loop_rounds 1 ?_
  rw [rounds_succ]
  go_wp2
  rw [conv1 w _ _ 101]
  rotate_left
  · kernel_rfl
  go_wp2
  go_ret2
  exact ⟨rfl, HB.out _⟩
set_option maxRecDepth 10000 in
set_option maxHeartbeats 800000 in
theorem fmt_15 (w : World) (hT : DT w) : Fmt 15 w := by
  unfold Fmt
  have HT := hid0 (fun W (hb : Below w.heap.size w W) => tz16 W (dt_later hT hb))
  have HB := hid0 (fun o : Obj => (Below.refl w.heap.size w).alloc (Nat.le_refl _) o)
  clear hT
  go_enter Tryz.func121, Tryz.ntmps121
  go_wp2_with (first
    | (go_at_call 151; refine (pow16 _).mono ?_; rintro e w1 ⟨rfl, rfl⟩)
    | (go_at_call 152; refine (HT.out _ (HB.out _)).mono ?_; rintro e w1 ⟨rfl, rfl⟩)
    | fail)
  refine wp_loop_rounds 1 ?_
  rw [rounds_succ]
  go_wp2
  rw [conv1 w _ _ 102]
  rotate_left
  · kernel_rfl
  go_wp2
  go_ret2
  exact ⟨rfl, HB.out _⟩
set_option maxRecDepth 10000 in
set_option maxHeartbeats 800000 in
theorem fmt_16 (w : World) (hT : DT w) : Fmt 16 w := by
  unfold Fmt
  have HT := hid0 (fun W (hb : Below w.heap.size w W) => tz16 W (dt_later hT hb))
  have HB := hid0 (fun o : Obj => (Below.refl w.heap.size w).alloc (Nat.le_refl _) o)
  clear hT
  go_enter Tryz.func121, Tryz.ntmps121
  go_wp2_with (first
    | (go_at_call 151; refine (pow16 _).mono ?_; rintro e w1 ⟨rfl, rfl⟩)
    | (go_at_call 152; refine (HT.out _ (HB.out _)).mono ?_; rintro e w1 ⟨rfl, rfl⟩)
    | fail)
  refine wp_loop_rounds 2 ?_
  rw [rounds_succ]
  go_wp2
  rw [rounds_succ]
  go_wp2
  rw [conv2 w _ _ 49 48]
  rotate_left
  · kernel_rfl
  · kernel_rfl
  go_wp2
  go_ret2
  exact ⟨rfl, HB.out _⟩
set_option maxRecDepth 10000 in
set_option maxHeartbeats 800000 in
theorem fmt_17 (w : World) (hT : DT w) : Fmt 17 w := by
  unfold Fmt
  have HT := hid0 (fun W (hb : Below w.heap.size w W) => tz16 W (dt_later hT hb))
  have HB := hid0 (fun o : Obj => (Below.refl w.heap.size w).alloc (Nat.le_refl _) o)
  clear hT
  go_enter Tryz.func121, Tryz.ntmps121
  go_wp2_with (first
    | (go_at_call 151; refine (pow16 _).mono ?_; rintro e w1 ⟨rfl, rfl⟩)
    | (go_at_call 152; refine (HT.out _ (HB.out _)).mono ?_; rintro e w1 ⟨rfl, rfl⟩)
    | fail)
  refine wp_loop_rounds 2 ?_
  rw [rounds_succ]
  go_wp2
  rw [rounds_succ]
  go_wp2
  rw [conv2 w _ _ 49 49]
  rotate_left
  · kernel_rfl
  · kernel_rfl
  go_wp2
  go_ret2
  exact ⟨rfl, HB.out _⟩
set_option maxRecDepth 10000 in
set_option maxHeartbeats 800000 in
theorem fmt_18 (w : World) (hT : DT w) : Fmt 18 w := by
  unfold Fmt
  have HT := hid0 (fun W (hb : Below w.heap.size w W) => tz16 W (dt_later hT hb))
  have HB := hid0 (fun o : Obj => (Below.refl w.heap.size w).alloc (Nat.le_refl _) o)
  clear hT
  go_enter Tryz.func121, Tryz.ntmps121
  go_wp2_with (first
    | (go_at_call 151; refine (pow16 _).mono ?_; rintro e w1 ⟨rfl, rfl⟩)
    | (go_at_call 152; refine (HT.out _ (HB.out _)).mono ?_; rintro e w1 ⟨rfl, rfl⟩)
    | fail)
  refine wp_loop_rounds 2 ?_
  rw [rounds_succ]
  go_wp2
  rw [rounds_succ]
  go_wp2
  rw [conv2 w _ _ 49 50]
  rotate_left
  · kernel_rfl
  · kernel_rfl
  go_wp2
  go_ret2
  exact ⟨rfl, HB.out _⟩
set_option maxRecDepth 10000 in
set_option maxHeartbeats 800000 in
theorem fmt_19 (w : World) (hT : DT w) : Fmt 19 w := by
  unfold Fmt
  have HT := hid0 (fun W (hb : Below w.heap.size w W) => tz16 W (dt_later hT hb))
  have HB := hid0 (fun o : Obj => (Below.refl w.heap.size w).alloc (Nat.le_refl _) o)
  clear hT
  go_enter Tryz.func121, Tryz.ntmps121
  go_wp2_with (first
    | (go_at_call 151; refine (pow16 _).mono ?_; rintro e w1 ⟨rfl, rfl⟩)
    | (go_at_call 152; refine (HT.out _ (HB.out _)).mono ?_; rintro e w1 ⟨rfl, rfl⟩)
    | fail)
  refine wp_loop_rounds 2 ?_
  rw [rounds_succ]
  go_wp2
  rw [rounds_succ]
  go_wp2
  rw [conv2 w _ _ 49 51]
  rotate_left
  · kernel_rfl
  · kernel_rfl
  go_wp2
  go_ret2
  exact ⟨rfl, HB.out _⟩
set_option maxRecDepth 10000 in
set_option maxHeartbeats 800000 in
theorem fmt_20 (w : World) (hT : DT w) : Fmt 20 w := by
  unfold Fmt
  have HT := hid0 (fun W (hb : Below w.heap.size w W) => tz16 W (dt_later hT hb))
  have HB := hid0 (fun o : Obj => (Below.refl w.heap.size w).alloc (Nat.le_refl _) o)
  clear hT
  go_enter Tryz.func121, Tryz.ntmps121
  go_wp2_with (first
    | (go_at_call 151; refine (pow16 _).mono ?_; rintro e w1 ⟨rfl, rfl⟩)
    | (go_at_call 152; refine (HT.out _ (HB.out _)).mono ?_; rintro e w1 ⟨rfl, rfl⟩)
    | fail)
  refine wp_loop_rounds 2 ?_
  rw [rounds_succ]
  go_wp2
  rw [rounds_succ]
  go_wp2
  rw [conv2 w _ _ 49 52]
  rotate_left
  · kernel_rfl
  · kernel_rfl
  go_wp2
  go_ret2
  exact ⟨rfl, HB.out _⟩
set_option maxRecDepth 10000 in
set_option maxHeartbeats 800000 in
theorem fmt_21 (w : World) (hT : DT w) : Fmt 21 w := by
  unfold Fmt
  have HT := hid0 (fun W (hb : Below w.heap.size w W) => tz16 W (dt_later hT hb))
  have HB := hid0 (fun o : Obj => (Below.refl w.heap.size w).alloc (Nat.le_refl _) o)
  clear hT
  go_enter Tryz.func121, Tryz.ntmps121
  go_wp2_with (first
    | (go_at_call 151; refine (pow16 _).mono ?_; rintro e w1 ⟨rfl, rfl⟩)
    | (go_at_call 152; refine (HT.out _ (HB.out _)).mono ?_; rintro e w1 ⟨rfl, rfl⟩)
    | fail)
  refine wp_loop_rounds 2 ?_
  rw [rounds_succ]
  go_wp2
  rw [rounds_succ]
  go_wp2
  rw [conv2 w _ _ 49 53]
  rotate_left
  · kernel_rfl
  · kernel_rfl
  go_wp2
  go_ret2
  exact ⟨rfl, HB.out _⟩
set_option maxRecDepth 10000 in
set_option maxHeartbeats 800000 in
theorem fmt_22 (w : World) (hT : DT w) : Fmt 22 w := by
  unfold Fmt
  have HT := hid0 (fun W (hb : Below w.heap.size w W) => tz16 W (dt_later hT hb))
  have HB := hid0 (fun o : Obj => (Below.refl w.heap.size w).alloc (Nat.le_refl _) o)
  clear hT
  go_enter Tryz.func121, Tryz.ntmps121
  go_wp2_with (first
    | (go_at_call 151; refine (pow16 _).mono ?_; rintro e w1 ⟨rfl, rfl⟩)
    | (go_at_call 152; refine (HT.out _ (HB.out _)).mono ?_; rintro e w1 ⟨rfl, rfl⟩)
    | fail)
  refine wp_loop_rounds 2 ?_
  rw [rounds_succ]
  go_wp2
  rw [rounds_succ]
  go_wp2
  rw [conv2 w _ _ 49 54]
  rotate_left
  · kernel_rfl
  · kernel_rfl
  go_wp2
  go_ret2
  exact ⟨rfl, HB.out _⟩
set_option maxRecDepth 10000 in
set_option maxHeartbeats 800000 in
theorem fmt_23 (w : World) (hT : DT w) : Fmt 23 w := by
  unfold Fmt
  have HT := hid0 (fun W (hb : Below w.heap.size w W) => tz16 W (dt_later hT hb))
  have HB := hid0 (fun o : Obj => (Below.refl w.heap.size w).alloc (Nat.le_refl _) o)
  clear hT
  go_enter Tryz.func121, Tryz.ntmps121
  go_wp2_with (first
    | (go_at_call 151; refine (pow16 _).mono ?_; rintro e w1 ⟨rfl, rfl⟩)
    | (go_at_call 152; refine (HT.out _ (HB.out _)).mono ?_; rintro e w1 ⟨rfl, rfl⟩)
    | fail)
  refine wp_loop_rounds 2 ?_
  rw [rounds_succ]
  go_wp2
  rw [rounds_succ]
  go_wp2
  rw [conv2 w _ _ 49 55]
  rotate_left
  · kernel_rfl
  · kernel_rfl
  go_wp2
  go_ret2
  exact ⟨rfl, HB.out _⟩
set_option maxRecDepth 10000 in
set_option maxHeartbeats 800000 in
theorem fmt_24 (w : World) (hT : DT w) : Fmt 24 w := by
  unfold Fmt
  have HT := hid0 (fun W (hb : Below w.heap.size w W) => tz16 W (dt_later hT hb))
  have HB := hid0 (fun o : Obj => (Below.refl w.heap.size w).alloc (Nat.le_refl _) o)
  clear hT
  go_enter Tryz.func121, Tryz.ntmps121
  go_wp2_with (first
    | (go_at_call 151; refine (pow16 _).mono ?_; rintro e w1 ⟨rfl, rfl⟩)
    | (go_at_call 152; refine (HT.out _ (HB.out _)).mono ?_; rintro e w1 ⟨rfl, rfl⟩)
    | fail)
  refine wp_loop_rounds 2 ?_
  rw [rounds_succ]
  go_wp2
  rw [rounds_succ]
  go_wp2
  rw [conv2 w _ _ 49 56]
  rotate_left
  · kernel_rfl
  · kernel_rfl
  go_wp2
  go_ret2
  exact ⟨rfl, HB.out _⟩
set_option maxRecDepth 10000 in
set_option maxHeartbeats 800000 in
theorem fmt_25 (w : World) (hT : DT w) : Fmt 25 w := by
  unfold Fmt
  have HT := hid0 (fun W (hb : Below w.heap.size w W) => tz16 W (dt_later hT hb))
  have HB := hid0 (fun o : Obj => (Below.refl w.heap.size w).alloc (Nat.le_refl _) o)
  clear hT
  go_enter Tryz.func121, Tryz.ntmps121
  go_wp2_with (first
    | (go_at_call 151; refine (pow16 _).mono ?_; rintro e w1 ⟨rfl, rfl⟩)
    | (go_at_call 152; refine (HT.out _ (HB.out _)).mono ?_; rintro e w1 ⟨rfl, rfl⟩)
    | fail)
  refine wp_loop_rounds 2 ?_
  rw [rounds_succ]
  go_wp2
  rw [rounds_succ]
  go_wp2
  rw [conv2 w _ _ 49 57]
  rotate_left
  · kernel_rfl
  · kernel_rfl
  go_wp2
  go_ret2
  exact ⟨rfl, HB.out _⟩
set_option maxRecDepth 10000 in
set_option maxHeartbeats 800000 in
theorem fmt_26 (w : World) (hT : DT w) : Fmt 26 w := by
  unfold Fmt
  have HT := hid0 (fun W (hb : Below w.heap.size w W) => tz16 W (dt_later hT hb))
  have HB := hid0 (fun o : Obj => (Below.refl w.heap.size w).alloc (Nat.le_refl _) o)
  clear hT
  go_enter Tryz.func121, Tryz.ntmps121
  go_wp2_with (first
    | (go_at_call 151; refine (pow16 _).mono ?_; rintro e w1 ⟨rfl, rfl⟩)
    | (go_at_call 152; refine (HT.out _ (HB.out _)).mono ?_; rintro e w1 ⟨rfl, rfl⟩)
    | fail)
  refine wp_loop_rounds 2 ?_
  rw [rounds_succ]
  go_wp2
  rw [rounds_succ]
  go_wp2
  rw [conv2 w _ _ 49 97]
  rotate_left
  · kernel_rfl
  · kernel_rfl
  go_wp2
  go_ret2
  exact ⟨rfl, HB.out _⟩
set_option maxRecDepth 10000 in
set_option maxHeartbeats 800000 in
theorem fmt_27 (w : World) (hT : DT w) : Fmt 27 w := by
  unfold Fmt
  have HT := hid0 (fun W (hb : Below w.heap.size w W) => tz16 W (dt_later hT hb))
  have HB := hid0 (fun o : Obj => (Below.refl w.heap.size w).alloc (Nat.le_refl _) o)
  clear hT
  go_enter Tryz.func121, Tryz.ntmps121
  go_wp2_with (first
    | (go_at_call 151; refine (pow16 _).mono ?_; rintro e w1 ⟨rfl, rfl⟩)
    | (go_at_call 152; refine (HT.out _ (HB.out _)).mono ?_; rintro e w1 ⟨rfl, rfl⟩)
    | fail)
  refine wp_loop_rounds 2 ?_
  rw [rounds_succ]
  go_wp2
  rw [rounds_succ]
  go_wp2
  rw [conv2 w _ _ 49 98]
  rotate_left
  · kernel_rfl
  · kernel_rfl
  go_wp2
  go_ret2
  exact ⟨rfl, HB.out _⟩
set_option maxRecDepth 10000 in
set_option maxHeartbeats 800000 in
theorem fmt_28 (w : World) (hT : DT w) : Fmt 28 w := by
  unfold Fmt
  have HT := hid0 (fun W (hb : Below w.heap.size w W) => tz16 W (dt_later hT hb))
  have HB := hid0 (fun o : Obj => (Below.refl w.heap.size w).alloc (Nat.le_refl _) o)
  clear hT
  go_enter Tryz.func121, Tryz.ntmps121
  go_wp2_with (first
    | (go_at_call 151; refine (pow16 _).mono ?_; rintro e w1 ⟨rfl, rfl⟩)
    | (go_at_call 152; refine (HT.out _ (HB.out _)).mono ?_; rintro e w1 ⟨rfl, rfl⟩)
    | fail)
  refine wp_loop_rounds 2 ?_
  rw [rounds_succ]
  go_wp2
  rw [rounds_succ]
  go_wp2
  rw [conv2 w _ _ 49 99]
  rotate_left
  · kernel_rfl
  · kernel_rfl
  go_wp2
  go_ret2
  exact ⟨rfl, HB.out _⟩
set_option maxRecDepth 10000 in
set_option maxHeartbeats 800000 in
theorem fmt_29 (w : World) (hT : DT w) : Fmt 29 w := by
  unfold Fmt
  have HT := hid0 (fun W (hb : Below w.heap.size w W) => tz16 W (dt_later hT hb))
  have HB := hid0 (fun o : Obj => (Below.refl w.heap.size w).alloc (Nat.le_refl _) o)
  clear hT
  go_enter Tryz.func121, Tryz.ntmps121
  go_wp2_with (first
    | (go_at_call 151; refine (pow16 _).mono ?_; rintro e w1 ⟨rfl, rfl⟩)
    | (go_at_call 152; refine (HT.out _ (HB.out _)).mono ?_; rintro e w1 ⟨rfl, rfl⟩)
    | fail)
  refine wp_loop_rounds 2 ?_
  rw [rounds_succ]
  go_wp2
  rw [rounds_succ]
  go_wp2
  rw [conv2 w _ _ 49 100]
  rotate_left
  · kernel_rfl
  · kernel_rfl
  go_wp2
  go_ret2
  exact ⟨rfl, HB.out _⟩
set_option maxRecDepth 10000 in
set_option maxHeartbeats 800000 in
theorem fmt_30 (w : World) (hT : DT w) : Fmt 30 w := by
  unfold Fmt
  have HT := hid0 (fun W (hb : Below w.heap.size w W) => tz16 W (dt_later hT hb))
  have HB := hid0 (fun o : Obj => (Below.refl w.heap.size w).alloc (Nat.le_refl _) o)
  clear hT
  go_enter Tryz.func121, Tryz.ntmps121
  go_wp2_with (first
    | (go_at_call 151; refine (pow16 _).mono ?_; rintro e w1 ⟨rfl, rfl⟩)
    | (go_at_call 152; refine (HT.out _ (HB.out _)).mono ?_; rintro e w1 ⟨rfl, rfl⟩)
    | fail)
  refine wp_loop_rounds 2 ?_
  rw [rounds_succ]
  go_wp2
  rw [rounds_succ]
  go_wp2
  rw [conv2 w _ _ 49 101]
  rotate_left
  · kernel_rfl
  · kernel_rfl
  go_wp2
  go_ret2
  exact ⟨rfl, HB.out _⟩
set_option maxRecDepth 10000 in
set_option maxHeartbeats 800000 in
theorem fmt_31 (w : World) (hT : DT w) : Fmt 31 w := by
  unfold Fmt
  have HT := hid0 (fun W (hb : Below w.heap.size w W) => tz16 W (dt_later hT hb))
  have HB := hid0 (fun o : Obj => (Below.refl w.heap.size w).alloc (Nat.le_refl _) o)
  clear hT
  go_enter Tryz.func121, Tryz.ntmps121
  go_wp2_with (first
    | (go_at_call 151; refine (pow16 _).mono ?_; rintro e w1 ⟨rfl, rfl⟩)
    | (go_at_call 152; refine (HT.out _ (HB.out _)).mono ?_; rintro e w1 ⟨rfl, rfl⟩)
    | fail)
  refine wp_loop_rounds 2 ?_
  rw [rounds_succ]
  go_wp2
  rw [rounds_succ]
  go_wp2
  rw [conv2 w _ _ 49 102]
  rotate_left
  · kernel_rfl
  · kernel_rfl
  go_wp2
  go_ret2
  exact ⟨rfl, HB.out _⟩
set_option maxRecDepth 10000 in
set_option maxHeartbeats 800000 in
theorem fmt_127 (w : World) (hT : DT w) : Fmt 127 w := by
  unfold Fmt
  have HT := hid0 (fun W (hb : Below w.heap.size w W) => tz16 W (dt_later hT hb))
  have HB := hid0 (fun o : Obj => (Below.refl w.heap.size w).alloc (Nat.le_refl _) o)
  clear hT
  go_enter Tryz.func121, Tryz.ntmps121
  go_wp2_with (first
    | (go_at_call 151; refine (pow16 _).mono ?_; rintro e w1 ⟨rfl, rfl⟩)
    | (go_at_call 152; refine (HT.out _ (HB.out _)).mono ?_; rintro e w1 ⟨rfl, rfl⟩)
    | fail)
  refine wp_loop_rounds 2 ?_
  rw [rounds_succ]
  go_wp2
  rw [rounds_succ]
  go_wp2
  rw [conv2 w _ _ 55 102]
  rotate_left
  · kernel_rfl
  · kernel_rfl
  go_wp2
  go_ret2
  exact ⟨rfl, HB.out _⟩
theorem fmt_any (n : Nat) (hn : n < 32 ∨ n = 127) (w : World) (hT : DT w) : Fmt n w := by
  have h : n = 0 ∨ n = 1 ∨ n = 2 ∨ n = 3 ∨ n = 4 ∨ n = 5 ∨ n = 6 ∨ n = 7 ∨ n = 8 ∨ n = 9 ∨ n = 10 ∨ n = 11 ∨ n = 12 ∨ n = 13 ∨ n = 14 ∨ n = 15 ∨ n = 16 ∨ n = 17 ∨ n = 18 ∨ n = 19 ∨ n = 20 ∨ n = 21 ∨ n = 22 ∨ n = 23 ∨ n = 24 ∨ n = 25 ∨ n = 26 ∨ n = 27 ∨ n = 28 ∨ n = 29 ∨ n = 30 ∨ n = 31 ∨ n = 127 := by omega
  rcases h with rfl | rfl | rfl | rfl | rfl | rfl | rfl | rfl | rfl | rfl | rfl | rfl | rfl | rfl | rfl | rfl | rfl | rfl | rfl | rfl | rfl | rfl | rfl | rfl | rfl | rfl | rfl | rfl | rfl | rfl | rfl | rfl | rfl
  · exact fmt_0 w hT
  · exact fmt_1 w hT
  · exact fmt_2 w hT
  · exact fmt_3 w hT
  · exact fmt_4 w hT
  · exact fmt_5 w hT
  · exact fmt_6 w hT
  · exact fmt_7 w hT
  · exact fmt_8 w hT
  · exact fmt_9 w hT
  · exact fmt_10 w hT
  · exact fmt_11 w hT
  · exact fmt_12 w hT
  · exact fmt_13 w hT
  · exact fmt_14 w hT
  · exact fmt_15 w hT
  · exact fmt_16 w hT
  · exact fmt_17 w hT
  · exact fmt_18 w hT
  · exact fmt_19 w hT
  · exact fmt_20 w hT
  · exact fmt_21 w hT
  · exact fmt_22 w hT
  · exact fmt_23 w hT
  · exact fmt_24 w hT
  · exact fmt_25 w hT
  · exact fmt_26 w hT
  · exact fmt_27 w hT
  · exact fmt_28 w hT
  · exact fmt_29 w hT
  · exact fmt_30 w hT
  · exact fmt_31 w hT
  · exact fmt_127 w hT
set_option maxRecDepth 10000 in
set_option maxHeartbeats 400000 in
theorem formatInt_any (n : Nat) (hn : n < 32 ∨ n = 127) (w : World) (hT : DT w) : Calls Tryz.prog 57 #[.int .i64 (n : Int), .int .i64 16] w fun e w' => e = .returned (.string ⟨(hexL n).toArray⟩) ∧ Below w.heap.size w w' := by
  have hI : Calls Tryz.prog 83 #[.int .i64 (n : Int), .int .i64 16] w fun e w' => e = .returned (.string ⟨(hexL n).toArray⟩) ∧ Below w.heap.size w w' := by
    have hF := fmt_any n hn w hT
    unfold Fmt at hF
    have hnI : ¬ (n : Int) < 0 := by omega
    have hnu : IntKind.u64.wrap (n : Int) = (n : Int) := by rw [IntKind.wrap_u64]; omega
    have HF := hid0 hF
    generalize (hexL n).toArray = X at *
    clear hF hT hn
    go_enter Tryz.func83, Tryz.ntmps83
    go_wp2_with (go_at_call 121; refine HF.out.mono ?_; rintro e w1 ⟨rfl, hb⟩; have HB := hid0 hb; clear hb)
    go_ret
    exact ⟨rfl, HB.out⟩
  have HI := hid0 hI
  generalize (hexL n).toArray = X at *
  clear hI hT hn
  go_enter Tryz.func57, Tryz.ntmps57
  go_wp2_with (go_at_call 83; refine HI.out.mono ?_; rintro e w1 ⟨rfl, hb⟩; have HB := hid0 hb; clear hb)
  go_ret
  exact ⟨rfl, HB.out⟩
end Go.Proofs.YtlfeiadgahdgoaaGreatDoor
namespace Go.Proofs.YtlfeiadgahdgoaaGreatDoor
open Go.RowKit Go.Shelf
attribute [local go_sem] Oper.semAt_some
set_option maxRecDepth 100000 in
set_option maxHeartbeats 1000000 in
theorem runeCount_any (s : ByteArray) (w : World) (hs : s.size < 9223372036854775807) :
    Calls Tryz.prog 45 #[.string s] w fun e w' => ∃ c : Nat, c ≤ s.size ∧ e = .returned (.int .i64 (c : Int)) ∧ Below w.heap.size w w' := by
  go_enter Tryz.func45, Tryz.ntmps45
  go_wp2
  go_loopw [2] (fun n w' => ∃ (pos b acc : Nat), w' = w.iter s pos ∧ n = .int .i64 acc ∧ acc + Lib.runeCountFrom s b pos = Lib.runeCount s ∧ s.size ≤ pos + b ∧ acc ≤ pos) (fun _ w' => s.size - w'.iterPos w.heap.size)
  case atStart => exact ⟨0, s.size, 0, rfl, rfl, by simp [Lib.runeCount], by omega, Nat.le_refl _⟩
  case round =>
    obtain ⟨pos, b, acc, rfl, rfl, hc, hb, ha⟩ := hrel
    by_cases hp : pos < s.size
    · have hnx : ∀ ty, (Instr.next (.pointer (some ⟨w.heap.size, 0, none⟩)) true ty).run Tryz.prog (w.iter s pos) = _ := fun ty => run_next_any w s pos ty hp
      have hwd := Lib.decode_width_pos s pos hp
      go_wp2
      go_roundw
      case rel =>
        cases b with
        | zero => omega
        | succ b =>
          refine ⟨pos + (Utf8.decode s pos).2, b, acc + 1, rfl, by go_num, ?_, by omega, by omega⟩
          rw [← hc]
          simp [Lib.runeCountFrom, hp]
          omega
      case measure =>
        simp
        omega
    · have hnx : ∀ ty, (Instr.next (.pointer (some ⟨w.heap.size, 0, none⟩)) true ty).run Tryz.prog (w.iter s pos) = _ := fun ty => run_next_end w s pos ty hp
      go_wp2
      go_ret
      have hle := Lib.runeCount_le s
      exact ⟨acc, by omega, rfl, (Below.refl _ _).alloc (Nat.le_refl _) _⟩
set_option maxRecDepth 100000 in
set_option maxHeartbeats 1000000 in
theorem all_in (n : Nat) (s : ByteArray) (w : World) :
    CallsIn Fence.wide n Tryz.prog 46 #[.string s] w fun e w' => e = .returned (.func (.func 78) #[] #[.pointer (some ⟨w.heap.size, 0, none⟩)]) ∧ w' = w.alloc (.cells #[.string s] 9) := by
  refine callsIn_of_wp Tryz.func46 rfl trivial ?_ rfl
  simp only [Tryz.ntmps46, List.size_toArray, List.length_cons, List.length_nil, Nat.reduceAdd, Nat.reduceSub, Array.replicate_succ, Array.replicate_zero, List.push_toArray, List.append_toArray, List.nil_append, List.cons_append]
  gi_wp2
  go_ret
  exact ⟨rfl, rfl⟩
/-- The block to which the slice in a box points. -/
def rowIn (bF : Nat) (W : World) : Option Nat := match W.heap[bF]? with
  | some (.cells cs _ _) => (cs[0]?).bind Value.ownBlock
  | _ => none
def InR (bF : Nat) (W : World) : Prop := ∀ g, rowIn bF W = some g → g < W.heap.size
/-- What a round keeps: all cells but the box and the row to which it points. -/
structure KeepsBut (bF : Nat) (W W' : World) : Prop where
  size : W.heap.size ≤ W'.heap.size
  row : rowIn bF W' = rowIn bF W ∨ ∀ g, rowIn bF W' = some g → W.heap.size ≤ g
  inR : InR bF W → InR bF W'
  kept : ∀ i c t z, W.heap[i]? = some (.cells c t z) → i ≠ bF → some i ≠ rowIn bF W → W'.heap[i]? = some (.cells c t z)
theorem KeepsBut.trans {bF : Nat} {A B C : World} (h1 : KeepsBut bF A B) (h2 : KeepsBut bF B C) : KeepsBut bF A C where
  size := Nat.le_trans h1.size h2.size
  row := by
    rcases h2.row with h | h
    · rcases h1.row with h' | h'
      · exact .inl (h.trans h')
      · exact .inr (fun g hg => h' g (h ▸ hg))
    · exact .inr (fun g hg => Nat.le_trans h1.size (h g hg))
  inR := fun h => h2.inR (h1.inR h)
  kept := fun i c t z hi hn hr => h2.kept i c t z (h1.kept i c t z hi hn hr) hn (by
    have hlt := (Array.getElem?_eq_some_iff.1 hi).1
    rcases h1.row with h | h
    · rw [h]; exact hr
    · intro e
      have := h i e.symm
      omega)
theorem rowIn_same {bF : Nat} {W W' : World} (h : W'.heap[bF]? = W.heap[bF]?) : rowIn bF W' = rowIn bF W := by rw [rowIn, rowIn, h]
theorem KeepsBut.putObj {bF n : Nat} (hF : bF < n) (W : World) (l : Nat) (o o' : Obj) (hl : n ≤ l) (ho : W.heap[l]? = some o) (hc : o.isCells = false) : KeepsBut bF W (W.putObj l o') := by
  have hrow : rowIn bF (W.putObj l o') = rowIn bF W := rowIn_same (World.putObj_heap_other (by omega))
  refine ⟨by simp, .inl hrow, fun h g hg => ?_, fun i c t z hi _ _ => ?_⟩
  · have := h g (hrow ▸ hg)
    simpa using this
  · rw [World.putObj_heap_other (fun e => by subst e; rw [ho] at hi; simp at hi; subst hi; simp [Obj.isCells] at hc)]
    exact hi
theorem SeqAt.of_block {W W' : World} (h : SeqAt W) (hb : W'.heap[15]? = W.heap[15]?) : SeqAt W' := fun i hi k hk => (World.cell?_of_block (a := ⟨15, _, none⟩) hb).trans (h i hi k hk)
theorem SeqAt.block {W : World} (h : SeqAt W) : ∃ c t z, W.heap[15]? = some (.cells c t z) := by
  have h1 := (h.row 0 (by omega)).1
  unfold World.cell? at h1
  split at h1
  · rename_i c t z he
    exact ⟨c, t, z, he⟩
  · simp at h1
theorem grownBy_of_below {W W' : World} (h : Below W.heap.size W W') : W.grownBy W' none := ⟨h.os, h.tape, h.output, h.size, fun i hi _ => h.block i hi⟩
set_option maxRecDepth 100000 in
set_option maxHeartbeats 2000000 in
theorem all1_in (n : Nat) (hn : 1 ≤ n) (l Bn bF B : Nat) (s : ByteArray) (hs : s.size ≤ 4194400) (J Jx : List (Int × Nat × Nat) → World → Prop) (hJ : AbidesFrom B J)
    (hY : ∀ pre x W, J pre W → pre.length < (unitsOf s.data.toList).length → YieldAt Fence.wide (n - 1) Tryz.prog l #[unitVal x.1 x.2.1 x.2.2] W fun e W' =>
      (e = .returned (.bool true) ∧ J (pre ++ [x]) W' ∧ KeepsBut bF W W') ∨ (e = .returned (.bool false) ∧ Jx (pre ++ [x]) W'))
    (W : World) (hBn : W.heap[Bn]? = some (.cells #[.string s] 9 (0, 0))) (hT : SeqAt W) (hF : bF < W.heap.size) (hBF : Bn ≠ bF) (hgF : 15 ≠ bF) (hIn : InR bF W) (hr1 : rowIn bF W ≠ some Bn) (hr2 : rowIn bF W ≠ some 15) (h0 : J [] W) :
    CallsIn Fence.wide n Tryz.prog 78 #[.func (.yield l) #[] #[], .pointer (some ⟨Bn, 0, none⟩)] W fun e W' => (∃ v, e = .returned v) ∧
      ((∃ ys, ys = unitsOf s.data.toList ∧ J ys W') ∨ (∃ pre, pre <+: unitsOf s.data.toList ∧ Jx pre W')) := by
  refine callsIn_of_wp Tryz.func78 rfl trivial ?_ rfl
  simp only [Tryz.ntmps78, List.size_toArray, List.length_cons, List.length_nil, Nat.reduceAdd, Nat.reduceSub, Array.replicate_succ, Array.replicate_zero, List.push_toArray, List.append_toArray, List.nil_append, List.cons_append]
  gi_wp2
  have hlen : s.data.toList.length = s.size := bsize s
  have HYd := hid hY
  have HJd := hid hJ
  clear hY hJ
  gi_loopw [3] (fun i wr => ∃ (k : Nat) (pre : List (Int × Nat × Nat)), k ≤ s.size ∧ i = .int .i64 (k : Int) ∧ unitsOf s.data.toList = pre ++ unitsAt s.data.toList k ∧ J pre wr ∧
      wr.heap[Bn]? = some (.cells #[.string s] 9 (0, 0)) ∧ SeqAt wr ∧ bF < wr.heap.size ∧ InR bF wr ∧ rowIn bF wr ≠ some Bn ∧ rowIn bF wr ≠ some 15)
    (fun i _ => s.size - (intOf i).toNat)
  case atStart => exact ⟨0, [], Nat.zero_le _, rfl, rfl, h0, hBn, hT, hF, hIn, hr1, hr2⟩
  case round =>
    clear hBn hT hF hIn hr1 hr2 h0
    obtain ⟨k, pre, hk, rfl, hpre, hJs, hBn, hT, hF, hIn, hr1, hr2⟩ := hrel
    have hcell : wr.cell? ⟨Bn, 0, none⟩ = some (.string s) := by rw [cell_of_row wr Bn 0 _ _ _ hBn]; rfl
    have HPre := hid hpre
    have HJs := hid hJs
    have HBn := hid hBn
    have HT := hid hT
    have HIn := hid hIn
    have HR1 := hid hr1
    have HR2 := hid hr2
    clear hpre hJs hBn hT hIn hr1 hr2
    by_cases hlt : k < s.size
    · have hl := drop_cons s k hlt
      have hsz1 := uni_size s[k] (s.data.toList.drop (k + 1))
      have hbd := uni_bound s[k] (s.data.toList.drop (k + 1))
      rw [← hl] at hsz1 hbd
      have hll : (s.data.toList.drop (k + 1)).length = s.size - (k + 1) := by rw [List.length_drop, hlen]
      rw [hll] at hsz1
      have HU : Hid (unitsAt s.data.toList k = ((uniOf (s.data.toList.drop k)).1, k, k + (uniOf (s.data.toList.drop k)).2) :: unitsAt s.data.toList (k + (uniOf (s.data.toList.drop k)).2)) := unitsAt_step _ _ (by omega)
      have HC := hid (unitAt_any s k hlt (by omega) wr HT.out)
      clear hl hll hlen
      generalize (uniOf (s.data.toList.drop k)).1 = p at *
      generalize (uniOf (s.data.toList.drop k)).2 = m at *
      have hpl : pre.length < (unitsOf s.data.toList).length := by rw [HPre.out, HU.out]; simp
      have HPl := hid hpl
      clear hpl
      gi_wp2_with (refine ⟨trivial, ?_⟩; gi_at_call 79; refine (callsIn_wide.2 HC.out).mono ?_; rintro e w2 ⟨rfl, hb⟩; simp only [unitVal]; have hw3 : Below wr.heap.size wr (w2.alloc (.cells #[.int .i64 p, .int .i64 (k : Int), .int .i64 ((k : Int) + (m : Int))] 67)) := (hb.alloc hb.size _); obtain ⟨fn, tmps, assign, body, hy, hR⟩ := HYd.out pre (p, k, k + m) (w2.alloc (.cells #[.int .i64 p, .int .i64 (k : Int), .int .i64 ((k : Int) + (m : Int))] 67)) (HJd.out _ _ _ none HJs.out (grownBy_of_below hw3) (fun r e => by cases e)) HPl.out; dsimp only [unitVal] at hy; simp only [Int.natCast_add] at hy; have HRd := hid hR; clear hR)
      have hu : (w2.alloc (.cells #[.int .i64 p, .int .i64 (k : Int), .int .i64 ((k : Int) + (m : Int))] 67)).heap[w2.heap.size]? = some (.cells #[.int .i64 p, .int .i64 (k : Int), .int .i64 ((k : Int) + (m : Int))] 67 (0, 0)) := heap_alloc_new _ _
      have HU3 := hid hu
      have hrow : rowIn bF (w2.alloc (.cells #[.int .i64 p, .int .i64 (k : Int), .int .i64 ((k : Int) + (m : Int))] 67)) = rowIn bF wr := rowIn_same (hw3.block bF hF)
      have HRow := hid hrow
      have HW3 := hid hw3
      have hin : InR bF (w2.alloc (.cells #[.int .i64 p, .int .i64 (k : Int), .int .i64 ((k : Int) + (m : Int))] 67)) := fun g hg => Nat.lt_of_lt_of_le (HIn.out g (hrow ▸ hg)) hw3.size
      have HIn3 := hid hin
      have hsz2 := hb.size
      clear hu hrow hw3 hin hy hb HC
      refine HRd.out.mono ?_
      rintro e W3 (⟨rfl, hJ3, hk3⟩ | ⟨rfl, hJx3⟩)
      · have hq3 : W3.heap[w2.heap.size]? = _ := hk3.kept w2.heap.size _ _ _ HU3.out (by omega) (by rw [HRow.out]; intro e; have := HIn.out _ e.symm; omega)
        obtain ⟨⟨_, _, c2⟩, _⟩ := row3 hq3
        have hbn3 : W3.heap[Bn]? = _ := hk3.kept Bn _ _ _ ((HW3.out.block Bn (Array.getElem?_eq_some_iff.1 HBn.out).1).trans HBn.out) hBF (by rw [HRow.out]; exact fun e => HR1.out e.symm)
        obtain ⟨ct, tt, zt, htt⟩ := HT.out.block
        have htt3 : W3.heap[15]? = _ := hk3.kept _ _ _ _ ((HW3.out.block _ HT.out.pos).trans htt) hgF (by rw [HRow.out]; exact fun e => HR2.out e.symm)
        have HT3 := hid (HT.out.of_block (W' := W3) (htt3.trans htt.symm))
        have HBn3 := hid hbn3
        have HI3 := hid (hk3.inR HIn3.out)
        have hs3 : wr.heap.size ≤ W3.heap.size := Nat.le_trans HW3.out.size hk3.size
        have hrow3 := hk3.row
        rw [HRow.out] at hrow3
        have HRW : Hid (rowIn bF W3 ≠ some Bn ∧ rowIn bF W3 ≠ some 15) := by
          have hb1 := (Array.getElem?_eq_some_iff.1 HBn.out).1
          have hb2 := HT.out.pos
          rcases hrow3 with h | h
          · rw [h]; exact ⟨HR1.out, HR2.out⟩
          · exact ⟨fun e => by have := h _ e; have := HW3.out.size; omega, fun e => by have := h _ e; have := HW3.out.size; omega⟩
        have HJ3 := hid hJ3
        clear hq3 hbn3 htt htt3 hrow3 hJ3 hk3
        gi_wp2
        go_roundw
        case rel => exact ⟨k + m, pre ++ [(p, k, k + m)], by omega, by go_num, by rw [HPre.out, HU.out]; simp, HJ3.out, HBn3.out, HT3.out, by omega, HI3.out, HRW.out.1, HRW.out.2⟩
        case measure => simp [intOf]; omega
      · gi_wp2
        refine bodyPost_ret (results_none rfl _ _ _) rfl ?_
        exact ⟨⟨_, rfl⟩, .inr ⟨pre ++ [(p, k, k + m)], ⟨unitsAt s.data.toList (k + m), by rw [HPre.out, HU.out]; simp⟩, hJx3⟩⟩
    · gi_wp2
      go_end0
      have hkk : unitsAt s.data.toList k = [] := unitsAt_end _ _ (by omega)
      exact ⟨⟨_, rfl⟩, .inl ⟨pre, by rw [HPre.out, hkk, List.append_nil], HJs.out⟩⟩
end Go.Proofs.YtlfeiadgahdgoaaGreatDoor
namespace Go.Proofs.YtlfeiadgahdgoaaGreatDoor
open Go.RowKit Go.Shelf
attribute [local go_sem] Oper.semAt_some
theorem all_stops (n : Nat) (hn : 1 ≤ n) (Bn bF : Nat) (s : ByteArray) (hs : s.size ≤ 4194400) (w : World)
    (hBn : w.heap[Bn]? = some (.cells #[.string s] 9 (0, 0))) (hT : SeqAt w) (hF : bF < w.heap.size) (hBF : Bn ≠ bF) (hgF : 15 ≠ bF) (hIn : InR bF w) (hr1 : rowIn bF w ≠ some Bn) (hr2 : rowIn bF w ≠ some 15) :
    SeqStopsK Fence.wide n Tryz.prog 78 #[.pointer (some ⟨Bn, 0, none⟩)] (fun x : Int × Nat × Nat => #[unitVal x.1 x.2.1 x.2.2]) (KeepsBut bF) (fun ys => ys = unitsOf s.data.toList) (fun pre => pre <+: unitsOf s.data.toList) (unitsOf s.data.toList).length w := fun l J Jx W hW hJ _ hY h0 => by
  have hrow : rowIn bF W = rowIn bF w := rowIn_same (hW.block bF hF)
  exact all1_in n hn l Bn bF W.heap.size s hs J Jx hJ hY W ((hW.block Bn (Array.getElem?_eq_some_iff.1 hBn).1).trans hBn) (hT.later hW) (Nat.lt_of_lt_of_le hF hW.size) hBF hgF
    (fun g hg => Nat.lt_of_lt_of_le (hIn g (hrow ▸ hg)) hW.size) (by rw [hrow]; exact hr1) (by rw [hrow]; exact hr2) h0
theorem unitsF_len : ∀ (f k : Nat) (l : List UInt8), (unitsF f k l).length ≤ l.length := by
  intro f
  induction f with
  | zero => intro k l; simp [unitsF]
  | succ f ih =>
    intro k l
    cases l with
    | nil => simp [unitsF]
    | cons a l =>
      have h := ih (k + (uniOf (a :: l)).2) ((a :: l).drop (uniOf (a :: l)).2)
      have hs := uni_size a l
      rw [List.length_drop] at h
      rw [unitsF]
      simp only [List.length_cons] at h ⊢
      omega
theorem units_le (s : ByteArray) : (unitsOf s.data.toList).length ≤ s.size := by
  have := unitsF_len (s.data.toList.length - 0) 0 (s.data.toList.drop 0)
  rw [List.drop_zero, bsize] at this
  simpa [unitsOf, unitsAt] using this
theorem rowIn_boxed {bF : Nat} {W : World} {t : TypeId} {v : Value} (h : Boxed W bF t v) : rowIn bF W = v.ownBlock := by
  rw [rowIn, show W.heap[bF]? = _ from h]
  rfl
theorem KeepsBut.alloc {bF : Nat} {W : World} (hF : bF < W.heap.size) (o : Obj) : KeepsBut bF W (W.alloc o) := by
  have hrow : rowIn bF (W.alloc o) = rowIn bF W := rowIn_same (Below.heap_alloc W o bF hF)
  refine ⟨by simp, .inl hrow, fun h g hg => ?_, fun i c t z hi _ _ => ?_⟩
  · have := h g (hrow ▸ hg); simp; omega
  · rw [Below.heap_alloc W o i (Array.getElem?_eq_some_iff.1 hi).1]; exact hi
theorem KeepsBut.appended {bF : Nat} {W w1 : World} {t : TypeId} {v v' : Value} {o : Obj} (hv : Boxed W bF t v) (hv2 : Boxed (w1.setCell ⟨bF, 0, none⟩ v') bF t v') (hgrow : (W.alloc o).grownBy w1 v.ownBlock)
    (hat : v'.ownBlock = v.ownBlock ∨ v'.ownBlock = some (W.alloc o).heap.size) (hlt : ∀ g, v'.ownBlock = some g → g < w1.heap.size) : KeepsBut bF W (w1.setCell ⟨bF, 0, none⟩ v') := by
  have e1 := rowIn_boxed hv
  have e2 := rowIn_boxed hv2
  have hs := hgrow.size
  simp only [World.size_alloc] at hs
  refine ⟨by simp; omega, ?_, fun _ g hg => ?_, fun i c t' z hi hn hr => ?_⟩
  · rw [e1, e2]
    rcases hat with h | h
    · exact .inl h
    · refine .inr (fun g hg => ?_)
      rw [h] at hg
      simp at hg
      omega
  · rw [e2] at hg
    have := hlt g hg
    simpa using this
  · have hl := (Array.getElem?_eq_some_iff.1 hi).1
    rw [heap_setCell_other _ _ _ _ hn, hgrow.block i (by simp; omega) (by rw [← e1]; exact hr), Below.heap_alloc W o i hl]
    exact hi
set_option maxRecDepth 100000 in
set_option maxHeartbeats 2000000 in
theorem usplit_at (s : ByteArray) (hs : s.size ≤ 4194400) (w : World) (hT : SeqAt w) :
    Calls Tryz.prog 26 #[.string s] w fun e w' => ∃ v, e = .returned v ∧ OwnU w' w.heap.size v (unitsOf s.data.toList) ∧ v ≠ .slice none 0 0 ∧ Below w.heap.size w w' := by
  obtain ⟨i0, hi, hz0, hz1, hz2⟩ := info_parts infoUnit
  have HT := hid hT
  have hpos := hT.pos
  clear hT
  refine (callsIn_wide (n := 8)).1 ?_
  refine callsIn_of_wp_marks Tryz.func26 rfl trivial ?_ rfl
  simp only [Tryz.ntmps26, List.size_toArray, List.length_cons, List.length_nil, Nat.reduceAdd, Nat.reduceSub, Array.replicate_succ, Array.replicate_zero, List.push_toArray, List.append_toArray, List.nil_append, List.cons_append]
  gi_wp2_with (first
    | (refine ⟨trivial, ?_⟩; gi_at_call 45; refine (callsIn_wide.2 (runeCount_any s _ (by omega))).mono ?_; rintro e w1 ⟨c, hc, rfl, hb1⟩)
    | (gi_at_make; refine wpListIn_make_own _ rfl _ _ 64 rfl w.heap.size 67 i0 (.agg #[.int .i64 0, .int .i64 0, .int .i64 0]) 3 Tryz.underlying64 hi hz0 hz1 .i64 .i64 (c : Int) c rfl rfl rfl (by rw [hz2]; omega) (by unfold maxLen; omega) hb1.size ?_; intro w2 hown2 hgrow2)
    | (refine ⟨trivial, ?_⟩; gi_at_call 46; refine (all_in _ s _).mono ?_; rintro e w' ⟨rfl, rfl⟩)
    | fail)
  have hB2 : Below w.heap.size w w2 := hb1.grown hgrow2 hb1.size (fun k hk => by cases hk)
  have hs2 := hB2.size
  have hg2 : w1.heap.size < w2.heap.size := (World.ownsRow.lt hown2 _ rfl).2
  have bF := Boxed.new w2 64 (.slice (some ⟨w1.heap.size, 0, none⟩) 0 c)
  have bN := Boxed.new (w2.alloc (.cells #[.slice (some ⟨w1.heap.size, 0, none⟩) 0 c] 64)) 9 (.string s)
  rw [World.size_alloc] at bN
  have hB0 : Below w.heap.size w ((w2.alloc (.cells #[.slice (some ⟨w1.heap.size, 0, none⟩) 0 c] 64)).alloc (.cells #[.string s] 9)) := (hB2.alloc hs2 _).alloc (by simp; omega) _
  have bF0 := bF.alloc (.cells #[.string s] 9)
  have hrow0 := rowIn_boxed bF0
  have hpos2 : 15 < w2.heap.size := by omega
  have hw1 := hb1.size
  refine wpIn_rangeFunc_ownH rfl (by omega) (gf := 78) (lb := #[.pointer (some ⟨w2.heap.size + 1, 0, none⟩)]) rfl trivial (enters_of Tryz.func78 (by kernel_rfl) rfl)
    (all_stops 7 (by omega) (w2.heap.size + 1) w2.heap.size s hs _ bN (HT.out.later hB0) (by simp; omega) (by omega) (by omega)
      (fun g hg => by rw [hrow0] at hg; simp [Value.ownBlock] at hg; simp; omega) (by rw [hrow0]; simp [Value.ownBlock]; omega) (by rw [hrow0]; simp [Value.ownBlock]; omega))
    KeepsBut.trans (fun W l o o' hl ho hc _ => KeepsBut.putObj (n := w2.heap.size + 1) (by omega) W l o o' (by simp at hl; omega) ho hc) (Below.refl _ _) (fun _ => rfl)
    (fun pre W => (∃ v, Boxed W w2.heap.size 64 v ∧ W.ownsRow w.heap.size 67 3 v pre.length (cellsU pre) ∧ v ≠ .slice none 0 0) ∧ Below w.heap.size w W)
    (fun _ _ _ => False)
    (OwnFrom.and (Own.from (holdsRow_own w.heap.size w2.heap.size 64 67 3 (fun pre => pre.length) (fun pre => cellsU pre) (fun _ v => v ≠ .slice none 0 0)) _) (ownFrom_below (Nat.le_refl _) (by simp; omega)))
    (fun _ _ _ _ _ hs _ _ => hs)
    ⟨⟨_, bF0, (hown2.alloc _).alloc _, by simp⟩, hB0⟩
    (fun x a' W => ∃ Bx, W.heap[Bx]? = some (.cells #[.int .i64 x.1, .int .i64 (x.2.1 : Int), .int .i64 (x.2.2 : Int)] 67 (0, 0)) ∧ a' = { tmps := #[.string s, undef, .slice none 0 0, .pointer (some ⟨w2.heap.size, 0, none⟩), .pointer (some ⟨Bx, 0, none⟩), .string s, .int .i64 (c : Int), .slice (some ⟨w1.heap.size, 0, none⟩) 0 c, .string s, .func (.func 78) #[] #[.pointer (some ⟨w2.heap.size + 1, 0, none⟩)], .agg #[.int .i64 x.1, .int .i64 (x.2.1 : Int), .int .i64 (x.2.2 : Int)], undef, undef, undef, undef, undef], defers := [] })
    ?hAx ?assign ?body ?done ?stop
  case hAx =>
    rintro x a' _ X Y row ⟨Bx, hx, ha⟩ hg hr
    refine ⟨Bx, ?_, ha⟩
    rw [hg.block Bx (Array.getElem?_eq_some_iff.1 hx).1 (fun e => by obtain ⟨_, o, ho, hc⟩ := hr Bx e.symm; rw [hx] at ho; cases ho; simp [Obj.isCells] at hc)]
    exact hx
  case assign =>
    rintro l pre x W K ⟨⟨v, hv, hrow, hnn⟩, hB⟩ hK
    simp only [unitVal]
    gi_wp2
    exact hK _ _ ((KeepsOthers.alloc _ _).from _) (KeepsBut.alloc hv.lt _) ⟨⟨v, hv.alloc _, hrow.alloc _, hnn⟩, hB.alloc hB.size _⟩ ⟨W.heap.size, heap_alloc_new _ _, rfl⟩
  case body =>
    rintro l pre x a' W hl ⟨r, hr⟩ ⟨⟨v, hv, hrow, _⟩, hB⟩ ⟨Bx, hx, rfl⟩ hlt
    have hc := hv.cell
    obtain ⟨⟨x0, x1, x2⟩, _⟩ := row3 hx
    have hN := units_le s
    have hsz := hB.size
    gi_wp2_with (gi_at_builtin; refine wpListIn_append_own_at _ rfl _ _ 64 rfl w.heap.size 67 i0 (.agg #[.int .i64 0, .int .i64 0, .int .i64 0]) 3 24 Tryz.underlying64 hi hz0 hz1 hz2 rfl (by decide) _ _ _ rfl (hrow.alloc _) ⟨W.heap.size, 0, none⟩ 1 1 [.int .i64 x.1, .int .i64 (x.2.1 : Int), .int .i64 (x.2.2 : Int)] rfl rfl (cell3_new _ _ _ _ _) (by simp [Value.oneCell']) (by unfold maxLen; omega) (by omega) (by simp; omega) ?_; intro v' w3 hown' hgrow _ hat; obtain ⟨g', cap', rfl⟩ := ownsRow_succ hown'; obtain ⟨hv1, hv2, hr2, hk2, hb2⟩ := hv.appended (by decide) hrow hB.size (by omega) hown' hgrow; have hc1 := hv1.cell; have hf1 := hv1.frozen)
    have hlen1 : (pre ++ [x]).length = pre.length + 1 := by simp
    have hcu : cellsU (pre ++ [x]) = cellsU pre ++ [.int .i64 x.1, .int .i64 (x.2.1 : Int), .int .i64 (x.2.2 : Int)] := by rw [cellsU_append]; rfl
    exact ⟨hk2.from _, KeepsBut.appended hv hv2 hgrow hat (fun g e => (World.ownsRow.lt hown' g e).2), ⟨_, hv2, by rw [hlen1, hcu]; exact hr2, by simp⟩, hB.trans hb2⟩
  case done =>
    rintro D ys W hD rfl ⟨⟨v, hv, hrow, hnn⟩, hB⟩ hK
    have hc := hv.cell
    gi_wp2
    refine ⟨by simp, .inl ⟨_, _, rfl, run_takeDeferred hK, ?_⟩⟩
    exact ⟨_, results_tmp rfl _ _ _, v, rfl, ownsRow_putObj hrow _ hK rfl, hnn, hB.trans (belowK_b (w := w) (Nat.le_refl _) W D _ _ (by simp at hD; omega) hK rfl rfl)⟩
  case stop =>
    rintro D c pre W _ _ h _
    exact h.elim
theorem usplit_any (s : ByteArray) (hs : s.size ≤ 4194400) (w : World) (hT : SeqAt w) :
    Calls Tryz.prog 26 #[.string s] w fun e w' => ∃ v, e = .returned v ∧ OwnU w' w.heap.size v (unitsOf s.data.toList) ∧ Below w.heap.size w w' :=
  (usplit_at s hs w hT).mono fun _ _ ⟨v, h1, h2, _, h3⟩ => ⟨v, h1, h2, h3⟩
/-- The same, the answer's shape written out, of a text whose bytes are told. -/
theorem usplit_as (s : ByteArray) (l : List UInt8) (hl : s.data.toList = l) (hs : s.size ≤ 4194400) (w : World) (hT : SeqAt w) :
    Calls Tryz.prog 26 #[.string s] w fun e w' => ∃ g cap, e = .returned (.slice (some ⟨g, 0, none⟩) (unitsOf l).length cap) ∧ OwnU w' w.heap.size (.slice (some ⟨g, 0, none⟩) (unitsOf l).length cap) (unitsOf l) ∧ (unitsOf l).length ≤ cap ∧ g < w'.heap.size ∧ w.heap.size ≤ g ∧ Below w.heap.size w w' := by
  subst hl
  refine (usplit_at s hs w hT).mono ?_
  rintro e w' ⟨v, rfl, h2, h3, h4⟩
  rcases h2.2 with ⟨rfl, _⟩ | ⟨g, cap, cur, rfl, hg, hh, hcap, _⟩
  · exact absurd rfl h3
  · exact ⟨g, cap, rfl, h2, hcap, (Array.getElem?_eq_some_iff.1 hh).1, hg, h4⟩
end Go.Proofs.YtlfeiadgahdgoaaGreatDoor
namespace Go.Proofs.YtlfeiadgahdgoaaGreatDoor
open Go.RowKit Go.Shelf Go.Lib
theorem ext169 : Builder.Extra Tryz.prog Tryz.lays169_ren where
  sizeBuilder := by kernel_rfl
  liesBuilder := by kernel_rfl
  t5 := Tryz.underlying5
  a5 := Tryz.isAgg5
  z5 := Tryz.sizeOf5
  v5 := Tryz.zeroValue5
  infoByte := by kernel_rfl
  cellsByte := by kernel_rfl
  sizeByte := by kernel_rfl
  neB5 := by decide
theorem bl_later {B b : Nat} {bs : List Value} {w w' : World} (h : Bl B b bs w) (hb : Below w.heap.size w w') : Bl B b bs w' := by
  have bld : ∀ p, Lib.BuilderAt 50 5 B b p bs w → Lib.BuilderAt 50 5 B b p bs w' := fun p ⟨h1, v, h2, h3, h4⟩ => ⟨h1, v, (hb.block b (Array.getElem?_eq_some_iff.1 h2).1).trans h2, World.ownsRow.kept h3 (row := none) ⟨hb.os, hb.tape, hb.output, hb.size, fun k hk _ => hb.block k hk⟩ (by cases hv : v.ownBlock <;> simp), h4⟩
  exact h.elim (fun x => .inl (bld _ x)) (fun x => .inr (bld _ x))
theorem bytes_app (a b : List UInt8) : Lib.byteCells (a ++ b) = Lib.byteCells a ++ Lib.byteCells b := by simp [Lib.byteCells]
theorem strCells_strOf (l : List UInt8) : Lib.strCells (strOf l) = Lib.byteCells l := by simp [Lib.strCells, Lib.byteCells, strOf_data]
theorem strCells_app (a b : ByteArray) : Lib.strCells (a ++ b) = Lib.strCells a ++ Lib.strCells b := by simp [Lib.strCells]
set_option maxRecDepth 10000 in
theorem ctl_any (p : Int) (w : World) : Calls Tryz.prog 56 #[.int .i64 p] w fun e w' => e = .returned (.bool (decide (p < 32) || (p == 127))) ∧ w' = w := by
  by_cases h : p < 32
  · have hd : decide (p < 32) = true := decide_eq_true h
    go_enter Tryz.func56, Tryz.ntmps56
    go_wp2
    go_ret
    exact ⟨by simp [h], rfl⟩
  · have hd : decide (p < 32) = false := decide_eq_false h
    go_enter Tryz.func56, Tryz.ntmps56
    go_wp2
    go_ret
    exact ⟨by simp, rfl⟩
/-- What is written of the first k units. -/
def wrT (l : List UInt8) (k : Nat) : List UInt8 := ((unitsOf l).take k).flatMap (wrU l)
theorem wrT_more (l : List UInt8) (k : Nat) (h : k < (unitsOf l).length) : wrT l (k + 1) = wrT l k ++ wrU l (unitsOf l)[k] := by
  unfold wrT
  rw [List.take_succ_eq_append_getElem h, List.flatMap_append]
  simp only [List.flatMap_cons, List.flatMap_nil, List.append_nil]
theorem wrT_len (l : List UInt8) (k : Nat) : (wrT l k).length ≤ k * 6 := by
  have h1 := flat_len (wrU l) 6 ((unitsOf l).take k) (fun u hu => wrU_len l u (units_in l u (List.mem_of_mem_take hu)).2.1)
  have h2 : ((unitsOf l).take k).length ≤ k := by rw [List.length_take]; omega
  unfold wrT
  have := Nat.mul_le_mul_right 6 h2
  omega
theorem own_heap {w : World} {lo t s g n m cap : Nat} {xs : List Value} (h : w.ownsRow lo t s (.slice (some ⟨g, 0, none⟩) m cap) n xs) : ∃ c, w.heap[g]? = some (.cells c t (0, 0)) := by
  rcases h.2 with ⟨hv, _⟩ | ⟨g', cap', cur, hv, _, hr, _⟩
  · cases hv
  · injection hv with e1 _ _
    cases e1
    exact ⟨_, hr⟩
theorem cellsW_at (us : List (Int × Nat × Nat)) : ∀ (k : Nat) (h : k < us.length), (cellsU us)[k * 3]? = some (.int .i64 us[k].1) ∧ (cellsU us)[k * 3 + 1]? = some (.int .i64 (us[k].2.1 : Int)) ∧ (cellsU us)[k * 3 + 2]? = some (.int .i64 (us[k].2.2 : Int)) := by
  induction us with
  | nil => intro k h; simp at h
  | cons u l ih =>
    intro k h
    have e : cellsU (u :: l) = .int .i64 u.1 :: .int .i64 (u.2.1 : Int) :: .int .i64 (u.2.2 : Int) :: cellsU l := rfl
    cases k with
    | zero => rw [e]; simp
    | succ k =>
      have := ih k (by simpa using h)
      rw [e, show (k + 1) * 3 = k * 3 + 1 + 1 + 1 by omega, show k * 3 + 1 + 1 + 1 + 1 = (k * 3 + 1) + 1 + 1 + 1 by omega, show k * 3 + 1 + 1 + 1 + 2 = (k * 3 + 2) + 1 + 1 + 1 by omega]
      simpa using this
/-- The units in memory, whatever writes of bytes come. -/
def UW (W : World) (g : Nat) (us : List (Int × Nat × Nat)) : Prop := (∃ c, W.heap[g]? = some (.cells c 67 (0, 0))) ∧ ∀ k (h : k < us.length), W.cell? ⟨g, k * 3, none⟩ = some (.int .i64 us[k].1) ∧ W.cell? ⟨g, k * 3 + 1, none⟩ = some (.int .i64 (us[k].2.1 : Int)) ∧ W.cell? ⟨g, k * 3 + 2, none⟩ = some (.int .i64 (us[k].2.2 : Int))
theorem uw_of {w : World} {lo g cap : Nat} {us : List (Int × Nat × Nat)} (h : OwnU w lo (.slice (some ⟨g, 0, none⟩) us.length cap) us) : UW w g us := by
  refine ⟨own_heap h, fun k hk => ?_⟩
  have hl := cellsU_length us
  obtain ⟨a, b, c⟩ := cellsW_at us k hk
  exact ⟨by rw [World.ownsRow.cellAt h _ (by omega)]; exact a, by rw [World.ownsRow.cellAt h _ (by omega)]; exact b, by rw [World.ownsRow.cellAt h _ (by omega)]; exact c⟩
theorem UW.same {w w' : World} {g : Nat} {us : List (Int × Nat × Nat)} (h : UW w g us) (e : w'.heap[g]? = w.heap[g]?) : UW w' g us :=
  ⟨by obtain ⟨c, hc⟩ := h.1; exact ⟨c, e.trans hc⟩, fun k hk => ⟨(World.cell?_of_block (a := ⟨g, k * 3, none⟩) e).trans (h.2 k hk).1, (World.cell?_of_block (a := ⟨g, k * 3 + 1, none⟩) e).trans (h.2 k hk).2.1, (World.cell?_of_block (a := ⟨g, k * 3 + 2, none⟩) e).trans (h.2 k hk).2.2⟩⟩
theorem UW.later {w w' : World} {g : Nat} {us : List (Int × Nat × Nat)} (h : UW w g us) (hb : Below w.heap.size w w') : UW w' g us := by
  obtain ⟨c, hc⟩ := h.1
  exact h.same (hb.block g (Array.getElem?_eq_some_iff.1 hc).1)
theorem UW.kb {w w' : World} {g b : Nat} {us : List (Int × Nat × Nat)} (h : UW w g us) (hk : Kb b w w') (hn : ¬ g = b) : UW w' g us := by
  obtain ⟨c, hc⟩ := h.1
  exact h.same ((hk g c _ _ hc (by decide) hn).trans hc.symm)
theorem wrU_1 {l : List UInt8} {u : Int × Nat × Nat} (h : u.1 = 92) : wrU l u = [92, 92] := by unfold wrU; rw [if_pos h]
theorem wrU_2 {l : List UInt8} {u : Int × Nat × Nat} (h : u.1 = 35) : wrU l u = [92, 35] := by unfold wrU; rw [if_neg (by omega), if_pos h]
theorem wrU_3 {l : List UInt8} {u : Int × Nat × Nat} (h : u.1 = 32) (ha : u.2.1 = 0 ∨ u.2.2 = l.length) : wrU l u = [92, 115] := by unfold wrU; rw [if_neg (by omega), if_neg (by omega), if_pos ⟨h, ha⟩]
theorem wrU_4 {l : List UInt8} {u : Int × Nat × Nat} (h : u.1 < 32 ∨ u.1 = 127) : wrU l u = [92, 117, 123] ++ hexL u.1.toNat ++ [125] := by unfold wrU; rw [if_neg (by omega), if_neg (by omega), if_neg (by omega), if_pos h]
theorem wrU_5 {l : List UInt8} {u : Int × Nat × Nat} (h1 : ¬ u.1 = 92) (h2 : ¬ u.1 = 35) (h3 : ¬ (u.1 = 32 ∧ (u.2.1 = 0 ∨ u.2.2 = l.length))) (h4 : ¬ (u.1 < 32 ∨ u.1 = 127)) : wrU l u = (l.drop u.2.1).take (u.2.2 - u.2.1) := by unfold wrU; rw [if_neg h1, if_neg h2, if_neg h3, if_neg h4]
theorem ext_mid (s : ByteArray) (a b : Nat) : (s.extract a b).data.toList = (s.data.toList.drop a).take (b - a) := by
  simp [ByteArray.data_extract, List.extract_eq_take_drop]
set_option maxRecDepth 10000 in
set_option maxHeartbeats 6400000 in
theorem writtenEntry_any (s : ByteArray) (hs : s.size ≤ 4194400) (he : entF s.data.toList = none) (w : World) (hQ : SeqAt w) (hT : DT w) :
    Calls Tryz.prog 36 #[.string s] w fun e w' => e = .returned (.string (strOf (wrE s.data.toList))) ∧ Below w.heap.size w w' := by
  obtain ⟨h32, hpt⟩ := ent_ok he
  obtain ⟨wA, hwA⟩ : ∃ wA, wA = w.alloc (.cells #[.pointer none, .slice none 0 0] 50) := ⟨_, rfl⟩
  have hBA : Below w.heap.size w wA := by rw [hwA]; exact (Below.refl _ _).alloc (Nat.le_refl _) _
  have hsA : wA.heap.size = w.heap.size + 1 := by rw [hwA]; simp
  have hFB : Bl w.heap.size w.heap.size (Lib.byteCells (wrT s.data.toList 0)) wA := by
    rw [hwA]
    have h := Lib.fresh_isBuilder 50 5 w
    simpa [wrT, Lib.byteCells] using h
  have HSp := hid0 (usplit_as s s.data.toList rfl hs wA (hQ.later hBA))
  have HDT : Hid (∀ W, Below w.heap.size w W → DT W) := hid0 (fun W hW => dt_later hT hW)
  have HFB := hid0 hFB
  have HBA := hid0 hBA
  have HPt := hid0 hpt
  have HSz : Hid (s.data.toList.length = s.size) := hid0 (bsize s)
  obtain ⟨n, hn⟩ : ∃ n, n = (unitsOf s.data.toList).length := ⟨_, rfl⟩
  rw [← hn] at HSp h32
  have Hn := hid0 hn
  have hfold := hwA.symm
  clear hwA hBA hFB hQ hT he hpt hn
  obtain ⟨Y, hY⟩ : ∃ Y, Y = strOf (wrE s.data.toList) := ⟨_, rfl⟩
  rw [← hY]
  have HY := hid0 hY
  clear hY
  go_enter Tryz.func36, Tryz.ntmps36
  go_wp2_with (go_at_call 26; go_loud ((refine HSp.out.mono ?_; rintro e w1 ⟨g, cap, rfl, ho, hcap, hg1, hg2, hb1⟩; have HU1 : Hid (UW w1 g (unitsOf s.data.toList)) := hid0 (uw_of (by rw [← Hn.out]; exact ho)); have HB1 := hid0 (Below.later HBA.out hb1); have HBl1 := hid0 (bl_later HFB.out hb1); clear ho hb1 hcap hg1)))
  have hgb : ¬ g = w.heap.size := by omega
  clear HFB HBA HSp hg2 hsA hfold
  go_loopw [11] (fun i wr => ∃ k : Nat, k ≤ n ∧ i = .int .i64 (k : Int) ∧ Hid (Bl w.heap.size w.heap.size (Lib.byteCells (wrT s.data.toList k)) wr) ∧ Hid (UW wr g (unitsOf s.data.toList)) ∧ Hid (Below w.heap.size w wr)) (fun i _ => n - (intOf i).toNat)
  case atStart => exact ⟨0, Nat.zero_le _, rfl, HBl1, HU1, HB1⟩
  case round =>
    clear HBl1 HU1 HB1
    obtain ⟨k, hk, rfl, HBl, HU, HBr⟩ := hrel
    by_cases hlt : k < n
    · have hkI : (k : Int) < (n : Int) := by omega
      have hkI0 : (0 : Int) ≤ (k : Int) := by omega
      have hkU : k < (unitsOf s.data.toList).length := by rw [← Hn.out]; exact hlt
      obtain ⟨c0, c1, c2⟩ := HU.out.2 k hkU
      have HW := wrT_more s.data.toList k hkU
      obtain ⟨i1, i2, i3⟩ := units_in s.data.toList _ (List.getElem_mem hkU)
      have hp0 := HPt.out _ (List.getElem_mem hkU)
      have hTl := wrT_len s.data.toList k
      rw [HSz.out] at i3
      have HWN : Hid (∀ X, wrU s.data.toList (unitsOf s.data.toList)[k] = X → Lib.byteCells (wrT s.data.toList k) ++ Lib.byteCells X = Lib.byteCells (wrT s.data.toList (k + 1))) := hid0 (fun X hX => by rw [HW, bytes_app, hX])
      have HLn : Hid ((Lib.byteCells (wrT s.data.toList k)).length ≤ 192) := hid0 (by rw [Lib.byteCells_length]; omega)
      have hbw : w.heap.size ≤ wr.heap.size := HBr.out.size
      generalize (unitsOf s.data.toList)[k] = u at *
      obtain ⟨p, a, b⟩ := u
      simp only at c0 c1 c2 i1 i2 i3 hp0
      obtain ⟨wB, hwB⟩ : ∃ wB, wB = wr.alloc (.cells #[.int .i64 p, .int .i64 (a : Int), .int .i64 (b : Int)] 67) := ⟨_, rfl⟩
      have hbB : Below wr.heap.size wr wB := by rw [hwB]; exact (Below.refl _ _).alloc (Nat.le_refl _) _
      have hrB : wB.heap[wr.heap.size]? = some (.cells #[.int .i64 p, .int .i64 (a : Int), .int .i64 (b : Int)] 67 (0, 0)) := by rw [hwB]; exact heap_alloc_new wr _
      have d0 : wB.cell? ⟨wr.heap.size, 0, none⟩ = some (.int .i64 p) := by rw [cell_of_row _ _ _ _ _ _ hrB]; rfl
      have d1 : wB.cell? ⟨wr.heap.size, 1, none⟩ = some (.int .i64 (a : Int)) := by rw [cell_of_row _ _ _ _ _ _ hrB]; rfl
      have d2 : wB.cell? ⟨wr.heap.size, 2, none⟩ = some (.int .i64 (b : Int)) := by rw [cell_of_row _ _ _ _ _ _ hrB]; rfl
      have hbs : w.heap.size ≤ wB.heap.size := by have := hbB.size; omega
      have HBlB := hid0 (bl_later HBl.out hbB)
      have HUB := hid0 (HU.out.later hbB)
      have HBB : Hid (Below w.heap.size w wB) := hid0 (HBr.out.trans (hbB.mono hbw))
      have hfB := hwB.symm
      clear hwB hbB hrB HBl HU HBr HW hTl hkU
      generalize Lib.byteCells (wrT s.data.toList k) = bs at *
      by_cases ha0 : a = 0
      · by_cases hp : p = 92
        · have hx1 : ((a : Int) == 0) = true := by simp [ha0]
          have hq1 : (p == 92) = true := by simp [hp]
          have HX : Hid (bs ++ Lib.strCells ⟨#[92, 92]⟩ = Lib.byteCells (wrT s.data.toList (k + 1))) := hid0 (HWN.out [92, 92] (wrU_1 hp))
          clear HWN HDT HPt hp ha0
          go_wp2_with (go_at_call 17; refine (writeString_any _ _ bs ⟨#[92, 92]⟩ wB HBlB.out (by have h1 := HLn.out; show _ + 2 ≤ _; omega) hbs).mono ?_; rintro e w6 ⟨rfl, h1, h2, h3⟩; have HU6 := hid0 (HUB.out.kb h3 hgb); have HB6 := hid0 (HBB.out.trans h2); have HBl6 : Hid (Bl w.heap.size w.heap.size (Lib.byteCells (wrT s.data.toList (k + 1))) w6) := hid0 (.inr (by rw [← HX.out]; exact h1)); clear h1 h2 h3)
          go_roundw
          case rel => exact ⟨k + 1, by omega, by go_num, HBl6, HU6, HB6⟩
          case measure => simp [intOf]; omega
        · by_cases hp2 : p = 35
          · have hp := hp2
            have hx1 : ((a : Int) == 0) = true := by simp [ha0]
            have hq1 : (p == 92) = false := by simp; omega
            have hq2 : (p == 35) = true := by simp [hp]
            have HX : Hid (bs ++ Lib.strCells ⟨#[92, 35]⟩ = Lib.byteCells (wrT s.data.toList (k + 1))) := hid0 (HWN.out [92, 35] (wrU_2 hp))
            clear HWN HDT HPt hp hp2 ha0
            go_wp2_with (go_at_call 17; refine (writeString_any _ _ bs ⟨#[92, 35]⟩ wB HBlB.out (by have h1 := HLn.out; show _ + 2 ≤ _; omega) hbs).mono ?_; rintro e w6 ⟨rfl, h1, h2, h3⟩; have HU6 := hid0 (HUB.out.kb h3 hgb); have HB6 := hid0 (HBB.out.trans h2); have HBl6 : Hid (Bl w.heap.size w.heap.size (Lib.byteCells (wrT s.data.toList (k + 1))) w6) := hid0 (.inr (by rw [← HX.out]; exact h1)); clear h1 h2 h3)
            go_roundw
            case rel => exact ⟨k + 1, by omega, by go_num, HBl6, HU6, HB6⟩
            case measure => simp [intOf]; omega
          · by_cases hp3 : p = 32
            · have hp := hp3
              have hx1 : ((a : Int) == 0) = true := by simp [ha0]
              have hq1 : (p == 92) = false := by simp; omega
              have hq2 : (p == 35) = false := by simp; omega
              have hq3 : (p == 32) = true := by simp [hp]
              have HX : Hid (bs ++ Lib.strCells ⟨#[92, 115]⟩ = Lib.byteCells (wrT s.data.toList (k + 1))) := hid0 (HWN.out [92, 115] (wrU_3 hp (.inl ha0)))
              clear HWN HDT HPt hp hp3 ha0
              go_wp2_with (go_at_call 17; refine (writeString_any _ _ bs ⟨#[92, 115]⟩ wB HBlB.out (by have h1 := HLn.out; show _ + 2 ≤ _; omega) hbs).mono ?_; rintro e w6 ⟨rfl, h1, h2, h3⟩; have HU6 := hid0 (HUB.out.kb h3 hgb); have HB6 := hid0 (HBB.out.trans h2); have HBl6 : Hid (Bl w.heap.size w.heap.size (Lib.byteCells (wrT s.data.toList (k + 1))) w6) := hid0 (.inr (by rw [← HX.out]; exact h1)); clear h1 h2 h3)
              go_roundw
              case rel => exact ⟨k + 1, by omega, by go_num, HBl6, HU6, HB6⟩
              case measure => simp [intOf]; omega
            · by_cases hp4 : p < 32 ∨ p = 127
              · have hp := hp4
                have hx1 : ((a : Int) == 0) = true := by simp [ha0]
                have hq1 : (p == 92) = false := by simp; omega
                have hq2 : (p == 35) = false := by simp; omega
                have hq3 : (p == 32) = false := by simp; omega
                have hm : ((p.toNat : Nat) : Int) = p := by omega
                have hctl : (decide (p < 32) || (p == 127)) = true := by rcases hp with h | h; simp [h]; simp [h]
                have HCt := hid0 (ctl_any p wB)
                rw [hctl] at HCt
                have hFm := formatInt_any p.toNat (by omega) wB (HDT.out wB HBB.out)
                rw [hm] at hFm
                have HFm := hid0 hFm
                have hhl := hexL_len p.toNat
                have HXs : Hid ((⟨(hexL p.toNat).toArray⟩ : ByteArray).size ≤ 2) := hid0 (by simp only [ByteArray.size, List.size_toArray]; exact hhl)
                have HX : Hid (bs ++ Lib.strCells (⟨#[92, 117, 123]⟩ ++ ⟨(hexL p.toNat).toArray⟩ ++ ⟨#[125]⟩) = Lib.byteCells (wrT s.data.toList (k + 1))) := hid0 (by
                  rw [← HWN.out _ (wrU_4 hp), strCells_app, strCells_app, bytes_app, bytes_app]
                  rfl)
                have HLe : Hid (bs.length + ((⟨#[92, 117, 123]⟩ : ByteArray) ++ ⟨(hexL p.toNat).toArray⟩ ++ ⟨#[125]⟩).size ≤ 140737488355328) := hid0 (by
                  have h1 := HLn.out
                  have h2 := HXs.out
                  have z3 : (⟨#[92, 117, 123]⟩ : ByteArray).size = 3 := rfl
                  have z1 : (⟨#[125]⟩ : ByteArray).size = 1 := rfl
                  rw [ByteArray.size_append, ByteArray.size_append, z3, z1]
                  omega)
                clear HWN HDT HPt hp hctl ha0 hm hFm hhl
                generalize (⟨(hexL p.toNat).toArray⟩ : ByteArray) = H at *
                obtain ⟨Xs, hXs⟩ : ∃ Xs : ByteArray, (⟨#[92, 117, 123]⟩ ++ H ++ ⟨#[125]⟩ : ByteArray) = Xs := ⟨_, rfl⟩
                rw [hXs] at HX HLe
                have hz1 : ¬ 9223372036854775807 < 3 + H.size := by have := HXs.out; omega
                have hz2 : ¬ 9223372036854775807 < 3 + H.size + 1 := by have := HXs.out; omega
                go_wp2_with (first
                  | (go_at_call 56; refine HCt.out.mono ?_; rintro e w2 ⟨rfl, hw2⟩; have hw2' := hw2.symm; subst hw2'; clear hw2)
                  | (go_at_call 57; refine HFm.out.mono ?_; rintro e w3 ⟨rfl, hb3⟩; have HBl3 := hid0 (bl_later HBlB.out hb3); have HU3 := hid0 (HUB.out.later hb3); have HB3 := hid0 (HBB.out.trans (hb3.mono hbs)); clear hb3)
                  | (go_at_call 17; refine (writeString_any _ _ bs Xs w3 HBl3.out HLe.out HB3.out.size).mono ?_; rintro e w6 ⟨rfl, h1, h2, h3⟩; have HU6 := hid0 (HU3.out.kb h3 hgb); have HB6 := hid0 (HB3.out.trans h2); have HBl6 : Hid (Bl w.heap.size w.heap.size (Lib.byteCells (wrT s.data.toList (k + 1))) w6) := hid0 (.inr (by rw [← HX.out]; exact h1)); clear h1 h2 h3)
                  | fail)
                go_roundw
                case rel => exact ⟨k + 1, by omega, by go_num, HBl6, HU6, HB6⟩
                case measure => simp [intOf]; omega
              · have hp : (¬ p = 92) ∧ (¬ p = 35) ∧ (¬ (p = 32 ∧ (a = 0 ∨ b = s.data.toList.length))) ∧ ¬ (p < 32 ∨ p = 127) := ⟨by omega, by omega, by omega, hp4⟩
                have hx1 : ((a : Int) == 0) = true := by simp [ha0]
                have hq1 : (p == 92) = false := by simp; omega
                have hq2 : (p == 35) = false := by simp; omega
                have hq3 : (p == 32) = false := by simp; intro h; exact hp.2.2.1 ⟨h, .inl ha0⟩
                have hctl : (decide (p < 32) || (p == 127)) = false := by have := hp.2.2.2; simp; omega
                have HCt := hid0 (ctl_any p wB)
                rw [hctl] at HCt
                have s0 : (0 : Int) ≤ (a : Int) := by omega
                have s1 : (a : Int) ≤ (b : Int) := by omega
                have s2 : (b : Int) ≤ (s.size : Int) := by omega
                have HX : Hid (bs ++ Lib.strCells (s.extract a b) = Lib.byteCells (wrT s.data.toList (k + 1))) := hid0 (by
                  rw [← HWN.out _ (wrU_5 hp.1 hp.2.1 hp.2.2.1 hp.2.2.2), Lib.strCells_eq, ext_mid])
                have HXs : Hid ((s.extract a b).size ≤ 4) := hid0 (by rw [ByteArray.size_extract]; omega)
                clear HWN HDT HPt hp hctl ha0
                go_wp2_with (first
                  | (go_at_call 56; refine HCt.out.mono ?_; rintro e w2 ⟨rfl, hw2⟩; have hw2' := hw2.symm; subst hw2'; clear hw2)
                  | (go_at_call 17; refine (writeString_any _ _ bs (s.extract a b) wB HBlB.out (by have h1 := HLn.out; have h2 := HXs.out; omega) hbs).mono ?_; rintro e w6 ⟨rfl, h1, h2, h3⟩; have HU6 := hid0 (HUB.out.kb h3 hgb); have HB6 := hid0 (HBB.out.trans h2); have HBl6 : Hid (Bl w.heap.size w.heap.size (Lib.byteCells (wrT s.data.toList (k + 1))) w6) := hid0 (.inr (by rw [← HX.out]; exact h1)); clear h1 h2 h3)
                  | fail)
                go_roundw
                case rel => exact ⟨k + 1, by omega, by go_num, HBl6, HU6, HB6⟩
                case measure => simp [intOf]; omega
      · by_cases hb0 : b = s.size
        · by_cases hp : p = 92
          · have hx1 : ((a : Int) == 0) = false := by simp; omega
            have hx2 : ((b : Int) == (s.size : Int)) = true := by simp; omega
            have hq1 : (p == 92) = true := by simp [hp]
            have HX : Hid (bs ++ Lib.strCells ⟨#[92, 92]⟩ = Lib.byteCells (wrT s.data.toList (k + 1))) := hid0 (HWN.out [92, 92] (wrU_1 hp))
            clear HWN HDT HPt hp hb0
            go_wp2_with (go_at_call 17; refine (writeString_any _ _ bs ⟨#[92, 92]⟩ wB HBlB.out (by have h1 := HLn.out; show _ + 2 ≤ _; omega) hbs).mono ?_; rintro e w6 ⟨rfl, h1, h2, h3⟩; have HU6 := hid0 (HUB.out.kb h3 hgb); have HB6 := hid0 (HBB.out.trans h2); have HBl6 : Hid (Bl w.heap.size w.heap.size (Lib.byteCells (wrT s.data.toList (k + 1))) w6) := hid0 (.inr (by rw [← HX.out]; exact h1)); clear h1 h2 h3)
            go_roundw
            case rel => exact ⟨k + 1, by omega, by go_num, HBl6, HU6, HB6⟩
            case measure => simp [intOf]; omega
          · by_cases hp2 : p = 35
            · have hp := hp2
              have hx1 : ((a : Int) == 0) = false := by simp; omega
              have hx2 : ((b : Int) == (s.size : Int)) = true := by simp; omega
              have hq1 : (p == 92) = false := by simp; omega
              have hq2 : (p == 35) = true := by simp [hp]
              have HX : Hid (bs ++ Lib.strCells ⟨#[92, 35]⟩ = Lib.byteCells (wrT s.data.toList (k + 1))) := hid0 (HWN.out [92, 35] (wrU_2 hp))
              clear HWN HDT HPt hp hp2 hb0
              go_wp2_with (go_at_call 17; refine (writeString_any _ _ bs ⟨#[92, 35]⟩ wB HBlB.out (by have h1 := HLn.out; show _ + 2 ≤ _; omega) hbs).mono ?_; rintro e w6 ⟨rfl, h1, h2, h3⟩; have HU6 := hid0 (HUB.out.kb h3 hgb); have HB6 := hid0 (HBB.out.trans h2); have HBl6 : Hid (Bl w.heap.size w.heap.size (Lib.byteCells (wrT s.data.toList (k + 1))) w6) := hid0 (.inr (by rw [← HX.out]; exact h1)); clear h1 h2 h3)
              go_roundw
              case rel => exact ⟨k + 1, by omega, by go_num, HBl6, HU6, HB6⟩
              case measure => simp [intOf]; omega
            · by_cases hp3 : p = 32
              · have hp := hp3
                have hx1 : ((a : Int) == 0) = false := by simp; omega
                have hx2 : ((b : Int) == (s.size : Int)) = true := by simp; omega
                have hq1 : (p == 92) = false := by simp; omega
                have hq2 : (p == 35) = false := by simp; omega
                have hq3 : (p == 32) = true := by simp [hp]
                have HX : Hid (bs ++ Lib.strCells ⟨#[92, 115]⟩ = Lib.byteCells (wrT s.data.toList (k + 1))) := hid0 (HWN.out [92, 115] (wrU_3 hp (.inr (by rw [HSz.out]; exact hb0))))
                clear HWN HDT HPt hp hp3 hb0
                go_wp2_with (go_at_call 17; refine (writeString_any _ _ bs ⟨#[92, 115]⟩ wB HBlB.out (by have h1 := HLn.out; show _ + 2 ≤ _; omega) hbs).mono ?_; rintro e w6 ⟨rfl, h1, h2, h3⟩; have HU6 := hid0 (HUB.out.kb h3 hgb); have HB6 := hid0 (HBB.out.trans h2); have HBl6 : Hid (Bl w.heap.size w.heap.size (Lib.byteCells (wrT s.data.toList (k + 1))) w6) := hid0 (.inr (by rw [← HX.out]; exact h1)); clear h1 h2 h3)
                go_roundw
                case rel => exact ⟨k + 1, by omega, by go_num, HBl6, HU6, HB6⟩
                case measure => simp [intOf]; omega
              · by_cases hp4 : p < 32 ∨ p = 127
                · have hp := hp4
                  have hx1 : ((a : Int) == 0) = false := by simp; omega
                  have hx2 : ((b : Int) == (s.size : Int)) = true := by simp; omega
                  have hq1 : (p == 92) = false := by simp; omega
                  have hq2 : (p == 35) = false := by simp; omega
                  have hq3 : (p == 32) = false := by simp; omega
                  have hm : ((p.toNat : Nat) : Int) = p := by omega
                  have hctl : (decide (p < 32) || (p == 127)) = true := by rcases hp with h | h; simp [h]; simp [h]
                  have HCt := hid0 (ctl_any p wB)
                  rw [hctl] at HCt
                  have hFm := formatInt_any p.toNat (by omega) wB (HDT.out wB HBB.out)
                  rw [hm] at hFm
                  have HFm := hid0 hFm
                  have hhl := hexL_len p.toNat
                  have HXs : Hid ((⟨(hexL p.toNat).toArray⟩ : ByteArray).size ≤ 2) := hid0 (by simp only [ByteArray.size, List.size_toArray]; exact hhl)
                  have HX : Hid (bs ++ Lib.strCells (⟨#[92, 117, 123]⟩ ++ ⟨(hexL p.toNat).toArray⟩ ++ ⟨#[125]⟩) = Lib.byteCells (wrT s.data.toList (k + 1))) := hid0 (by
                    rw [← HWN.out _ (wrU_4 hp), strCells_app, strCells_app, bytes_app, bytes_app]
                    rfl)
                  have HLe : Hid (bs.length + ((⟨#[92, 117, 123]⟩ : ByteArray) ++ ⟨(hexL p.toNat).toArray⟩ ++ ⟨#[125]⟩).size ≤ 140737488355328) := hid0 (by
                    have h1 := HLn.out
                    have h2 := HXs.out
                    have z3 : (⟨#[92, 117, 123]⟩ : ByteArray).size = 3 := rfl
                    have z1 : (⟨#[125]⟩ : ByteArray).size = 1 := rfl
                    rw [ByteArray.size_append, ByteArray.size_append, z3, z1]
                    omega)
                  clear HWN HDT HPt hp hctl hb0 hm hFm hhl
                  generalize (⟨(hexL p.toNat).toArray⟩ : ByteArray) = H at *
                  obtain ⟨Xs, hXs⟩ : ∃ Xs : ByteArray, (⟨#[92, 117, 123]⟩ ++ H ++ ⟨#[125]⟩ : ByteArray) = Xs := ⟨_, rfl⟩
                  rw [hXs] at HX HLe
                  have hz1 : ¬ 9223372036854775807 < 3 + H.size := by have := HXs.out; omega
                  have hz2 : ¬ 9223372036854775807 < 3 + H.size + 1 := by have := HXs.out; omega
                  go_wp2_with (first
                    | (go_at_call 56; refine HCt.out.mono ?_; rintro e w2 ⟨rfl, hw2⟩; have hw2' := hw2.symm; subst hw2'; clear hw2)
                    | (go_at_call 57; refine HFm.out.mono ?_; rintro e w3 ⟨rfl, hb3⟩; have HBl3 := hid0 (bl_later HBlB.out hb3); have HU3 := hid0 (HUB.out.later hb3); have HB3 := hid0 (HBB.out.trans (hb3.mono hbs)); clear hb3)
                    | (go_at_call 17; refine (writeString_any _ _ bs Xs w3 HBl3.out HLe.out HB3.out.size).mono ?_; rintro e w6 ⟨rfl, h1, h2, h3⟩; have HU6 := hid0 (HU3.out.kb h3 hgb); have HB6 := hid0 (HB3.out.trans h2); have HBl6 : Hid (Bl w.heap.size w.heap.size (Lib.byteCells (wrT s.data.toList (k + 1))) w6) := hid0 (.inr (by rw [← HX.out]; exact h1)); clear h1 h2 h3)
                    | fail)
                  go_roundw
                  case rel => exact ⟨k + 1, by omega, by go_num, HBl6, HU6, HB6⟩
                  case measure => simp [intOf]; omega
                · have hp : (¬ p = 92) ∧ (¬ p = 35) ∧ (¬ (p = 32 ∧ (a = 0 ∨ b = s.data.toList.length))) ∧ ¬ (p < 32 ∨ p = 127) := ⟨by omega, by omega, by omega, hp4⟩
                  have hx1 : ((a : Int) == 0) = false := by simp; omega
                  have hx2 : ((b : Int) == (s.size : Int)) = true := by simp; omega
                  have hq1 : (p == 92) = false := by simp; omega
                  have hq2 : (p == 35) = false := by simp; omega
                  have hq3 : (p == 32) = false := by simp; intro h; exact hp.2.2.1 ⟨h, .inr (by rw [HSz.out]; exact hb0)⟩
                  have hctl : (decide (p < 32) || (p == 127)) = false := by have := hp.2.2.2; simp; omega
                  have HCt := hid0 (ctl_any p wB)
                  rw [hctl] at HCt
                  have s0 : (0 : Int) ≤ (a : Int) := by omega
                  have s1 : (a : Int) ≤ (b : Int) := by omega
                  have s2 : (b : Int) ≤ (s.size : Int) := by omega
                  have HX : Hid (bs ++ Lib.strCells (s.extract a b) = Lib.byteCells (wrT s.data.toList (k + 1))) := hid0 (by
                    rw [← HWN.out _ (wrU_5 hp.1 hp.2.1 hp.2.2.1 hp.2.2.2), Lib.strCells_eq, ext_mid])
                  have HXs : Hid ((s.extract a b).size ≤ 4) := hid0 (by rw [ByteArray.size_extract]; omega)
                  clear HWN HDT HPt hp hctl hb0
                  go_wp2_with (first
                    | (go_at_call 56; refine HCt.out.mono ?_; rintro e w2 ⟨rfl, hw2⟩; have hw2' := hw2.symm; subst hw2'; clear hw2)
                    | (go_at_call 17; refine (writeString_any _ _ bs (s.extract a b) wB HBlB.out (by have h1 := HLn.out; have h2 := HXs.out; omega) hbs).mono ?_; rintro e w6 ⟨rfl, h1, h2, h3⟩; have HU6 := hid0 (HUB.out.kb h3 hgb); have HB6 := hid0 (HBB.out.trans h2); have HBl6 : Hid (Bl w.heap.size w.heap.size (Lib.byteCells (wrT s.data.toList (k + 1))) w6) := hid0 (.inr (by rw [← HX.out]; exact h1)); clear h1 h2 h3)
                    | fail)
                  go_roundw
                  case rel => exact ⟨k + 1, by omega, by go_num, HBl6, HU6, HB6⟩
                  case measure => simp [intOf]; omega
        · by_cases hp : p = 92
          · have hx1 : ((a : Int) == 0) = false := by simp; omega
            have hx2 : ((b : Int) == (s.size : Int)) = false := by simp; omega
            have hq1 : (p == 92) = true := by simp [hp]
            have HX : Hid (bs ++ Lib.strCells ⟨#[92, 92]⟩ = Lib.byteCells (wrT s.data.toList (k + 1))) := hid0 (HWN.out [92, 92] (wrU_1 hp))
            clear HWN HDT HPt hp
            go_wp2_with (go_at_call 17; refine (writeString_any _ _ bs ⟨#[92, 92]⟩ wB HBlB.out (by have h1 := HLn.out; show _ + 2 ≤ _; omega) hbs).mono ?_; rintro e w6 ⟨rfl, h1, h2, h3⟩; have HU6 := hid0 (HUB.out.kb h3 hgb); have HB6 := hid0 (HBB.out.trans h2); have HBl6 : Hid (Bl w.heap.size w.heap.size (Lib.byteCells (wrT s.data.toList (k + 1))) w6) := hid0 (.inr (by rw [← HX.out]; exact h1)); clear h1 h2 h3)
            go_roundw
            case rel => exact ⟨k + 1, by omega, by go_num, HBl6, HU6, HB6⟩
            case measure => simp [intOf]; omega
          · by_cases hp2 : p = 35
            · have hp := hp2
              have hx1 : ((a : Int) == 0) = false := by simp; omega
              have hx2 : ((b : Int) == (s.size : Int)) = false := by simp; omega
              have hq1 : (p == 92) = false := by simp; omega
              have hq2 : (p == 35) = true := by simp [hp]
              have HX : Hid (bs ++ Lib.strCells ⟨#[92, 35]⟩ = Lib.byteCells (wrT s.data.toList (k + 1))) := hid0 (HWN.out [92, 35] (wrU_2 hp))
              clear HWN HDT HPt hp hp2
              go_wp2_with (go_at_call 17; refine (writeString_any _ _ bs ⟨#[92, 35]⟩ wB HBlB.out (by have h1 := HLn.out; show _ + 2 ≤ _; omega) hbs).mono ?_; rintro e w6 ⟨rfl, h1, h2, h3⟩; have HU6 := hid0 (HUB.out.kb h3 hgb); have HB6 := hid0 (HBB.out.trans h2); have HBl6 : Hid (Bl w.heap.size w.heap.size (Lib.byteCells (wrT s.data.toList (k + 1))) w6) := hid0 (.inr (by rw [← HX.out]; exact h1)); clear h1 h2 h3)
              go_roundw
              case rel => exact ⟨k + 1, by omega, by go_num, HBl6, HU6, HB6⟩
              case measure => simp [intOf]; omega
            · by_cases hp4 : p < 32 ∨ p = 127
              · have hp := hp4
                have hx1 : ((a : Int) == 0) = false := by simp; omega
                have hx2 : ((b : Int) == (s.size : Int)) = false := by simp; omega
                have hq1 : (p == 92) = false := by simp; omega
                have hq2 : (p == 35) = false := by simp; omega
                have hq3 : (p == 32) = false := by simp; omega
                have hm : ((p.toNat : Nat) : Int) = p := by omega
                have hctl : (decide (p < 32) || (p == 127)) = true := by rcases hp with h | h; simp [h]; simp [h]
                have HCt := hid0 (ctl_any p wB)
                rw [hctl] at HCt
                have hFm := formatInt_any p.toNat (by omega) wB (HDT.out wB HBB.out)
                rw [hm] at hFm
                have HFm := hid0 hFm
                have hhl := hexL_len p.toNat
                have HXs : Hid ((⟨(hexL p.toNat).toArray⟩ : ByteArray).size ≤ 2) := hid0 (by simp only [ByteArray.size, List.size_toArray]; exact hhl)
                have HX : Hid (bs ++ Lib.strCells (⟨#[92, 117, 123]⟩ ++ ⟨(hexL p.toNat).toArray⟩ ++ ⟨#[125]⟩) = Lib.byteCells (wrT s.data.toList (k + 1))) := hid0 (by
                  rw [← HWN.out _ (wrU_4 hp), strCells_app, strCells_app, bytes_app, bytes_app]
                  rfl)
                have HLe : Hid (bs.length + ((⟨#[92, 117, 123]⟩ : ByteArray) ++ ⟨(hexL p.toNat).toArray⟩ ++ ⟨#[125]⟩).size ≤ 140737488355328) := hid0 (by
                  have h1 := HLn.out
                  have h2 := HXs.out
                  have z3 : (⟨#[92, 117, 123]⟩ : ByteArray).size = 3 := rfl
                  have z1 : (⟨#[125]⟩ : ByteArray).size = 1 := rfl
                  rw [ByteArray.size_append, ByteArray.size_append, z3, z1]
                  omega)
                clear HWN HDT HPt hp hctl hm hFm hhl
                generalize (⟨(hexL p.toNat).toArray⟩ : ByteArray) = H at *
                obtain ⟨Xs, hXs⟩ : ∃ Xs : ByteArray, (⟨#[92, 117, 123]⟩ ++ H ++ ⟨#[125]⟩ : ByteArray) = Xs := ⟨_, rfl⟩
                rw [hXs] at HX HLe
                have hz1 : ¬ 9223372036854775807 < 3 + H.size := by have := HXs.out; omega
                have hz2 : ¬ 9223372036854775807 < 3 + H.size + 1 := by have := HXs.out; omega
                go_wp2_with (first
                  | (go_at_call 56; refine HCt.out.mono ?_; rintro e w2 ⟨rfl, hw2⟩; have hw2' := hw2.symm; subst hw2'; clear hw2)
                  | (go_at_call 57; refine HFm.out.mono ?_; rintro e w3 ⟨rfl, hb3⟩; have HBl3 := hid0 (bl_later HBlB.out hb3); have HU3 := hid0 (HUB.out.later hb3); have HB3 := hid0 (HBB.out.trans (hb3.mono hbs)); clear hb3)
                  | (go_at_call 17; refine (writeString_any _ _ bs Xs w3 HBl3.out HLe.out HB3.out.size).mono ?_; rintro e w6 ⟨rfl, h1, h2, h3⟩; have HU6 := hid0 (HU3.out.kb h3 hgb); have HB6 := hid0 (HB3.out.trans h2); have HBl6 : Hid (Bl w.heap.size w.heap.size (Lib.byteCells (wrT s.data.toList (k + 1))) w6) := hid0 (.inr (by rw [← HX.out]; exact h1)); clear h1 h2 h3)
                  | fail)
                go_roundw
                case rel => exact ⟨k + 1, by omega, by go_num, HBl6, HU6, HB6⟩
                case measure => simp [intOf]; omega
              · have hp : (¬ p = 92) ∧ (¬ p = 35) ∧ (¬ (p = 32 ∧ (a = 0 ∨ b = s.data.toList.length))) ∧ ¬ (p < 32 ∨ p = 127) := ⟨by omega, by omega, by have := HSz.out; omega, hp4⟩
                have hx1 : ((a : Int) == 0) = false := by simp; omega
                have hx2 : ((b : Int) == (s.size : Int)) = false := by simp; omega
                have hq1 : (p == 92) = false := by simp; omega
                have hq2 : (p == 35) = false := by simp; omega
                obtain ⟨q3, hq3⟩ : ∃ q3, (p == 32) = q3 := ⟨_, rfl⟩
                have hctl : (decide (p < 32) || (p == 127)) = false := by have := hp.2.2.2; simp; omega
                have HCt := hid0 (ctl_any p wB)
                rw [hctl] at HCt
                have s0 : (0 : Int) ≤ (a : Int) := by omega
                have s1 : (a : Int) ≤ (b : Int) := by omega
                have s2 : (b : Int) ≤ (s.size : Int) := by omega
                have HX : Hid (bs ++ Lib.strCells (s.extract a b) = Lib.byteCells (wrT s.data.toList (k + 1))) := hid0 (by
                  rw [← HWN.out _ (wrU_5 hp.1 hp.2.1 hp.2.2.1 hp.2.2.2), Lib.strCells_eq, ext_mid])
                have HXs : Hid ((s.extract a b).size ≤ 4) := hid0 (by rw [ByteArray.size_extract]; omega)
                clear HWN HDT HPt hp hctl
                cases q3
                · go_wp2_with (first
                    | (go_at_call 56; refine HCt.out.mono ?_; rintro e w2 ⟨rfl, hw2⟩; have hw2' := hw2.symm; subst hw2'; clear hw2)
                    | (go_at_call 17; refine (writeString_any _ _ bs (s.extract a b) wB HBlB.out (by have h1 := HLn.out; have h2 := HXs.out; omega) hbs).mono ?_; rintro e w6 ⟨rfl, h1, h2, h3⟩; have HU6 := hid0 (HUB.out.kb h3 hgb); have HB6 := hid0 (HBB.out.trans h2); have HBl6 : Hid (Bl w.heap.size w.heap.size (Lib.byteCells (wrT s.data.toList (k + 1))) w6) := hid0 (.inr (by rw [← HX.out]; exact h1)); clear h1 h2 h3)
                    | fail)
                  go_roundw
                  case rel => exact ⟨k + 1, by omega, by go_num, HBl6, HU6, HB6⟩
                  case measure => simp [intOf]; omega
                · go_wp2_with (first
                    | (go_at_call 56; refine HCt.out.mono ?_; rintro e w2 ⟨rfl, hw2⟩; have hw2' := hw2.symm; subst hw2'; clear hw2)
                    | (go_at_call 17; refine (writeString_any _ _ bs (s.extract a b) wB HBlB.out (by have h1 := HLn.out; have h2 := HXs.out; omega) hbs).mono ?_; rintro e w6 ⟨rfl, h1, h2, h3⟩; have HU6 := hid0 (HUB.out.kb h3 hgb); have HB6 := hid0 (HBB.out.trans h2); have HBl6 : Hid (Bl w.heap.size w.heap.size (Lib.byteCells (wrT s.data.toList (k + 1))) w6) := hid0 (.inr (by rw [← HX.out]; exact h1)); clear h1 h2 h3)
                    | fail)
                  go_roundw
                  case rel => exact ⟨k + 1, by omega, by go_num, HBl6, HU6, HB6⟩
                  case measure => simp [intOf]; omega
    · have hkI : ¬ (k : Int) < (n : Int) := by omega
      have HS := hid0 (Any.Builder_String_any_k Tryz.lays169 ext169 w.heap.size w.heap.size (wrT s.data.toList k) wr (Lib.IsBuilderF.of HBl.out) HBr.out.size)
      have HE : Hid (wrT s.data.toList k = wrE s.data.toList) := hid0 (by unfold wrT wrE; rw [List.take_of_length_le (by rw [← Hn.out]; omega)])
      rw [HE.out] at HS
      have HS2 : Hid (Calls Tryz.prog 20 #[.pointer (some ⟨w.heap.size, 0, none⟩)] wr fun e w' => e = .returned (.string Y) ∧ Below w.heap.size wr w') := hid0 (by rw [HY.out]; exact HS.out.mono (fun e w' h => ⟨h.1, h.2.2.1⟩))
      clear HS HBl
      go_wp2_with (go_at_call 20; refine HS2.out.mono ?_; rintro e w7 ⟨rfl, hb7⟩)
      go_ret
      exact ⟨rfl, HBr.out.trans hb7⟩
end Go.Proofs.YtlfeiadgahdgoaaGreatDoor
