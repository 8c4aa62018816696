/-
  MlSM, MlSW, MlTM, MlTW, MlUW, MjNM, MjIM, MjEW, MjFM, MjHW.
-/
import Derived.Test.YtjmmckkiicefhaaDoorMgc
import Derived.BigRegion
import Derived.Test.YtjmmckkiicefhaaDoorMga
import Derived.Test.YtjmmckkiicefhaaDoorMgb
import Derived.Laws.MakeOwn
namespace Go.Proofs.YtjmmckkiicefhaaDoor
open Go.RowKit Go.Shelf
/-- What holds other things than numbers stays. -/
def Lsts (W W' : World) : Prop := ∀ (g : Nat) (cs : Array Value) (t : TypeId), t ≠ 3 → W.heap[g]? = some (.cells cs t (0, 0)) → W'.heap[g]? = W.heap[g]?
theorem Lsts.refl (W : World) : Lsts W W := fun _ _ _ _ _ => rfl
theorem Lsts.trans {W W' W2 : World} (h : Lsts W W') (h2 : Lsts W' W2) : Lsts W W2 := fun g cs t ht e =>
  (h2 g cs t ht ((h g cs t ht e).trans e)).trans (h g cs t ht e)
theorem Lsts.alloc (W : World) (o : Obj) : Lsts W (W.alloc o) := fun _ _ _ _ e =>
  Below.heap_alloc W _ _ (Array.getElem?_eq_some_iff.1 e).1
theorem Lsts.store {W : World} {g k : Nat} {cs0 : Array Value} (v : Value) (h : W.heap[g]? = some (.cells cs0 3 (0, 0))) : Lsts W (W.setCell ⟨g, k, none⟩ v) := fun g' _ _ ht e =>
  Below.heap_setCell _ _ _ _ (fun q => by
    have q2 : g' = g := q
    subst q2
    rw [h] at e
    simp only [Option.some.injEq, Obj.cells.injEq] at e
    exact ht e.2.1.symm)
theorem Lsts.grown {W w1 : World} {base : Nat} {s m : Nat} {u : Value} {xs : List Value} (hu : W.ownsRow base 3 s u m xs) (hg : W.grownBy w1 u.ownBlock) : Lsts W w1 := fun g _ _ ht e => by
  refine hg.block g (Array.getElem?_eq_some_iff.1 e).1 (fun q => ?_)
  obtain ⟨c2, e2⟩ := own_typ hu q.symm
  rw [e2] at e
  simp only [Option.some.injEq, Obj.cells.injEq] at e
  exact ht e.2.1.symm
theorem Lsts.own {W W' : World} {base : Nat} {t : TypeId} {s m : Nat} {u : Value} {xs : List Value} (h : Lsts W W') (ht : t ≠ 3) (hu : W.ownsRow base t s u m xs) : W'.ownsRow base t s u m xs := own_blk hu (fun k hk => by
  obtain ⟨c2, e2⟩ := own_typ hu hk
  exact h k c2 t ht e2)
section
variable (N : Nat) (cs : Array Value) (base G : Nat) (a : Nat → Option Addr) (n c : Nat → Nat)
/-- What stays. -/
structure Stn : Prop where
  cs : ∀ j, j < N → cs[j]? = some (vZ a n c j)
  apart : ∀ j j', j < N → j' < N → j ≠ j' → ∀ g, (vZ a n c j).ownBlock = some g → (vZ a n c j').ownBlock ≠ some g
  nb : ∀ j, j < N → n j ≤ 5000000
  plain : ∀ j, j < N → a j = none ∨ ∃ g, a j = some ⟨g, 0, none⟩
  zero : ∀ j, j < N → ∀ b off, a j = some ⟨b, off, none⟩ → off = 0 ∧ b ≠ G ∧ base ≤ b
/-- While they are written over. -/
structure Sn1 (w0 wS W : World) (i k : Nat) : Prop where
  out : W.heap[G]? = some (.cells cs 25 (0, 0))
  own : ∀ j, j < N → ∃ L : List Int, L.length = n j ∧ OwnI W base (vZ a n c j) L ∧ (j < i → ∀ z ∈ L, z = mkZ j) ∧ (j = i → ∀ m (h : m < L.length), m < k → L[m] = mkZ j)
  bel : Below base w0 W
  kp : Lsts wS W
  szS : wS.heap.size ≤ W.heap.size
/-- So many are grown. -/
structure Sn2 (w0 wS W : World) (i : Nat) (vm : Value) (M : List Value) : Prop where
  out : W.heap[G]? = some (.cells cs 25 (0, 0))
  read : ∀ j, j < N → Rdz W (a j) (List.replicate (n j) (mkZ j)) vm
  own : ∀ j, i ≤ j → j < N → OwnI W base (vZ a n c j) (List.replicate (n j) (mkZ j))
  mo : W.ownsRow base 25 1 vm M.length M
  len : M.length = i
  mor : ∀ j, j < i → ∃ am cm, M[j]? = some (.slice am (n j + 64) cm) ∧ Rdz W am (List.replicate (n j + 64) (mkZ j)) vm ∧ ∀ b off, am = some ⟨b, off, none⟩ → ∀ j', i ≤ j' → j' < N → (vZ a n c j').ownBlock ≠ some b
  vmG : vm.ownBlock ≠ some G
  bel : Below base w0 W
  big : base ≤ W.heap.size
  kp : Lsts wS W
  szS : wS.heap.size ≤ W.heap.size
  vmN : ∀ g, vm.ownBlock = some g → wS.heap.size ≤ g
/-- One while it grows. -/
structure Sn3 (w0 wS W : World) (i k : Nat) (lv vm : Value) (M : List Value) : Prop where
  out : W.heap[G]? = some (.cells cs 25 (0, 0))
  read : ∀ j, j < N → Rdz W (a j) (List.replicate (n j) (mkZ j)) vm
  own : ∀ j, i + 1 ≤ j → j < N → OwnI W base (vZ a n c j) (List.replicate (n j) (mkZ j))
  lo : OwnI W base lv (List.replicate (n i + k) (mkZ i))
  lva : ∀ j, j ≠ i → j < N → ∀ g, lv.ownBlock = some g → (vZ a n c j).ownBlock ≠ some g
  mo : W.ownsRow base 25 1 vm M.length M
  len : M.length = i
  mor : ∀ j, j < i → ∃ am cm, M[j]? = some (.slice am (n j + 64) cm) ∧ Rdz W am (List.replicate (n j + 64) (mkZ j)) vm ∧ ∀ b off, am = some ⟨b, off, none⟩ → lv.ownBlock ≠ some b ∧ ∀ j', i + 1 ≤ j' → j' < N → (vZ a n c j').ownBlock ≠ some b
  vmG : vm.ownBlock ≠ some G
  bel : Below base w0 W
  big : base ≤ W.heap.size
  kp : Lsts wS W
  szS : wS.heap.size ≤ W.heap.size
  vmN : ∀ g, vm.ownBlock = some g → wS.heap.size ≤ g
end
section
variable {N : Nat} {cs : Array Value} {base G : Nat} {a : Nat → Option Addr} {n c : Nat → Nat} {w0 wS W : World} {i k : Nat}
theorem outN (h : W.heap[G]? = some (.cells cs 25 (0, 0))) (hs : Stn N cs base G a n c) {j : Nat} (hj : j < N) : W.cell? ⟨G, j, none⟩ = some (.slice (a j) (n j) (c j)) := by
  rw [cell_of_row _ _ _ _ _ _ h]
  exact hs.cs j hj
theorem Sn1.put (h : Sn1 N cs base G a n c w0 wS W i k) (hs : Stn N cs base G a n c) (hi : i < N) (hk : k < n i) : ∃ g, a i = some ⟨g, 0, none⟩ ∧ (∃ z, W.cell? ⟨g, k, none⟩ = some (.int .i64 z)) ∧ W.frozen? ⟨g, k, none⟩ = false ∧ Sn1 N cs base G a n c w0 wS (W.setCell ⟨g, k, none⟩ (.int .i64 (mkZ i))) i (k + 1) := by
  obtain ⟨L, hl, ho, _, hp⟩ := h.own i hi
  obtain ⟨g, cap, e, hg, hg2, _⟩ := own_form ho (by omega)
  simp only [vZ, Value.slice.injEq] at e
  have ea := e.1
  have hvo : (vZ a n c i).ownBlock = some g := by unfold vZ; rw [ea]; rfl
  have hgG : g ≠ G := (hs.zero i hi g 0 ea).2.1
  have ho2 : W.ownsRow base 3 1 (.slice (some ⟨g, 0, none⟩) (n i) (c i)) (n i) (L.map (Value.int .i64)) := by
    have h1 := ho
    unfold OwnI vZ at h1
    rw [ea, hl] at h1
    exact h1
  refine ⟨g, ea, ⟨_, by rw [World.ownsRow.cellAt ho2 k (by omega), List.getElem?_map, List.getElem?_eq_getElem (by omega)]; rfl⟩, World.ownsRow.frozenAt ho2 k, ?_, ?_, h.bel.setCell (p := ⟨g, k, none⟩) hg _, h.kp.trans (by
    obtain ⟨c0, hc0⟩ := own_typ ho hvo
    exact Lsts.store _ hc0), by have := h.szS; simpa [World.setCell] using this⟩
  · exact (Below.heap_setCell _ _ _ _ (fun q => hgG q.symm)).trans h.out
  · intro j hj
    by_cases hji : j = i
    · subst hji
      refine ⟨L.set k (mkZ j), by simpa using hl, ?_, fun q => absurd q (Nat.lt_irrefl _), fun _ m hm hmk => ?_⟩
      · have h1 := (World.ownsRow.stored ho2 k (.int .i64 (mkZ j))).1
        unfold OwnI vZ
        rw [ea, List.length_set, hl, List.map_set]
        exact h1
      · rw [List.getElem_set]
        split
        · rfl
        · exact hp rfl m (by simpa using hm) (by omega)
    · obtain ⟨L', hl', ho', h1, h2⟩ := h.own j hj
      exact ⟨L', hl', own_blk ho' (fun q hq => Below.heap_setCell _ _ _ _ (fun e => hs.apart j i hj hi hji q hq (by rw [hvo]; exact congrArg some e.symm))), h1, fun e => absurd e hji⟩
theorem Sn1.next (h : Sn1 N cs base G a n c w0 wS W i k) (hk : i < N → n i ≤ k) : Sn1 N cs base G a n c w0 wS W (i + 1) 0 := by
  refine ⟨h.out, fun j hj => ?_, h.bel, h.kp, h.szS⟩
  obtain ⟨L, hl, ho, h1, h2⟩ := h.own j hj
  refine ⟨L, hl, ho, fun hji z hz => ?_, fun _ m _ hm => absurd hm (Nat.not_lt_zero _)⟩
  by_cases e : j = i
  · obtain ⟨m, hm, rfl⟩ := List.getElem_of_mem hz
    exact h2 e m hm (by have := hk (by omega); subst e; omega)
  · exact h1 (by omega) z hz
theorem Sn1.two (h : Sn1 N cs base G a n c w0 wS W N k) (hs : Stn N cs base G a n c) (hb : base ≤ W.heap.size) : Sn2 N cs base G a n c w0 wS W 0 (.slice none 0 0) [] := by
  have key : ∀ j, j < N → OwnI W base (vZ a n c j) (List.replicate (n j) (mkZ j)) := fun j hj => by
    obtain ⟨L, hl, ho, h1, _⟩ := h.own j hj
    have e : L = List.replicate (n j) (mkZ j) := List.eq_replicate_iff.2 ⟨hl, h1 hj⟩
    rw [← e]
    exact ho
  refine ⟨h.out, fun j hj => ⟨?_, fun b off e => ?_⟩, fun j _ hj => key j hj, World.ownsRow_nil _ _ _ _, rfl, fun j hj => absurd hj (Nat.not_lt_zero _), fun q => (by cases q), h.bel, hb, h.kp, h.szS, fun g q => (by cases q)⟩
  · obtain ⟨x, cx, e, hi⟩ := (key j hj).ia
    simp only [vZ, Value.slice.injEq] at e
    rw [e.1]
    exact hi
  · have h1 := hs.zero j hj b off e
    have h2 : (vZ a n c j).ownBlock = some b := by unfold vZ; rw [e]; rfl
    exact ⟨h1.1, (World.ownsRow.lt (key j hj) b h2).2, fun q => (by cases q)⟩
theorem Sn2.start {vm : Value} {M : List Value} (h : Sn2 N cs base G a n c w0 wS W i vm M) (hs : Stn N cs base G a n c) (hi : i < N) : Sn3 N cs base G a n c w0 wS W i 0 (vZ a n c i) vm M :=
  ⟨h.out, h.read, fun j hj => h.own j (by omega), h.own i (Nat.le_refl _) hi, fun j hj h2 g hg => hs.apart i j hi h2 (fun e => hj e.symm) g hg, h.mo, h.len, fun j hj => by
    obtain ⟨am, cm, h1, h2, h3⟩ := h.mor j hj
    exact ⟨am, cm, h1, h2, fun b off e => ⟨h3 b off e i (Nat.le_refl _) hi, fun j' hj' => h3 b off e j' (by omega)⟩⟩, h.vmG, h.bel, h.big, h.kp, h.szS, h.vmN⟩
/-- One mark more. -/
theorem Sn3.step {w1 : World} {lv lv' vm : Value} {M : List Value} {o : Obj} (h : Sn3 N cs base G a n c w0 wS W i k lv vm M) (hi : i < N) (hs : Stn N cs base G a n c)
    (hown' : w1.ownsRow base 3 1 lv' (n i + k + 1) ((List.replicate (n i + k) (mkZ i)).map (Value.int .i64) ++ [.int .i64 (mkZ i)])) (hgrow : (W.alloc o).grownBy w1 lv.ownBlock) (hat : lv'.ownBlock = lv.ownBlock ∨ lv'.ownBlock = some (W.alloc o).heap.size)
    (hfr : ∀ g j u, lv.ownBlock = some g → j < (n i + k) * 1 → (W.alloc o).cell? ⟨g, j, none⟩ = some u → w1.cell? ⟨g, j, none⟩ = some u) : Sn3 N cs base G a n c w0 wS w1 i (k + 1) lv' vm M := by
  have hsz : (W.alloc o).heap.size = W.heap.size + 1 := by simp
  have hs1 := hgrow.size
  have hbig := h.big
  have hGs : G < W.heap.size := (Array.getElem?_eq_some_iff.1 h.out).1
  have hlvG : lv.ownBlock ≠ some G := fun q => by
    obtain ⟨cs, e⟩ := own_typ h.lo q
    rw [h.out] at e
    cases e
  have new : ∀ b, b < W.heap.size → lv.ownBlock ≠ some b → lv'.ownBlock ≠ some b := fun b hb hne q => by
    rcases hat with e | e
    · exact hne (by rw [← e]; exact q)
    · rw [e, hsz] at q
      have := Option.some.inj q
      omega
  have keep : ∀ {t : TypeId} {s m : Nat} {u : Value} {xs : List Value}, W.ownsRow base t s u m xs → (∀ g, lv.ownBlock = some g → u.ownBlock ≠ some g) → w1.ownsRow base t s u m xs := fun {t s m u xs} hu hne => by
    refine World.ownsRow.kept (World.ownsRow.alloc hu o) hgrow ?_
    cases e : u.ownBlock with
    | none => exact .inl rfl
    | some g => exact .inr fun hc => hne g hc.symm e
  refine ⟨?_, ?_, ?_, ?_, ?_, ?_, h.len, ?_, h.vmG, ?_, by omega, h.kp.trans ((Lsts.alloc W o).trans (Lsts.grown (World.ownsRow.alloc h.lo o) hgrow)), by have := h.szS; omega, h.vmN⟩
  · exact ((hgrow.block G (by omega) (fun q => hlvG q.symm)).trans (Below.heap_alloc W _ _ hGs)).trans h.out
  · intro j hj
    refine (h.read j hj).grown hgrow (nn := n i + k) (fun g q u h1 h2 h3 => hfr g q u h1 (by omega) h3) (fun b off e hb => ?_)
    by_cases hji : j = i
    · subst hji; rw [List.length_replicate]; omega
    · exact absurd (show (vZ a n c j).ownBlock = some b by unfold vZ; rw [e]; rfl) (h.lva j hji hj b hb)
  · intro j hj hj2
    exact keep (h.own j hj hj2) (fun g hg => h.lva j (by omega) hj2 g hg)
  · unfold OwnI
    rw [show n i + (k + 1) = n i + k + 1 by omega, List.replicate_succ', List.length_append, List.length_replicate, List.length_singleton, List.map_append]
    exact hown'
  · intro j hji hj g hg hvg
    have hlt : g < W.heap.size := by
      rcases hs.plain j hj with e | ⟨b, e⟩
      · unfold vZ at hvg; rw [e] at hvg; cases hvg
      · unfold vZ at hvg
        rw [e] at hvg
        obtain rfl : b = g := by simpa [Value.ownBlock] using hvg
        exact ((h.read j hj).at' b 0 e).2.1
    exact new g hlt (fun q => h.lva j hji hj g q hvg) hg
  · exact keep h.mo (fun g hg hvg => own_unlike h.lo h.mo (by decide) g hg hvg)
  · intro j hj
    obtain ⟨am, cm, h1, h2, h3⟩ := h.mor j hj
    refine ⟨am, cm, h1, h2.grown hgrow (nn := n i + k) (fun g q u h1 h2 h3 => hfr g q u h1 (by omega) h3) (fun b off e hb => absurd hb (h3 b off e).1), fun b off e => ⟨new b (h2.at' b off e).2.1 (h3 b off e).1, (h3 b off e).2⟩⟩
  · exact (h.bel.alloc (by omega) o).grown hgrow (by omega) (fun q hq => (World.ownsRow.lt h.lo q hq).1)
/-- It is put behind the others. -/
theorem Sn3.done {w1 : World} {vm vm' : Value} {M : List Value} {o : Obj} {x : Option Addr} {cx : Nat} (h : Sn3 N cs base G a n c w0 wS W i 64 (.slice x (n i + 64) cx) vm M) (hi : i < N)
    (hown' : w1.ownsRow base 25 1 vm' (i + 1) (M ++ [.slice x (n i + 64) cx])) (hgrow : (W.alloc o).grownBy w1 vm.ownBlock) (hat : vm'.ownBlock = vm.ownBlock ∨ vm'.ownBlock = some (W.alloc o).heap.size) : Sn2 N cs base G a n c w0 wS w1 (i + 1) vm' (M ++ [.slice x (n i + 64) cx]) := by
  have hsz : (W.alloc o).heap.size = W.heap.size + 1 := by simp
  have hs1 := hgrow.size
  have hbig := h.big
  have hGs : G < W.heap.size := (Array.getElem?_eq_some_iff.1 h.out).1
  have new : ∀ b, b < W.heap.size → vm.ownBlock ≠ some b → vm'.ownBlock ≠ some b := fun b hb hne q => by
    rcases hat with e | e
    · exact hne (by rw [← e]; exact q)
    · rw [e, hsz] at q
      have := Option.some.inj q
      omega
  have keep : ∀ {u : Value} {m : Nat} {xs : List Value}, W.ownsRow base 3 1 u m xs → w1.ownsRow base 3 1 u m xs := fun {u m xs} hu => by
    refine World.ownsRow.kept (World.ownsRow.alloc hu o) hgrow ?_
    cases e : u.ownBlock with
    | none => exact .inl rfl
    | some g => exact .inr fun hc => own_unlike h.mo hu (by decide) g hc.symm e
  have rd : ∀ {y : Option Addr} {L : List Int}, Rdz W y L vm → Rdz w1 y L vm' := fun {y L} hr => by
    have h1 := hr.grown (nn := 0) hgrow (fun g j u _ hj => absurd hj (Nat.not_lt_zero _)) (fun b off e hb => absurd hb (hr.at' b off e).2.2)
    exact ⟨h1.ia, fun b off e => ⟨(h1.at' b off e).1, (h1.at' b off e).2.1, new b (hr.at' b off e).2.1 (hr.at' b off e).2.2⟩⟩
  refine ⟨?_, fun j hj => rd (h.read j hj), fun j hj hj2 => keep (h.own j hj hj2), by rw [List.length_append, List.length_singleton, h.len]; exact hown', by rw [List.length_append, List.length_singleton, h.len], fun j hj => ?_, new G hGs h.vmG, ?_, by omega, fun k0 c0 t0 ht0 e0 => by
    have hk0 := (Array.getElem?_eq_some_iff.1 e0).1
    have hz0 := h.szS
    exact ((hgrow.block k0 (by omega) (fun q => by have := h.vmN k0 q.symm; omega)).trans (Below.heap_alloc W _ _ (by omega))).trans (h.kp k0 c0 t0 ht0 e0), by have := h.szS; omega, fun g q => by
    rcases hat with e | e
    · exact h.vmN g (by rw [← e]; exact q)
    · rw [e, hsz] at q
      have := Option.some.inj q
      have := h.szS
      omega⟩
  · exact ((hgrow.block G (by omega) (fun q => h.vmG q.symm)).trans (Below.heap_alloc W _ _ hGs)).trans h.out
  · by_cases hji : j = i
    · subst hji
      obtain ⟨y, cy, e, hia⟩ := h.lo.ia
      rw [List.length_replicate] at e
      cases e
      refine ⟨x, cx, ?_, rd ⟨hia, fun b off e => ?_⟩, fun b off e j' h1 h2 => ?_⟩
      · rw [List.getElem?_append_right (by rw [h.len]; exact Nat.le_refl _), h.len, Nat.sub_self]; rfl
      · obtain ⟨g, cap, e2, _, h4, _⟩ := own_form h.lo (by rw [List.length_replicate]; omega)
        simp only [Value.slice.injEq] at e2
        rw [e] at e2
        simp only [Option.some.injEq, Addr.mk.injEq, and_true] at e2
        obtain ⟨⟨rfl, rfl⟩, _⟩ := e2
        exact ⟨rfl, h4, fun q => own_unlike h.mo h.lo (by decide) b q (by rw [e]; rfl)⟩
      · exact h.lva j' (by omega) h2 b (by rw [e]; rfl)
    · obtain ⟨am, cm, h1, h2, h3⟩ := h.mor j (by omega)
      exact ⟨am, cm, by rw [List.getElem?_append_left (by rw [h.len]; omega)]; exact h1, rd h2, fun b off e j' hj' => (h3 b off e).2 j' (by omega)⟩
  · exact (h.bel.alloc (by omega) o).grown hgrow (by omega) (fun q hq => (World.ownsRow.lt h.mo q hq).1)
end
end Go.Proofs.YtjmmckkiicefhaaDoor
namespace Go.Proofs.YtjmmckkiicefhaaDoor
open Go.RowKit Go.Shelf
set_option maxRecDepth 10000 in
set_option maxHeartbeats 800000 in
theorem splitN_any (N C : Nat) (cs : Array Value) (hN0 : 0 < N) (hNb : N ≤ 5000000) (base G : Nat) (a : Nat → Option Addr) (n c : Nat → Nat) (w0 wS w : World) (hs : Stn N cs base G a n c) (hb : base ≤ w.heap.size) (h1 : Sn1 N cs base G a n c w0 wS w 0 0) :
    Calls Tryd.prog 9 #[.slice (some ⟨G, 0, none⟩) N C] w fun e w' => e = .returned (.bool true) ∧ Below base w0 w' ∧ Lsts wS w' := by
  obtain ⟨i0, hi, hz0, hz1, hz2⟩ := info_parts infoInts
  obtain ⟨j0, hj, hy0, hy1, hy2⟩ := info_parts infoInt
  have HS := hid0 hs
  have H1 := hid0 h1
  clear hs h1
  go_enter Tryd.func9, Tryd.ntmps9
  go_wp2
  go_loopw [4] (fun iv wr => ∃ i : Nat, i ≤ N ∧ iv = .int .i64 (i : Int) ∧ Hid (Sn1 N cs base G a n c w0 wS wr i 0) ∧ Hid (w.heap.size ≤ wr.heap.size)) (fun iv _ => N - (intOf iv).toNat)
  case atStart => exact ⟨0, Nat.zero_le _, rfl, H1, hid0 (Nat.le_refl _)⟩
  case round =>
    clear H1
    obtain ⟨i, hi2, rfl, H1, HZ⟩ := hrel
    by_cases hlt : i < N
    · have hiI : (i : Int) < (N : Int) := by omega
      have hiI0 : (0 : Int) ≤ (i : Int) := by omega
      have hnb := HS.out.nb i hlt
      go_wp2
      go_loopw [5] (fun kv wr => ∃ k : Nat, k ≤ n i ∧ kv = .int .i64 (k : Int) ∧ Hid (Sn1 N cs base G a n c w0 wS wr i k) ∧ Hid (w.heap.size ≤ wr.heap.size)) (fun kv _ => n i - (intOf kv).toNat)
      case atStart => exact ⟨0, Nat.zero_le _, rfl, H1, HZ⟩
      case round =>
        clear H1 HZ
        obtain ⟨k, hk, rfl, H1, HZ⟩ := hrel
        have x0 := outN H1.out.out HS.out hlt
        by_cases hkn : k < n i
        · obtain ⟨g, ea, ⟨z, hz⟩, hfz, hn1⟩ := H1.out.put HS.out hlt hkn
          rw [ea] at x0
          have hkI : (k : Int) < (n i : Int) := by omega
          have hkI0 : (0 : Int) ≤ (k : Int) := by omega
          have hmk : IntKind.i64.wrap (-100 - (i : Int)) = mkZ i := by unfold mkZ; simp [IntKind.wrap, IntKind.bits, IntKind.signed]; omega
          have HN1 := hid0 hn1
          have HZ2 : Hid (w.heap.size ≤ (wr.setCell ⟨g, k, none⟩ (.int .i64 (mkZ i))).heap.size) := hid0 (by have := HZ.out; simpa [World.setCell] using this)
          clear hn1 ea
          generalize mkZ i = mz at *
          generalize n i = ni at *
          generalize c i = ci at *
          go_wp2
          go_roundw
          case rel => exact ⟨k + 1, by omega, by go_num, HN1, HZ2⟩
          case measure => simp [intOf]; omega
        · have hkI : ¬ (k : Int) < (n i : Int) := by omega
          have HN1 := hid0 (H1.out.next (fun _ => by omega))
          go_wp2
          go_roundw
          case rel => exact ⟨i + 1, by omega, by go_num, HN1, HZ⟩
          case measure => simp [intOf]; omega
    · have hiI : ¬ (i : Int) < (N : Int) := by omega
      obtain rfl : N = i := by omega
      have HZs := HZ.out
      have H2 := hid0 (H1.out.two HS.out (by omega))
      clear H1 HZ
      go_wp2
      go_loopw [3, 6] (fun vm iv wr => ∃ (i : Nat) (M : List Value), i ≤ N ∧ iv = .int .i64 (i : Int) ∧ Hid (Sn2 N cs base G a n c w0 wS wr i vm M)) (fun _ iv _ => N - (intOf iv).toNat)
      case atStart => exact ⟨0, [], Nat.zero_le _, rfl, H2⟩
      case round =>
        clear H2
        obtain ⟨wo, hwo⟩ : ∃ wo, wo = wr := ⟨_, rfl⟩
        subst hwo
        obtain ⟨i, M, hi2, rfl, H2⟩ := hrel
        by_cases hlt : i < N
        · have hiI : (i : Int) < (N : Int) := by omega
          have hiI0 : (0 : Int) ≤ (i : Int) := by omega
          have hnb := HS.out.nb i hlt
          have x0 := outN H2.out.out HS.out hlt
          have H3 := hid0 (H2.out.start HS.out hlt)
          unfold vZ at H3
          clear H2
          go_wp2
          go_loopw [7, 8] (fun lv kv wr => ∃ k : Nat, k ≤ 64 ∧ kv = .int .i64 (k : Int) ∧ Hid (Sn3 N cs base G a n c w0 wS wr i k lv u3 M)) (fun _ kv _ => 64 - (intOf kv).toNat)
          case atStart => exact ⟨0, Nat.zero_le _, rfl, H3⟩
          case round =>
            clear H3 x0
            obtain ⟨k, hk, rfl, H3⟩ := hrel
            obtain ⟨av, cv, ev, _⟩ := H3.out.lo.ia
            rw [List.length_replicate] at ev
            subst ev
            have hbig := H3.out.big
            by_cases hk64 : k < 64
            · have hkI : (k : Int) < 64 := by omega
              have hmk : IntKind.i64.wrap (-100 - (i : Int)) = mkZ i := by unfold mkZ; simp [IntKind.wrap, IntKind.bits, IntKind.signed]; omega
              obtain ⟨q, hq⟩ : ∃ q, q = n i + k := ⟨_, rfl⟩
              have hqb : q ≤ 6000000 := by omega
              have HQ := hid0 hq
              have HLo : Hid (wr.ownsRow base 3 1 (.slice av q cv) q ((List.replicate q (mkZ i)).map (Value.int .i64))) := hid0 (by have h := H3.out.lo; unfold OwnI at h; rw [List.length_replicate, ← hq] at h; exact h)
              have HSt : Hid (∀ (lv' : Value) (w1 : World), w1.ownsRow base 3 1 lv' (q + 1) ((List.replicate q (mkZ i)).map (Value.int .i64) ++ [.int .i64 (mkZ i)]) → (wr.alloc (.cells #[.int .i64 (mkZ i)] 3)).grownBy w1 (Value.slice av q cv).ownBlock → (lv'.ownBlock = (Value.slice av q cv).ownBlock ∨ lv'.ownBlock = some (wr.alloc (.cells #[.int .i64 (mkZ i)] 3)).heap.size) → (∀ g j u, (Value.slice av q cv).ownBlock = some g → j < q * 1 → (wr.alloc (.cells #[.int .i64 (mkZ i)] 3)).cell? ⟨g, j, none⟩ = some u → w1.cell? ⟨g, j, none⟩ = some u) → Sn3 N cs base G a n c w0 wS w1 i (k + 1) lv' u3 M) := hid0 (fun lv' w1 h1 h2 h3 h4 => by
                subst hq
                exact H3.out.step hlt HS.out h1 h2 h3 h4)
              rw [← hq]
              clear hq H3
              generalize mkZ i = mz at *
              go_wp2_with (at_builtin; go_loud ((
                refine wpList_append_own_front _ rfl _ _ 25 rfl base 3 j0 (.int .i64 0) 1 8 Tryd.underlying25 hj hy0 hy1 hy2 rfl (by decide) _ q ((List.replicate q mz).map (Value.int .i64)) rfl (World.ownsRow.alloc HLo.out _) ⟨wr.heap.size, 0, none⟩ 1 1 [.int .i64 mz] rfl rfl (cell_one_new _ _ _) (by simp [Value.oneCell']) (by unfold maxLen; omega) (by omega) (by simp; omega) ?_
                intro v2 w3 hown2 hgrow2 hat2 hfr2
                have H4 := hid0 (HSt.out v2 w3 hown2 hgrow2 hat2 hfr2)
                clear hown2 hgrow2 hat2 hfr2)))
              go_roundw
              case rel => exact ⟨k + 1, by omega, by go_num, H4⟩
              case measure => simp [intOf]; omega
            · have hkI : ¬ (k : Int) < 64 := by omega
              obtain rfl : k = 64 := by omega
              have HMo : Hid (wr.ownsRow base 25 1 u3 i M) := hid0 (by have h := H3.out.mo; rw [H3.out.len] at h; exact h)
              generalize hq : n i + 64 = q at *
              go_wp2_with (at_builtin; go_loud ((
                refine wpList_append_own_at _ rfl _ _ 22 rfl base 25 i0 (.slice none 0 0) 1 24 Tryd.underlying22 hi hz0 hz1 hz2 rfl (by decide) _ i M rfl (World.ownsRow.alloc HMo.out _) ⟨wr.heap.size, 0, none⟩ 1 1 [.slice av q cv] rfl rfl (cell_one_new _ _ _) (by simp [Value.oneCell']) (by unfold maxLen; omega) (by omega) (by simp; omega) ?_
                intro v2 w3 hown2 hgrow2 _ hat2
                have H5 : Hid (Sn2 N cs base G a n c w0 wS w3 (i + 1) v2 (M ++ [.slice av q cv])) := hid0 (by subst hq; exact H3.out.done hlt hown2 hgrow2 hat2)
                clear hown2 hgrow2 hat2)))
              go_roundw
              case rel => exact ⟨i + 1, _, by omega, by go_num, H5⟩
              case measure => simp [intOf]; omega
        · have hiI : ¬ (i : Int) < (N : Int) := by omega
          obtain rfl : N = i := by omega
          obtain ⟨gm, cm, em, _⟩ := own_form H2.out.mo (by rw [H2.out.len]; omega)
          rw [H2.out.len] at em
          subst em
          have HMc : Hid (∀ j, wo.cell? ⟨gm, j, none⟩ = M[j]? ∨ N ≤ j) := hid0 (fun j => by
            by_cases hj2 : j < N
            · have h := H2.out.mo
              rw [H2.out.len] at h
              exact .inl (World.ownsRow.cellAt h j (by omega))
            · exact .inr (by omega))
          go_wp2
          go_loopw [9] (fun iv wr => ∃ i : Nat, i ≤ N ∧ iv = .int .i64 (i : Int) ∧ wr = wo) (fun iv _ => N - (intOf iv).toNat)
          case atStart => exact ⟨0, Nat.zero_le _, rfl, rfl⟩
          case round =>
            obtain ⟨i, hi2, rfl, rfl⟩ := hrel
            by_cases hlt : i < N
            · have hiI : (i : Int) < (N : Int) := by omega
              have hiI0 : (0 : Int) ≤ (i : Int) := by omega
              have hnb := HS.out.nb i hlt
              have x0 := outN H2.out.out HS.out hlt
              obtain ⟨am, cm2, hM, hrd, _⟩ := H2.out.mor i hlt
              have x1 : wr.cell? ⟨gm, i, none⟩ = some (.slice am (n i + 64) cm2) := by
                rcases HMc.out i with h | h
                · rw [h]; exact hM
                · omega
              obtain ⟨q, hq⟩ : ∃ q, q = n i + 64 := ⟨_, rfl⟩
              rw [← hq] at x1
              have HRd := hid0 hrd
              have HQ := hid0 hq
              have hqb : q ≤ 6000000 := by omega
              have hmk : IntKind.i64.wrap (-100 - (i : Int)) = mkZ i := by unfold mkZ; simp [IntKind.wrap, IntKind.bits, IntKind.signed]; omega
              clear hq hrd hM
              go_wp2
              go_loopw [10] (fun kv wr2 => ∃ k : Nat, k ≤ q ∧ kv = .int .i64 (k : Int) ∧ wr2 = wr) (fun kv _ => q - (intOf kv).toNat)
              case atStart => exact ⟨0, Nat.zero_le _, rfl, rfl⟩
              case round =>
                obtain ⟨k, hk, rfl, rfl⟩ := hrel
                by_cases hkq : k < q
                · have hkI : (k : Int) < (q : Int) := by omega
                  have hkI0 : (0 : Int) ≤ (k : Int) := by omega
                  obtain ⟨b1, o1, rfl, _, d1⟩ := HRd.out.ia.at' k (by rw [List.length_replicate]; have := HQ.out; omega)
                  rw [List.getElem_replicate] at d1
                  by_cases hkn : k < n i
                  · have hknI : (k : Int) < (n i : Int) := by omega
                    obtain ⟨b2, o2, e2, _, d2⟩ := (H2.out.read i hlt).ia.at' k (by rw [List.length_replicate]; exact hkn)
                    rw [List.getElem_replicate] at d2
                    rw [e2] at x0
                    clear e2
                    generalize mkZ i = mz at *
                    generalize n i = ni at *
                    generalize c i = ci at *
                    have hself : (mz == mz) = true := by simp
                    have hself2 : (mz != mz) = false := by simp
                    go_wp2
                    go_roundw
                    case rel => exact ⟨k + 1, by omega, by go_num, trivial⟩
                    case measure => simp [intOf]; omega
                  · have hknI : ¬ (k : Int) < (n i : Int) := by omega
                    generalize mkZ i = mz at *
                    generalize n i = ni at *
                    generalize c i = ci at *
                    generalize a i = ai at *
                    have hself : (mz == mz) = true := by simp
                    have hself2 : (mz != mz) = false := by simp
                    go_wp2
                    go_roundw
                    case rel => exact ⟨k + 1, by omega, by go_num, trivial⟩
                    case measure => simp [intOf]; omega
                · have hkI : ¬ (k : Int) < (q : Int) := by omega
                  go_wp2
                  go_roundw
                  case rel => exact ⟨i + 1, by omega, by go_num, trivial⟩
                  case measure => simp [intOf]; omega
            · have hiI : ¬ (i : Int) < (N : Int) := by omega
              go_wp2
              go_ret
              exact ⟨rfl, H2.out.bel, H2.out.kp⟩
end Go.Proofs.YtjmmckkiicefhaaDoor
namespace Go.Proofs.YtjmmckkiicefhaaDoor
open Go.RowKit Go.Shelf
def mkO (i : Nat) : Int := -1 - (i : Int)
/-- A list of one number, in a block of its own. -/
def One1 (W : World) (i : Nat) (v : Value) : Prop := ∃ g, v = .slice (some ⟨g, 0, none⟩) 1 1 ∧ W.heap[g]? = some (.cells #[.int .i64 (mkO i)] 3 (0, 0))
/-- What holds numbers stays. -/
def Nums (W W' : World) : Prop := ∀ (g : Nat) (cs : Array Value), W.heap[g]? = some (.cells cs 3 (0, 0)) → W'.heap[g]? = W.heap[g]?
theorem One1.keep {W W' : World} {i : Nat} {v : Value} (h : One1 W i v) (hn : Nums W W') : One1 W' i v := by
  obtain ⟨g, e, h1⟩ := h
  exact ⟨g, e, (hn g _ h1).trans h1⟩
theorem Nums.trans {W W' W2 : World} (h : Nums W W') (h2 : Nums W' W2) : Nums W W2 := fun g cs e =>
  (h2 g cs ((h g cs e).trans e)).trans (h g cs e)
theorem Nums.alloc (W : World) (o : Obj) : Nums W (W.alloc o) := fun _g _ e =>
  Below.heap_alloc W _ _ (Array.getElem?_eq_some_iff.1 e).1
theorem Nums.store {W : World} {g k : Nat} {cs0 : Array Value} {t : TypeId} (v : Value) (h : W.heap[g]? = some (.cells cs0 t (0, 0))) (ht : t ≠ 3) : Nums W (W.setCell ⟨g, k, none⟩ v) := fun g' _ e =>
  Below.heap_setCell _ _ _ _ (fun q => by
    have q2 : g' = g := q
    subst q2
    rw [h] at e
    simp only [Option.some.injEq, Obj.cells.injEq] at e
    exact ht e.2.1)
theorem Nums.grown {W w1 : World} {base : Nat} {t : TypeId} {s m : Nat} {u : Value} {xs : List Value} (hu : W.ownsRow base t s u m xs) (ht : t ≠ 3) (hg : W.grownBy w1 u.ownBlock) : Nums W w1 := fun g _ e => by
  refine hg.block g (Array.getElem?_eq_some_iff.1 e).1 (fun q => ?_)
  obtain ⟨c2, e2⟩ := own_typ hu q.symm
  rw [e2] at e
  simp only [Option.some.injEq, Obj.cells.injEq] at e
  exact ht e.2.1
section
variable (N : Nat) (cs : Array Value) (base G : Nat) (a : Nat → Option Addr) (n c : Nat → Nat)
/-- What stays. -/
structure Sto : Prop where
  cs : ∀ j, j < N → cs[j]? = some (vZ a n c j)
  apart : ∀ j j', j < N → j' < N → j ≠ j' → ∀ g, (vZ a n c j).ownBlock = some g → (vZ a n c j').ownBlock ≠ some g
  nb : ∀ j, j < N → n j ≤ 5000000
/-- While they are written over. -/
structure Ou1 (w0 W : World) (i k : Nat) : Prop where
  out : W.heap[G]? = some (.cells cs 22 (0, 0))
  own : ∀ j, j < N → ∃ L : List Value, L.length = n j ∧ W.ownsRow base 25 1 (vZ a n c j) L.length L ∧ (j < i → ∀ v ∈ L, One1 W j v) ∧ (j = i → ∀ m (h : m < L.length), m < k → One1 W j L[m])
  bel : Below base w0 W
  big : base ≤ W.heap.size
/-- A list that is whole. -/
def Who (W : World) (v : Value) (m j : Nat) : Prop := ∃ L : List Value, L.length = m ∧ W.ownsRow base 25 1 v m L ∧ ∀ x ∈ L, One1 W j x
/-- So many are grown. -/
structure Ou2 (w0 W : World) (i : Nat) (vm : Value) (M : List Value) : Prop where
  out : W.heap[G]? = some (.cells cs 22 (0, 0))
  own : ∀ j, i ≤ j → j < N → Who base W (vZ a n c j) (n j) j
  mo : W.ownsRow base 22 1 vm M.length M
  len : M.length = i
  mor : ∀ j, j < i → ∃ am cm, M[j]? = some (.slice am (n j + 64) cm) ∧ Who base W (.slice am (n j + 64) cm) (n j + 64) j ∧ ∀ g, (Value.slice am (n j + 64) cm).ownBlock = some g → ∀ j', i ≤ j' → j' < N → (vZ a n c j').ownBlock ≠ some g
  vmG : vm.ownBlock ≠ some G
  bel : Below base w0 W
  big : base ≤ W.heap.size
/-- One while it grows. -/
structure Ou3 (w0 W : World) (i k : Nat) (lv vm : Value) (M : List Value) : Prop where
  out : W.heap[G]? = some (.cells cs 22 (0, 0))
  own : ∀ j, i + 1 ≤ j → j < N → Who base W (vZ a n c j) (n j) j
  lo : Who base W lv (n i + k) i
  lva : ∀ j, i + 1 ≤ j → j < N → ∀ g, lv.ownBlock = some g → (vZ a n c j).ownBlock ≠ some g
  mo : W.ownsRow base 22 1 vm M.length M
  len : M.length = i
  mor : ∀ j, j < i → ∃ am cm, M[j]? = some (.slice am (n j + 64) cm) ∧ Who base W (.slice am (n j + 64) cm) (n j + 64) j ∧ ∀ g, (Value.slice am (n j + 64) cm).ownBlock = some g → lv.ownBlock ≠ some g ∧ ∀ j', i + 1 ≤ j' → j' < N → (vZ a n c j').ownBlock ≠ some g
  vmG : vm.ownBlock ≠ some G
  bel : Below base w0 W
  big : base ≤ W.heap.size
end
section
variable {N : Nat} {cs : Array Value} {base G : Nat} {a : Nat → Option Addr} {n c : Nat → Nat} {w0 W : World} {i k : Nat}
theorem own_shape {w : World} {t : TypeId} {s m : Nat} {v : Value} {xs : List Value} (h : w.ownsRow base t s v m xs) : ∃ x cx, v = .slice x m cx := by
  rcases h.2 with ⟨rfl, hn⟩ | ⟨g, cap, cur, rfl, _⟩
  · exact ⟨none, 0, by rw [hn]⟩
  · exact ⟨_, cap, rfl⟩
/-- What is read of a list that is whole. -/
theorem Who.at' {W : World} {v : Value} {m j : Nat} (h : Who base W v m j) {k : Nat} (hk : k < m) : ∃ b cx g, v = .slice (some ⟨b, 0, none⟩) m cx ∧ W.cell? ⟨b, k, none⟩ = some (.slice (some ⟨g, 0, none⟩) 1 1) ∧ W.cell? ⟨g, 0, none⟩ = some (.int .i64 (mkO j)) := by
  obtain ⟨L, hl, ho, hg⟩ := h
  obtain ⟨b, cx, rfl, _⟩ := own_form ho (by omega)
  obtain ⟨g, e, h1⟩ := hg L[k] (List.getElem_mem (by omega))
  refine ⟨b, cx, g, rfl, ?_, ?_⟩
  · rw [World.ownsRow.cellAt ho k (by omega), List.getElem?_eq_getElem (by omega), e]
  · rw [cell_of_row _ _ _ _ _ _ h1]; rfl
theorem outO (h : W.heap[G]? = some (.cells cs 22 (0, 0))) (hs : Sto N cs a n c) {j : Nat} (hj : j < N) : W.cell? ⟨G, j, none⟩ = some (.slice (a j) (n j) (c j)) := by
  rw [cell_of_row _ _ _ _ _ _ h]
  exact hs.cs j hj
theorem Ou1.put (h : Ou1 N cs base G a n c w0 W i k) (hs : Sto N cs a n c) (hi : i < N) (hk : k < n i) : ∃ g, a i = some ⟨g, 0, none⟩ ∧ g < W.heap.size ∧ (∃ z, (W.alloc (.cells #[.int .i64 (mkO i)] 3)).cell? ⟨g, k, none⟩ = some z) ∧ (W.alloc (.cells #[.int .i64 (mkO i)] 3)).frozen? ⟨g, k, none⟩ = false ∧ Ou1 N cs base G a n c w0 ((W.alloc (.cells #[.int .i64 (mkO i)] 3)).setCell ⟨g, k, none⟩ (.slice (some ⟨W.heap.size, 0, none⟩) 1 1)) i (k + 1) := by
  obtain ⟨L, hl, ho, _, hp⟩ := h.own i hi
  obtain ⟨g, cap, e, hg, hg2, _⟩ := own_form ho (by omega)
  simp only [vZ, Value.slice.injEq] at e
  have ea := e.1
  have hvo : (vZ a n c i).ownBlock = some g := by unfold vZ; rw [ea]; rfl
  obtain ⟨c0, hc0⟩ := own_typ ho hvo
  have hgG : g ≠ G := fun q => by
    subst q
    rw [h.out] at hc0
    cases hc0
  have hGs : G < W.heap.size := (Array.getElem?_eq_some_iff.1 h.out).1
  have ho2 : W.ownsRow base 25 1 (.slice (some ⟨g, 0, none⟩) (n i) (c i)) (n i) L := by
    have h1 := ho
    unfold vZ at h1
    rw [ea, hl] at h1
    exact h1
  have hbig := h.big
  generalize hob : (Obj.cells #[.int .i64 (mkO i)] 3) = o
  have hsz : (W.alloc o).heap.size = W.heap.size + 1 := by simp
  have hc1 : (W.alloc o).heap[g]? = some (.cells c0 25 (0, 0)) := (Below.heap_alloc W _ _ hg2).trans hc0
  have hN : Nums W ((W.alloc o).setCell ⟨g, k, none⟩ (.slice (some ⟨W.heap.size, 0, none⟩) 1 1)) := (Nums.alloc W o).trans (Nums.store _ hc1 (by decide))
  have hnew : One1 ((W.alloc o).setCell ⟨g, k, none⟩ (.slice (some ⟨W.heap.size, 0, none⟩) 1 1)) i (.slice (some ⟨W.heap.size, 0, none⟩) 1 1) := by
    have h1 : One1 (W.alloc o) i (.slice (some ⟨W.heap.size, 0, none⟩) 1 1) := ⟨_, rfl, by subst hob; exact heap_alloc_new W _⟩
    exact h1.keep (Nums.store _ hc1 (by decide))
  refine ⟨g, ea, hg2, ⟨_, by rw [World.ownsRow.cellAt (World.ownsRow.alloc ho2 o) k (by omega), List.getElem?_eq_getElem (by omega)]⟩, World.ownsRow.frozenAt (World.ownsRow.alloc ho2 o) k, ?_, ?_, (h.bel.alloc (by omega) o).setCell (p := ⟨g, k, none⟩) hg _, by simp [World.setCell]; omega⟩
  · exact (Below.heap_setCell _ _ _ _ (fun q => hgG q.symm)).trans ((Below.heap_alloc W _ _ hGs).trans h.out)
  · intro j hj
    by_cases hji : j = i
    · subst hji
      refine ⟨L.set k (.slice (some ⟨W.heap.size, 0, none⟩) 1 1), by simpa using hl, ?_, fun q => absurd q (Nat.lt_irrefl _), fun _ m hm hmk => ?_⟩
      · have h1 := (World.ownsRow.stored (World.ownsRow.alloc ho2 o) k (.slice (some ⟨W.heap.size, 0, none⟩) 1 1)).1
        unfold vZ
        rw [ea, List.length_set, hl]
        exact h1
      · rw [List.getElem_set]
        split
        · exact hnew
        · exact (hp rfl m (by simpa using hm) (by omega)).keep hN
    · obtain ⟨L', hl', ho', h1, h2⟩ := h.own j hj
      refine ⟨L', hl', own_blk (World.ownsRow.alloc ho' o) (fun q hq => Below.heap_setCell _ _ _ _ (fun e => hs.apart j i hj hi hji q hq (by rw [hvo]; exact congrArg some e.symm))), fun q v hv => (h1 q v hv).keep hN, fun e => absurd e hji⟩
theorem Ou1.next (h : Ou1 N cs base G a n c w0 W i k) (hk : i < N → n i ≤ k) : Ou1 N cs base G a n c w0 W (i + 1) 0 := by
  refine ⟨h.out, fun j hj => ?_, h.bel, h.big⟩
  obtain ⟨L, hl, ho, h1, h2⟩ := h.own j hj
  refine ⟨L, hl, ho, fun hji z hz => ?_, fun _ m _ hm => absurd hm (Nat.not_lt_zero _)⟩
  by_cases e : j = i
  · obtain ⟨m, hm, rfl⟩ := List.getElem_of_mem hz
    exact h2 e m hm (by have := hk (by omega); subst e; omega)
  · exact h1 (by omega) z hz
theorem Ou1.two (h : Ou1 N cs base G a n c w0 W N k) : Ou2 N cs base G a n c w0 W 0 (.slice none 0 0) [] := by
  refine ⟨h.out, fun j _ hj => ?_, World.ownsRow_nil _ _ _ _, rfl, fun j hj => absurd hj (Nat.not_lt_zero _), fun q => (by cases q), h.bel, h.big⟩
  obtain ⟨L, hl, ho, h1, _⟩ := h.own j hj
  exact ⟨L, hl, by rw [← hl]; exact ho, h1 hj⟩
theorem Ou2.start {vm : Value} {M : List Value} (h : Ou2 N cs base G a n c w0 W i vm M) (hs : Sto N cs a n c) (hi : i < N) : Ou3 N cs base G a n c w0 W i 0 (vZ a n c i) vm M :=
  ⟨h.out, fun j hj => h.own j (by omega), h.own i (Nat.le_refl _) hi, fun j hj h2 g hg => hs.apart i j hi h2 (by omega) g hg, h.mo, h.len, fun j hj => by
    obtain ⟨am, cm, h1, h2, h3⟩ := h.mor j hj
    exact ⟨am, cm, h1, h2, fun g e => ⟨h3 g e i (Nat.le_refl _) hi, fun j' hj' => h3 g e j' (by omega)⟩⟩, h.vmG, h.bel, h.big⟩
/-- One list more. -/
theorem Ou3.step {w1 : World} {lv lv' vm x : Value} {M L : List Value} {o1 o2 : Obj} (h : Ou3 N cs base G a n c w0 W i k lv vm M) (hL : L.length = n i + k) (hLo : ((W.alloc o1).alloc o2).ownsRow base 25 1 lv (n i + k) L) (hLg : ∀ v ∈ L, One1 W i v) (hx : One1 (W.alloc o1) i x)
    (hown' : w1.ownsRow base 25 1 lv' (n i + k + 1) (L ++ [x])) (hgrow : ((W.alloc o1).alloc o2).grownBy w1 lv.ownBlock) (hat : lv'.ownBlock = lv.ownBlock ∨ lv'.ownBlock = some ((W.alloc o1).alloc o2).heap.size) : Ou3 N cs base G a n c w0 w1 i (k + 1) lv' vm M := by
  have hsz : ((W.alloc o1).alloc o2).heap.size = W.heap.size + 2 := by simp
  have hs1 := hgrow.size
  have hbig := h.big
  have hGs : G < W.heap.size := (Array.getElem?_eq_some_iff.1 h.out).1
  have hG2 : ((W.alloc o1).alloc o2).heap[G]? = some (.cells cs 22 (0, 0)) := ((Below.heap_alloc _ _ _ (by simp; omega)).trans (Below.heap_alloc W _ _ hGs)).trans h.out
  have hlvG : lv.ownBlock ≠ some G := fun q => by
    obtain ⟨cs, e⟩ := own_typ hLo q
    rw [hG2] at e
    cases e
  have hN1 : Nums (W.alloc o1) w1 := (Nums.alloc _ o2).trans (Nums.grown hLo (by decide) hgrow)
  have hN : Nums W w1 := (Nums.alloc W o1).trans hN1
  have new : ∀ b, b < W.heap.size → lv.ownBlock ≠ some b → lv'.ownBlock ≠ some b := fun b hb hne q => by
    rcases hat with e | e
    · exact hne (by rw [← e]; exact q)
    · rw [e, hsz] at q
      have := Option.some.inj q
      omega
  have keep : ∀ {t : TypeId} {s m : Nat} {u : Value} {xs : List Value}, W.ownsRow base t s u m xs → (∀ g, lv.ownBlock = some g → u.ownBlock ≠ some g) → w1.ownsRow base t s u m xs := fun {t s m u xs} hu hne => by
    refine World.ownsRow.kept (World.ownsRow.alloc (World.ownsRow.alloc hu o1) o2) hgrow ?_
    cases e : u.ownBlock with
    | none => exact .inl rfl
    | some g => exact .inr fun hc => hne g hc.symm e
  have who : ∀ {u : Value} {m j : Nat}, Who base W u m j → (∀ g, lv.ownBlock = some g → u.ownBlock ≠ some g) → Who base w1 u m j := fun {u m j} hu hne => by
    obtain ⟨L2, h1, h2, h3⟩ := hu
    exact ⟨L2, h1, keep h2 hne, fun v hv => (h3 v hv).keep hN⟩
  refine ⟨?_, fun j hj hj2 => who (h.own j hj hj2) (fun g hg => h.lva j hj hj2 g hg), ?_, ?_, ?_, h.len, ?_, h.vmG, ?_, by omega⟩
  · exact (hgrow.block G (by omega) (fun q => hlvG q.symm)).trans hG2
  · refine ⟨L ++ [x], by simp [hL]; omega, hown', fun v hv => ?_⟩
    rcases List.mem_append.1 hv with q | q
    · exact (hLg v q).keep hN
    · rw [List.mem_singleton] at q
      subst q
      exact hx.keep hN1
  · intro j hj hj2 g hg hvg
    obtain ⟨L2, _, h2, _⟩ := h.own j hj hj2
    exact new g (World.ownsRow.lt h2 g hvg).2 (fun q => h.lva j hj hj2 g q hvg) hg
  · refine keep h.mo (fun g hg hvg => ?_)
    exact own_unlike hLo (World.ownsRow.alloc (World.ownsRow.alloc h.mo o1) o2) (by decide) g hg hvg
  · intro j hj
    obtain ⟨am, cm, h1, h2, h3⟩ := h.mor j hj
    obtain ⟨L2, _, h4, _⟩ := id h2
    exact ⟨am, cm, h1, who h2 (fun g hg q => (h3 g q).1 hg), fun g e => ⟨new g (World.ownsRow.lt h4 g e).2 (h3 g e).1, (h3 g e).2⟩⟩
  · exact ((h.bel.alloc (by omega) o1).alloc (by simp; omega) o2).grown hgrow (by omega) (fun q hq => (World.ownsRow.lt hLo q hq).1)
/-- It is put behind the others. -/
theorem Ou3.done {w1 : World} {vm vm' : Value} {M : List Value} {o : Obj} {x : Option Addr} {cx : Nat} (h : Ou3 N cs base G a n c w0 W i 64 (.slice x (n i + 64) cx) vm M)
    (hown' : w1.ownsRow base 22 1 vm' (i + 1) (M ++ [.slice x (n i + 64) cx])) (hgrow : (W.alloc o).grownBy w1 vm.ownBlock) (hat : vm'.ownBlock = vm.ownBlock ∨ vm'.ownBlock = some (W.alloc o).heap.size) : Ou2 N cs base G a n c w0 w1 (i + 1) vm' (M ++ [.slice x (n i + 64) cx]) := by
  have hsz : (W.alloc o).heap.size = W.heap.size + 1 := by simp
  have hs1 := hgrow.size
  have hbig := h.big
  have hGs : G < W.heap.size := (Array.getElem?_eq_some_iff.1 h.out).1
  have new : ∀ b, b < W.heap.size → vm.ownBlock ≠ some b → vm'.ownBlock ≠ some b := fun b hb hne q => by
    rcases hat with e | e
    · exact hne (by rw [← e]; exact q)
    · rw [e, hsz] at q
      have := Option.some.inj q
      omega
  have hN : Nums W w1 := (Nums.alloc W o).trans (Nums.grown (World.ownsRow.alloc h.mo o) (by decide) hgrow)
  have who : ∀ {u : Value} {m j : Nat}, Who base W u m j → Who base w1 u m j := fun {u m j} hu => by
    obtain ⟨L2, h1, h2, h3⟩ := hu
    refine ⟨L2, h1, World.ownsRow.kept (World.ownsRow.alloc h2 o) hgrow ?_, fun v hv => (h3 v hv).keep hN⟩
    cases e : u.ownBlock with
    | none => exact .inl rfl
    | some g => exact .inr fun hc => own_unlike h.mo h2 (by decide) g hc.symm e
  refine ⟨?_, fun j hj hj2 => who (h.own j hj hj2), by rw [List.length_append, List.length_singleton, h.len]; exact hown', by rw [List.length_append, List.length_singleton, h.len], fun j hj => ?_, new G hGs h.vmG, ?_, by omega⟩
  · exact ((hgrow.block G (by omega) (fun q => h.vmG q.symm)).trans (Below.heap_alloc W _ _ hGs)).trans h.out
  · by_cases hji : j = i
    · subst hji
      refine ⟨x, cx, ?_, who h.lo, fun g e j' h1 h2 => h.lva j' h1 h2 g e⟩
      rw [List.getElem?_append_right (by rw [h.len]; exact Nat.le_refl _), h.len, Nat.sub_self]; rfl
    · obtain ⟨am, cm, h1, h2, h3⟩ := h.mor j (by omega)
      exact ⟨am, cm, by rw [List.getElem?_append_left (by rw [h.len]; omega)]; exact h1, who h2, fun g e j' hj' => (h3 g e).2 j' hj'⟩
  · exact (h.bel.alloc (by omega) o).grown hgrow (by omega) (fun q hq => (World.ownsRow.lt h.mo q hq).1)
end
end Go.Proofs.YtjmmckkiicefhaaDoor
namespace Go.Proofs.YtjmmckkiicefhaaDoor
open Go.RowKit Go.Shelf
theorem infoIntss : (Tryd.prog.info? 22).map (fun i => (i.zero, i.size, i.bytes)) = some (some (.slice none 0 0), 1, 24) := by kernel_rfl
set_option maxRecDepth 10000 in
set_option maxHeartbeats 800000 in
theorem outerN_any (N C : Nat) (cs : Array Value) (hN0 : 0 < N) (hNb : N ≤ 5000000) (base G : Nat) (a : Nat → Option Addr) (n c : Nat → Nat) (w0 w : World) (hs : Sto N cs a n c) (_hb : base ≤ w.heap.size) (h1 : Ou1 N cs base G a n c w0 w 0 0) :
    Calls Tryd.prog 10 #[.slice (some ⟨G, 0, none⟩) N C] w fun e w' => e = .returned (.bool true) ∧ Below base w0 w' := by
  obtain ⟨i0, hi, hz0, hz1, hz2⟩ := info_parts infoInts
  obtain ⟨j0, hj, hy0, hy1, hy2⟩ := info_parts infoIntss
  have HS := hid0 hs
  have H1 := hid0 h1
  clear hs h1
  go_enter Tryd.func10, Tryd.ntmps10
  go_wp2
  go_loopw [4] (fun iv wr => ∃ i : Nat, i ≤ N ∧ iv = .int .i64 (i : Int) ∧ Hid (Ou1 N cs base G a n c w0 wr i 0) ∧ Hid (w.heap.size ≤ wr.heap.size)) (fun iv _ => N - (intOf iv).toNat)
  case atStart => exact ⟨0, Nat.zero_le _, rfl, H1, hid0 (Nat.le_refl _)⟩
  case round =>
    clear H1
    obtain ⟨i, hi2, rfl, H1, HZ⟩ := hrel
    by_cases hlt : i < N
    · have hiI : (i : Int) < (N : Int) := by omega
      have hiI0 : (0 : Int) ≤ (i : Int) := by omega
      have hnb := HS.out.nb i hlt
      go_wp2
      go_loopw [5] (fun kv wr => ∃ k : Nat, k ≤ n i ∧ kv = .int .i64 (k : Int) ∧ Hid (Ou1 N cs base G a n c w0 wr i k) ∧ Hid (w.heap.size ≤ wr.heap.size)) (fun kv _ => n i - (intOf kv).toNat)
      case atStart => exact ⟨0, Nat.zero_le _, rfl, H1, HZ⟩
      case round =>
        clear H1 HZ
        obtain ⟨k, hk, rfl, H1, HZ⟩ := hrel
        have x0 := outO H1.out.out HS.out hlt
        by_cases hkn : k < n i
        · obtain ⟨g, ea, hgs, ⟨z, hz⟩, hfz, hn1⟩ := H1.out.put HS.out hlt hkn
          rw [ea] at x0
          have hkI : (k : Int) < (n i : Int) := by omega
          have hkI0 : (0 : Int) ≤ (k : Int) := by omega
          have hmk : IntKind.i64.wrap (-1 - (i : Int)) = mkO i := by unfold mkO; simp [IntKind.wrap, IntKind.bits, IntKind.signed]; omega
          rw [World.setCell_alloc_past _ _ _ _ hgs] at hn1
          have HN1 := hid0 hn1
          have HZ2 : Hid (w.heap.size ≤ ((wr.setCell ⟨g, k, none⟩ (.slice (some ⟨wr.heap.size, 0, none⟩) 1 1)).alloc (.cells #[.int .i64 (mkO i)] 3)).heap.size) := hid0 (by have := HZ.out; simp [World.setCell]; omega)
          clear hn1 ea
          generalize mkO i = mz at *
          generalize n i = ni at *
          generalize c i = ci at *
          go_wp2
          go_roundw
          case rel => exact ⟨k + 1, by omega, by go_num, HN1, HZ2⟩
          case measure => simp [intOf]; omega
        · have hkI : ¬ (k : Int) < (n i : Int) := by omega
          have HN1 := hid0 (H1.out.next (fun _ => by omega))
          go_wp2
          go_roundw
          case rel => exact ⟨i + 1, by omega, by go_num, HN1, HZ⟩
          case measure => simp [intOf]; omega
    · have hiI : ¬ (i : Int) < (N : Int) := by omega
      obtain rfl : N = i := by omega
      have HZs := HZ.out
      have H2 := hid0 (H1.out.two)
      clear H1 HZ
      go_wp2
      go_loopw [3, 6] (fun vm iv wr => ∃ (i : Nat) (M : List Value), i ≤ N ∧ iv = .int .i64 (i : Int) ∧ Hid (Ou2 N cs base G a n c w0 wr i vm M)) (fun _ iv _ => N - (intOf iv).toNat)
      case atStart => exact ⟨0, [], Nat.zero_le _, rfl, H2⟩
      case round =>
        clear H2
        obtain ⟨wo, hwo⟩ : ∃ wo, wo = wr := ⟨_, rfl⟩
        subst hwo
        obtain ⟨i, M, hi2, rfl, H2⟩ := hrel
        by_cases hlt : i < N
        · have hiI : (i : Int) < (N : Int) := by omega
          have hiI0 : (0 : Int) ≤ (i : Int) := by omega
          have hnb := HS.out.nb i hlt
          have x0 := outO H2.out.out HS.out hlt
          have H3 := hid0 (H2.out.start HS.out hlt)
          unfold vZ at H3
          clear H2
          go_wp2
          go_loopw [7, 8] (fun lv kv wr => ∃ k : Nat, k ≤ 64 ∧ kv = .int .i64 (k : Int) ∧ Hid (Ou3 N cs base G a n c w0 wr i k lv u3 M)) (fun _ kv _ => 64 - (intOf kv).toNat)
          case atStart => exact ⟨0, Nat.zero_le _, rfl, H3⟩
          case round =>
            clear H3 x0
            obtain ⟨k, hk, rfl, H3⟩ := hrel
            obtain ⟨L, hL, hLo, hLg⟩ := H3.out.lo
            obtain ⟨av, cv, ev⟩ := own_shape hLo
            subst ev
            have hbig := H3.out.big
            by_cases hk64 : k < 64
            · have hkI : (k : Int) < 64 := by omega
              have hmk : IntKind.i64.wrap (-1 - (i : Int)) = mkO i := by unfold mkO; simp [IntKind.wrap, IntKind.bits, IntKind.signed]; omega
              obtain ⟨q, hq⟩ : ∃ q, q = n i + k := ⟨_, rfl⟩
              have hqb : q ≤ 6000000 := by omega
              have HQ := hid0 hq
              obtain ⟨o1, ho1⟩ : ∃ o1 : Obj, o1 = .cells #[.int .i64 (mkO i)] 3 := ⟨_, rfl⟩
              have HLo : Hid (wr.ownsRow base 25 1 (.slice av q cv) q L) := hid0 (by rw [hq]; exact hLo)
              have HSt : Hid (∀ (o2 : Obj) (lv' : Value) (w1 : World), w1.ownsRow base 25 1 lv' (q + 1) (L ++ [.slice (some ⟨wr.heap.size, 0, none⟩) 1 1]) → ((wr.alloc (.cells #[.int .i64 (mkO i)] 3)).alloc o2).grownBy w1 (Value.slice av q cv).ownBlock → (lv'.ownBlock = (Value.slice av q cv).ownBlock ∨ lv'.ownBlock = some ((wr.alloc (.cells #[.int .i64 (mkO i)] 3)).alloc o2).heap.size) → Ou3 N cs base G a n c w0 w1 i (k + 1) lv' u3 M) := hid0 (fun o2 lv' w1 h1 h2 h3 => by
                subst hq
                exact H3.out.step hL (World.ownsRow.alloc (World.ownsRow.alloc hLo _) _) hLg ⟨_, rfl, heap_alloc_new wr _⟩ h1 h2 h3)
              clear hLo hLg hL ho1 o1
              rw [← hq]
              clear hq H3
              generalize mkO i = mz at *
              go_wp2_with (at_builtin; go_loud ((
                refine wpList_append_own_at _ rfl _ _ 22 rfl base 25 i0 (.slice none 0 0) 1 24 Tryd.underlying22 hi hz0 hz1 hz2 rfl (by decide) _ q L rfl (World.ownsRow.alloc (World.ownsRow.alloc HLo.out _) _) ⟨wr.heap.size + 1, 0, none⟩ 1 1 [.slice (some ⟨wr.heap.size, 0, none⟩) 1 1] rfl rfl (by have h := cell_one_new (wr.alloc (.cells #[.int .i64 mz] 3)) (.slice (some ⟨wr.heap.size, 0, none⟩) 1 1) 25; rwa [World.size_alloc] at h) (by simp [Value.oneCell']) (by unfold maxLen; omega) (by omega) (by simp; omega) ?_
                intro v2 w3 hown2 hgrow2 _ hat2
                have H4 := hid0 (HSt.out _ v2 w3 hown2 hgrow2 hat2)
                clear hown2 hgrow2 hat2)))
              go_roundw
              case rel => exact ⟨k + 1, by omega, by go_num, H4⟩
              case measure => simp [intOf]; omega
            · have hkI : ¬ (k : Int) < 64 := by omega
              obtain rfl : k = 64 := by omega
              clear hLo hLg hL
              have HMo : Hid (wr.ownsRow base 22 1 u3 i M) := hid0 (by have h := H3.out.mo; rw [H3.out.len] at h; exact h)
              generalize hq : n i + 64 = q at *
              go_wp2_with (at_builtin; go_loud ((
                refine wpList_append_own_at _ rfl _ _ 39 rfl base 22 j0 (.slice none 0 0) 1 24 Tryd.underlying39 hj hy0 hy1 hy2 rfl (by decide) _ i M rfl (World.ownsRow.alloc HMo.out _) ⟨wr.heap.size, 0, none⟩ 1 1 [.slice av q cv] rfl rfl (cell_one_new _ _ _) (by simp [Value.oneCell']) (by unfold maxLen; omega) (by omega) (by simp; omega) ?_
                intro v2 w3 hown2 hgrow2 _ hat2
                have H5 : Hid (Ou2 N cs base G a n c w0 w3 (i + 1) v2 (M ++ [.slice av q cv])) := hid0 (by subst hq; exact H3.out.done hown2 hgrow2 hat2)
                clear hown2 hgrow2 hat2)))
              go_roundw
              case rel => exact ⟨i + 1, _, by omega, by go_num, H5⟩
              case measure => simp [intOf]; omega
        · have hiI : ¬ (i : Int) < (N : Int) := by omega
          obtain rfl : N = i := by omega
          obtain ⟨gm, cm, em, _⟩ := own_form H2.out.mo (by rw [H2.out.len]; omega)
          rw [H2.out.len] at em
          subst em
          have HMc : Hid (∀ j, wo.cell? ⟨gm, j, none⟩ = M[j]? ∨ N ≤ j) := hid0 (fun j => by
            by_cases hj2 : j < N
            · have h := H2.out.mo
              rw [H2.out.len] at h
              exact .inl (World.ownsRow.cellAt h j (by omega))
            · exact .inr (by omega))
          go_wp2
          go_loopw [9] (fun iv wr => ∃ i : Nat, i ≤ N ∧ iv = .int .i64 (i : Int) ∧ wr = wo) (fun iv _ => N - (intOf iv).toNat)
          case atStart => exact ⟨0, Nat.zero_le _, rfl, rfl⟩
          case round =>
            obtain ⟨i, hi2, rfl, rfl⟩ := hrel
            by_cases hlt : i < N
            · have hiI : (i : Int) < (N : Int) := by omega
              have hiI0 : (0 : Int) ≤ (i : Int) := by omega
              have hnb := HS.out.nb i hlt
              obtain ⟨am, cm2, hM, hrd, _⟩ := H2.out.mor i hlt
              have x1 : wr.cell? ⟨gm, i, none⟩ = some (.slice am (n i + 64) cm2) := by
                rcases HMc.out i with h | h
                · rw [h]; exact hM
                · omega
              obtain ⟨q, hq⟩ : ∃ q, q = n i + 64 := ⟨_, rfl⟩
              rw [← hq] at x1
              have HRd := hid0 hrd
              have HQ := hid0 hq
              have hqb : q ≤ 6000000 := by omega
              have hmk : IntKind.i64.wrap (-1 - (i : Int)) = mkO i := by unfold mkO; simp [IntKind.wrap, IntKind.bits, IntKind.signed]; omega
              clear hrd hM
              go_wp2
              go_loopw [10] (fun kv wr2 => ∃ k : Nat, k ≤ q ∧ kv = .int .i64 (k : Int) ∧ wr2 = wr) (fun kv _ => q - (intOf kv).toNat)
              case atStart => exact ⟨0, Nat.zero_le _, rfl, rfl⟩
              case round =>
                obtain ⟨k, hk, rfl, rfl⟩ := hrel
                by_cases hkq : k < q
                · have hkI : (k : Int) < (q : Int) := by omega
                  have hkI0 : (0 : Int) ≤ (k : Int) := by omega
                  obtain ⟨b1, c1, g1, e1, d1, d2⟩ := HRd.out.at' (k := k) (by rw [← hq]; exact hkq)
                  rw [← hq, Value.slice.injEq] at e1
                  obtain ⟨rfl, _, rfl⟩ := e1
                  clear hq
                  generalize mkO i = mz at *
                  have hself : (mz == mz) = true := by simp
                  have hself2 : (mz != mz) = false := by simp
                  go_wp2
                  go_roundw
                  case rel => exact ⟨k + 1, by omega, by go_num, trivial⟩
                  case measure => simp [intOf]; omega
                · have hkI : ¬ (k : Int) < (q : Int) := by omega
                  clear hq
                  go_wp2
                  go_roundw
                  case rel => exact ⟨i + 1, by omega, by go_num, trivial⟩
                  case measure => simp [intOf]; omega
            · have hiI : ¬ (i : Int) < (N : Int) := by omega
              go_wp2
              go_ret
              exact ⟨rfl, H2.out.bel⟩
end Go.Proofs.YtjmmckkiicefhaaDoor
namespace Go.Proofs.YtjmmckkiicefhaaDoor
open Go.RowKit Go.Shelf
/-- The parts of a list's value. -/
def slA : Value → Option Addr
  | .slice a _ _ => a
  | _ => none
def slC : Value → Nat
  | .slice _ _ c => c
  | _ => 0
abbrev Pil := List (Value × Nat)
def pA (ps : Pil) (j : Nat) : Option Addr := slA (ps.getD j (.slice none 0 0, 0)).1
def pN (ps : Pil) (j : Nat) : Nat := (ps.getD j (.slice none 0 0, 0)).2
def pC (ps : Pil) (j : Nat) : Nat := slC (ps.getD j (.slice none 0 0, 0)).1
theorem pV {ps : Pil} (h : ∀ x ∈ ps, ∃ a c, x.1 = .slice a x.2 c) {j : Nat} (hj : j < ps.length) : vZ (pA ps) (pN ps) (pC ps) j = (ps[j]).1 := by
  obtain ⟨a, c, e⟩ := h _ (List.getElem_mem hj)
  unfold vZ pA pN pC
  rw [List.getD_eq_getElem?_getD, List.getElem?_eq_getElem hj, Option.getD_some, e]
  rfl
theorem pN_at {ps : Pil} {j : Nat} (hj : j < ps.length) : pN ps j = (ps[j]).2 := by
  unfold pN
  rw [List.getD_eq_getElem?_getD, List.getElem?_eq_getElem hj, Option.getD_some]
theorem split_lot (ps : Lot) (vl : Value) (base : Nat) (w0 W : World) (hrow : ∀ x ∈ ps, OwnI W base x.1 x.2) (hap : ps.Pairwise fun x y => ∀ g, x.1.ownBlock = some g → y.1.ownBlock ≠ some g) (hnb : ∀ x ∈ ps, x.2.length ≤ 5000000) (h0 : 0 < ps.length) (hpb : ps.length ≤ 5000000) (hout : W.ownsRow base 25 1 vl ps.length (ps.map (·.1))) (hb : Below base w0 W) (hbig : base ≤ W.heap.size) :
    Calls Tryd.prog 9 #[vl] W fun e w' => e = .returned (.bool true) ∧ Below base w0 w' ∧ Lsts W w' := by
  obtain ⟨G, C, rfl, hG1, hG2, _⟩ := own_form hout h0
  obtain ⟨cs, hcs⟩ := own_typ hout (show Value.ownBlock _ = some G from rfl)
  obtain ⟨qs, hqs⟩ : ∃ qs : Pil, qs = ps.map (fun x => (x.1, x.2.length)) := ⟨_, rfl⟩
  have hql : qs.length = ps.length := by rw [hqs, List.length_map]
  have hq : ∀ x ∈ qs, ∃ a c, x.1 = .slice a x.2 c := fun x hx => by
    rw [hqs, List.mem_map] at hx
    obtain ⟨y, hy, rfl⟩ := hx
    obtain ⟨a, c, e, _⟩ := (hrow y hy).ia
    exact ⟨a, c, e⟩
  have hat : ∀ j (hj : j < ps.length), vZ (pA qs) (pN qs) (pC qs) j = (ps[j]).1 := fun j hj => by
    rw [pV hq (by omega)]; simp [hqs]
  have hown : ∀ j (hj : j < ps.length), OwnI W base (vZ (pA qs) (pN qs) (pC qs) j) (ps[j]).2 := fun j hj => by
    rw [hat j hj]; exact hrow _ (List.getElem_mem hj)
  have hn : ∀ j (hj : j < ps.length), pN qs j = (ps[j]).2.length := fun j hj => by
    rw [pN_at (by omega)]; simp [hqs]
  have hst : Stn ps.length cs base G (pA qs) (pN qs) (pC qs) := by
    refine ⟨fun j hj => ?_, fun j k hj hk hne g h1 h2 => ?_, fun j hj => ?_, fun j hj => ?_, fun j hj b off e => ?_⟩
    · have h1 := World.ownsRow.cellAt hout j (by omega)
      rw [cell_of_row _ _ _ _ _ _ hcs] at h1
      rw [h1, hat j hj, List.getElem?_map, List.getElem?_eq_getElem hj]; rfl
    · rw [hat j hj] at h1
      rw [hat k hk] at h2
      rcases Nat.lt_or_gt_of_ne hne with q | q
      · exact List.pairwise_iff_getElem.1 hap j k hj hk q g h1 h2
      · exact List.pairwise_iff_getElem.1 hap k j hk hj q g h2 h1
    · rw [hn j hj]; exact hnb _ (List.getElem_mem hj)
    · rcases (hown j hj).2 with ⟨e, _⟩ | ⟨g, cap, cur, e, _⟩
      · exact .inl (by simp only [vZ, Value.slice.injEq] at e; exact e.1)
      · exact .inr ⟨g, by simp only [vZ, Value.slice.injEq] at e; exact e.1⟩
    · have ho := hown j hj
      rcases (hown j hj).2 with ⟨e2, _⟩ | ⟨g, cap, cur, e2, hg, _⟩
      · simp only [vZ, Value.slice.injEq] at e2
        rw [e2.1] at e
        cases e
      · simp only [vZ, Value.slice.injEq] at e2
        rw [e2.1] at e
        simp only [Option.some.injEq, Addr.mk.injEq, and_true] at e
        obtain ⟨rfl, rfl⟩ := e
        refine ⟨rfl, fun q => ?_, hg⟩
        subst q
        exact own_unlike hout ho (by decide) g rfl (by unfold vZ; rw [e2.1]; rfl)
  refine splitN_any ps.length C cs h0 hpb base G (pA qs) (pN qs) (pC qs) w0 W W hst hbig ⟨hcs, fun j hj => ⟨(ps[j]).2, (hn j hj).symm, hown j hj, fun q => absurd q (Nat.not_lt_zero _), fun _ m _ hm => absurd hm (Nat.not_lt_zero _)⟩, hb, Lsts.refl W, Nat.le_refl _⟩
abbrev Lol := List (Value × List Value)
theorem outer_lot (ps : Lol) (G C : Nat) (base : Nat) (w0 W : World) (hrow : ∀ x ∈ ps, W.ownsRow base 25 1 x.1 x.2.length x.2) (hap : ps.Pairwise fun x y => ∀ g, x.1.ownBlock = some g → y.1.ownBlock ≠ some g) (hnb : ∀ x ∈ ps, x.2.length ≤ 5000000) (h0 : 0 < ps.length) (hpb : ps.length ≤ 5000000) (hout : W.heap[G]? = some (.cells (ps.map (·.1)).toArray 22 (0, 0))) (hb : Below base w0 W) (hbig : base ≤ W.heap.size) :
    Calls Tryd.prog 10 #[.slice (some ⟨G, 0, none⟩) ps.length C] W fun e w' => e = .returned (.bool true) ∧ Below base w0 w' := by
  obtain ⟨qs, hqs⟩ : ∃ qs : Pil, qs = ps.map (fun x => (x.1, x.2.length)) := ⟨_, rfl⟩
  have hql : qs.length = ps.length := by rw [hqs, List.length_map]
  have hq : ∀ x ∈ qs, ∃ a c, x.1 = .slice a x.2 c := fun x hx => by
    rw [hqs, List.mem_map] at hx
    obtain ⟨y, hy, rfl⟩ := hx
    exact own_shape (hrow y hy)
  have hat : ∀ j (hj : j < ps.length), vZ (pA qs) (pN qs) (pC qs) j = (ps[j]).1 := fun j hj => by
    rw [pV hq (by omega)]; simp [hqs]
  have hn : ∀ j (hj : j < ps.length), pN qs j = (ps[j]).2.length := fun j hj => by
    rw [pN_at (by omega)]; simp [hqs]
  have hst : Sto ps.length (ps.map (·.1)).toArray (pA qs) (pN qs) (pC qs) := by
    refine ⟨fun j hj => ?_, fun j k hj hk hne g h1 h2 => ?_, fun j hj => ?_⟩
    · rw [hat j hj, List.getElem?_toArray, List.getElem?_map, List.getElem?_eq_getElem hj]; rfl
    · rw [hat j hj] at h1
      rw [hat k hk] at h2
      rcases Nat.lt_or_gt_of_ne hne with q | q
      · exact List.pairwise_iff_getElem.1 hap j k hj hk q g h1 h2
      · exact List.pairwise_iff_getElem.1 hap k j hk hj q g h2 h1
    · rw [hn j hj]; exact hnb _ (List.getElem_mem hj)
  exact outerN_any ps.length C _ h0 hpb base G (pA qs) (pN qs) (pC qs) w0 W hst hbig ⟨hout, fun j hj => ⟨(ps[j]).2, (hn j hj).symm, by rw [hat j hj]; exact hrow _ (List.getElem_mem hj), fun q => absurd q (Nat.not_lt_zero _), fun _ m _ hm => absurd hm (Nat.not_lt_zero _)⟩, hb, hbig⟩
end Go.Proofs.YtjmmckkiicefhaaDoor
namespace Go.Proofs.YtjmmckkiicefhaaDoor
def Fl (FN : List Nat) (c : Nat) : Nat := FN.getD c 0
def Lg1 (L : List Nat) (i : Nat) : Nat := L.getD i 0
theorem Fl_old {FN : List Nat} {v c : Nat} (h : c < FN.length) : Fl (FN ++ [v]) c = Fl FN c := by
  unfold Fl
  rw [List.getD_eq_getElem?_getD, List.getD_eq_getElem?_getD, List.getElem?_append_left h]
theorem Fl_new (FN : List Nat) (v : Nat) : Fl (FN ++ [v]) FN.length = v := by
  unfold Fl
  rw [List.getD_eq_getElem?_getD, List.getElem?_append_right (Nat.le_refl _)]
  simp
theorem top_old {FN : List Nat} {v c : Nat} (h : c ≤ FN.length) : top (Fl (FN ++ [v])) c = top (Fl FN) c := top_congr (fun j hj => Fl_old (by omega))
/-- One more than the number of a state among those met; 0: it was not met. -/
def nuF (L : List Nat) (s : Nat) : Nat := if s ∈ L then L.idxOf s + 1 else 0
structure BfI (m st : Nat) (N : List (List Int)) (L FN : List Nat) (i j : Nat) : Prop where
  nd : L.Nodup
  h0 : Lg1 L 0 = st ∧ 0 < L.length
  lt : ∀ x ∈ L, x < N.length
  len : FN.length = i * m + j
  cell : ∀ c, c < FN.length → Fl FN c < L.length ∧ Lg1 L (Fl FN c) = nxF N (Lg1 L (c / m)) (c % m)
  up : ∀ c, c < FN.length → Fl FN c ≤ top (Fl FN) c + 1
  cnt : L.length = top (Fl FN) FN.length + 1
  row : ∀ q, q < i → q ≤ top (Fl FN) (q * m)
  il : i ≤ L.length
theorem bfI_zero (m : Nat) {st : Nat} {N : List (List Int)} (h : st < N.length) : BfI m st N [st] [] 0 0 :=
  ⟨by simp, ⟨rfl, by simp⟩, fun x hx => by rw [List.mem_singleton.1 hx]; exact h, by simp, fun c h => absurd h (Nat.not_lt_zero _), fun c h => absurd h (Nat.not_lt_zero _), by simp [top], fun q h => absurd h (Nat.not_lt_zero _), by simp⟩
theorem Lg1_mem {L : List Nat} {i : Nat} (h : i < L.length) : Lg1 L i ∈ L := by
  unfold Lg1
  rw [List.getD_eq_getElem?_getD, List.getElem?_eq_getElem h]
  exact List.getElem_mem h
theorem Lg1_idx {L : List Nat} {y : Nat} (h : y ∈ L) : Lg1 L (L.idxOf y) = y := by
  have hi := List.idxOf_lt_length_iff.2 h
  unfold Lg1
  rw [List.getD_eq_getElem?_getD, List.getElem?_eq_getElem hi]
  exact List.getElem_idxOf hi
theorem Lg1_old {L : List Nat} {y i : Nat} (h : i < L.length) : Lg1 (L ++ [y]) i = Lg1 L i := by
  unfold Lg1
  rw [List.getD_eq_getElem?_getD, List.getD_eq_getElem?_getD, List.getElem?_append_left h]
theorem Lg1_new (L : List Nat) (y : Nat) : Lg1 (L ++ [y]) L.length = y := by
  unfold Lg1
  rw [List.getD_eq_getElem?_getD, List.getElem?_append_right (Nat.le_refl _)]
  simp
section
variable {m st : Nat} {N : List (List Int)} {L FN : List Nat} {i j : Nat}
/-- A state that was met. -/
theorem BfI.old (h : BfI m st N L FN i j) (hj : j < m) (_hi : i < L.length) {y : Nat} (hy : y = nxF N (Lg1 L i) j) (hm : y ∈ L) : BfI m st N L (FN ++ [L.idxOf y]) i (j + 1) := by
  have hidx := List.idxOf_lt_length_iff.2 hm
  have hcnt := h.cnt
  have hdiv : FN.length / m = i ∧ FN.length % m = j := by
    rw [h.len, Nat.mul_comm, Nat.mul_add_div (by omega), Nat.div_eq_of_lt hj, Nat.mul_add_mod, Nat.mod_eq_of_lt hj]
    exact ⟨by omega, rfl⟩
  refine ⟨h.nd, h.h0, h.lt, by rw [List.length_append, h.len]; simp; omega, fun c hc => ?_, fun c hc => ?_, ?_, fun q hq => ?_, h.il⟩
  · rw [List.length_append, List.length_singleton] at hc
    by_cases e : c = FN.length
    · subst e
      rw [Fl_new, hdiv.1, hdiv.2, Lg1_idx hm]
      exact ⟨hidx, hy⟩
    · rw [Fl_old (by omega)]
      exact h.cell c (by omega)
  · rw [List.length_append, List.length_singleton] at hc
    rw [top_old (by omega)]
    by_cases e : c = FN.length
    · subst e
      rw [Fl_new]
      omega
    · rw [Fl_old (by omega)]
      exact h.up c (by omega)
  · rw [List.length_append, List.length_singleton, top_succ, top_old (Nat.le_refl _), Fl_new]
    omega
  · have hle : q * m ≤ FN.length := by rw [h.len]; have := Nat.mul_le_mul_right m (Nat.le_of_lt hq); omega
    rw [top_old hle]
    exact h.row q hq
/-- A new one. -/
theorem BfI.new (h : BfI m st N L FN i j) (hj : j < m) (hi : i < L.length) {y : Nat} (hy : y = nxF N (Lg1 L i) j) (hyn : y < N.length) (hm : y ∉ L) : BfI m st N (L ++ [y]) (FN ++ [L.length]) i (j + 1) := by
  have hcnt := h.cnt
  have hdiv : FN.length / m = i ∧ FN.length % m = j := by
    rw [h.len, Nat.mul_comm, Nat.mul_add_div (by omega), Nat.div_eq_of_lt hj, Nat.mul_add_mod, Nat.mod_eq_of_lt hj]
    exact ⟨by omega, rfl⟩
  refine ⟨?_, ⟨by rw [Lg1_old h.h0.2]; exact h.h0.1, by simp⟩, fun x hx => ?_, by rw [List.length_append, h.len]; simp; omega, fun c hc => ?_, fun c hc => ?_, ?_, fun q hq => ?_, by rw [List.length_append]; have := h.il; omega⟩
  · rw [List.nodup_append]
    exact ⟨h.nd, by simp, fun a ha b hb e => hm (by rw [← List.mem_singleton.1 hb, ← e]; exact ha)⟩
  · rcases List.mem_append.1 hx with hx | hx
    · exact h.lt x hx
    · rw [List.mem_singleton.1 hx]; exact hyn
  · rw [List.length_append, List.length_singleton] at hc ⊢
    by_cases e : c = FN.length
    · subst e
      rw [Fl_new, hdiv.1, hdiv.2, Lg1_new, Lg1_old hi]
      exact ⟨by omega, hy⟩
    · rw [Fl_old (by omega)]
      obtain ⟨h1, h2⟩ := h.cell c (by omega)
      have hcm : c / m < L.length := by
        have : c / m ≤ i := by
          rw [← hdiv.1]
          exact Nat.div_le_div_right (by omega)
        omega
      rw [Lg1_old h1, Lg1_old hcm]
      exact ⟨by omega, h2⟩
  · rw [List.length_append, List.length_singleton] at hc
    rw [top_old (by omega)]
    by_cases e : c = FN.length
    · subst e
      rw [Fl_new]
      omega
    · rw [Fl_old (by omega)]
      exact h.up c (by omega)
  · rw [List.length_append, List.length_append, List.length_singleton, List.length_singleton, top_succ, top_old (Nat.le_refl _), Fl_new]
    omega
  · have hle : q * m ≤ FN.length := by rw [h.len]; have := Nat.mul_le_mul_right m (Nat.le_of_lt hq); omega
    rw [top_old hle]
    exact h.row q hq
theorem BfI.next (h : BfI m st N L FN i m) (hi : i < L.length) (hc : i ≤ top (Fl FN) (i * m)) : BfI m st N L FN (i + 1) 0 :=
  ⟨h.nd, h.h0, h.lt, by rw [h.len, Nat.add_mul]; omega, h.cell, h.up, h.cnt, fun q hq => by
    by_cases e : q = i
    · subst e; exact hc
    · exact h.row q (by omega), by omega⟩
theorem BfI.cur (h : BfI m st N L FN i 0) (hi : i < L.length) : i ≤ top (Fl FN) (i * m) := by
  have h1 := h.cnt
  simp only [h.len, Nat.add_zero] at h1
  omega
theorem cur_more {v : Nat} (h : i ≤ top (Fl FN) (i * m)) (hl : i * m ≤ FN.length) : i ≤ top (Fl (FN ++ [v])) (i * m) := by rw [top_old hl]; exact h
/-- All have been gone through. -/
theorem BfI.done (h : BfI m st N L FN i 0) (hi : i = L.length) : Whl m st N L.length (Lg1 L) (Fl FN) := by
  have hl := h.len
  rw [Nat.add_zero, hi] at hl
  have hc : ∀ q c, q < L.length → c < m → q * m + c < FN.length ∧ (q * m + c) / m = q ∧ (q * m + c) % m = c := fun q c hq hc => by
    have := Nat.mul_le_mul_right m (show q + 1 ≤ L.length by omega)
    rw [Nat.add_mul] at this
    refine ⟨by omega, ?_, ?_⟩
    · rw [Nat.mul_comm, Nat.mul_add_div (by omega), Nat.div_eq_of_lt hc, Nat.add_zero]
    · rw [Nat.mul_comm, Nat.mul_add_mod, Nat.mod_eq_of_lt hc]
  refine ⟨h.h0.2, nodup_le _ _ h.nd h.lt, h.h0.1, fun q hq => h.lt _ (Lg1_mem hq), fun q c hq hcm => (h.cell _ (hc q c hq hcm).1).1, fun q c hq hcm => ?_, ⟨fun c hcl => h.up c (by omega), fun q hq => h.row q (by omega)⟩⟩
  obtain ⟨a, b, d⟩ := hc q c hq hcm
  have := (h.cell _ a).2
  rw [b, d] at this
  exact this
end
theorem idxOf_add1 (y : Nat) : ∀ (L : List Nat) (s : Nat), (s ∈ L → (L ++ [y]).idxOf s = L.idxOf s) ∧ (y ∉ L → (L ++ [y]).idxOf y = L.length) := by
  intro L
  induction L with
  | nil => intro s; exact ⟨fun h => absurd h (by simp), fun _ => by simp⟩
  | cons a L ih =>
    intro s
    refine ⟨fun h => ?_, fun h => ?_⟩
    · rw [List.cons_append, List.idxOf_cons, List.idxOf_cons]
      by_cases e : a = s
      · simp [e]
      · have hm : s ∈ L := by
          rcases List.mem_cons.1 h with h | h
          · exact absurd h.symm e
          · exact h
        rw [(ih s).1 hm]
    · have h1 : ¬ a = y := fun e => h (by simp [e])
      have h2 : y ∉ L := fun e => h (by simp [e])
      rw [List.cons_append, List.idxOf_cons, (ih s).2 h2, show (a == y) = false from beq_false_of_ne h1]
      rfl
theorem nuF_put {L : List Nat} {y : Nat} (hy : y ∉ L) (s : Nat) : nuF (L ++ [y]) s = if s = y then L.length + 1 else nuF L s := by
  unfold nuF
  by_cases e : s = y
  · subst e
    rw [if_pos (by simp), if_pos rfl, (idxOf_add1 s L s).2 hy]
  · rw [if_neg e]
    by_cases hm : s ∈ L
    · rw [if_pos (by simp [hm]), if_pos hm, (idxOf_add1 y L s).1 hm]
    · rw [if_neg (by simp [hm, e]), if_neg hm]
end Go.Proofs.YtjmmckkiicefhaaDoor
namespace Go.Proofs.YtjmmckkiicefhaaDoor
/-- How many of the first cells lead to a state. -/
def cuF (F : Nat → Nat) : Nat → Nat → Nat
  | 0, _ => 0
  | c + 1, s => cuF F c s + (if F c = s then 1 else 0)
theorem cuF_mono (F : Nat → Nat) {c d : Nat} (h : c ≤ d) (s : Nat) : cuF F c s ≤ cuF F d s := by
  induction d with
  | zero => obtain rfl : c = 0 := by omega
            exact Nat.le_refl _
  | succ d ih =>
    by_cases e : c = d + 1
    · subst e; exact Nat.le_refl _
    · have := ih (by omega)
      rw [cuF]
      omega
theorem cuF_le (F : Nat → Nat) (s : Nat) : ∀ c, cuF F c s ≤ c
  | 0 => Nat.le_refl _
  | c + 1 => by
    have := cuF_le F s c
    rw [cuF]
    split <;> omega
theorem cuF_lt (F : Nat → Nat) {c N : Nat} (h : c < N) : cuF F c (F c) < cuF F N (F c) := by
  have h1 := cuF_mono F (show c + 1 ≤ N by omega) (F c)
  rw [cuF, if_pos rfl] at h1
  omega
/-- Of the states below one: how many of the first cells lead to them. -/
def preC (F : Nat → Nat) (c : Nat) : Nat → Nat
  | 0 => 0
  | k + 1 => preC F c k + cuF F c k
theorem preC_zero (F : Nat → Nat) : ∀ k, preC F 0 k = 0
  | 0 => rfl
  | k + 1 => by rw [preC, preC_zero F k]; rfl
theorem preC_succ (F : Nat → Nat) (c : Nat) : ∀ k, preC F (c + 1) k = preC F c k + (if F c < k then 1 else 0)
  | 0 => by simp [preC]
  | k + 1 => by
    rw [preC, preC, preC_succ F c k, cuF]
    by_cases e : F c = k
    · rw [if_pos e, if_neg (by omega), if_pos (by omega)]; omega
    · rw [if_neg e]
      by_cases e2 : F c < k
      · rw [if_pos e2, if_pos (by omega)]; omega
      · rw [if_neg e2, if_neg (by omega)]; omega
theorem preC_all {F : Nat → Nat} {n : Nat} : ∀ c, (∀ d, d < c → F d < n) → preC F c n = c
  | 0, _ => preC_zero F n
  | c + 1, h => by rw [preC_succ, preC_all c (fun d hd => h d (by omega)), if_pos (h c (by omega))]
theorem preC_mono (F : Nat → Nat) (c : Nat) {a b : Nat} (h : a ≤ b) : preC F c a ≤ preC F c b := by
  induction b with
  | zero => obtain rfl : a = 0 := by omega
            exact Nat.le_refl _
  | succ b ih =>
    by_cases e : a = b + 1
    · subst e; exact Nat.le_refl _
    · have := ih (by omega)
      rw [preC]
      omega
/-- Cells put to their states' places, the first so many. -/
structure Into (F : Nat → Nat) (n N c : Nat) (ce : Nat → Nat) : Prop where
  fw : ∀ s, s < n → ∀ j, j < cuF F c s → ce (preC F N s + j) < c ∧ F (ce (preC F N s + j)) = s
  bw : ∀ d, d < c → ∃ j, j < cuF F c (F d) ∧ ce (preC F N (F d) + j) = d
theorem into_zero (F : Nat → Nat) (n N : Nat) (ce : Nat → Nat) : Into F n N 0 ce := ⟨fun _s _ _j h => absurd h (Nat.not_lt_zero _), fun _d h => absurd h (Nat.not_lt_zero _)⟩
theorem Into.put {F : Nat → Nat} {n N c : Nat} {ce : Nat → Nat} (h : Into F n N c ce) (hc : c < N) (hF : ∀ d, d < N → F d < n) : Into F n N (c + 1) (putF ce (preC F N (F c) + cuF F c (F c)) c) := by
  have hsep : ∀ s j, s < n → j < cuF F c s → preC F N s + j ≠ preC F N (F c) + cuF F c (F c) := fun s j hs hj e => by
    have h1 := cuF_mono F (Nat.le_of_lt hc) s
    have h2 := cuF_lt F hc
    rcases Nat.lt_trichotomy s (F c) with hl | hl | hl
    · have := preC_mono F N (show s + 1 ≤ F c by omega)
      rw [preC] at this
      omega
    · subst hl; omega
    · have := preC_mono F N (show F c + 1 ≤ s by omega)
      rw [preC] at this
      omega
  refine ⟨fun s hs j hj => ?_, fun d hd => ?_⟩
  · rw [cuF] at hj
    unfold putF
    by_cases e : j < cuF F c s
    · rw [if_neg (hsep s j hs e)]
      have := h.fw s hs j e
      exact ⟨by omega, this.2⟩
    · have e2 : F c = s := by
        apply Classical.byContradiction
        intro hne
        rw [if_neg hne] at hj
        omega
      subst e2
      rw [if_pos rfl] at hj
      rw [if_pos (by omega)]
      exact ⟨by omega, rfl⟩
  · unfold putF
    by_cases e : d = c
    · subst e
      exact ⟨cuF F d (F d), by rw [cuF, if_pos rfl]; omega, by rw [if_pos rfl]⟩
    · obtain ⟨j, h1, h2⟩ := h.bw d (by omega)
      refine ⟨j, by rw [cuF]; omega, ?_⟩
      rw [if_neg (hsep _ j (hF d (by omega)) h1)]
      exact h2
theorem cnt_one (y : Nat) : ∀ (l : List Nat), l.Nodup → (l.map fun x => if y = x then 1 else 0).sum ≤ 1
  | [], _ => by simp
  | x :: l, h => by
    have h' := List.nodup_cons.1 h
    rw [List.map_cons, List.sum_cons]
    by_cases e : y = x
    · rw [if_pos e]
      have hz : (l.map fun x => if y = x then 1 else 0).sum = 0 := by
        have : ∀ (m : List Nat), y ∉ m → (m.map fun x => if y = x then 1 else 0).sum = 0 := by
          intro m
          induction m with
          | nil => intro _; rfl
          | cons z m ih =>
            intro hm
            rw [List.map_cons, List.sum_cons, if_neg (fun e => hm (by rw [e]; exact .head _)), ih (fun hh => hm (.tail _ hh))]
        exact this l (by rw [e]; exact h'.1)
      omega
    · rw [if_neg e]
      have := cnt_one y l h'.2
      omega
theorem map_sum_add (f g : Nat → Nat) : ∀ l : List Nat, (l.map fun x => f x + g x).sum = (l.map f).sum + (l.map g).sum
  | [] => rfl
  | x :: l => by rw [List.map_cons, List.sum_cons, map_sum_add f g l, List.map_cons, List.sum_cons, List.map_cons, List.sum_cons]; omega
theorem cnt_all (F : Nat → Nat) (l : List Nat) (h : l.Nodup) : ∀ N, (l.map (cuF F N)).sum ≤ N
  | 0 => by
    have : l.map (cuF F 0) = l.map fun _ => 0 := List.map_congr_left (fun x _ => rfl)
    rw [this]
    clear this h
    induction l with
    | nil => simp
    | cons x l ih => rw [List.map_cons, List.sum_cons]; omega
  | N + 1 => by
    have e : l.map (cuF F (N + 1)) = l.map fun x => cuF F N x + (if F N = x then 1 else 0) := List.map_congr_left (fun x _ => rfl)
    rw [e, map_sum_add (cuF F N) (fun x => if F N = x then 1 else 0)]
    have h1 := cnt_all F l h N
    have h2 := cnt_one (F N) l h
    omega
end Go.Proofs.YtjmmckkiicefhaaDoor
namespace Go.Proofs.YtjmmckkiicefhaaDoor
open Go.RowKit Go.Shelf Go.Lib Go.Maps
set_option maxRecDepth 100000 in
set_option maxHeartbeats 800000 in
theorem newGroups_any (w : World) : Calls Tryd.prog 44 #[] w fun e w' => ∃ GB MB, e = .returned (.pointer (some ⟨GB, 0, none⟩)) ∧ Gp w' w.heap.size GB MB (.slice none 0 0) [] [] [] ∧ Below w.heap.size w w' := by
  obtain ⟨w1, hw1⟩ : ∃ w1, w1 = w.alloc (.map #[] 0) := ⟨_, rfl⟩
  obtain ⟨w2, hw2⟩ : ∃ w2, w2 = w1.alloc (.cells #[.map (some w.heap.size), .slice none 0 0] 82) := ⟨_, rfl⟩
  have hs1 : w1.heap.size = w.heap.size + 1 := by rw [hw1]; simp
  have h1 : MapS w1 w.heap.size [] := by rw [hw1]; exact MapS.made w
  have hB1 : Below w.heap.size w w1 := by rw [hw1]; exact (Below.refl _ _).alloc (Nat.le_refl _) _
  have hB2 : Below w.heap.size w w2 := by rw [hw2]; exact hB1.alloc (by omega) _
  have HF : Hid (Gp w2 w.heap.size w1.heap.size w.heap.size (.slice none 0 0) [] [] [] ∧ Below w.heap.size w w2) := hid0 ⟨⟨by rw [hw2]; exact heap_alloc_new _ _, h1.keep (by rw [hw2]; exact Below.heap_alloc _ _ _ (by omega)), Bag.nil _ _, rfl, rfl, by omega, Nat.le_refl _⟩, hB2⟩
  have q1 := hw1.symm
  have q2 := hw2.symm
  have hmm : ∀ w : World, (Instr.makeMap 80 none).run Tryd.prog w = .ok (.map (some w.heap.size)) (w.alloc (.map #[] 0)) := fun _ => rfl
  clear hw1 hw2 hs1 h1 hB1 hB2
  go_enter Tryd.func44, Tryd.ntmps44
  go_wp2
  go_ret
  exact ⟨_, _, rfl, HF.out⟩
/-- The group that a state is put to is there. -/
structure GpA (w W : World) (lo GB MB : Nat) (vl : Value) (ks : List (List UInt8)) (ps : Lot) (Ls : List (List Nat)) (y : Nat) (ks0 : List (List UInt8)) (Ls0 : List (List Nat)) (key : List UInt8) (s : Nat) : Prop where
  gp : Gp W lo GB MB vl ks ps Ls
  lt : y < ps.length
  is : (ks, Ls.set y (Ls.getD y [] ++ [s])) = gput ks0 Ls0 key s
  bel : Below lo w W
  byt : KeepT w W
theorem GpA.drew {w W : World} {lo GB MB : Nat} {vl : Value} {ks : List (List UInt8)} {ps : Lot} {Ls : List (List Nat)} {y : Nat} {ks0 : List (List UInt8)} {Ls0 : List (List Nat)} {key : List UInt8} {s : Nat} (h : GpA w W lo GB MB vl ks ps Ls y ks0 Ls0 key s) (k : Nat) : GpA w (W.drewN k) lo GB MB vl ks ps Ls y ks0 Ls0 key s :=
  ⟨h.gp.bytes (Only.drewN W k (fun _ => False)) (fun _ hf => False.elim hf), h.lt, h.is, below_drew' h.bel k, ⟨h.byt.size, h.byt.byt⟩⟩
theorem lot_at {ps : Lot} {Ls : List (List Nat)} (h : ps.map (·.2) = Ls.map natI) {y : Nat} (hy : y < ps.length) : (ps[y]).2 = natI (Ls.getD y []) ∧ y < Ls.length := by
  have hl : ps.length = Ls.length := by simpa using congrArg List.length h
  have h1 : (ps.map (·.2))[y]? = (Ls.map natI)[y]? := by rw [h]
  rw [List.getElem?_map, List.getElem?_map, List.getElem?_eq_getElem hy, List.getElem?_eq_getElem (by omega)] at h1
  refine ⟨?_, by omega⟩
  rw [List.getD_eq_getElem?_getD, List.getElem?_eq_getElem (by omega)]
  simpa using h1
/-- A state is put to a group. -/
theorem GpA.put {w W w2 : World} {lo GB MB g n c : Nat} {ks : List (List UInt8)} {ps : Lot} {Ls : List (List Nat)} {y : Nat} {ks0 : List (List UInt8)} {Ls0 : List (List Nat)} {key : List UInt8} {s : Nat} {v' : Value} {o : Obj} (h : GpA w W lo GB MB (.slice (some ⟨g, 0, none⟩) n c) ks ps Ls y ks0 Ls0 key s) (hn : n = ps.length)
    (hown : w2.ownsRow lo 3 1 v' ((ps[y]'h.lt).2.length + 1) ((ps[y]'h.lt).2.map (Value.int .i64) ++ [.int .i64 (s : Int)])) (hgrow : (W.alloc o).grownBy w2 (ps[y]'h.lt).1.ownBlock) (hat : v'.ownBlock = (ps[y]'h.lt).1.ownBlock ∨ v'.ownBlock = some (W.alloc o).heap.size) :
    w2.cell? ⟨g, y, none⟩ = some (ps[y]'h.lt).1 ∧ w2.frozen? ⟨g, y, none⟩ = false ∧ w2.cell? ⟨GB, 1, none⟩ = some (.slice (some ⟨g, 0, none⟩) n c) ∧ ∃ ps', Gp (w2.setCell ⟨g, y, none⟩ v') lo GB MB (.slice (some ⟨g, 0, none⟩) n c) (gput ks0 Ls0 key s).1 ps' (gput ks0 Ls0 key s).2 ∧ Below lo w (w2.setCell ⟨g, y, none⟩ v') ∧ KeepT w (w2.setCell ⟨g, y, none⟩ v') := by
  have hy := h.lt
  obtain ⟨c1, c2, c3⟩ := h.gp.bag.grown hn y hy rfl hgrow
  have hmem : ps[y] ∈ ps := List.getElem_mem hy
  have hO : Only W w2 (fun k => (ps[y]).1.ownBlock = some k) := ⟨hgrow.os, hgrow.tape, hgrow.output, by have := hgrow.size; simp at this; omega, fun k hk hs => c3 k hk hs⟩
  have key' : ∀ {b : Nat}, b < W.heap.size → (∀ cs, W.heap[b]? ≠ some (Obj.cells cs 3 (0, 0))) → w2.heap[b]? = W.heap[b]? := fun {b} hb hne => c3 b hb (fun e => by
    obtain ⟨cs, hc⟩ := own_ty (h.gp.bag.row _ hmem) e
    exact hne cs hc)
  have hgl := World.ownsRow.lt h.gp.bag.outer g rfl
  obtain ⟨csg, hcg⟩ := own_ty h.gp.bag.outer (k := g) rfl
  have hGB := key' h.gp.cell.2.2.2 (fun cs e => by rw [h.gp.blk] at e; cases e)
  obtain ⟨es, clock, hm⟩ := h.gp.mp.isMap
  have hMB := key' h.gp.mp.lt (fun cs e => by rw [hm] at e; cases e)
  have hgG : g ≠ GB := blk_ne hcg h.gp.blk (by decide)
  have hgM : g ≠ MB := fun e => by rw [← e, hcg] at hm; cases hm
  have hv : OwnI w2 lo v' ((ps[y]).2 ++ [(s : Int)]) := by
    unfold OwnI
    rw [List.length_append, List.length_singleton, List.map_append]
    exact hown
  have hnew : ∀ q, v'.ownBlock = some q → (ps[y]).1.ownBlock = some q ∨ W.heap.size ≤ q := fun q hq => by
    rcases hat with e | e
    · exact .inl (by rw [← e]; exact hq)
    · rw [e] at hq
      cases hq
      exact .inr (by simp)
  have hbag := h.gp.bag.set hn y hy c3 hv hnew
  have hset : ∀ b, b ≠ g → (w2.setCell ⟨g, y, none⟩ v').heap[b]? = w2.heap[b]? := fun b hb => Below.heap_setCell _ _ _ _ hb
  obtain ⟨p2, p3⟩ := lot_at h.gp.pl hy
  have his := h.is
  have hks : (gput ks0 Ls0 key s).1 = ks := by rw [← his]
  have hLs : (gput ks0 Ls0 key s).2 = Ls.set y (Ls.getD y [] ++ [s]) := by rw [← his]
  refine ⟨c1, c2, ?_, _, ⟨?_, ?_, hbag, ?_, ?_, h.gp.lo'⟩, ?_, ?_⟩
  · exact (World.cell?_of_block (w := W) (a := ⟨GB, 1, none⟩) hGB).trans h.gp.cell.2.1
  · exact (hset _ (Ne.symm hgG)).trans (hGB.trans h.gp.blk)
  · rw [hks]; exact h.gp.mp.keep ((hset _ (Ne.symm hgM)).trans hMB)
  · rw [hLs, List.map_set, List.map_set, h.gp.pl, p2]
    congr 1
    simp [natI]
  · rw [hks, hLs, List.length_set]; exact h.gp.len
  · exact (h.bel.trans ((hO.below (B := lo) (by have := hgl.1; have := hgl.2; omega) (fun i hi => (World.ownsRow.lt (h.gp.bag.row _ hmem) i hi).1)))).setCell (p := ⟨g, y, none⟩) hgl.1 _
  · refine h.byt.trans ((KeepT.only hO (fun k hk cs hc => ?_)).trans (KeepT.only (Only.setCell _ _ _ _) (fun k hk cs hc => ?_)))
    · obtain ⟨cs', hc'⟩ := own_ty (h.gp.bag.row _ hmem) hk
      exact blk_ne hc hc' (by decide) rfl
    · rw [hk, c3 g hgl.2 (h.gp.bag.away _ hmem g rfl), hcg] at hc
      cases hc
/-- A new group, still empty. -/
theorem Gp.fresh {W w1 w2 : World} {lo GB MB : Nat} {vl v' : Value} {ks : List (List UInt8)} {ps : Lot} {Ls : List (List Nat)} {key : List UInt8} {s : Nat} {o : Obj} (h : Gp W lo GB MB vl ks ps Ls) (hk : key ∉ ks) (hmp : MapS w1 MB (ks ++ [key])) (hg1 : W.grownBy w1 (some MB))
    (hown : w2.ownsRow lo 25 1 v' (Ls.length + 1) (ps.map (·.1) ++ [.slice none 0 0])) (hgrow : (w1.alloc o).grownBy w2 vl.ownBlock) (hat : v'.ownBlock = vl.ownBlock ∨ v'.ownBlock = some (w1.alloc o).heap.size) :
    w2.cell? ⟨GB, 1, none⟩ = some vl ∧ w2.frozen? ⟨GB, 1, none⟩ = false ∧ GpA W (w2.setCell ⟨GB, 1, none⟩ v') lo GB MB v' (ks ++ [key]) (ps ++ [(.slice none 0 0, [])]) (Ls ++ [[]]) Ls.length ks Ls key s := by
  obtain ⟨es, clock, hm⟩ := h.mp.isMap
  have hpl := h.plen
  have hO1 : Only W w1 (fun k => k = MB) := ⟨hg1.os, hg1.tape, hg1.output, hg1.size, fun k hk hs => hg1.block k hk (fun e => hs (by cases e; rfl))⟩
  have nm : ∀ {b : Nat} {cs : Array Value} {t : TypeId}, W.heap[b]? = some (.cells cs t (0, 0)) → b ≠ MB := fun {b cs t} hb e => by rw [e, hm] at hb; cases hb
  have k1 : ∀ {b : Nat} {cs : Array Value} {t : TypeId}, W.heap[b]? = some (.cells cs t (0, 0)) → w1.heap[b]? = W.heap[b]? := fun {b cs t} hb => hO1.block b (Array.getElem?_eq_some_iff.1 hb).1 (nm hb)
  have hbag1 : Bag w1 lo vl ps := ⟨own_blk h.bag.outer (fun k hk => by obtain ⟨cs, hc⟩ := own_ty h.bag.outer hk; exact k1 hc), fun x hx => own_blk (h.bag.row x hx) (fun k hk => by obtain ⟨cs, hc⟩ := own_ty (h.bag.row x hx) hk; exact k1 hc), h.bag.apart, h.bag.away⟩
  have hlo1 : lo ≤ w1.heap.size := by have := h.lo'.1; have := h.cell.2.2.2; have := hO1.size; omega
  obtain ⟨hbag, hbel⟩ := Bag.snoc (W := w1) (wr := w1) (x := .slice none 0 0) (l := []) hpl.symm hbag1 (Below.refl _ _) (World.ownsRow_nil _ _ _ _) hlo1 hown hgrow hat (Below.refl lo w1)
  have hO2 : Only w1 w2 (fun k => vl.ownBlock = some k) := ⟨hgrow.os, hgrow.tape, hgrow.output, by have := hgrow.size; simp at this; omega, fun k hk hs => (hgrow.block k (by simp; omega) (fun e => hs e.symm)).trans (heap_alloc_old w1 o hk)⟩
  have k2 : ∀ {b : Nat}, b < w1.heap.size → (∀ cs, w1.heap[b]? ≠ some (Obj.cells cs 25 (0, 0))) → w2.heap[b]? = w1.heap[b]? := fun {b} hb hne => hO2.block b hb (fun e => by
    obtain ⟨cs, hc⟩ := own_ty hbag1.outer e
    exact hne cs hc)
  have hG1 := (k1 h.blk).trans h.blk
  have hG2 := (k2 (Array.getElem?_eq_some_iff.1 hG1).1 (fun cs e => by rw [hG1] at e; cases e)).trans hG1
  obtain ⟨es1, cl1, hm1⟩ := hmp.isMap
  have hM2 := k2 hmp.lt (fun cs e => by rw [hm1] at e; cases e)
  have hset : ∀ b, b ≠ GB → (w2.setCell ⟨GB, 1, none⟩ v').heap[b]? = w2.heap[b]? := fun b hb => Below.heap_setCell _ _ _ _ hb
  have hMG : MB ≠ GB := (nm h.blk).symm
  refine ⟨by rw [cell_of_row _ _ _ _ _ _ hG2]; rfl, by simp [World.frozen?, hG2], ⟨⟨heap_setCell_same _ _ 1 _ _ v' hG2, hmp.keep ((hset _ hMG).trans hM2), ⟨own_blk hbag.outer (fun k hk => hset _ ?_), fun x hx => own_blk (hbag.row x hx) (fun k hk => hset _ ?_), hbag.apart, hbag.away⟩, ?_, ?_, h.lo'⟩, ?_, ?_, ?_, ?_⟩⟩
  · obtain ⟨cs, hc⟩ := own_ty hbag.outer hk
    exact blk_ne hc hG2 (by decide)
  · obtain ⟨cs, hc⟩ := own_ty (hbag.row x hx) hk
    exact blk_ne hc hG2 (by decide)
  · rw [List.map_append, List.map_append, h.pl]
    rfl
  · rw [List.length_append, List.length_append, h.len]
    rfl
  · rw [List.length_append]; simp; omega
  · have e1 : (Ls ++ [[]]).getD Ls.length [] = ([] : List Nat) := by rw [List.getD_eq_getElem?_getD, List.getElem?_append_right (Nat.le_refl _)]; simp
    have e2 : (Ls ++ [[]]).set Ls.length [s] = Ls ++ [[s]] := by
      rw [List.set_append_right _ _ (Nat.le_refl _)]
      simp
    rw [e1, List.nil_append, e2]
    unfold gput
    rw [if_neg hk]
  · exact ((hO1.below (B := lo) (by have := h.lo'.1; have := h.cell.2.2.2; omega) (fun i hi => by rw [hi]; exact h.lo'.2)).trans hbel).setCell (p := ⟨GB, 1, none⟩) h.lo'.1 _
  · refine (KeepT.only hO1 (fun k hk cs hc => ?_)).trans ((KeepT.only hO2 (fun k hk cs hc => ?_)).trans (KeepT.only (Only.setCell _ _ _ _) (fun k hk cs hc => ?_)))
    · rw [hk, hm] at hc; cases hc
    · obtain ⟨cs', hc'⟩ := own_ty hbag1.outer hk
      exact blk_ne hc hc' (by decide) rfl
    · rw [hk, hG2] at hc
      cases hc
/-- What add leaves. -/
def AddR (w w' : World) (lo GB MB : Nat) (ks : List (List UInt8)) (Ls : List (List Nat)) (key : List UInt8) (s : Nat) : Prop := ∃ vl ps, Gp w' lo GB MB vl (gput ks Ls key s).1 ps (gput ks Ls key s).2 ∧ Below lo w w' ∧ KeepT w w'
set_option maxRecDepth 100000 in
set_option maxHeartbeats 1600000 in
theorem gadd_any (lo lo' GB MB : Nat) (vl v : Value) (ks : List (List UInt8)) (ps : Lot) (Ls : List (List Nat)) (key : List UInt8) (s : Nat) (w : World) (hg : Gp w lo GB MB vl ks ps Ls) (hv : OwnB w lo' v key) (_hnd : ks.Nodup) (hkl : key.length ≤ 1000000000000) (hks : ks.length ≤ 1000000000) (hLs : ∀ l ∈ Ls, l.length ≤ 1000000000) :
    Calls Tryd.prog 46 #[.pointer (some ⟨GB, 0, none⟩), v, .int .i64 (s : Int)] w fun e w' => e = .returned (.tuple #[]) ∧ AddR w w' lo GB MB ks Ls key s := by
  obtain ⟨i0, hi, hz0, hz1, hz2⟩ := info_parts infoInt
  obtain ⟨j0, hj, hy0, hy1, hy2⟩ := info_parts infoInts
  obtain ⟨c0, c1, f1, hGl⟩ := hg.cell
  have f1' := f1 1
  have hcv1 : (convert 77 9 v).run Tryd.prog w.drew = .ok (.string (strB key)) w.drew := toStr (show OwnB w.drew lo' v key from own_blk hv (fun _ _ => rfl))
  have hcv2 : (convert 77 9 v).run Tryd.prog w.drew.drew = .ok (.string (strB key)) w.drew.drew := toStr (show OwnB w.drew.drew lo' v key from own_blk hv (fun _ _ => rfl))
  obtain ⟨av, nv, cv, rfl⟩ : ∃ av nv cv, v = .slice av nv cv := by
    rcases hv.2 with ⟨e, _⟩ | ⟨g, cap, cur, e, _⟩
    · exact ⟨_, _, _, e⟩
    · exact ⟨_, _, _, e⟩
  obtain ⟨al, cl, rfl⟩ : ∃ al cl, vl = .slice al Ls.length cl := by
    have hp := hg.plen
    rcases hg.bag.outer.2 with ⟨e, hn⟩ | ⟨g, cap, cur, e, _⟩
    · exact ⟨none, 0, by rw [e, ← hp, hn]⟩
    · exact ⟨_, _, by rw [e, hp]⟩
  have HG := hid0 hg
  have HV := hid0 hv
  have hlow : lo ≤ w.heap.size := by have := hg.lo'.1; omega
  clear hg hv
  go_enter Tryd.func46, Tryd.ntmps46
  go_upto_region 0 with (fail)
  go_cut [6, 7] from 8 (fun p6 p7 wx => ∃ (y : Nat) (b : Bool), p6 = .int .i64 (y : Int) ∧ p7 = .bool b ∧ wx = w.drew ∧ Hid (b = true → key ∈ ks ∧ y = ks.idxOf key) ∧ Hid (b = false → key ∉ ks))
  case first =>
    by_cases hk : key ∈ ks
    · have hidx := List.idxOf_lt_length_iff.2 hk
      obtain ⟨y, hy⟩ : ∃ y, y = ks.idxOf key := ⟨_, rfl⟩
      have hlook : (Instr.lookup 80 (.map (some MB)) (.string (strB key)) true).run Tryd.prog w.drew = .ok (.tuple #[.int .i64 (y : Int), .bool true]) w.drew := by
        have h1 := (HG.out.mp.keep (w' := w.drew) rfl).look hidx (by rw [List.getElem_idxOf]; exact hkl)
        rw [List.getElem_idxOf, ← hy] at h1
        exact h1
      have HY := hid0 hy
      have HK := hid0 hk
      clear hidx hy hk
      go_wp2_with fail
      go_region
      go_wp2_with fail
      go_meet
      case rel => exact ⟨y, true, rfl, rfl, rfl, hid0 (fun _ => ⟨HK.out, HY.out⟩), hid0 (fun h => nomatch h)⟩
    · have hlook : (Instr.lookup 80 (.map (some MB)) (.string (strB key)) true).run Tryd.prog w.drew = .ok (.tuple #[.int .i64 0, .bool false]) w.drew := (HG.out.mp.keep (w' := w.drew) rfl).lookNot hk hkl
      have HK := hid0 hk
      clear hk
      go_wp2_with fail
      go_region
      go_wp2_with fail
      go_meet
      case rel => exact ⟨0, false, rfl, rfl, rfl, hid0 (fun h => nomatch h), hid0 (fun _ => HK.out)⟩
  case rest =>
    obtain ⟨y0, b, rfl, rfl, rfl, HT, HF⟩ := hcut
    clear hcv1
    go_upto_if 19 with (fail)
    go_cut [6] from 18 (fun p6 wx => ∃ (y : Nat) (al : Option Addr) (cl : Nat) (ks' : List (List UInt8)) (ps' : Lot) (Ls' : List (List Nat)), p6 = .int .i64 (y : Int) ∧ Hid (GpA w wx lo GB MB (.slice al Ls'.length cl) ks' ps' Ls' y ks Ls key s) ∧ Hid (∀ l ∈ Ls', l.length ≤ 1000000000))
    case first =>
      cases b with
      | true =>
        have HA : Hid (GpA w w.drew lo GB MB (.slice al Ls.length cl) ks ps Ls y0 ks Ls key s) := hid0 (by
          obtain ⟨hk, hy⟩ := HT.out rfl
          have hp := HG.out.plen
          have hlen := HG.out.len
          have hidx := List.idxOf_lt_length_iff.2 hk
          exact ⟨HG.out.bytes (Only.drewN w 1 (fun _ => False)) (fun _ hf => False.elim hf), by omega, by unfold gput; rw [if_pos hk, hy], ⟨rfl, rfl, rfl, Nat.le_refl _, fun _ _ => rfl⟩, ⟨Nat.le_refl _, fun _ _ _ => rfl⟩⟩)
        go_wp2_with fail
        go_meet
        case rel => exact ⟨y0, _, _, _, _, _, rfl, HA, hid0 hLs⟩
      | false =>
        have hk := HF.out rfl
        obtain ⟨w1, hrun, hmp1, hg1⟩ := (HG.out.mp.keep (w' := w.drew.drew) rfl).put hk hkl (by omega)
        rw [HG.out.len] at hrun
        have HK := hid0 hk
        have HMp := hid0 hmp1
        have HG1 := hid0 hg1
        have hlen1 : w.heap.size ≤ w1.heap.size := hg1.size
        have c1' : w1.cell? ⟨GB, 1, none⟩ = some (.slice al Ls.length cl) := by
          obtain ⟨es, clock, hm⟩ := HG.out.mp.isMap
          have hb := hg1.block GB hGl (fun e => by cases e; rw [HG.out.blk] at hm; cases hm)
          exact (World.cell?_of_block (w := w) (a := ⟨GB, 1, none⟩) hb).trans c1
        have HOw : Hid ((w1.alloc (.cells #[.slice none 0 0] 25)).ownsRow lo 25 1 (.slice al Ls.length cl) Ls.length (ps.map (·.1))) := hid0 (by
          have h := HG.out.bag.outer
          rw [HG.out.plen] at h
          refine World.ownsRow.alloc (own_blk h (fun k hk => ?_)) _
          obtain ⟨es, clock, hm⟩ := HG.out.mp.isMap
          obtain ⟨cs, hc⟩ := own_ty h hk
          exact hg1.block k (World.ownsRow.lt h k hk).2 (fun e => by cases e; rw [hm] at hc; cases hc))
        have HNx : Hid (∀ (v' : Value) (w2 : World), w2.ownsRow lo 25 1 v' (Ls.length + 1) (ps.map (·.1) ++ [.slice none 0 0]) → (w1.alloc (.cells #[.slice none 0 0] 25)).grownBy w2 (Value.slice al Ls.length cl).ownBlock → (v'.ownBlock = (Value.slice al Ls.length cl).ownBlock ∨ v'.ownBlock = some (w1.alloc (.cells #[.slice none 0 0] 25)).heap.size) → w2.cell? ⟨GB, 1, none⟩ = some (.slice al Ls.length cl) ∧ w2.frozen? ⟨GB, 1, none⟩ = false ∧ GpA w (w2.setCell ⟨GB, 1, none⟩ v') lo GB MB v' (ks ++ [key]) (ps ++ [(.slice none 0 0, [])]) (Ls ++ [[]]) Ls.length ks Ls key s) := hid0 (fun v' w2 a b c => HG.out.fresh HK.out HMp.out ⟨HG1.out.os, HG1.out.tape, HG1.out.output, HG1.out.size, HG1.out.block⟩ a b c)
        have hLl : Ls.length ≤ 1000000000 := by have := HG.out.len; omega
        have hL2 : Hid (∀ l ∈ Ls ++ [[]], l.length ≤ 1000000000) := hid0 (fun l hl => by
          rcases List.mem_append.1 hl with hl | hl
          · exact hLs l hl
          · rw [List.mem_singleton.1 hl]; simp)
        clear hk hmp1 hg1
        go_upto_region 3 with (fail)
        go_wp2_with fail
        go_region
        go_wp2_with (at_builtin; go_loud ((refine wpList_append_own_at _ rfl _ _ 22 rfl lo 25 j0 (.slice none 0 0) 1 24 Tryd.underlying22 hj hy0 hy1 hy2 rfl (by decide) (.slice al Ls.length cl) Ls.length (ps.map (·.1)) rfl HOw.out ⟨w1.heap.size, 0, none⟩ 1 1 [.slice none 0 0] rfl rfl (cell_one_new _ _ _) (by simp [Value.oneCell']) (by unfold maxLen; omega) (by omega) (by simp; omega) ?_; intro v' w2 hown hgrow _ hat; obtain ⟨g5, cap5, rfl⟩ := Go.Joins.ownsRow_form hown (Nat.succ_pos _); obtain ⟨n1, n2, n3⟩ := HNx.out _ _ hown hgrow hat; have HN3 := hid0 n3; clear n3 hown hgrow hat)))
        go_meet
        case rel => exact ⟨Ls.length, some ⟨g5, 0, none⟩, cap5, _, _, _, rfl, hid0 (by have := HN3.out; rw [List.length_append]; exact this), hL2⟩
    case rest =>
      obtain ⟨y, al2, cl2, ks', ps', Ls', rfl, HA, HL'⟩ := hcut
      have hyp := HA.out.lt
      have hpl := HA.out.gp.plen
      obtain ⟨g, cg, hform⟩ : ∃ g cg, (Value.slice al2 Ls'.length cl2) = .slice (some ⟨g, 0, none⟩) Ls'.length cg := by
        rcases HA.out.gp.bag.outer.2 with ⟨e, hn⟩ | ⟨g, cap, cur, e, _⟩
        · omega
        · rw [e, hpl]; exact ⟨_, _, rfl⟩
      cases hform
      obtain ⟨d1, d2⟩ := HA.out.gp.bag.cells hpl.symm y hyp
      obtain ⟨e0, e1, _, _⟩ := HA.out.gp.cell
      have hmem : ps'[y] ∈ ps' := List.getElem_mem hyp
      obtain ⟨a1, q1, hv1, hiaX⟩ := (HA.out.gp.bag.row _ hmem).ia
      clear hiaX
      have hl2 : (ps'[y]).2.length ≤ 1000000000 := by
        obtain ⟨p2, p3⟩ := lot_at HA.out.gp.pl hyp
        rw [p2, natI_len]
        rw [List.getD_eq_getElem?_getD, List.getElem?_eq_getElem p3]
        exact HL'.out _ (List.getElem_mem p3)
      have hyI : (y : Int) < (Ls'.length : Int) := by omega
      have hy0' : (0 : Int) ≤ (y : Int) := by omega
      have hrow := HA.out.gp.bag.row _ hmem
      unfold OwnI at hrow
      have hput := fun (v' : Value) (w2 : World) (o : Obj) => HA.out.put (v' := v') (w2 := w2) (o := o) hpl.symm
      obtain ⟨lw, hlw⟩ : ∃ lw, lw = (ps'[y]).2 := ⟨_, rfl⟩
      rw [← hlw] at hv1 hl2 hrow
      rw [hv1] at d1 hrow
      have hput2 : ∀ (v' : Value) (w2 : World), w2.ownsRow lo 3 1 v' (lw.length + 1) (lw.map (Value.int .i64) ++ [.int .i64 (s : Int)]) → (wc.alloc (.cells #[.int .i64 (s : Int)] 3)).grownBy w2 (Value.slice a1 lw.length q1).ownBlock → (v'.ownBlock = (Value.slice a1 lw.length q1).ownBlock ∨ v'.ownBlock = some (wc.alloc (.cells #[.int .i64 (s : Int)] 3)).heap.size) → w2.cell? ⟨g, y, none⟩ = some (.slice a1 lw.length q1) ∧ w2.frozen? ⟨g, y, none⟩ = false ∧ w2.cell? ⟨GB, 1, none⟩ = some (.slice (some ⟨g, 0, none⟩) Ls'.length cl2) ∧ AddR w (w2.setCell ⟨g, y, none⟩ v') lo GB MB ks Ls key s := fun v' w2 h1 h2 h3 => by
        have := hput v' w2 (.cells #[.int .i64 (s : Int)] 3) (by rw [← hlw]; exact h1) (by rw [hv1]; exact h2) (by rw [hv1]; exact h3)
        rw [hv1] at this
        exact ⟨this.1, this.2.1, this.2.2.1, _, this.2.2.2⟩
      have HNx := hid0 hput2
      have hlowc : lo ≤ wc.heap.size := Nat.le_trans hlow HA.out.byt.size
      obtain ⟨vB, hvB⟩ : ∃ vB, vB = wc.alloc (.cells #[.int .i64 (s : Int)] 3) := ⟨_, rfl⟩
      have HOw : Hid (vB.ownsRow lo 3 1 (.slice a1 lw.length q1) lw.length (lw.map (Value.int .i64))) := hid0 (by rw [hvB]; exact World.ownsRow.alloc hrow _)
      have HNw : Hid (∀ j u, [Value.int .i64 (s : Int)][j]? = some u → vB.cell? ((⟨wc.heap.size, 0, none⟩ : Addr).add j) = some u) := hid0 (by rw [hvB]; exact cell_one_new _ _ _)
      have HLw : Hid (lo ≤ vB.heap.size) := hid0 (by rw [hvB]; simp; omega)
      have e1B : vB.cell? ⟨GB, 1, none⟩ = some (.slice (some ⟨g, 0, none⟩) Ls'.length cl2) := by rw [hvB]; exact cell_alloc e1 _
      have d1B : vB.cell? ⟨g, y, none⟩ = some (.slice a1 lw.length q1) := by rw [hvB]; exact cell_alloc d1 _
      rw [← hvB] at HNx
      have gB := hvB.symm
      clear hput hput2 hrow hmem hlw hv1 d2 hvB hpl hyp
      go_upto_region 5 with (fail)
      go_wp2_with fail
      go_region_law ((refine step_append_own_at (by rfl) _ _ 25 (by rfl) lo 3 i0 _ 1 8 Tryd.underlying25 hi hz0 hz1 hz2 rfl (by decide) (.slice a1 lw.length q1) lw.length (lw.map (Value.int .i64)) (by rfl) HOw.out ⟨wc.heap.size, 0, none⟩ 1 1 [.int .i64 (s : Int)] (by rfl) (by rfl) HNw.out (by simp [Value.oneCell']) (by unfold maxLen; omega) (by omega) HLw.out ?_; intro v' w2 hown hgrow hat; obtain ⟨g5, cap5, rfl⟩ := Go.Joins.ownsRow_form hown (Nat.succ_pos _); obtain ⟨n1, n2, n3, n4⟩ := HNx.out _ _ hown ⟨hgrow.os, hgrow.tape, hgrow.output, hgrow.size, hgrow.block⟩ hat; have HN4 := hid0 n4; clear n4 hown hgrow hat))
      all_goals
        go_wp2
        go_returns
        exact ⟨rfl, HN4.out⟩
end Go.Proofs.YtjmmckkiicefhaaDoor
namespace Go.Proofs.YtjmmckkiicefhaaDoor
open Go.RowKit Go.Shelf Go.Lib Go.Maps
/-- The whole in memory. -/
structure Wh (W : World) (X m : Nat) (aN : Option Addr) (cN : Nat) (FN : List Int) (aO : Option Addr) (cO : Nat) (OL : List (List Int)) : Prop where
  blk : W.heap[X]? = some (.cells #[.int .i64 (m : Int), .slice aN FN.length cN, .slice aO OL.length cO] 57 (0, 0))
  nx : IA W aN FN
  ou : RwA W aO OL
theorem Wh.past {W W' : World} {X m : Nat} {aN : Option Addr} {cN : Nat} {FN : List Int} {aO : Option Addr} {cO : Nat} {OL : List (List Int)} (h : Wh W X m aN cN FN aO cO OL) (hb : Below W.heap.size W W') : Wh W' X m aN cN FN aO cO OL :=
  ⟨(hb.block _ (Array.getElem?_eq_some_iff.1 h.blk).1).trans h.blk, h.nx.past hb, h.ou.past hb⟩
theorem Wh.cell {W : World} {X m : Nat} {aN : Option Addr} {cN : Nat} {FN : List Int} {aO : Option Addr} {cO : Nat} {OL : List (List Int)} (h : Wh W X m aN cN FN aO cO OL) : W.cell? ⟨X, 0, none⟩ = some (.int .i64 (m : Int)) ∧ W.cell? ⟨X, 1, none⟩ = some (.slice aN FN.length cN) ∧ W.cell? ⟨X, 2, none⟩ = some (.slice aO OL.length cO) := by
  refine ⟨?_, ?_, ?_⟩ <;> (rw [cell_of_row _ _ _ _ _ _ h.blk]; rfl)
/-- Groups that are being made, and the text. -/
structure GrS (w W : World) (GB MB : Nat) (v : Value) (tx : List UInt8) (seq : List (List UInt8 × Nat)) : Prop where
  gp : ∃ vl ks ps Ls, Gp W w.heap.size GB MB vl ks ps Ls ∧ GI ks Ls seq ∧ ks.length ≤ seq.length
  own : OwnB W w.heap.size v tx
  bel : Below w.heap.size w W
theorem grS_new {w W : World} {GB MB : Nat} (h : Gp W w.heap.size GB MB (.slice none 0 0) [] [] []) (hb : Below w.heap.size w W) : GrS w W GB MB (.slice none 0 0) [] [] :=
  ⟨⟨_, _, _, _, h, gi_nil, Nat.le_refl _⟩, World.ownsRow_nil _ _ _ _, hb⟩
theorem GrS.drewN {w W : World} {GB MB : Nat} {v : Value} {tx : List UInt8} {seq : List (List UInt8 × Nat)} (h : GrS w W GB MB v tx seq) (k : Nat) : GrS w (W.drewN k) GB MB v tx seq := by
  obtain ⟨vl, ks, ps, Ls, h1, h2, h3⟩ := h.gp
  exact ⟨⟨vl, ks, ps, Ls, h1.bytes (Only.drewN W k (fun _ => False)) (fun _ hf => False.elim hf), h2, h3⟩, own_blk h.own (fun _ _ => rfl), below_drew' h.bel k⟩
theorem GrS.drew1 {w W : World} {GB MB : Nat} {v : Value} {tx : List UInt8} {seq : List (List UInt8 × Nat)} (h : GrS w W GB MB v tx seq) : GrS w W.drew GB MB v tx seq := h.drewN 1
/-- The text is begun anew. -/
theorem GrS.cut {w W : World} {GB MB : Nat} {a : Option Addr} {n c : Nat} {tx : List UInt8} {seq : List (List UInt8 × Nat)} (h : GrS w W GB MB (.slice a n c) tx seq) : GrS w W GB MB (.slice a 0 c) [] seq := by
  refine ⟨h.gp, ⟨rfl, ?_⟩, h.bel⟩
  rcases h.own.2 with ⟨e, hn⟩ | ⟨g, cap, cur, e, hg, hr, hc, hm, hs, _⟩
  · cases e
    exact .inl ⟨rfl, rfl⟩
  · injection e with e1 e2 e3
    subst e1 e3
    exact .inr ⟨g, c, cur, rfl, hg, hr, Nat.zero_le _, hm, hs, by simp [cellsOf]⟩
theorem GrS.form {w W : World} {GB MB : Nat} {v : Value} {tx : List UInt8} {seq : List (List UInt8 × Nat)} (h : GrS w W GB MB v tx seq) : ∃ a c, v = .slice a tx.length c := by
  rcases h.own.2 with ⟨e, hn⟩ | ⟨g, cap, cur, e, _⟩
  · exact ⟨none, 0, by rw [e, hn]⟩
  · exact ⟨_, _, e⟩
/-- Bytes are put behind. -/
theorem GrS.more {w W W2 : World} {GB MB : Nat} {v v' : Value} {tx tx' : List UInt8} {seq : List (List UInt8 × Nat)} (h : GrS w W GB MB v tx seq) (ha : Apd W W2 w.heap.size v v' tx') : GrS w W2 GB MB v' tx' seq := by
  obtain ⟨vl, ks, ps, Ls, h1, h2, h3⟩ := h.gp
  refine ⟨⟨vl, ks, ps, Ls, h1.bytes ha.frm (fun k hk => own_ty h.own hk), h2, h3⟩, ha.own, h.bel.trans (ha.frm.below h.bel.size (fun i hi => (World.ownsRow.lt h.own i hi).1))⟩
/-- A state is put to its group. -/
theorem GrS.add {w W W2 : World} {GB MB : Nat} {v : Value} {tx : List UInt8} {seq : List (List UInt8 × Nat)} {s : Nat} {ks : List (List UInt8)} {Ls : List (List Nat)} (h : GrS w W GB MB v tx seq) (hg : GI ks Ls seq) (hl : ks.length ≤ seq.length) (hs : ∀ x ∈ seq, x.2 ≠ s) (ha : AddR W W2 w.heap.size GB MB ks Ls tx s) : GrS w W2 GB MB v tx (seq ++ [(tx, s)]) := by
  obtain ⟨vl, ps, h1, h2, h3⟩ := ha
  refine ⟨⟨vl, _, ps, _, h1, hg.put tx s hs, ?_⟩, h3.own h.own, h.bel.trans h2⟩
  have := gput_len ks Ls tx s
  rw [List.length_append]
  simp
  omega
theorem GI.small {ks : List (List UInt8)} {Ls : List (List Nat)} {seq : List (List UInt8 × Nat)} (h : GI ks Ls seq) {n : Nat} (hn : ∀ x ∈ seq, x.2 < n) : ∀ l ∈ Ls, l.length ≤ n := by
  intro l hl
  obtain ⟨i, hi, rfl⟩ := List.getElem_of_mem hl
  have hg : Ls.getD i [] = Ls[i] := by rw [List.getD_eq_getElem?_getD, List.getElem?_eq_getElem hi]; rfl
  have hi' : i < ks.length := by rw [h.len]; exact hi
  refine nodup_le n _ (by rw [← hg]; exact h.up i hi') (fun x hx => ?_)
  exact hn _ ((h.mem i hi' x).1 (by rw [hg]; exact hx))
/-- The lists of groups, as they are answered. -/
theorem Gp.gapl {w W : World} {GB MB : Nat} {vl : Value} {ks : List (List UInt8)} {ps : Lot} {Ls : List (List Nat)} (h : Gp W w.heap.size GB MB vl ks ps Ls) : ∃ a c, vl = .slice a Ls.length c ∧ GapL W w.heap.size W.heap.size a Ls := by
  obtain ⟨a, c, h1, h2⟩ := h.bag.rwq
  have hl : (ps.map (·.2)).length = Ls.length := by rw [h.pl]; simp
  refine ⟨a, c, by rw [h1, hl], ⟨fun k hk => ?_⟩⟩
  obtain ⟨b, off, e, l1, l2, a1, c1, d1, q1⟩ := h2.at' k (by rw [hl]; exact hk)
  have hpe := h.plen
  have he : (ps.map (·.2))[k]'(by rw [hl]; exact hk) = natI Ls[k] := by
    have h3 : (ps.map (·.2))[k]? = (Ls.map natI)[k]? := by rw [h.pl]
    rw [List.getElem?_eq_getElem (by rw [hl]; exact hk), List.getElem?_map, List.getElem?_eq_getElem hk] at h3
    simpa using h3
  rw [he] at d1 q1
  rw [natI_len] at d1
  have hrow := h.bag.row (ps[k]'(by omega)) (List.getElem_mem _)
  have hcell : W.cell? ⟨b, off + k, none⟩ = some (ps[k]'(by omega)).1 := by
    have h0 := h.bag.outer
    rcases h0.2 with ⟨hv, hn⟩ | ⟨g, cap, cur, hv, hg, _⟩
    · omega
    · rw [hv] at h1
      injection h1 with h1 _ _
      rw [← h1] at e
      cases e
      rw [hv] at h0
      rw [Nat.zero_add, World.ownsRow.cellAt h0 k (by omega)]
      simp [hpe, hk]
  refine ⟨b, off, e, l2, l1, l2, a1, c1, d1, q1.ia, fun p hp => ?_⟩
  subst hp
  rw [hcell] at d1
  injection d1 with d1
  rcases hrow.2 with ⟨hv, hn⟩ | ⟨g, cap, cur, hv, hg, _⟩
  · rw [hv] at d1; cases d1
  · have hlt := World.ownsRow.lt hrow g (by rw [hv]; rfl)
    rw [hv] at d1
    injection d1 with d1 _ _
    injection d1 with d1
    rw [← d1]
    exact hlt
end Go.Proofs.YtjmmckkiicefhaaDoor
namespace Go.Proofs.YtjmmckkiicefhaaDoor
open Go.RowKit Go.Shelf
def zerN (n : Nat) : Obj := .cells (ovF n (fun _ => 0)).toArray 3
set_option maxRecDepth 100000 in
theorem make_run (n : Nat) (w : World) (hn : n ≤ 100000000000) : (Instr.makeSlice 25 (.int .i64 (n : Int)) (.int .i64 (n : Int))).run Tryd.prog w = .ok (.slice (some ⟨w.heap.size, 0, none⟩) n n) (w.alloc (zerN n)) := by
  obtain ⟨i, hi, hz0, hz1, hz2⟩ := info_parts infoInt
  have hr := run_make (P := Tryd.prog) w 25 3 i (.int .i64 0) Tryd.underlying25 hi hz0 .i64 .i64 n n (by omega) (by omega) (by rw [hz2]; omega) (by omega)
  have e2 : ((n : Int)).toNat = n := Int.toNat_natCast n
  simp only [e2, hz1] at hr
  rw [hr]
  unfold zerN
  congr 3
  apply Array.ext
  · rw [size_madeCells]; simp [ovF]
  · intro k h1 h2
    simp [madeCells, ovF, Value.cells, Nat.mod_one]
theorem Ov.congr2 {W : World} {G n : Nat} {p q : Nat → Nat} (h : Ov W G n p) (e : ∀ s, s < n → p s = q s) : Ov W G n q := ⟨by
  have : ovF n p = ovF n q := by
    unfold ovF
    exact List.map_congr_left (fun s hs => by rw [e s (List.mem_range.1 hs)])
  rw [← this]
  exact h.blk⟩
/-- Five blocks that were made one behind the other. -/
structure Five (w U : World) (o0 o1 o2 o3 o4 : Obj) : Prop where
  h0 : U.heap[w.heap.size]? = some o0
  h1 : U.heap[w.heap.size + 1]? = some o1
  h2 : U.heap[w.heap.size + 1 + 1]? = some o2
  h3 : U.heap[w.heap.size + 1 + 1 + 1]? = some o3
  h4 : U.heap[w.heap.size + 1 + 1 + 1 + 1]? = some o4
  bel : Below w.heap.size w U
theorem five_mk (w : World) (o0 o1 o2 o3 o4 : Obj) : Five w (((((w.alloc o0).alloc o1).alloc o2).alloc o3).alloc o4).drew o0 o1 o2 o3 o4 := by
  have s1 : (w.alloc o0).heap.size = w.heap.size + 1 := by simp
  have s2 : ((w.alloc o0).alloc o1).heap.size = w.heap.size + 1 + 1 := by simp
  have s3 : (((w.alloc o0).alloc o1).alloc o2).heap.size = w.heap.size + 1 + 1 + 1 := by simp
  have s4 : ((((w.alloc o0).alloc o1).alloc o2).alloc o3).heap.size = w.heap.size + 1 + 1 + 1 + 1 := by simp
  have n0 := heap_alloc_new w o0
  have n1 := heap_alloc_new (w.alloc o0) o1
  have n2 := heap_alloc_new ((w.alloc o0).alloc o1) o2
  have n3 := heap_alloc_new (((w.alloc o0).alloc o1).alloc o2) o3
  have n4 := heap_alloc_new ((((w.alloc o0).alloc o1).alloc o2).alloc o3) o4
  rw [s1] at n1
  rw [s2] at n2
  rw [s3] at n3
  rw [s4] at n4
  have b1 := ((Below.refl w.heap.size w).alloc (Nat.le_refl _) o0)
  have b2 := b1.alloc (by omega) o1
  have b3 := b2.alloc (by omega) o2
  have b4 := b3.alloc (by omega) o3
  have b5 := b4.alloc (by omega) o4
  refine ⟨?_, ?_, ?_, ?_, n4, ⟨b5.os, b5.tape, b5.output, b5.size, b5.block⟩⟩
  · exact (((Below.heap_alloc _ _ _ (by omega)).trans ((Below.heap_alloc _ _ _ (by omega)).trans ((Below.heap_alloc _ _ _ (by omega)).trans (Below.heap_alloc _ _ _ (by omega)))))).trans n0
  · exact ((Below.heap_alloc _ _ _ (by omega)).trans ((Below.heap_alloc _ _ _ (by omega)).trans (Below.heap_alloc _ _ _ (by omega)))).trans n1
  · exact ((Below.heap_alloc _ _ _ (by omega)).trans (Below.heap_alloc _ _ _ (by omega))).trans n2
  · exact (Below.heap_alloc _ _ _ (by omega)).trans n3
theorem pt_new {w U : World} {P R L C G n : Nat} (hb : Below w.heap.size w U) (_hn : 0 < n) (hP : U.heap[P]? = some (.cells #[.slice (some ⟨R, 0, none⟩) n n, .slice (some ⟨L, 0, none⟩) n n, .slice (some ⟨C, 0, none⟩) n n, .slice (some ⟨G, 0, none⟩) 1 1, .slice none 0 0] 67 (0, 0))) (hR : U.heap[R]? = some (zerN n)) (hL : U.heap[L]? = some (zerN n)) (hC : U.heap[C]? = some (zerN n)) (hG : U.heap[G]? = some (.cells #[.int .i64 0, .int .i64 (n : Int)] 74 (0, 0)))
    (hne : R ≠ L ∧ R ≠ C ∧ L ≠ C ∧ w.heap.size ≤ P ∧ w.heap.size ≤ R ∧ w.heap.size ≤ L ∧ w.heap.size ≤ C ∧ w.heap.size ≤ G) :
    Pt U w.heap.size U.heap.size U.heap.size 0 0 P R L C n (fun _ => 0) (fun _ => 0) (fun _ => 0) (.slice (some ⟨G, 0, none⟩) 1 1) [(0, n)] (.slice none 0 0) [] := by
  obtain ⟨n1, n2, n3, n4, n5, n6, n7, n8⟩ := hne
  have lt : ∀ {b : Nat} {o : Obj}, U.heap[b]? = some o → b < U.heap.size := fun h => (Array.getElem?_eq_some_iff.1 h).1
  have dP : ∀ b, U.heap[b]? = some (zerN n) → P ≠ b := fun b hb' e => by
    rw [← e, hP] at hb'
    injection hb' with hb'
    unfold zerN at hb'
    injection hb' with _ hb'
    exact absurd hb' (by decide)
  refine ⟨hP, ⟨hR⟩, ⟨hL⟩, ⟨hC⟩, ⟨rfl, .inr ⟨G, 1, #[.int .i64 0, .int .i64 (n : Int)], rfl, n8, hG, Nat.le_refl _, by unfold maxLen; omega, by rfl, rfl⟩⟩, World.ownsRow_nil _ _ _ _, fun k hk => ?_, (fun k hk => nomatch hk), ⟨dP R hR, dP L hL, dP C hC, n1, n2, n3⟩, ⟨⟨n4, .inl (lt hP), .inr (Nat.zero_le _)⟩, ⟨n5, .inl (lt hR), .inr (Nat.zero_le _)⟩, ⟨n6, .inl (lt hL), .inr (Nat.zero_le _)⟩, ⟨n7, .inl (lt hC), .inr (Nat.zero_le _)⟩⟩, (fun k hk => nomatch hk), Nat.le_refl _, hb.size, Nat.zero_le _⟩
  have e : G = k := by simpa [Value.ownBlock] using hk
  subst e
  exact ⟨n8, .inl (lt hG), .inr (Nat.zero_le _)⟩
set_option maxRecDepth 100000 in
set_option maxHeartbeats 1600000 in
theorem newParts_any (n : Nat) (w : World) (hn0 : 0 < n) (hn : n ≤ 4000000) : Calls Tryd.prog 31 #[.int .i64 (n : Int)] w fun e w' => ∃ P, e = .returned (.pointer (some ⟨P, 0, none⟩)) ∧ (∃ R L C vs, Pt w' w.heap.size w'.heap.size w'.heap.size 0 0 P R L C n (fun s => s) (fun s => s) (fun _ => 0) vs [(0, n)] (.slice none 0 0) []) ∧ Below w.heap.size w w' := by
  have hmk : ∀ V : World, (Instr.makeSlice 25 (.int .i64 (n : Int)) (.int .i64 (n : Int))).run Tryd.prog V = .ok (.slice (some ⟨V.heap.size, 0, none⟩) n n) (V.alloc (zerN n)) := fun V => make_run n V (by omega)
  have hn0' : (0 : Int) ≤ (n : Int) := by omega
  go_enter Tryd.func31, Tryd.ntmps31
  go_upto_region 1 with (fail)
  go_cut [3] from 5 (fun p3 wx => ∃ P R L C G : Nat, p3 = .pointer (some ⟨P, 0, none⟩) ∧ Hid (Pt wx w.heap.size wx.heap.size wx.heap.size 0 0 P R L C n (fun _ => 0) (fun _ => 0) (fun _ => 0) (.slice (some ⟨G, 0, none⟩) 1 1) [(0, n)] (.slice none 0 0) []) ∧ Hid (Below w.heap.size w wx))
  case first =>
    go_wp2_with fail
    go_region
    all_goals
      go_wp2_with fail
      go_meet
      case rel =>
        have F := five_mk w
        refine ⟨_, _, _, _, _, rfl, hid0 (pt_new (F _ _ _ _ _).bel hn0 (F _ _ _ _ _).h4 ?_ ?_ ?_ ?_ (by omega)), hid0 (F _ _ _ _ _).bel⟩
        all_goals first | exact (F _ _ _ _ _).h0 | exact (F _ _ _ _ _).h1 | exact (F _ _ _ _ _).h2 | exact (F _ _ _ _ _).h3
  case rest =>
    obtain ⟨P, R, L, C, G, rfl, HP, HB⟩ := hcut
    clear hmk
    obtain ⟨z, hz⟩ : ∃ z, z = wc.heap.size := ⟨_, rfl⟩
    rw [← hz] at HP
    clear hz
    go_wp2
    go_loopw [17] (fun i wr => ∃ k : Nat, k ≤ n ∧ i = .int .i64 (k : Int) ∧ Hid (Pt wr w.heap.size z z 0 0 P R L C n (fun s => if s < k then s else 0) (fun s => if s < k then s else 0) (fun _ => 0) (.slice (some ⟨G, 0, none⟩) 1 1) [(0, n)] (.slice none 0 0) []) ∧ Hid (Below w.heap.size w wr)) (fun i _ => n - (intOf i).toNat)
    case atStart => exact ⟨0, Nat.zero_le _, rfl, HP, HB⟩
    case round =>
      obtain ⟨k, hk, rfl, HK, HBk⟩ := hrel
      by_cases hlt : k < n
      · have hkI : (k : Int) < (n : Int) := by omega
        have hkI0 : (0 : Int) ≤ (k : Int) := by omega
        obtain ⟨p0, p1, _, _, _⟩ := HK.out.cell
        obtain ⟨m1, m2, m3, m4, m5, m6⟩ := HK.out.ne
        have f1 := HK.out.row.frozen k
        have d1 := HK.out.row.cell hlt
        obtain ⟨x1, hx1⟩ : ∃ x1, x1 = wr.setCell ⟨R, k, none⟩ (.int .i64 (k : Int)) := ⟨_, rfl⟩
        have o1 : Ov x1 R n (putF (fun s => if s < k then s else 0) k k) := by rw [hx1]; exact HK.out.row.put k
        have k1 : Oth1 wr x1 R := by rw [hx1]; exact Oth1.setCell _ _ _ _
        have l1 := HK.out.place.keep (k1.oth _ (fun e => m4 e.symm))
        obtain ⟨x2, hx2⟩ : ∃ x2, x2 = x1.setCell ⟨L, k, none⟩ (.int .i64 (k : Int)) := ⟨_, rfl⟩
        have o2 : Ov x2 L n (putF (fun s => if s < k then s else 0) k k) := by rw [hx2]; exact l1.put k
        have k2 : Oth1 x1 x2 L := by rw [hx2]; exact Oth1.setCell _ _ _ _
        have f2 := l1.frozen k
        have d2 := l1.cell hlt
        have p1x : x1.cell? ⟨P, 1, none⟩ = some (.slice (some ⟨L, 0, none⟩) n n) := (k1.cell m1).trans p1
        have hO : Only wr x2.drew (fun b => b = R ∨ b = L) := ⟨k2.os.trans k1.os, k2.tape.trans k1.tape, k2.output.trans k1.output, by show _ ≤ x2.heap.size; rw [k2.size, k1.size]; exact Nat.le_refl _, fun b _ hb => (k2.oth b (fun e => hb (.inr e))).trans (k1.oth b (fun e => hb (.inl e)))⟩
        have hcong : ∀ s, s < n → putF (fun s => if s < k then s else 0) k k s = if s < k + 1 then s else 0 := fun s _ => by
          unfold putF
          by_cases e : s = k
          · subst e; rw [if_pos rfl, if_pos (by omega)]
          · rw [if_neg e]
            show (if s < k then s else 0) = _
            by_cases e2 : s < k
            · rw [if_pos e2, if_pos (by omega)]
            · rw [if_neg e2, if_neg (by omega)]
        have HK2 : Hid (Pt x2.drew w.heap.size z z 0 0 P R L C n (fun s => if s < k + 1 then s else 0) (fun s => if s < k + 1 then s else 0) (fun _ => 0) (.slice (some ⟨G, 0, none⟩) 1 1) [(0, n)] (.slice none 0 0) []) := hid0 (HK.out.rows hO (((o1.keep (k2.oth _ m4)).congr2 hcong).keep rfl) ((o2.congr2 hcong).keep rfl))
        have HB2 : Hid (Below w.heap.size w x2.drew) := hid0 (HBk.out.trans (hO.below HBk.out.size (fun b hb => by rcases hb with rfl | rfl; exact HK.out.g4.2.1.1; exact HK.out.g4.2.2.1.1)))
        have g1 := hx1.symm
        have g2 := hx2.symm
        clear hx1 hx2 o1 k1 l1 o2 k2 hO hcong HK HBk
        go_upto_region 5 with (fail)
        go_wp2_with fail
        go_region
        go_wp2
        go_roundw
        case rel => exact ⟨k + 1, by omega, by go_num, HK2, HB2⟩
        case measure => simp [intOf]; omega
      · have hkI : ¬ (k : Int) < (n : Int) := by omega
        have HF : Hid (Pt wr w.heap.size wr.heap.size wr.heap.size 0 0 P R L C n (fun s => s) (fun s => s) (fun _ => 0) (.slice (some ⟨G, 0, none⟩) 1 1) [(0, n)] (.slice none 0 0) []) := hid0 (by
          have h := HK.out.gap (Below.refl _ _)
          have hc : ∀ s, s < n → (if s < k then s else 0) = s := fun s hs => by rw [if_pos (by omega)]
          exact ⟨h.blk, h.row.congr2 hc, h.place.congr2 hc, h.class', h.spans, h.queue, h.gs, h.gq, h.ne, h.g4, h.nq, h.big, h.lol, h.bj⟩)
        clear HK
        go_wp2
        go_ret
        exact ⟨P, rfl, ⟨R, L, C, _, HF.out⟩, HBk.out⟩
end Go.Proofs.YtjmmckkiicefhaaDoor
