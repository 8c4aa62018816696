/-
  MbIW.
-/
import Derived.Test.YtbbejfkgopcjoaaDoorNeag
import Derived.Test.YtbbejfkgopcjoaaDoorNeab
import Derived.Maps.OwnIn
namespace Go.Proofs.YtbbejfkgopcjoaaDoor
open Go.RowKit Go.Shelf
attribute [local go_sem] Oper.semAt_some
theorem tab_past {W W' : World} {l : List Nat} (h : TabAt 11 l W) (hb : Below W.heap.size W W') : TabAt 11 l W' := fun j hj => by
  have h1 := h j hj
  exact (hb.cell (p := ⟨11, j, none⟩) (World.block_lt_of_cell? W _ h1)).trans h1
/-- What endAt's loops keep: all that was there, the boxes, the list. -/
structure EdI (w : World) (J : Nat) (L : List Nat) (W : World) : Prop where
  bel : Below w.heap.size w W
  sz : w.heap.size + 3 ≤ W.heap.size
  bx : W.heap[w.heap.size]? = some (.cells #[.pointer (some ⟨J, 0, none⟩)] 64 (0, 0))
  ls : ∃ v, W.heap[w.heap.size + 1]? = some (.cells #[v] 34 (0, 0)) ∧ OwnI W (w.heap.size + 3) v (nI L)
theorem EdI.keep {w A B : World} {J : Nat} {L : List Nat} (h : EdI w J L A) (ho : Only A B (fun k => k = w.heap.size + 2 ∨ (w.heap.size + 3 ≤ k ∧ ∃ o, A.heap[k]? = some o ∧ o.isCells = false))) : EdI w J L B := by
  have hs := h.bel.size
  have hb : ∀ (k : Nat) (cs : Array Value) (t : TypeId), A.heap[k]? = some (.cells cs t (0, 0)) → k ≠ w.heap.size + 2 → B.heap[k]? = some (.cells cs t (0, 0)) := fun k cs t hk hn => by
    refine (ho.block k (Array.getElem?_eq_some_iff.1 hk).1 ?_).trans hk
    rintro (e | ⟨_, o, h1, h2⟩)
    · exact hn e
    · rw [hk] at h1
      cases h1
      cases h2
  obtain ⟨v, h1, h2⟩ := h.ls
  refine ⟨⟨ho.os.trans h.bel.os, ho.tape.trans h.bel.tape, ho.output.trans h.bel.output, Nat.le_trans hs ho.size, fun k hk => (ho.block k (by omega) (by omega)).trans (h.bel.block k hk)⟩, Nat.le_trans h.sz ho.size, hb _ _ _ h.bx (by omega), v, hb _ _ _ h1 (by omega), own_blk h2 (fun k hk => ?_)⟩
  obtain ⟨cs, hcs⟩ := own_typ h2 hk
  rw [hcs]
  exact hb _ _ _ hcs (by have := (World.ownsRow.lt h2 k hk).1; omega)
theorem row_lo {W : World} {lo lo' : Nat} {t : TypeId} {s m : Nat} {v : Value} {xs : List Value} (h : W.ownsRow lo t s v m xs) (hl : lo' ≤ lo) : W.ownsRow lo' t s v m xs := ⟨h.1, by
  rcases h.2 with h2 | ⟨g, cap, cur, e, hg, r⟩
  · exact .inl h2
  · exact .inr ⟨g, cap, cur, e, Nat.le_trans hl hg, r⟩⟩
/-- The word that is looked at is written. -/
theorem EdI.word {w A B : World} {J bx : Nat} {L : List Nat} {cs : Array Value} (h : EdI w J L A) (hx : A.heap[bx]? = some (.cells cs 130 (0, 0))) (hbx : w.heap.size + 3 ≤ bx) (ho : Only A B (fun k => k = bx)) : EdI w J L B := by
  have hs := h.sz
  obtain ⟨v, h1, h2⟩ := h.ls
  refine ⟨⟨ho.os.trans h.bel.os, ho.tape.trans h.bel.tape, ho.output.trans h.bel.output, Nat.le_trans h.bel.size ho.size, fun k hk => (ho.block k (by omega) (by omega)).trans (h.bel.block k hk)⟩, Nat.le_trans hs ho.size, (ho.block _ (by omega) (by omega)).trans h.bx, v, (ho.block _ (by omega) (by omega)).trans h1, own_blk h2 (fun k hk => ?_)⟩
  obtain ⟨cs', hcs⟩ := own_typ h2 hk
  refine ho.block k (Array.getElem?_eq_some_iff.1 hcs).1 (fun e => ?_)
  subst e
  rw [hx] at hcs
  cases hcs
/-- One more pattern. -/
theorem EdI.app {w V w1 : World} {J n : Nat} {L : List Nat} {v v' : Value} {o : Obj} (h : EdI w J L V) (hb : V.heap[w.heap.size + 1]? = some (.cells #[v] 34 (0, 0))) (hv : OwnI V (w.heap.size + 3) v (nI L))
    (hown : w1.ownsRow (w.heap.size + 3) 3 1 v' (L.length + 1) ((nI L).map (Value.int .i64) ++ [.int .i64 (n : Int)])) (hg : (V.alloc o).grownBy w1 v.ownBlock) :
    EdI w J (L ++ [n]) (w1.setCell ⟨w.heap.size + 1, 0, none⟩ v') ∧ KpT V (w1.setCell ⟨w.heap.size + 1, 0, none⟩ v') ∧ w1.cell? ⟨w.heap.size + 1, 0, none⟩ = some v ∧ w1.frozen? ⟨w.heap.size + 1, 0, none⟩ = false := by
  have hs := h.sz
  obtain ⟨h1, h2⟩ := ownI_snoc (by rw [nI_len]) hv hown hg (Below.refl _ V) hs
  have hb1 : w1.heap[w.heap.size + 1]? = some (.cells #[v] 34 (0, 0)) := (h2.block _ (by omega)).trans hb
  have hz := h2.size
  have ho := Only.setCell w1 (w.heap.size + 1) 0 v'
  refine ⟨⟨⟨h2.os.trans h.bel.os, h2.tape.trans h.bel.tape, h2.output.trans h.bel.output, by have := h.bel.size; have := ho.size; omega, fun k hk => (ho.block k (by omega) (by omega)).trans ((h2.block k (by omega)).trans (h.bel.block k hk))⟩, by have := ho.size; omega, (ho.block _ (by omega) (by omega)).trans ((h2.block _ (by omega)).trans h.bx), v', heap_setCell_same w1 _ 0 _ _ v' hb1, ?_⟩, ⟨by have := ho.size; omega, fun k o' hk hkt => ?_⟩, by rw [cell_of_row _ _ _ _ _ _ hb1]; rfl, by simp [World.frozen?, hb1]⟩
  · rw [nI_app]
    exact own_blk h1 (fun k hk => ho.block k (World.ownsRow.lt h1 k hk).2 (by have := (World.ownsRow.lt h1 k hk).1; omega))
  · have hki := (Array.getElem?_eq_some_iff.1 hk).1
    have hne1 : k ≠ w.heap.size + 1 := fun e => by subst e; rw [hb] at hk; cases hk; cases hkt
    have hne2 : v.ownBlock ≠ some k := fun e => by
      obtain ⟨cs, hcs⟩ := own_typ hv e
      rw [hk] at hcs
      cases hcs
      cases hkt
    rw [ho.block k (by omega) hne1]
    exact ((Only.ofGrown hg).block k (by simp; omega) (fun e => hne2 e)).trans ((Below.heap_alloc _ _ _ hki).trans hk)
/-- The patterns of so many words; of so many words and places. -/
def EdK (w : World) (J : Nat) (g : Nat → Bool) (own pre : List Nat) (W : World) : Prop := EdI w J (onceC [] ((pre.flatMap (pw g)).map fun q => own.getD q 0)) W
def EdJ (w : World) (J : Nat) (own P0 : List Nat) (k0 : Nat) (lst : List Nat) (W : World) : Prop := EdI w J (onceC [] ((P0 ++ lst.drop k0).map fun q => own.getD q 0)) W ∧ k0 ≤ lst.length
set_option maxRecDepth 100000 in
set_option maxHeartbeats 2000000 in
theorem endAt_any (J N sy lo : Nat) (f la : Nat → Bool) (own : List Nat) (aO : Option Addr) (cO : Nat) (vF vE vL vM vZ vP vC vS vA : Value) (w : World) (hN : N ≤ 1000000) (hj : Jb w J sy (.slice aO own.length cO) vF vE vL vM vZ vP vC vS vA) (hO : IA w aO (nI own)) (hZ : OwnU w lo vZ N la) (hla : ∀ q, la q = true → q < own.length) (_hol : own.length ≤ 100000000) (htab : TabAt 11 Lib.deBruijn64tab w) :
    Calls Tryd.prog 49 #[.pointer (some ⟨J, 0, none⟩), .string ⟨(encW f N).toArray⟩] w fun e w' => ∃ v, e = .returned v ∧ OwnI w' w.heap.size v (nI (endL (fun q => f q && la q) own (64 * N))) ∧ Below w.heap.size w w' := by
  obtain ⟨g, hg⟩ : ∃ g : Nat → Bool, g = fun q => f q && la q := ⟨_, rfl⟩
  obtain ⟨w1, hw1⟩ : ∃ w1, w1 = (w.alloc (.cells #[.pointer (some ⟨J, 0, none⟩)] 64)).alloc (.cells #[.slice none 0 0] 34) := ⟨_, rfl⟩
  obtain ⟨w2, hw2⟩ : ∃ w2, w2 = w1.alloc (.cells #[.string ⟨(encW f N).toArray⟩] 9) := ⟨_, rfl⟩
  have hs1 : w1.heap.size = w.heap.size + 2 := by rw [hw1]; simp
  have hs2 : w2.heap.size = w.heap.size + 3 := by rw [hw2]; simp [hs1]
  have hb2 : Below w.heap.size w w2 := by rw [hw2, hw1]; exact (((Below.refl _ w).alloc (Nat.le_refl _) _).alloc (by simp) _).alloc (by simp; omega) _
  have hE0 : EdI w J [] w2 := by
    refine ⟨hb2, by omega, ?_, .slice none 0 0, ?_, World.ownsRow_nil _ _ _ _⟩
    · rw [hw2, hw1, Below.heap_alloc _ _ _ (by simp; omega), Below.heap_alloc _ _ _ (by simp)]; exact heap_alloc_new w _
    · rw [hw2, Below.heap_alloc _ _ _ (by rw [hs1]; omega), hw1]
      have := heap_alloc_new (w.alloc (.cells #[.pointer (some ⟨J, 0, none⟩)] 64)) (.cells #[.slice none 0 0] 34)
      simpa using this
  have HTx : Hid (w2.heap[w.heap.size + 2]? = some (.cells #[.string ⟨(encW f N).toArray⟩] 9 (0, 0))) := hid0 (by rw [hw2, ← hs1]; exact heap_alloc_new w1 _)
  have HE0 := hid0 hE0
  have HWd : Hid (Calls Tryd.prog 67 #[.string ⟨(encW f N).toArray⟩] w1 fun e w' => e = .returned (.func (.func 88) #[] #[.pointer (some ⟨w.heap.size + 2, 0, none⟩)]) ∧ w' = w2) := hid0 (by rw [hw2, ← hs1]; exact wordsIn_any _ w1)
  have HJb := hid0 hj
  have HIO := hid0 hO
  have HOZ := hid0 hZ
  have HLa := hid0 hla
  have HTab := hid0 htab
  have HG := hid0 hg
  have HS2 := hid0 hs2
  generalize htx : (⟨(encW f N).toArray⟩ : ByteArray) = txt at *
  have HTe := hid0 htx
  clear htx
  have hfold := hw1.symm
  clear hj hO hZ hla htab hE0 hb2 hw1 hw2 hs1 hs2 hg
  refine (callsIn_wide (n := 8)).1 (callsIn_of_wp_marks Tryd.func49 rfl trivial ?_ rfl)
  simp only [Tryd.ntmps49, List.size_toArray, List.length_cons, List.length_nil, Nat.reduceAdd, Nat.reduceSub, Array.replicate_succ, Array.replicate_zero, List.push_toArray, List.append_toArray, List.nil_append, List.cons_append]
  gi_wp2_with (refine ⟨trivial, ?_⟩; gi_at_call 67; refine (callsIn_wide.2 HWd.out).mono ?_; rintro e w3 ⟨rfl, hw3⟩; have HW3 := hid0 hw3; clear hw3)
  have HJk : Hid (∀ (L : List Nat) (A B : World), EdI w J L A → Only A B (fun k => k = w.heap.size + 2 ∨ (w3.heap.size ≤ k ∧ ∃ o, A.heap[k]? = some o ∧ o.isCells = false)) → EdI w J L B) := hid0 (fun L A B h ho => h.keep (by rw [HW3.out, HS2.out] at ho; exact ho))
  have HEd : Hid (∀ (L : List Nat) (W : World), EdI w J L W → W.cell? ⟨w.heap.size, 0, none⟩ = some (.pointer (some ⟨J, 0, none⟩)) ∧ W.cell? ⟨J, 1, none⟩ = some (.slice aO own.length cO) ∧ W.cell? ⟨J, 6, none⟩ = some vZ ∧ IA W aO (nI own) ∧ OwnU W lo vZ N la ∧ TabAt 11 Lib.deBruijn64tab W) := hid0 (fun L W h => by
    obtain ⟨_, c1, _, _, _, _, c6, _⟩ := (HJb.out.past h.bel).c
    exact ⟨by rw [cell_of_row _ _ _ _ _ _ h.bx]; rfl, c1, c6, HIO.out.past h.bel, HOZ.out.past h.bel, tab_past HTab.out h.bel⟩)
  have HS3 : Hid (w3.heap.size = w.heap.size + 3) := hid0 (by rw [HW3.out]; exact HS2.out)
  refine wpIn_rangeWords 6 8 (by omega) (w.heap.size + 2) N f hN rfl (by rw [HW3.out, HTe.out]; exact HTx.out) (EdK w J g own) (fun pre A B h ho => HJk.out _ A B h ho) (by rw [HW3.out]; exact HE0.out) ?assign ?body ?done
  case assign =>
    intro l x W K hK
    simp only [actV, List.setIfInBounds_toArray, List.set_cons_succ, List.set_cons_zero] at hK ⊢
    gi_wp2
    exact hK
  case body =>
    intro l pre x bx r W hJ hx hw0 hpre hl hbx hlr hbxr
    have HPre := hid0 hpre
    clear hpre
    simp only [actV, List.setIfInBounds_toArray, List.set_cons_succ, List.set_cons_zero]
    unfold EdK at hJ
    obtain ⟨d0, d1, d6, hia, hou, htb⟩ := HEd.out _ W hJ
    obtain ⟨gz, cz, ez, _, hgz, dz, _⟩ := hou.at' hx
    subst ez
    have e0 : W.cell? ⟨bx, 0, none⟩ = some (.int .i64 (x : Int)) := by rw [cell_of_row _ _ _ _ _ _ hbxr]; rfl
    have e1 : W.cell? ⟨bx, 1, none⟩ = some (.int .u64 (wordOf f x : Int)) := by rw [cell_of_row _ _ _ _ _ _ hbxr]; rfl
    have ef : W.frozen? ⟨bx, 1, none⟩ = false := by simp [World.frozen?, hbxr]
    have hand : bits .and .u64 (wordOf f x : Int) (wordOf la x : Int) = (wordOf g x : Int) := by rw [bits_and_u64_nat _ _ (by have := wordOf_lt f x; omega) (by have := wordOf_lt la x; omega), word_mask, HG.out]
    have hxI : (x : Int) < (N : Int) := by omega
    have hxI0 : (0 : Int) ≤ (x : Int) := by omega
    have hmx : Tryd.prog.follows .mixedOrders = true := by kernel_rfl
    have hbl : bx ≠ w.heap.size ∧ bx ≠ J ∧ bx ≠ gz := by
      have h1 := hbx
      have h2 := HS3.out
      have h3 := (Array.getElem?_eq_some_iff.1 HJb.out.r).1
      have h4 := World.ownsRow.lt HOZ.out gz rfl
      omega
    have HS4 : Hid ((W.drew.setCell ⟨bx, 1, none⟩ (.int .u64 (wordOf g x : Int))).cell? ⟨w.heap.size, 0, none⟩ = some (.pointer (some ⟨J, 0, none⟩)) ∧ (W.drew.setCell ⟨bx, 1, none⟩ (.int .u64 (wordOf g x : Int))).cell? ⟨J, 6, none⟩ = some (.slice (some ⟨gz, 0, none⟩) N cz) ∧ (W.drew.setCell ⟨bx, 1, none⟩ (.int .u64 (wordOf g x : Int))).cell? ⟨bx, 0, none⟩ = some (.int .i64 (x : Int)) ∧ (W.drew.setCell ⟨bx, 1, none⟩ (.int .u64 (wordOf g x : Int))).cell? ⟨gz, x, none⟩ = some (.int .u64 (wordOf la x : Int))) := hid0 (by
      have ho := Only.setCell W.drew bx 1 (.int .u64 (wordOf g x : Int))
      refine ⟨(ho.cell (p := ⟨w.heap.size, 0, none⟩) (World.block_lt_of_cell? W _ d0) (fun e => hbl.1 e.symm)).trans d0, (ho.cell (p := ⟨J, 6, none⟩) (World.block_lt_of_cell? W _ d6) (fun e => hbl.2.1 e.symm)).trans d6, ?_, (ho.cell (p := ⟨gz, x, none⟩) (World.block_lt_of_cell? W _ dz) (fun e => hbl.2.2 e.symm)).trans dz⟩
      rw [cell_of_row _ _ _ _ _ _ (heap_setCell_same W.drew bx 1 _ _ (.int .u64 (wordOf g x : Int)) hbxr)]; rfl)
    have HJ := hid0 hJ
    have HBx := hid0 hbxr
    have HLr := hid0 hlr
    clear hia hou htb hJ hbxr hlr
    gi_wp2
    refine wpIn_region_round (S := (fun V => V.cell? ⟨w.heap.size, 0, none⟩ = some (.pointer (some ⟨J, 0, none⟩)) ∧ V.cell? ⟨J, 6, none⟩ = some (.slice (some ⟨gz, 0, none⟩) N cz) ∧ V.cell? ⟨bx, 0, none⟩ = some (.int .i64 (x : Int)) ∧ V.cell? ⟨gz, x, none⟩ = some (.int .u64 (wordOf la x : Int)))) (by kernel_rfl) (by kernel_rfl) ?_ (fun hHeld => ?_)
    · exact ⟨d0, d6, e0, dz⟩
    refine tkV (i := 0) (d := some 12) (v := ?_) rfl (by kernel_rfl) (by kernel_rfl) (by kernel_rfl) rfl (fun _ _ _ h => h) (by rfl) ?_ (by assumption) ?_
    rotate_left
    · (intro w hSw; (try dsimp only at hSw); (try simp only [List.getElem_toArray, List.getElem_cons_zero]); go_simp; try with_reducible rfl)
    try simp only [Act.put, List.setIfInBounds_toArray, List.set_cons_zero, List.set_cons_succ]
    refine tkV (i := 2) (d := some 14) (v := ?_) rfl (by kernel_rfl) (by kernel_rfl) (by kernel_rfl) rfl (fun _ _ _ h => h) (by rfl) ?_ (by assumption) ?_
    rotate_left
    · (intro w hSw; (try dsimp only at hSw); (try simp only [List.getElem_toArray, List.getElem_cons_zero, List.getElem_cons_succ]); go_simp; try with_reducible rfl)
    try simp only [Act.put, List.setIfInBounds_toArray, List.set_cons_zero, List.set_cons_succ]
    refine tkV (i := 3) (d := some 15) (v := ?_) rfl (by kernel_rfl) (by kernel_rfl) (by kernel_rfl) rfl (fun _ _ _ h => h) (by rfl) ?_ (by assumption) ?_
    rotate_left
    · (intro w hSw; (try dsimp only at hSw); (try simp only [List.getElem_toArray, List.getElem_cons_zero, List.getElem_cons_succ]); go_simp; try with_reducible rfl)
    try simp only [Act.put, List.setIfInBounds_toArray, List.set_cons_zero, List.set_cons_succ]
    refine tkV (i := 4) (d := some 16) (v := ?_) rfl (by kernel_rfl) (by kernel_rfl) (by kernel_rfl) rfl (fun _ _ _ h => h) (by rfl) ?_ (by assumption) ?_
    rotate_left
    · (intro w hSw; (try dsimp only at hSw); (try simp only [List.getElem_toArray, List.getElem_cons_zero, List.getElem_cons_succ]); go_simp; try with_reducible rfl)
    try simp only [Act.put, List.setIfInBounds_toArray, List.set_cons_zero, List.set_cons_succ]
    refine tkV (i := 5) (d := some 17) (v := ?_) rfl (by kernel_rfl) (by kernel_rfl) (by kernel_rfl) rfl (fun _ _ _ h => h) (by rfl) ?_ (by assumption) ?_
    rotate_left
    · (intro w hSw; (try dsimp only at hSw); (try simp only [List.getElem_toArray, List.getElem_cons_zero, List.getElem_cons_succ]); go_simp; try with_reducible rfl)
    try simp only [Act.put, List.setIfInBounds_toArray, List.set_cons_zero, List.set_cons_succ]
    refine tkV (i := 6) (d := some 18) (v := ?_) rfl (by kernel_rfl) (by kernel_rfl) (by kernel_rfl) rfl (fun _ _ _ h => h) (by rfl) ?_ (by assumption) ?_
    rotate_left
    · (intro w hSw; (try dsimp only at hSw); (try simp only [List.getElem_toArray, List.getElem_cons_zero, List.getElem_cons_succ]); go_simp; try with_reducible rfl)
    try simp only [Act.put, List.setIfInBounds_toArray, List.set_cons_zero, List.set_cons_succ]
    refine tkV (i := 7) (d := some 19) (v := ?_) rfl (by kernel_rfl) (by kernel_rfl) (by kernel_rfl) rfl (fun _ _ _ h => h) (by rfl) ?_ (by assumption) ?_
    rotate_left
    · (intro w hSw; (try dsimp only at hSw); (try simp only [List.getElem_toArray, List.getElem_cons_zero, List.getElem_cons_succ]); go_simp; try with_reducible rfl)
    try simp only [Act.put, List.setIfInBounds_toArray, List.set_cons_zero, List.set_cons_succ]
    refine tkV (i := 8) (d := some 20) (v := ?_) rfl (by kernel_rfl) (by kernel_rfl) (by kernel_rfl) rfl (fun _ _ _ h => h) (by rfl) ?_ (by assumption) ?_
    rotate_left
    · (intro w hSw; (try dsimp only at hSw); (try simp only [List.getElem_toArray, List.getElem_cons_zero, List.getElem_cons_succ]); go_simp; try with_reducible rfl)
    try simp only [Act.put, List.setIfInBounds_toArray, List.set_cons_zero, List.set_cons_succ]
    refine tkV (i := 9) (d := some 21) (v := ?_) rfl (by kernel_rfl) (by kernel_rfl) (by kernel_rfl) rfl (fun _ _ _ h => h) (by rfl) ?_ (by assumption) ?_
    rotate_left
    · (intro w hSw; (try dsimp only at hSw); (try simp only [List.getElem_toArray, List.getElem_cons_zero, List.getElem_cons_succ]); go_simp; try with_reducible rfl)
    try simp only [Act.put, List.setIfInBounds_toArray, List.set_cons_zero, List.set_cons_succ]
    refine wpAnyH_ready (rs := [1]) (by kernel_rfl) (by simp) (AllReadyH.cons rfl (fun K hK => ?_) AllReadyH.nil)
    try simp only [List.getElem_toArray, List.getElem_cons_zero, List.getElem_cons_succ]
    go_simp
    refine hK.out _ _ ?_ (fun hHeld1 => ?_)
    · exact ⟨d0, d6, e0, dz⟩
    clear hK K
    (try simp only [Act.put]); (try simp only [List.setIfInBounds_toArray]); (try simp only [List.set_cons_succ]); (try simp only [List.set_cons_zero])
    refine tkV (i := 10) (d := some 22) (v := ?_) rfl (by kernel_rfl) (by kernel_rfl) (by kernel_rfl) rfl (fun _ _ _ h => h) (by rfl) ?_ (by assumption) ?_
    rotate_left
    · (intro w hSw; (try dsimp only at hSw); (try simp only [List.getElem_toArray, List.getElem_cons_zero, List.getElem_cons_succ]); go_simp; try with_reducible rfl)
    try simp only [Act.put, List.setIfInBounds_toArray, List.set_cons_zero, List.set_cons_succ]
    refine tkV (i := 11) (d := some 23) (v := ?_) rfl (by kernel_rfl) (by kernel_rfl) (by kernel_rfl) rfl (fun _ _ _ h => h) (by rfl) ?_ (by assumption) ?_
    rotate_left
    · (intro w hSw; (try dsimp only at hSw); (try simp only [List.getElem_toArray, List.getElem_cons_zero, List.getElem_cons_succ]); go_simp; try with_reducible rfl)
    try simp only [Act.put, List.setIfInBounds_toArray, List.set_cons_zero, List.set_cons_succ]
    refine wpAnyH_ready (rs := [12]) (by kernel_rfl) (by simp) (AllReadyH.cons rfl (fun K hK => ?_) AllReadyH.nil)
    try simp only [List.getElem_toArray, List.getElem_cons_zero, List.getElem_cons_succ]
    go_simp
    refine hK.out _ _ ?_ (fun hHeld12 => ?_)
    · exact HS4.out
    clear hK K
    (try simp only [Act.put]); (try simp only [List.setIfInBounds_toArray]); (try simp only [List.set_cons_succ]); (try simp only [List.set_cons_zero])
    refine wpAnyH_done (by kernel_rfl) ?_ _
    refine NormO.normal ?_
    obtain ⟨V4, hV4⟩ : ∃ V4, V4 = (W.setCell ⟨bx, 1, none⟩ (.int .u64 (wordOf g x : Int))).drew := ⟨_, rfl⟩
    rw [← hV4]
    have hx4 : V4.heap[bx]? = some (.cells #[.int .i64 (x : Int), .int .u64 (wordOf g x : Int)] 130 (0, 0)) := by rw [hV4]; exact heap_setCell_same W _ 1 _ _ (.int .u64 (wordOf g x : Int)) HBx.out
    have ho4 : Only W V4 (fun k => k = bx) := by
      have h := Only.setCell W bx 1 (.int .u64 (wordOf g x : Int))
      rw [hV4]
      exact ⟨h.os, h.tape, h.output, h.size, h.block⟩
    have hE4 := HJ.out.word HBx.out (by have := HS3.out; omega) ho4
    have hl4 : V4.heap[l]? = some (.loop r) := (ho4.block l (Array.getElem?_eq_some_iff.1 HLr.out).1 (fun e => by have h1 := HLr.out; rw [e, HBx.out] at h1; cases h1)).trans HLr.out
    have HK4 : Hid (KpB bx W V4) := hid0 ⟨ho4.size, fun k o hk h1 _ => (ho4.block k (Array.getElem?_eq_some_iff.1 h1).1 hk).trans h1⟩
    have f0 : V4.cell? ⟨bx, 0, none⟩ = some (.int .i64 (x : Int)) := by rw [cell_of_row _ _ _ _ _ _ hx4]; rfl
    have f1 : V4.cell? ⟨bx, 1, none⟩ = some (.int .u64 (wordOf g x : Int)) := by rw [cell_of_row _ _ _ _ _ _ hx4]; rfl
    have HE4 := hid0 hE4
    have HL4 := hid0 hl4
    obtain ⟨k0, hk0⟩ : ∃ k0, k0 = (plB g (64 * x)).length := ⟨_, rfl⟩
    obtain ⟨P0, hP0⟩ : ∃ P0, P0 = pre.flatMap (pw g) := ⟨_, rfl⟩
    have HK0 := hid0 (And.intro hk0 hP0)
    have hxN : x < 1000000 := by omega
    clear d0 d1 d6 dz e0 e1 ef hand hgz hV4 hx4 ho4 hE4 hl4 hbl HS4 hk0 hP0
    gi_wp2
    refine wpIn_rangeW 7 6 (by omega) HL4.out x g (by omega) rfl (EdJ w J own P0 k0) ?keepI (fun lst A h => (HEd.out _ A h.1).2.2.2.2.2) ?startI ?assignI ?bodyI ?doneI
    case keepI =>
      rintro lst A B ⟨h1, h2⟩ ho
      refine ⟨h1.keep ⟨ho.os, ho.tape, ho.output, ho.size, fun k hk hn => ho.block k hk (fun ⟨q1, q2⟩ => hn (.inr ⟨by have := HE4.out.sz; omega, q2⟩))⟩, h2⟩
    case startI =>
      refine ⟨?_, by rw [HK0.out.1]; exact Nat.le_refl _⟩
      rw [List.drop_of_length_le (by rw [HK0.out.1]; exact Nat.le_refl _), List.append_nil, HK0.out.2]
      exact HE4.out
    case assignI =>
      intro l x W K hK
      simp only [actE, List.setIfInBounds_toArray, List.set_cons_succ, List.set_cons_zero] at hK ⊢
      gi_wp2
      exact hK
    case bodyI =>
      intro l2 lst q V hJq h1 h2 hgq hlq
      simp only [actE, List.setIfInBounds_toArray, List.set_cons_succ, List.set_cons_zero]
      obtain ⟨hEq, hkl⟩ := hJq
      obtain ⟨d0, d1, _, hia, _, _⟩ := HEd.out _ V hEq
      have hqo : q < own.length := HLa.out q (by have := hgq; rw [HG.out] at this; simp only [Bool.and_eq_true] at this; exact this.2)
      obtain ⟨bo, oo, eo, _, dq⟩ := hia.at' q (by rw [nI_len]; exact hqo)
      subst eo
      obtain ⟨m, hm⟩ : ∃ m : Nat, m = own.getD q 0 := ⟨_, rfl⟩
      replace dq : V.cell? ⟨bo, oo + q, none⟩ = some (.int .i64 (m : Int)) := by rw [dq, hm]; simp [nI, hqo]
      obtain ⟨LL, hLL⟩ : ∃ LL, LL = onceC [] ((P0 ++ lst.drop k0).map fun q => own.getD q 0) := ⟨_, rfl⟩
      have HNx : Hid (onceC [] ((P0 ++ (lst ++ [q]).drop k0).map fun q => own.getD q 0) = if LL.getLast? = some m then LL else LL ++ [m]) := hid0 (by
        rw [List.drop_append_of_le_length hkl, ← List.append_assoc, List.map_append, List.map_cons, List.map_nil, onceC_snoc, ← hLL, ← hm])
      rw [← hLL] at hEq
      obtain ⟨v, hv1, hv2⟩ := hEq.ls
      have d5 : V.cell? ⟨w.heap.size + 1, 0, none⟩ = some v := by rw [cell_of_row _ _ _ _ _ _ hv1]; rfl
      obtain ⟨av, cv, ev, hiv⟩ := hv2.ia
      rw [nI_len] at ev
      have HEq := hid0 hEq
      have HV1 := hid0 hv1
      have HV2 := hid0 hv2
      have HIv := hid0 hiv
      have HKl := hid0 hkl
      have hqI : (q : Int) < (own.length : Int) := by omega
      have hqI0 : (0 : Int) ≤ (q : Int) := by omega
      have hlb : LL.length ≤ 200000000 := by
        rw [hLL, HK0.out.2]
        exact ends_len (fun q hq => by rw [HG.out] at hq; simp only [Bool.and_eq_true] at hq; exact hq.1) HPre.out hlq hN (by omega)
      have hlbI : (LL.length : Int) ≤ 200000000 := by omega
      have hsV : w.heap.size + 3 ≤ V.heap.size := hEq.sz
      obtain ⟨i0, hi, hz0, hz1, hz2⟩ := info_parts infoInt
      clear hia hEq hv1 hv2 hiv hkl hLL hm hgq h1 h2 f0 f1 hlq
      subst ev
      by_cases h0 : LL.length = 0
      · have hLe : LL = [] := List.length_eq_zero_iff.1 h0
        have HLs : Hid (¬ LL.getLast? = some m) := hid0 (by rw [hLe]; simp)
        have hb0 : ((LL.length : Int) == 0) = true := by rw [h0]; rfl
        clear h0 hLe
        gi_wp2_with (gi_at_builtin; go_loud ((refine wpListIn_append_own_at _ rfl _ _ 34 rfl (w.heap.size + 3) 3 i0 (.int .i64 0) 1 8 Tryd.underlying34 hi hz0 hz1 hz2 rfl (by decide) (.slice av LL.length cv) LL.length ((nI LL).map (Value.int .i64)) rfl (World.ownsRow.alloc (own_n HV2.out (nI_len LL)) _) ⟨V.heap.size, 0, none⟩ 1 1 [.int .i64 (m : Int)] rfl rfl (cell_one_new _ _ _) (by simp [Value.oneCell']) (by unfold maxLen; omega) (by omega) (by simp; omega) ?_; intro v' w4 hown4 hgrow4 _ _; obtain ⟨g4, e4, ev4, _⟩ := own_form hown4 (by omega); subst ev4; have R := HEq.out.app HV1.out HV2.out hown4 hgrow4; have HR := hid0 (And.intro R.1 R.2.1); have c4 := R.2.2.1; have f4 := R.2.2.2; clear R hown4 hgrow4)))
        exact ⟨⟨by rw [HNx.out, if_neg HLs.out]; exact HR.out.1, by rw [List.length_append]; have := HKl.out; omega⟩, HR.out.2⟩
      · have hb0 : ((LL.length : Int) == 0) = false := by rw [beq_eq_false_iff_ne]; omega
        have hpos : 0 < LL.length := by omega
        obtain ⟨bv, ov, eav, _, dl⟩ := HIv.out.at' (LL.length - 1) (by rw [nI_len]; omega)
        subst eav
        obtain ⟨y, hy⟩ : ∃ y : Nat, y = LL[LL.length - 1]'(by omega) := ⟨_, rfl⟩
        replace dl : V.cell? ⟨bv, ov + (LL.length - 1), none⟩ = some (.int .i64 (y : Int)) := by rw [dl, hy]; simp [nI]
        have hly : LL.getLast? = some y := by rw [List.getLast?_eq_getElem?, List.getElem?_eq_getElem (by omega), hy]
        have hposI : (1 : Int) ≤ (LL.length : Int) := by omega
        have hcut : ((LL.length : Int) - 1).toNat = LL.length - 1 := by omega
        clear h0 hy
        by_cases hym : y = m
        · subst hym
          have HLs : Hid (LL.getLast? = some y) := hid0 hly
          have hneq : ((y : Int) != (y : Int)) = false := by simp
          clear hly
          gi_wp2
          exact ⟨⟨by rw [HNx.out, if_pos HLs.out]; exact HEq.out, by rw [List.length_append]; have := HKl.out; omega⟩, KpT.refl V⟩
        · have HLs : Hid (¬ LL.getLast? = some m) := hid0 (by rw [hly]; intro e; injection e with e; exact hym e)
          have hneq : ((y : Int) != (m : Int)) = true := by rw [bne_iff_ne]; omega
          have hneq2 : ¬ (y : Int) = (m : Int) := by omega
          clear hly hym
          gi_wp2_with (gi_at_builtin; go_loud ((refine wpListIn_append_own_at _ rfl _ _ 34 rfl (w.heap.size + 3) 3 i0 (.int .i64 0) 1 8 Tryd.underlying34 hi hz0 hz1 hz2 rfl (by decide) (.slice (some ⟨bv, ov, none⟩) LL.length cv) LL.length ((nI LL).map (Value.int .i64)) rfl (World.ownsRow.alloc (own_n HV2.out (nI_len LL)) _) ⟨V.heap.size, 0, none⟩ 1 1 [.int .i64 (m : Int)] rfl rfl (cell_one_new _ _ _) (by simp [Value.oneCell']) (by unfold maxLen; omega) (by omega) (by simp; omega) ?_; intro v' w4 hown4 hgrow4 _ _; obtain ⟨g4, e4, ev4, _⟩ := own_form hown4 (by omega); subst ev4; have R := HEq.out.app HV1.out HV2.out hown4 hgrow4; have HR := hid0 (And.intro R.1 R.2.1); have c4 := R.2.2.1; have f4 := R.2.2.2; clear R hown4 hgrow4)))
          exact ⟨⟨by rw [HNx.out, if_neg HLs.out]; exact HR.out.1, by rw [List.length_append]; have := HKl.out; omega⟩, HR.out.2⟩
    case doneI =>
      intro V hJ hKV
      have HD : Hid (EdK w J g own (pre ++ [x]) V) := hid0 (by
        have h := hJ.1
        unfold EdK
        rw [HK0.out.1, HK0.out.2] at h
        rw [List.flatMap_append]
        simp only [List.flatMap_cons, List.flatMap_nil, List.append_nil]
        exact h)
      have HKB := hid0 (HK4.out.trans (hKV.b bx))
      clear hJ hKV
      gi_wp2
      exact ⟨HD.out, HKB.out⟩
  case done =>
    intro W hJ hK
    have hJ : EdI w J (endL (fun q => f q && la q) own (64 * N)) W := by
      have h : EdK w J g own (wl f N) W := hJ
      unfold EdK at h
      rw [pw_wl (fun q hq => by rw [HG.out] at hq; simp only [Bool.and_eq_true] at hq; exact hq.1) N, HG.out] at h
      exact h
    generalize hLF : endL (fun q => f q && la q) own (64 * N) = LF at *
    have HLF := hid0 hLF
    clear hLF
    obtain ⟨v, hv1, hv2⟩ := hJ.ls
    have d5 : W.cell? ⟨w.heap.size + 1, 0, none⟩ = some v := by rw [cell_of_row _ _ _ _ _ _ hv1]; rfl
    obtain ⟨av, cv, ev, _⟩ := hv2.ia
    subst ev
    have hF : OwnI (W.putObj w3.heap.size (.deferred none)) w.heap.size (.slice av (nI LF).length cv) (nI LF) ∧ Below w.heap.size w (W.putObj w3.heap.size (.deferred none)) := by
      have h3 := HS3.out
      refine ⟨own_blk (row_lo hv2 (by omega)) (fun k hk => World.putObj_heap_other (fun e => ?_)), ⟨hJ.bel.os, hJ.bel.tape, hJ.bel.output, by simp; exact hJ.bel.size, fun k hk => (World.putObj_heap_other (by omega)).trans (hJ.bel.block k hk)⟩⟩
      obtain ⟨cs, hcs⟩ := own_typ hv2 hk
      rw [e, hK] at hcs
      cases hcs
    have HK := hid0 hK
    have HF := hid0 hF
    clear hv1 hv2 hJ hK hF
    generalize (nI LF).length = n5 at *
    gi_wp2
    refine ⟨by simp, .inl ⟨_, _, rfl, run_takeDeferred HK.out, ?_⟩⟩
    exact ⟨_, results_tmp (t := 4) rfl _ _ _, .slice av n5 cv, rfl, by rw [HLF.out]; exact HF.out.1, HF.out.2⟩
end Go.Proofs.YtbbejfkgopcjoaaDoor
