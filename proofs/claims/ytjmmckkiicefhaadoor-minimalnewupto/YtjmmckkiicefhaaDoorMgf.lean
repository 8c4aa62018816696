/-
  MjOM, MjOW, MjRM, MjQW, MjRW, MjUW, MiDW.
-/
import Derived.Test.YtjmmckkiicefhaaDoorMgd
import Derived.Test.YtjmmckkiicefhaaDoorMge
import Derived.Deep.CutRange
import Derived.Test.YtjmmckkiicefhaaDoorMga
namespace Go.Proofs.YtjmmckkiicefhaaDoor
open Go.RowKit Go.Shelf
structure WoM (w W : World) (MB X NB m : Nat) (mc : Array Value) (nN : Nat) (nu : Nat → Nat) (vm : Value) (L : List Nat) (vn : Value) (FN : List Nat) (vo : Value) (vs : List Value) : Prop where
  mb : W.heap[MB]? = some (.cells mc 24 (0, 0))
  blk : W.heap[X]? = some (.cells #[.int .i64 (m : Int), vn, vo] 57 (0, 0))
  nb : Ov W NB nN nu
  met : OwnI W w.heap.size vm (natI L)
  nx : OwnI W w.heap.size vn (natI FN)
  ou : W.ownsRow w.heap.size 25 1 vo vs.length vs
  ap : ∀ k, vm.ownBlock = some k → vn.ownBlock ≠ some k ∧ k ≠ NB
  ap2 : ∀ k, vn.ownBlock = some k → k ≠ NB
  lo : w.heap.size ≤ MB ∧ w.heap.size ≤ X ∧ w.heap.size ≤ NB
  bel : Below w.heap.size w W
section
variable {w W w2 : World} {MB X NB m nN : Nat} {mc : Array Value} {nu : Nat → Nat} {vm vn vo v' : Value} {L FN : List Nat} {vs : List Value}
theorem WoM.drewN (h : WoM w W MB X NB m mc nN nu vm L vn FN vo vs) (k : Nat) : WoM w (W.drewN k) MB X NB m mc nN nu vm L vn FN vo vs :=
  ⟨h.mb, h.blk, h.nb.keep rfl, own_blk h.met (fun _ _ => rfl), own_blk h.nx (fun _ _ => rfl), own_blk h.ou (fun _ _ => rfl), h.ap, h.ap2, h.lo, below_drew' h.bel k⟩
theorem WoM.drew1 (h : WoM w W MB X NB m mc nN nu vm L vn FN vo vs) : WoM w W.drew MB X NB m mc nN nu vm L vn FN vo vs := h.drewN 1
theorem WoM.congr (h : WoM w W MB X NB m mc nN nu vm L vn FN vo vs) {nu' : Nat → Nat} (e : ∀ s, s < nN → nu s = nu' s) : WoM w W MB X NB m mc nN nu' vm L vn FN vo vs :=
  ⟨h.mb, h.blk, h.nb.congr2 e, h.met, h.nx, h.ou, h.ap, h.ap2, h.lo, h.bel⟩
theorem WoM.cell (h : WoM w W MB X NB m mc nN nu vm L vn FN vo vs) : W.cell? ⟨X, 1, none⟩ = some vn ∧ W.cell? ⟨X, 2, none⟩ = some vo := by
  refine ⟨?_, ?_⟩ <;> (rw [cell_of_row _ _ _ _ _ _ h.blk]; rfl)
theorem WoM.size (h : WoM w W MB X NB m mc nN nu vm L vn FN vo vs) : w.heap.size < W.heap.size := by
  have := (Array.getElem?_eq_some_iff.1 h.blk).1
  have := h.lo
  omega
/-- A number is written. -/
theorem WoM.setN (h : WoM w W MB X NB m mc nN nu vm L vn FN vo vs) (y v : Nat) : WoM w (W.setCell ⟨NB, y, none⟩ (.int .i64 (v : Int))) MB X NB m mc nN (putF nu y v) vm L vn FN vo vs := by
  have key : ∀ b, b ≠ NB → (W.setCell ⟨NB, y, none⟩ (.int .i64 (v : Int))).heap[b]? = W.heap[b]? := fun b hb => Below.heap_setCell _ _ _ _ hb
  have kt : ∀ {b : Nat} {cb : Array Value} {tb : TypeId}, W.heap[b]? = some (.cells cb tb (0, 0)) → tb ≠ 3 → (W.setCell ⟨NB, y, none⟩ (.int .i64 (v : Int))).heap[b]? = W.heap[b]? := fun {b cb tb} hb ht => key b (blk_ne hb h.nb.blk ht)
  have hB := (Oth1.setCell W NB y (.int .i64 (v : Int))).below2 h.lo.2.2
  exact ⟨(kt h.mb (by decide)).trans h.mb, (kt h.blk (by decide)).trans h.blk, h.nb.put v, own_blk h.met (fun k hk => key k (h.ap k hk).2), own_blk h.nx (fun k hk => key k (h.ap2 k hk)), own_blk h.ou (fun k hk => by
    obtain ⟨cs, hc⟩ := own_ty h.ou hk
    exact kt hc (by decide)), h.ap, h.ap2, h.lo, h.bel.trans hB⟩
theorem natI_snoc (L : List Nat) (y : Nat) : natI (L ++ [y]) = natI L ++ [(y : Int)] := by simp [natI]
theorem ownI_snoc2 {v : Value} {lo : Nat} {y : Nat} (hown : w2.ownsRow lo 3 1 v (L.length + 1) ((natI L).map (Value.int .i64) ++ [.int .i64 (y : Int)])) : OwnI w2 lo v (natI (L ++ [y])) := by
  unfold OwnI
  rw [natI_len, List.length_append, List.length_singleton, natI_snoc, List.map_append]
  exact hown
/-- A state is met. -/
theorem WoM.addMet (h : WoM w W MB X NB m mc nN nu vm L vn FN vo vs) (y : Nat) (ho : Only W w2 (fun k => vm.ownBlock = some k)) (hown : w2.ownsRow w.heap.size 3 1 v' (L.length + 1) ((natI L).map (Value.int .i64) ++ [.int .i64 (y : Int)])) (hat : v'.ownBlock = vm.ownBlock ∨ ∃ z, W.heap.size ≤ z ∧ v'.ownBlock = some z) :
    WoM w w2 MB X NB m mc nN nu v' (L ++ [y]) vn FN vo vs := by
  have kq : ∀ {b : Nat}, b < W.heap.size → (∀ k, vm.ownBlock = some k → b ≠ k) → w2.heap[b]? = W.heap[b]? := fun {b} hb hne => ho.block b hb (fun e => hne b e rfl)
  have tq : ∀ {b : Nat} {cb : Array Value} {tb : TypeId}, W.heap[b]? = some (.cells cb tb (0, 0)) → tb ≠ 3 → w2.heap[b]? = W.heap[b]? := fun {b cb tb} hb ht => kq (Array.getElem?_eq_some_iff.1 hb).1 (fun k hk => by
    obtain ⟨cs, hc⟩ := own_ty h.met hk
    exact blk_ne hb hc ht)
  have hnl : ∀ k, vn.ownBlock = some k → k < W.heap.size := fun k hk => (World.ownsRow.lt h.nx k hk).2
  refine ⟨(tq h.mb (by decide)).trans h.mb, (tq h.blk (by decide)).trans h.blk, h.nb.keep (kq h.nb.lt (fun k hk => Ne.symm (h.ap k hk).2)), ownI_snoc2 hown, own_blk h.nx (fun k hk => kq (hnl k hk) (fun j hj e => (h.ap j hj).1 (by rw [← e]; exact hk))), own_blk h.ou (fun k hk => by
    obtain ⟨cs, hc⟩ := own_ty h.ou hk
    exact tq hc (by decide)), fun k hk => ?_, h.ap2, h.lo, h.bel.trans (ho.below h.bel.size (fun k hk => (World.ownsRow.lt h.met k hk).1))⟩
  rcases hat with e | ⟨z, hz, e⟩
  · exact h.ap k (by rw [← e]; exact hk)
  · rw [e] at hk
    cases hk
    exact ⟨fun e => by have := hnl _ e; omega, by have := h.nb.lt; omega⟩
/-- A cell of the table is put behind. -/
theorem WoM.addNx (h : WoM w W MB X NB m mc nN nu vm L vn FN vo vs) (y : Nat) (ho : Only W w2 (fun k => vn.ownBlock = some k)) (hown : w2.ownsRow w.heap.size 3 1 v' (FN.length + 1) ((natI FN).map (Value.int .i64) ++ [.int .i64 (y : Int)])) (hat : v'.ownBlock = vn.ownBlock ∨ ∃ z, W.heap.size ≤ z ∧ v'.ownBlock = some z) :
    WoM w (w2.setCell ⟨X, 1, none⟩ v') MB X NB m mc nN nu vm L v' (FN ++ [y]) vo vs ∧ w2.cell? ⟨X, 1, none⟩ = some vn ∧ w2.frozen? ⟨X, 1, none⟩ = false := by
  have kq : ∀ {b : Nat}, b < W.heap.size → (∀ k, vn.ownBlock = some k → b ≠ k) → w2.heap[b]? = W.heap[b]? := fun {b} hb hne => ho.block b hb (fun e => hne b e rfl)
  have tq : ∀ {b : Nat} {cb : Array Value} {tb : TypeId}, W.heap[b]? = some (.cells cb tb (0, 0)) → tb ≠ 3 → w2.heap[b]? = W.heap[b]? := fun {b cb tb} hb ht => kq (Array.getElem?_eq_some_iff.1 hb).1 (fun k hk => by
    obtain ⟨cs, hc⟩ := own_ty h.nx hk
    exact blk_ne hb hc ht)
  have hX := (tq h.blk (by decide)).trans h.blk
  have hM := (tq h.mb (by decide)).trans h.mb
  have hnew := ownI_snoc2 hown
  have hml : ∀ k, vm.ownBlock = some k → k < W.heap.size := fun k hk => (World.ownsRow.lt h.met k hk).2
  have e1 : OwnI w2 w.heap.size vm (natI L) := own_blk h.met (fun k hk => kq (hml k hk) (fun j hj e => (h.ap k hk).1 (by rw [e]; exact hj)))
  have e2 : w2.ownsRow w.heap.size 25 1 vo vs.length vs := own_blk h.ou (fun k hk => by
    obtain ⟨cs, hc⟩ := own_ty h.ou hk
    exact tq hc (by decide))
  have e3 : Ov w2 NB nN nu := h.nb.keep (kq h.nb.lt (fun k hk => Ne.symm (h.ap2 k hk)))
  have key : ∀ b, b ≠ X → (w2.setCell ⟨X, 1, none⟩ v').heap[b]? = w2.heap[b]? := fun b hb => Below.heap_setCell _ _ _ _ hb
  have kx : ∀ {b : Nat} {cb : Array Value} {tb : TypeId}, w2.heap[b]? = some (.cells cb tb (0, 0)) → tb ≠ 57 → (w2.setCell ⟨X, 1, none⟩ v').heap[b]? = w2.heap[b]? := fun {b cb tb} hb ht => key b (blk_ne hb hX ht)
  refine ⟨⟨(kx hM (by decide)).trans hM, heap_setCell_same _ _ 1 _ _ v' hX, e3.keep (kx e3.blk (by decide)), own_blk e1 (fun k hk => ?_), own_blk hnew (fun k hk => ?_), own_blk e2 (fun k hk => ?_), fun k hk => ?_, fun k hk => ?_, h.lo, ?_⟩, by rw [cell_of_row _ _ _ _ _ _ hX]; rfl, by simp [World.frozen?, hX]⟩
  · obtain ⟨cs, hc⟩ := own_ty e1 hk
    exact kx hc (by decide)
  · obtain ⟨cs, hc⟩ := own_ty hnew hk
    exact kx hc (by decide)
  · obtain ⟨cs, hc⟩ := own_ty e2 hk
    exact kx hc (by decide)
  · refine ⟨fun hv => ?_, (h.ap k hk).2⟩
    rcases hat with e | ⟨z, hz, e⟩
    · exact (h.ap k hk).1 (by rw [← e]; exact hv)
    · rw [e] at hv
      cases hv
      have := hml _ hk
      omega
  · rcases hat with e | ⟨z, hz, e⟩
    · exact h.ap2 k (by rw [← e]; exact hk)
    · rw [e] at hk
      cases hk
      have := h.nb.lt
      omega
  · exact (h.bel.trans (ho.below h.bel.size (fun k hk => (World.ownsRow.lt h.nx k hk).1))).trans ((Oth1.setCell w2 X 1 v').below2 h.lo.2.1)
/-- What a state says is put behind. -/
theorem WoM.addOu (h : WoM w W MB X NB m mc nN nu vm L vn FN vo vs) (u : Value) (ho : Only W w2 (fun k => vo.ownBlock = some k)) (hown : w2.ownsRow w.heap.size 25 1 v' (vs.length + 1) (vs ++ [u])) :
    WoM w (w2.setCell ⟨X, 2, none⟩ v') MB X NB m mc nN nu vm L vn FN v' (vs ++ [u]) ∧ w2.cell? ⟨X, 2, none⟩ = some vo ∧ w2.frozen? ⟨X, 2, none⟩ = false := by
  have tq : ∀ {b : Nat} {cb : Array Value} {tb : TypeId}, W.heap[b]? = some (.cells cb tb (0, 0)) → tb ≠ 25 → w2.heap[b]? = W.heap[b]? := fun {b cb tb} hb ht => ho.block _ (Array.getElem?_eq_some_iff.1 hb).1 (fun e => by
    obtain ⟨cs, hc⟩ := own_ty h.ou e
    exact blk_ne hb hc ht rfl)
  have hX := (tq h.blk (by decide)).trans h.blk
  have hM := (tq h.mb (by decide)).trans h.mb
  have hown' : w2.ownsRow w.heap.size 25 1 v' (vs ++ [u]).length (vs ++ [u]) := by rw [List.length_append, List.length_singleton]; exact hown
  have e1 : OwnI w2 w.heap.size vm (natI L) := own_blk h.met (fun k hk => by
    obtain ⟨cs, hc⟩ := own_ty h.met hk
    exact tq hc (by decide))
  have e2 : OwnI w2 w.heap.size vn (natI FN) := own_blk h.nx (fun k hk => by
    obtain ⟨cs, hc⟩ := own_ty h.nx hk
    exact tq hc (by decide))
  have e3 : Ov w2 NB nN nu := h.nb.keep (tq h.nb.blk (by decide))
  have kx : ∀ {b : Nat} {cb : Array Value} {tb : TypeId}, w2.heap[b]? = some (.cells cb tb (0, 0)) → tb ≠ 57 → (w2.setCell ⟨X, 2, none⟩ v').heap[b]? = w2.heap[b]? := fun {b cb tb} hb ht => Below.heap_setCell _ _ _ _ (blk_ne hb hX ht)
  refine ⟨⟨(kx hM (by decide)).trans hM, heap_setCell_same _ _ 2 _ _ v' hX, e3.keep (kx e3.blk (by decide)), own_blk e1 (fun k hk => ?_), own_blk e2 (fun k hk => ?_), own_blk hown' (fun k hk => ?_), h.ap, h.ap2, h.lo, ?_⟩, by rw [cell_of_row _ _ _ _ _ _ hX]; rfl, by simp [World.frozen?, hX]⟩
  · obtain ⟨cs, hc⟩ := own_ty e1 hk
    exact kx hc (by decide)
  · obtain ⟨cs, hc⟩ := own_ty e2 hk
    exact kx hc (by decide)
  · obtain ⟨cs, hc⟩ := own_ty hown' hk
    exact kx hc (by decide)
  · exact (h.bel.trans (ho.below h.bel.size (fun k hk => (World.ownsRow.lt h.ou k hk).1))).trans ((Oth1.setCell w2 X 2 v').below2 h.lo.2.1)
end
/-- What the states say, as it stood at first. -/
structure Outs (w : World) (vs : List Value) (OL : List (List Int)) : Prop where
  len : vs.length = OL.length
  at' : ∀ k (h : k < OL.length) (h' : k < vs.length), ∃ a1 c1, vs[k] = .slice a1 (OL[k]).length c1 ∧ IA w a1 OL[k]
theorem outs_nil (w : World) : Outs w [] [] := ⟨rfl, fun _k h => absurd h (Nat.not_lt_zero _)⟩
theorem Outs.snoc {w : World} {vs : List Value} {OL : List (List Int)} (h : Outs w vs OL) {a1 : Option Addr} {c1 : Nat} {l : List Int} (hl : IA w a1 l) : Outs w (vs ++ [.slice a1 l.length c1]) (OL ++ [l]) := by
  refine ⟨by simp [h.len], fun k hk hk' => ?_⟩
  by_cases e : k < OL.length
  · rw [List.getElem_append_left (by rw [h.len]; exact e), List.getElem_append_left e]
    exact h.at' k e _
  · have hk2 : k = OL.length := by simp at hk; omega
    subst hk2
    rw [List.getElem_append_right (by rw [h.len]; exact Nat.le_refl _), List.getElem_append_right (Nat.le_refl _)]
    simp only [h.len, Nat.sub_self, List.getElem_cons_zero]
    exact ⟨a1, c1, rfl, hl⟩
theorem Outs.rwa {w W : World} {vo : Value} {vs : List Value} {OL : List (List Int)} {lo : Nat} (h : Outs w vs OL) (ho : W.ownsRow lo 25 1 vo vs.length vs) (hb : Below w.heap.size w W) : ∃ a c, vo = .slice a OL.length c ∧ RwA W a OL := by
  rcases ho.2 with ⟨e, hn⟩ | ⟨g, cap, cur, e, hg, _⟩
  · exact ⟨none, 0, by rw [e, ← h.len, hn], ⟨fun k hk => absurd hk (by rw [← h.len, hn]; exact Nat.not_lt_zero _)⟩⟩
  · refine ⟨_, cap, by rw [e, h.len], ⟨fun k hk => ?_⟩⟩
    have hk' : k < vs.length := by rw [h.len]; exact hk
    rw [e] at ho
    have hc := World.ownsRow.cellAt ho k (by omega)
    obtain ⟨a1, c1, h1, h2⟩ := h.at' k hk hk'
    refine ⟨g, 0, rfl, (World.ownsRow.lt ho g rfl).2, a1, c1, ?_, h2.past hb⟩
    rw [Nat.zero_add, hc, List.getElem?_eq_getElem hk', h1]
/-- The whole, made. -/
theorem WoM.wh {w W : World} {MB X NB m nN : Nat} {mc : Array Value} {nu : Nat → Nat} {vm vn vo : Value} {L FN : List Nat} {vs : List Value} {OL : List (List Int)} (h : WoM w W MB X NB m mc nN nu vm L vn FN vo vs) (ho : Outs w vs OL) : ∃ aN cN aO cO, Wh W X m aN cN (natI FN) aO cO OL ∧ FN.length ≤ cN := by
  obtain ⟨aN, cN, e1, h1⟩ := h.nx.ia
  obtain ⟨aO, cO, e2, h2⟩ := ho.rwa h.ou h.bel
  refine ⟨aN, cN, aO, cO, ⟨by rw [← e1, ← e2]; exact h.blk, h1, h2⟩, ?_⟩
  rcases h.nx.2 with ⟨_, hn⟩ | ⟨g, cap, cur, e, _, _, hc, _⟩
  · rw [natI_len] at hn
    omega
  · rw [e1] at e
    injection e with _ _ e3
    rw [natI_len] at hc
    omega
end Go.Proofs.YtjmmckkiicefhaaDoor
namespace Go.Proofs.YtjmmckkiicefhaaDoor
open Go.RowKit Go.Shelf
/-- What the outer loop keeps. -/
structure WoA (w W : World) (MB X NB m n st : Nat) (mc : Array Value) (N O : List (List Int)) (v : Value) (L : List Nat) (k : Nat) : Prop where
  at' : ∃ vn FN vo vs, WoM w W MB X NB m mc n (nuF L) v L vn FN vo vs ∧ BfI m st N L FN k 0 ∧ Outs w vs ((L.take k).map (outF O))
/-- What the inner loop keeps. -/
structure WoB (w W : World) (MB X NB m n st : Nat) (mc : Array Value) (N : List (List Int)) (v : Value) (L : List Nat) (k j s : Nat) (T : List Nat) (vo : Value) (vs : List Value) : Prop where
  at' : ∃ vn FN, WoM w W MB X NB m mc n (nuF L) v L vn FN vo vs ∧ BfI m st N L FN k j ∧ k ≤ top (Fl FN) (k * m)
  row : Lg1 L k = s ∧ k < L.length ∧ L.take (k + 1) = T
/-- With the state's number known. -/
structure WoC (w W : World) (MB X NB m n st : Nat) (mc : Array Value) (N : List (List Int)) (v : Value) (L : List Nat) (k j s y z : Nat) (T : List Nat) (vn : Value) (FN : List Nat) (vo : Value) (vs : List Value) : Prop where
  mem : WoM w W MB X NB m mc n (nuF L) v L vn FN vo vs
  bf : BfI m st N L (FN ++ [z]) k (j + 1)
  top' : k ≤ top (Fl (FN ++ [z])) (k * m)
  row : Lg1 L k = s ∧ k < L.length ∧ L.take (k + 1) = T
  num : nuF L y = z + 1
theorem ownI_one {W : World} {lo G st : Nat} (hG : W.heap[G]? = some (.cells #[.int .i64 (st : Int)] 3 (0, 0))) (hl : lo ≤ G) : OwnI W lo (.slice (some ⟨G, 0, none⟩) 1 1) (natI [st]) :=
  ⟨rfl, .inr ⟨G, 1, #[.int .i64 (st : Int)], rfl, hl, hG, Nat.le_refl _, by unfold maxLen; omega, by rfl, rfl⟩⟩
theorem row_nat {N : List (List Int)} {n s j : Nat} (hc : ∀ r ∈ N, ∀ x ∈ r, 0 ≤ x ∧ x < (n : Int)) (hs : s < N.length) (hj : j < (N[s]).length) : (N[s])[j] = ((nxF N s j : Nat) : Int) ∧ nxF N s j < n := by
  have h1 := hc _ (List.getElem_mem hs) _ (List.getElem_mem hj)
  have h2 : nxF N s j = ((N[s])[j]).toNat := by
    unfold nxF
    rw [show N.getD s [] = N[s] by rw [List.getD_eq_getElem?_getD, List.getElem?_eq_getElem hs]; rfl, show (N[s]).getD j 0 = (N[s])[j] by rw [List.getD_eq_getElem?_getD, List.getElem?_eq_getElem hj]; rfl]
  rw [h2]
  omega
theorem nuF_in {L : List Nat} {y : Nat} (h : y ∈ L) : nuF L y = L.idxOf y + 1 := by unfold nuF; rw [if_pos h]
theorem nuF_out {L : List Nat} {y : Nat} (h : y ∉ L) : nuF L y = 0 := by unfold nuF; rw [if_neg h]
/-- What wholeOf makes. -/
def WhO (w' : World) (X m st : Nat) (N O : List (List Int)) : Prop := ∃ L FN aN' cN' aO' cO', Wh w' X m aN' cN' (natI FN) aO' cO' (L.map (outF O)) ∧ Whl m st N L.length (Lg1 L) (Fl FN) ∧ FN.length = L.length * m ∧ FN.length ≤ cN'
set_option maxRecDepth 10000 in
set_option maxHeartbeats 1600000 in
theorem wholeOf_any (st m n : Nat) (N O : List (List Int)) (aN aO : Option Addr) (cN cO : Nat) (w : World) (hn : N.length = n) (ho : O.length = n) (ha : RwA w aN N) (hb : RwA w aO O) (hst : st < n) (hrow : ∀ r ∈ N, r.length = m) (hcell : ∀ r ∈ N, ∀ x ∈ r, 0 ≤ x ∧ x < (n : Int)) (hnb : n ≤ 2200000) (hNb : n * m ≤ 2200000) (hmb : m ≤ 2200000) :
    Calls Tryd.prog 18 #[.agg #[.int .i64 (st : Int), .slice aN n cN, .slice aO n cO], .int .i64 (m : Int)] w fun e w' => ∃ X, e = .returned (.pointer (some ⟨X, 0, none⟩)) ∧ WhO w' X m st N O ∧ Below w.heap.size w w' := by
  obtain ⟨i0, hi, hz0', hz1, hz2⟩ := info_parts infoInts
  obtain ⟨i1, hi1, hy0, hy1, hy2⟩ := info_parts infoInt
  have hmk : ∀ V : World, (Instr.makeSlice 25 (.int .i64 (n : Int)) (.int .i64 (n : Int))).run Tryd.prog V = .ok (.slice (some ⟨V.heap.size, 0, none⟩) n n) (V.alloc (zerN n)) := fun V => make_run n V (by omega)
  obtain ⟨mc, hmc⟩ : ∃ mc : Array Value, mc = #[.int .i64 (st : Int), .slice aN n cN, .slice aO n cO] := ⟨_, rfl⟩
  obtain ⟨w0, hw0⟩ : ∃ w0, w0 = w.alloc (.cells #[.int .i64 (st : Int), .slice aN n cN, .slice aO n cO] 24) := ⟨_, rfl⟩
  obtain ⟨w1, hw1⟩ : ∃ w1, w1 = w0.alloc (.cells #[.int .i64 (m : Int), .slice none 0 0, .slice none 0 0] 57) := ⟨_, rfl⟩
  obtain ⟨w2, hw2⟩ : ∃ w2, w2 = w1.alloc (zerN n) := ⟨_, rfl⟩
  obtain ⟨w3, hw3⟩ : ∃ w3, w3 = w2.alloc (.cells #[.int .i64 (st : Int)] 3) := ⟨_, rfl⟩
  obtain ⟨w4, hw4⟩ : ∃ w4, w4 = w3.setCell ⟨w1.heap.size, st, none⟩ (.int .i64 1) := ⟨_, rfl⟩
  have s0 : w0.heap.size = w.heap.size + 1 := by rw [hw0]; simp
  have s1 : w1.heap.size = w.heap.size + 2 := by rw [hw1]; simp [s0]
  have s2 : w2.heap.size = w.heap.size + 3 := by rw [hw2]; simp [s1]
  have m0 : w0.heap[w.heap.size]? = some (.cells mc 24 (0, 0)) := by rw [hw0, hmc]; exact heap_alloc_new _ _
  have m1 : w1.heap[w.heap.size]? = some (.cells mc 24 (0, 0)) := by rw [hw1, Below.heap_alloc _ _ _ (by omega)]; exact m0
  have m2 : w2.heap[w.heap.size]? = some (.cells mc 24 (0, 0)) := by rw [hw2, Below.heap_alloc _ _ _ (by omega)]; exact m1
  have m3 : w3.heap[w.heap.size]? = some (.cells mc 24 (0, 0)) := by rw [hw3, Below.heap_alloc _ _ _ (by omega)]; exact m2
  have p1 : w1.heap[w0.heap.size]? = some (.cells #[.int .i64 (m : Int), .slice none 0 0, .slice none 0 0] 57 (0, 0)) := by rw [hw1]; exact heap_alloc_new _ _
  have p3 : w3.heap[w0.heap.size]? = some (.cells #[.int .i64 (m : Int), .slice none 0 0, .slice none 0 0] 57 (0, 0)) := by rw [hw3, Below.heap_alloc _ _ _ (by omega), hw2, Below.heap_alloc _ _ _ (by omega)]; exact p1
  have n3 : Ov w3 w1.heap.size n (fun _ => 0) := ⟨by rw [hw3, Below.heap_alloc _ _ _ (by omega), hw2]; exact heap_alloc_new _ _⟩
  have g3 : w3.heap[w2.heap.size]? = some (.cells #[.int .i64 (st : Int)] 3 (0, 0)) := by rw [hw3]; exact heap_alloc_new _ _
  have hB3 : Below w.heap.size w w3 := by
    rw [hw3, hw2, hw1, hw0] at *
    exact ((((Below.refl _ _).alloc (Nat.le_refl _) _).alloc (by omega) _).alloc (by omega) _).alloc (by omega) _
  have hW3 : WoM w w3 w.heap.size w0.heap.size w1.heap.size m mc n (fun _ => 0) (.slice (some ⟨w2.heap.size, 0, none⟩) 1 1) [st] (.slice none 0 0) [] (.slice none 0 0) [] :=
    ⟨m3, p3, n3, ownI_one g3 (by omega), World.ownsRow_nil _ _ _ _, World.ownsRow_nil _ _ _ _, fun k hk => ⟨nofun, by
      have e : w2.heap.size = k := by simpa [Value.ownBlock] using hk
      omega⟩, nofun, by omega, hB3⟩
  have hW4 := (hW3.setN st 1).congr (nu' := nuF [st]) (fun s _ => by
    unfold putF
    by_cases e : s = st
    · rw [if_pos e, e, nuF_in (by simp)]; simp
    · rw [if_neg e, nuF_out (by simp [e])])
  have e41 : w3.setCell ⟨w1.heap.size, st, none⟩ (.int .i64 ((1 : Nat) : Int)) = w4 := hw4.symm
  rw [e41] at hW4
  have HA4 : Hid (WoA w w4 w.heap.size w0.heap.size w1.heap.size m n st mc N O (.slice (some ⟨w2.heap.size, 0, none⟩) 1 1) [st] 0) := hid0 ⟨_, _, _, _, hW4, bfI_zero m (by omega), outs_nil w⟩
  have x11 : w1.cell? ⟨w.heap.size, 1, none⟩ = some (.slice aN n cN) := by rw [cell_of_row _ _ _ _ _ _ m1, hmc]; rfl
  have x20 : w2.cell? ⟨w.heap.size, 0, none⟩ = some (.int .i64 (st : Int)) := by rw [cell_of_row _ _ _ _ _ _ m2, hmc]; rfl
  have x30 : w3.cell? ⟨w.heap.size, 0, none⟩ = some (.int .i64 (st : Int)) := by rw [cell_of_row _ _ _ _ _ _ m3, hmc]; rfl
  have x41 : w4.cell? ⟨w.heap.size, 1, none⟩ = some (.slice aN n cN) := by rw [cell_of_row _ _ _ _ _ _ hW4.mb, hmc]; rfl
  have y3 : w3.cell? ⟨w1.heap.size, st, none⟩ = some (.int .i64 0) := n3.cell hst
  have f3 : w3.frozen? ⟨w1.heap.size, st, none⟩ = false := n3.frozen st
  have hstI : (st : Int) < (n : Int) := by omega
  have hst0 : (0 : Int) ≤ (st : Int) := by omega
  have hn0I : (0 : Int) ≤ (n : Int) := by omega
  have HM : Hid (∀ (V : World) (MB : Nat), V.heap[MB]? = some (.cells mc 24 (0, 0)) → V.cell? ⟨MB, 1, none⟩ = some (.slice aN n cN) ∧ V.cell? ⟨MB, 2, none⟩ = some (.slice aO n cO)) := hid0 (fun V MB hV => by
    refine ⟨?_, ?_⟩ <;> (rw [cell_of_row _ _ _ _ _ _ hV, hmc]; rfl))
  have HRN := hid0 ha
  have HRO := hid0 hb
  have HRow := hid0 hrow
  have HCell := hid0 hcell
  have HNl := hid0 hn
  have HOl := hid0 ho
  have HBd : Hid (∀ k, k < n → k * m + m ≤ 2200000) := hid0 (fun k hk => by
    have := Nat.mul_le_mul_right m (show k + 1 ≤ n by omega)
    rw [Nat.add_mul] at this
    omega)
  have q0 := hw0.symm
  have q1 := hw1.symm
  have q2 := hw2.symm
  have q3 := hw3.symm
  have q4 := hw4.symm
  clear hw0 hw1 hw2 hw3 hw4 m0 m1 m2 m3 p1 p3 n3 g3 hB3 hW3 hW4 e41 ha hb hrow hcell hn ho s0 s1 s2 hmc
  go_enter Tryd.func18, Tryd.ntmps18
  go_wp2
  clear q0 q1 q2 q3 q4 x11 x20 x30 x41 y3 f3 hmk
  generalize w0.heap.size = X at *
  generalize w1.heap.size = NB at *
  go_loopw [7, 28] (fun v i wr => ∃ (k : Nat) (L : List Nat) (a : Option Addr) (c : Nat), k ≤ n ∧ i = .int .i64 (k : Int) ∧ v = .slice a L.length c ∧ Hid (WoA w wr w.heap.size X NB m n st mc N O (.slice a L.length c) L k)) (fun _ i _ => n - (intOf i).toNat)
  case atStart => exact ⟨0, [st], _, _, Nat.zero_le _, rfl, rfl, HA4⟩
  case round =>
    clear HA4
    obtain ⟨k, L, a, c, hk, rfl, rfl, HA⟩ := hrel
    obtain ⟨vn, FN, vo, vs, hM, hBf, hOu⟩ := HA.out.at'
    have hLn : L.length ≤ n := by have := nodup_le _ _ hBf.nd hBf.lt; have := HNl.out; omega
    have hkL := hBf.il
    have hFin : k = L.length → WhO wr X m st N O ∧ Below w.heap.size w wr := fun e => by
      have hOu2 := hOu
      rw [e, List.take_length] at hOu2
      obtain ⟨a1, a2, a3, a4, h1, h2⟩ := hM.wh hOu2
      exact ⟨⟨L, FN, a1, a2, a3, a4, h1, hBf.done e, by have := hBf.len; rw [e] at this; omega, h2⟩, hM.bel⟩
    have HFin := hid0 hFin
    clear hFin
    by_cases hlt : k < n
    · have hkI : (k : Int) < (n : Int) := by omega
      have hk0 : (0 : Int) ≤ (k : Int) := by omega
      by_cases hkl : k = L.length
      · have hkE : ((k : Int) == (L.length : Int)) = true := by simp [hkl]
        have hkE2 : (k : Int) = (L.length : Int) := by omega
        clear hM hBf hOu HA
        go_wp2
        go_returns
        exact ⟨X, rfl, HFin.out hkl⟩
      · have hkE : ((k : Int) == (L.length : Int)) = false := by simp; omega
        have hkE2 : ¬ (k : Int) = (L.length : Int) := by omega
        have hklI : (k : Int) < (L.length : Int) := by omega
        have hkll : k < L.length := by omega
        obtain ⟨s, hs⟩ : ∃ s, s = Lg1 L k := ⟨_, rfl⟩
        have hsn : s < n := by have := hBf.lt _ (Lg1_mem hkll); have := HNl.out; omega
        have hsI : (s : Int) < (n : Int) := by omega
        have hs0 : (0 : Int) ≤ (s : Int) := by omega
        have HMet : Hid (∀ V, WoA w V w.heap.size X NB m n st mc N O (.slice a L.length c) L k → ∃ b off, a = some ⟨b, off, none⟩ ∧ V.cell? ⟨b, off + k, none⟩ = some (.int .i64 (s : Int))) := hid0 (fun V hV => by
          obtain ⟨_, _, _, _, hM', _, _⟩ := hV.at'
          obtain ⟨a', c', e, hi'⟩ := hM'.met.ia
          rw [natI_len] at e
          injection e with e1 _ _
          subst e1
          obtain ⟨b, off, e, _, d⟩ := hi'.at' k (by rw [natI_len]; exact hkll)
          refine ⟨b, off, e, d.trans ?_⟩
          rw [hs]
          unfold Lg1 natI
          simp [hkll])
        obtain ⟨bM, oM, haM, dM⟩ := HMet.out wr HA.out
        subst haM
        obtain ⟨bO, oO, haO, hbO, a1, c1, dO0, iO⟩ := HRO.out.at' s (by rw [HOl.out]; exact hsn)
        subst haO
        have dO := (hM.bel.cell (p := ⟨bO, oO + s, none⟩) hbO).trans dO0
        have hOs : O[s]'(by rw [HOl.out]; exact hsn) = outF O s := by
          unfold outF
          rw [List.getD_eq_getElem?_getD, List.getElem?_eq_getElem (by rw [HOl.out]; exact hsn)]
          rfl
        rw [hOs] at dO iO
        obtain ⟨lO, hlO⟩ : ∃ lO, lO = (outF O s).length := ⟨_, rfl⟩
        have hOu2 : Outs w (vs ++ [.slice a1 lO c1]) ((L.take (k + 1)).map (outF O)) := by
          have e : L.take (k + 1) = L.take k ++ [s] := by
            rw [List.take_add_one, List.getElem?_eq_getElem hkll, hs]
            unfold Lg1
            rw [List.getD_eq_getElem?_getD, List.getElem?_eq_getElem hkll]
            rfl
          rw [e, List.map_append, hlO]
          exact hOu.snoc iO
        rw [← hlO] at dO
        have hvl : vs.length ≤ 2200000 := by rw [hOu.len, List.length_map, List.length_take]; omega
        obtain ⟨x1, x2⟩ := HM.out wr _ hM.mb
        obtain ⟨_, z2⟩ := hM.cell
        obtain ⟨ao, co, hvo⟩ : ∃ ao co, vo = .slice ao vs.length co := by
          obtain ⟨ao, co, e, _⟩ := hOu.rwa hM.ou hM.bel
          exact ⟨ao, co, by rw [e, hOu.len]⟩
        subst hvo
        have HMr := hid0 hM
        have HBf := hid0 hBf
        have HOu2 := hid0 hOu2
        have HCur := hid0 (hBf.cur hkll)
        have HS := hid0 hs
        clear hM hBf hOu hOu2 dO0 iO hOs hlO hs HFin HA HMet
        go_upto_region 9 with (fail)
        go_cut [28] from 28 to 94 (fun p28 wx => p28 = .int .i64 (k : Int) ∧ ∃ vo', Hid (WoM w wx w.heap.size X NB m mc n (nuF L) (.slice (some ⟨bM, oM, none⟩) L.length c) L vn FN vo' (vs ++ [.slice a1 lO c1])))
        case first =>
          obtain ⟨wA, hwA⟩ : ∃ wA, wA = wr.alloc (.cells #[.slice a1 lO c1] 25) := ⟨_, rfl⟩
          have hOA : Only wr wA (fun _ => False) := by rw [hwA]; exact Only.alloc _ _ _
          have HNew : Hid (∀ j u, [Value.slice a1 lO c1][j]? = some u → wA.cell? ((⟨wr.heap.size, 0, none⟩ : Addr).add j) = some u) := hid0 (by rw [hwA]; exact cell_one_new _ _ _)
          have HOwn : Hid (wA.ownsRow w.heap.size 25 1 (.slice ao vs.length co) vs.length vs) := hid0 (own_blk HMr.out.ou (fun b hb => hOA.block _ (World.ownsRow.lt HMr.out.ou b hb).2 (fun h => h)))
          have HLo8 : Hid (w.heap.size ≤ wA.heap.size) := hid0 (by have := HMr.out.size; have := hOA.size; omega)
          have HNx : Hid (∀ (v' : Value) (w2 : World), w2.ownsRow w.heap.size 25 1 v' (vs.length + 1) (vs ++ [.slice a1 lO c1]) → wA.drew.grownBy w2 (Value.slice ao vs.length co).ownBlock → (v'.ownBlock = (Value.slice ao vs.length co).ownBlock ∨ v'.ownBlock = some wA.drew.heap.size) → w2.cell? ⟨X, 2, none⟩ = some (.slice ao vs.length co) ∧ w2.frozen? ⟨X, 2, none⟩ = false ∧ WoM w (w2.setCell ⟨X, 2, none⟩ v') w.heap.size X NB m mc n (nuF L) (.slice (some ⟨bM, oM, none⟩) L.length c) L vn FN v' (vs ++ [.slice a1 lO c1])) := hid0 (fun v' w2 hown hgrow hat => by
            have hO2 : Only wr w2 (fun b => (Value.slice ao vs.length co).ownBlock = some b) := (hOA.mono (T := fun b => (Value.slice ao vs.length co).ownBlock = some b) (fun _ h => False.elim h)).trans (show Only wA w2 (fun b => (Value.slice ao vs.length co).ownBlock = some b) from ⟨hgrow.os, hgrow.tape, hgrow.output, hgrow.size, fun k hk hn => hgrow.block k hk (fun e => hn e.symm)⟩) (fun _ h => .inl h)
            obtain ⟨a1', a2', a3'⟩ := HMr.out.addOu _ hO2 hown
            exact ⟨a2', a3', a1'⟩)
          have z2A : wA.cell? ⟨X, 2, none⟩ = some (.slice ao vs.length co) := by rw [hwA]; exact cell_alloc z2 _
          have gA := hwA.symm
          clear hwA hOA
          go_wp2_with fail
          go_region_law ((refine step_append_own_at (by rfl) _ _ 22 (by rfl) w.heap.size 25 i0 _ 1 24 Tryd.underlying22 hi hz0' hz1 hz2 rfl (by decide) (.slice ao vs.length co) vs.length vs (by rfl) HOwn.out ⟨wr.heap.size, 0, none⟩ 1 1 [.slice a1 lO c1] (by rfl) (by rfl) HNew.out (by simp [Value.oneCell']) (by unfold maxLen; omega) (by omega) HLo8.out ?_; intro v' w2 hown hgrow hat; obtain ⟨g4, cap4, rfl⟩ := Go.Joins.ownsRow_form hown (Nat.succ_pos _); obtain ⟨n1, n2, n3⟩ := HNx.out _ _ hown hgrow hat; have HN3 := hid0 n3; clear n3 hown hgrow hat))
          all_goals
            go_wp2_with fail
            go_meet
            case rel => exact ⟨rfl, _, HN3⟩
        case rest =>
          obtain ⟨rfl, vo', HMc⟩ := hcut
          clear HMr x1 x2 z2 dM dO
          obtain ⟨T, hT⟩ : ∃ T, T = L.take (k + 1) := ⟨_, rfl⟩
          rw [← hT] at HOu2
          have HB0 : Hid (WoB w wc w.heap.size X NB m n st mc N (.slice (some ⟨bM, oM, none⟩) L.length c) L k 0 s T vo' (vs ++ [.slice a1 lO c1])) := hid0 ⟨⟨vn, FN, HMc.out, HBf.out, HCur.out⟩, HS.out.symm, hkll, hT.symm⟩
          obtain ⟨vs', hvs⟩ : ∃ vs', vs' = vs ++ [.slice a1 lO c1] := ⟨_, rfl⟩
          rw [← hvs] at HMc HB0 HOu2
          clear hvs HBf HCur hT
          obtain ⟨x1, x2⟩ := HM.out wc _ HMc.out.mb
          have dM : wc.cell? ⟨bM, oM + k, none⟩ = some (.int .i64 (s : Int)) := by
            obtain ⟨a', c', e, hi'⟩ := HMc.out.met.ia
            rw [natI_len] at e
            injection e with e1 _ _
            subst e1
            obtain ⟨b, off, e, _, d⟩ := hi'.at' k (by rw [natI_len]; exact hkll)
            cases e
            refine d.trans ?_
            rw [HS.out]
            unfold Lg1 natI
            simp [hkll]
          obtain ⟨bN, oN, haN, hbN, a2, c2, dN0, iN⟩ := HRN.out.at' s (by rw [HNl.out]; exact hsn)
          subst haN
          have hrl : (N[s]'(by rw [HNl.out]; exact hsn)).length = m := HRow.out _ (List.getElem_mem _)
          rw [hrl] at dN0
          have dN := (HMc.out.bel.cell (p := ⟨bN, oN + s, none⟩) hbN).trans dN0
          have HIN : Hid (∀ V j, Below w.heap.size w V → j < m → ∃ b off, a2 = some ⟨b, off, none⟩ ∧ V.cell? ⟨b, off + j, none⟩ = some (.int .i64 (nxF N s j : Int)) ∧ nxF N s j < n) := hid0 (fun V j hV hj => by
            obtain ⟨b, off, e, hb, d⟩ := (iN.past hV).at' j (by rw [hrl]; exact hj)
            obtain ⟨r1, r2⟩ := row_nat HCell.out (by rw [HNl.out]; exact hsn) (by rw [hrl]; exact hj)
            rw [r1] at d
            exact ⟨b, off, e, d, r2⟩)
          clear HMc dN0 iN hrl
          go_upto_region 10 with (fail)
          go_wp2
          go_quiet ((fail))
          clear x1 x2 dM dN
          go_wp2
          go_loopw [7, 61] (fun v i wr => ∃ (j : Nat) (L2 : List Nat) (a : Option Addr) (c : Nat), j ≤ m ∧ i = .int .i64 (j : Int) ∧ v = .slice a L2.length c ∧ Hid (WoB w wr w.heap.size X NB m n st mc N (.slice a L2.length c) L2 k j s T vo' vs')) (fun _ i _ => m - (intOf i).toNat)
          case atStart => exact ⟨0, L, _, _, Nat.zero_le _, rfl, rfl, hid0 (by
            obtain ⟨⟨vn, FN, h1, h2, h3⟩, h4⟩ := HB0.out
            exact ⟨⟨vn, FN, h1.drewN _, h2, h3⟩, h4⟩)⟩
          case round =>
            clear HB0
            obtain ⟨j, L2, a, c, hj, rfl, rfl, HB⟩ := hrel
            obtain ⟨⟨vn, FN, hM, hBf, hTop⟩, hRow'⟩ := HB.out
            have hLn2 : L2.length ≤ n := by have := nodup_le _ _ hBf.nd hBf.lt; have := HNl.out; omega
            by_cases hjl : j < m
            · have hjI : (j : Int) < (m : Int) := by omega
              have hj0 : (0 : Int) ≤ (j : Int) := by omega
              obtain ⟨bR, oR, haR, dR, hyn⟩ := HIN.out wr j hM.bel hjl
              subst haR
              obtain ⟨y, hy⟩ : ∃ y, y = nxF N s j := ⟨_, rfl⟩
              rw [← hy] at dR hyn
              have hyI : (y : Int) < (n : Int) := by omega
              have hy00 : (0 : Int) ≤ (y : Int) := by omega
              have dNu := hM.nb.cell hyn
              have fNu := hM.nb.frozen y
              have hFNb : FN.length + 1 ≤ 2200000 := by have := hBf.len; have := HBd.out k (by omega); omega
              have HY : Hid (y = nxF N (Lg1 L2 k) j) := hid0 (by rw [hRow'.1]; exact hy)
              have HR := hid0 hRow'
              obtain ⟨v0, hv0⟩ : ∃ v0, v0 = nuF L2 y := ⟨_, rfl⟩
              rw [← hv0] at dNu
              have HV := hid0 hv0
              have HMi := hid0 hM
              have HBi := hid0 hBf
              have HTi := hid0 hTop
              clear hy hRow' hM hBf hTop HB hv0
              go_upto_if 69 with (fail)
              go_cut [7, 61] from 61 to 93 (fun v7 p61 wx => p61 = .int .i64 (j : Int) ∧ ∃ (L3 : List Nat) (a3 : Option Addr) (c3 z : Nat), v7 = .slice a3 L3.length c3 ∧ Hid (WoC w wx w.heap.size X NB m n st mc N (.slice a3 L3.length c3) L3 k j s y z T vn FN vo' vs'))
              case first =>
                by_cases hm : y ∈ L2
                · have hnu := nuF_in hm
                  have hv1 : ¬ (v0 : Int) = 0 := by have := HV.out; omega
                  have hv2 : ((v0 : Int) == 0) = false := by simp; omega
                  have HC : Hid (WoC w wr w.heap.size X NB m n st mc N (.slice a L2.length c) L2 k j s y (L2.idxOf y) T vn FN vo' vs') := hid0 ⟨HMi.out, HBi.out.old hjl HR.out.2.1 HY.out hm, cur_more HTi.out (by rw [HBi.out.len]; omega), HR.out, hnu⟩
                  clear hnu
                  go_wp2
                  go_meet
                  case rel => exact ⟨rfl, _, _, _, _, rfl, HC⟩
                · have hnu := nuF_out hm
                  have hv1 : (v0 : Int) = 0 := by have := HV.out; omega
                  have hv2 : ((v0 : Int) == 0) = true := by simp; omega
                  have hL2 : ((L2 ++ [y]).length : Int) = (L2.length : Int) + 1 := by simp
                  have HOw : Hid ((wr.alloc (.cells #[.int .i64 (y : Int)] 3)).ownsRow w.heap.size 3 1 (.slice a L2.length c) L2.length ((natI L2).map (Value.int .i64))) := hid0 (by
                    have h := HMi.out.met
                    unfold OwnI at h
                    rw [natI_len] at h
                    exact World.ownsRow.alloc h _)
                  have HLo8 : Hid (w.heap.size ≤ (wr.alloc (.cells #[.int .i64 (y : Int)] 3)).heap.size) := hid0 (by have := HMi.out.size; simp; omega)
                  obtain ⟨l3, hl3⟩ : ∃ l3, l3 = L2.length + 1 := ⟨_, rfl⟩
                  have HNx : Hid (∀ (v' : Value) (w2 : World), w2.ownsRow w.heap.size 3 1 v' (L2.length + 1) ((natI L2).map (Value.int .i64) ++ [.int .i64 (y : Int)]) → (wr.alloc (.cells #[.int .i64 (y : Int)] 3)).grownBy w2 (Value.slice a L2.length c).ownBlock → (v'.ownBlock = (Value.slice a L2.length c).ownBlock ∨ v'.ownBlock = some (wr.alloc (.cells #[.int .i64 (y : Int)] 3)).heap.size) → (∃ z0, w2.cell? ⟨NB, y, none⟩ = some (.int .i64 z0)) ∧ w2.frozen? ⟨NB, y, none⟩ = false ∧ (∀ a3 c3, v' = .slice a3 (L2.length + 1) c3 → WoC w (w2.setCell ⟨NB, y, none⟩ (.int .i64 (L2.length + 1 : Int))) w.heap.size X NB m n st mc N (.slice a3 (L2.length + 1) c3) (L2 ++ [y]) k j s y L2.length T vn FN vo' vs')) := hid0 (fun v' w2 hown hgrow hat => by
                    have hO2 : Only wr w2 (fun k => (Value.slice a L2.length c).ownBlock = some k) := (Only.alloc wr (.cells #[.int .i64 (y : Int)] 3) (fun k => (Value.slice a L2.length c).ownBlock = some k)).trans (Only.ofGrown hgrow) (fun _ h => .inl h)
                    have hA := HMi.out.addMet y hO2 hown (by
                      rcases hat with e | e
                      · exact .inl e
                      · exact .inr ⟨_, by simp, e⟩)
                    refine ⟨⟨_, hA.nb.cell hyn⟩, hA.nb.frozen y, fun a3 c3 hv => ?_⟩
                    subst hv
                    have hS := (hA.setN y (L2.length + 1)).congr (nu' := nuF (L2 ++ [y])) (fun t _ => by
                      rw [nuF_put hm]; rfl)
                    obtain ⟨r1, r2, r3⟩ := HR.out
                    refine ⟨by push_cast at hS; exact hS, HBi.out.new hjl r2 HY.out (by rw [HNl.out]; exact hyn) hm, cur_more HTi.out (by rw [HBi.out.len]; omega), ⟨by rw [Lg1_old r2]; exact r1, by simp; omega, by rw [List.take_append_of_le_length (by omega)]; exact r3⟩, by rw [nuF_put hm, if_pos rfl]⟩)
                  clear hnu
                  go_wp2_with (at_builtin; go_loud ((refine wpList_append_own_at _ rfl _ _ 25 rfl w.heap.size 3 i1 (.int .i64 0) 1 8 Tryd.underlying25 hi1 hy0 hy1 hy2 rfl (by decide) (.slice a L2.length c) L2.length ((natI L2).map (Value.int .i64)) rfl HOw.out ⟨wr.heap.size, 0, none⟩ 1 1 [.int .i64 (y : Int)] rfl rfl (cell_one_new _ _ _) (by simp [Value.oneCell']) (by unfold maxLen; omega) (by omega) HLo8.out ?_; intro v' w2 hown hgrow _ hat; obtain ⟨g5, cap5, rfl⟩ := Go.Joins.ownsRow_form hown (Nat.succ_pos _); obtain ⟨⟨z0, n1⟩, n2, n3⟩ := HNx.out _ _ hown hgrow hat; have HN3 := hid0 n3; clear n3 hown hgrow hat)))
                  go_meet
                  case rel => exact ⟨rfl, L2 ++ [y], some ⟨g5, 0, none⟩, cap5, L2.length, by simp, hid0 (by have := HN3.out _ _ rfl; simpa using this)⟩
              case rest =>
                obtain ⟨rfl, L3, a3, c3, z, rfl, HC⟩ := hcut
                clear HMi HBi HTi HR HV dR dNu fNu hLn2 HY
                obtain ⟨v1, hv1⟩ : ∃ v1, v1 = nuF L3 y := ⟨_, rfl⟩
                have dNu := HC.out.mem.nb.cell hyn
                rw [← hv1] at dNu
                have hz : z + 1 ≤ 2200000 := by
                  have h1 := (HC.out.bf.cell FN.length (by simp)).1
                  rw [Fl_new] at h1
                  have := nodup_le _ _ HC.out.bf.nd HC.out.bf.lt
                  have := HNl.out
                  omega
                have hvI : (v1 : Int) - 1 = (z : Int) := by have := HC.out.num; omega
                have hvW : IntKind.i64.wrap (z : Int) = (z : Int) := by simp [IntKind.wrap, IntKind.bits, IntKind.signed]; omega
                obtain ⟨an, cn, hvn, _⟩ := HC.out.mem.nx.ia
                rw [natI_len] at hvn
                subst hvn
                obtain ⟨z1, _⟩ := HC.out.mem.cell
                obtain ⟨wA, hwA⟩ : ∃ wA, wA = wc.alloc (.cells #[.int .i64 (z : Int)] 3) := ⟨_, rfl⟩
                have hOA : Only wc wA (fun _ => False) := by rw [hwA]; exact Only.alloc _ _ _
                have HNew : Hid (∀ j u, [Value.int .i64 (z : Int)][j]? = some u → wA.cell? ((⟨wc.heap.size, 0, none⟩ : Addr).add j) = some u) := hid0 (by rw [hwA]; exact cell_one_new _ _ _)
                have HOwn : Hid (wA.ownsRow w.heap.size 3 1 (.slice an FN.length cn) FN.length ((natI FN).map (Value.int .i64))) := hid0 (by
                  have h := HC.out.mem.nx
                  unfold OwnI at h
                  rw [natI_len] at h
                  exact own_blk h (fun b hb => hOA.block _ (World.ownsRow.lt h b hb).2 (fun h => h)))
                have HLo8 : Hid (w.heap.size ≤ wA.heap.size) := hid0 (by have := HC.out.mem.size; have := hOA.size; omega)
                have HNx : Hid (∀ (v' : Value) (w2 : World), w2.ownsRow w.heap.size 3 1 v' (FN.length + 1) ((natI FN).map (Value.int .i64) ++ [.int .i64 (z : Int)]) → wA.drew.grownBy w2 (Value.slice an FN.length cn).ownBlock → (v'.ownBlock = (Value.slice an FN.length cn).ownBlock ∨ v'.ownBlock = some wA.drew.heap.size) → w2.cell? ⟨X, 1, none⟩ = some (.slice an FN.length cn) ∧ w2.frozen? ⟨X, 1, none⟩ = false ∧ WoB w (w2.setCell ⟨X, 1, none⟩ v') w.heap.size X NB m n st mc N (.slice a3 L3.length c3) L3 k (j + 1) s T vo' vs') := hid0 (fun v' w2 hown hgrow hat => by
                  have hO2 : Only wc w2 (fun b => (Value.slice an FN.length cn).ownBlock = some b) := (hOA.mono (T := fun b => (Value.slice an FN.length cn).ownBlock = some b) (fun _ h => False.elim h)).trans (show Only wA w2 (fun b => (Value.slice an FN.length cn).ownBlock = some b) from ⟨hgrow.os, hgrow.tape, hgrow.output, hgrow.size, fun k hk hn => hgrow.block k hk (fun e => hn e.symm)⟩) (fun _ h => .inl h)
                  obtain ⟨b1', b2', b3'⟩ := HC.out.mem.addNx z hO2 hown (by
                    rcases hat with e | e
                    · exact .inl e
                    · exact .inr ⟨wA.heap.size, hOA.size, e⟩)
                  exact ⟨b2', b3', ⟨⟨_, _, b1', HC.out.bf, HC.out.top'⟩, HC.out.row⟩⟩)
                have z1A : wA.cell? ⟨X, 1, none⟩ = some (.slice an FN.length cn) := by rw [hwA]; exact cell_alloc z1 _
                have gA := hwA.symm
                clear hwA hOA hv1 HC
                go_upto_region 16 with (fail)
                go_wp2_with fail
                go_region_law ((refine step_append_own_at (by rfl) _ _ 25 (by rfl) w.heap.size 3 i1 _ 1 8 Tryd.underlying25 hi1 hy0 hy1 hy2 rfl (by decide) (.slice an FN.length cn) FN.length ((natI FN).map (Value.int .i64)) (by rfl) HOwn.out ⟨wc.heap.size, 0, none⟩ 1 1 [.int .i64 (z : Int)] (by rfl) (by rfl) HNew.out (by simp [Value.oneCell']) (by unfold maxLen; omega) (by omega) HLo8.out ?_; intro v' w2 hown hgrow hat; obtain ⟨g4, cap4, rfl⟩ := Go.Joins.ownsRow_form hown (Nat.succ_pos _); obtain ⟨n1, n2, n3⟩ := HNx.out _ _ hown hgrow hat; have HN3 := hid0 n3; clear n3 hown hgrow hat))
                all_goals
                  go_wp2
                  go_roundw
                  case rel => exact ⟨j + 1, L3, _, _, by omega, by go_num, rfl, HN3⟩
                  case measure => simp [intOf]; omega
            · obtain rfl : j = m := by omega
              have hjI : ¬ (j : Int) < (j : Int) := by omega
              have HA2 : Hid (WoA w wr w.heap.size X NB j n st mc N O (.slice a L2.length c) L2 (k + 1)) := hid0 ⟨vn, FN, vo', vs', hM, hBf.next hRow'.2.1 hTop, by rw [hRow'.2.2]; exact HOu2.out⟩
              clear hM hBf hTop HB hRow'
              go_wp2
              go_roundw
              case rel => exact ⟨k + 1, L2, _, _, by omega, by go_num, rfl, HA2⟩
              case measure => simp [intOf]; omega
    · have hkI : ¬ (k : Int) < (n : Int) := by omega
      clear hM hBf hOu HA
      go_wp2
      go_returns
      exact ⟨X, rfl, HFin.out (by omega)⟩
end Go.Proofs.YtjmmckkiicefhaaDoor
namespace Go.Proofs.YtjmmckkiicefhaaDoor
open Go.RowKit Go.Shelf
theorem getD_old {l : List Nat} {x i : Nat} (h : i < l.length) : (l ++ [x]).getD i 0 = l.getD i 0 := by
  rw [List.getD_eq_getElem?_getD, List.getD_eq_getElem?_getD, List.getElem?_append_left h]
theorem getD_new (l : List Nat) (x : Nat) : (l ++ [x]).getD l.length 0 = x := by
  rw [List.getD_eq_getElem?_getD, List.getElem?_append_right (Nat.le_refl _)]
  simp
/-- The states up to t; nu is one above a class's number, 0 of a class that did not come. -/
structure NmI (cl : Nat → Nat) (t : Nat) (fi : List Nat) (nu : Nat → Nat) : Prop where
  up : ∀ i j, i < j → j < fi.length → fi.getD i 0 < fi.getD j 0
  lt : ∀ q, q < fi.length → fi.getD q 0 < t
  of : ∀ s, s < t → 0 < nu (cl s) ∧ nu (cl s) - 1 < fi.length ∧ cl (fi.getD (nu (cl s) - 1) 0) = cl s ∧ fi.getD (nu (cl s) - 1) 0 ≤ s
  nu' : ∀ q, q < fi.length → nu (cl (fi.getD q 0)) = q + 1
  no : ∀ c, nu c = 0 ∨ (nu c ≤ fi.length ∧ cl (fi.getD (nu c - 1) 0) = c)
  len : fi.length ≤ t
theorem nmI_zero (cl : Nat → Nat) : NmI cl 0 [] (fun _ => 0) :=
  ⟨fun _ _ _ h => absurd h (Nat.not_lt_zero _), fun _ h => absurd h (Nat.not_lt_zero _), fun _ h => absurd h (Nat.not_lt_zero _), fun _ h => absurd h (Nat.not_lt_zero _), fun _ => .inl rfl, Nat.le_refl _⟩
section
variable {cl nu : Nat → Nat} {t : Nat} {fi : List Nat}
theorem NmI.old (h : NmI cl t fi nu) (hn : nu (cl t) ≠ 0) : NmI cl (t + 1) fi nu := by
  refine ⟨h.up, fun q hq => Nat.lt_succ_of_lt (h.lt q hq), fun s hs => ?_, h.nu', h.no, Nat.le_succ_of_le h.len⟩
  by_cases e : s = t
  · subst e
    rcases h.no (cl s) with h0 | ⟨h1, h2⟩
    · exact absurd h0 hn
    · have h3 := h.lt (nu (cl s) - 1) (by omega)
      exact ⟨by omega, by omega, h2, by omega⟩
  · exact h.of s (by omega)
theorem NmI.new (h : NmI cl t fi nu) (hn : nu (cl t) = 0) : NmI cl (t + 1) (fi ++ [t]) (putF nu (cl t) (fi.length + 1)) := by
  have hl : (fi ++ [t]).length = fi.length + 1 := by simp
  refine ⟨fun i j hij hj => ?_, fun q hq => ?_, fun s hs => ?_, fun q hq => ?_, fun c => ?_, by rw [hl]; have := h.len; omega⟩
  · rw [hl] at hj
    by_cases e : j = fi.length
    · subst e
      rw [getD_new, getD_old hij]
      exact h.lt i hij
    · rw [getD_old (by omega), getD_old (by omega)]
      exact h.up i j hij (by omega)
  · rw [hl] at hq
    by_cases e : q = fi.length
    · subst e
      rw [getD_new]
      omega
    · rw [getD_old (by omega)]
      have := h.lt q (by omega)
      omega
  · unfold putF
    by_cases e : cl s = cl t
    · rw [if_pos e, Nat.add_sub_cancel, getD_new, hl]
      refine ⟨by omega, by omega, e.symm, ?_⟩
      by_cases e2 : s = t
      · omega
      · have := (h.of s (by omega)).1
        rw [e, hn] at this
        omega
    · rw [if_neg e]
      have e2 : s ≠ t := fun e2 => e (by rw [e2])
      obtain ⟨h1, h2, h3, h4⟩ := h.of s (by omega)
      rw [getD_old h2, hl]
      exact ⟨h1, by omega, h3, h4⟩
  · rw [hl] at hq
    unfold putF
    by_cases e : q = fi.length
    · subst e
      rw [getD_new, if_pos rfl]
    · have hq' : q < fi.length := by omega
      rw [getD_old hq']
      have h1 := h.nu' q hq'
      rw [if_neg (fun e2 => by rw [e2, hn] at h1; omega)]
      exact h1
  · unfold putF
    by_cases e : c = cl t
    · rw [if_pos e, Nat.add_sub_cancel, getD_new, hl]
      exact .inr ⟨Nat.le_refl _, e.symm⟩
    · rw [if_neg e]
      rcases h.no c with h0 | ⟨h1, h2⟩
      · exact .inl h0
      · by_cases h0 : nu c = 0
        · exact .inl h0
        · rw [getD_old (by omega), hl]
          exact .inr ⟨by omega, h2⟩
theorem NmI.done {n : Nat} (h : NmI cl n fi nu) : Num1 n cl (fun c => nu c - 1) fi := by
  refine ⟨h.up, h.lt, fun s hs => ?_, fun q hq => ?_⟩
  · obtain ⟨_, h2, h3, h4⟩ := h.of s hs
    exact ⟨h2, h3, h4⟩
  · show nu (cl (fi.getD q 0)) - 1 = q
    rw [h.nu' q hq]
    rfl
end
/-- The numbers and the first states, in memory. -/
structure JnM (w W : World) (RB NB n : Nat) (rc : Array Value) (nu : Nat → Nat) (vf : Value) (fi : List Nat) : Prop where
  rb : W.heap[RB]? = some (.cells rc 24 (0, 0))
  nb : Ov W NB n nu
  fi' : OwnI W w.heap.size vf (natI fi)
  ap : ∀ k, vf.ownBlock = some k → k ≠ NB
  lo : w.heap.size ≤ RB ∧ w.heap.size ≤ NB
  bel : Below w.heap.size w W
section
variable {w W w2 : World} {RB NB n : Nat} {rc : Array Value} {nu : Nat → Nat} {vf v' : Value} {fi : List Nat}
theorem JnM.size (h : JnM w W RB NB n rc nu vf fi) : w.heap.size < W.heap.size := by
  have := (Array.getElem?_eq_some_iff.1 h.rb).1
  have := h.lo
  omega
theorem JnM.past (h : JnM w W RB NB n rc nu vf fi) (hb : Below W.heap.size W w2) : JnM w w2 RB NB n rc nu vf fi :=
  ⟨(hb.block _ (Array.getElem?_eq_some_iff.1 h.rb).1).trans h.rb, h.nb.keep (hb.block _ h.nb.lt), h.fi'.past hb, h.ap, h.lo, h.bel.trans ⟨hb.os, hb.tape, hb.output, hb.size, fun k hk => hb.block k (by have := h.bel.size; omega)⟩⟩
theorem JnM.setN (h : JnM w W RB NB n rc nu vf fi) (y v : Nat) : JnM w (W.setCell ⟨NB, y, none⟩ (.int .i64 (v : Int))) RB NB n rc (putF nu y v) vf fi := by
  have key : ∀ b, b ≠ NB → (W.setCell ⟨NB, y, none⟩ (.int .i64 (v : Int))).heap[b]? = W.heap[b]? := fun b hb => Below.heap_setCell _ _ _ _ hb
  have hB := (Oth1.setCell W NB y (.int .i64 (v : Int))).below2 h.lo.2
  exact ⟨(key _ (blk_ne h.rb h.nb.blk (by decide))).trans h.rb, h.nb.put v, own_blk h.fi' (fun k hk => key k (h.ap k hk)), h.ap, h.lo, h.bel.trans hB⟩
theorem JnM.add (h : JnM w W RB NB n rc nu vf fi) (y : Nat) (ho : Only W w2 (fun k => vf.ownBlock = some k)) (hown : w2.ownsRow w.heap.size 3 1 v' (fi.length + 1) ((natI fi).map (Value.int .i64) ++ [.int .i64 (y : Int)])) (hat : v'.ownBlock = vf.ownBlock ∨ ∃ z, W.heap.size ≤ z ∧ v'.ownBlock = some z) :
    JnM w w2 RB NB n rc nu v' (fi ++ [y]) := by
  have kq : ∀ {b : Nat}, b < W.heap.size → (∀ k, vf.ownBlock = some k → b ≠ k) → w2.heap[b]? = W.heap[b]? := fun {b} hb hne => ho.block b hb (fun e => hne b e rfl)
  refine ⟨(kq (Array.getElem?_eq_some_iff.1 h.rb).1 (fun k hk => by
    obtain ⟨cs, hc⟩ := own_ty h.fi' hk
    exact blk_ne h.rb hc (by decide))).trans h.rb, h.nb.keep (kq h.nb.lt (fun k hk => Ne.symm (h.ap k hk))), ownI_snoc2 hown, fun k hk => ?_, h.lo, h.bel.trans (ho.below h.bel.size (fun k hk => (World.ownsRow.lt h.fi' k hk).1))⟩
  rcases hat with e | ⟨z, hz, e⟩
  · exact h.ap k (by rw [← e]; exact hk)
  · rw [e] at hk
    cases hk
    have := h.nb.lt
    omega
end
end Go.Proofs.YtjmmckkiicefhaaDoor
namespace Go.Proofs.YtjmmckkiicefhaaDoor
open Go.RowKit Go.Shelf
set_option maxRecDepth 100000 in
set_option maxHeartbeats 1000000 in
theorem cloneI_any (L : List Int) (a : Option Addr) (c : Nat) (w : World) (hl : L.length ≤ 1000000000) (ha : IA w a L) :
    Calls Tryd.prog 30 #[.slice a L.length c] w fun e w' => ∃ v, e = .returned v ∧ OwnI w' w.heap.size v L ∧ Below w.heap.size w w' := by
  have q22 : ∀ (w : World) (a : Option Addr) (n c n' c' : Nat), (binOp .eql 25 (.slice a n c) (.slice none n' c')).run Tryd.prog w = .ok (.bool a.isNone) w := fun w a n c n' c' => Lib.run_eql_slice_nil w _ _ a n c n' c' Tryd.underlying25
  obtain ⟨i0, hi, hz0, hz1, hz2⟩ := info_parts infoInt
  cases a with
  | none =>
    have hL : L = [] := by
      cases L with
      | nil => rfl
      | cons y r => obtain ⟨b, off, e, _⟩ := ha.at' 0 (by simp); cases e
    subst hL
    clear ha
    go_enter Tryd.func30, Tryd.ntmps30
    go_wp2
    go_ret
    exact ⟨_, rfl, World.ownsRow_nil _ _ _ _, Below.refl _ _⟩
  | some ad =>
    have HNw : Hid (∀ (o : Obj) (j : Nat) (u : Value), (L.map (Value.int .i64))[j]? = some u → (w.alloc o).cell? (ad.add j) = some u) := hid0 (fun o j u hu => by
      have hj : j < L.length := by have := (List.getElem?_eq_some_iff.1 hu).1; simpa using this
      obtain ⟨b, off, e, h1, h2⟩ := ha.at' j hj
      cases e
      rw [Addr.add_mid]
      refine (cell_alloc h2 _).trans ?_
      have : (L.map (Value.int .i64))[j]? = some (Value.int .i64 L[j]) := by simp [hj]
      rw [this] at hu
      exact hu)
    clear ha
    go_enter Tryd.func30, Tryd.ntmps30
    go_wp2_with (at_builtin; go_loud ((
      refine wpList_append_own _ rfl _ _ 25 rfl w.heap.size 3 i0 (.int .i64 0) 1 8 Tryd.underlying25 hi hz0 hz1 hz2 rfl (by decide) _ _ _ rfl (World.ownsRow_made w #[] 0 (Nat.le_refl _) (Nat.zero_le _) rfl) ad L.length c (L.map (Value.int .i64)) rfl (by simp) (HNw.out _) (fun u hu => by obtain ⟨y, _, rfl⟩ := List.mem_map.1 hu; rfl) (by unfold maxLen; omega) (by omega) (by simp) ?_
      intro v' w1 hown hgrow _
      have HO : Hid (OwnI w1 w.heap.size v' L) := hid0 (by simpa [OwnI] using hown)
      have HB : Hid (Below w.heap.size w w1) := hid0 (((Below.refl _ w).alloc (Nat.le_refl _) _).grown hgrow (by simp) (fun k hk => by have hk' : some w.heap.size = some k := hk; injection hk' with hk'; omega))
      clear hown hgrow)))
    go_ret
    exact ⟨_, rfl, HO.out, HB.out⟩
end Go.Proofs.YtjmmckkiicefhaaDoor
namespace Go.Proofs.YtjmmckkiicefhaaDoor
open Go.RowKit Go.Shelf
def nilN (f : Nat) : Obj := .cells (List.replicate f (Value.slice none 0 0)).toArray 25
set_option maxRecDepth 100000 in
theorem make_run2 (n : Nat) (w : World) (hn : n ≤ 100000000000) : (Instr.makeSlice 22 (.int .i64 (n : Int)) (.int .i64 (n : Int))).run Tryd.prog w = .ok (.slice (some ⟨w.heap.size, 0, none⟩) n n) (w.alloc (nilN n)) := by
  obtain ⟨i, hi, hz0, hz1, hz2⟩ := info_parts infoInts
  have hr := run_make (P := Tryd.prog) w 22 25 i (.slice none 0 0) Tryd.underlying22 hi hz0 .i64 .i64 n n (by omega) (by omega) (by rw [hz2]; omega) (by omega)
  have e2 : ((n : Int)).toNat = n := Int.toNat_natCast n
  simp only [e2, hz1] at hr
  rw [hr]
  unfold nilN
  congr 3
  apply Array.ext
  · rw [size_madeCells]; simp
  · intro k h1 h2
    simp [madeCells, Value.cells, Nat.mod_one]
/-- The machine while its rows are made. -/
structure JnB (w W : World) (RB NB n : Nat) (rc : Array Value) (nu : Nat → Nat) (vf : Value) (fi : List Nat) (MB GN GO : Nat) (pN pO : Lot) : Prop where
  j : JnM w W RB NB n rc nu vf fi
  mb : W.heap[MB]? = some (.cells #[.int .i64 0, .slice (some ⟨GN, 0, none⟩) fi.length fi.length, .slice (some ⟨GO, 0, none⟩) fi.length fi.length] 24 (0, 0))
  bn : Bag W w.heap.size (.slice (some ⟨GN, 0, none⟩) fi.length fi.length) pN
  bo : Bag W w.heap.size (.slice (some ⟨GO, 0, none⟩) fi.length fi.length) pO
  ne : GN ≠ GO ∧ MB ≠ RB
  ln : pN.length = fi.length ∧ pO.length = fi.length
  x : ∀ x ∈ pN, ∀ y ∈ pO, ∀ k, x.1.ownBlock = some k → y.1.ownBlock ≠ some k
  lo : w.heap.size ≤ MB ∧ w.heap.size ≤ GN ∧ w.heap.size ≤ GO
theorem own_nil {W : World} {lo G f : Nat} (hG : W.heap[G]? = some (nilN f)) (hl : lo ≤ G) (hf : f ≤ 2200000) : W.ownsRow lo 25 1 (.slice (some ⟨G, 0, none⟩) f f) f (List.replicate f (.slice none 0 0)) :=
  ⟨by simp, .inr ⟨G, f, _, rfl, hl, hG, Nat.le_refl _, by unfold maxLen; omega, by simp, by simp⟩⟩
/-- Three blocks and the machine. -/
theorem jnB_new {w W U : World} {RB NB n : Nat} {rc : Array Value} {nu : Nat → Nat} {vf : Value} {fi : List Nat} {MB GN GO : Nat} (h : JnM w W RB NB n rc nu vf fi) (hb : Below W.heap.size W U) (hM : U.heap[MB]? = some (.cells #[.int .i64 0, .slice (some ⟨GN, 0, none⟩) fi.length fi.length, .slice (some ⟨GO, 0, none⟩) fi.length fi.length] 24 (0, 0))) (hN : U.heap[GN]? = some (nilN fi.length)) (hO : U.heap[GO]? = some (nilN fi.length)) (hne : GN ≠ GO ∧ W.heap.size ≤ MB ∧ W.heap.size ≤ GN ∧ W.heap.size ≤ GO) (hf : fi.length ≤ 2200000) :
    JnB w U RB NB n rc nu vf fi MB GN GO (List.replicate fi.length (.slice none 0 0, [])) (List.replicate fi.length (.slice none 0 0, [])) := by
  obtain ⟨n1, n2, n3, n4⟩ := hne
  have hs := h.size
  have hr := (Array.getElem?_eq_some_iff.1 h.rb).1
  exact ⟨h.past hb, hM, Bag.made (own_nil hN (by omega) hf), Bag.made (own_nil hO (by omega) hf), ⟨n1, by omega⟩, by simp, fun x hx y _ k hk => (by rw [List.eq_of_mem_replicate hx] at hk; cases hk), by omega⟩
theorem JnB.past {w W U : World} {RB NB n : Nat} {rc : Array Value} {nu : Nat → Nat} {vf : Value} {fi : List Nat} {MB GN GO : Nat} {pN pO : Lot} (h : JnB w W RB NB n rc nu vf fi MB GN GO pN pO) (hb : Below W.heap.size W U) : JnB w U RB NB n rc nu vf fi MB GN GO pN pO :=
  ⟨h.j.past hb, (hb.block _ (Array.getElem?_eq_some_iff.1 h.mb).1).trans h.mb, h.bn.later hb, h.bo.later hb, h.ne, h.ln, h.x, h.lo⟩
theorem own_mono {w : World} {b b' : Nat} {v : Value} {L : List Int} (h : OwnI w b v L) (hb : b' ≤ b) : OwnI w b' v L := ⟨h.1, by
  rcases h.2 with h2 | ⟨g, cap, cur, e, hg, r⟩
  · exact .inl h2
  · exact .inr ⟨g, cap, cur, e, Nat.le_trans hb hg, r⟩⟩
/-- A bag stays when a cell of another row of lists is written. -/
theorem Bag.aside {W : World} {lo G G2 f : Nat} {ps : Lot} {v : Value} (h : Bag W lo (.slice (some ⟨G, 0, none⟩) f f) ps) (hne : G ≠ G2) {cs : Array Value} (ht : W.heap[G2]? = some (.cells cs 25 (0, 0))) (y : Nat) : Bag (W.setCell ⟨G2, y, none⟩ v) lo (.slice (some ⟨G, 0, none⟩) f f) ps := by
  have key : ∀ b, b ≠ G2 → (W.setCell ⟨G2, y, none⟩ v).heap[b]? = W.heap[b]? := fun b hb => Below.heap_setCell _ _ _ _ hb
  refine ⟨own_blk h.outer (fun k hk => key k (fun e => ?_)), fun x hx => own_blk (h.row x hx) (fun k hk => key k (fun e => ?_)), h.apart, h.away⟩
  · have e2 : G = k := by simpa [Value.ownBlock] using hk
    omega
  · obtain ⟨c2, hc⟩ := own_ty (h.row x hx) hk
    exact blk_ne hc ht (by decide) e
/-- The machine's block and the first states' stay likewise. -/
theorem JnM.aside {w W : World} {RB NB n G2 : Nat} {rc : Array Value} {nu : Nat → Nat} {vf v : Value} {fi : List Nat} (h : JnM w W RB NB n rc nu vf fi) {cs : Array Value} (ht : W.heap[G2]? = some (.cells cs 25 (0, 0))) (hl : w.heap.size ≤ G2) (y : Nat) : JnM w (W.setCell ⟨G2, y, none⟩ v) RB NB n rc nu vf fi := by
  have key : ∀ {b : Nat} {cb : Array Value} {tb : TypeId}, W.heap[b]? = some (.cells cb tb (0, 0)) → tb ≠ 25 → (W.setCell ⟨G2, y, none⟩ v).heap[b]? = W.heap[b]? := fun {b cb tb} hb hn => Below.heap_setCell _ _ _ _ (blk_ne hb ht hn)
  refine ⟨(key h.rb (by decide)).trans h.rb, h.nb.keep (key h.nb.blk (by decide)), own_blk h.fi' (fun k hk => ?_), h.ap, h.lo, h.bel.trans ((Oth1.setCell W G2 y v).below2 hl)⟩
  obtain ⟨c2, hc⟩ := own_ty h.fi' hk
  exact key hc (by decide)
section
variable {w W U : World} {RB NB n : Nat} {rc : Array Value} {nu : Nat → Nat} {vf v' : Value} {fi : List Nat} {MB GN GO : Nat} {pN pO : Lot} {l' : List Int} {q : Nat}
theorem mem_set_or {ps : Lot} {q : Nat} {x y : Value × List Int} (h : x ∈ ps.set q y) : x ∈ ps ∨ x = y := List.mem_or_eq_of_mem_set h
theorem JnB.setO (h : JnB w W RB NB n rc nu vf fi MB GN GO pN pO) (hb : Below W.heap.size W U) (hv : OwnI U W.heap.size v' l') (hq : q < fi.length) : JnB w (U.setCell ⟨GO, q, none⟩ v') RB NB n rc nu vf fi MB GN GO pN (pO.set q (v', l')) := by
  have hU := h.past hb
  have hs := h.j.size
  obtain ⟨l1, l2, l3⟩ := h.lo
  obtain ⟨cs, hc⟩ := own_ty hU.bo.outer (k := GO) rfl
  have hnew : ∀ k, v'.ownBlock = some k → W.heap.size ≤ k := fun k hk => (World.ownsRow.lt hv k hk).1
  have hv2 : OwnI U w.heap.size v' l' := own_mono hv (by omega)
  refine ⟨hU.j.aside hc l3 q, (Below.heap_setCell _ _ _ _ (blk_ne hU.mb hc (by decide))).trans hU.mb, hU.bn.aside h.ne.1 hc q, h.bo.set h.ln.2.symm q (by rw [h.ln.2]; exact hq) (fun k hk _ => hb.block k hk) hv2 (fun k hk => .inr (hnew k hk)), h.ne, by rw [List.length_set]; exact h.ln, fun x hx y hy k hk hy2 => ?_, h.lo⟩
  rcases mem_set_or hy with hy | rfl
  · exact h.x x hx y hy k hk hy2
  · have := hnew k hy2
    have := (World.ownsRow.lt (h.bn.row x hx) k hk).2
    omega
theorem JnB.setN (h : JnB w W RB NB n rc nu vf fi MB GN GO pN pO) (hb : Below W.heap.size W U) (hv : OwnI U W.heap.size v' l') (hq : q < fi.length) : JnB w (U.setCell ⟨GN, q, none⟩ v') RB NB n rc nu vf fi MB GN GO (pN.set q (v', l')) pO := by
  have hU := h.past hb
  have hs := h.j.size
  obtain ⟨l1, l2, l3⟩ := h.lo
  obtain ⟨cs, hc⟩ := own_ty hU.bn.outer (k := GN) rfl
  have hnew : ∀ k, v'.ownBlock = some k → W.heap.size ≤ k := fun k hk => (World.ownsRow.lt hv k hk).1
  have hv2 : OwnI U w.heap.size v' l' := own_mono hv (by omega)
  refine ⟨hU.j.aside hc l2 q, (Below.heap_setCell _ _ _ _ (blk_ne hU.mb hc (by decide))).trans hU.mb, h.bn.set h.ln.1.symm q (by rw [h.ln.1]; exact hq) (fun k hk _ => hb.block k hk) hv2 (fun k hk => .inr (hnew k hk)), hU.bo.aside (Ne.symm h.ne.1) hc q, h.ne, by rw [List.length_set]; exact h.ln, fun x hx y hy k hk hy2 => ?_, h.lo⟩
  rcases mem_set_or hx with hx | rfl
  · exact h.x x hx y hy k hk hy2
  · have := hnew k hk
    have := (World.ownsRow.lt (h.bo.row y hy) k hy2).2
    omega
end
theorem ov_own {W : World} {G m lo : Nat} {p : Nat → Nat} (h : Ov W G m p) (hl : lo ≤ G) (hm : m ≤ 2200000) : OwnI W lo (.slice (some ⟨G, 0, none⟩) m m) ((List.range m).map fun c => ((p c : Nat) : Int)) :=
  ⟨by simp, .inr ⟨G, m, _, by simp, hl, h.blk, by simp, by unfold maxLen; simp; omega, by simp [ovF], by simp [ovF]; rw [List.take_of_length_le (by simp)]; rfl⟩⟩
/-- The row of a class; what it says. -/
def rwN (m : Nat) (F cl nu : Nat → Nat) (fi : List Nat) (i : Nat) : List Int := (List.range m).map fun c => ((nu (cl (F (fi.getD i 0 * m + c))) - 1 : Nat) : Int)
def rwO (OL : List (List Int)) (fi : List Nat) (i : Nat) : List Int := OL.getD (fi.getD i 0) []
/-- The rows up to q are made. -/
structure JnC (w W : World) (RB NB n : Nat) (rc : Array Value) (nu : Nat → Nat) (vf : Value) (fi : List Nat) (MB GN GO m : Nat) (F cl : Nat → Nat) (OL : List (List Int)) (q : Nat) : Prop where
  at' : ∃ pN pO, JnB w W RB NB n rc nu vf fi MB GN GO pN pO ∧ pN.map (·.2) = (List.range fi.length).map (fun i => if i < q then rwN m F cl nu fi i else []) ∧ pO.map (·.2) = (List.range fi.length).map (fun i => if i < q then rwO OL fi i else [])
theorem rep_nil (f : Nat) {r : Nat → List Int} : (List.replicate f ((Value.slice none 0 0, []) : Value × List Int)).map (·.2) = (List.range f).map (fun i => if i < 0 then r i else []) := by
  apply List.ext_getElem <;> simp
theorem jnC_zero {w W : World} {RB NB n : Nat} {rc : Array Value} {nu : Nat → Nat} {vf : Value} {fi : List Nat} {MB GN GO m : Nat} {F cl : Nat → Nat} {OL : List (List Int)} (h : JnB w W RB NB n rc nu vf fi MB GN GO (List.replicate fi.length (.slice none 0 0, [])) (List.replicate fi.length (.slice none 0 0, []))) : JnC w W RB NB n rc nu vf fi MB GN GO m F cl OL 0 :=
  ⟨_, _, h, rep_nil _, rep_nil _⟩
theorem map_set_row {ps : Lot} {f q : Nat} {r : Nat → List Int} {v : Value} (h : ps.map (·.2) = (List.range f).map (fun i => if i < q then r i else [])) : (ps.set q (v, r q)).map (·.2) = (List.range f).map (fun i => if i < q + 1 then r i else []) := by
  rw [List.map_set, h]
  apply List.ext_getElem
  · simp
  · intro i h1 h2
    simp only [List.getElem_set, List.getElem_map, List.getElem_range]
    by_cases e : q = i
    · subst e; simp
    · rw [if_neg e]
      by_cases e2 : i < q
      · rw [if_pos e2, if_pos (by omega)]
      · rw [if_neg e2, if_neg (by omega)]
theorem Bag.only {W U : World} {lo G f R : Nat} {ps : Lot} {rc : Array Value} (h : Bag W lo (.slice (some ⟨G, 0, none⟩) f f) ps) (ho : Only W U (fun b => b = R)) (hr : W.heap[R]? = some (.cells rc 24 (0, 0))) : Bag U lo (.slice (some ⟨G, 0, none⟩) f f) ps := by
  have key : ∀ {b : Nat} {cb : Array Value} {tb : TypeId}, W.heap[b]? = some (.cells cb tb (0, 0)) → tb ≠ 24 → U.heap[b]? = W.heap[b]? := fun {b cb tb} hb hn => ho.block b (Array.getElem?_eq_some_iff.1 hb).1 (blk_ne hb hr hn)
  refine ⟨own_blk h.outer (fun k hk => ?_), fun x hx => own_blk (h.row x hx) (fun k hk => ?_), h.apart, h.away⟩
  · obtain ⟨c2, hc⟩ := own_ty h.outer hk
    exact key hc (by decide)
  · obtain ⟨c2, hc⟩ := own_ty (h.row x hx) hk
    exact key hc (by decide)
/-- What joined answers. -/
def JnR (w w' : World) (n m : Nat) (F cl : Nat → Nat) (OL : List (List Int)) (vN vO : Value) : Prop := ∃ (fi : List Nat) (nu : Nat → Nat) (pN pO : Lot), Num1 n cl nu fi ∧ Bag w' w.heap.size vN pN ∧ Bag w' w.heap.size vO pO ∧ (∀ x ∈ pN, ∀ y ∈ pO, ∀ k, x.1.ownBlock = some k → y.1.ownBlock ≠ some k) ∧ (∀ k, vN.ownBlock = some k → vO.ownBlock ≠ some k) ∧ pN.map (·.2) = joinN m F cl nu fi ∧ pO.map (·.2) = fi.map (fun s => OL.getD s [])
theorem rows_done (fi : List Nat) {r : Nat → List Int} (g : Nat → List Int) (h : ∀ i, i < fi.length → r i = g (fi.getD i 0)) : (List.range fi.length).map (fun i => if i < fi.length then r i else []) = fi.map g := by
  apply List.ext_getElem
  · simp
  · intro i h1 h2
    have hi : i < fi.length := by simpa using h1
    simp only [List.getElem_map, List.getElem_range, if_pos hi]
    rw [h i hi, List.getD_eq_getElem?_getD, List.getElem?_eq_getElem hi]
    rfl
set_option maxRecDepth 10000 in
set_option maxHeartbeats 1600000 in
theorem joined_any (X m n : Nat) (aN : Option Addr) (cN : Nat) (FN : List Int) (aO : Option Addr) (cO : Nat) (OL : List (List Int)) (F cl : Nat → Nat) (C : Nat) (w : World) (hw : Wh w X m aN cN FN aO cO OL) (hC : Ov w C n cl) (hcl : ∀ s, s < n → cl s < n) (hOL : OL.length = n) (hnb : n ≤ 2200000) (hmb : m ≤ 2200000) (hFl : FN.length = n * m) (hcN : n * m ≤ cN) (hNb : n * m ≤ 2200000) (hF : ∀ c (h : c < FN.length), FN[c] = ((F c : Nat) : Int) ∧ F c < n) (hr : ∀ r ∈ OL, r.length ≤ 2200000) :
    Calls Tryd.prog 19 #[.pointer (some ⟨X, 0, none⟩), .slice (some ⟨C, 0, none⟩) n n] w fun e w' => ∃ vN vO, e = .returned (.agg #[.int .i64 0, vN, vO]) ∧ JnR w w' n m F cl OL vN vO ∧ Below w.heap.size w w' := by
  obtain ⟨i1, hi1, hy0, hy1, hy2⟩ := info_parts infoInt
  have hmk : ∀ V : World, (Instr.makeSlice 25 (.int .i64 (n : Int)) (.int .i64 (n : Int))).run Tryd.prog V = .ok (.slice (some ⟨V.heap.size, 0, none⟩) n n) (V.alloc (zerN n)) := fun V => make_run n V (by omega)
  obtain ⟨rc, hrc⟩ : ∃ rc : Array Value, rc = #[.int .i64 0, .slice none 0 0, .slice none 0 0] := ⟨_, rfl⟩
  obtain ⟨w0, hw0⟩ : ∃ w0, w0 = w.alloc (.cells #[.int .i64 0, .slice none 0 0, .slice none 0 0] 24) := ⟨_, rfl⟩
  obtain ⟨w1, hw1⟩ : ∃ w1, w1 = w0.alloc (zerN n) := ⟨_, rfl⟩
  have s0 : w0.heap.size = w.heap.size + 1 := by rw [hw0]; simp
  have m0 : w0.heap[w.heap.size]? = some (.cells rc 24 (0, 0)) := by rw [hw0, hrc]; exact heap_alloc_new _ _
  have m1 : w1.heap[w.heap.size]? = some (.cells rc 24 (0, 0)) := by rw [hw1, Below.heap_alloc _ _ _ (by omega)]; exact m0
  have n1 : Ov w1 w0.heap.size n (fun _ => 0) := ⟨by rw [hw1]; exact heap_alloc_new _ _⟩
  have hB1 : Below w.heap.size w w1 := by
    rw [hw1, hw0] at *
    exact ((Below.refl _ _).alloc (Nat.le_refl _) _).alloc (by omega) _
  have HJ1 : Hid (JnM w w1 w.heap.size w0.heap.size n rc (fun _ => 0) (.slice none 0 0) []) := hid0 ⟨m1, n1, World.ownsRow_nil _ _ _ _, nofun, by omega, hB1⟩
  have HW : Hid (∀ V, Below w.heap.size w V → Wh V X m aN cN FN aO cO OL ∧ Ov V C n cl) := hid0 (fun V hV => ⟨hw.past hV, hC.keep (hV.block _ hC.lt)⟩)
  have HCl := hid0 hcl
  have HOl := hid0 hOL
  have HFl := hid0 hFl
  have HF := hid0 hF
  have HR := hid0 hr
  have q0 := hw0.symm
  have q1 := hw1.symm
  have HRc := hid0 hrc
  clear hw0 hw1 s0 m0 m1 n1 hB1 hw hC hcl hOL hFl hF hr hrc
  go_enter Tryd.func19, Tryd.ntmps19
  go_wp2
  clear q0 q1 hmk
  generalize w0.heap.size = NB at *
  go_loopw [6, 20] (fun v i wr => ∃ (t : Nat) (fi : List Nat) (nu : Nat → Nat) (a : Option Addr) (c : Nat), t ≤ n ∧ i = .int .i64 (t : Int) ∧ v = .slice a fi.length c ∧ Hid (JnM w wr w.heap.size NB n rc nu (.slice a fi.length c) fi) ∧ Hid (NmI cl t fi nu)) (fun _ i _ => n - (intOf i).toNat)
  case atStart => exact ⟨0, [], _, _, _, Nat.zero_le _, rfl, rfl, HJ1, hid0 (nmI_zero cl)⟩
  case round =>
    clear HJ1
    obtain ⟨t, fi, nu, a, c, ht, rfl, rfl, HJ, HN⟩ := hrel
    have hfl : fi.length ≤ n := by have := HN.out.len; omega
    by_cases hlt : t < n
    · have htI : (t : Int) < (n : Int) := by omega
      have ht0 : (0 : Int) ≤ (t : Int) := by omega
      have dC := (HW.out _ HJ.out.bel).2.cell hlt
      have hyn := HCl.out t hlt
      obtain ⟨y, hy⟩ : ∃ y, y = cl t := ⟨_, rfl⟩
      rw [← hy] at dC hyn
      have hyI : (y : Int) < (n : Int) := by omega
      have hy00 : (0 : Int) ≤ (y : Int) := by omega
      have dNu := HJ.out.nb.cell hyn
      obtain ⟨v0, hv0⟩ : ∃ v0, v0 = nu y := ⟨_, rfl⟩
      rw [← hv0] at dNu
      have HY := hid0 (And.intro hy hv0)
      clear hy hv0
      by_cases hm : v0 = 0
      · have hv1 : (v0 : Int) = 0 := by omega
        have hv2 : ((v0 : Int) == 0) = true := by simp; omega
        have HOw : Hid ((wr.alloc (.cells #[.int .i64 (t : Int)] 3)).ownsRow w.heap.size 3 1 (.slice a fi.length c) fi.length ((natI fi).map (Value.int .i64))) := hid0 (by
          have h := HJ.out.fi'
          unfold OwnI at h
          rw [natI_len] at h
          exact World.ownsRow.alloc h _)
        have HLo8 : Hid (w.heap.size ≤ (wr.alloc (.cells #[.int .i64 (t : Int)] 3)).heap.size) := hid0 (by have := HJ.out.size; simp; omega)
        have HNx : Hid (∀ (v' : Value) (w2 : World), w2.ownsRow w.heap.size 3 1 v' (fi.length + 1) ((natI fi).map (Value.int .i64) ++ [.int .i64 (t : Int)]) → (wr.alloc (.cells #[.int .i64 (t : Int)] 3)).grownBy w2 (Value.slice a fi.length c).ownBlock → (v'.ownBlock = (Value.slice a fi.length c).ownBlock ∨ v'.ownBlock = some (wr.alloc (.cells #[.int .i64 (t : Int)] 3)).heap.size) → (∃ z0, w2.cell? ⟨NB, y, none⟩ = some (.int .i64 z0)) ∧ w2.frozen? ⟨NB, y, none⟩ = false ∧ (∀ a3 c3, v' = .slice a3 (fi.length + 1) c3 → JnM w (w2.setCell ⟨NB, y, none⟩ (.int .i64 (fi.length + 1 : Int))) w.heap.size NB n rc (putF nu y (fi.length + 1)) (.slice a3 (fi.length + 1) c3) (fi ++ [t]))) := hid0 (fun v' w2 hown hgrow hat => by
          have hO2 : Only wr w2 (fun k => (Value.slice a fi.length c).ownBlock = some k) := (Only.alloc wr (.cells #[.int .i64 (t : Int)] 3) (fun k => (Value.slice a fi.length c).ownBlock = some k)).trans (Only.ofGrown hgrow) (fun _ h => .inl h)
          have hA := HJ.out.add t hO2 hown (by
            rcases hat with e | e
            · exact .inl e
            · exact .inr ⟨_, by simp, e⟩)
          refine ⟨⟨_, hA.nb.cell hyn⟩, hA.nb.frozen y, fun a3 c3 hv => ?_⟩
          subst hv
          have hS := hA.setN y (fi.length + 1)
          push_cast at hS
          exact hS)
        have HN2 : Hid (NmI cl (t + 1) (fi ++ [t]) (putF nu y (fi.length + 1))) := hid0 (by
          obtain ⟨e1, e2⟩ := HY.out
          rw [e1]
          exact HN.out.new (by rw [← e1, ← e2]; exact hm))
        clear HJ HN
        go_wp2_with (at_builtin; go_loud ((refine wpList_append_own_at _ rfl _ _ 25 rfl w.heap.size 3 i1 (.int .i64 0) 1 8 Tryd.underlying25 hi1 hy0 hy1 hy2 rfl (by decide) (.slice a fi.length c) fi.length ((natI fi).map (Value.int .i64)) rfl HOw.out ⟨wr.heap.size, 0, none⟩ 1 1 [.int .i64 (t : Int)] rfl rfl (cell_one_new _ _ _) (by simp [Value.oneCell']) (by unfold maxLen; omega) (by omega) HLo8.out ?_; intro v' w2 hown hgrow _ hat; obtain ⟨g5, cap5, rfl⟩ := Go.Joins.ownsRow_form hown (Nat.succ_pos _); obtain ⟨⟨z0, n1⟩, n2, n3⟩ := HNx.out _ _ hown hgrow hat; have HN3 := hid0 n3; clear n3 hown hgrow hat)))
        go_roundw
        case rel => exact ⟨t + 1, fi ++ [t], putF nu y (fi.length + 1), some ⟨g5, 0, none⟩, cap5, by omega, by go_num, by simp, hid0 (by have := HN3.out _ _ rfl; simpa using this), HN2⟩
        case measure => simp [intOf]; omega
      · have hv1 : ¬ (v0 : Int) = 0 := by omega
        have hv2 : ((v0 : Int) == 0) = false := by simp; omega
        have HN2 : Hid (NmI cl (t + 1) fi nu) := hid0 (HN.out.old (by rw [← HY.out.1, ← HY.out.2]; exact hm))
        clear HN
        go_wp2
        go_roundw
        case rel => exact ⟨t + 1, fi, nu, _, _, by omega, by go_num, rfl, HJ, HN2⟩
        case measure => simp [intOf]; omega
    · obtain rfl : t = n := by omega
      have htI : ¬ (t : Int) < (t : Int) := by omega
      have HNu := hid0 HN.out.done
      have hmk2 : ∀ V : World, (Instr.makeSlice 22 (.int .i64 (fi.length : Int)) (.int .i64 (fi.length : Int))).run Tryd.prog V = .ok (.slice (some ⟨V.heap.size, 0, none⟩) fi.length fi.length) (V.alloc (nilN fi.length)) := fun V => make_run2 fi.length V (by omega)
      go_upto_region 10 with (fail)
      go_cut [9] from 15 (fun p9 wx => ∃ MB GN GO : Nat, p9 = .pointer (some ⟨MB, 0, none⟩) ∧ Hid (JnB w wx w.heap.size NB t rc nu (.slice a fi.length c) fi MB GN GO (List.replicate fi.length (.slice none 0 0, [])) (List.replicate fi.length (.slice none 0 0, []))))
      case first =>
        go_wp2_with fail
        go_region
        all_goals
          go_wp2_with fail
          go_meet
          case rel =>
            have T := three_mk wr
            first
              | refine ⟨_, _, _, rfl, hid0 (jnB_new HJ.out (T _ _ _).2.2.2 (T _ _ _).2.2.1 ?_ ?_ ?_ ?_)⟩
              | refine ⟨_, _, _, rfl, hid0 (jnB_new HJ.out (T _ _ _).2.2.2 (T _ _ _).2.1 ?_ ?_ ?_ ?_)⟩
              | refine ⟨_, _, _, rfl, hid0 (jnB_new HJ.out (T _ _ _).2.2.2 (T _ _ _).1 ?_ ?_ ?_ ?_)⟩
            all_goals first | exact (T _ _ _).1 | exact (T _ _ _).2.1 | exact (T _ _ _).2.2.1 | omega
      case rest =>
        obtain ⟨MB, GN, GO, rfl, HB⟩ := hcut
        have HPs : Hid (∀ y, y < t → 0 < nu (cl y) ∧ nu (cl y) ≤ fi.length) := hid0 (fun y hy => ⟨(HN.out.of y hy).1, by have := (HN.out.of y hy).2.1; omega⟩)
        clear HJ hmk2 HN
        obtain ⟨f, hf⟩ : ∃ f, f = fi.length := ⟨_, rfl⟩
        have HB0 : Hid (JnC w wc w.heap.size NB t rc nu (.slice a fi.length c) fi MB GN GO m F cl OL 0) := hid0 (jnC_zero HB.out)
        go_wp2
        go_loopw [49] (fun i wr => ∃ q : Nat, q ≤ fi.length ∧ i = .int .i64 (q : Int) ∧ Hid (JnC w wr w.heap.size NB t rc nu (.slice a fi.length c) fi MB GN GO m F cl OL q)) (fun i _ => fi.length - (intOf i).toNat)
        case atStart => exact ⟨0, Nat.zero_le _, rfl, HB0⟩
        case round =>
          clear HB HB0
          obtain ⟨q, hq, rfl, HI⟩ := hrel
          by_cases hql : q < fi.length
          · have hqI : (q : Int) < (fi.length : Int) := by omega
            have hq0 : (0 : Int) ≤ (q : Int) := by omega
            obtain ⟨pN, pO, hB, hpN, hpO⟩ := HI.out.at'
            obtain ⟨s, hs⟩ : ∃ s, s = fi.getD q 0 := ⟨_, rfl⟩
            have hst : s < t := by rw [hs]; exact HNu.out.lt q hql
            have hsI : (s : Int) < (t : Int) := by omega
            have hs0 : (0 : Int) ≤ (s : Int) := by omega
            obtain ⟨bF, oF, haF, dF⟩ : ∃ b off, a = some ⟨b, off, none⟩ ∧ wr.cell? ⟨b, off + q, none⟩ = some (.int .i64 (s : Int)) := by
              obtain ⟨a', c', e, hi'⟩ := hB.j.fi'.ia
              rw [natI_len] at e
              injection e with e1 _ _
              subst e1
              obtain ⟨b, off, e, _, d⟩ := hi'.at' q (by rw [natI_len]; exact hql)
              refine ⟨b, off, e, d.trans ?_⟩
              rw [hs]
              unfold natI
              simp [hql]
            subst haF
            obtain ⟨hWr, _⟩ := HW.out wr hB.j.bel
            obtain ⟨x0, x1, x2⟩ := hWr.cell
            rw [HOl.out] at x2
            rw [HFl.out] at x1
            obtain ⟨bO, oO, haO, _, a1, c1, dO, iO⟩ := hWr.ou.at' s (by rw [HOl.out]; exact hst)
            subst haO
            have hOs : OL[s]'(by rw [HOl.out]; exact hst) = rwO OL fi q := by
              unfold rwO
              rw [← hs, List.getD_eq_getElem?_getD, List.getElem?_eq_getElem (by rw [HOl.out]; exact hst)]
              rfl
            rw [hOs] at dO iO
            have hlr : (rwO OL fi q).length ≤ 2200000 := by rw [← hOs]; exact HR.out _ (List.getElem_mem _)
            obtain ⟨RO, hRO⟩ : ∃ RO, RO = rwO OL fi q := ⟨_, rfl⟩
            rw [← hRO] at dO iO hlr
            have y2 : wr.cell? ⟨MB, 2, none⟩ = some (.slice (some ⟨GO, 0, none⟩) fi.length fi.length) := by rw [cell_of_row _ _ _ _ _ _ hB.mb]; rfl
            have HBr := hid0 hB
            have HpN := hid0 hpN
            have HpO := hid0 hpO
            have HS := hid0 hs
            have HRO := hid0 hRO
            have HCn := hid0 (cloneI_any RO a1 c1 wr.drew (by omega) (iO.past ⟨rfl, rfl, rfl, Nat.le_refl _, fun _ _ => rfl⟩))
            clear hB hpN hpO hs hWr hOs hRO iO HI
            go_upto_region 14 with (fail)
            go_cut [49] from 49 to 112 (fun p49 wx => p49 = .int .i64 (q : Int) ∧ ∃ pO', Hid (JnB w wx w.heap.size NB t rc nu (.slice (some ⟨bF, oF, none⟩) fi.length c) fi MB GN GO pN pO') ∧ Hid (pO'.map (·.2) = (List.range fi.length).map (fun i => if i < q + 1 then rwO OL fi i else [])))
            case first =>
              have HNx : Hid (∀ (w3 : World) (v : Value), OwnI w3 wr.drew.heap.size v RO → Below wr.drew.heap.size wr.drew w3 → (∃ a' c', v = .slice a' RO.length c') ∧ w3.cell? ⟨MB, 2, none⟩ = some (.slice (some ⟨GO, 0, none⟩) fi.length fi.length) ∧ (∃ z, w3.cell? ⟨GO, q, none⟩ = some z) ∧ w3.frozen? ⟨GO, q, none⟩ = false ∧ JnB w (w3.setCell ⟨GO, q, none⟩ v) w.heap.size NB t rc nu (.slice (some ⟨bF, oF, none⟩) fi.length c) fi MB GN GO pN (pO.set q (v, RO))) := hid0 (fun w3 v hv hb' => by
                have hb : Below wr.heap.size wr w3 := ⟨hb'.os, hb'.tape, hb'.output, hb'.size, hb'.block⟩
                obtain ⟨a', c', e, _⟩ := hv.ia
                have h3 := HBr.out.past hb
                obtain ⟨z1, z2⟩ := h3.bo.cells h3.ln.2.symm q (by rw [h3.ln.2]; exact hql)
                exact ⟨⟨a', c', e⟩, by rw [cell_of_row _ _ _ _ _ _ h3.mb]; rfl, ⟨_, z1⟩, z2, HBr.out.setO hb hv hql⟩)
              go_wp2_with fail
              go_region_with ((go_at_call 30; with_reducible refine HCn.out.mono ?_; rintro e w3 ⟨v, rfl, hv, hb⟩; obtain ⟨⟨a', c', rfl⟩, k1, ⟨z, k2⟩, k3, k4⟩ := HNx.out w3 v hv hb; have HK4 := hid0 k4; clear hv hb k4))
              all_goals
                go_wp2_with fail
                go_meet
                case rel => exact ⟨rfl, _, HK4, hid0 (by rw [HRO.out]; exact map_set_row HpO.out)⟩
            case rest =>
              obtain ⟨rfl, pO', HBc, HpO2⟩ := hcut
              generalize wc = wq at *
              clear HBr HpO HRO HCn dF dO x0 x1 x2 y2 hlr
              have HMk : Hid (∀ V : World, (Instr.makeSlice 25 (.int .i64 (m : Int)) (.int .i64 (m : Int))).run Tryd.prog V = .ok (.slice (some ⟨V.heap.size, 0, none⟩) m m) (V.alloc (zerN m))) := hid0 (fun V => make_run m V (by omega))
              have hmk := HMk.out
              obtain ⟨wB, hwB⟩ : ∃ wB, wB = wq.alloc (zerN m) := ⟨_, rfl⟩
              have hBB : Below wq.heap.size wq wB := by rw [hwB]; exact (Below.refl _ _).alloc (Nat.le_refl _) _
              have hvB : Ov wB wq.heap.size m (fun _ => 0) := ⟨by rw [hwB]; exact heap_alloc_new _ _⟩
              obtain ⟨hWc, _⟩ := HW.out wq HBc.out.j.bel
              obtain ⟨x0, _, _⟩ := hWc.cell
              obtain ⟨hWB, _⟩ := HW.out wB (HBc.out.past hBB).j.bel
              obtain ⟨X0, X1, _⟩ := hWB.cell
              rw [HFl.out] at X1
              obtain ⟨p1, hp1⟩ : ∃ p1, p1 = s * m := ⟨_, rfl⟩
              obtain ⟨p2, hp2⟩ : ∃ p2, p2 = (s + 1) * m := ⟨_, rfl⟩
              obtain ⟨Nm, hNm⟩ : ∃ Nm, Nm = t * m := ⟨_, rfl⟩
              rw [← hNm] at X1 hNb hcN
              have hp12 : p2 = p1 + m := by rw [hp1, hp2, Nat.add_mul]; omega
              have hp2N : p2 ≤ Nm := by rw [hp2, hNm]; exact Nat.mul_le_mul_right m (by omega)
              have e1 : (s : Int) * (m : Int) = (p1 : Int) := by rw [hp1]; simp
              have e1W : IntKind.i64.wrap (p1 : Int) = (p1 : Int) := by simp [IntKind.wrap, IntKind.bits, IntKind.signed]; omega
              obtain ⟨s1, hs1⟩ : ∃ s1, s1 = s + 1 := ⟨_, rfl⟩
              have e2 : (s : Int) + 1 = (s1 : Int) := by omega
              have e2W : IntKind.i64.wrap (s1 : Int) = (s1 : Int) := by simp [IntKind.wrap, IntKind.bits, IntKind.signed]; omega
              have e3 : (s1 : Int) * (m : Int) = (p2 : Int) := by rw [hp2, hs1]; simp
              have e3W : IntKind.i64.wrap (p2 : Int) = (p2 : Int) := by simp [IntKind.wrap, IntKind.bits, IntKind.signed]; omega
              have i1' : (0 : Int) ≤ (p1 : Int) := by omega
              have i2' : (p1 : Int) ≤ (p2 : Int) := by omega
              have i3' : (p2 : Int) ≤ (Nm : Int) := by omega
              have i4' : (p2 : Int) ≤ (cN : Int) := by omega
              have hd3 : p2 - p1 = m := by omega
              have HBr0 : Hid (Below w.heap.size w wq) := hid0 HBc.out.j.bel
              have HBB := hid0 hBB
              have HVB := hid0 hvB
              have HP := hid0 (And.intro hp1 hp12)
              have gB := hwB.symm
              clear hwB hBB hvB hWc hWB hp1 hp2 hs1 hNm hp12
              have HIN : Hid (∀ (V : World) (x : Nat), Below w.heap.size w V → x < m → ∃ b off, aN = some ⟨b, off, none⟩ ∧ V.cell? ⟨b, off + p1 + x, none⟩ = some (.int .i64 (F (s * m + x) : Int)) ∧ F (s * m + x) < t) := hid0 (fun V x hV hx => by
                obtain ⟨hWV, _⟩ := HW.out V hV
                have hxl : s * m + x < FN.length := by
                  rw [HFl.out]
                  have := Nat.mul_le_mul_right m (show s + 1 ≤ t by omega)
                  rw [Nat.add_mul] at this
                  omega
                obtain ⟨b, off, e, _, d⟩ := hWV.nx.at' _ hxl
                rw [(HF.out _ hxl).1] at d
                refine ⟨b, off, e, ?_, (HF.out _ hxl).2⟩
                rw [HP.out.1, Nat.add_assoc]
                exact d)
              go_upto_region 16 with (fail)
              go_cut [49, 88, 89, 90] from 49 to 112 (fun p49 p88 p89 p90 wx => p49 = .int .i64 (q : Int) ∧ p90 = .int .i64 0 ∧ p89 = .int .i64 (m : Int) ∧ ∃ (a8 : Option Addr) (c8 : Nat), p88 = .slice a8 m c8 ∧ Hid (Below wB.heap.size wB wx) ∧ Hid (∀ (V : World) (x : Nat), Below w.heap.size w V → x < m → ∃ b off, a8 = some ⟨b, off, none⟩ ∧ V.cell? ⟨b, off + x, none⟩ = some (.int .i64 (F (s * m + x) : Int)) ∧ F (s * m + x) < t))
              case first =>
                by_cases hm0 : m = 0
                · have HZ : Hid (∀ (a8 : Option Addr) (V : World) (x : Nat), Below w.heap.size w V → x < m → ∃ b off, a8 = some ⟨b, off, none⟩ ∧ V.cell? ⟨b, off + x, none⟩ = some (.int .i64 (F (s * m + x) : Int)) ∧ F (s * m + x) < t) := hid0 (fun _ _ _ _ hx => by omega)
                  clear hm0
                  cases aN with
                  | none =>
                    by_cases hcp : cN = p1
                    all_goals
                      go_wp2
                      go_quiet ((fail))
                      go_wp2_with fail
                      go_meet
                      case rel => exact ⟨rfl, rfl, rfl, _, _, rfl, hid0 (below_drew' (Below.refl _ _) _), hid0 (HZ.out _)⟩
                  | some ad =>
                    by_cases hcp : cN = p1
                    all_goals
                      go_wp2
                      go_quiet ((fail))
                      go_wp2_with fail
                      go_meet
                      case rel => exact ⟨rfl, rfl, rfl, _, _, rfl, hid0 (below_drew' (Below.refl _ _) _), hid0 (HZ.out _)⟩
                · obtain ⟨b, off, ha, _⟩ := HIN.out wq 0 HBr0.out (by omega)
                  subst ha
                  have hcp : ¬ cN = p1 := by omega
                  go_wp2
                  go_quiet ((fail))
                  go_wp2_with fail
                  go_meet
                  case rel => exact ⟨rfl, rfl, rfl, _, _, rfl, hid0 (below_drew' (Below.refl _ _) _), hid0 (fun V x hV hx => by
                    obtain ⟨b', off', e, d, l⟩ := HIN.out V x hV hx
                    cases e
                    exact ⟨_, _, rfl, d, l⟩)⟩
              case rest =>
                obtain ⟨rfl, rfl, rfl, a8, c8, rfl, HBx, HI8⟩ := hcut
                clear gB X0 X1 x0 HIN HMk hmk e1 e1W e2 e2W e3 e3W i1' i2' i3' i4' hd3 HP hp2N
                have HO0 : Hid (Ov wc wq.heap.size m (fun x => if x < 0 then nu (cl (F (s * m + x))) - 1 else 0)) := hid0 (((HVB.out).keep (HBx.out.block _ HVB.out.lt)).congr2 (fun x _ => by simp))
                have HB0 : Hid (Below wq.heap.size wq wc) := hid0 (HBB.out.trans ⟨HBx.out.os, HBx.out.tape, HBx.out.output, HBx.out.size, fun k hk => HBx.out.block k (by have := HBB.out.size; omega)⟩)
                clear HBB HVB HBx
                go_wp2
                go_loopw [90] (fun i wr => ∃ x : Nat, x ≤ m ∧ i = .int .i64 (x : Int) ∧ Hid (Below wq.heap.size wq wr) ∧ Hid (Ov wr wq.heap.size m (fun c => if c < x then nu (cl (F (s * m + c))) - 1 else 0))) (fun i _ => m - (intOf i).toNat)
                case atStart => exact ⟨0, Nat.zero_le _, rfl, HB0, HO0⟩
                case round =>
                  clear HB0 HO0
                  obtain ⟨x, hx, rfl, HBw, HO⟩ := hrel
                  have hJ := HBc.out.past HBw.out
                  by_cases hxm : x < m
                  · have hxI : (x : Int) < (m : Int) := by omega
                    have hx0 : (0 : Int) ≤ (x : Int) := by omega
                    obtain ⟨b8, o8, ha8, d8, hyt⟩ := HI8.out wr x hJ.j.bel hxm
                    subst ha8
                    obtain ⟨y, hy⟩ : ∃ y, y = F (s * m + x) := ⟨_, rfl⟩
                    rw [← hy] at d8 hyt
                    have dC := (HW.out _ hJ.j.bel).2.cell hyt
                    have hkn := HCl.out y hyt
                    obtain ⟨hv1, hv2⟩ := HPs.out y hyt
                    obtain ⟨k, hk⟩ : ∃ k, k = cl y := ⟨_, rfl⟩
                    rw [← hk] at dC hkn hv1 hv2
                    have dNu := hJ.j.nb.cell hkn
                    obtain ⟨v, hv⟩ : ∃ v, v = nu k := ⟨_, rfl⟩
                    rw [← hv] at dNu hv1 hv2
                    obtain ⟨u, hu⟩ : ∃ u, u = v - 1 := ⟨_, rfl⟩
                    have huI : (v : Int) - 1 = (u : Int) := by omega
                    have huW : IntKind.i64.wrap (u : Int) = (u : Int) := by simp [IntKind.wrap, IntKind.bits, IntKind.signed]; omega
                    have hyI : (y : Int) < (t : Int) := by omega
                    have hy00 : (0 : Int) ≤ (y : Int) := by omega
                    have hkI : (k : Int) < (t : Int) := by omega
                    have hk00 : (0 : Int) ≤ (k : Int) := by omega
                    obtain ⟨zc, hzc⟩ : ∃ zc, zc = (if x < x then nu (cl (F (s * m + x))) - 1 else 0) := ⟨_, rfl⟩
                    have dR := HO.out.cell hxm
                    simp only [← hzc] at dR
                    have fR := HO.out.frozen x
                    obtain ⟨wS, hwS⟩ : ∃ wS, wS = wr.setCell ⟨wq.heap.size, x, none⟩ (.int .i64 (u : Int)) := ⟨_, rfl⟩
                    have HOS : Hid (Ov wS wq.heap.size m (fun c => if c < x + 1 then nu (cl (F (s * m + c))) - 1 else 0)) := hid0 (by
                      rw [hwS]
                      refine (HO.out.put u).congr2 (fun c _ => ?_)
                      unfold putF
                      by_cases e : c = x
                      · rw [if_pos e, if_pos (by omega), e, hu, hv, hk, hy]
                      · rw [if_neg e]
                        show (if c < x then nu (cl (F (s * m + c))) - 1 else 0) = _
                        by_cases e2 : c < x
                        · rw [if_pos e2, if_pos (by omega)]
                        · rw [if_neg e2, if_neg (by omega)])
                    have HBS : Hid (Below wq.heap.size wq wS) := hid0 (by rw [hwS]; exact HBw.out.trans ((Oth1.setCell wr wq.heap.size x (.int .i64 (u : Int))).below2 (Nat.le_refl _)))
                    have gS := hwS.symm
                    clear hwS hJ hy hk hv hu hzc HBw HO
                    go_wp2
                    go_roundw
                    case rel => exact ⟨x + 1, by omega, by go_num, HBS, HOS⟩
                    case measure => simp [intOf]; omega
                  · obtain rfl : x = m := by omega
                    have hxI : ¬ (x : Int) < (x : Int) := by omega
                    have hOwn : OwnI wr wq.heap.size (.slice (some ⟨wq.heap.size, 0, none⟩) x x) (rwN x F cl nu fi q) := by
                      have h := ov_own HO.out (Nat.le_refl _) hmb
                      have e : (List.range x).map (fun c => (((if c < x then nu (cl (F (s * x + c))) - 1 else 0) : Nat) : Int)) = rwN x F cl nu fi q := by
                        unfold rwN
                        exact List.map_congr_left (fun c hc => by rw [if_pos (List.mem_range.1 hc), HS.out])
                      rw [← e]
                      exact h
                    have y1 : wr.cell? ⟨MB, 1, none⟩ = some (.slice (some ⟨GN, 0, none⟩) fi.length fi.length) := by rw [cell_of_row _ _ _ _ _ _ hJ.mb]; rfl
                    obtain ⟨z1, z2⟩ := hJ.bn.cells hJ.ln.1.symm q (by rw [hJ.ln.1]; exact hql)
                    obtain ⟨zv, hzv⟩ : ∃ zv, zv = (pN[q]'(by rw [hJ.ln.1]; exact hql)).1 := ⟨_, rfl⟩
                    rw [← hzv] at z1
                    have HJ2 : Hid (JnC w (wr.setCell ⟨GN, q, none⟩ (.slice (some ⟨wq.heap.size, 0, none⟩) x x)) w.heap.size NB t rc nu (.slice (some ⟨bF, oF, none⟩) fi.length c) fi MB GN GO x F cl OL (q + 1)) := hid0 ⟨_, _, HBc.out.setN HBw.out hOwn hql, map_set_row HpN.out, HpO2.out⟩
                    clear hOwn hJ hzv HBw HO
                    go_wp2
                    go_roundw
                    case rel => exact ⟨q + 1, by omega, by go_num, HJ2⟩
                    case measure => simp [intOf]; omega
          · have hqI : ¬ (q : Int) < (fi.length : Int) := by omega
            obtain ⟨pN, pO, hB, hpN, hpO⟩ := HI.out.at'
            have y0 : wr.cell? ⟨MB, 0, none⟩ = some (.int .i64 0) := by rw [cell_of_row _ _ _ _ _ _ hB.mb]; rfl
            have y1 : wr.cell? ⟨MB, 1, none⟩ = some (.slice (some ⟨GN, 0, none⟩) fi.length fi.length) := by rw [cell_of_row _ _ _ _ _ _ hB.mb]; rfl
            have y2 : wr.cell? ⟨MB, 2, none⟩ = some (.slice (some ⟨GO, 0, none⟩) fi.length fi.length) := by rw [cell_of_row _ _ _ _ _ _ hB.mb]; rfl
            have hrb := hB.j.rb
            rw [HRc.out] at hrb
            obtain ⟨v1, hv1⟩ : ∃ v1, v1 = wr.setCell ⟨w.heap.size, 0, none⟩ (.int .i64 0) := ⟨_, rfl⟩
            obtain ⟨v2, hv2⟩ : ∃ v2, v2 = v1.setCell ⟨w.heap.size, 1, none⟩ (.slice (some ⟨GN, 0, none⟩) fi.length fi.length) := ⟨_, rfl⟩
            obtain ⟨v3, hv3⟩ : ∃ v3, v3 = v2.setCell ⟨w.heap.size, 2, none⟩ (.slice (some ⟨GO, 0, none⟩) fi.length fi.length) := ⟨_, rfl⟩
            have r1 : v1.heap[w.heap.size]? = some (.cells #[.int .i64 0, .slice none 0 0, .slice none 0 0] 24 (0, 0)) := by rw [hv1]; exact heap_setCell_same _ _ 0 _ _ _ hrb
            have r2 : v2.heap[w.heap.size]? = some (.cells #[.int .i64 0, .slice (some ⟨GN, 0, none⟩) fi.length fi.length, .slice none 0 0] 24 (0, 0)) := by rw [hv2]; exact heap_setCell_same _ _ 1 _ _ _ r1
            have r3 : v3.heap[w.heap.size]? = some (.cells #[.int .i64 0, .slice (some ⟨GN, 0, none⟩) fi.length fi.length, .slice (some ⟨GO, 0, none⟩) fi.length fi.length] 24 (0, 0)) := by rw [hv3]; exact heap_setCell_same _ _ 2 _ _ _ r2
            have z0 : wr.cell? ⟨w.heap.size, 0, none⟩ = some (.int .i64 0) := by rw [cell_of_row _ _ _ _ _ _ hrb]; rfl
            have z1 : wr.cell? ⟨w.heap.size, 1, none⟩ = some (.slice none 0 0) := by rw [cell_of_row _ _ _ _ _ _ hrb]; rfl
            have z2 : wr.cell? ⟨w.heap.size, 2, none⟩ = some (.slice none 0 0) := by rw [cell_of_row _ _ _ _ _ _ hrb]; rfl
            have a1 : v1.cell? ⟨w.heap.size, 1, none⟩ = some (.slice none 0 0) := by rw [cell_of_row _ _ _ _ _ _ r1]; rfl
            have a2 : v2.cell? ⟨w.heap.size, 2, none⟩ = some (.slice none 0 0) := by rw [cell_of_row _ _ _ _ _ _ r2]; rfl
            have f0 : ∀ k, wr.frozen? ⟨w.heap.size, k, none⟩ = false := fun k => by simp [World.frozen?, hrb]
            have f1 : ∀ k, v1.frozen? ⟨w.heap.size, k, none⟩ = false := fun k => by simp [World.frozen?, r1]
            have f2 : ∀ k, v2.frozen? ⟨w.heap.size, k, none⟩ = false := fun k => by simp [World.frozen?, r2]
            have b0 : v3.cell? ⟨w.heap.size, 0, none⟩ = some (.int .i64 0) := by rw [cell_of_row _ _ _ _ _ _ r3]; rfl
            have b1 : v3.cell? ⟨w.heap.size, 1, none⟩ = some (.slice (some ⟨GN, 0, none⟩) fi.length fi.length) := by rw [cell_of_row _ _ _ _ _ _ r3]; rfl
            have b2 : v3.cell? ⟨w.heap.size, 2, none⟩ = some (.slice (some ⟨GO, 0, none⟩) fi.length fi.length) := by rw [cell_of_row _ _ _ _ _ _ r3]; rfl
            have hO3 : Only wr v3 (fun b => b = w.heap.size) := by
              rw [hv3, hv2, hv1]
              exact ((Only.setCell _ _ _ _).trans (Only.setCell _ _ _ _) (fun _ h => .inl h)).trans (Only.setCell _ _ _ _) (fun _ h => .inl h)
            have HFin : Hid (JnR w v3 t m F cl OL (.slice (some ⟨GN, 0, none⟩) fi.length fi.length) (.slice (some ⟨GO, 0, none⟩) fi.length fi.length) ∧ Below w.heap.size w v3) := hid0 (by
              have hq' : q = fi.length := by omega
              subst hq'
              have hdis : ∀ k, (Value.slice (some ⟨GN, 0, none⟩) fi.length fi.length).ownBlock = some k → (Value.slice (some ⟨GO, 0, none⟩) fi.length fi.length).ownBlock ≠ some k := fun k hk e => by
                have e1 : GN = k := by simpa [Value.ownBlock] using hk
                have e2 : GO = k := by simpa [Value.ownBlock] using e
                exact hB.ne.1 (by omega)
              refine ⟨⟨fi, _, pN, pO, HNu.out, hB.bn.only hO3 hrb, hB.bo.only hO3 hrb, hB.x, hdis, ?_, ?_⟩, hB.j.bel.trans (hO3.below hB.j.bel.size (fun k hk => by rw [hk]; exact Nat.le_refl _))⟩
              · rw [hpN]
                exact rows_done _ _ (fun i hi => rfl)
              · rw [hpO]
                exact rows_done _ _ (fun i hi => rfl))
            have g1 := hv1.symm
            have g2 := hv2.symm
            have g3 := hv3.symm
            clear hv1 hv2 hv3 r1 r2 r3 hrb hB hpN hpO hO3 HI
            go_wp2
            (try simp only [Exit.inBlock, Exit.then])
            refine bodyPost_ret (by simp [results, Tryd.results19, go_sem, b0, b1, b2]; try rfl) rfl ?_
            exact ⟨_, _, rfl, HFin.out⟩
end Go.Proofs.YtjmmckkiicefhaaDoor
namespace Go.Proofs.YtjmmckkiicefhaaDoor
open Go.RowKit Go.Shelf
theorem Bag.low {W : World} {lo lo' : Nat} {v : Value} {ps : Lot} (h : Bag W lo v ps) (hl : lo' ≤ lo) : Bag W lo' v ps := ⟨⟨h.outer.1, by
  rcases h.outer.2 with h2 | ⟨g, cap, cur, e, hg, r⟩
  · exact .inl h2
  · exact .inr ⟨g, cap, cur, e, Nat.le_trans hl hg, r⟩⟩, fun x hx => own_mono (h.row x hx) hl, h.apart, h.away⟩
/-- What Of answers: the least machine, in lists of its own. -/
def OfR (w w' : World) (m : Nat) (st : Int) (N O : List (List Int)) (vN vO : Value) : Prop := ∃ pN pO : Lot, Bag w' w.heap.size vN pN ∧ Bag w' w.heap.size vO pO ∧ (∀ x ∈ pN, ∀ y ∈ pO, ∀ k, x.1.ownBlock = some k → y.1.ownBlock ≠ some k) ∧ (∀ k, vN.ownBlock = some k → vO.ownBlock ≠ some k) ∧ Lst m st N O (pN.map (·.2)) (pO.map (·.2))
/-- The three calls of Of, one behind the other. -/
theorem jn_lst {w V w' : World} {m st _X : Nat} {N O : List (List Int)} {L FN : List Nat} {cl : Nat → Nat} {vN vO : Value} (hmay : mayF (st : Int) N O (m : Int) = true) (hw : Whl m st N L.length (Lg1 L) (Fl FN)) (hc : Cls m L.length (Fl FN) (fun s => (L.map (outF O)).getD s []) cl) (hb : w.heap.size ≤ V.heap.size) (h : JnR V w' L.length m (Fl FN) cl (L.map (outF O)) vN vO) : OfR w w' m (st : Int) N O vN vO := by
  obtain ⟨fi, nu, pN, pO, h1, h2, h3, h4, h5, h6, h7⟩ := h
  have hg : ∀ s, s < L.length → (L.map (outF O)).getD s [] = outF O (Lg1 L s) := fun s hs => by
    unfold Lg1
    rw [List.getD_eq_getElem?_getD, List.getElem?_map, List.getElem?_eq_getElem hs, List.getD_eq_getElem?_getD, List.getElem?_eq_getElem hs]
    rfl
  have hc2 : Cls m L.length (Fl FN) (fun i => outF O (Lg1 L i)) cl := by
    refine ⟨fun s t hs ht e => ?_, hc.next, fun s t hs ht hs2 => hc.wide s t hs ht (fun u hu => ?_)⟩
    · have := hc.told s t hs ht e
      simp only [hg s hs, hg t ht] at this
      exact this
    · have := hs2 u hu
      simp only at this ⊢
      have r : ∀ s, s < L.length → runW (fun x c => Fl FN (x * m + c)) s u < L.length := fun s hs => runW_in (fun x c hx hcm => hw.fl x c hx hcm) u s hs hu
      rw [hg _ (r s hs), hg _ (r t ht)]
      exact this
  have hl := joined_lst (st := (st : Int)) hmay (by simpa using hw) hc2 h1
  refine ⟨pN, pO, h2.low hb, h3.low hb, h4, h5, ?_⟩
  rw [h6, h7]
  have e : fi.map (fun s => (L.map (outF O)).getD s []) = joinO O (Lg1 L) fi := by
    unfold joinO
    refine List.map_congr_left (fun s hs => ?_)
    obtain ⟨q, hq, rfl⟩ := List.getElem_of_mem hs
    have h9 := h1.lt q hq
    rw [List.getD_eq_getElem?_getD, List.getElem?_eq_getElem hq] at h9
    exact hg _ h9
  rw [e]
  exact hl
end Go.Proofs.YtjmmckkiicefhaaDoor
namespace Go.Proofs.YtjmmckkiicefhaaDoor
open Go.RowKit Go.Shelf
/-- What is asked of the rows from a place on. -/
def mayR (N O : List (List Int)) (m : Int) (k : Nat) : Bool := (N.drop k).all (fun r => decide ((r.length : Int) = m) && r.all (oneOf N.length)) && (O.drop k).all (upF 0)
theorem mayF_R {st m : Int} {N O : List (List Int)} (h0 : 0 ≤ m) (h1 : O.length = N.length) (h2 : oneOf N.length st = true) : mayF st N O m = mayR N O m 0 := by
  unfold mayF mayR
  rw [decide_eq_true h0, decide_eq_true h1, h2]
  simp
theorem mayR_step {N O : List (List Int)} {m : Int} {k : Nat} (hN : k < N.length) (hO : k < O.length) : mayR N O m k = ((decide ((N[k].length : Int) = m) && N[k].all (oneOf N.length) && upF 0 O[k]) && mayR N O m (k + 1)) := by
  unfold mayR
  rw [List.drop_eq_getElem_cons hN, List.drop_eq_getElem_cons hO, List.all_cons, List.all_cons]
  cases decide ((N[k].length : Int) = m) <;> cases N[k].all (oneOf N.length) <;> cases upF 0 O[k] <;> simp
theorem mayR_end {N O : List (List Int)} {m : Int} {k : Nat} (hN : N.length ≤ k) (hO : O.length ≤ k) : mayR N O m k = true := by
  unfold mayR
  rw [List.drop_eq_nil_of_le hN, List.drop_eq_nil_of_le hO]
  rfl
set_option maxRecDepth 10000 in
set_option maxHeartbeats 1600000 in
theorem mayBe_any (st sy : Int) (N O : List (List Int)) (aN aO : Option Addr) (cN cO : Nat) (w : World) (hN : N.length ≤ 17592186043904) (hNr : ∀ r ∈ N, r.length ≤ 17592186043904) (hOr : ∀ r ∈ O, r.length ≤ 17592186043904) (ha : RwA w aN N) (hb : RwA w aO O) :
    Calls Tryd.prog 17 #[.agg #[.int .i64 st, .slice aN N.length cN, .slice aO O.length cO], .int .i64 sy] w fun e w' => e = .returned (.bool (mayF st N O sy)) ∧ Below w.heap.size w w' := by
  obtain ⟨w0, hw0⟩ : ∃ w0, w0 = w.alloc (.cells #[.int .i64 st, .slice aN N.length cN, .slice aO O.length cO] 24) := ⟨_, rfl⟩
  have hB0 : Below w.heap.size w w0 := by rw [hw0]; exact (Below.refl _ _).alloc (Nat.le_refl _) _
  have hX0 : w0.heap[w.heap.size]? = some (.cells #[.int .i64 st, .slice aN N.length cN, .slice aO O.length cO] 24 (0, 0)) := by rw [hw0]; exact heap_alloc_new w _
  have HB0 := hid0 hB0
  have HA := hid0 (ha.past hB0)
  have HB := hid0 (hb.past hB0)
  have x0 : w0.cell? ⟨w.heap.size, 0, none⟩ = some (.int .i64 st) := by rw [cell_of_row _ _ _ _ _ _ hX0]; rfl
  have x1 : w0.cell? ⟨w.heap.size, 1, none⟩ = some (.slice aN N.length cN) := by rw [cell_of_row _ _ _ _ _ _ hX0]; rfl
  have x2 : w0.cell? ⟨w.heap.size, 2, none⟩ = some (.slice aO O.length cO) := by rw [cell_of_row _ _ _ _ _ _ hX0]; rfl
  have HNr := hid0 hNr
  have HOr := hid0 hOr
  have HOn := hid0 (isOneOf_any N.length st w0)
  clear ha hb hB0 hX0 hNr hOr
  have hfold := hw0.symm
  clear hw0
  by_cases h1 : sy < 0
  case pos =>
    have HV : Hid (mayF st N O sy = false) := hid0 (by unfold mayF; rw [decide_eq_false (by omega)]; rfl)
    go_enter Tryd.func17, Tryd.ntmps17
    go_wp2
    go_ret
    exact ⟨by rw [HV.out]; rfl, HB0.out⟩
  by_cases h2 : (O.length : Int) = (N.length : Int)
  case neg =>
    have HV : Hid (mayF st N O sy = false) := hid0 (by unfold mayF; rw [decide_eq_false (p := O.length = N.length) (by omega), Bool.and_false]; rfl)
    go_enter Tryd.func17, Tryd.ntmps17
    go_wp2
    go_ret
    exact ⟨by rw [HV.out]; rfl, HB0.out⟩
  have HL : Hid (O.length = N.length) := hid0 (by omega)
  cases h3 : oneOf N.length st with
  | false =>
    have HV : Hid (mayF st N O sy = false) := hid0 (by unfold mayF; rw [h3, Bool.and_false]; rfl)
    rw [h3] at HOn
    clear h3
    go_enter Tryd.func17, Tryd.ntmps17
    go_wp2_with (go_at_call 27; refine HOn.out.mono ?_; rintro e w1 ⟨rfl, hw⟩; have hw' := hw.symm; subst hw'; clear hw)
    go_ret
    exact ⟨by rw [HV.out]; rfl, HB0.out⟩
  | true =>
    have HV0 : Hid (mayF st N O sy = mayR N O sy 0) := hid0 (mayF_R (by omega) HL.out h3)
    rw [h3] at HOn
    clear h3
    go_enter Tryd.func17, Tryd.ntmps17
    go_wp2_with (go_at_call 27; refine HOn.out.mono ?_; rintro e w1 ⟨rfl, hw⟩; have hw' := hw.symm; subst hw'; clear hw)
    go_loopw [27] (fun i wr => ∃ k : Nat, k ≤ N.length ∧ i = .int .i64 (k : Int) ∧ wr = w0 ∧ Hid (mayR N O sy k = mayF st N O sy)) (fun i _ => N.length - (intOf i).toNat)
    case atStart => exact ⟨0, Nat.zero_le _, rfl, rfl, hid0 HV0.out.symm⟩
    case round =>
      obtain ⟨k, hk, rfl, rfl, HD⟩ := hrel
      by_cases hlt : k < N.length
      · obtain ⟨b, off, rfl, _, a1, c1, d1, i1⟩ := HA.out.at' k hlt
        have hlO : k < O.length := by have := HL.out; omega
        obtain ⟨b2, off2, rfl, _, a2, c2, d2, i2⟩ := HB.out.at' k hlO
        have hkI : (k : Int) < (N.length : Int) := by omega
        have hkO : (k : Int) < (O.length : Int) := by omega
        have hkI0 : (0 : Int) ≤ (k : Int) := by omega
        have HS := hid0 (mayR_step (m := sy) hlt hlO)
        have HC1 := hid0 (allOf_any N.length N[k] a1 c1 wr (HNr.out _ (List.getElem_mem hlt)) i1)
        have HC2 := hid0 (rises_any O[k] a2 c2 wr (HOr.out _ (List.getElem_mem hlO)) i2)
        clear i1 i2
        generalize N[k] = r at *
        generalize O[k] = o at *
        by_cases g1 : (r.length : Int) = sy
        · cases g2 : r.all (oneOf N.length) with
          | false =>
            have HV : Hid (mayF st N O sy = false) := hid0 (by rw [← HD.out, HS.out, g2, Bool.and_false]; rfl)
            rw [g2] at HC1
            clear g2 HS HD
            go_wp2_with (go_at_call 28; refine HC1.out.mono ?_; rintro e w1 ⟨rfl, hw⟩; have hw' := hw.symm; subst hw'; clear hw)
            go_ret
            exact ⟨by rw [HV.out]; rfl, HB0.out⟩
          | true =>
            rw [g2] at HC1
            cases g3 : upF 0 o with
            | false =>
              have HV : Hid (mayF st N O sy = false) := hid0 (by rw [← HD.out, HS.out, g3, Bool.and_false]; rfl)
              rw [g3] at HC2
              clear g2 g3 HS HD
              go_wp2_with (first | (go_at_call 28; refine HC1.out.mono ?_; rintro e w1 ⟨rfl, hw⟩; have hw' := hw.symm; subst hw'; clear hw) | (go_at_call 29; refine HC2.out.mono ?_; rintro e w1 ⟨rfl, hw⟩; have hw' := hw.symm; subst hw'; clear hw))
              go_ret
              exact ⟨by rw [HV.out]; rfl, HB0.out⟩
            | true =>
              have HV : Hid (mayR N O sy (k + 1) = mayF st N O sy) := hid0 (by rw [← HD.out, HS.out, g2, g3, decide_eq_true g1]; rfl)
              rw [g3] at HC2
              clear g2 g3 HS HD
              go_wp2_with (first | (go_at_call 28; refine HC1.out.mono ?_; rintro e w1 ⟨rfl, hw⟩; have hw' := hw.symm; subst hw'; clear hw) | (go_at_call 29; refine HC2.out.mono ?_; rintro e w1 ⟨rfl, hw⟩; have hw' := hw.symm; subst hw'; clear hw))
              go_roundw
              case rel => exact ⟨k + 1, by omega, by go_num, trivial, HV⟩
              case measure => simp [intOf]; omega
        · have HV : Hid (mayF st N O sy = false) := hid0 (by rw [← HD.out, HS.out, decide_eq_false g1]; rfl)
          clear HS HD
          go_wp2
          go_ret
          exact ⟨by rw [HV.out]; rfl, HB0.out⟩
      · have hkI : ¬ (k : Int) < (N.length : Int) := by omega
        have HV : Hid (mayF st N O sy = true) := hid0 (by rw [← HD.out]; exact mayR_end (by omega) (by have := HL.out; omega))
        clear HD
        go_wp2
        go_ret
        exact ⟨by rw [HV.out]; rfl, HB0.out⟩
/-- The refusal ErrArg in memory. -/
structure E1 (w : World) (x : Addr) : Prop where
  c : w.cell? ⟨0, 0, none⟩ = some (.iface 112 (.pointer (some x)))
theorem E1.below {w w' : World} {x : Addr} (h : E1 w x) (hb : Below w.heap.size w w') : E1 w' x := ⟨(hb.cell (p := ⟨0, 0, none⟩) (World.block_lt_of_cell? w _ h.c)).trans h.c⟩
end Go.Proofs.YtjmmckkiicefhaaDoor
