/-
  McGM, McHM.
-/
import Derived.Test.YtbbejfkgopcjoaaDoorNeas
namespace Go.Proofs.YtbbejfkgopcjoaaDoor
open Go.RowKit Go.Shelf
/-- Openings and numbers that lay there stay. -/
structure KeS (W W' : World) : Prop where
  size : W.heap.size ≤ W'.heap.size
  kp : ∀ (k : Nat) (cs : Array Value) (t : TypeId) (f : Nat × Nat), W.heap[k]? = some (.cells cs t f) → t = 103 ∨ t = 3 ∨ t = 28 → W'.heap[k]? = W.heap[k]?
theorem KeS.refl (W : World) : KeS W W := ⟨Nat.le_refl _, fun _ _ _ _ _ _ => rfl⟩
theorem KeS.keB {T : List TypeId} {A W W' : World} (h : KeS A W) (hk : KeB T W W') (h1 : 103 ∉ T ∧ 28 ∉ T) (h2 : 3 ∉ T) : KeS A W' := ⟨Nat.le_trans h.size hk.size, fun k cs t f e ht => by
  have e1 := (h.kp k cs t f e ht).trans e
  rw [hk.kp k _ e1 (fun cs' t' f' q => by injection q with _ q2; rw [← q2]; rcases ht with rfl | rfl | rfl; exact h1.1; exact h2; exact h1.2), e]⟩
theorem KeS.only {A W W' : World} {S : Nat → Prop} (h : KeS A W) (hO : Only W W' S) (hS : ∀ k, S k → A.heap.size ≤ k) : KeS A W' := ⟨Nat.le_trans h.size hO.size, fun k cs t f e ht => by
  have hl := (Array.getElem?_eq_some_iff.1 e).1
  refine (hO.block k (Nat.lt_of_lt_of_le hl h.size) (fun q => ?_)).trans (h.kp k cs t f e ht)
  have := hS k q
  omega⟩
theorem KeS.op {A W : World} {lo : Nat} {v : Value} {os : List (List UInt8 × List Nat)} (h : KeS A W) (ho : OpI A lo v os) : OpI W lo v os := by
  obtain ⟨VS, h3, h4⟩ := ho.own
  have k : ∀ {t : TypeId} {s n : Nat} {u : Value} {xs : List Value}, A.ownsRow lo t s u n xs → t = 103 ∨ t = 3 ∨ t = 28 → W.ownsRow lo t s u n xs := fun hr ht => own_blk hr (fun k hk => by
    obtain ⟨cs, hcs⟩ := own_typ hr hk
    exact h.kp k cs _ _ hcs ht)
  refine ⟨VS, k h3 (.inl rfl), fun o hoo => ?_⟩
  obtain ⟨q1, a, c, q2, q3⟩ := h4 o hoo
  exact ⟨q1, a, c, q2, k q3 (.inr (.inl rfl))⟩
/-- Lists in memory, each in a row of its own. -/
structure RwsM (W : World) (lo : Nat) (v : Value) (VS : List Value) (L : List (List Nat)) : Prop where
  outer : W.ownsRow lo 34 1 v VS.length VS
  len : VS.length = L.length
  row : ∀ i (h : i < L.length), ∃ x, VS[i]? = some x ∧ OwnI W lo x (nI L[i])
theorem RwsM.nil (W : World) (lo : Nat) : RwsM W lo (.slice none 0 0) [] [] := ⟨World.ownsRow_nil _ _ _ _, rfl, fun _i h => absurd h (Nat.not_lt_zero _)⟩
theorem RwsM.mem {W : World} {lo : Nat} {v : Value} {VS : List Value} {L : List (List Nat)} (h : RwsM W lo v VS L) {x : Value} (hx : x ∈ VS) : ∃ l, OwnI W lo x (nI l) := by
  obtain ⟨i, hi, e⟩ := List.getElem_of_mem hx
  obtain ⟨y, e1, e2⟩ := h.row i (by rw [← h.len]; exact hi)
  rw [List.getElem?_eq_getElem hi, e] at e1
  injection e1 with e1
  subst e1
  exact ⟨_, e2⟩
/-- They stay where neither they nor their list is written. -/
theorem RwsM.keep {W W' : World} {lo : Nat} {v : Value} {VS : List Value} {L : List (List Nat)} (h : RwsM W lo v VS L) (ho : ∀ k, v.ownBlock = some k → W'.heap[k]? = W.heap[k]?) (hr : ∀ x ∈ VS, ∀ k, x.ownBlock = some k → W'.heap[k]? = W.heap[k]?) : RwsM W' lo v VS L := ⟨own_blk h.outer ho, h.len, fun i hi => by
  obtain ⟨x, e1, e2⟩ := h.row i hi
  exact ⟨x, e1, own_blk e2 (hr x (List.mem_of_getElem? e1))⟩⟩
theorem RwsM.keB {T : List TypeId} {W W' : World} {lo : Nat} {v : Value} {VS : List Value} {L : List (List Nat)} (h : RwsM W lo v VS L) (hk : KeB T W W') (h1 : 34 ∉ T) (h2 : 3 ∉ T) : RwsM W' lo v VS L := ⟨hk.own h.outer h1, h.len, fun i hi => by
  obtain ⟨x, e1, e2⟩ := h.row i hi
  exact ⟨x, e1, hk.own e2 h2⟩⟩
theorem RwsM.inner {T : List TypeId} {W W' : World} {lo : Nat} {v v' : Value} {VS : List Value} {L : List (List Nat)} {x : Value} {l : List Nat} (h : RwsM W lo v VS L) (hk : KeB T W W') (h2 : 3 ∉ T) (ho : W'.ownsRow lo 34 1 v' (VS ++ [x]).length (VS ++ [x])) (hx : OwnI W lo x (nI l)) : RwsM W' lo v' (VS ++ [x]) (L ++ [l]) := ⟨ho, by rw [List.length_append, List.length_append, h.len]; rfl, fun i hi => by
  rw [List.length_append, List.length_singleton] at hi
  by_cases hlt : i < L.length
  · obtain ⟨y, e1, e2⟩ := h.row i hlt
    refine ⟨y, by rw [List.getElem?_append_left (by rw [h.len]; exact hlt)]; exact e1, ?_⟩
    rw [List.getElem_append_left hlt]
    exact hk.own e2 h2
  · obtain rfl : i = L.length := by omega
    refine ⟨x, by rw [← h.len]; simp, ?_⟩
    rw [List.getElem_append_right (Nat.le_refl _)]
    simp only [Nat.sub_self, List.getElem_cons_zero]
    exact hk.own hx h2⟩
def stV (t : List UInt8) : ByteArray := ⟨t.toArray⟩
/-- The builder at work. -/
structure BuI (wB wJ : World) (B J sy N most outs GT cT NB : Nat) (vOp vRe : Value) (tf : Nat → List UInt8) (ps : Lob) (R : Nat → Bool) (sts ks : List (List UInt8)) (NX OU : List Value) (nx ou : List (List Nat)) (W : World) : Prop where
  bel : Below wJ.heap.size wJ W
  kes : KeS wB W
  bb : ∃ vSt vNx vOu, Bb W B J vOp vRe (.slice (some ⟨GT, 0, none⟩) sy cT) (.map (some NB)) vSt most outs vNx vOu ∧ W.ownsRow wJ.heap.size 9 1 vSt (sts.map stV).length ((sts.map stV).map Value.string) ∧ RwsM W wJ.heap.size vNx NX nx ∧ RwsM W wJ.heap.size vOu OU ou ∧ Apt vNx vOu
  re : OwnU W wJ.heap.size vRe N R
  nb : MapS W NB 1 ks
  lo' : wJ.heap.size ≤ B ∧ wJ.heap.size ≤ NB
  cr : (NX ++ OU).Pairwise Apt
  sl : ou.length = sts.length
  tx : ps.length = sy ∧ BagT W wJ.heap.size (.slice (some ⟨GT, 0, none⟩) sy cT) ps ∧ ∀ c (h : c < ps.length), (ps[c]).2 = tf c
section
variable {wB wJ W : World} {B J sy N most outs GT cT NB : Nat} {vOp vRe : Value} {tf : Nat → List UInt8} {ps : Lob} {R : Nat → Bool} {sts ks : List (List UInt8)} {NX OU : List Value} {nx ou : List (List Nat)}
theorem BuI.keB (h : BuI wB wJ B J sy N most outs GT cT NB vOp vRe tf ps R sts ks NX OU nx ou W) {W' : World} (hb : Below W.heap.size W W') : BuI wB wJ B J sy N most outs GT cT NB vOp vRe tf ps R sts ks NX OU nx ou W' := by
  obtain ⟨vSt, vNx, vOu, h1, h2, h3, h4, h5⟩ := h.bb
  obtain ⟨p1, p2, p3⟩ := h.tx
  have hk : KeB [] W W' := KeB.below _ hb
  exact ⟨Below.later h.bel hb, h.kes.keB hk (by simp) (by simp), ⟨vSt, vNx, vOu, h1.past hb, hk.own h2 (by simp), h3.keB hk (by simp) (by simp), h4.keB hk (by simp) (by simp), h5⟩, hk.own h.re (by simp), hk.map h.nb, h.lo', h.cr, h.sl, ⟨p1, p2.keep hk (by simp) (by simp), p3⟩⟩
theorem BuI.drew (h : BuI wB wJ B J sy N most outs GT cT NB vOp vRe tf ps R sts ks NX OU nx ou W) : BuI wB wJ B J sy N most outs GT cT NB vOp vRe tf ps R sts ks NX OU nx ou W.drew := h.keB (Below.refl _ _).drew
/-- A text is known now. -/
theorem BuI.know (h : BuI wB wJ B J sy N most outs GT cT NB vOp vRe tf ps R sts ks NX OU nx ou W) {W' : World} {t : List UInt8} (hm : MapS W' NB 1 (ks ++ [t])) (hg : W.grownBy W' (some NB)) : BuI wB wJ B J sy N most outs GT cT NB vOp vRe tf ps R sts (ks ++ [t]) NX OU nx ou W' := by
  obtain ⟨vSt, vNx, vOu, h1, h2, h3, h4, h5⟩ := h.bb
  obtain ⟨p1, p2, p3⟩ := h.tx
  obtain ⟨es, cl, e⟩ := h.nb.isMap
  have hcell : ∀ (k : Nat) (cs : Array Value) (t : TypeId) (f' : Nat × Nat), W.heap[k]? = some (.cells cs t f') → W'.heap[k]? = W.heap[k]? := fun k cs t f' q => by
    refine hg.block k (Array.getElem?_eq_some_iff.1 q).1 (fun e2 => ?_)
    injection e2 with e2
    rw [e2, e] at q
    cases q
  have hb : ∀ {t : TypeId} {s n : Nat} {v : Value} {xs : List Value}, W.ownsRow wJ.heap.size t s v n xs → ∀ k, v.ownBlock = some k → W'.heap[k]? = W.heap[k]? := fun q k hk => by
    obtain ⟨cs, hcs⟩ := own_typ q hk
    exact hcell k cs _ _ hcs
  have ho : ∀ {t : TypeId} {s n : Nat} {v : Value} {xs : List Value}, W.ownsRow wJ.heap.size t s v n xs → W'.ownsRow wJ.heap.size t s v n xs := fun q => own_blk q (hb q)
  exact ⟨h.bel.grown hg h.bel.size (fun q hq => by injection hq with hq; rw [← hq]; exact h.lo'.2), ⟨Nat.le_trans h.kes.size hg.size, fun k cs t f q ht => (hcell k cs t f ((h.kes.kp k cs t f q ht).trans q)).trans (h.kes.kp k cs t f q ht)⟩, ⟨vSt, vNx, vOu, h1.kept (hcell B _ _ _ h1.r), ho h2, h3.keep (hb h3.outer) (fun x hx => by obtain ⟨l, hl⟩ := h3.mem hx; exact hb hl), h4.keep (hb h4.outer) (fun x hx => by obtain ⟨l, hl⟩ := h4.mem hx; exact hb hl), h5⟩, ho h.re, hm, h.lo', h.cr, h.sl, ⟨p1, ⟨ho p2.outer, fun x hx => ho (p2.row x hx), p2.apart, p2.away⟩, p3⟩⟩
/-- A state more: what addState asks, and what it leaves. -/
theorem BuI.add (h : BuI wB wJ B J sy N most outs GT cT NB vOp vRe tf ps R sts ks NX OU nx ou W) : ∃ vSt vNx vOu, Bb W B J vOp vRe (.slice (some ⟨GT, 0, none⟩) sy cT) (.map (some NB)) vSt most outs vNx vOu ∧ W.ownsRow wJ.heap.size 9 1 vSt (sts.map stV).length ((sts.map stV).map Value.string) ∧ W.ownsRow wJ.heap.size 34 1 vOu OU.length OU ∧
    ∀ (w' : World) (t : List UInt8) (x : Value) (o : List Nat) (n : Nat) (vSt' vOu' : Value), OwnI W wJ.heap.size x (nI o) → (∀ y ∈ NX ++ OU, Apt y x) → Bb w' B J vOp vRe (.slice (some ⟨GT, 0, none⟩) sy cT) (.map (some NB)) vSt' most n vNx vOu' → w'.ownsRow wJ.heap.size 9 1 vSt' (sts.map stV ++ [stV t]).length ((sts.map stV ++ [stV t]).map Value.string) → w'.ownsRow wJ.heap.size 34 1 vOu' (OU ++ [x]).length (OU ++ [x]) → Only W w' (fun k => k = B ∨ vSt.ownBlock = some k ∨ vOu.ownBlock = some k) → (∀ k, vOu'.ownBlock = some k → vOu.ownBlock = some k ∨ W.heap.size ≤ k) →
      BuI wB wJ B J sy N most n GT cT NB vOp vRe tf ps R (sts ++ [t]) ks NX (OU ++ [x]) nx (ou ++ [o]) w' := by
  obtain ⟨vSt, vNx, vOu, h1, h2, h3, h4, h5⟩ := h.bb
  obtain ⟨p1, p2, p3⟩ := h.tx
  refine ⟨vSt, vNx, vOu, h1, h2, h4.outer, fun w' t x o n vSt' vOu' hx hap hb hs hou hO hn => ?_⟩
  have hk : KeB [97, 9, 34] W w' := KeB.only hO (fun k hk _ => by
    rcases hk with rfl | hk | hk
    · exact ⟨_, _, _, h1.r, by simp⟩
    · obtain ⟨cs, hcs⟩ := own_typ h2 hk; exact ⟨cs, _, _, hcs, by simp⟩
    · obtain ⟨cs, hcs⟩ := own_typ h4.outer hk; exact ⟨cs, _, _, hcs, by simp⟩)
  refine ⟨hO.afterBelow h.bel h.bel.size (fun i hi => ?_), h.kes.keB hk (by decide) (by decide), ⟨vSt', vNx, vOu', hb, by rw [List.map_append]; exact hs, ?_, h4.inner hk (by decide) hou hx, ?_⟩, hk.own h.re (by decide), hk.map h.nb, h.lo', ?_, by rw [List.length_append, List.length_append, h.sl]; rfl, ⟨p1, p2.keep hk (by decide) (by decide), p3⟩⟩
  · rcases hi with rfl | hi | hi
    · exact h.lo'.1
    · exact (World.ownsRow.lt h2 i hi).1
    · exact (World.ownsRow.lt h4.outer i hi).1
  · refine h3.keep (fun k hk2 => hO.block k (World.ownsRow.lt h3.outer k hk2).2 (fun e => ?_)) (fun y hy k hk2 => ?_)
    · rcases e with rfl | e | e
      · exact own_ne_blk h3.outer h1.r (by decide) hk2
      · exact Apt.ofTyp h3.outer h2 (by decide) k hk2 e
      · exact h5 k hk2 e
    · obtain ⟨l, hl⟩ := h3.mem hy
      obtain ⟨cs, hcs⟩ := own_typ hl hk2
      rw [hk.kp k _ hcs (fun cs' t' f' q => by injection q with _ q2; rw [← q2]; decide), hcs]
  · exact (h5.symm.new h3.outer hn).symm
  · rw [← List.append_assoc, List.pairwise_append]
    exact ⟨h.cr, List.pairwise_singleton _ _, fun y hy z hz => by rw [List.mem_singleton.1 hz]; exact hap y hy⟩
/-- A number is put into a list of its own. -/
theorem BuI.fill (h : BuI wB wJ B J sy N most outs GT cT NB vOp vRe tf ps R sts ks NX OU nx ou W) {g i : Nat} {u : Value} {cs : Array Value} (hg : W.heap[g]? = some (.cells cs 3 (0, 0))) (hgB : wB.heap.size ≤ g) (hgJ : wJ.heap.size ≤ g) (hap : ∀ y ∈ NX ++ OU, y.ownBlock ≠ some g) : BuI wB wJ B J sy N most outs GT cT NB vOp vRe tf ps R sts ks NX OU nx ou (W.setCell ⟨g, i, none⟩ u) := by
  obtain ⟨vSt, vNx, vOu, h1, h2, h3, h4, h5⟩ := h.bb
  obtain ⟨p1, p2, p3⟩ := h.tx
  have hO := Only.setCell W g i u
  have hk : KeB [3] W (W.setCell ⟨g, i, none⟩ u) := KeB.cell hg (by simp) u
  have hrow : ∀ {v : Value} {VS : List Value} {L : List (List Nat)}, RwsM W wJ.heap.size v VS L → (∀ y ∈ VS, y.ownBlock ≠ some g) → RwsM (W.setCell ⟨g, i, none⟩ u) wJ.heap.size v VS L := fun q hq => q.keep (fun k hk2 => by
      obtain ⟨cs', hcs⟩ := own_typ q.outer hk2
      rw [hk.kp k _ hcs (fun cs' t' f' e => by injection e with _ e2; rw [← e2]; decide), hcs]) (fun y hy k hk2 => by
      obtain ⟨l, hl⟩ := q.mem hy
      exact hO.block k (World.ownsRow.lt hl k hk2).2 (fun e => hq y hy (by rw [← e]; exact hk2)))
  have hbB : (W.setCell ⟨g, i, none⟩ u).heap[B]? = W.heap[B]? := by rw [hk.kp B _ h1.r (fun cs' t' f' e => by injection e with _ e2; rw [← e2]; decide), h1.r]
  exact ⟨hO.afterBelow h.bel h.bel.size (fun j hj => by rw [hj]; exact hgJ), h.kes.only hO (fun j hj => by rw [hj]; exact hgB), ⟨vSt, vNx, vOu, h1.kept hbB, hk.own h2 (by decide), hrow h3 (fun y hy => hap y (List.mem_append_left _ hy)), hrow h4 (fun y hy => hap y (List.mem_append_right _ hy)), h5⟩, hk.own h.re (by decide), hk.map h.nb, h.lo', h.cr, h.sl, ⟨p1, p2.keep hk (by decide) (by decide), p3⟩⟩
/-- One text: where it lies, and what is left when it is cut. -/
theorem BuI.text (h : BuI wB wJ B J sy N most outs GT cT NB vOp vRe tf ps R sts ks NX OU nx ou W) {y : Nat} (hy : y < sy) : ∃ a c, (ps.map (·.1))[y]? = some (.slice a (tf y).length c) ∧ W.cell? ⟨GT, y, none⟩ = some (.slice a (tf y).length c) ∧ W.frozen? ⟨GT, y, none⟩ = false ∧ OwnB W wJ.heap.size (.slice a (tf y).length c) (tf y) ∧ (tf y).length ≤ c ∧ (a = none → c = 0) ∧ W.cell? ⟨B, 3, none⟩ = some (.slice (some ⟨GT, 0, none⟩) sy cT) ∧ ∀ m, m ≤ (tf y).length → ∃ ps', (∀ z, z ≠ y → (ps'.map (·.1))[z]? = (ps.map (·.1))[z]?) ∧ BuI wB wJ B J sy N most outs GT cT NB vOp vRe (fun c => if c = y then (tf y).take m else tf c) ps' R sts ks NX OU nx ou (W.setCell ⟨GT, y, none⟩ (.slice a m c)) := by
  obtain ⟨vSt, vNx, vOu, h1, h2, h3, h4, h5⟩ := h.bb
  obtain ⟨p1, p2, p3⟩ := h.tx
  have hy2 : y < ps.length := by omega
  have hmem : ps[y] ∈ ps := List.getElem_mem hy2
  obtain ⟨k0, k1⟩ := p2.cells p1.symm y hy2
  have hr := p2.row _ hmem
  have e2 := p3 y hy2
  obtain ⟨a, c, ev, hac, hcc⟩ : ∃ a c, (ps[y]).1 = .slice a (tf y).length c ∧ (a = none → c = 0) ∧ (tf y).length ≤ c := by
    rcases hr.2 with ⟨e, hn⟩ | ⟨g, cap, cur, e, _, _, hc, _⟩
    · exact ⟨none, 0, by rw [e, ← e2, hn], fun _ => rfl, by rw [← e2, hn]; exact Nat.le_refl _⟩
    · exact ⟨_, cap, by rw [e, ← e2], (fun q => by cases q), by rw [← e2]; exact hc⟩
  rw [ev] at k0
  rw [ev, e2] at hr
  refine ⟨a, c, by rw [List.getElem?_map, List.getElem?_eq_getElem hy2, Option.map_some, ev], k0, k1, hr, hcc, hac, h1.c.2.2.2.1, fun m hm => ?_⟩
  have hf : OwnB W wJ.heap.size (.slice a m c) ((tf y).take m) := by
    have q := own_front hr hm
    unfold OwnB
    rw [List.length_take, Nat.min_eq_left hm]
    have e : cellsOf ((tf y).take m) = (cellsOf (tf y)).take (m * 1) := by unfold cellsOf; rw [Nat.mul_one, List.map_take]
    rw [e]
    exact q
  have hbk : (Value.slice a m c).ownBlock = (Value.slice a (tf y).length c).ownBlock := by cases a <;> rfl
  have hs := p2.set p1.symm y hy2 (w1 := W) (v' := .slice a m c) (l' := (tf y).take m) (fun _ _ _ => rfl) hf (fun q hq => .inl (by rw [ev, ← hbk]; exact hq))
  obtain ⟨cs, hcs⟩ := own_typ p2.outer (show Value.ownBlock _ = some GT from rfl)
  have hk : KeB [99] W (W.setCell ⟨GT, y, none⟩ (.slice a m c)) := KeB.cell hcs (by simp) _
  have hgl := (World.ownsRow.lt p2.outer GT rfl).1
  have hbB : (W.setCell ⟨GT, y, none⟩ (.slice a m c)).heap[B]? = W.heap[B]? := by rw [hk.kp B _ h1.r (fun cs' t' f' e => by injection e with _ e2; rw [← e2]; decide), h1.r]
  refine ⟨ps.set y (.slice a m c, (tf y).take m), fun z hz => ?_, (Only.setCell W GT y _).afterBelow h.bel h.bel.size (fun j hj => by rw [hj]; exact hgl), h.kes.keB hk (by decide) (by decide), ⟨vSt, vNx, vOu, h1.kept hbB, hk.own h2 (by decide), h3.keB hk (by decide) (by decide), h4.keB hk (by decide) (by decide), h5⟩, hk.own h.re (by decide), hk.map h.nb, h.lo', h.cr, h.sl, ⟨by rw [List.length_set]; exact p1, hs, fun j hj => ?_⟩⟩
  · rw [List.getElem?_map, List.getElem?_map, List.getElem?_set_ne (fun e => hz e.symm)]
  · rw [List.getElem_set]
    split
    · rename_i e; rw [if_pos e.symm]
    · rename_i e; rw [if_neg (fun q => e q.symm)]; exact p3 j (by simpa using hj)
end
end Go.Proofs.YtbbejfkgopcjoaaDoor
namespace Go.Proofs.YtbbejfkgopcjoaaDoor
open Go.RowKit Go.Shelf
/-- The states that symbols lead to, so many of them: the texts that are known, how many numbers are told, what is told, the states. -/
def nsF (T : Nat → List UInt8) (O : Nat → List Nat) (most : Nat) (ks : List (List UInt8)) (outs : Nat) (ou : List (List Nat)) : Nat → Option (List (List UInt8) × Nat × List (List Nat) × List Nat)
  | 0 => some (ks, outs, ou, [])
  | c + 1 => match nsF T O most ks outs ou c with
    | none => none
    | some (k, n, o, l) => if T c ∈ k then some (k, n, o, l ++ [k.idxOf (T c) + 1]) else if k.length + 1 = most ∨ 4194304 < n + (O c).length then none else some (k ++ [T c], n + (O c).length, o ++ [O c], l ++ [k.length + 1])
theorem nsF_none {T : Nat → List UInt8} {O : Nat → List Nat} {most : Nat} {ks : List (List UInt8)} {outs : Nat} {ou : List (List Nat)} {c : Nat} (h : nsF T O most ks outs ou c = none) : ∀ d, nsF T O most ks outs ou (c + d) = none
  | 0 => h
  | d + 1 => by rw [← Nat.add_assoc, nsF, nsF_none h d]
theorem nsF_old {T : Nat → List UInt8} {O : Nat → List Nat} {most : Nat} {ks : List (List UInt8)} {outs : Nat} {ou : List (List Nat)} {c : Nat} {k : List (List UInt8)} {n : Nat} {o : List (List Nat)} {l : List Nat} (h : nsF T O most ks outs ou c = some (k, n, o, l)) (hm : T c ∈ k) : nsF T O most ks outs ou (c + 1) = some (k, n, o, l ++ [k.idxOf (T c) + 1]) := by
  rw [nsF, h]; simp only; rw [if_pos hm]
theorem nsF_full {T : Nat → List UInt8} {O : Nat → List Nat} {most : Nat} {ks : List (List UInt8)} {outs : Nat} {ou : List (List Nat)} {c : Nat} {k : List (List UInt8)} {n : Nat} {o : List (List Nat)} {l : List Nat} (h : nsF T O most ks outs ou c = some (k, n, o, l)) (hm : T c ∉ k) (hf : k.length + 1 = most ∨ 4194304 < n + (O c).length) : nsF T O most ks outs ou (c + 1) = none := by
  rw [nsF, h]; simp only; rw [if_neg hm, if_pos hf]
theorem nsF_new {T : Nat → List UInt8} {O : Nat → List Nat} {most : Nat} {ks : List (List UInt8)} {outs : Nat} {ou : List (List Nat)} {c : Nat} {k : List (List UInt8)} {n : Nat} {o : List (List Nat)} {l : List Nat} (h : nsF T O most ks outs ou c = some (k, n, o, l)) (hm : T c ∉ k) (hf : ¬ (k.length + 1 = most ∨ 4194304 < n + (O c).length)) : nsF T O most ks outs ou (c + 1) = some (k ++ [T c], n + (O c).length, o ++ [O c], l ++ [k.length + 1]) := by
  rw [nsF, h]; simp only; rw [if_neg hm, if_neg hf]
/-- The texts, cut behind so many symbols. -/
def cutF (tf : Nat → List UInt8) (c : Nat) : Nat → List UInt8 := fun x => if x < c then (tf x).take 4 else tf x
theorem cutF_zero (tf : Nat → List UInt8) : cutF tf 0 = tf := by funext x; unfold cutF; rw [if_neg (by omega)]
theorem cutF_at (tf : Nat → List UInt8) (c : Nat) : cutF tf c c = tf c := by unfold cutF; rw [if_neg (by omega)]
theorem cutF_succ (tf : Nat → List UInt8) (c : Nat) : (fun x => if x = c then (cutF tf c c).take 4 else cutF tf c x) = cutF tf (c + 1) := by
  funext x
  rw [cutF_at]
  unfold cutF
  by_cases h : x = c
  · subst h; rw [if_pos rfl, if_pos (by omega)]
  · rw [if_neg h]
    by_cases h2 : x < c
    · rw [if_pos h2, if_pos (by omega)]
    · rw [if_neg h2, if_neg (by omega)]
/-- While states are looked for. -/
structure NsI (wB wJ : World) (B J sy N most GT cT NB GN : Nat) (vOp vRe : Value) (tf : Nat → List UInt8) (O : Nat → List Nat) (R : Nat → Bool) (s0 : List UInt8) (ks0 : List (List UInt8)) (outs0 : Nat) (ou0 : List (List Nat)) (NX : List Value) (nx : List (List Nat)) (c : Nat) (k : List (List UInt8)) (n : Nat) (o : List (List Nat)) (l : List Nat) (OU : List Value) (ps : Lob) (W : World) : Prop where
  ns : nsF tf O most ks0 outs0 ou0 c = some (k, n, o, l)
  bu : BuI wB wJ B J sy N most n GT cT NB vOp vRe (cutF tf c) ps R (s0 :: k) k NX OU nx o W
  nr : OwnI W wJ.heap.size (.slice (some ⟨GN, 0, none⟩) sy sy) (nI (l ++ List.replicate (sy - c) 0))
  aw : ∀ y ∈ NX ++ OU, y.ownBlock ≠ some GN
  b1 : k.length + 1 ≤ most
  b2 : n ≤ 4194304
  b3 : l.length = c
  lo' : wB.heap.size ≤ GN ∧ wJ.heap.size ≤ GN
section
variable {wB wJ W : World} {B J sy N most GT cT NB GN : Nat} {vOp vRe : Value} {tf : Nat → List UInt8} {O : Nat → List Nat} {R : Nat → Bool} {s0 : List UInt8} {ks0 : List (List UInt8)} {outs0 : Nat} {ou0 : List (List Nat)} {NX : List Value} {nx : List (List Nat)} {c : Nat} {k : List (List UInt8)} {n : Nat} {o : List (List Nat)} {l : List Nat} {OU : List Value} {ps : Lob}
theorem NsI.drew (h : NsI wB wJ B J sy N most GT cT NB GN vOp vRe tf O R s0 ks0 outs0 ou0 NX nx c k n o l OU ps W) : NsI wB wJ B J sy N most GT cT NB GN vOp vRe tf O R s0 ks0 outs0 ou0 NX nx c k n o l OU ps W.drew := ⟨h.ns, h.bu.drew, own_blk h.nr (fun _ _ => rfl), h.aw, h.b1, h.b2, h.b3, h.lo'⟩
theorem row_zero (l : List Nat) {sy c : Nat} (hc : c < sy) (hl : l.length = c) (x : Nat) : (nI (l ++ List.replicate (sy - c) 0)).set c ((x : Nat) : Int) = nI ((l ++ [x]) ++ List.replicate (sy - (c + 1)) 0) := by
  subst hl
  have e : sy - l.length = (sy - (l.length + 1)) + 1 := by omega
  rw [e, List.replicate_succ]
  unfold nI
  rw [List.map_append, List.set_append_right _ _ (by rw [List.length_map]; exact Nat.le_refl _), List.length_map, Nat.sub_self, List.map_cons, List.set_cons_zero, List.append_assoc, List.map_append]
  rfl
/-- The number and the cut text are written. -/
theorem NsI.put (h : NsI wB wJ B J sy N most GT cT NB GN vOp vRe tf O R s0 ks0 outs0 ou0 NX nx c k n o l OU ps W) {k' : List (List UInt8)} {n' : Nat} {o' : List (List Nat)} {OU' : List Value} {x : Nat} {W1 : World} (hc : c < sy) (hns : nsF tf O most ks0 outs0 ou0 (c + 1) = some (k', n', o', l ++ [x])) (hbu : BuI wB wJ B J sy N most n' GT cT NB vOp vRe (cutF tf c) ps R (s0 :: k') k' NX OU' nx o' W1) (hnr : OwnI W1 wJ.heap.size (.slice (some ⟨GN, 0, none⟩) sy sy) (nI (l ++ List.replicate (sy - c) 0))) (haw : ∀ y ∈ NX ++ OU', y.ownBlock ≠ some GN) (hb1 : k'.length + 1 ≤ most) (hb2 : n' ≤ 4194304) (ht4 : 4 ≤ (tf c).length) :
    (∃ u, W1.cell? ⟨GN, c, none⟩ = some u) ∧ W1.frozen? ⟨GN, c, none⟩ = false ∧ ∃ a cp, (ps.map (·.1))[c]? = some (.slice a (tf c).length cp) ∧ 4 ≤ cp ∧ (W1.setCell ⟨GN, c, none⟩ (.int .i64 (x : Int))).cell? ⟨B, 3, none⟩ = some (.slice (some ⟨GT, 0, none⟩) sy cT) ∧ (∃ u, (W1.setCell ⟨GN, c, none⟩ (.int .i64 (x : Int))).cell? ⟨GT, c, none⟩ = some u) ∧ (W1.setCell ⟨GN, c, none⟩ (.int .i64 (x : Int))).frozen? ⟨GT, c, none⟩ = false ∧ ∃ ps', NsI wB wJ B J sy N most GT cT NB GN vOp vRe tf O R s0 ks0 outs0 ou0 NX nx (c + 1) k' n' o' (l ++ [x]) OU' ps' (((W1.setCell ⟨GN, c, none⟩ (.int .i64 (x : Int))).setCell ⟨GT, c, none⟩ (.slice a 4 cp)).drew) := by
  have hlen : (nI (l ++ List.replicate (sy - c) 0)).length = sy := by rw [nI_len, List.length_append, List.length_replicate, h.b3]; omega
  obtain ⟨cs, hcs⟩ := own_typ hnr (show Value.ownBlock _ = some GN from rfl)
  have hr : W1.ownsRow wJ.heap.size 3 1 (.slice (some ⟨GN, 0, none⟩) sy sy) sy ((nI (l ++ List.replicate (sy - c) 0)).map (Value.int .i64)) := by have q := hnr; unfold OwnI at q; rw [hlen] at q; exact q
  have hcell : ∃ u, W1.cell? ⟨GN, c, none⟩ = some u := ⟨_, by
    rw [World.ownsRow.cellAt hr c (by omega)]
    exact List.getElem?_eq_getElem (by rw [List.length_map, hlen]; exact hc)⟩
  have h2 := hbu.fill (i := c) (u := .int .i64 (x : Int)) hcs h.lo'.1 h.lo'.2 haw
  have hst := (World.ownsRow.stored hr c (.int .i64 (x : Int))).1
  have hnr2 : OwnI (W1.setCell ⟨GN, c, none⟩ (.int .i64 (x : Int))) wJ.heap.size (.slice (some ⟨GN, 0, none⟩) sy sy) (nI ((l ++ [x]) ++ List.replicate (sy - (c + 1)) 0)) := by
    rw [← row_zero l hc h.b3 x]
    unfold OwnI
    rw [List.length_set, hlen, List.map_set]
    exact hst
  obtain ⟨a, cp, q1, q2, q3, q4, q5, q6, q7, q8⟩ := h2.text hc
  rw [cutF_at] at q1 q2 q4 q5
  obtain ⟨ps', _, q9⟩ := q8 4 (by rw [cutF_at]; exact ht4)
  rw [cutF_succ] at q9
  refine ⟨hcell, by simp [World.frozen?, hcs], a, cp, q1, by omega, q7, ⟨_, q2⟩, q3, ps', hns, q9.drew, ?_, haw, hb1, hb2, by rw [List.length_append, h.b3]; rfl, h.lo'⟩
  obtain ⟨cs2, hcs2⟩ := own_typ (h2.tx.2.1.outer) (show Value.ownBlock _ = some GT from rfl)
  exact own_blk hnr2 (fun k hk => (Only.setCell _ GT c _).block k (World.ownsRow.lt hnr2 k hk).2 (fun e => own_ne_blk hnr2 hcs2 (by decide) (e ▸ hk)))
end
end Go.Proofs.YtbbejfkgopcjoaaDoor
