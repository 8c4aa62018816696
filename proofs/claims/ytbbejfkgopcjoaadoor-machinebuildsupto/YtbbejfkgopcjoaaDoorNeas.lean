/-
  McEM, McFM, McFW.
-/
import Derived.Test.YtbbejfkgopcjoaaDoorNear
namespace Go.Proofs.YtbbejfkgopcjoaaDoor
open Go.RowKit Go.Shelf
/-- Blocks but those of some kinds stay. -/
structure KeB (T : List TypeId) (W W' : World) : Prop where
  size : W.heap.size ≤ W'.heap.size
  kp : ∀ (k : Nat) (o : Obj), W.heap[k]? = some o → (∀ cs t f, o = .cells cs t f → t ∉ T) → W'.heap[k]? = some o
theorem KeB.refl (T : List TypeId) (W : World) : KeB T W W := ⟨Nat.le_refl _, fun _ _ h _ => h⟩
theorem KeB.trans {T : List TypeId} {A B C : World} (h : KeB T A B) (g : KeB T B C) : KeB T A C := ⟨Nat.le_trans h.size g.size, fun k o hk ht => g.kp k o (h.kp k o hk ht) ht⟩
theorem KeB.mono {T T' : List TypeId} {A B : World} (h : KeB T A B) (hs : ∀ t ∈ T, t ∈ T') : KeB T' A B := ⟨h.size, fun k o hk ht => h.kp k o hk (fun cs t f e hm => ht cs t f e (hs t hm))⟩
theorem KeB.below {W W' : World} (T : List TypeId) (h : Below W.heap.size W W') : KeB T W W' := ⟨h.size, fun k _ hk _ => (h.block k (Array.getElem?_eq_some_iff.1 hk).1).trans hk⟩
theorem KeB.only {W W' : World} {T : List TypeId} {S : Nat → Prop} (h : Only W W' S) (hS : ∀ k, S k → k < W.heap.size → ∃ cs t f, W.heap[k]? = some (.cells cs t f) ∧ t ∈ T) : KeB T W W' := ⟨h.size, fun k o hk ht => (h.block k (Array.getElem?_eq_some_iff.1 hk).1 (fun hs => by
  obtain ⟨cs, t, f, e, hm⟩ := hS k hs (Array.getElem?_eq_some_iff.1 hk).1
  rw [hk] at e
  injection e with e
  exact ht cs t f e hm)).trans hk⟩
theorem KeB.own {T : List TypeId} {W W' : World} {lo : Nat} {t : TypeId} {s n : Nat} {v : Value} {xs : List Value} (h : KeB T W W') (ho : W.ownsRow lo t s v n xs) (ht : t ∉ T) : W'.ownsRow lo t s v n xs := own_blk ho (fun k hk => by
  obtain ⟨cs, hcs⟩ := own_typ ho hk
  rw [h.kp k _ hcs (fun cs' t' f' e => by injection e with _ e2; rw [← e2]; exact ht), hcs])
theorem KeB.map {T : List TypeId} {W W' : World} {B o : Nat} {ks : List (List UInt8)} (h : KeB T W W') (hm : MapS W B o ks) : MapS W' B o ks := by
  obtain ⟨es, cl, e⟩ := hm.isMap
  exact hm.keep ((h.kp B _ e (fun _ _ _ q => by cases q)).trans e.symm)
theorem KeB.row {T : List TypeId} {W W' : World} {lo : Nat} {t : TypeId} {s n : Nat} {v : Value} {xs : List Value} (hv : W.ownsRow lo t s v n xs) (ht : t ∈ T) (hO : Only W W' (fun k => v.ownBlock = some k)) : KeB T W W' := KeB.only hO (fun k hk _ => by
  obtain ⟨cs, hcs⟩ := own_typ hv hk
  exact ⟨cs, t, _, hcs, ht⟩)
theorem KeB.cell {T : List TypeId} {W : World} {g i : Nat} {cs : Array Value} {t : TypeId} {f : Nat × Nat} (hg : W.heap[g]? = some (.cells cs t f)) (ht : t ∈ T) (u : Value) : KeB T W (W.setCell ⟨g, i, none⟩ u) := KeB.only (Only.setCell W g i u) (fun k hk _ => by rw [hk]; exact ⟨cs, t, f, hg, ht⟩)
/-- The symbols whose opening is met first. -/
def csF (f : Nat → List UInt8) : Nat → List Nat
  | 0 => []
  | k + 1 => if f k ∈ (csF f k).map f then csF f k else csF f k ++ [k]
/-- The number of a symbol's opening. -/
def ixF (f : Nat → List UInt8) (k c : Nat) : Nat := ((csF f k).map f).idxOf (f c)
theorem csF_len (f : Nat → List UInt8) : ∀ k, (csF f k).length ≤ k
  | 0 => Nat.le_refl _
  | k + 1 => by
    have := csF_len f k
    rw [csF]
    split
    · omega
    · simp; omega
theorem csF_mem (f : Nat → List UInt8) : ∀ k c, c < k → f c ∈ (csF f k).map f
  | k + 1, c, h => by
    rw [csF]
    by_cases hm : f k ∈ (csF f k).map f
    · rw [if_pos hm]
      by_cases hc : c = k
      · rw [hc]; exact hm
      · exact csF_mem f k c (by omega)
    · rw [if_neg hm, List.map_append, List.mem_append]
      by_cases hc : c = k
      · right; rw [hc]; simp
      · left; exact csF_mem f k c (by omega)
theorem ixF_succ (f : Nat → List UInt8) {k c : Nat} (h : c < k) : ixF f (k + 1) c = ixF f k c := by
  unfold ixF
  rw [csF]
  split
  · rfl
  · rw [List.map_append, List.idxOf_append, if_pos (csF_mem f k c h)]
theorem ixF_new (f : Nat → List UInt8) {k : Nat} (h : f k ∉ (csF f k).map f) : csF f (k + 1) = csF f k ++ [k] ∧ ixF f (k + 1) k = (csF f k).length := by
  have e : csF f (k + 1) = csF f k ++ [k] := by rw [csF, if_neg h]
  refine ⟨e, ?_⟩
  unfold ixF
  rw [e, List.map_append, List.idxOf_append, if_neg h]
  simp
theorem ixF_old (f : Nat → List UInt8) {k : Nat} (h : f k ∈ (csF f k).map f) : csF f (k + 1) = csF f k ∧ ixF f (k + 1) k = ((csF f k).map f).idxOf (f k) := by
  have e : csF f (k + 1) = csF f k := by rw [csF, if_pos h]
  exact ⟨e, by unfold ixF; rw [e]⟩
theorem ixF_lt (f : Nat → List UInt8) {k c : Nat} (h : c < k) : ixF f k c < (csF f k).length := by
  have := List.idxOf_lt_length_of_mem (csF_mem f k c h)
  rw [List.length_map] at this
  exact this
/-- The texts behind so many symbols. -/
def txN (f : Nat → List UInt8) (k c : Nat) : List UInt8 := if c < k then leB (ixF f k c) 4 else f c
theorem txN_succ (f : Nat → List UInt8) (k : Nat) : (fun c => if c = k then leB (ixF f (k + 1) k) 4 else txN f k c) = txN f (k + 1) := by
  funext c
  unfold txN
  by_cases h : c = k
  · subst h; rw [if_pos rfl, if_pos (by omega)]
  · rw [if_neg h]
    by_cases h2 : c < k
    · rw [if_pos h2, if_pos (by omega), ixF_succ f h2]
    · rw [if_neg h2, if_neg (by omega)]
/-- Openings in memory. -/
structure OpI (W : World) (lo : Nat) (v : Value) (os : List (List UInt8 × List Nat)) : Prop where
  own : ∃ VS, W.ownsRow lo 103 2 v os.length VS ∧ ∀ o (h : o < os.length), VS[o * 2]? = some (.string ⟨(os[o]).1.toArray⟩) ∧ ∃ a c, VS[o * 2 + 1]? = some (.slice a (os[o]).2.length c) ∧ OwnI W lo (.slice a (os[o]).2.length c) (nI (os[o]).2)
theorem OpI.nil (W : World) (lo : Nat) : OpI W lo (.slice none 0 0) [] := ⟨[], World.ownsRow_nil _ _ _ _, fun _o h => absurd h (Nat.not_lt_zero _)⟩
theorem OpI.keep {T : List TypeId} {W W' : World} {lo : Nat} {v : Value} {os : List (List UInt8 × List Nat)} (h : OpI W lo v os) (hk : KeB T W W') (h1 : 103 ∉ T) (h2 : 3 ∉ T) : OpI W' lo v os := by
  obtain ⟨VS, h3, h4⟩ := h.own
  refine ⟨VS, hk.own h3 h1, fun o ho => ?_⟩
  obtain ⟨q1, a, c, q2, q3⟩ := h4 o ho
  exact ⟨q1, a, c, q2, hk.own q3 h2⟩
/-- The builder while its openings are made. -/
structure NbI (wJ : World) (B J sy N most GT cT NB KB : Nat) (f : Nat → List UInt8) (E : Nat → List Nat) (csK csO : List Nat) (tf : Nat → List UInt8) (ps : Lob) (W : World) : Prop where
  bel : Below wJ.heap.size wJ W
  bb : ∃ vOp vRe, Bb W B J vOp vRe (.slice (some ⟨GT, 0, none⟩) sy cT) (.map (some NB)) (.slice none 0 0) most 0 (.slice none 0 0) (.slice none 0 0) ∧ OpI W wJ.heap.size vOp (csO.map fun c => (f c, E c)) ∧ OwnU W wJ.heap.size vRe N (fun _ => false) ∧ ∃ GR cR, vRe = .slice (some ⟨GR, 0, none⟩) N cR
  nb : MapS W NB 1 []
  kb : MapS W KB 0 (csK.map f)
  ne : NB ≠ KB
  lo' : wJ.heap.size ≤ B ∧ wJ.heap.size ≤ KB ∧ wJ.heap.size ≤ NB
  tx : ps.length = sy ∧ BagT W wJ.heap.size (.slice (some ⟨GT, 0, none⟩) sy cT) ps ∧ ∀ c (h : c < ps.length), (ps[c]).2 = tf c
section
variable {wJ W : World} {B J sy N most GT cT NB KB : Nat} {f : Nat → List UInt8} {E : Nat → List Nat} {csK csO : List Nat} {tf : Nat → List UInt8} {ps : Lob}
theorem BagT.keep {T : List TypeId} {w w' : World} {base : Nat} {v : Value} {ps : Lob} (h : BagT w base v ps) (hk : KeB T w w') (h1 : 99 ∉ T) (h2 : 5 ∉ T) : BagT w' base v ps := ⟨hk.own h.outer h1, fun x hx => hk.own (h.row x hx) h2, h.apart, h.away⟩
/-- What lies elsewhere changes nothing. -/
theorem NbI.new (h : NbI wJ B J sy N most GT cT NB KB f E csK csO tf ps W) {W' : World} (hb : Below W.heap.size W W') : NbI wJ B J sy N most GT cT NB KB f E csK csO tf ps W' := by
  obtain ⟨vOp, vRe, h1, h2, h3, hfm⟩ := h.bb
  obtain ⟨p1, p2, p3⟩ := h.tx
  have hk : KeB [] W W' := KeB.below _ hb
  exact ⟨Below.later h.bel hb, ⟨vOp, vRe, h1.past hb, h2.keep hk (by simp) (by simp), hk.own h3 (by simp), hfm⟩, hk.map h.nb, hk.map h.kb, h.ne, h.lo', ⟨p1, p2.keep hk (by simp) (by simp), p3⟩⟩
/-- A text of a symbol is known now. -/
theorem NbI.know (h : NbI wJ B J sy N most GT cT NB KB f E csK csO tf ps W) {W' : World} {c : Nat} (hm : MapS W' KB 0 ((csK ++ [c]).map f)) (hg : W.grownBy W' (some KB)) : NbI wJ B J sy N most GT cT NB KB f E (csK ++ [c]) csO tf ps W' := by
  obtain ⟨vOp, vRe, h1, h2, h3, hfm⟩ := h.bb
  obtain ⟨p1, p2, p3⟩ := h.tx
  obtain ⟨es, cl, e⟩ := h.kb.isMap
  have hk : KeB [] W W' → True := fun _ => trivial
  have hcell : ∀ (k : Nat) (cs : Array Value) (t : TypeId) (f' : Nat × Nat), W.heap[k]? = some (.cells cs t f') → W'.heap[k]? = W.heap[k]? := fun k cs t f' q => by
    refine hg.block k (Array.getElem?_eq_some_iff.1 q).1 (fun e2 => ?_)
    injection e2 with e2
    rw [e2, e] at q
    cases q
  have ho : ∀ {t : TypeId} {s n : Nat} {v : Value} {xs : List Value}, W.ownsRow wJ.heap.size t s v n xs → W'.ownsRow wJ.heap.size t s v n xs := fun q => own_blk q (fun k hk => by
    obtain ⟨cs, hcs⟩ := own_typ q hk
    exact hcell k cs _ _ hcs)
  obtain ⟨VS, o1, o2⟩ := h2.own
  refine ⟨h.bel.grown hg h.bel.size (fun q hq => by injection hq with hq; rw [← hq]; exact h.lo'.2.1), ⟨vOp, vRe, h1.kept (hcell B _ _ _ h1.r), ⟨VS, ho o1, fun o hoo => ?_⟩, ho h3, hfm⟩, h.nb.keep (hg.block NB h.nb.lt (fun e2 => h.ne (by injection e2))), hm, h.ne, h.lo', ⟨p1, ⟨ho p2.outer, fun x hx => ho (p2.row x hx), p2.apart, p2.away⟩, p3⟩⟩
  obtain ⟨q1, a, c, q2, q3⟩ := o2 o hoo
  exact ⟨q1, a, c, q2, ho q3⟩
end
end Go.Proofs.YtbbejfkgopcjoaaDoor
namespace Go.Proofs.YtbbejfkgopcjoaaDoor
open Go.RowKit Go.Shelf
section
variable {wJ W : World} {B J sy N most GT cT NB KB : Nat} {f : Nat → List UInt8} {E : Nat → List Nat} {csK csO : List Nat} {tf : Nat → List UInt8} {ps : Lob}
theorem NbI.drew (h : NbI wJ B J sy N most GT cT NB KB f E csK csO tf ps W) : NbI wJ B J sy N most GT cT NB KB f E csK csO tf ps W.drew := h.new (Below.refl _ _).drew
theorem NbI.open' (h : NbI wJ B J sy N most GT cT NB KB f E csK csO tf ps W) : ∃ a n c VS, n = csO.length ∧ W.cell? ⟨B, 1, none⟩ = some (.slice a n c) ∧ W.ownsRow wJ.heap.size 103 2 (.slice a n c) n VS ∧ ∀ (W1 : World) (x : Nat) (aE : Option Addr) (cE : Nat), Below W.heap.size W W1 → OwnI W1 wJ.heap.size (.slice aE (E x).length cE) (nI (E x)) → ∀ (v1 : Value) (w1 : World), w1.ownsRow wJ.heap.size 103 2 v1 (n + 1) (VS ++ [.string ⟨(f x).toArray⟩, .slice aE (E x).length cE]) → Only W1 w1 (fun k => (Value.slice a n c).ownBlock = some k) → (w1.cell? ⟨B, 1, none⟩ = some (.slice a n c) ∧ w1.frozen? ⟨B, 1, none⟩ = false) ∧ NbI wJ B J sy N most GT cT NB KB f E csK (csO ++ [x]) tf ps (w1.setCell ⟨B, 1, none⟩ v1) := by
  obtain ⟨vOp, vRe, h1, h2, h3, hfm⟩ := h.bb
  obtain ⟨VS, o1, o2⟩ := h2.own
  obtain ⟨a, c, e⟩ := own_sl o1
  rw [List.length_map] at e o1
  refine ⟨a, csO.length, c, VS, rfl, by rw [← e]; exact h1.c.2.1, by rw [← e]; exact o1, fun W1 x aE cE hb0 hE v1 w1 hr hO => ?_⟩
  have H1 := h.new hb0
  obtain ⟨p1, p2, p3⟩ := H1.tx
  have o1' : W1.ownsRow wJ.heap.size 103 2 vOp csO.length VS := own_blk o1 (fun k hk => hb0.block k (World.ownsRow.lt o1 k hk).2)
  have b1' : Bb W1 B J vOp vRe (.slice (some ⟨GT, 0, none⟩) sy cT) (.map (some NB)) (.slice none 0 0) most 0 (.slice none 0 0) (.slice none 0 0) := h1.past hb0
  have hk0 : KeB [103, 97] W1 w1 := KeB.row o1' (by simp) (by rw [e]; exact hO)
  have b1 : Bb w1 B J vOp vRe (.slice (some ⟨GT, 0, none⟩) sy cT) (.map (some NB)) (.slice none 0 0) most 0 (.slice none 0 0) (.slice none 0 0) := b1'.kept (by
    rw [b1'.r]
    exact (hO.block B b1'.lt (fun q => own_ne_blk o1' b1'.r (by decide) (by rw [e]; exact q))).trans b1'.r)
  have hk1 : KeB [103, 97] w1 (w1.setCell ⟨B, 1, none⟩ v1) := KeB.cell b1.r (by simp) _
  have hk := hk0.trans hk1
  have hsO := Only.setCell w1 B 1 v1
  have m2 := own_ne_blk hr b1.r (by decide)
  refine ⟨⟨by rw [← e]; exact b1.c.2.1, b1.fz 1⟩, ?_, ⟨v1, vRe, ⟨heap_setCell_same w1 _ 1 _ _ _ b1.r⟩, ⟨VS ++ [.string ⟨(f x).toArray⟩, .slice aE (E x).length cE], ?_, fun o ho => ?_⟩, (hk.own (own_blk h3 (fun k hk => hb0.block k (World.ownsRow.lt h3 k hk).2)) (by decide)), hfm⟩, hk.map H1.nb, hk.map H1.kb, h.ne, h.lo', ⟨p1, p2.keep hk (by decide) (by decide), p3⟩⟩
  · refine hsO.afterBelow (hO.afterBelow H1.bel H1.bel.size (fun i hi => (World.ownsRow.lt o1' i (by rw [e]; exact hi)).1)) (Nat.le_trans H1.bel.size hO.size) (fun i hi => by rw [hi]; exact h.lo'.1)
  · rw [List.length_map, List.length_append, List.length_singleton]
    exact own_blk hr (fun k hk => hsO.block k (World.ownsRow.lt hr k hk).2 (fun q => m2 (q ▸ hk)))
  · have hVl : VS.length = csO.length * 2 := o1.1
    rw [List.length_map, List.length_append, List.length_singleton] at ho
    by_cases hlt : o < csO.length
    · obtain ⟨q1, a2, c2, q2, q3⟩ := o2 o (by rw [List.length_map]; exact hlt)
      rw [List.getElem_map] at q1 q2 q3
      rw [List.getElem_map, List.getElem_append_left hlt]
      refine ⟨by rw [List.getElem?_append_left (by omega)]; exact q1, a2, c2, by rw [List.getElem?_append_left (by omega)]; exact q2, hk.own (own_blk q3 (fun k hk => hb0.block k (World.ownsRow.lt q3 k hk).2)) (by decide)⟩
    · obtain rfl : o = csO.length := by omega
      rw [List.getElem_map, List.getElem_append_right (Nat.le_refl _)]
      simp only [Nat.sub_self, List.getElem_cons_zero]
      refine ⟨?_, aE, cE, ?_, hk.own hE (by decide)⟩
      · rw [List.getElem?_append_right (by omega), show csO.length * 2 - VS.length = 0 by omega]; rfl
      · rw [List.getElem?_append_right (by omega), show csO.length * 2 + 1 - VS.length = 1 by omega]; rfl
/-- One text: where it lies, and what comes of it once it is written anew. -/
theorem NbI.text (h : NbI wJ B J sy N most GT cT NB KB f E csK csO tf ps W) {y : Nat} (hy : y < sy) : ∃ a c, (ps.map (·.1))[y]? = some (.slice a (tf y).length c) ∧ W.cell? ⟨GT, y, none⟩ = some (.slice a (tf y).length c) ∧ OwnB W wJ.heap.size (.slice a (tf y).length c) (tf y) ∧ (a = none → c = 0) ∧ OwnB W wJ.heap.size (.slice a 0 c) [] ∧ W.cell? ⟨B, 3, none⟩ = some (.slice (some ⟨GT, 0, none⟩) sy cT) ∧ ∀ (w1 : World) (v' : Value) (l' : List UInt8), Apd W w1 wJ.heap.size (.slice a 0 c) v' l' → (w1.cell? ⟨B, 3, none⟩ = some (.slice (some ⟨GT, 0, none⟩) sy cT) ∧ (∃ u, w1.cell? ⟨GT, y, none⟩ = some u) ∧ w1.frozen? ⟨GT, y, none⟩ = false) ∧ ∃ ps', NbI wJ B J sy N most GT cT NB KB f E csK csO (fun c => if c = y then l' else tf c) ps' (w1.setCell ⟨GT, y, none⟩ v') := by
  obtain ⟨vOp, vRe, h1, h2, h3, hfm⟩ := h.bb
  obtain ⟨p1, p2, p3⟩ := h.tx
  have hy2 : y < ps.length := by omega
  have hmem : ps[y] ∈ ps := List.getElem_mem hy2
  obtain ⟨k0, k1⟩ := p2.cells p1.symm y hy2
  have hr := p2.row _ hmem
  have e2 := p3 y hy2
  obtain ⟨a, c, ev, hac⟩ : ∃ a c, (ps[y]).1 = .slice a (tf y).length c ∧ (a = none → c = 0) := by
    rcases hr.2 with ⟨e, hn⟩ | ⟨g, cap, cur, e, _⟩
    · exact ⟨none, 0, by rw [e, ← e2, hn], fun _ => rfl⟩
    · exact ⟨_, cap, by rw [e, ← e2], fun q => by cases q⟩
  rw [ev] at k0
  rw [ev, e2] at hr
  have hf : OwnB W wJ.heap.size (.slice a 0 c) [] := by
    have q := own_front hr (Nat.zero_le _)
    unfold OwnB
    simpa [cellsOf] using q
  have hbk : (Value.slice a 0 c).ownBlock = (Value.slice a (tf y).length c).ownBlock := by cases a <;> rfl
  refine ⟨a, c, by rw [List.getElem?_map, List.getElem?_eq_getElem hy2, Option.map_some, ev], k0, hr, hac, hf, h1.c.2.2.2.1, fun w1 v' l' hap => ?_⟩
  have hs := p2.set p1.symm y hy2 (w1 := w1) (v' := v') (l' := l') (fun k hk hne => hap.frm.block k hk (by rw [ev] at hne; rw [hbk]; exact hne)) hap.own (fun q hq => by rw [ev, ← hbk]; exact hap.at' q hq)
  have hk0 : KeB [5, 99] W w1 := KeB.row hf (by simp) hap.frm
  obtain ⟨cs, hcs⟩ := own_typ p2.outer (show Value.ownBlock _ = some GT from rfl)
  have hg1 : w1.heap[GT]? = some (.cells cs 99 (0, 0)) := (hap.frm.block GT (Array.getElem?_eq_some_iff.1 hcs).1 (own_ne_blk hf hcs (by decide))).trans hcs
  have hk1 : KeB [5, 99] w1 (w1.setCell ⟨GT, y, none⟩ v') := KeB.cell hg1 (by simp) _
  have hk := hk0.trans hk1
  have b1 : Bb w1 B J vOp vRe (.slice (some ⟨GT, 0, none⟩) sy cT) (.map (some NB)) (.slice none 0 0) most 0 (.slice none 0 0) (.slice none 0 0) := h1.kept ((hap.frm.block B h1.lt (own_ne_blk hf h1.r (by decide))))
  have hne : B ≠ GT := fun q => by
    have h4 := h1.r
    rw [q, hcs] at h4
    injection h4 with h4
    injection h4 with _ h5
    exact absurd h5 (by decide)
  have hgl := (World.ownsRow.lt p2.outer GT rfl).1
  refine ⟨⟨b1.c.2.2.2.1, ⟨_, (hap.frm.cell (p := ⟨GT, y, none⟩) (World.block_lt_of_cell? W _ k0) (own_ne_blk hf hcs (by decide))).trans k0⟩, by simp [World.frozen?, hg1]⟩, ps.set y (v', l'), ?_, ⟨vOp, vRe, b1.kept ((Only.setCell w1 GT y v').block B b1.lt hne), h2.keep hk (by decide) (by decide), hk.own h3 (by decide), hfm⟩, hk.map h.nb, hk.map h.kb, h.ne, h.lo', ⟨by rw [List.length_set]; exact p1, hs, fun j hj => ?_⟩⟩
  · exact (Only.setCell w1 GT y v').afterBelow (hap.frm.afterBelow h.bel h.bel.size (fun i hi => (World.ownsRow.lt hf i hi).1)) (Nat.le_trans h.bel.size hap.frm.size) (fun i hi => by rw [hi]; exact hgl)
  · rw [List.getElem_set]
    split
    · rename_i e; rw [if_pos e.symm]
    · rename_i e; rw [if_neg (fun q => e q.symm)]; exact p3 j (by simpa using hj)
end
end Go.Proofs.YtbbejfkgopcjoaaDoor
namespace Go.Proofs.YtbbejfkgopcjoaaDoor
open Go.RowKit Go.Shelf
theorem infoBytes : (Tryd.prog.info? 99).map (fun i => (i.zero, i.size, i.bytes)) = some (some (.slice none 0 0), 1, 24) := by kernel_rfl
theorem infoOpen : (Tryd.prog.info? 103).map (fun i => (i.zero, i.size, i.bytes)) = some (some (.agg #[.string ⟨#[]⟩, .slice none 0 0]), 2, 40) := by kernel_rfl
/-- The text of the open places that a symbol is a letter of, and the patterns that end there. -/
def opF (j : Jn) (N : Nat) : Nat → List UInt8 := fun c => encW (andB j.op (ltF j.LE c)) N
def opE (j : Jn) (N : Nat) : Nat → List Nat := fun c => endL (fun q => andB j.op (ltF j.LE c) q && j.la q) j.own (64 * N)
theorem cell_two_any (w : World) (x y : Value) (t : TypeId) : ∀ j u, [x, y][j]? = some u → (w.alloc (.cells #[x, y] t)).cell? ((⟨w.heap.size, 0, none⟩ : Addr).add j) = some u := by
  intro j u hu
  have hr := heap_alloc_new w (.cells #[x, y] t)
  rw [Addr.add_lit, Nat.zero_add, cell_of_row _ _ _ _ _ _ hr]
  match j, hu with
  | 0, hu => simpa using hu
  | 1, hu => simpa using hu
/-- The builder, when nothing is known yet. -/
structure Nb0 (w : World) (B J sy N most GR GT NB : Nat) (W : World) : Prop where
  bel : Below w.heap.size w W
  bb : Bb W B J (.slice none 0 0) (.slice (some ⟨GR, 0, none⟩) N N) (.slice (some ⟨GT, 0, none⟩) sy sy) (.map (some NB)) (.slice none 0 0) most 0 (.slice none 0 0) (.slice none 0 0)
  re : OwnU W w.heap.size (.slice (some ⟨GR, 0, none⟩) N N) N (fun _ => false)
  tx : BagT W w.heap.size (.slice (some ⟨GT, 0, none⟩) sy sy) (List.replicate sy (.slice none 0 0, []))
  nb : MapS W NB 1 []
  lo' : w.heap.size ≤ B ∧ w.heap.size ≤ NB
theorem alloc4 (W : World) (o0 o1 o2 o3 : Obj) : (((((W.alloc o0).alloc o1).alloc o2).alloc o3).drew).heap[W.heap.size]? = some o0 ∧ (((((W.alloc o0).alloc o1).alloc o2).alloc o3).drew).heap[W.heap.size + 1]? = some o1 ∧ (((((W.alloc o0).alloc o1).alloc o2).alloc o3).drew).heap[W.heap.size + 1 + 1]? = some o2 ∧ (((((W.alloc o0).alloc o1).alloc o2).alloc o3).drew).heap[W.heap.size + 1 + 1 + 1]? = some o3 := by
  have e : (((((W.alloc o0).alloc o1).alloc o2).alloc o3).drew).heap = (((W.heap.push o0).push o1).push o2).push o3 := rfl
  have h1 : ∀ (a : Array Obj) (x : Obj), (a.push x)[a.size]? = some x := fun a x => by simp
  have h2 : ∀ (a : Array Obj) (x : Obj) (k : Nat), k < a.size → (a.push x)[k]? = a[k]? := fun a x k h => by rw [Array.getElem?_push, if_neg (by omega)]
  have s1 : (W.heap.push o0).size = W.heap.size + 1 := by simp
  have s2 : ((W.heap.push o0).push o1).size = W.heap.size + 1 + 1 := by simp
  have s3 : (((W.heap.push o0).push o1).push o2).size = W.heap.size + 1 + 1 + 1 := by simp
  rw [e]
  refine ⟨?_, ?_, ?_, ?_⟩
  · rw [h2 _ _ _ (by omega), h2 _ _ _ (by omega), h2 _ _ _ (by omega), h1]
  · rw [h2 _ _ _ (by omega), h2 _ _ _ (by omega), ← s1, h1]
  · rw [h2 _ _ _ (by omega), ← s2, h1]
  · rw [← s3, h1]
theorem MapS.at0 {W : World} {NB : Nat} (o : Nat) (h : W.heap[NB]? = some (.map #[] 0)) : MapS W NB o [] := by
  obtain ⟨D, ⟨es, clock, h1, h2⟩, hs⟩ := MapS.made W o
  have h3 := heap_alloc_new W (.map #[] 0)
  rw [h3] at h1
  exact ⟨D, ⟨es, clock, h.trans h1, h2⟩, hs⟩
theorem Nb0.made {w W : World} {B J sy N most GR GT NB : Nat} (hB : W.heap[B]? = some (.cells #[.pointer (some ⟨J, 0, none⟩), .slice none 0 0, .slice (some ⟨GR, 0, none⟩) N N, .slice (some ⟨GT, 0, none⟩) sy sy, .map (some NB), .slice none 0 0, .int .i64 (most : Int), .int .i64 0, .int .i64 0, .slice none 0 0, .slice none 0 0] 97 (0, 0)))
    (hR : W.heap[GR]? = some (.cells (madeCells #[.int .u64 0] N) 105 (0, 0))) (hT : W.heap[GT]? = some (.cells (madeCells #[.slice none 0 0] sy) 99 (0, 0))) (hM : W.heap[NB]? = some (.map #[] 0)) (hN : N ≤ 1000000) (hsy : sy ≤ 16384) (hb : Below w.heap.size w W) (h1 : w.heap.size ≤ B) (h2 : w.heap.size ≤ GR) (h3 : w.heap.size ≤ GT) (h4 : w.heap.size ≤ NB) : Nb0 w B J sy N most GR GT NB W := by
  refine ⟨hb, ⟨hB⟩, ?_, BagT.made ?_, MapS.at0 1 hM, h1, h4⟩
  · unfold OwnU
    rw [wdV_none]
    refine ⟨by simp, .inr ⟨GR, N, _, rfl, h2, hR, Nat.le_refl _, by unfold maxLen; omega, by rw [size_madeCells]; simp, ?_⟩⟩
    apply List.ext_getElem
    · simp [size_madeCells]
    · intro k q1 q2
      simp [madeCells, Nat.mod_one]
  · refine ⟨by simp, .inr ⟨GT, sy, _, rfl, h3, hT, Nat.le_refl _, by unfold maxLen; omega, by rw [size_madeCells]; simp, ?_⟩⟩
    apply List.ext_getElem
    · simp [size_madeCells]
    · intro k q1 q2
      simp [madeCells, Nat.mod_one]
theorem txN_at (f : Nat → List UInt8) (k : Nat) : txN f k k = f k := by unfold txN; rw [if_neg (by omega)]
theorem txN_zero (f : Nat → List UInt8) : txN f 0 = f := by funext c; unfold txN; rw [if_neg (by omega)]
/-- part's texts are there, and a map that knows nothing. -/
theorem Nb0.parted {w wc w1 : World} {B J sy N most GR GT NB : Nat} {f : Nat → List UInt8} {E : Nat → List Nat} (h : Nb0 w B J sy N most GR GT NB wc) (hp : PtI wc GT sy sy w.heap.size (List.replicate sy (.slice none 0 0, [])) f w1) : ∃ ps, NbI w B J sy N most GT sy NB w1.heap.size f E [] [] f ps (w1.alloc (.map #[] 0)) := by
  have hS : ∀ i, PtS GT (List.replicate sy (.slice none 0 0, [])) i → i = GT := fun i hi => by
    rcases hi with hi | ⟨x, hx, e⟩
    · exact hi
    · rw [List.eq_of_mem_replicate hx] at e; cases e
  have hO := hp.only.mono hS
  obtain ⟨cs, hcs⟩ := own_typ h.tx.outer (show Value.ownBlock _ = some GT from rfl)
  have hk : KeB [99] wc w1 := KeB.only hO (fun k hk _ => by rw [hk]; exact ⟨cs, _, _, hcs, by simp⟩)
  have hb2 : Below w1.heap.size w1 (w1.alloc (.map #[] 0)) := (Below.refl _ _).alloc (Nat.le_refl _) _
  have hk2 : KeB [99] w1 (w1.alloc (.map #[] 0)) := KeB.below _ hb2
  have hgl := (World.ownsRow.lt h.tx.outer GT rfl).1
  have hb1 : Below w.heap.size w w1 := hO.afterBelow h.bel h.bel.size (fun i hi => by rw [hi]; exact hgl)
  have hne : B ≠ GT := fun q => by
    have h4 := h.bb.r
    rw [q, hcs] at h4
    injection h4 with h4
    injection h4 with _ h5
    exact absurd h5 (by decide)
  obtain ⟨ps, p1, p2, p3, _⟩ := hp.bag
  refine ⟨ps, Below.later hb1 hb2, ⟨_, _, (h.bb.kept (hO.block B h.bb.lt hne)).past hb2, OpI.nil _ _, (hk.trans hk2).own h.re (by decide), GR, N, rfl⟩, (hk.trans hk2).map h.nb, MapS.made w1 0, ?_, ⟨h.lo'.1, hb1.size, h.lo'.2⟩, ⟨p1, p2.later hb2, p3⟩⟩
  have h5 := h.nb.lt
  have h6 := hO.size
  omega
set_option maxRecDepth 10000 in
set_option maxHeartbeats 6400000 in
theorem newBuilder_any (J sy N lo most : Nat) (j : Jn) (w : World) (hJ : JoF w J sy lo N j) (hok : JnOk j sy N) (hN : N ≤ 1000000) (hsy : sy ≤ 16384) (hsy1 : 1 ≤ sy) (hol : j.own.length ≤ 64 * N) (hlt : (LTs j.LE N).flatten.length ≤ 1000000000) (htab : TabAt 11 Lib.deBruijn64tab w) (_hmo : most ≤ 16384) :
    Calls Tryd.prog 27 #[.pointer (some ⟨J, 0, none⟩), .int .i64 (most : Int)] w fun e w' => ∃ B, e = .returned (.pointer (some ⟨B, 0, none⟩)) ∧ ∃ GT NB KB ps, NbI w B J sy N most GT sy NB KB (opF j N) (opE j N) (csF (opF j N) sy) (csF (opF j N) sy) (txN (opF j N) sy) ps w' := by
  obtain ⟨vO, vF, vE, vL, vM, GZ, GP, GC, cZ, cP, cC, vS, vA, hj, hrF, hrL⟩ := hJ.jo
  have hJl : J < w.heap.size := (Array.getElem?_eq_some_iff.1 hj.b.r).1
  have d0 : w.cell? ⟨J, 0, none⟩ = some (.int .i64 (sy : Int)) := hj.b.c.1
  have d7 : w.cell? ⟨J, 7, none⟩ = some (.slice (some ⟨GP, 0, none⟩) N cP) := hj.b.c.2.2.2.2.2.2.2.1
  have hmk1 : ∀ V : World, (Instr.makeSlice 83 (.int .i64 (N : Int)) (.int .i64 (N : Int))).run Tryd.prog V = .ok (.slice (some ⟨V.heap.size, 0, none⟩) N N) (V.alloc (.cells (madeCells #[.int .u64 0] N) 105)) := fun V => made_run (t := 83) Tryd.underlying83 infoU64z N N (Nat.le_refl _) (by omega) (by omega) V
  have hmk2 : ∀ V : World, (Instr.makeSlice 92 (.int .i64 (sy : Int)) (.int .i64 (sy : Int))).run Tryd.prog V = .ok (.slice (some ⟨V.heap.size, 0, none⟩) sy sy) (V.alloc (.cells (madeCells #[.slice none 0 0] sy) 99)) := fun V => made_run (t := 92) Tryd.underlying92 infoBytes sy sy (Nat.le_refl _) (by omega) (by omega) V
  have hmm := @run_makeMap Tryd.prog
  go_enter Tryd.func27, Tryd.ntmps27
  go_upto_region 1 with (fail)
  go_cut [5] from 12 (fun p wx => ∃ B GR GT NB : Nat, p = .pointer (some ⟨B, 0, none⟩) ∧ Hid (Nb0 w B J sy N most GR GT NB wx))
  case first =>
    go_region
    all_goals
      go_wp2_with fail
      go_meet
      case rel =>
        refine ⟨_, _, _, _, rfl, hid0 (Nb0.made (w := w) (alloc4 w _ _ _ _).2.2.2 ?_ ?_ ?_ hN hsy (((((Below.refl _ w).alloc (Nat.le_refl _) _).alloc (by simp) _).alloc (by simp; omega) _).alloc (by simp; omega) _).drew ?_ ?_ ?_ ?_)⟩
        all_goals first | omega | exact (alloc4 w _ _ _ _).1 | exact (alloc4 w _ _ _ _).2.1 | exact (alloc4 w _ _ _ _).2.2.1
  case rest =>
    obtain ⟨B, GR, GT, NB, rfl, H0⟩ := hcut
    clear hmk1 hmk2
    have HTab := hid0 htab
    have HJs := hid0 hj
    obtain ⟨f, hf⟩ : ∃ f, f = opF j N := ⟨_, rfl⟩
    obtain ⟨E, hE⟩ : ∃ E, E = opE j N := ⟨_, rfl⟩
    have HF := hid0 (And.intro hf hE)
    have HC : Hid (∀ V : World, Below w.heap.size w V → JoS V J sy lo vO vF vE vL vM (.slice (some ⟨GZ, 0, none⟩) N cZ) (.slice (some ⟨GP, 0, none⟩) N cP) (.slice (some ⟨GC, 0, none⟩) N cC) vS vA j.own j.FO.flatten (endsN j.FO) N j.la j.op j.cl j.at0 j.alw ∧ RwW V vL vM (LTs j.LE N) ∧ TabAt 11 Lib.deBruijn64tab V) := hid0 (fun V hV => ⟨hj.past hV, hrL.past hV, tab_past htab hV⟩)
    have d7c : wc.cell? ⟨J, 7, none⟩ = some (.slice (some ⟨GP, 0, none⟩) N cP) := (HC.out wc H0.out.bel).1.b.c.2.2.2.2.2.2.2.1
    have HPt : Hid (Calls Tryd.prog 48 #[.pointer (some ⟨B, 0, none⟩), .slice (some ⟨GP, 0, none⟩) N cP] wc fun e w' => (∃ v, e = .returned v) ∧ Hid (PtI wc GT sy sy w.heap.size (List.replicate sy (.slice none 0 0, [])) f w')) := hid0 (by
      have hp0 : PtI wc GT sy sy w.heap.size (List.replicate sy (.slice none 0 0, [])) (fun _ => []) wc := ⟨⟨_, by simp, H0.out.tx, fun c hc => by simp, fun x hx g hg => by rw [List.eq_of_mem_replicate hx] at hg; cases hg⟩, Only.refl _ _⟩
      have hfe : ∀ c, ([] : List UInt8) ++ encW (andB j.op (ltF j.LE c)) N = f c := fun c => by rw [hf]; rfl
      by_cases hN0 : N = 0
      · subst hN0
        exact (part_none B GT sy cP sy w.heap.size (some ⟨GP, 0, none⟩) (ltF j.LE) j.op (fun _ => []) _ wc hp0).mono (fun _ _ ⟨q1, q2⟩ => ⟨q1, hid0 (q2.congr (fun c _ => hfe c))⟩)
      · refine (part_any B J GT sy GP cP N sy w.heap.size lo vL vM (LTs j.LE N) (ltF j.LE) j.op (fun _ => []) _ wc hN (by omega) H0.out.bel.size (rowL_ok j.LE sy N hok.le' (by rw [hok.le]; exact hol)) hlt (by omega) (fun c _ => by simp) (fun V hV => ?_) hp0).mono (fun _ _ ⟨q1, q2⟩ => ⟨q1, hid0 (q2.congr (fun c _ => hfe c))⟩)
        have hS : ∀ i, PtS GT (List.replicate sy (Value.slice none 0 0, [])) i → i = GT := fun i hi => by
          rcases hi with hi | ⟨x, hx, e⟩
          · exact hi
          · rw [List.eq_of_mem_replicate hx] at e; cases e
        have hO := hV.mono hS
        obtain ⟨cs, hcs⟩ := own_typ H0.out.tx.outer (show Value.ownBlock _ = some GT from rfl)
        have hgl := (World.ownsRow.lt H0.out.tx.outer GT rfl).1
        have hb1 : Below w.heap.size w V := hO.afterBelow H0.out.bel H0.out.bel.size (fun i hi => by rw [hi]; exact hgl)
        have hne : B ≠ GT := fun q => by
          have h4 := H0.out.bb.r
          rw [q, hcs] at h4
          injection h4 with h4
          injection h4 with _ h5
          exact absurd h5 (by decide)
        have hbV := H0.out.bb.kept (hO.block B H0.out.bb.lt hne)
        obtain ⟨g1, g2, _⟩ := HC.out V hb1
        exact ⟨hbV.c.1, hbV.c.2.2.2.1, g1.b.c.2.2.2.2.1, g1.b.c.2.2.2.2.2.1, g2, g1.p⟩)
    have HOk := hid0 hok
    clear hJ hj hrF hrL hok htab hf hE d0 d7 hlt
    go_upto_region 4 with (go_at_call 48; go_loud ((refine HPt.out.mono ?_; rintro e w1 ⟨⟨v1, rfl⟩, HP1⟩)))
    clear d7c HPt
    have HN0 : Hid (∃ ps, NbI w B J sy N most GT sy NB w1.heap.size f E [] [] f ps (w1.alloc (.map #[] 0))) := hid0 (H0.out.parted HP1.out)
    obtain ⟨KB, hKB⟩ : ∃ KB, KB = w1.heap.size := ⟨_, rfl⟩
    rw [← hKB] at HN0 ⊢
    obtain ⟨w2, hw2⟩ : ∃ w2, w2 = w1.alloc (.map #[] 0) := ⟨_, rfl⟩
    rw [← hw2] at HN0 ⊢
    have d3 : w2.cell? ⟨B, 3, none⟩ = some (.slice (some ⟨GT, 0, none⟩) sy sy) := by
      obtain ⟨_, hq⟩ := HN0.out
      obtain ⟨vOp, vRe, h1, _⟩ := hq.bb
      exact h1.c.2.2.2.1
    clear hw2 hKB HP1 H0 hmm
    go_wp2
    go_loopw [40] (fun q wr => ∃ k : Nat, k ≤ sy ∧ q = .int .i64 (k : Int) ∧ Hid (∃ ps, NbI w B J sy N most GT sy NB KB f E (csF f k) (csF f k) (txN f k) ps wr)) (fun q _ => sy - (intOf q).toNat)
    case atStart => exact ⟨0, Nat.zero_le _, rfl, hid0 (by rw [txN_zero]; exact HN0.out)⟩
    case round =>
      clear d3 HN0
      obtain ⟨k, hk, rfl, HK⟩ := hrel
      obtain ⟨V, hV⟩ : ∃ V, V = wr := ⟨_, rfl⟩
      subst hV
      by_cases hkl : k < sy
      · obtain ⟨o0, ho, hy⟩ := Option.map_eq_some_iff.1 infoOpen
        simp only [Prod.mk.injEq] at hy
        obtain ⟨hy0, hy1, hy2⟩ := hy
        obtain ⟨ps, hK⟩ := HK.out
        obtain ⟨a, c, hva, y0, y1, hac, y2, y3, _⟩ := hK.text hkl
        rw [txN_at] at y0 y1 hva
        obtain ⟨tB, htB⟩ : ∃ tB : ByteArray, tB = ⟨(f k).toArray⟩ := ⟨_, rfl⟩
        have hcv := toStr y1
        rw [← htB] at hcv
        obtain ⟨n0, hn0⟩ : ∃ n0, n0 = (f k).length := ⟨_, rfl⟩
        rw [← hn0] at y0 y1 hva hcv
        have hfl : (f k).length ≤ 12000000 := by rw [HF.out.1]; have := encW_len (andB j.op (ltF j.LE k)) N; unfold opF; omega
        have hcl := csF_len f k
        obtain ⟨num, hnum⟩ : ∃ num, num = ixF f (k + 1) k := ⟨_, rfl⟩
        have hnl : num ≤ 16384 := by rw [hnum]; have := ixF_lt f (show k < k + 1 by omega); have := csF_len f (k + 1); omega
        have HTl : Hid (∀ V2 : World, NbI w B J sy N most GT sy NB KB f E (csF f (k + 1)) (csF f (k + 1)) (txN f k) ps V2 → V2.cell? ⟨B, 3, none⟩ = some (.slice (some ⟨GT, 0, none⟩) sy sy) ∧ (Calls Tryd.prog 50 #[.slice a 0 c, .int .u64 (num : Int), .int .i64 4] V2.drew fun e w' => ∃ v', e = .returned v' ∧ Hid (∃ n4 a4 c4, v' = .slice a4 n4 c4) ∧ Hid (w'.cell? ⟨B, 3, none⟩ = some (.slice (some ⟨GT, 0, none⟩) sy sy) ∧ (∃ u, w'.cell? ⟨GT, k, none⟩ = some u) ∧ w'.frozen? ⟨GT, k, none⟩ = false) ∧ Hid (∃ ps', NbI w B J sy N most GT sy NB KB f E (csF f (k + 1)) (csF f (k + 1)) (txN f (k + 1)) ps' (w'.setCell ⟨GT, k, none⟩ v')))) := hid0 (fun V2 h2 => by
          obtain ⟨a', c', e', _, _, _, q2, q3, q4⟩ := h2.drew.text hkl
          rw [txN_at, ← hn0, hva] at e'
          injection e' with e'
          simp only [Value.slice.injEq, true_and] at e'
          obtain ⟨rfl, rfl⟩ := e'
          refine ⟨q3, (addBytes_any w.heap.size num 4 (.slice a 0 c) [] V2.drew q2 (by simp) (by omega) (by omega) h2.drew.bel.size).mono (fun e w' ⟨v', g1, g2⟩ => ⟨v', g1, hid0 ?_, hid0 (q4 w' v' _ g2).1, hid0 ?_⟩)⟩
          · obtain ⟨a4, c4, e4⟩ := own_sl g2.own
            exact ⟨_, a4, c4, e4⟩
          · obtain ⟨ps', q5⟩ := (q4 w' v' _ g2).2
            rw [List.nil_append, hnum, txN_succ] at q5
            exact ⟨ps', q5⟩)
        have hkI : (k : Int) < (sy : Int) := by omega
        have hkI0 : (0 : Int) ≤ (k : Int) := by omega
        have hwn : IntKind.u64.wrap (num : Int) = (num : Int) := by rw [IntKind.wrap_u64]; omega
        have hc0 : (0 : Int) ≤ (c : Int) := by omega
        have HK2 := hid0 hK
        have HNm := hid0 hnum
        have HN0' := hid0 hn0
        have hn0b : n0 ≤ 12000000 := by omega
        clear hn0 hfl
        have HTB := hid0 htB
        by_cases hmem : f k ∈ (csF f k).map f
        · obtain ⟨e1, e2⟩ := ixF_old f hmem
          have hi := List.idxOf_lt_length_of_mem hmem
          have hlk := hK.kb.look hi (by rw [List.getElem_idxOf]; have := HN0'.out; omega)
          rw [List.getElem_idxOf] at hlk
          unfold strB at hlk
          rw [← htB, Nat.add_zero, ← e2, ← hnum] at hlk
          have HV2 : Hid (NbI w B J sy N most GT sy NB KB f E (csF f (k + 1)) (csF f (k + 1)) (txN f k) ps V) := hid0 (by rw [e1]; exact hK)
          have HCa := hid0 (HTl.out V HV2.out)
          have d3 := HCa.out.1
          clear hK HK HK2 e1 e2 hi hmem htB hnum y1 y2 y3 hva
          go_upto_region 13 with (fail)
          clear hlk hcv y0
          go_region_with (go_at_call 50; refine HCa.out.2.mono ?_; rintro e w5 ⟨v5, rfl, H51, H52, H53⟩; obtain ⟨n4, a4, c4, rfl⟩ := H51.out; have r1 := H52.out.1; obtain ⟨u5, r2⟩ := H52.out.2.1; have r3 := H52.out.2.2)
          all_goals
            clear r1 r2 r3 d3
            go_wp2
            go_roundw
            case rel => first | exact ⟨k + 1, by omega, by go_num, H53⟩ | ((repeat apply Exists.intro); exact ⟨⟨k + 1, by omega, by go_num, H53⟩, rfl⟩)
            case measure => simp [intOf]; omega
        · obtain ⟨e1, e2⟩ := ixF_new f hmem
          have hlk := hK.kb.lookNot hmem (by have := HN0'.out; omega)
          unfold strB at hlk
          rw [← htB] at hlk
          obtain ⟨w3, hup, hm3, hg3⟩ := hK.kb.put hmem (by have := HN0'.out; omega) (by rw [List.length_map]; omega)
          unfold strB at hup
          rw [← htB, Nat.add_zero, List.length_map, ← e2, ← hnum] at hup
          obtain ⟨aP, nP, cP', VS0, hnP, dP, _, _⟩ := hK.open'
          obtain rfl : nP = num := by rw [hnP, hnum, e2]
          have h3 := hK.know (c := k) (by rw [List.map_append]; exact hm3) hg3
          obtain ⟨aQ, nQ, cQ, VS, hnQ, dQ, hown, hnx⟩ := h3.open'
          obtain rfl : nQ = nP := by rw [hnQ, hnP]
          have HEn : Hid (Calls Tryd.prog 49 #[.pointer (some ⟨J, 0, none⟩), .string tB] w3.drew fun e w' => ∃ aE cE, e = .returned (.slice aE (E k).length cE) ∧ Hid (OwnI w' w.heap.size (.slice aE (E k).length cE) (nI (E k)) ∧ Below w3.heap.size w3 w')) := hid0 (by
            obtain ⟨g1, _, g3⟩ := HC.out w3.drew h3.bel.drew
            obtain ⟨aO', cO', eO⟩ := own_sl g1.o
            rw [nI_len] at eO
            have hia := g1.o
            rw [eO] at hia
            obtain ⟨_, _, eI, hI⟩ := hia.ia
            simp only [Value.slice.injEq] at eI
            rw [← eI.1] at hI
            have hb := g1.b
            rw [eO] at hb
            have h := endAt_any J N sy lo (andB j.op (ltF j.LE k)) j.la j.own aO' cO' vF vE vL vM _ _ _ vS vA w3.drew hN hb hI g1.z HOk.out.la' (by omega) g3
            rw [htB, HF.out.1, HF.out.2]
            refine h.mono (fun e w' ⟨v, q1, q2, q3⟩ => ?_)
            obtain ⟨aE, cE, e4⟩ := own_sl q2
            rw [nI_len] at e4
            subst e4
            exact ⟨aE, cE, q1, hid0 ⟨q2.lower h3.bel.size, ⟨q3.os, q3.tape, q3.output, q3.size, q3.block⟩⟩⟩)
          obtain ⟨nE, hnE⟩ : ∃ nE, nE = (E k).length := ⟨_, rfl⟩
          rw [← hnE] at HEn
          have HNx : Hid (∀ (W1 : World) (aE : Option Addr) (cE : Nat), Below w3.heap.size w3 W1 → OwnI W1 w.heap.size (.slice aE nE cE) (nI (E k)) → ∀ (v1 : Value) (w1 : World), w1.ownsRow w.heap.size 103 2 v1 (nQ + 1) (VS ++ [.string tB, .slice aE nE cE]) → Only W1 w1 (fun k => (Value.slice aQ nQ cQ).ownBlock = some k) → (w1.cell? ⟨B, 1, none⟩ = some (.slice aQ nQ cQ) ∧ w1.frozen? ⟨B, 1, none⟩ = false) ∧ NbI w B J sy N most GT sy NB KB f E (csF f (k + 1)) (csF f (k + 1)) (txN f k) ps (w1.setCell ⟨B, 1, none⟩ v1)) := hid0 (fun W1 aE cE q1 q2 v1 w1 q3 q4 => by
            rw [hnE] at q2 q3
            rw [htB] at q3
            rw [e1]
            exact hnx W1 k aE cE q1 q2 v1 w1 q3 q4)
          have HOw := hid0 hown
          have HB3 := hid0 h3.bel.size
          have hnb : nQ ≤ 16384 := by rw [hnQ]; omega
          clear hnE hnx hown hK HK HK2 e1 e2 hmem htB hnum y1 y2 y3 hva h3 hm3 hg3 hnP hnQ
          go_upto_region 12 with (fail)
          clear dP hlk hcv hup y0
          have dQd : w3.drew.cell? ⟨B, 1, none⟩ = some (.slice aQ nQ cQ) := dQ
          go_region_law (first
            | (refine step_append_own_at (by rfl) _ _ 94 (by rfl) w.heap.size 103 o0 _ 2 40 Tryd.underlying94 ho hy0 hy1 hy2 rfl (by decide) (.slice aQ nQ cQ) nQ VS (by rfl) HOB.out ⟨w4.heap.size, 0, none⟩ 1 1 [.string tB, .slice aE nE cE] (by rfl) (by rfl) HNw.out (by simp [Value.oneCell']) (by unfold maxLen; omega) (by omega) HLw.out ?_; intro v' w5 h1 h2 h3; obtain ⟨a5, c5, rfl⟩ := own_sl h1; have R := hid0 (HNy.out _ _ h1 (Only.ofGrown ⟨h2.os, h2.tape, h2.output, h2.size, h2.block⟩)); clear h1 h2 h3; have t3 := R.out.1.1; have t4 := R.out.1.2)
            | (go_simp; refine HEn.out.mono ?_; rintro e w4 ⟨aE, cE, rfl, HE4⟩; obtain ⟨vB, hvB⟩ : ∃ vB, vB = w4.alloc (.cells #[.string tB, .slice aE nE cE] 103) := ⟨_, rfl⟩; have hb4 : Below w3.heap.size w3 vB := Below.later HE4.out.2 (by rw [hvB]; exact (Below.refl _ _).alloc (Nat.le_refl _) _); have t1 : w4.cell? ⟨B, 1, none⟩ = some (.slice aQ nQ cQ) := (HE4.out.2.cell (p := ⟨B, 1, none⟩) (World.block_lt_of_cell? w3 _ dQ)).trans dQ; have t2 : vB.cell? ⟨B, 1, none⟩ = some (.slice aQ nQ cQ) := (hb4.cell (p := ⟨B, 1, none⟩) (World.block_lt_of_cell? w3 _ dQ)).trans dQ; have HOB : Hid (vB.ownsRow w.heap.size 103 2 (.slice aQ nQ cQ) nQ VS) := hid0 (own_blk HOw.out (fun k hk => hb4.block k (World.ownsRow.lt HOw.out k hk).2)); have HNw : Hid (∀ j u, [Value.string tB, .slice aE nE cE][j]? = some u → vB.cell? ((⟨w4.heap.size, 0, none⟩ : Addr).add j) = some u) := hid0 (by rw [hvB]; exact cell_two_any _ _ _ _); have HLw : Hid (w.heap.size ≤ vB.heap.size) := hid0 (Nat.le_trans HB3.out hb4.size); have HNy := hid0 (HNx.out vB aE cE hb4 (own_blk HE4.out.1 (fun k hk => by rw [hvB]; exact Below.heap_alloc _ _ _ (World.ownsRow.lt HE4.out.1 k hk).2))); have gB := hvB.symm; clear hvB hb4; go_wp2_with fail))
          all_goals
            have HR := hid0 R.out.2
            clear R t1 t2 t3 t4 dQ dQd HNy HOB HNw HLw gB HE4
            generalize w5.setCell ⟨B, 1, none⟩ (.slice a5 (nQ + 1) c5) = w6 at *
            have HCa := hid0 (HTl.out w6 HR.out)
            have d3 := HCa.out.1
            go_upto_region 13 with (fail)
            go_region_with (go_at_call 50; refine HCa.out.2.mono ?_; rintro e w7 ⟨v7, rfl, H51, H52, H53⟩; obtain ⟨n7, a7, c7, rfl⟩ := H51.out; have r1 := H52.out.1; obtain ⟨u5, r2⟩ := H52.out.2.1; have r3 := H52.out.2.2)
            all_goals
              clear r1 r2 r3 d3
              go_wp2
              go_roundw
              case rel => first | exact ⟨k + 1, by omega, by go_num, H53⟩ | ((repeat apply Exists.intro); exact ⟨⟨k + 1, by omega, by go_num, H53⟩, rfl⟩)
              case measure => simp [intOf]; omega
      · obtain rfl : k = sy := by omega
        have HK1 : Hid (∃ ps, NbI w B J k N most GT k NB KB (opF j N) (opE j N) (csF (opF j N) k) (csF (opF j N) k) (txN (opF j N) k) ps V) := hid0 (by have h := HK.out; rw [HF.out.1, HF.out.2] at h; exact h)
        clear HK
        go_wp2
        go_ret
        exact ⟨B, rfl, GT, NB, KB, HK1.out⟩
end Go.Proofs.YtbbejfkgopcjoaaDoor
