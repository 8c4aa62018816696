/-
  append onto a row of one's own: the old slice reads as it did; piles joined, written, grown.
-/
import Derived.Test.YtnkllhihdjjmnaaDoorHandW
import Derived.Test.YtnkllhihdjjmnaaDoorAnswersW
import Derived.Deep.DeepAppendRoom
import Derived.Deep.AppendLies
namespace Go.Proofs.YtnkllhihdjjmnaaDoor
open Go.RowKit
section
variable {P : Program} (w : World)
theorem run_append_own_front (base : Nat) (t ty e : TypeId) (i : TypeInfo) (z : Value) (size bytes : Nat) (ht : P.underlying t = some (.slice e)) (hi : P.info? e = some i) (hz : i.zero = some z)
    (hsize : i.size = size) (hby : i.bytes = bytes) (hzs : z.cells.size = size) (hsz : 0 < size)
    (v : Value) (n : Nat) (xs : List Value) (hown : w.ownsRow base e size v n xs)
    (a : Addr) (m c : Nat) (news : List Value) (hl : news.length = m * size) (hnews : ∀ j u, news[j]? = some u → w.cell? (a.add j) = some u) (h1 : ∀ u ∈ news, u.oneCell' = true)
    (h63 : n + m ≤ maxLen) (hbytes : (n + m) * bytes ≤ 140737488355328) (hbase : base ≤ w.heap.size) :
    ∃ v' w', (Builtin.append_ #[t, t] ty #[v, .slice (some a) m c]).run P w = .ok v' w' ∧ w'.ownsRow base e size v' (n + m) (xs ++ news) ∧ w.grownBy w' v.ownBlock ∧
      (v'.ownBlock = v.ownBlock ∨ v'.ownBlock = some w.heap.size) ∧ (∀ g j u, v.ownBlock = some g → j < n * size → w.cell? ⟨g, j, none⟩ = some u → w'.cell? ⟨g, j, none⟩ = some u) := by
  obtain ⟨v', w', hr, h2, h3, _, h5⟩ := run_append_own_at (P := P) w base t ty e i z size bytes ht hi hz hsize hby hzs hsz v n xs hown a m c news hl hnews h1 h63 hbytes hbase
  refine ⟨v', w', hr, h2, h3, h5, ?_⟩
  intro g j u hg hj hc
  have hjx : j < xs.length := by rw [hown.1]; exact hj
  have hxu : xs[j]? = some u := by
    have e1 := hown.cells hg j xs[j] (List.getElem?_eq_getElem hjx)
    rw [Addr.add_lit, Nat.zero_add, hc] at e1
    rw [List.getElem?_eq_getElem hjx, ← Option.some.inj e1]
  rcases h5 with h5 | h5
  · have e2 := h2.cells (h5.trans hg) j u (by rw [List.getElem?_append_left hjx]; exact hxu)
    rw [Addr.add_lit, Nat.zero_add] at e2
    exact e2
  · have hglt := (hown.lt g hg).2
    rcases hown.2 with ⟨rfl, _⟩ | ⟨g', cap, cur, rfl, hbg, hgg, hnc, hcm, hcs, htake⟩
    · simp [Value.ownBlock] at hg
    · have hge : g' = g := by simpa [Value.ownBlock] using hg
      subst hge
      by_cases hroom : n + m ≤ cap
      · obtain ⟨w2, hr2, _⟩ := run_append_own_spare (P := P) w base t ty e i size ht hi hsize g' n cap xs hown a m c news hl hnews h1 hroom
        rw [hr] at hr2
        cases hr2
        simp [Value.ownBlock] at h5
        omega
      · subst hsize hby
        have holds : ∀ j u, xs[j]? = some u → w.cell? ((⟨g', 0, none⟩ : Addr).add j) = some u := hown.cells (g := g') rfl
        have hr2 := run_append_grow (P := P) w t ty e i z ht hi hz ⟨g', 0, none⟩ n cap xs hown.1 holds a m c news hl hnews (by omega) (by simp only [maxLen] at h63; omega) (growslice_fits (by omega) hbytes)
        rw [hr] at hr2
        cases hr2
        exact (World.cell?_of_block (w := w) (a := ⟨g', j, none⟩) (heap_alloc_old w.drew _ (r := g') hglt)).trans hc
theorem wpList_append_own_front {ops : Array Oper} {rest : List Oper} {o : Oper} {a : Act} {Q : Exit → Act → World → Prop} (hgd : o.guard = none) (s x : Operand) (t : TypeId)
    (ho : o.op = .call { callee := .builtin .append, args := #[s, x], argTypes := #[t, t] })
    (base : Nat) (e : TypeId) (i : TypeInfo) (z : Value) (size bytes : Nat) (ht : P.underlying t = some (.slice e)) (hi : P.info? e = some i) (hz : i.zero = some z)
    (hsize : i.size = size) (hby : i.bytes = bytes) (hzs : z.cells.size = size) (hsz : 0 < size)
    (v : Value) (n : Nat) (xs : List Value) (hs : a.eval s = v) (hown : w.ownsRow base e size v n xs)
    (ad : Addr) (m c : Nat) (news : List Value) (hx : a.eval x = .slice (some ad) m c) (hl : news.length = m * size) (hnews : ∀ j u, news[j]? = some u → w.cell? (ad.add j) = some u) (h1 : ∀ u ∈ news, u.oneCell' = true)
    (h63 : n + m ≤ maxLen) (hbytes : (n + m) * bytes ≤ 140737488355328) (hbase : base ≤ w.heap.size)
    (h : ∀ v' w', w'.ownsRow base e size v' (n + m) (xs ++ news) → w.grownBy w' v.ownBlock → (v'.ownBlock = v.ownBlock ∨ v'.ownBlock = some w.heap.size) → (∀ g j u, v.ownBlock = some g → j < n * size → w.cell? ⟨g, j, none⟩ = some u → w'.cell? ⟨g, j, none⟩ = some u) → wpList P ops Q rest (a.put o.dst v') w') :
    wpList P ops Q (o :: rest) a w := by
  refine wpList_plain hgd fun K hK => ?_
  obtain ⟨v', w', hr, h2, h3, h4, h5⟩ := run_append_own_front (P := P) w base t o.type e i z size bytes ht hi hz hsize hby hzs hsz v n xs hown ad m c news hl hnews h1 h63 hbytes hbase
  unfold Oper.wp execOp
  simp only [ho, resolve, invoke, builtin, Sem.run_bind, Sem.run_pure, Result.andThen_ok, List.map_toArray, List.map_cons, List.map_nil, hs, hx, hr]
  exact hK _ _ (h v' w' h2 h3 h4 h5)
end
/-- Two piles joined, the second made behind the first. -/
theorem Pile.join {W wr w1 : World} {base : Nat} {v v' u : Value} {ps qs : Lot} {n m : Nat} (hn : n = ps.length) (hm : m = qs.length) (h : Pile W base v ps) (hk : Below W.heap.size W wr) (hq : Pile wr W.heap.size u qs) (hbase : base ≤ W.heap.size)
    (hown' : w1.ownsRow base 22 1 v' (n + m) (ps.map (·.1) ++ qs.map (·.1))) (hgrow : wr.grownBy w1 v.ownBlock) (hat : v'.ownBlock = v.ownBlock ∨ v'.ownBlock = some wr.heap.size) {w : World} (hb : Below base w W) :
    Pile w1 base v' (ps ++ qs) ∧ Below base w w1 := by
  subst hn hm
  have h2 := h.later hk
  have hs := hk.size
  have hva : ∀ x ∈ qs, ∀ g, v.ownBlock = some g → x.1.ownBlock ≠ some g := fun x hx g hg hxg => by
    have e1 := (World.ownsRow.lt h.outer g hg).2
    have e2 := ((hq.row x hx).lt hxg).1
    omega
  have old : ∀ (u : Value) (m : List (Int × Int)) (b : Nat), OwnR wr b u m → (∀ g, v.ownBlock = some g → u.ownBlock ≠ some g) → OwnR w1 b u m := fun u m b hu hne => by
    refine World.ownsRow.kept hu hgrow ?_
    cases e : u.ownBlock with
    | none => exact .inl rfl
    | some g =>
      refine .inr fun hc => ?_
      exact hne g hc.symm e
  refine ⟨⟨?_, ?_, ?_, ?_⟩, ?_⟩
  · rw [List.length_append, List.map_append]
    exact hown'
  · intro y hy
    rcases List.mem_append.1 hy with hy | hy
    · exact old _ _ _ (h2.row y hy) (h.away y hy)
    · exact (old _ _ _ (hq.row y hy) (hva y hy)).base hbase
  · rw [List.pairwise_append]
    refine ⟨h.apart, hq.apart, ?_⟩
    intro y hy z hz g hg hzg
    have e1 := ((h.row y hy).lt hg).2
    have e2 := ((hq.row z hz).lt hzg).1
    omega
  · intro y hy g hg hyg
    rcases hat with hat | hat
    · rw [hat] at hg
      rcases List.mem_append.1 hy with hy | hy
      · exact h.away y hy g hg hyg
      · exact hva y hy g hg hyg
    · rw [hat] at hg
      have hy' : g < wr.heap.size := by
        rcases List.mem_append.1 hy with hy | hy
        · exact ((h2.row y hy).lt hyg).2
        · exact ((hq.row y hy).lt hyg).2
      simp at hg
      omega
  · exact (hb.trans (hk.mono hbase)).grown hgrow (by have := hb.size; omega) (fun k hk' => (World.ownsRow.lt h.outer k hk').1)
/-- The outer slice of a pile that is not empty. -/
theorem Pile.form {w : World} {base : Nat} {v : Value} {ps : Lot} {n : Nat} (h : Pile w base v ps) (hn : ps.length = n + 1) : ∃ g cap, v = .slice (some ⟨g, 0, none⟩) (n + 1) cap ∧ base ≤ g ∧ g < w.heap.size := by
  obtain ⟨g, cap, hv, hb, hl⟩ := h.outer.form (by omega)
  exact ⟨g, cap, by rw [hv, hn], hb, hl⟩
theorem Pile.cell {w : World} {base g n cap : Nat} {ps : Lot} (h : Pile w base (.slice (some ⟨g, 0, none⟩) n cap) ps) (hn : ps.length = n) (j : Nat) (hj : j < ps.length) : w.cell? ⟨g, j, none⟩ = some ps[j].1 := by
  have ho := h.outer
  rw [hn] at ho
  rw [World.ownsRow.cellAt ho j (by omega)]
  simp [hj]
/-- One range of one list written over. -/
theorem Pile.put {w : World} {base : Nat} {v : Value} {ps : Lot} (h : Pile w base v ps) (i : Nat) (hi : i < ps.length) {g n cap : Nat} {l : List (Int × Int)} (hp : ps[i] = (.slice (some ⟨g, 0, none⟩) n cap, l)) (hl : l.length = n) (k : Nat) (hk : k < l.length) (c d : Int) :
    Pile ((w.setCell ⟨g, k * 2, none⟩ (.int .i64 c)).setCell ⟨g, k * 2 + 1, none⟩ (.int .i64 d)) base v (ps.set i (.slice (some ⟨g, 0, none⟩) n cap, l.set k (c, d))) := by
  have hmem : ps[i] ∈ ps := List.getElem_mem hi
  have hri := h.row _ hmem
  have hbl : ps[i].1.ownBlock = some g := by rw [hp]; rfl
  have haw : ∀ g', v.ownBlock = some g' → g' ≠ g := fun g' hg' e => by subst e; exact h.away _ hmem g' hg' hbl
  have hput : OwnR ((w.setCell ⟨g, k * 2, none⟩ (.int .i64 c)).setCell ⟨g, k * 2 + 1, none⟩ (.int .i64 d)) base (.slice (some ⟨g, 0, none⟩) n cap) (l.set k (c, d)) := by
    rw [hp] at hri
    have p0 := OwnR.put0 hri hl k hk c
    have p1 := OwnR.put1 p0 (by rw [List.length_set]; exact hl) k (by rw [List.length_set]; exact hk) d
    simpa using p1
  have keep : ∀ {t : TypeId} {size m : Nat} {u : Value} {xs : List Value}, w.ownsRow base t size u m xs → (∀ g', u.ownBlock = some g' → g' ≠ g) → ((w.setCell ⟨g, k * 2, none⟩ (.int .i64 c)).setCell ⟨g, k * 2 + 1, none⟩ (.int .i64 d)).ownsRow base t size u m xs := by
    intro t size m u xs ho hne
    obtain ⟨o1, o2⟩ := ho
    refine ⟨o1, ?_⟩
    rcases o2 with o2 | ⟨g1, cap1, cur, hv, hg, hh, r⟩
    · exact .inl o2
    · have hn1 : g1 ≠ g := hne g1 (by rw [hv]; rfl)
      refine .inr ⟨g1, cap1, cur, hv, hg, ?_, r⟩
      rw [Below.heap_setCell _ _ _ g1 hn1, Below.heap_setCell _ _ _ g1 hn1]
      exact hh
  have hmap : (ps.set i (.slice (some ⟨g, 0, none⟩) n cap, l.set k (c, d))).map (·.1) = ps.map (·.1) := by
    rw [List.map_set]
    apply List.ext_getElem
    · simp
    · intro j h1 h2
      rw [List.getElem_set]
      split
      · subst_vars; simp [hp]
      · rfl
  have hpr : ∀ {R : Value → Value → Prop} (qs : Lot), qs.Pairwise (fun x y => R x.1 y.1) ↔ (qs.map (·.1)).Pairwise R := by
    intro R qs
    rw [List.pairwise_map]
  refine ⟨?_, ?_, ?_, ?_⟩
  · rw [hmap, List.length_set]
    exact keep h.outer haw
  · intro x hx
    obtain ⟨j, hj, rfl⟩ := List.getElem_of_mem hx
    have hj2 : j < ps.length := by simpa using hj
    rw [List.getElem_set]
    split
    · exact hput
    · rename_i hne
      refine keep (h.row _ (List.getElem_mem hj2)) ?_
      intro g' hg' e
      subst e
      have := List.pairwise_iff_getElem.1 h.apart
      rcases Nat.lt_or_gt_of_ne hne with hlt | hlt
      · exact this i j hi hj2 hlt g' hbl hg'
      · exact this j i hj2 hi hlt g' hg' hbl
  · have := h.apart
    rw [hpr (R := fun x y => ∀ g, x.ownBlock = some g → y.ownBlock ≠ some g)] at this ⊢
    rw [hmap]
    exact this
  · intro x hx g' hg'
    have hx1 : x.1 ∈ ps.map (·.1) := by rw [← hmap]; exact List.mem_map_of_mem hx
    obtain ⟨y, hy, hye⟩ := List.mem_map.1 hx1
    rw [← hye]
    exact h.away y hy g' hg'
end Go.Proofs.YtnkllhihdjjmnaaDoor
