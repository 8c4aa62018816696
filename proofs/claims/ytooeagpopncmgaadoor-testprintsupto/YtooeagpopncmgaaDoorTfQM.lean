/-
  Cases that are lent: those that are made (stage 23).
-/
import Derived.Test.YtooeagpopncmgaaDoorTfPM
namespace Go.Proofs.YtooeagpopncmgaaDoor
open Go.RowKit Go.Shelf
theorem infoCase : (Tryd.prog.info? 36).map (fun i => (i.zero, i.size, i.bytes)) = some (some (.agg #[.slice none 0 0, .slice none 0 0]), 2, 48) := by kernel_rfl
set_option maxRecDepth 10000 in
theorem run_app_case {W : World} (lo : Nat) (v : Value) (k : Nat) (VS : List Value) (hown : W.ownsRow lo 36 2 v k VS) (g : Nat) (x0 x1 : Value) (h0 : W.cell? ⟨g, 0, none⟩ = some x0) (h1 : W.cell? ⟨g, 1, none⟩ = some x1) (o0 : x0.oneCell' = true) (o1 : x1.oneCell' = true) (hk : k ≤ 2000000000000) (hlo : lo ≤ W.heap.size) :
    ∃ v' w', (Builtin.append_ #[22, 22] 22 #[v, .slice (some ⟨g, 0, none⟩) 1 1]).run Tryd.prog W = .ok v' w' ∧ w'.ownsRow lo 36 2 v' (k + 1) (VS ++ [x0, x1]) ∧ W.grownBy w' v.ownBlock ∧ (v'.ownBlock = v.ownBlock ∨ v'.ownBlock = some W.heap.size) := by
  obtain ⟨i0, hi, hz0, hz1, hz2⟩ := info_parts infoCase
  obtain ⟨v', w', q1, q2, q3, _, q5⟩ := run_append_own_at (P := Tryd.prog) (w := W) lo 22 22 36 i0 _ 2 48 Tryd.underlying22 hi hz0 hz1 hz2 rfl (by decide) v k VS hown ⟨g, 0, none⟩ 1 1 [x0, x1] rfl (fun j u hu => by
    match j, hu with
    | 0, hu =>
      have e : x0 = u := Option.some.inj hu
      rw [← e, Addr.add_mid]
      exact h0
    | 1, hu =>
      have e : x1 = u := Option.some.inj hu
      rw [← e, Addr.add_mid]
      exact h1
    | j + 2, hu => simp at hu) (fun u hu => by
    simp only [List.mem_cons, List.not_mem_nil, or_false] at hu
    rcases hu with rfl | rfl
    · exact o0
    · exact o1) (by unfold maxLen; omega) (by omega) hlo
  exact ⟨v', w', q1, q2, q3, q5⟩
theorem OwnI.kc {T : List TypeId} {W W' : World} {lo : Nat} {v : Value} {L : List Int} (h : OwnI W lo v L) (hk : Kc T W W') (ht : 3 ∉ T) : OwnI W' lo v L := own_blk h (fun k e => by
  rcases h.2 with ⟨e1, _⟩ | ⟨g, cap, cur, e1, _, hr, _⟩
  · rw [e1] at e; cases e
  · rw [e1] at e
    injection e with e
    subst e
    rw [hr]
    exact hk.keep _ _ _ _ hr ht)
/-- Marks. -/
abbrev mks (z : Int) (j : Nat) : List Int := List.replicate j z
/-- A case that is made, among values. -/
def CvV (W : World) (lo : Nat) (u : Nat → Option Value) (x : Cs) : Prop := ∃ gP gB cP cB : Nat, u 0 = some (.slice (some ⟨gP, 0, none⟩) x.1.length cP) ∧ u 1 = some (.slice (some ⟨gB, 0, none⟩) x.2.length cB) ∧ OwnI W lo (.slice (some ⟨gP, 0, none⟩) (x.1.length + 64) cP) (x.1 ++ mks (-66) 64) ∧ OwnI W lo (.slice (some ⟨gB, 0, none⟩) (x.2.length + 64) cB) (x.2 ++ mks (-67) 64)
theorem CvV.kc {W W' : World} {lo : Nat} {u : Nat → Option Value} {x : Cs} (h : CvV W lo u x) (hk : Kc [36] W W') : CvV W' lo u x := by
  obtain ⟨gP, gB, cP, cB, y0, y1, y2, y3⟩ := h
  exact ⟨gP, gB, cP, cB, y0, y1, y2.kc hk (by decide), y3.kc hk (by decide)⟩
theorem CvV.same {W : World} {lo : Nat} {u u' : Nat → Option Value} {x : Cs} (h : CvV W lo u x) (e0 : u' 0 = u 0) (e1 : u' 1 = u 1) : CvV W lo u' x := by
  obtain ⟨gP, gB, cP, cB, y0, y1, y2, y3⟩ := h
  exact ⟨gP, gB, cP, cB, e0.trans y0, e1.trans y1, y2, y3⟩
theorem CvV.lower {W : World} {lo lo' : Nat} {u : Nat → Option Value} {x : Cs} (h : CvV W lo u x) (hl : lo' ≤ lo) : CvV W lo' u x := by
  obtain ⟨gP, gB, cP, cB, y0, y1, y2, y3⟩ := h
  exact ⟨gP, gB, cP, cB, y0, y1, owns_lower y2 hl, owns_lower y3 hl⟩
/-- Cases while they are lent. -/
structure CJ (W : World) (lo : Nat) (v : Value) (VS : List Value) (C : List Cs) (k : Nat) : Prop where
  own : W.ownsRow lo 36 2 v k VS
  le : k ≤ C.length
  at' : ∀ i (h : i < k), CvV W lo (fun j => VS[i * 2 + j]?) (C[i]'(by omega))
theorem CJ.nil (W : World) (lo : Nat) (C : List Cs) : CJ W lo (.slice none 0 0) [] C 0 := ⟨World.ownsRow_nil _ _ _ _, Nat.zero_le _, fun _ h => absurd h (Nat.not_lt_zero _)⟩
theorem CJ.past {W W' : World} {lo : Nat} {v : Value} {VS : List Value} {C : List Cs} {k : Nat} (h : CJ W lo v VS C k) (hb : Below W.heap.size W W') : CJ W' lo v VS C k := ⟨own_blk h.own (fun k hk => hb.block k (World.ownsRow.lt h.own k hk).2), h.le, fun i hi => (h.at' i hi).kc (Kc.below hb)⟩
/-- What an append of a case leaves. -/
theorem grown_case {W V W2 : World} {lo k : Nat} {v : Value} {VS : List Value} (h : W.ownsRow lo 36 2 v k VS) (hV : Below W.heap.size W V) (hg : V.grownBy W2 v.ownBlock) : Kc [36] W W2 := ⟨Nat.le_trans hV.size hg.size, fun i c t z hi ht => by
  have hl := (Array.getElem?_eq_some_iff.1 hi).1
  have hs := hV.size
  refine (hg.block i (by omega) (fun e => ?_)).trans ((hV.block i hl).trans hi)
  exact own_neC h hi (fun e2 => ht (by rw [e2]; exact List.mem_singleton.2 rfl)) e.symm⟩
theorem CJ.snoc {W V W2 : World} {lo : Nat} {v v' : Value} {VS : List Value} {C : List Cs} {k : Nat} {x0 x1 : Value} (h : CJ W lo v VS C k) (hk : k < C.length) (hV : Below W.heap.size W V) (hown : W2.ownsRow lo 36 2 v' (k + 1) (VS ++ [x0, x1])) (hg : V.grownBy W2 v.ownBlock) (hp : CvV W lo (fun j => [x0, x1][j]?) C[k]) : CJ W2 lo v' (VS ++ [x0, x1]) C (k + 1) := by
  have hK := grown_case h.own hV hg
  have hl : VS.length = k * 2 := h.own.1
  refine ⟨hown, hk, fun i hi => ?_⟩
  by_cases e : i = k
  · subst e
    refine (hp.kc hK).same ?_ ?_
    · show (VS ++ [x0, x1])[i * 2 + 0]? = _
      rw [List.getElem?_append_right (by omega), hl]
      simp
    · show (VS ++ [x0, x1])[i * 2 + 1]? = _
      rw [List.getElem?_append_right (by omega), hl]
      simp
  · refine ((h.at' i (by omega)).kc hK).same ?_ ?_
    · show (VS ++ [x0, x1])[i * 2 + 0]? = _
      rw [List.getElem?_append_left (by omega)]
    · show (VS ++ [x0, x1])[i * 2 + 1]? = _
      rw [List.getElem?_append_left (by omega)]
/-- Behind them, cases that are marks. -/
structure CM (W : World) (lo : Nat) (v : Value) (VS MS : List Value) (C : List Cs) (j : Nat) : Prop where
  own : W.ownsRow lo 36 2 v (C.length + j) (VS ++ MS)
  len : VS.length = C.length * 2
  at' : ∀ i (h : i < C.length), CvV W lo (fun j => VS[i * 2 + j]?) C[i]
  mrk : ∀ i, i < j → ∃ g, MS[i * 2]? = some (.slice (some ⟨g, 0, none⟩) 1 1) ∧ W.heap[g]? = some (.cells #[.int .i64 (-68)] 3 (0, 0))
theorem CM.start {W : World} {lo : Nat} {v : Value} {VS : List Value} {C : List Cs} (h : CJ W lo v VS C C.length) : CM W lo v VS [] C 0 := ⟨by rw [List.append_nil]; exact h.own, h.own.1, h.at', fun _ h => absurd h (Nat.not_lt_zero _)⟩
theorem CM.snoc {W V W2 : World} {lo g : Nat} {v v' : Value} {VS MS : List Value} {C : List Cs} {j : Nat} {x1 : Value} (h : CM W lo v VS MS C j) (hV : Below W.heap.size W V) (hgr : V.heap[g]? = some (.cells #[.int .i64 (-68)] 3 (0, 0))) (hgo : ∀ b, v.ownBlock = some b → b ≠ g) (hown : W2.ownsRow lo 36 2 v' (C.length + j + 1) (VS ++ MS ++ [.slice (some ⟨g, 0, none⟩) 1 1, x1])) (hg : V.grownBy W2 v.ownBlock) : CM W2 lo v' VS (MS ++ [.slice (some ⟨g, 0, none⟩) 1 1, x1]) C (j + 1) := by
  have hK := grown_case h.own hV hg
  have hl : (VS ++ MS).length = (C.length + j) * 2 := h.own.1
  have hml : MS.length = j * 2 := by have := h.len; rw [List.length_append] at hl; omega
  refine ⟨by rw [List.append_assoc] at hown; exact hown, h.len, fun i hi => (h.at' i hi).kc hK, fun i hi => ?_⟩
  by_cases e : i = j
  · subst e
    refine ⟨g, by rw [List.getElem?_append_right (by omega), hml, Nat.sub_self]; rfl, ?_⟩
    exact (hg.block g (Array.getElem?_eq_some_iff.1 hgr).1 (fun e => hgo g e.symm rfl)).trans hgr
  · obtain ⟨g', q1, q2⟩ := h.mrk i (by omega)
    exact ⟨g', by rw [List.getElem?_append_left (by omega)]; exact q1, hK.keep _ _ _ _ q2 (by decide)⟩
/-- The cases that own made. -/
structure CK (W : World) (lo G c : Nat) (C : List Cs) : Prop where
  at' : ∀ i (h : i < C.length), CvV W lo (fun j => W.cell? ⟨G, i * 2 + j, none⟩) C[i]
  lt : G < W.heap.size
  row : ∃ cs, W.heap[G]? = some (.cells cs 36 (0, 0))
  mrk : ∀ i, i < 64 → ∃ g, W.cell? ⟨G, (C.length + i) * 2, none⟩ = some (.slice (some ⟨g, 0, none⟩) 1 1) ∧ W.heap[g]? = some (.cells #[.int .i64 (-68)] 3 (0, 0))
  cap : C.length + 64 ≤ c
theorem CM.done {W : World} {lo : Nat} {v : Value} {VS MS : List Value} {C : List Cs} (h : CM W lo v VS MS C 64) : ∃ G c, v = .slice (some ⟨G, 0, none⟩) (C.length + 64) c ∧ CK W lo G c C ∧ lo ≤ G := by
  obtain ⟨G, c, e, hlo, hlt, hc⟩ := own_form h.own (by omega)
  have hrow : ∃ cs, W.heap[G]? = some (.cells cs 36 (0, 0)) := by
    rcases h.own.2 with ⟨e1, _⟩ | ⟨g, cap, cur, e1, _, hr, _⟩
    · rw [e] at e1; cases e1
    · rw [e] at e1
      injection e1 with e1
      injection e1 with e1
      injection e1 with e1
      subst e1
      exact ⟨cur, hr⟩
  have hl : (VS ++ MS).length = (C.length + 64) * 2 := h.own.1
  have hml : MS.length = 128 := by have := h.len; rw [List.length_append] at hl; omega
  have ho := h.own
  rw [e] at ho
  have hcell : ∀ q, q < (C.length + 64) * 2 → W.cell? ⟨G, q, none⟩ = (VS ++ MS)[q]? := fun q hq => World.ownsRow.cellAt ho q hq
  refine ⟨G, c, e, ⟨fun i hi => (h.at' i hi).same ?_ ?_, hlt, hrow, fun i hi => ?_, hc⟩, hlo⟩
  · show W.cell? ⟨G, i * 2 + 0, none⟩ = VS[i * 2 + 0]?
    rw [hcell _ (by omega), List.getElem?_append_left (by have := h.len; omega)]
  · show W.cell? ⟨G, i * 2 + 1, none⟩ = VS[i * 2 + 1]?
    rw [hcell _ (by omega), List.getElem?_append_left (by have := h.len; omega)]
  · obtain ⟨g, q1, q2⟩ := h.mrk i hi
    refine ⟨g, ?_, q2⟩
    have hv := h.len
    rw [hcell _ (by omega), List.getElem?_append_right (by omega), ← q1]
    congr 1
    omega
theorem CK.past {W W' : World} {lo G c : Nat} {C : List Cs} (h : CK W lo G c C) (hb : Below W.heap.size W W') : CK W' lo G c C := ⟨fun i hi => ((h.at' i hi).kc (Kc.below hb)).same (hb.cell (p := ⟨G, i * 2 + 0, none⟩) h.lt) (hb.cell (p := ⟨G, i * 2 + 1, none⟩) h.lt), Nat.lt_of_lt_of_le h.lt hb.size, h.row.imp fun _ hr => (hb.block _ h.lt).trans hr, fun i hi => by
  obtain ⟨g, q1, q2⟩ := h.mrk i hi
  exact ⟨g, (hb.cell (p := ⟨G, (C.length + i) * 2, none⟩) h.lt).trans q1, (hb.block _ (Array.getElem?_eq_some_iff.1 q2).1).trans q2⟩, h.cap⟩
theorem OwnI.front {W : World} {lo g c m : Nat} {L M : List Int} (h : OwnI W lo (.slice (some ⟨g, 0, none⟩) m c) (L ++ M)) : IA W (some ⟨g, 0, none⟩) L := ⟨fun k hk => ⟨g, 0, rfl, (World.ownsRow.lt h g rfl).2, by
  have hq : k < (L ++ M).length := by rw [List.length_append]; omega
  have hn : m = (L ++ M).length := by
    rcases h.2 with ⟨e1, _⟩ | ⟨g', cap, cur, e1, _⟩
    · cases e1
    · injection e1
  rw [hn] at h
  have := World.ownsRow.cellAt h k (by omega)
  rw [Nat.zero_add, this]
  have e2 : ((L ++ M).map (Value.int .i64))[k]? = some (.int .i64 L[k]) := by rw [List.map_append, List.getElem?_append_left (by simpa using hk)]; simp [hk]
  exact e2⟩⟩
theorem CK.csa {W : World} {lo G c : Nat} {C : List Cs} (h : CK W lo G c C) : CsA W (some ⟨G, 0, none⟩) C := ⟨fun k hk => by
  obtain ⟨gP, gB, cP, cB, y0, y1, y2, y3⟩ := h.at' k hk
  exact ⟨G, 0, _, _, cP, cB, rfl, h.lt, by rw [Nat.zero_add]; exact y0, by rw [Nat.zero_add]; exact y1, y2.front, y3.front⟩⟩
end Go.Proofs.YtooeagpopncmgaaDoor
