/-
  Cases in memory that a reading makes; what a range over lines keeps of it (stage 23).
-/
import Derived.Test.YtcbepmjojppokaaGreatDoorTgXW
import Derived.Deep.Slices
namespace Go.Proofs.YtcbepmjojppokaaGreatDoor
open Go.RowKit Go.Shelf
theorem infoCase : (Tryz.prog.info? 50).map (fun i => (i.zero, i.size, i.bytes)) = some (some (.agg #[.slice none 0 0, .slice none 0 0]), 2, 48) := by kernel_rfl
set_option maxRecDepth 10000 in
theorem run_app_case {W : World} (lo : Nat) (v : Value) (k : Nat) (VS : List Value) (hown : W.ownsRow lo 50 2 v k VS) (g : Nat) (x0 x1 : Value) (h0 : W.cell? ⟨g, 0, none⟩ = some x0) (h1 : W.cell? ⟨g, 1, none⟩ = some x1) (o0 : x0.oneCell' = true) (o1 : x1.oneCell' = true) (hk : k ≤ 2000000000000) (hlo : lo ≤ W.heap.size) :
    ∃ v' w', (Builtin.append_ #[22, 22] 22 #[v, .slice (some ⟨g, 0, none⟩) 1 1]).run Tryz.prog W = .ok v' w' ∧ w'.ownsRow lo 50 2 v' (k + 1) (VS ++ [x0, x1]) ∧ W.grownBy w' v.ownBlock ∧ (v'.ownBlock = v.ownBlock ∨ v'.ownBlock = some W.heap.size) := by
  obtain ⟨i0, hi, hz0, hz1, hz2⟩ := info_parts infoCase
  obtain ⟨v', w', q1, q2, q3, _, q5⟩ := run_append_own_at (P := Tryz.prog) (w := W) lo 22 22 50 i0 _ 2 48 Tryz.underlying22 hi hz0 hz1 hz2 rfl (by decide) v k VS hown ⟨g, 0, none⟩ 1 1 [x0, x1] rfl (fun j u hu => by
    match j, hu with
    | 0, hu =>
      have e : x0 = u := Option.some.inj hu
      rw [← e, Addr.add_mid]
      exact h0
    | 1, hu =>
      have e : x1 = u := Option.some.inj hu
      rw [← e, Addr.add_mid]
      exact h1
    | j + 2, hu => simp at hu) (fun u hu => by
    simp only [List.mem_cons, List.not_mem_nil, or_false] at hu
    rcases hu with rfl | rfl
    · exact o0
    · exact o1) (by unfold maxLen; omega) (by omega) hlo
  exact ⟨v', w', q1, q2, q3, q5⟩
/-- Cases that were made: each list in a row of its own. -/
structure PC (W : World) (lo : Nat) (v : Value) (VS : List Value) (C : List Cx) : Prop where
  own : W.ownsRow lo 50 2 v C.length VS
  at' : ∀ i (h : i < C.length), ∃ vP vB, VS[i * 2]? = some vP ∧ VS[i * 2 + 1]? = some vB ∧ OwnI W lo vP C[i].1 ∧ OwnI W lo vB C[i].2
  apart : ∀ (i j : Nat) (a b : Value) (g : Nat), i ≠ j → VS[i]? = some a → VS[j]? = some b → a.ownBlock = some g → b.ownBlock ≠ some g
  lt : ∀ (i : Nat) (a : Value) (g : Nat), VS[i]? = some a → a.ownBlock = some g → g < W.heap.size
theorem PC.nil (W : World) (lo : Nat) : PC W lo (.slice none 0 0) [] [] := ⟨World.ownsRow_nil _ _ _ _, fun i h => absurd h (Nat.not_lt_zero _), (fun i j a b g _ h => by simp at h), fun i a g h => by simp at h⟩
theorem PC.agree {W W' : World} {lo : Nat} {v : Value} {VS : List Value} {C : List Cx} (h : PC W lo v VS C) (ha : Agree W W' lo) : PC W' lo v VS C :=
  ⟨own_agree h.own ha, fun i hi => by
    obtain ⟨vP, vB, h1, h2, h3, h4⟩ := h.at' i hi
    exact ⟨vP, vB, h1, h2, own_agree h3 ha, own_agree h4 ha⟩, h.apart, fun i a g h1 h2 => Nat.lt_of_lt_of_le (h.lt i a g h1 h2) ha.size⟩
theorem PC.past {W W' : World} {lo : Nat} {v : Value} {VS : List Value} {C : List Cx} (h : PC W lo v VS C) (hb : Below W.heap.size W W') : PC W' lo v VS C :=
  h.agree ⟨hb.size, fun k _ hk => hb.block k hk⟩
theorem own_one {W : World} {lo : Nat} {v : Value} {L : List Int} (h : OwnI W lo v L) : v.oneCell' = true := by
  rcases h.2 with ⟨rfl, _⟩ | ⟨g, cap, cur, rfl, _⟩ <;> rfl
/-- A case is put behind: its lists lie in blocks that are newer than all. -/
theorem PC.snoc {W0 W V W2 : World} {lo : Nat} {v v' : Value} {VS : List Value} {C : List Cx} {x : Cx} {vP vB : Value} (h : PC W0 lo v VS C) (hW : Below W0.heap.size W0 W) (hV : Below W.heap.size W V)
    (hP : OwnI W W0.heap.size vP x.1) (hB : OwnI W W0.heap.size vB x.2) (hne : ∀ g, vP.ownBlock = some g → vB.ownBlock ≠ some g) (hlo : lo ≤ W0.heap.size)
    (hown : W2.ownsRow lo 50 2 v' (C.length + 1) (VS ++ [vP, vB])) (hg : V.grownBy W2 v.ownBlock) : PC W2 lo v' (VS ++ [vP, vB]) (C ++ [x]) := by
  have hl : VS.length = C.length * 2 := h.own.1
  have hWV : Below W0.heap.size W0 V := hW.trans (hV.mono hW.size)
  have hkeep : ∀ k, some k ≠ v.ownBlock → k < V.heap.size → W2.heap[k]? = V.heap[k]? := fun k hk hl => hg.block k hl hk
  have hrow : ∀ {lo' : Nat} {u : Value} {L : List Int}, OwnI V lo' u L → OwnI W2 lo' u L := fun {lo' u L} ho => own_blk ho (fun k hk => by
    refine hkeep k (fun e => ?_) (World.ownsRow.lt ho k hk).2
    have h1 := own_blk h.own (W' := V) (fun k hk => hWV.block k (World.ownsRow.lt h.own k hk).2)
    rcases h1.2 with ⟨e1, _⟩ | ⟨g, cap, cur, e1, _, hr, _⟩
    · rw [e1] at e; cases e
    · rw [e1] at e
      injection e with e
      subst e
      rcases ho.2 with ⟨e2, _⟩ | ⟨g2, cap2, cur2, e2, _, hr2, _⟩
      · rw [e2] at hk; cases hk
      · rw [e2] at hk
        injection hk with hk
        subst hk
        rw [hr] at hr2
        injection hr2 with hr2
        injection hr2 with _ hr2
        exact absurd hr2 (by decide))
  have hPV : OwnI V W0.heap.size vP x.1 := own_blk hP (fun k hk => hV.block k (World.ownsRow.lt hP k hk).2)
  have hBV : OwnI V W0.heap.size vB x.2 := own_blk hB (fun k hk => hV.block k (World.ownsRow.lt hB k hk).2)
  have hsz : W0.heap.size ≤ W2.heap.size := Nat.le_trans hWV.size hg.size
  have hget : ∀ (i : Nat) (a : Value), (VS ++ [vP, vB])[i]? = some a → (VS[i]? = some a) ∨ (i = C.length * 2 ∧ a = vP) ∨ (i = C.length * 2 + 1 ∧ a = vB) := fun i a hi => by
    by_cases h1 : i < VS.length
    · rw [List.getElem?_append_left h1] at hi; exact .inl hi
    · rw [List.getElem?_append_right (by omega), hl] at hi
      have h2 : i - C.length * 2 < 2 := by
        have := (List.getElem?_eq_some_iff.1 hi).1
        simpa using this
      have h3 : i - C.length * 2 = 0 ∨ i - C.length * 2 = 1 := by omega
      rcases h3 with h3 | h3 <;> rw [h3] at hi
      · exact .inr (.inl ⟨by omega, (Option.some.inj hi).symm⟩)
      · exact .inr (.inr ⟨by omega, (Option.some.inj hi).symm⟩)
  refine ⟨by rw [List.length_append, List.length_singleton]; exact hown, fun i hi => ?_, fun i j a b g hij ha hb hga hgb => ?_, fun i a g ha hga => ?_⟩
  · by_cases e : i < C.length
    · obtain ⟨p, b, h1, h2, h3, h4⟩ := h.at' i e
      rw [List.getElem_append_left e]
      exact ⟨p, b, by rw [List.getElem?_append_left (by omega)]; exact h1, by rw [List.getElem?_append_left (by omega)]; exact h2, hrow (own_blk h3 (fun k hk => hWV.block k (World.ownsRow.lt h3 k hk).2)), hrow (own_blk h4 (fun k hk => hWV.block k (World.ownsRow.lt h4 k hk).2))⟩
    · have e : i = C.length := by rw [List.length_append, List.length_singleton] at hi; omega
      subst e
      refine ⟨vP, vB, ?_, ?_, ?_, ?_⟩
      · rw [List.getElem?_append_right (by omega), hl, Nat.sub_self]; rfl
      · rw [List.getElem?_append_right (by omega), hl, show C.length * 2 + 1 - C.length * 2 = 1 by omega]; rfl
      · have q : OwnI W2 lo vP x.1 := owns_lower (hrow hPV) hlo
        rw [show (C ++ [x])[C.length] = x by simp]
        exact q
      · have q : OwnI W2 lo vB x.2 := owns_lower (hrow hBV) hlo
        rw [show (C ++ [x])[C.length] = x by simp]
        exact q
  · have lP : vP.ownBlock = some g → W0.heap.size ≤ g := fun e => (World.ownsRow.lt hP g e).1
    have lB : vB.ownBlock = some g → W0.heap.size ≤ g := fun e => (World.ownsRow.lt hB g e).1
    rcases hget i a ha with h1 | ⟨h1, rfl⟩ | ⟨h1, rfl⟩ <;> rcases hget j b hb with h2 | ⟨h2, rfl⟩ | ⟨h2, rfl⟩
    · exact h.apart i j a b g hij h1 h2 hga hgb
    · have := h.lt i a g h1 hga; have := lP hgb; omega
    · have := h.lt i a g h1 hga; have := lB hgb; omega
    · have := h.lt j b g h2 hgb; have := lP hga; omega
    · omega
    · exact hne g hga hgb
    · have := h.lt j b g h2 hgb; have := lB hga; omega
    · exact hne g hgb hga
    · omega
  · rcases hget i a ha with h1 | ⟨h1, rfl⟩ | ⟨h1, rfl⟩
    · exact Nat.lt_of_lt_of_le (h.lt i a g h1 hga) hsz
    · exact Nat.lt_of_lt_of_le (World.ownsRow.lt hPV g hga).2 hg.size
    · exact Nat.lt_of_lt_of_le (World.ownsRow.lt hBV g hga).2 hg.size
/-- Are all lines well? -/
def okL (pre : List By) : Bool := match parF 0 [] (pre.map bareN) with
  | .ok _ => true
  | .bad _ _ => false
theorem okL_nil : okL [] = true := rfl
/-- What the range over lines keeps: w: the beginning; the boxes lie at its end. -/
structure RfJ (w : World) (A : Nat → Addr) (lo : Nat) (pre : List By) (W : World) : Prop where
  bel : Below w.heap.size w W
  yes : okL pre = true → ∃ v VS C, W.heap[w.heap.size]? = some (.cells #[.slice none 0 0] 22 (0, 0)) ∧ W.heap[w.heap.size + 1]? = some (.cells #[.nilIface] 24 (0, 0)) ∧ W.heap[w.heap.size + 2]? = some (.cells #[v] 22 (0, 0)) ∧ W.heap[w.heap.size + 3]? = some (.cells #[.int .i64 (pre.length : Int)] 3 (0, 0)) ∧ PC W lo v VS C ∧ parF 0 [] (pre.map bareN) = .ok C
  no : okL pre = false → ∃ k i : Nat, W.heap[w.heap.size]? = some (.cells #[.slice none 0 0] 22 (0, 0)) ∧ W.heap[w.heap.size + 1]? = some (.cells #[flt (k : Int) (A i)] 24 (0, 0)) ∧ parF 0 [] (pre.map bareN) = .bad k i
theorem RfJ.keep {w : World} {A : Nat → Addr} {lo : Nat} {pre : List By} {W W' : World} {S : Nat → Prop} (h : RfJ w A lo pre W) (ho : Only W W' S) (hs : ∀ k, S k → w.heap.size + 4 ≤ k ∧ k < lo) : RfJ w A lo pre W' := by
  have hk : ∀ k o, k < w.heap.size + 4 → W.heap[k]? = some o → W'.heap[k]? = some o := fun k o hk h1 => (ho.block k (Array.getElem?_eq_some_iff.1 h1).1 (fun s => by have := (hs k s).1; omega)).trans h1
  refine ⟨h.bel.trans (ho.below h.bel.size (fun k s => by have := (hs k s).1; omega)), fun q => ?_, fun q => ?_⟩
  · obtain ⟨v, VS, C, h1, h2, h3, h4, h5, h6⟩ := h.yes q
    exact ⟨v, VS, C, hk _ _ (by omega) h1, hk _ _ (by omega) h2, hk _ _ (by omega) h3, hk _ _ (by omega) h4, h5.agree ⟨ho.size, fun k h1 h2 => ho.block k h2 (fun s => by have := (hs k s).2; omega)⟩, h6⟩
  · obtain ⟨k, i, h1, h2, h3⟩ := h.no q
    exact ⟨k, i, hk _ _ (by omega) h1, hk _ _ (by omega) h2, h3⟩
end Go.Proofs.YtcbepmjojppokaaGreatDoor
