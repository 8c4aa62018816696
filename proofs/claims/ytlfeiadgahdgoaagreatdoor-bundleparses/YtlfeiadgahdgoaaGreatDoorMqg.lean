/-
  BvRW, BvSW, BvUW, BvVW, BvWW, BvXW, BvYW, BvZW, BwAAW, BwBM, BwCM, BwDM, BwFW.
-/
import Derived.Test.YtlfeiadgahdgoaaGreatDoorMqf
import Derived.Test.YtlfeiadgahdgoaaGreatDoorMqb
import Derived.Laws.Rows
import Derived.Maps.AppendAt
namespace Go.Proofs.YtlfeiadgahdgoaaGreatDoor
open Go.RowKit Go.Shelf Go.Lib
/-- Units in memory, each with where it lies. -/
structure U3 (w : World) (a : Option Addr) (L : List (Int × Nat × Nat)) : Prop where
  at' : ∀ k (h : k < L.length), ∃ b off, a = some ⟨b, off, none⟩ ∧ b < w.heap.size ∧ w.cell? ⟨b, off + k * 3, none⟩ = some (.int .i64 L[k].1) ∧ w.cell? ⟨b, off + k * 3 + 1, none⟩ = some (.int .i64 (L[k].2.1 : Int)) ∧ w.cell? ⟨b, off + k * 3 + 2, none⟩ = some (.int .i64 (L[k].2.2 : Int))
theorem U3.later {w w' : World} {a : Option Addr} {L : List (Int × Nat × Nat)} (h : U3 w a L) (hb : Below w.heap.size w w') : U3 w' a L := ⟨fun k hk => by
  obtain ⟨b, off, rfl, hl, h0, h1, h2⟩ := h.at' k hk
  exact ⟨b, off, rfl, Nat.lt_of_lt_of_le hl hb.size, (hb.cell (p := ⟨b, off + k * 3, none⟩) hl).trans h0, (hb.cell (p := ⟨b, off + k * 3 + 1, none⟩) hl).trans h1, (hb.cell (p := ⟨b, off + k * 3 + 2, none⟩) hl).trans h2⟩⟩
theorem cellsU_three (us : List (Int × Nat × Nat)) : ∀ (k : Nat) (h : k < us.length), (cellsU us)[k * 3]? = some (.int .i64 us[k].1) ∧ (cellsU us)[k * 3 + 1]? = some (.int .i64 (us[k].2.1 : Int)) ∧ (cellsU us)[k * 3 + 2]? = some (.int .i64 (us[k].2.2 : Int)) := by
  induction us with
  | nil => intro k h; simp at h
  | cons u l ih =>
    intro k h
    have e : cellsU (u :: l) = .int .i64 u.1 :: .int .i64 (u.2.1 : Int) :: .int .i64 (u.2.2 : Int) :: cellsU l := rfl
    cases k with
    | zero => rw [e]; simp
    | succ k =>
      have := ih k (by simpa using h)
      rw [e, show (k + 1) * 3 = k * 3 + 1 + 1 + 1 by omega, show k * 3 + 1 + 1 + 1 + 1 = (k * 3 + 1) + 1 + 1 + 1 by omega, show k * 3 + 1 + 1 + 1 + 2 = (k * 3 + 2) + 1 + 1 + 1 by omega]
      simpa using this
theorem OwnU.u3 {w : World} {base : Nat} {v : Value} {us : List (Int × Nat × Nat)} (h : OwnU w base v us) : ∃ a cap, v = .slice a us.length cap ∧ U3 w a us := by
  have h0 := h
  rcases h.2 with ⟨rfl, hn⟩ | ⟨g, cap, cur, rfl, _, hh, _⟩
  · have : us = [] := List.length_eq_zero_iff.1 hn
    subst this
    exact ⟨none, 0, rfl, ⟨fun k h => absurd h (Nat.not_lt_zero _)⟩⟩
  · refine ⟨_, cap, rfl, ⟨fun k hk => ⟨g, 0, rfl, (Array.getElem?_eq_some_iff.1 hh).1, ?_, ?_, ?_⟩⟩⟩
    · rw [Nat.zero_add, World.ownsRow.cellAt h0 (k * 3) (by omega)]; exact (cellsU_three us k hk).1
    · rw [Nat.zero_add, World.ownsRow.cellAt h0 (k * 3 + 1) (by omega)]; exact (cellsU_three us k hk).2.1
    · rw [Nat.zero_add, World.ownsRow.cellAt h0 (k * 3 + 2) (by omega)]; exact (cellsU_three us k hk).2.2
/-- What a written entry is read as, behind points that were read. -/
def contR (pre : List Nat) (r : List UInt8) : Option (List UInt8) := match pntsOf r with
  | some ps => if (toI ps).all scalarP = true then some (encAll (toI (pre ++ ps))) else none
  | none => none
def readR (l : List UInt8) : Option (List UInt8) := contR [] l
theorem contR_nil (pre : List Nat) : contR pre [] = some (encAll (toI pre)) := by
  unfold contR
  rw [pnts_nil]
  simp [toI]
theorem contR_bad {pre : List Nat} {r : List UInt8} (hr : r ≠ []) (h : pntF r = none) : contR pre r = none := by
  unfold contR
  rw [pnts_step hr, h]
theorem contR_off {pre : List Nat} {r y : List UInt8} {n : Nat} (hr : r ≠ []) (h : pntF r = some (n, y)) (hs : scalarP (n : Int) = false) : contR pre r = none := by
  unfold contR
  rw [pnts_step hr, h]
  simp only
  cases pntsOf y with
  | none => rfl
  | some ps => simp [toI, hs]
theorem contR_step {pre : List Nat} {r y : List UInt8} {n : Nat} (hr : r ≠ []) (h : pntF r = some (n, y)) (hs : scalarP (n : Int) = true) : contR pre r = contR (pre ++ [n]) y := by
  unfold contR
  rw [pnts_step hr, h]
  simp only
  cases pntsOf y with
  | none => rfl
  | some ps => simp [toI, hs]
theorem encAll_one (pre : List Nat) (n : Nat) : encAll (toI (pre ++ [n])) = encAll (toI pre) ++ encL n := by simp [toI, encAll]
/-- An escape is of ASCII alone, and what stands behind it is the rest. -/
theorem esc_rest {x r : List UInt8} {n : Nat} (h : escF x = some (n, r)) : ∃ d, x = d ++ r ∧ (∀ b ∈ d, b.toNat < 128) ∧ 1 ≤ d.length := by
  have key : ∀ p : List UInt8, Lib.hasPrefix x p = true → (∀ b ∈ p, b.toNat < 128) → 1 ≤ p.length → Lib.trimPrefix x p = r → ∃ d, x = d ++ r ∧ (∀ b ∈ d, b.toNat < 128) ∧ 1 ≤ d.length := fun p hp hb h1 e => by
    obtain ⟨t, ht⟩ := List.isPrefixOf_iff_prefix.1 hp
    refine ⟨p, ?_, hb, h1⟩
    rw [← e]
    unfold Lib.trimPrefix
    rw [if_pos hp, ← ht]
    simp
  unfold escF at h
  split at h
  · rename_i hp
    injection h with h; injection h with _ h
    exact key _ hp (by decide) (by decide) h
  · split at h
    · rename_i hp
      injection h with h; injection h with _ h
      exact key _ hp (by decide) (by decide) h
    · split at h
      · rename_i hp
        injection h with h; injection h with _ h
        exact key _ hp (by decide) (by decide) h
      · unfold numF at h
        split at h
        · rename_i hc
          obtain ⟨h1, h2, _, _, h5⟩ := hc
          injection h with h; injection h with _ h
          obtain ⟨t, ht⟩ := List.isPrefixOf_iff_prefix.1 h1
          have htp : Lib.trimPrefix x [92, 117, 123] = t := by unfold Lib.trimPrefix; rw [if_pos h1, ← ht]; simp
          unfold numC at h2 h5 h
          rw [htp] at h2 h5 h
          rcases cut_cases t 125 with ⟨d, y, e, _, ec⟩ | ⟨_, ec⟩
          · rw [ec] at h5 h
            simp only at h5 h
            refine ⟨[92, 117, 123] ++ d ++ [125], ?_, fun b hb => ?_, by simp⟩
            · rw [← ht, e, h]; simp
            · rcases List.mem_append.1 hb with hb | hb
              · rcases List.mem_append.1 hb with hb | hb
                · exact (by decide : ∀ b ∈ ([92, 117, 123] : List UInt8), b.toNat < 128) b hb
                · have := h5 b hb
                  simp only [isHx, isDg, Bool.or_eq_true, Bool.and_eq_true, decide_eq_true_eq] at this
                  omega
              · rw [List.mem_singleton] at hb; rw [hb]; decide
          · rw [ec] at h2; cases h2
        · cases h
/-- Where a reading of units stands: at the i-th, which lies at st; all ahead of pos is read. -/
structure RSt (l : List UInt8) (i st sk pos : Nat) (pre : List Nat) : Prop where
  us : ∃ P, unitsOf l = P ++ unitsAt l st ∧ P.length = i
  le : st ≤ pos ∧ pos ≤ l.length
  hi : st < sk → pos = sk
  lo : sk ≤ st → pos = st
  asc : ∀ j (h : j < l.length), st ≤ j → j < pos → l[j].toNat < 128
  few : pre.length ≤ pos
  eq : readR l = contR pre (l.drop pos)
theorem rst_zero (l : List UInt8) : RSt l 0 0 0 0 [] := ⟨⟨[], rfl, rfl⟩, ⟨Nat.le_refl _, Nat.zero_le _⟩, fun h => absurd h (Nat.lt_irrefl _), fun _ => rfl, fun j _ _ h => absurd h (Nat.not_lt_zero _), Nat.le_refl _, by rw [List.drop_zero]; rfl⟩
theorem RSt.at_end {l : List UInt8} {i st sk pos : Nat} {pre : List Nat} (h : RSt l i st sk pos pre) (hi : ¬ i < (unitsOf l).length) : readR l = some (encAll (toI pre)) := by
  obtain ⟨P, h1, h2⟩ := h.us
  have h3 : (unitsAt l st).length = 0 := by rw [h1, List.length_append] at hi; omega
  have h4 : ¬ st < l.length := fun hlt => by rw [unitsAt_step l st hlt] at h3; simp at h3
  rw [h.eq, List.drop_eq_nil_of_le (by have := h.le.1; omega), contR_nil]
theorem RSt.unit {l : List UInt8} {i st sk pos : Nat} {pre : List Nat} (h : RSt l i st sk pos pre) (hi : i < (unitsOf l).length) : st < l.length ∧ (unitsOf l)[i] = ((uniOf (l.drop st)).1, st, st + (uniOf (l.drop st)).2) ∧ (∃ P, unitsOf l = P ++ unitsAt l (st + (uniOf (l.drop st)).2) ∧ P.length = i + 1) := by
  obtain ⟨P, h1, h2⟩ := h.us
  have h3 : 0 < (unitsAt l st).length := by rw [h1, List.length_append] at hi; omega
  have h4 : st < l.length := by
    by_cases hlt : st < l.length
    · exact hlt
    · rw [unitsAt_end l st (by omega)] at h3; simp at h3
  have h5 := unitsAt_step l st h4
  refine ⟨h4, ?_, P ++ [((uniOf (l.drop st)).1, st, st + (uniOf (l.drop st)).2)], by rw [h1, h5]; simp, by simp [h2]⟩
  subst h2
  simp [h1, h5]
/-- A unit that was read already. -/
theorem RSt.pass {l : List UInt8} {i st sk pos : Nat} {pre : List Nat} (h : RSt l i st sk pos pre) (hi : i < (unitsOf l).length) (hs : st < sk) : RSt l (i + 1) (st + (uniOf (l.drop st)).2) sk pos pre ∧ (uniOf (l.drop st)).2 = 1 := by
  obtain ⟨h4, _, hP⟩ := h.unit hi
  have hp := h.hi hs
  have ha := h.asc st h4 (Nat.le_refl _) (by omega)
  have hu : (uniOf (l.drop st)).2 = 1 := by rw [List.drop_eq_getElem_cons h4, uni_ascii _ _ ha]
  refine ⟨?_, hu⟩
  rw [hu] at hP ⊢
  exact ⟨hP, ⟨by omega, h.le.2⟩, fun _ => hp, fun hh => by omega, fun j hj h1 h2 => h.asc j hj (by omega) h2, h.few, h.eq⟩
theorem drop_ne {l : List UInt8} {k : Nat} (h : k < l.length) : l.drop k ≠ [] := fun e => by have := congrArg List.length e; simp at this; omega
/-- A unit that is read as it is. -/
theorem RSt.plain {l : List UInt8} {i st sk pos : Nat} {pre : List Nat} (h : RSt l i st sk pos pre) (hi : i < (unitsOf l).length) (hs : sk ≤ st) (h92 : (uniOf (l.drop st)).1 ≠ 92) (hc : ¬ ((uniOf (l.drop st)).1 < 32 ∨ (uniOf (l.drop st)).1 = 127)) :
    RSt l (i + 1) (st + (uniOf (l.drop st)).2) sk (st + (uniOf (l.drop st)).2) (pre ++ [(uniOf (l.drop st)).1.toNat]) ∧ encL (uniOf (l.drop st)).1.toNat = (l.drop st).take (uniOf (l.drop st)).2 := by
  obtain ⟨h4, _, hP⟩ := h.unit hi
  have hp := h.lo hs
  have hd := drop_size l st h4
  obtain ⟨p, m, hg, e⟩ := uni_good (x := l.drop st) (fun e => hc (.inl (by rw [e]; decide)))
  obtain ⟨g1, g2⟩ := good_take_enc hg
  have hpt : pntF (l.drop st) = some ((uniOf (l.drop st)).1.toNat, (l.drop st).drop (uniOf (l.drop st)).2) := by
    unfold pntF
    rw [if_neg h92, if_neg (by omega)]
  have hsc : scalarP (((uniOf (l.drop st)).1.toNat : Nat) : Int) = true := by rw [e]; simpa using g2
  refine ⟨⟨hP, ⟨Nat.le_refl _, by omega⟩, fun hh => by omega, fun _ => rfl, fun j _ h1 h2 => by omega, by have := h.few; simp; omega, ?_⟩, by rw [e]; simpa using g1⟩
  rw [h.eq, hp, contR_step (drop_ne h4) hpt hsc, List.drop_drop]
/-- What is no entry. -/
theorem RSt.bad {l : List UInt8} {i st sk pos : Nat} {pre : List Nat} (h : RSt l i st sk pos pre) (hi : i < (unitsOf l).length) (hs : sk ≤ st) (h92 : (uniOf (l.drop st)).1 ≠ 92) (hc : (uniOf (l.drop st)).1 < 32 ∨ (uniOf (l.drop st)).1 = 127) : readR l = none := by
  obtain ⟨h4, _, _⟩ := h.unit hi
  have hpt : pntF (l.drop st) = none := by
    unfold pntF
    rw [if_neg h92, if_pos (by omega)]
  rw [h.eq, h.lo hs, contR_bad (drop_ne h4) hpt]
/-- An escape. -/
theorem RSt.esc {l : List UInt8} {i st sk pos : Nat} {pre : List Nat} (h : RSt l i st sk pos pre) (hi : i < (unitsOf l).length) (hs : sk ≤ st) (h92 : (uniOf (l.drop st)).1 = 92) :
    ((escV (l.drop st)).2 = 0 ∧ readR l = none) ∨ ∃ n, (escV (l.drop st)).1 = encL n ∧ 0 < (escV (l.drop st)).2 ∧ st + (escV (l.drop st)).2 ≤ l.length ∧ (uniOf (l.drop st)).2 = 1 ∧ RSt l (i + 1) (st + 1) (st + (escV (l.drop st)).2) (st + (escV (l.drop st)).2) (pre ++ [n]) := by
  obtain ⟨h4, _, hP⟩ := h.unit hi
  have hp := h.lo hs
  have hpt : pntF (l.drop st) = escF (l.drop st) := by unfold pntF; rw [if_pos h92]
  have hu1 : (uniOf (l.drop st)).2 = 1 := by
    obtain ⟨p, m, hg, e⟩ := uni_good (x := l.drop st) (by rw [h92]; decide)
    rw [e] at h92
    have hp92 : p = 92 := by simp only at h92; omega
    subst hp92
    obtain ⟨g1, _⟩ := good_take_enc hg
    have hl := congrArg List.length g1
    have := good_len hg
    rw [List.length_take] at hl
    rw [e]
    simp only
    have e92 : (encL 92).length = 1 := by decide
    omega
  rw [hu1] at hP
  unfold escV
  cases he : escF (l.drop st) with
  | none =>
    left
    exact ⟨rfl, by rw [h.eq, hp, contR_bad (drop_ne h4) (hpt.trans he)]⟩
  | some x =>
    obtain ⟨n, r⟩ := x
    simp only
    cases hsc : scalarP (n : Int) with
    | false =>
      left
      rw [if_neg (by decide)]
      exact ⟨rfl, by rw [h.eq, hp, contR_off (drop_ne h4) (hpt.trans he) hsc]⟩
    | true =>
      right
      rw [if_pos rfl]
      obtain ⟨d, hd, ha, h1⟩ := esc_rest he
      have hdl : (l.drop st).length = d.length + r.length := by rw [hd, List.length_append]
      have hk : (l.drop st).length - r.length = d.length := by omega
      rw [List.length_drop] at hdl
      refine ⟨n, rfl, by simp only; omega, by simp only; omega, hu1, ⟨hP, ⟨by simp only; omega, by simp only; omega⟩, fun _ => rfl, fun hh => by simp only at hh ⊢; omega, fun j hj h2 h3 => ?_, by have := h.few; simp; omega, ?_⟩⟩
      · simp only at h3
        have e1 : l[j] = (l.drop st)[j - st]'(by rw [List.length_drop]; omega) := by simp [show st + (j - st) = j by omega]
        have e2 : (l.drop st)[j - st]'(by rw [List.length_drop]; omega) = d[j - st]'(by omega) := by
          simp only [hd]
          rw [List.getElem_append_left (by omega)]
        rw [e1, e2]
        exact ha _ (List.getElem_mem _)
      · rw [h.eq, hp, contR_step (drop_ne h4) (hpt.trans he) hsc]
        simp only
        rw [hk, ← List.drop_drop, hd]
        simp
end Go.Proofs.YtlfeiadgahdgoaaGreatDoor
namespace Go.Proofs.YtlfeiadgahdgoaaGreatDoor
open Go.RowKit Go.Shelf Go.Lib
def readV (o : Option (List UInt8)) : Value := match o with
  | some t => .tuple #[.string (strOf t), .bool true]
  | none => .tuple #[.string ⟨#[]⟩, .bool false]
theorem app_strOf (a b : List UInt8) : strOf a ++ strOf b = strOf (a ++ b) := by
  have h : (strOf a ++ strOf b).data.toList = (strOf (a ++ b)).data.toList := by simp [strOf]
  have e1 : ∀ x : ByteArray, x = strOf x.data.toList := fun _ => rfl
  rw [e1 (strOf a ++ strOf b), h]
  rfl
theorem drop_92 {x : List UInt8} (h : (uniOf x).1 = 92) : ∃ t, x = 92 :: t := by
  obtain ⟨p, m, hg, e⟩ := uni_good (x := x) (by rw [h]; decide)
  rw [e] at h
  have hp92 : p = 92 := by simp only at h; omega
  subst hp92
  obtain ⟨g1, _⟩ := good_take_enc hg
  have e92 : encL 92 = [92] := by decide
  rw [e92] at g1
  cases x with
  | nil => cases m <;> simp at g1
  | cons a t =>
    cases m with
    | zero => simp at g1
    | succ m =>
      rw [List.take_succ_cons] at g1
      injection g1 with g1 _
      exact ⟨t, by rw [← g1]⟩
set_option maxRecDepth 10000 in
set_option maxHeartbeats 3200000 in
theorem refRead_any (B : ByteArray) (hB : B.size ≤ 4194400) (w : World) : Calls Tryz.prog 81 #[.string B] w fun e w' => e = .returned (readV (readR B.data.toList)) ∧ Below w.heap.size w w' := by
  have HSp := hid0 (refSplit_any B hB w)
  have hbz := bsize B
  have HEs : Hid (∀ (st : Nat) (h : st < B.size) (t : List UInt8), B.data.toList.drop st = 92 :: t → ∀ W, Calls Tryz.prog 113 #[.string (B.extract st B.size)] W fun e w' => e = .returned (.tuple #[.string (strOf (escV (B.data.toList.drop st)).1), .int .i64 ((escV (B.data.toList.drop st)).2 : Nat)]) ∧ Below W.heap.size W w') := hid0 (fun st h t ht W => by
    have hd : (B.extract st B.size).data.toList = B.data.toList.drop st := ext_tail B st
    have h := refEscape_any (B.extract st B.size) (by rw [← bsize, hd, List.length_drop]; omega) t (by rw [hd]; exact ht) W
    rw [hd] at h
    exact h)
  have HEx : Hid (∀ st m : Nat, B.extract st (st + m) = strOf ((B.data.toList.drop st).take m)) := hid0 (fun st m => by
    have e1 : ∀ x : ByteArray, x = strOf x.data.toList := fun _ => rfl
    rw [e1 (B.extract st (st + m)), extract_take])
  generalize hL : B.data.toList = l at *
  obtain ⟨R, hR⟩ : ∃ R, R = readR l := ⟨_, rfl⟩
  rw [← hR]
  have HR := hid0 hR
  have hul : (unitsOf l).length ≤ l.length := units_len l l.length 0 (by omega)
  clear hR hL
  go_enter Tryz.func81, Tryz.ntmps81
  go_wp2_with (go_at_call 53; refine HSp.out.mono ?_; rintro e w1 ⟨v, rfl, ho, hb⟩; obtain ⟨a, cap, rfl, hu⟩ := ho.u3; have HU := hid0 hu; have HB1 := hid0 hb; clear ho hu hb)
  go_loopw [4, 6, 7] (fun o k i wr => ∃ (i1 st sk pos : Nat) (pre : List Nat), o = .string (strOf (encAll (toI pre))) ∧ k = .int .i64 (sk : Int) ∧ i = .int .i64 (i1 : Int) ∧ i1 ≤ (unitsOf l).length ∧ sk ≤ 4194400 ∧ Hid (RSt l i1 st sk pos pre) ∧ Hid (Below w1.heap.size w1 wr)) (fun _ _ i _ => (unitsOf l).length - (intOf i).toNat)
  case atStart => exact ⟨0, 0, 0, 0, [], rfl, rfl, rfl, Nat.zero_le _, by omega, hid0 (rst_zero l), hid0 (Below.refl _ _)⟩
  case round =>
    obtain ⟨i1, st, sk, pos, pre, rfl, rfl, rfl, hi1, hsk, HSt, HB⟩ := hrel
    by_cases hlt : i1 < (unitsOf l).length
    · have q1 : (i1 : Int) < ((unitsOf l).length : Int) := by omega
      have q2 : (0 : Int) ≤ (i1 : Int) := by omega
      obtain ⟨b, off, rfl, hbl, c0, c1, c2⟩ := (HU.out.later HB.out).at' i1 hlt
      obtain ⟨hst, hun, _⟩ := HSt.out.unit hlt
      rw [hun] at c0 c1 c2
      simp only at c0 c1 c2
      have hds := drop_size l st hst
      have hst1 : st ≤ 4194400 := by omega
      have hal : (encAll (toI pre)).length ≤ 4 * 4194400 := by
        have h1 := encAll_len (toI pre)
        have h2 := HSt.out.few
        have h3 := HSt.out.le.2
        have h4 : (toI pre).length = pre.length := by simp [toI]
        omega
      have hosz : (strOf (encAll (toI pre))).size ≤ 16777600 := by rw [strOf_size]; omega
      clear hun
      by_cases hpass : st < sk
      · have q3 : (st : Int) < (sk : Int) := by omega
        obtain ⟨hp1, hp2⟩ := HSt.out.pass hlt hpass
        have HP1 := hid0 hp1
        have HBn : Hid (Below w1.heap.size w1 (wr.alloc (.cells #[.int .i64 (uniOf (l.drop st)).1, .int .i64 (st : Int), .int .i64 ((st + (uniOf (l.drop st)).2 : Nat) : Int)] 67))) := hid0 (HB.out.alloc HB.out.size _)
        clear hp1 hp2
        generalize (uniOf (l.drop st)).1 = p at *
        generalize st + (uniOf (l.drop st)).2 = en at *
        go_wp2
        go_roundw
        case rel => exact ⟨i1 + 1, en, sk, pos, pre, rfl, rfl, by go_num, by omega, hsk, HP1, HBn⟩
        case measure => simp [intOf]; omega
      · have q3 : ¬ (st : Int) < (sk : Int) := by omega
        by_cases h92 : (uniOf (l.drop st)).1 = 92
        · have q4 : ((uniOf (l.drop st)).1 == 92) = true := by rw [h92]; rfl
          obtain ⟨t, ht⟩ := drop_92 h92
          have HE1 := hid0 (HEs.out st (by omega) t ht)
          have HBn : Hid (Below w1.heap.size w1 (wr.alloc (.cells #[.int .i64 (uniOf (l.drop st)).1, .int .i64 (st : Int), .int .i64 ((st + (uniOf (l.drop st)).2 : Nat) : Int)] 67))) := hid0 (HB.out.alloc HB.out.size _)
          have q8 : (st : Int) ≤ (B.size : Int) := by omega
          have q10 : (0 : Int) ≤ (st : Int) := by omega
          have HUc : Hid (∀ W, Below (wr.alloc (.cells #[.int .i64 (uniOf (l.drop st)).1, .int .i64 (st : Int), .int .i64 ((st + (uniOf (l.drop st)).2 : Nat) : Int)] 67)).heap.size (wr.alloc (.cells #[.int .i64 (uniOf (l.drop st)).1, .int .i64 (st : Int), .int .i64 ((st + (uniOf (l.drop st)).2 : Nat) : Int)] 67)) W → W.cell? ⟨wr.heap.size, 1, none⟩ = some (.int .i64 (st : Int))) := hid0 (fun W hW => by
            rw [cell_of_row _ _ _ _ _ _ ((hW.block wr.heap.size (by simp)).trans (heap_alloc_new wr _))]; rfl)
          rcases HSt.out.esc hlt (by omega) h92 with ⟨hk0, hnone⟩ | ⟨n, e1, hk, hle, hu1, hst'⟩
          · rw [hk0] at HE1
            have HV : Hid (R = none) := hid0 (HR.out.trans hnone)
            clear h92 hk0 hnone ht
            generalize strOf (escV (l.drop st)).1 = X at *
            generalize (uniOf (l.drop st)).1 = p at *
            generalize st + (uniOf (l.drop st)).2 = en at *
            go_wp2_with (go_at_call 113; refine (HE1.out _).mono ?_; rintro e w3 ⟨rfl, hb3⟩; have HB3 := hid0 (Below.later HBn.out hb3); clear hb3)
            go_ret2
            exact ⟨by rw [HV.out]; rfl, Below.later HB1.out HB3.out⟩
          · rw [e1] at HE1
            have HP1 := hid0 hst'
            have HOu : Hid (strOf (encAll (toI pre)) ++ strOf (encL n) = strOf (encAll (toI (pre ++ [n])))) := hid0 (by rw [app_strOf, encAll_one])
            have hel := encL_len n
            have hsum : ¬ 9223372036854775807 < (strOf (encAll (toI pre))).size + (strOf (encL n)).size := by rw [strOf_size (encL n)]; omega
            have hk0 : (((escV (l.drop st)).2 : Int) == 0) = false := beq_eq_false_iff_ne.2 (by omega)
            obtain ⟨NW, hNW⟩ : ∃ NW, NW = pre ++ [n] := ⟨_, rfl⟩
            rw [← hNW] at HOu HP1
            have hsk2 : st + (escV (l.drop st)).2 ≤ 4194400 := by omega
            clear h92 ht hNW e1 hst' hu1 hle
            generalize (escV (l.drop st)).2 = k at *
            generalize (uniOf (l.drop st)).1 = p at *
            generalize st + (uniOf (l.drop st)).2 = en at *
            generalize strOf (encL n) = X at *
            generalize strOf (encAll (toI pre)) = OT at *
            go_wp2_with (go_at_call 113; refine (HE1.out _).mono ?_; rintro e w3 ⟨rfl, hb3⟩; have u3 := HUc.out w3 hb3; have HB3 := hid0 (Below.later HBn.out hb3); clear hb3)
            rw [HOu.out]
            go_roundw
            case rel => exact ⟨i1 + 1, st + 1, st + k, st + k, NW, rfl, by go_num, by go_num, by omega, hsk2, HP1, HB3⟩
            case measure => simp [intOf]; omega
        · have q4 : ((uniOf (l.drop st)).1 == 92) = false := beq_eq_false_iff_ne.2 h92
          by_cases hc : (uniOf (l.drop st)).1 < 32 ∨ (uniOf (l.drop st)).1 = 127
          · have HV : Hid (R = none) := hid0 (HR.out.trans (HSt.out.bad hlt (by omega) h92 hc))
            have HBn : Hid (Below w1.heap.size w1 (wr.alloc (.cells #[.int .i64 (uniOf (l.drop st)).1, .int .i64 (st : Int), .int .i64 ((st + (uniOf (l.drop st)).2 : Nat) : Int)] 67))) := hid0 (HB.out.alloc HB.out.size _)
            clear h92
            generalize (uniOf (l.drop st)).1 = p at *
            generalize st + (uniOf (l.drop st)).2 = en at *
            by_cases c32 : p < 32
            · have d32 : decide (p < 32) = true := decide_eq_true c32
              clear hc
              go_wp2
              go_ret2
              exact ⟨by rw [HV.out]; rfl, Below.later HB1.out HBn.out⟩
            · have d32 : decide (p < 32) = false := decide_eq_false c32
              have q7 : (p == 127) = true := by rw [hc.resolve_left c32]; rfl
              clear hc
              go_wp2
              go_ret2
              exact ⟨by rw [HV.out]; rfl, Below.later HB1.out HBn.out⟩
          · obtain ⟨hp1, hp2⟩ := HSt.out.plain hlt (by omega) h92 hc
            have HP1 := hid0 hp1
            have HBn : Hid (Below w1.heap.size w1 (wr.alloc (.cells #[.int .i64 (uniOf (l.drop st)).1, .int .i64 (st : Int), .int .i64 ((st + (uniOf (l.drop st)).2 : Nat) : Int)] 67))) := hid0 (HB.out.alloc HB.out.size _)
            have HOu : Hid (strOf (encAll (toI pre)) ++ B.extract st (st + (uniOf (l.drop st)).2) = strOf (encAll (toI (pre ++ [(uniOf (l.drop st)).1.toNat])))) := hid0 (by rw [HEx.out, ← hp2, app_strOf, encAll_one])
            have c32 : ¬ (uniOf (l.drop st)).1 < 32 := fun h => hc (.inl h)
            have d32 : decide ((uniOf (l.drop st)).1 < 32) = false := decide_eq_false c32
            have q7 : ((uniOf (l.drop st)).1 == 127) = false := beq_eq_false_iff_ne.2 (fun h => hc (.inr h))
            have hen : st + (uniOf (l.drop st)).2 ≤ B.size := by omega
            have hen2 : st ≤ st + (uniOf (l.drop st)).2 := by omega
            have hsz : (B.extract st (st + (uniOf (l.drop st)).2)).size ≤ 4194400 := by simp; omega
            have hsum : ¬ 9223372036854775807 < (strOf (encAll (toI pre))).size + (B.extract st (st + (uniOf (l.drop st)).2)).size := by omega
            obtain ⟨NW, hNW⟩ : ∃ NW, NW = pre ++ [(uniOf (l.drop st)).1.toNat] := ⟨_, rfl⟩
            rw [← hNW] at HOu HP1
            clear h92 hc hp1 hp2 hNW hds
            generalize (uniOf (l.drop st)).1 = p at *
            generalize st + (uniOf (l.drop st)).2 = en at *
            have q8 : (st : Int) ≤ (en : Int) := by omega
            have q9 : (en : Int) ≤ (B.size : Int) := by omega
            have q10 : (0 : Int) ≤ (st : Int) := by omega
            generalize strOf (encAll (toI pre)) = OT at *
            go_wp2
            rw [HOu.out]
            go_roundw
            case rel => exact ⟨i1 + 1, en, sk, en, NW, rfl, rfl, by go_num, by omega, hsk, HP1, HBn⟩
            case measure => simp [intOf]; omega
    · have q1 : ¬ (i1 : Int) < ((unitsOf l).length : Int) := by omega
      have HV : Hid (R = some (encAll (toI pre))) := hid0 (HR.out.trans (HSt.out.at_end hlt))
      go_wp2
      go_ret2
      exact ⟨by rw [HV.out]; rfl, Below.later HB1.out HB.out⟩
end Go.Proofs.YtlfeiadgahdgoaaGreatDoor
namespace Go.Proofs.YtlfeiadgahdgoaaGreatDoor
open Go.RowKit Go.Shelf Go.Lib
/-- A line's kind and its text. -/
def lnV (x : Nat × List UInt8) : Value := .agg #[.int .i64 (x.1 : Int), .string (strOf x.2)]
def tagK (k : Nat) (x : List UInt8) : Nat × List UInt8 := match tagF x with
  | some c => (k, c)
  | none => (5, [])
def entK (k : Nat) (x : List UInt8) : Nat × List UInt8 := match readR (Lib.trimS x [32, 9]) with
  | none => (5, [])
  | some s => if s = [] then (5, []) else (k, s)
theorem row2 {w : World} {g : Nat} {a b : Value} {t : TypeId} (h : w.heap[g]? = some (.cells #[a, b] t (0, 0))) :
    w.cell? ⟨g, 0, none⟩ = some a ∧ w.cell? ⟨g, 1, none⟩ = some b ∧ w.frozen? ⟨g, 0, none⟩ = false ∧ w.frozen? ⟨g, 1, none⟩ = false :=
  ⟨by rw [cell_of_row w g _ _ t _ h]; rfl, by rw [cell_of_row w g _ _ t _ h]; rfl, frozen_of_row w g _ _ t h, frozen_of_row w g _ _ t h⟩
theorem set2 {w : World} {g : Nat} {a b : Value} {t : TypeId} (a' b' : Value) (h : w.heap[g]? = some (.cells #[a, b] t (0, 0))) :
    ((w.setCell ⟨g, 0, none⟩ a').setCell ⟨g, 1, none⟩ b').heap[g]? = some (.cells #[a', b'] t (0, 0)) := by
  have h0 := heap_setCell_same w g 0 _ t a' h
  exact heap_setCell_same _ g 1 _ t b' h0
set_option maxRecDepth 10000 in
set_option maxHeartbeats 800000 in
theorem tagged_any (k : Nat) (s : ByteArray) (w : World) : Calls Tryz.prog 49 #[.int .i64 (k : Int), .string s] w fun e w' => e = .returned (lnV (tagK k s.data.toList)) ∧ Below w.heap.size w w' := by
  have HT := hid0 (fun W => refTag_any s W)
  have HV : Hid (tagK k s.data.toList = match tagF s.data.toList with | some c => (k, c) | none => (5, [])) := hid0 rfl
  generalize tagK k s.data.toList = V at *
  cases ht : tagF s.data.toList with
  | some c =>
    rw [ht] at HT HV
    simp only [tagV] at HT HV
    clear ht
    generalize hI : (k : Int) = K at *
    have HI := hid0 hI
    clear hI
    go_enter Tryz.func49, Tryz.ntmps49
    go_wp2_with (go_at_call 80; refine (HT.out _).mono ?_; rintro e w1 ⟨rfl, hb⟩; obtain ⟨c0, c1, f0, f1⟩ := row2 (boxRow hb); have HR := hid0 (boxRow hb); have HB : Hid (Below w.heap.size w w1) := hid0 (((Below.refl _ _).alloc (Nat.le_refl _) _).trans (hb.mono (by simp))); clear hb)
    (try simp only [Exit.inBlock, Exit.then])
    refine bodyPost_ret (results_cell_row rfl _ _ w.heap.size 71 _ _ _ rfl (set2 _ _ HR.out) Tryz.underlying71 rfl (by kernel_rfl)) rfl ?_
    exact ⟨by rw [HV.out, ← HI.out]; rfl, (HB.out.setCell (p := ⟨w.heap.size, 0, none⟩) (Nat.le_refl _) _).setCell (p := ⟨w.heap.size, 1, none⟩) (Nat.le_refl _) _⟩
  | none =>
    rw [ht] at HT HV
    simp only [tagV] at HT HV
    clear ht
    go_enter Tryz.func49, Tryz.ntmps49
    go_wp2_with (go_at_call 80; refine (HT.out _).mono ?_; rintro e w1 ⟨rfl, hb⟩; obtain ⟨c0, c1, f0, f1⟩ := row2 (boxRow hb); have HR := hid0 (boxRow hb); have HB : Hid (Below w.heap.size w w1) := hid0 (((Below.refl _ _).alloc (Nat.le_refl _) _).trans (hb.mono (by simp))); clear hb)
    (try simp only [Exit.inBlock, Exit.then])
    refine bodyPost_ret (results_cell_row rfl _ _ w.heap.size 71 _ _ _ rfl (set2 _ _ HR.out) Tryz.underlying71 rfl (by kernel_rfl)) rfl ?_
    exact ⟨by rw [HV.out]; rfl, (HB.out.setCell (p := ⟨w.heap.size, 0, none⟩) (Nat.le_refl _) _).setCell (p := ⟨w.heap.size, 1, none⟩) (Nat.le_refl _) _⟩
end Go.Proofs.YtlfeiadgahdgoaaGreatDoor
namespace Go.Proofs.YtlfeiadgahdgoaaGreatDoor
open Go.RowKit Go.Shelf Go.Lib
theorem strOf_nil_iff (s : List UInt8) : (strOf s).toList.isEmpty = decide (s = []) := by
  have e : (strOf s).toList = s := by rw [ByteArray.toList_eq]; rfl
  rw [e]
  cases s <;> rfl
set_option maxRecDepth 10000 in
set_option maxHeartbeats 800000 in
theorem entered_any (k : Nat) (l : List UInt8) (hl : l.length ≤ 4194400) (w : World) : Calls Tryz.prog 50 #[.int .i64 (k : Int), .string (strOf l)] w fun e w' => e = .returned (lnV (entK k l)) ∧ Below w.heap.size w w' := by
  have HTr := hid0 (fun W => refTrim_any l hl W)
  have hle := trimS_le l [32, 9]
  have HRd := hid0 (fun W => refRead_any (strOf (Lib.trimS l [32, 9])) (by rw [strOf_size]; omega) W)
  rw [strOf_data] at HRd
  have HV : Hid (entK k l = match readR (Lib.trimS l [32, 9]) with | none => (5, []) | some s => if s = [] then (5, []) else (k, s)) := hid0 rfl
  generalize entK k l = V at *
  generalize Lib.trimS l [32, 9] = T at *
  clear hle
  generalize strOf T = ST at *
  cases ht : readR T with
  | some c =>
    rw [ht] at HRd HV
    simp only [readV] at HRd HV
    clear ht
    have HE := strOf_nil_iff c
    by_cases hc : c = []
    · rw [if_pos hc] at HV
      rw [decide_eq_true hc] at HE
      clear hc
      generalize strOf c = C at *
      go_enter Tryz.func50, Tryz.ntmps50
      go_wp2_with (first | (go_at_call 47; refine (HTr.out _).mono ?_; rintro e w1 ⟨rfl, hw1⟩; subst hw1) | (go_at_call 81; refine (HRd.out _).mono ?_; rintro e w1 ⟨rfl, hb⟩; obtain ⟨c0, c1, f0, f1⟩ := row2 (boxRow hb); have HR := hid0 (boxRow hb); have HB : Hid (Below w.heap.size w w1) := hid0 (((Below.refl _ _).alloc (Nat.le_refl _) _).trans (hb.mono (by simp))); clear hb))
      (try simp only [Exit.inBlock, Exit.then])
      refine bodyPost_ret (results_cell_row rfl _ _ w.heap.size 71 _ _ _ rfl (set2 _ _ HR.out) Tryz.underlying71 rfl (by kernel_rfl)) rfl ?_
      exact ⟨by rw [HV.out]; rfl, (HB.out.setCell (p := ⟨w.heap.size, 0, none⟩) (Nat.le_refl _) _).setCell (p := ⟨w.heap.size, 1, none⟩) (Nat.le_refl _) _⟩
    · rw [if_neg hc] at HV
      rw [decide_eq_false hc] at HE
      clear hc
      have HV2 : Hid (lnV V = .agg #[.int .i64 (k : Int), .string (strOf c)]) := hid0 (by rw [HV.out]; rfl)
      clear HV
      generalize strOf c = C at *
      generalize (k : Int) = K at *
      go_enter Tryz.func50, Tryz.ntmps50
      go_wp2_with (first | (go_at_call 47; refine (HTr.out _).mono ?_; rintro e w1 ⟨rfl, hw1⟩; subst hw1) | (go_at_call 81; refine (HRd.out _).mono ?_; rintro e w1 ⟨rfl, hb⟩; obtain ⟨c0, c1, f0, f1⟩ := row2 (boxRow hb); have HR := hid0 (boxRow hb); have HB : Hid (Below w.heap.size w w1) := hid0 (((Below.refl _ _).alloc (Nat.le_refl _) _).trans (hb.mono (by simp))); clear hb))
      (try simp only [Exit.inBlock, Exit.then])
      refine bodyPost_ret (results_cell_row rfl _ _ w.heap.size 71 _ _ _ rfl (set2 _ _ HR.out) Tryz.underlying71 rfl (by kernel_rfl)) rfl ?_
      exact ⟨by rw [HV2.out], (HB.out.setCell (p := ⟨w.heap.size, 0, none⟩) (Nat.le_refl _) _).setCell (p := ⟨w.heap.size, 1, none⟩) (Nat.le_refl _) _⟩
  | none =>
    rw [ht] at HRd HV
    simp only [readV] at HRd HV
    clear ht
    go_enter Tryz.func50, Tryz.ntmps50
    go_wp2_with (first | (go_at_call 47; refine (HTr.out _).mono ?_; rintro e w1 ⟨rfl, hw1⟩; subst hw1) | (go_at_call 81; refine (HRd.out _).mono ?_; rintro e w1 ⟨rfl, hb⟩; obtain ⟨c0, c1, f0, f1⟩ := row2 (boxRow hb); have HR := hid0 (boxRow hb); have HB : Hid (Below w.heap.size w w1) := hid0 (((Below.refl _ _).alloc (Nat.le_refl _) _).trans (hb.mono (by simp))); clear hb))
    (try simp only [Exit.inBlock, Exit.then])
    refine bodyPost_ret (results_cell_row rfl _ _ w.heap.size 71 _ _ _ rfl (set2 _ _ HR.out) Tryz.underlying71 rfl (by kernel_rfl)) rfl ?_
    exact ⟨by rw [HV.out]; rfl, (HB.out.setCell (p := ⟨w.heap.size, 0, none⟩) (Nat.le_refl _) _).setCell (p := ⟨w.heap.size, 1, none⟩) (Nat.le_refl _) _⟩
end Go.Proofs.YtlfeiadgahdgoaaGreatDoor
namespace Go.Proofs.YtlfeiadgahdgoaaGreatDoor
open Go.RowKit Go.Shelf Go.Lib
/-- What a line is, without its comment and without blanks at its ends. -/
def whatF (t : List UInt8) : Nat × List UInt8 := match t with
  | [] => (0, [])
  | a :: r => if a = 91 ∧ r.getLast? = some 93 then tagK 1 (Lib.trimS r.dropLast [32, 9])
    else if a = 43 then entK 3 r
    else if a = 45 then entK 4 r
    else if 7 < (a :: r).length ∧ Lib.hasPrefix (a :: r) parW = true ∧ (((a :: r)[6]?).map blankB) = some true then tagK 2 (Lib.trimS ((a :: r).drop 6) [32, 9])
    else (5, [])
theorem pre6 {B : ByteArray} : ((B.extract 0 6).toList == [112, 97, 114, 101, 110, 116]) = Lib.hasPrefix B.data.toList parW := by
  rw [ByteArray.toList_eq, ext_head]
  unfold Lib.hasPrefix parW
  rw [Bool.eq_iff_iff, beq_iff_eq, List.isPrefixOf_iff_prefix, List.prefix_iff_eq_take]
  exact ⟨fun h => h.symm, fun h => h.symm⟩
theorem bcons (B : ByteArray) (h : 0 < B.size) : B.data.toList = B[0] :: (B.extract 1 B.size).data.toList := by
  rw [ext_tail]
  have hlen : 0 < B.data.toList.length := by rw [bsize]; exact h
  have h1 := List.drop_eq_getElem_cons hlen
  rw [List.drop_zero] at h1
  exact h1
theorem blast (B : ByteArray) (m : Nat) (hm : B.size = m + 1) (h0 : m ≠ 0) : (B.extract 1 B.size).data.toList = (B.extract 1 m).data.toList ++ [B[m]] := by
  have e1 : (B.extract 1 m).data.toList = (B.data.toList.drop 1).take (m - 1) := by
    have := extract_take B 1 (m - 1)
    rw [show 1 + (m - 1) = m by omega] at this
    exact this
  have hlen : B.data.toList.length = m + 1 := by rw [bsize]; exact hm
  have hg : B[m] = (B.data.toList.drop 1)[m - 1]'(by rw [List.length_drop]; omega) := by
    have e2 : (B.data.toList.drop 1)[m - 1]'(by rw [List.length_drop]; omega) = B.data.toList[m] := by
      rw [List.getElem_drop]
      congr 1
      omega
    rw [e2]
    rfl
  rw [ext_tail, e1, hg, ← List.take_succ_eq_append_getElem, List.take_of_length_le]
  rw [List.length_drop]
  omega
theorem what_head (B : ByteArray) (m : Nat) (hm : B.size = m + 1) (h1 : B[0] = 91) (h2 : B[m] = 93) : m ≠ 0 ∧ whatF B.data.toList = tagK 1 (Lib.trimS (B.extract 1 m).data.toList [32, 9]) := by
  have h0 : m ≠ 0 := fun e => by subst e; rw [h1] at h2; revert h2; decide
  refine ⟨h0, ?_⟩
  rw [bcons B (by omega), blast B m hm h0, whatF, if_pos ⟨h1, by simp [h2]⟩, List.dropLast_concat]
theorem what_nohead (B : ByteArray) (m : Nat) (hm : B.size = m + 1) (h : ¬ (B[0] = 91 ∧ B[m] = 93)) : ¬ (B[0] = 91 ∧ (B.extract 1 B.size).data.toList.getLast? = some 93) := by
  rintro ⟨h1, h2⟩
  by_cases h0 : m = 0
  · subst h0
    have : (B.extract 1 B.size).data.toList = [] := by rw [ext_tail]; exact List.drop_eq_nil_of_le (by rw [bsize]; omega)
    rw [this] at h2
    cases h2
  · rw [blast B m hm h0] at h2
    simp at h2
    exact h ⟨h1, h2⟩
theorem what_edit (B : ByteArray) (m : Nat) (hm : B.size = m + 1) (b : Bool) (h1 : B[0] = if b then 43 else 45) : whatF B.data.toList = entK (if b then 3 else 4) (B.extract 1 B.size).data.toList := by
  rw [bcons B (by omega), whatF]
  cases b with
  | true => simp only [if_true] at h1; rw [h1, if_neg (by rintro ⟨h, _⟩; revert h; decide), if_pos rfl]; rfl
  | false => simp only [Bool.false_eq_true, if_false] at h1; rw [h1, if_neg (by rintro ⟨h, _⟩; revert h; decide), if_neg (by decide), if_pos rfl]; rfl
theorem what_rest (B : ByteArray) (m : Nat) (hm : B.size = m + 1) (h : ¬ (B[0] = 91 ∧ B[m] = 93)) (h2 : B[0] ≠ 43) (h3 : B[0] ≠ 45) : whatF B.data.toList = if 7 < B.size ∧ Lib.hasPrefix B.data.toList parW = true ∧ ((B.data.toList[6]?).map blankB) = some true then tagK 2 (Lib.trimS (B.data.toList.drop 6) [32, 9]) else (5, []) := by
  have h4 := what_nohead B m hm h
  have h5 := bcons B (by omega)
  have h6 := bsize B
  generalize (B.extract 1 B.size).data.toList = r at *
  rw [← h6]
  rw [h5] at h6 ⊢
  rw [whatF, if_neg h4, if_neg h2, if_neg h3]
theorem par_head {B : ByteArray} (h : 0 < B.size) (h2 : Lib.hasPrefix B.data.toList parW = true) : B[0] = 112 := by
  rw [bcons B h] at h2
  simp only [Lib.hasPrefix, parW, List.isPrefixOf, Bool.and_eq_true, beq_iff_eq] at h2
  exact h2.1.symm
set_option maxRecDepth 10000 in
set_option maxHeartbeats 3200000 in
theorem what_any (B : ByteArray) (hB : B.size ≤ 4194304) (w : World) : Calls Tryz.prog 28 #[.string B] w fun e w' => e = .returned (lnV (whatF (lineB B.data.toList))) ∧ Below w.heap.size w w' := by
  have hbz := bsize B
  have HBa := hid0 (fun W => refBare_any B (by omega) W)
  have hnl := noC_le B.data.toList
  have HTr := hid0 (fun W => refTrim_any (noC B.data.toList) (by omega) W)
  have htl := trimS_le (noC B.data.toList) [32, 9]
  obtain ⟨V, hV⟩ : ∃ V, V = whatF (lineB B.data.toList) := ⟨_, rfl⟩
  rw [← hV]
  unfold lineB at hV
  obtain ⟨C, hC⟩ : ∃ C, C = strOf (Lib.trimS (noC B.data.toList) [32, 9]) := ⟨_, rfl⟩
  have hCd : Lib.trimS (noC B.data.toList) [32, 9] = C.data.toList := by rw [hC, strOf_data]
  rw [hCd] at hV htl
  rw [← hC] at HTr
  rw [bsize] at htl
  have hCs : C.size ≤ 4194304 := by omega
  generalize strOf (noC B.data.toList) = NB at *
  clear hC hCd htl hnl hbz
  by_cases z : C.size = 0
  · have HV : Hid (V = (0, [])) := hid0 (by
      have hz : C.data.toList = [] := List.length_eq_zero_iff.1 (by rw [bsize]; exact z)
      rw [hV, hz]; rfl)
    have q0 : ((C.size : Int) == 0) = true := by rw [z]; rfl
    clear hV z
    go_enter Tryz.func28, Tryz.ntmps28
    go_wp2_with (first | (go_at_call 48; refine (HBa.out _).mono ?_; rintro e w1 ⟨rfl, hw1⟩; have hw1' := hw1.symm; subst hw1'; clear hw1) | (go_at_call 47; first | (with_reducible refine (HTr.out _).mono ?_; rintro e w1 ⟨rfl, hw1⟩; have hw1' := hw1.symm; subst hw1'; clear hw1) | (with_reducible refine (HT2.out _).mono ?_; rintro e w1 ⟨rfl, hw1⟩; have hw1' := hw1.symm; subst hw1'; clear hw1)))
    (try simp only [Exit.inBlock, Exit.then])
    refine bodyPost_ret (results_cell_row rfl _ _ w.heap.size 71 _ _ _ rfl (heap_alloc_new w _) Tryz.underlying71 rfl (by kernel_rfl)) rfl ?_
    exact ⟨by rw [HV.out]; rfl, (Below.refl _ _).alloc (Nat.le_refl _) _⟩
  · obtain ⟨m, hm⟩ : ∃ m : Nat, C.size = m + 1 := ⟨C.size - 1, by omega⟩
    have q0 : ((C.size : Int) == 0) = false := beq_eq_false_iff_ne.2 (by omega)
    have hmI : (C.size : Int) - 1 = (m : Int) := by omega
    have hm0 : (0 : Int) ≤ (m : Int) := by omega
    have hm1 : (m : Int) < (C.size : Int) := by omega
    have hm2 : m < C.size := by omega
    have hm3 : (m : Int) ≤ (C.size : Int) := by omega
    have h0I : (0 : Int) < (C.size : Int) := by omega
    have h1I : (1 : Int) ≤ (C.size : Int) := by omega
    have h00 : 0 < C.size := by omega
    have bq : ∀ (a b : UInt8), a = b → ((a.toNat : Int) == (b.toNat : Int)) = true := fun a b h => by rw [h]; simp
    have bn : ∀ (a b : UInt8), a ≠ b → ((a.toNat : Int) == (b.toNat : Int)) = false := fun a b h => beq_eq_false_iff_ne.2 (fun e => h (UInt8.toNat.inj (by omega)))
    by_cases a91 : C[0] = 91
    · have q1 : ((C[0].toNat : Int) == 91) = true := bq _ _ a91
      by_cases a93 : C[m] = 93
      · have q2 : ((C[m].toNat : Int) == 93) = true := bq _ _ a93
        obtain ⟨hm00, hw⟩ := what_head C m hm a91 a93
        have q3 : (2 : Int) ≤ (C.size : Int) := by omega
        have d3 : decide ((2 : Int) ≤ (C.size : Int)) = true := decide_eq_true q3
        have q4 : (1 : Int) ≤ (m : Int) := by omega
        have HV := hid0 (hV.trans hw)
        have hez : (C.extract 1 m).size ≤ 4194400 := by simp; omega
        have HT2 := hid0 (fun W => refTrim_any (C.extract 1 m).data.toList (by rw [bsize]; exact hez) W)
        rw [show strOf (C.extract 1 m).data.toList = C.extract 1 m from rfl] at HT2
        have HTg := hid0 (fun W => tagged_any 1 (strOf (Lib.trimS (C.extract 1 m).data.toList [32, 9])) W)
        rw [strOf_data, ← HV.out] at HTg
        generalize strOf (Lib.trimS (C.extract 1 m).data.toList [32, 9]) = TX at *
        clear hV hw hm a91 a93 bq bn
        go_enter Tryz.func28, Tryz.ntmps28
        go_wp2_with (first | (go_at_call 48; refine (HBa.out _).mono ?_; rintro e w1 ⟨rfl, hw1⟩; have hw1' := hw1.symm; subst hw1'; clear hw1) | (go_at_call 47; first | (with_reducible refine (HTr.out _).mono ?_; rintro e w1 ⟨rfl, hw1⟩; have hw1' := hw1.symm; subst hw1'; clear hw1) | (with_reducible refine (HT2.out _).mono ?_; rintro e w1 ⟨rfl, hw1⟩; have hw1' := hw1.symm; subst hw1'; clear hw1)) | (go_at_call 49; refine (HTg.out _).mono ?_; rintro e w1 ⟨rfl, hb⟩; simp only [lnV]; obtain ⟨c0, c1, f0, f1⟩ := row2 (boxRow hb); have HR := hid0 (boxRow hb); have HB : Hid (Below w.heap.size w w1) := hid0 (((Below.refl _ _).alloc (Nat.le_refl _) _).trans (hb.mono (by simp))); clear hb))
        (try simp only [Exit.inBlock, Exit.then])
        refine bodyPost_ret (results_cell_row rfl _ _ w.heap.size 71 _ _ _ rfl (set2 _ _ HR.out) Tryz.underlying71 rfl (by kernel_rfl)) rfl ?_
        exact ⟨rfl, (HB.out.setCell (p := ⟨w.heap.size, 0, none⟩) (Nat.le_refl _) _).setCell (p := ⟨w.heap.size, 1, none⟩) (Nat.le_refl _) _⟩
      · have q2 : ((C[m].toNat : Int) == 93) = false := bn _ _ a93
        have hw := what_rest C m hm (fun h => a93 h.2) (by rw [a91]; decide) (by rw [a91]; decide)
        have hp : Lib.hasPrefix C.data.toList parW = false := by
          cases hh : Lib.hasPrefix C.data.toList parW with
          | false => rfl
          | true => have := par_head h00 hh; rw [a91] at this; revert this; decide
        rw [if_neg (fun h => by rw [hp] at h; cases h.2.1)] at hw
        have HV := hid0 (hV.trans hw)
        have hp6 := pre6 (B := C)
        rw [hp] at hp6
        have q5 : ((C[0].toNat : Int) == 43) = false := bn _ 43 (by rw [a91]; decide)
        have q6 : ((C[0].toNat : Int) == 45) = false := bn _ 45 (by rw [a91]; decide)
        clear hV hw hm a91 a93 bq bn hp
        by_cases h7 : (7 : Int) < (C.size : Int)
        · have d7 : decide ((7 : Int) < (C.size : Int)) = true := decide_eq_true h7
          have h6I : (6 : Int) ≤ (C.size : Int) := by omega
          go_enter Tryz.func28, Tryz.ntmps28
          go_wp2_with (first | (go_at_call 48; refine (HBa.out _).mono ?_; rintro e w1 ⟨rfl, hw1⟩; have hw1' := hw1.symm; subst hw1'; clear hw1) | (go_at_call 47; first | (with_reducible refine (HTr.out _).mono ?_; rintro e w1 ⟨rfl, hw1⟩; have hw1' := hw1.symm; subst hw1'; clear hw1) | (with_reducible refine (HT2.out _).mono ?_; rintro e w1 ⟨rfl, hw1⟩; have hw1' := hw1.symm; subst hw1'; clear hw1)))
          (try simp only [Exit.inBlock, Exit.then])
          refine bodyPost_ret (results_cell_row rfl _ _ w.heap.size 71 _ _ _ rfl (heap_alloc_new w _) Tryz.underlying71 rfl (by kernel_rfl)) rfl ?_
          exact ⟨by rw [HV.out]; rfl, (Below.refl _ _).alloc (Nat.le_refl _) _⟩
        · have d7 : decide ((7 : Int) < (C.size : Int)) = false := decide_eq_false h7
          go_enter Tryz.func28, Tryz.ntmps28
          go_wp2_with (first | (go_at_call 48; refine (HBa.out _).mono ?_; rintro e w1 ⟨rfl, hw1⟩; have hw1' := hw1.symm; subst hw1'; clear hw1) | (go_at_call 47; first | (with_reducible refine (HTr.out _).mono ?_; rintro e w1 ⟨rfl, hw1⟩; have hw1' := hw1.symm; subst hw1'; clear hw1) | (with_reducible refine (HT2.out _).mono ?_; rintro e w1 ⟨rfl, hw1⟩; have hw1' := hw1.symm; subst hw1'; clear hw1)))
          (try simp only [Exit.inBlock, Exit.then])
          refine bodyPost_ret (results_cell_row rfl _ _ w.heap.size 71 _ _ _ rfl (heap_alloc_new w _) Tryz.underlying71 rfl (by kernel_rfl)) rfl ?_
          exact ⟨by rw [HV.out]; rfl, (Below.refl _ _).alloc (Nat.le_refl _) _⟩
    · have q1 : ((C[0].toNat : Int) == 91) = false := bn _ _ a91
      by_cases a43 : C[0] = 43
      · have q5 : ((C[0].toNat : Int) == 43) = true := bq _ _ a43
        have HV := hid0 (hV.trans (what_edit C m hm true a43))
        simp only [if_true] at HV
        have HEn := hid0 (fun W => entered_any 3 (C.extract 1 C.size).data.toList (by rw [bsize]; simp; omega) W)
        rw [← HV.out] at HEn
        rw [show strOf (C.extract 1 C.size).data.toList = C.extract 1 C.size from rfl] at HEn
        clear hV hm a91 a43 bq bn
        go_enter Tryz.func28, Tryz.ntmps28
        go_wp2_with (first | (go_at_call 48; refine (HBa.out _).mono ?_; rintro e w1 ⟨rfl, hw1⟩; have hw1' := hw1.symm; subst hw1'; clear hw1) | (go_at_call 47; first | (with_reducible refine (HTr.out _).mono ?_; rintro e w1 ⟨rfl, hw1⟩; have hw1' := hw1.symm; subst hw1'; clear hw1) | (with_reducible refine (HT2.out _).mono ?_; rintro e w1 ⟨rfl, hw1⟩; have hw1' := hw1.symm; subst hw1'; clear hw1)) | (go_at_call 50; refine (HEn.out _).mono ?_; rintro e w1 ⟨rfl, hb⟩; simp only [lnV]; obtain ⟨c0, c1, f0, f1⟩ := row2 (boxRow hb); have HR := hid0 (boxRow hb); have HB : Hid (Below w.heap.size w w1) := hid0 (((Below.refl _ _).alloc (Nat.le_refl _) _).trans (hb.mono (by simp))); clear hb))
        (try simp only [Exit.inBlock, Exit.then])
        refine bodyPost_ret (results_cell_row rfl _ _ w.heap.size 71 _ _ _ rfl (set2 _ _ HR.out) Tryz.underlying71 rfl (by kernel_rfl)) rfl ?_
        exact ⟨rfl, (HB.out.setCell (p := ⟨w.heap.size, 0, none⟩) (Nat.le_refl _) _).setCell (p := ⟨w.heap.size, 1, none⟩) (Nat.le_refl _) _⟩
      · have q5 : ((C[0].toNat : Int) == 43) = false := bn _ _ a43
        by_cases a45 : C[0] = 45
        · have q6 : ((C[0].toNat : Int) == 45) = true := bq _ _ a45
          have HV := hid0 (hV.trans (what_edit C m hm false a45))
          simp only [Bool.false_eq_true, if_false] at HV
          have HEn := hid0 (fun W => entered_any 4 (C.extract 1 C.size).data.toList (by rw [bsize]; simp; omega) W)
          rw [← HV.out] at HEn
          rw [show strOf (C.extract 1 C.size).data.toList = C.extract 1 C.size from rfl] at HEn
          clear hV hm a91 a43 a45 bq bn
          go_enter Tryz.func28, Tryz.ntmps28
          go_wp2_with (first | (go_at_call 48; refine (HBa.out _).mono ?_; rintro e w1 ⟨rfl, hw1⟩; have hw1' := hw1.symm; subst hw1'; clear hw1) | (go_at_call 47; first | (with_reducible refine (HTr.out _).mono ?_; rintro e w1 ⟨rfl, hw1⟩; have hw1' := hw1.symm; subst hw1'; clear hw1) | (with_reducible refine (HT2.out _).mono ?_; rintro e w1 ⟨rfl, hw1⟩; have hw1' := hw1.symm; subst hw1'; clear hw1)) | (go_at_call 50; refine (HEn.out _).mono ?_; rintro e w1 ⟨rfl, hb⟩; simp only [lnV]; obtain ⟨c0, c1, f0, f1⟩ := row2 (boxRow hb); have HR := hid0 (boxRow hb); have HB : Hid (Below w.heap.size w w1) := hid0 (((Below.refl _ _).alloc (Nat.le_refl _) _).trans (hb.mono (by simp))); clear hb))
          (try simp only [Exit.inBlock, Exit.then])
          refine bodyPost_ret (results_cell_row rfl _ _ w.heap.size 71 _ _ _ rfl (set2 _ _ HR.out) Tryz.underlying71 rfl (by kernel_rfl)) rfl ?_
          exact ⟨rfl, (HB.out.setCell (p := ⟨w.heap.size, 0, none⟩) (Nat.le_refl _) _).setCell (p := ⟨w.heap.size, 1, none⟩) (Nat.le_refl _) _⟩
        · have q6 : ((C[0].toNat : Int) == 45) = false := bn _ _ a45
          have hw := hV.trans (what_rest C m hm (fun h => a91 h.1) a43 a45)
          clear hV hm a91 a43 a45 bq bn
          have hp6 := pre6 (B := C)
          by_cases h7 : (7 : Int) < (C.size : Int)
          · have d7 : decide ((7 : Int) < (C.size : Int)) = true := decide_eq_true h7
            have h6I : (6 : Int) ≤ (C.size : Int) := by omega
            have h6J : (6 : Int) < (C.size : Int) := by omega
            have h7N : 7 < C.size := by omega
            cases hp : Lib.hasPrefix C.data.toList parW with
            | false =>
              rw [if_neg (fun h => by rw [hp] at h; cases h.2.1)] at hw
              have HV := hid0 hw
              rw [hp] at hp6
              clear hw hp
              go_enter Tryz.func28, Tryz.ntmps28
              go_wp2_with (first | (go_at_call 48; refine (HBa.out _).mono ?_; rintro e w1 ⟨rfl, hw1⟩; have hw1' := hw1.symm; subst hw1'; clear hw1) | (go_at_call 47; first | (with_reducible refine (HTr.out _).mono ?_; rintro e w1 ⟨rfl, hw1⟩; have hw1' := hw1.symm; subst hw1'; clear hw1) | (with_reducible refine (HT2.out _).mono ?_; rintro e w1 ⟨rfl, hw1⟩; have hw1' := hw1.symm; subst hw1'; clear hw1)))
              (try simp only [Exit.inBlock, Exit.then])
              refine bodyPost_ret (results_cell_row rfl _ _ w.heap.size 71 _ _ _ rfl (heap_alloc_new w _) Tryz.underlying71 rfl (by kernel_rfl)) rfl ?_
              exact ⟨by rw [HV.out]; rfl, (Below.refl _ _).alloc (Nat.le_refl _) _⟩
            | true =>
              rw [hp] at hp6
              have hbl := fun W => refBlank_any C[6] W
              have hg6 : C.data.toList[6]? = some C[6] := by
                rw [List.getElem?_eq_getElem (by rw [bsize]; omega)]
                rfl
              cases hb6 : blankB C[6] with
              | false =>
                rw [if_neg (fun h => by rw [hg6] at h; simp [hb6] at h)] at hw
                have HV := hid0 hw
                rw [hb6] at hbl
                have HBl := hid0 hbl
                clear hw hp hbl hg6 hb6
                go_enter Tryz.func28, Tryz.ntmps28
                go_wp2_with (first | (go_at_call 48; refine (HBa.out _).mono ?_; rintro e w1 ⟨rfl, hw1⟩; have hw1' := hw1.symm; subst hw1'; clear hw1) | (go_at_call 47; first | (with_reducible refine (HTr.out _).mono ?_; rintro e w1 ⟨rfl, hw1⟩; have hw1' := hw1.symm; subst hw1'; clear hw1) | (with_reducible refine (HT2.out _).mono ?_; rintro e w1 ⟨rfl, hw1⟩; have hw1' := hw1.symm; subst hw1'; clear hw1)) | (go_at_call 51; refine (HBl.out _).mono ?_; rintro e w1 ⟨rfl, hw1⟩; have hw1' := hw1.symm; subst hw1'; clear hw1))
                (try simp only [Exit.inBlock, Exit.then])
                refine bodyPost_ret (results_cell_row rfl _ _ w.heap.size 71 _ _ _ rfl (heap_alloc_new w _) Tryz.underlying71 rfl (by kernel_rfl)) rfl ?_
                exact ⟨by rw [HV.out]; rfl, (Below.refl _ _).alloc (Nat.le_refl _) _⟩
              | true =>
                rw [if_pos ⟨h7N, hp, by rw [hg6]; simp [hb6]⟩, ← ext_tail] at hw
                have HV := hid0 hw
                rw [hb6] at hbl
                have HBl := hid0 hbl
                have hez : (C.extract 6 C.size).size ≤ 4194400 := by simp; omega
                have HT2 := hid0 (fun W => refTrim_any (C.extract 6 C.size).data.toList (by rw [bsize]; exact hez) W)
                rw [show strOf (C.extract 6 C.size).data.toList = C.extract 6 C.size from rfl] at HT2
                have HTg := hid0 (fun W => tagged_any 2 (strOf (Lib.trimS (C.extract 6 C.size).data.toList [32, 9])) W)
                rw [strOf_data, ← HV.out] at HTg
                generalize strOf (Lib.trimS (C.extract 6 C.size).data.toList [32, 9]) = TX at *
                clear hw hp hbl hg6 hb6
                go_enter Tryz.func28, Tryz.ntmps28
                go_wp2_with (first | (go_at_call 48; refine (HBa.out _).mono ?_; rintro e w1 ⟨rfl, hw1⟩; have hw1' := hw1.symm; subst hw1'; clear hw1) | (go_at_call 47; first | (with_reducible refine (HTr.out _).mono ?_; rintro e w1 ⟨rfl, hw1⟩; have hw1' := hw1.symm; subst hw1'; clear hw1) | (with_reducible refine (HT2.out _).mono ?_; rintro e w1 ⟨rfl, hw1⟩; have hw1' := hw1.symm; subst hw1'; clear hw1)) | (go_at_call 51; refine (HBl.out _).mono ?_; rintro e w1 ⟨rfl, hw1⟩; have hw1' := hw1.symm; subst hw1'; clear hw1) | (go_at_call 49; refine (HTg.out _).mono ?_; rintro e w1 ⟨rfl, hb⟩; simp only [lnV]; obtain ⟨c0, c1, f0, f1⟩ := row2 (boxRow hb); have HR := hid0 (boxRow hb); have HB : Hid (Below w.heap.size w w1) := hid0 (((Below.refl _ _).alloc (Nat.le_refl _) _).trans (hb.mono (by simp))); clear hb))
                (try simp only [Exit.inBlock, Exit.then])
                refine bodyPost_ret (results_cell_row rfl _ _ w.heap.size 71 _ _ _ rfl (set2 _ _ HR.out) Tryz.underlying71 rfl (by kernel_rfl)) rfl ?_
                exact ⟨rfl, (HB.out.setCell (p := ⟨w.heap.size, 0, none⟩) (Nat.le_refl _) _).setCell (p := ⟨w.heap.size, 1, none⟩) (Nat.le_refl _) _⟩
          · have d7 : decide ((7 : Int) < (C.size : Int)) = false := decide_eq_false h7
            have HV : Hid (V = (5, [])) := hid0 (by rw [hw, if_neg (fun h => h7 (by omega))])
            clear hw hp6
            go_enter Tryz.func28, Tryz.ntmps28
            go_wp2_with (first | (go_at_call 48; refine (HBa.out _).mono ?_; rintro e w1 ⟨rfl, hw1⟩; have hw1' := hw1.symm; subst hw1'; clear hw1) | (go_at_call 47; first | (with_reducible refine (HTr.out _).mono ?_; rintro e w1 ⟨rfl, hw1⟩; have hw1' := hw1.symm; subst hw1'; clear hw1) | (with_reducible refine (HT2.out _).mono ?_; rintro e w1 ⟨rfl, hw1⟩; have hw1' := hw1.symm; subst hw1'; clear hw1)))
            (try simp only [Exit.inBlock, Exit.then])
            refine bodyPost_ret (results_cell_row rfl _ _ w.heap.size 71 _ _ _ rfl (heap_alloc_new w _) Tryz.underlying71 rfl (by kernel_rfl)) rfl ?_
            exact ⟨by rw [HV.out]; rfl, (Below.refl _ _).alloc (Nat.le_refl _) _⟩
end Go.Proofs.YtlfeiadgahdgoaaGreatDoor
namespace Go.Proofs.YtlfeiadgahdgoaaGreatDoor
open Go.RowKit Go.Shelf Go.Lib
/-- The lines, with what was read of the first one; none is left at the end where nothing stands. -/
def linesD (cur : List UInt8) : List UInt8 → List (List UInt8)
  | [] => if cur = [] then [] else [cur]
  | c :: r => if c = 10 then chopR cur :: linesD [] r else linesD (cur ++ [c]) r
theorem ext_mid6 (s : ByteArray) (a b : Nat) : (s.extract a b).data.toList = (s.data.toList.take b).drop a := by
  rw [ByteArray.data_extract, Array.toList_extract, List.extract_eq_take_drop, List.take_drop]
  by_cases h : a ≤ b
  · rw [show a + (b - a) = b by omega]
  · rw [List.drop_of_length_le (by simp; omega), List.drop_of_length_le (by simp; omega)]
theorem slice_of6 {w : World} {base : Nat} {v : Value} {L : List ByteArray} (h : OwnS w base v L) : ∃ a n c, v = .slice a n c := by
  rcases h.2 with ⟨rfl, hn⟩ | ⟨g, cap, cur, rfl, _⟩
  · exact ⟨_, _, _, rfl⟩
  · exact ⟨_, _, _, rfl⟩
def curOf (l : List UInt8) (fr k : Nat) : List UInt8 := (l.take k).drop fr
theorem cur_snoc (l : List UInt8) (fr k : Nat) (c : UInt8) (h : fr ≤ k) (hc : l[k]? = some c) : curOf l fr (k + 1) = curOf l fr k ++ [c] := by
  unfold curOf
  have hk := (List.getElem?_eq_some_iff.1 hc).1
  rw [List.take_add_one, hc, List.drop_append_of_le_length (by rw [List.length_take]; omega)]
  rfl
theorem drop_at (l : List UInt8) (k : Nat) (c : UInt8) (hc : l[k]? = some c) : l.drop k = c :: l.drop (k + 1) := by
  obtain ⟨h, rfl⟩ := List.getElem?_eq_some_iff.1 hc
  exact List.drop_eq_getElem_cons h
theorem chop_13 (l : List UInt8) (fr j : Nat) (h : fr ≤ j) (hc : l[j]? = some 13) : chopR (curOf l fr (j + 1)) = curOf l fr j := by
  rw [cur_snoc l fr j 13 h hc]
  unfold chopR
  rw [if_pos (by simp)]
  simp
theorem chop_no (l : List UInt8) (fr j : Nat) (c : UInt8) (h : fr ≤ j) (hc : l[j]? = some c) (hn : ¬ c = 13) : chopR (curOf l fr (j + 1)) = curOf l fr (j + 1) := by
  rw [cur_snoc l fr j c h hc]
  unfold chopR
  rw [if_neg (by simpa using hn)]
theorem chop_nil (l : List UInt8) (k : Nat) : chopR (curOf l k k) = curOf l k k := by
  have : curOf l k k = [] := by unfold curOf; exact List.drop_of_length_le (by rw [List.length_take]; omega)
  rw [this]; rfl
theorem cur_nil (l : List UInt8) (k : Nat) : curOf l k k = [] := by unfold curOf; exact List.drop_of_length_le (by rw [List.length_take]; omega)
theorem n13 (c : UInt8) (n : Nat) (hn : n < 256) (h : ¬ c = UInt8.ofNat n) : ((c.toNat : Int) == (n : Int)) = false := beq_eq_false_iff_ne.2 (fun e => h (UInt8.toNat.inj (by rw [UInt8.toNat_ofNat']; omega)))
set_option maxRecDepth 10000 in
set_option maxHeartbeats 800000 in
theorem refLines6_any (s : ByteArray) (hs : s.size ≤ 4194400) (w : World) (base : Nat) (hb : base ≤ w.heap.size) :
    Calls Tryz.prog 27 #[.string s] w fun e w' => ∃ v L, e = .returned v ∧ OwnS w' base v L ∧ L.map (fun t => t.data.toList) = linesD [] s.data.toList ∧ L.length ≤ 4194401 ∧ Below base w w' := by
  obtain ⟨i0, hi, hz0, hz1, hz2⟩ := info_parts infoStr
  go_enter Tryz.func27, Tryz.ntmps27
  go_wp2
  go_loopw [3, 4, 5] (fun v f i wr => ∃ (k fr : Nat) (L : List ByteArray), fr ≤ k ∧ k ≤ s.size ∧ L.length ≤ k ∧ i = .int .i64 (k : Int) ∧ f = .int .i64 (fr : Int) ∧ Hid (OwnS wr base v L) ∧ Hid (L.map (fun t => t.data.toList) ++ linesD (curOf s.data.toList fr k) (s.data.toList.drop k) = linesD [] s.data.toList) ∧ Hid (Below base w wr) ∧ (∃ a n c, v = .slice a n c)) (fun _ _ i _ => s.size - (intOf i).toNat)
  case atStart => exact ⟨0, 0, [], Nat.le_refl _, Nat.zero_le _, Nat.le_refl _, rfl, rfl, World.ownsRow_nil _ _ _ _, rfl, Below.refl _ _, ⟨_, _, _, rfl⟩⟩
  case round =>
    obtain ⟨k, fr, L, hfk, hk, hL, rfl, rfl, HO, HE, HB, ⟨a, n, c, rfl⟩⟩ := hrel
    have hsz := HB.out.size
    have hfI : (fr : Int) ≤ (k : Int) := by omega
    have hfI0 : (0 : Int) ≤ (fr : Int) := by omega
    by_cases hlt : k < s.size
    · have hkI : (k : Int) < (s.size : Int) := by omega
      have hc := bget s k hlt
      by_cases h10 : s[k] = 10
      · have h10I : (s[k].toNat : Int) = 10 := by rw [h10]; rfl
        rw [h10] at hc
        have HE2 : Hid (L.map (fun t => t.data.toList) ++ chopR (curOf s.data.toList fr k) :: linesD [] (s.data.toList.drop (k + 1)) = linesD [] s.data.toList) := hid0 (by
          rw [← HE.out, drop_at _ k 10 hc, linesD, if_pos rfl])
        clear HE h10
        by_cases hfk0 : fr = k
        · subst hfk0
          have HN : Hid ((L ++ [ByteArray.empty]).map (fun t => t.data.toList) ++ linesD (curOf s.data.toList (fr + 1) (fr + 1)) (s.data.toList.drop (fr + 1)) = linesD [] s.data.toList) := hid0 (by
            rw [← HE2.out, chop_nil, cur_nil, cur_nil, List.map_append, List.append_assoc]
            rfl)
          have hd : ¬ (fr : Int) < (fr : Int) := by omega
          clear HE2 hc hfk
          go_wp2_with (at_builtin; refine wpList_append_own _ rfl _ _ 68 rfl base 9 i0 (.string ⟨#[]⟩) 1 16 Tryz.underlying68 hi hz0 hz1 hz2 rfl (by decide) _ _ _ rfl (HO.out.alloc _) ⟨wr.heap.size, 0, none⟩ 1 1 [.string (ByteArray.empty)] rfl rfl (cell_one_new _ _ _) ?c2a ?c3a ?c4a ?c5a ?_)
          case c2a => first | rfl | (intro u hu; simp at hu; subst hu; rfl)
          case c3a => unfold maxLen; omega
          case c4a => omega
          case c5a => first | omega | (simp; omega)
          · intro v' w1 hown' hgrow _
            have R := owns_snoc rfl HO.out hown' hgrow HB.out hb
            have HR := hid0 R
            clear hown' hgrow HO HB R
            go_wp2
            go_roundw
            case rel => exact ⟨fr + 1, fr + 1, _, Nat.le_refl _, by omega, by simp; omega, by go_num, by go_num, HR.out.1, HN, HR.out.2, slice_of6 HR.out.1⟩
            case measure => simp [intOf]; omega
        · obtain ⟨j, rfl⟩ : ∃ j, k = j + 1 := ⟨k - 1, by omega⟩
          have hjs : j < s.size := by omega
          have ej : ((j + 1 : Nat) : Int) = (j : Int) + 1 := by omega
          have hj2 := bget s j hjs
          have hjI : (fr : Int) < (j : Int) + 1 := by omega
          have hjI0 : (0 : Int) ≤ (j : Int) := by omega
          have hjS : (j : Int) < (s.size : Int) := by omega
          by_cases h13 : s[j] = 13
          · have h13I : (s[j].toNat : Int) = 13 := by rw [h13]; rfl
            rw [h13] at hj2
            have HN : Hid ((L ++ [s.extract fr j]).map (fun t => t.data.toList) ++ linesD (curOf s.data.toList (j + 1 + 1) (j + 1 + 1)) (s.data.toList.drop (j + 1 + 1)) = linesD [] s.data.toList) := hid0 (by
              rw [← HE2.out, chop_13 _ _ _ (by omega) hj2, cur_nil, List.map_append, List.append_assoc]
              simp only [List.map_cons, List.map_nil, ext_mid6, List.cons_append, List.nil_append]
              rfl)
            have hfj : (fr : Int) ≤ (j : Int) := by omega
            clear HE2 hc hj2 h13
            go_wp2_with (at_builtin; refine wpList_append_own _ rfl _ _ 68 rfl base 9 i0 (.string ⟨#[]⟩) 1 16 Tryz.underlying68 hi hz0 hz1 hz2 rfl (by decide) _ _ _ rfl (HO.out.alloc _) ⟨wr.heap.size, 0, none⟩ 1 1 [.string (s.extract fr j)] rfl rfl (cell_one_new _ _ _) ?c2b ?c3b ?c4b ?c5b ?_)
            case c2b => first | rfl | (intro u hu; simp at hu; subst hu; rfl)
            case c3b => unfold maxLen; omega
            case c4b => omega
            case c5b => first | omega | (simp; omega)
            · intro v' w1 hown' hgrow _
              have R := owns_snoc rfl HO.out hown' hgrow HB.out hb
              have HR := hid0 R
              clear hown' hgrow HO HB R
              go_wp2
              go_roundw
              case rel => exact ⟨(j + 1) + 1, (j + 1) + 1, _, Nat.le_refl _, by omega, by simp; omega, by go_num, by go_num, HR.out.1, HN, HR.out.2, slice_of6 HR.out.1⟩
              case measure => simp [intOf]; omega
          · have hn13 := n13 s[j] 13 (by omega) h13
            have HN : Hid ((L ++ [s.extract fr (j + 1)]).map (fun t => t.data.toList) ++ linesD (curOf s.data.toList (j + 1 + 1) (j + 1 + 1)) (s.data.toList.drop (j + 1 + 1)) = linesD [] s.data.toList) := hid0 (by
              rw [← HE2.out, chop_no _ _ _ _ (by omega) hj2 h13, cur_nil, List.map_append, List.append_assoc]
              simp only [List.map_cons, List.map_nil, ext_mid6, List.cons_append, List.nil_append]
              rfl)
            have hfj : (fr : Int) ≤ (j : Int) + 1 := by omega
            have hjS1 : (j : Int) + 1 ≤ (s.size : Int) := by omega
            clear HE2 hc hj2 h13
            go_wp2_with (at_builtin; refine wpList_append_own _ rfl _ _ 68 rfl base 9 i0 (.string ⟨#[]⟩) 1 16 Tryz.underlying68 hi hz0 hz1 hz2 rfl (by decide) _ _ _ rfl (HO.out.alloc _) ⟨wr.heap.size, 0, none⟩ 1 1 [.string (s.extract fr (j + 1))] rfl rfl (cell_one_new _ _ _) ?c2c ?c3c ?c4c ?c5c ?_)
            case c2c => first | rfl | (intro u hu; simp at hu; subst hu; rfl)
            case c3c => unfold maxLen; omega
            case c4c => omega
            case c5c => first | omega | (simp; omega)
            · intro v' w1 hown' hgrow _
              have R := owns_snoc rfl HO.out hown' hgrow HB.out hb
              have HR := hid0 R
              clear hown' hgrow HO HB R
              go_wp2
              go_roundw
              case rel => exact ⟨(j + 1) + 1, (j + 1) + 1, _, Nat.le_refl _, by omega, by simp; omega, by go_num, by go_num, HR.out.1, HN, HR.out.2, slice_of6 HR.out.1⟩
              case measure => simp [intOf]; omega
      · have hn10 := n13 s[k] 10 (by omega) h10
        have HE2 : Hid (L.map (fun t => t.data.toList) ++ linesD (curOf s.data.toList fr (k + 1)) (s.data.toList.drop (k + 1)) = linesD [] s.data.toList) := hid0 (by
          rw [← HE.out, drop_at _ k _ hc, linesD, if_neg h10, cur_snoc _ _ _ _ hfk hc])
        clear HE h10 hc
        go_wp2
        go_roundw
        case rel => exact ⟨k + 1, fr, L, by omega, by omega, by omega, by go_num, rfl, HO, HE2, HB, ⟨_, _, _, rfl⟩⟩
        case measure => simp [intOf]; omega
    · have hkI : ¬ (k : Int) < (s.size : Int) := by omega
      have hfS : (fr : Int) ≤ (s.size : Int) := by omega
      by_cases hfe : fr = s.size
      · have hz : ¬ (fr : Int) < (s.size : Int) := by omega
        have HN : Hid (L.map (fun t => t.data.toList) = linesD [] s.data.toList) := hid0 (by
          rw [← HE.out, List.drop_of_length_le (by rw [bsize]; omega), linesD, if_pos (by unfold curOf; exact List.drop_of_length_le (by rw [List.length_take, bsize]; omega)), List.append_nil])
        clear HE
        go_wp2
        go_ret
        first | exact ⟨_, rfl, L, HO.out, HN.out, by omega, HB.out⟩ | exact ⟨_, L, rfl, HO.out, HN.out, by omega, HB.out⟩
      have hz : (fr : Int) < (s.size : Int) := by omega
      have HN : Hid ((L ++ [s.extract fr s.size]).map (fun t => t.data.toList) = linesD [] s.data.toList) := hid0 (by
        rw [← HE.out, List.drop_of_length_le (by rw [bsize]; omega), linesD, if_neg (by unfold curOf; intro e; have := congrArg List.length e; rw [List.length_drop, List.length_take, bsize] at this; simp at this; omega), List.map_append]
        congr 1
        simp only [List.map_cons, List.map_nil, ext_tail, curOf]
        rw [List.take_of_length_le (by rw [bsize]; omega)])
      clear HE
      go_wp2_with (at_builtin; refine wpList_append_own _ rfl _ _ 68 rfl base 9 i0 (.string ⟨#[]⟩) 1 16 Tryz.underlying68 hi hz0 hz1 hz2 rfl (by decide) _ _ _ rfl (HO.out.alloc _) ⟨wr.heap.size, 0, none⟩ 1 1 [.string (s.extract fr s.size)] rfl rfl (cell_one_new _ _ _) ?c2z ?c3z ?c4z ?c5z ?_)
      case c2z => first | rfl | (intro u hu; simp at hu; subst hu; rfl)
      case c3z => unfold maxLen; omega
      case c4z => omega
      case c5z => first | omega | (simp; omega)
      · intro v' w1 hown' hgrow _
        have R := owns_snoc rfl HO.out hown' hgrow HB.out hb
        have HR := hid0 R
        clear hown' hgrow HO HB R
        go_wp2
        go_ret
        exact ⟨_, _, rfl, HR.out.1, HN.out, by simp; omega, HR.out.2⟩
end Go.Proofs.YtlfeiadgahdgoaaGreatDoor
namespace Go.Proofs.YtlfeiadgahdgoaaGreatDoor
open Go.RowKit Go.Shelf Go.Lib
theorem hasL_take (S : List Sec) (k : Nat) (x : ByteArray) (h : k < S.length) : hasL (S.take (k + 1)) x = (hasL (S.take k) x || decide (S[k].loc = x)) := by
  unfold hasL
  rw [List.take_succ_eq_append_getElem h, List.any_append]
  simp
theorem hasL_in (S : List Sec) (k : Nat) (x : ByteArray) (h : k < S.length) (e : S[k].loc = x) : hasL S x = true := by
  unfold hasL
  rw [List.any_eq_true]
  exact ⟨S[k], List.getElem_mem h, decide_eq_true e⟩
set_option maxRecDepth 10000 in
set_option maxHeartbeats 800000 in
theorem named_any (S : List Sec) (a : Option Addr) (c : Nat) (x : ByteArray) (w : World) (hl : S.length ≤ 100000) (hX : XA w a S) :
    Calls Tryz.prog 52 #[.agg #[.slice a S.length c], .string x] w fun e w' => e = .returned (.bool (hasL S x)) ∧ Below w.heap.size w w' := by
  have HB : Hid (Below w.heap.size w (w.alloc (.cells #[.slice a S.length c] 24))) := hid0 ((Below.refl _ _).alloc (Nat.le_refl _) _)
  have HX := hid0 (hX.later HB.out)
  have y0 : (w.alloc (.cells #[.slice a S.length c] 24)).cell? ⟨w.heap.size, 0, none⟩ = some (.slice a S.length c) := cell_one_new _ _ _ 0 _ rfl
  clear hX
  go_enter Tryz.func52, Tryz.ntmps52
  go_wp2
  generalize w.alloc (.cells #[.slice a S.length c] 24) = W at *
  go_loopw [5] (fun i wr => ∃ k : Nat, k ≤ S.length ∧ i = .int .i64 (k : Int) ∧ Hid (hasL (S.take k) x = false) ∧ wr = W) (fun i _ => S.length - (intOf i).toNat)
  case atStart => exact ⟨0, Nat.zero_le _, rfl, rfl, rfl⟩
  case round =>
    obtain ⟨k, hk, rfl, HH, rfl⟩ := hrel
    by_cases hlt : k < S.length
    · have q1 : (k : Int) < (S.length : Int) := by omega
      have q2 : (0 : Int) ≤ (k : Int) := by omega
      obtain ⟨b, off, ae, ce, rfl, hb, c0, c1, c2, _⟩ := HX.out.at' k hlt
      have hse := str_eq S[k].loc x
      by_cases he : S[k].loc = x
      · have HV : Hid (hasL S x = true) := hid0 (hasL_in S k x hlt he)
        rw [decide_eq_true he] at hse
        clear he
        generalize S[k].loc = y at *
        go_wp2
        go_ret
        exact ⟨by simp [HV.out], HB.out⟩
      · have HN : Hid (hasL (S.take (k + 1)) x = false) := hid0 (by rw [hasL_take S k x hlt, HH.out, decide_eq_false he]; rfl)
        rw [decide_eq_false he] at hse
        clear he
        generalize S[k].loc = y at *
        go_wp2
        go_roundw
        case rel => exact ⟨k + 1, hlt, by go_num, HN, trivial⟩
        case measure => simp [intOf]; omega
    · have q1 : ¬ (k : Int) < (S.length : Int) := by omega
      have HN : Hid (hasL S x = false) := hid0 (by rw [← HH.out, List.take_of_length_le (by omega)])
      go_wp2
      go_ret
      exact ⟨by simp [HN.out], HB.out⟩
end Go.Proofs.YtlfeiadgahdgoaaGreatDoor
namespace Go.Proofs.YtlfeiadgahdgoaaGreatDoor
open Go.RowKit Go.Shelf Go.Lib
theorem nEd_step (S : List Sec) (k : Nat) (h : k < S.length) : nEd (S.take (k + 1)) = nEd (S.take k) + S[k].ed.length := by
  rw [List.take_succ_eq_append_getElem h, nEd_snoc]
set_option maxRecDepth 10000 in
set_option maxHeartbeats 800000 in
theorem refCount_any (S : List Sec) (a : Option Addr) (c : Nat) (w : World) (hl : S.length ≤ 100000) (hn : nEd S ≤ 100000) (hX : XA w a S) :
    Calls Tryz.prog 54 #[.agg #[.slice a S.length c]] w fun e w' => e = .returned (.int .i64 ((nEd S : Nat) : Int)) ∧ Below w.heap.size w w' := by
  have HB : Hid (Below w.heap.size w (w.alloc (.cells #[.slice a S.length c] 24))) := hid0 ((Below.refl _ _).alloc (Nat.le_refl _) _)
  have HX := hid0 (hX.later HB.out)
  have y0 : (w.alloc (.cells #[.slice a S.length c] 24)).cell? ⟨w.heap.size, 0, none⟩ = some (.slice a S.length c) := cell_one_new _ _ _ 0 _ rfl
  clear hX
  go_enter Tryz.func54, Tryz.ntmps54
  go_wp2
  generalize w.alloc (.cells #[.slice a S.length c] 24) = W at *
  go_loopw [3, 4] (fun n i wr => ∃ k : Nat, k ≤ S.length ∧ i = .int .i64 (k : Int) ∧ n = .int .i64 ((nEd (S.take k) : Nat) : Int) ∧ wr = W) (fun _ i _ => S.length - (intOf i).toNat)
  case atStart => exact ⟨0, Nat.zero_le _, rfl, rfl, rfl⟩
  case round =>
    obtain ⟨k, hk, rfl, rfl, rfl⟩ := hrel
    have hle := nEd_take S k
    by_cases hlt : k < S.length
    · have q1 : (k : Int) < (S.length : Int) := by omega
      have q2 : (0 : Int) ≤ (k : Int) := by omega
      obtain ⟨b, off, ae, ce, rfl, hb, c0, c1, c2, _⟩ := HX.out.at' k hlt
      have HN : Hid (nEd (S.take (k + 1)) = nEd (S.take k) + S[k].ed.length) := hid0 (nEd_step S k hlt)
      have hs : nEd (S.take k) + S[k].ed.length ≤ 100000 := by
        have := nEd_take S (k + 1)
        rw [← nEd_step S k hlt]; omega
      clear hle
      generalize nEd (S.take k) = m at *
      generalize S[k].ed.length = j at *
      go_wp2
      go_roundw
      case rel => exact ⟨k + 1, hlt, by go_num, by rw [HN.out]; go_num, by first | rfl | trivial⟩
      case measure => simp [intOf]; omega
    · have q1 : ¬ (k : Int) < (S.length : Int) := by omega
      have HN : Hid (nEd (S.take k) = nEd S) := hid0 (by rw [List.take_of_length_le (by omega)])
      go_wp2
      go_ret
      exact ⟨by simp [HN.out], HB.out⟩
end Go.Proofs.YtlfeiadgahdgoaaGreatDoor
namespace Go.Proofs.YtlfeiadgahdgoaaGreatDoor
open Go.RowKit Go.Shelf Go.Lib
def rtB : ByteArray := ⟨#[114, 111, 111, 116]⟩
/-- The number of the fault of a line behind those that made S; 0: none. -/
def lfF (S : List Sec) (x : Nat × List UInt8) : Nat :=
  if x.1 = 5 ∨ S.length = 0 ∧ 2 ≤ x.1 then 2
  else if x.1 = 1 then (if 500 ≤ S.length then 3 else if hasL S (strOf x.2) = true then 5 else 0)
  else if x.1 = 3 ∨ x.1 = 4 then (if 32 < (unitsOf x.2).length ∨ 20000 ≤ nEd S then 3 else 0)
  else if x.1 = 2 then (match S.getLast? with
    | none => 2
    | some s => if s.loc = ⟨#[114, 111, 111, 116]⟩ then 1 else if s.par = ⟨#[]⟩ then (if s.ed.length = 0 then 0 else 6) else 5)
  else 0
theorem box2 (w : World) (sv : Value) (k : Int) (T : ByteArray) : ∃ w0, w0 = (w.alloc (.cells #[sv] 24)).alloc (.cells #[.int .i64 k, .string T] 71) ∧ Below w.heap.size w w0 ∧ w0.heap.size = w.heap.size + 2 ∧ w0.heap[w.heap.size]? = some (.cells #[sv] 24 (0, 0)) ∧ w0.heap[w.heap.size + 1]? = some (.cells #[.int .i64 k, .string T] 71 (0, 0)) := by
  refine ⟨_, rfl, ((Below.refl _ _).alloc (Nat.le_refl _) _).alloc (by simp) _, by simp, (Below.heap_alloc _ _ _ (by simp)).trans (heap_alloc_new w _), ?_⟩
  have h := heap_alloc_new (w.alloc (.cells #[sv] 24)) (.cells #[.int .i64 k, .string T] 71)
  rw [show (w.alloc (.cells #[sv] 24)).heap.size = w.heap.size + 1 by simp] at h
  exact h
theorem row1 {w : World} {g : Nat} {a : Value} {t : TypeId} (h : w.heap[g]? = some (.cells #[a] t (0, 0))) : w.cell? ⟨g, 0, none⟩ = some a ∧ w.frozen? ⟨g, 0, none⟩ = false :=
  ⟨by rw [cell_of_row w g _ _ t _ h]; rfl, frozen_of_row w g _ _ t h⟩
set_option maxRecDepth 10000 in
set_option maxHeartbeats 3200000 in
theorem lineFault_any (S : List Sec) (a : Option Addr) (c : Nat) (x : Nat × List UInt8) (w : World) (hl : S.length ≤ 500) (hn : nEd S ≤ 20000) (hx : x.1 ≤ 5) (hxl : x.2.length ≤ 4194400) (hX : XA w a S) :
    Calls Tryz.prog 29 #[.agg #[.slice a S.length c], lnV x] w fun e w' => e = .returned (.int .i64 ((lfF S x : Nat) : Int)) ∧ Below w.heap.size w w' := by
  obtain ⟨k, t⟩ := x
  simp only at hx hxl
  unfold lnV
  simp only
  obtain ⟨V, hV⟩ : ∃ V, V = lfF S (k, t) := ⟨_, rfl⟩
  rw [← hV]
  unfold lfF at hV
  simp only at hV
  have hk : k = 0 ∨ k = 1 ∨ k = 2 ∨ k = 3 ∨ k = 4 ∨ k = 5 := by omega
  have HNm : Hid (∀ W, Below w.heap.size w W → Calls Tryz.prog 52 #[.agg #[.slice a S.length c], .string (strOf t)] W fun e w' => e = .returned (.bool (hasL S (strOf t))) ∧ Below W.heap.size W w') := hid0 (fun W hW => named_any S a c (strOf t) W (by omega) (hX.later hW))
  have HCo : Hid (∀ W, Below w.heap.size w W → Calls Tryz.prog 54 #[.agg #[.slice a S.length c]] W fun e w' => e = .returned (.int .i64 ((nEd S : Nat) : Int)) ∧ Below W.heap.size W w') := hid0 (fun W hW => refCount_any S a c W (by omega) (by omega) (hX.later hW))
  have HSp : Hid (∀ W, Calls Tryz.prog 53 #[.string (strOf t)] W fun e w' => ∃ v q, e = .returned (.slice v (unitsOf t).length q) ∧ Below W.heap.size W w') := hid0 (fun W => by
    refine (refSplit_any (strOf t) (by rw [strOf_size]; exact hxl) W).mono ?_
    rintro e w1 ⟨v, rfl, ho, hb⟩
    obtain ⟨a1, cap, rfl, _⟩ := ho.u3
    rw [strOf_data]
    exact ⟨_, _, rfl, hb⟩)
  obtain ⟨w0, hw0, hB0, hs0, hr0, hr1⟩ := box2 w (.slice a S.length c) (k : Int) (strOf t)
  have HX := hid0 (hX.later hB0)
  have HB0 := hid0 hB0
  have HW : Hid (∀ W, Below w0.heap.size w0 W → Below w.heap.size w W ∧ W.cell? ⟨w.heap.size, 0, none⟩ = some (.slice a S.length c) ∧ W.cell? ⟨w.heap.size + 1, 0, none⟩ = some (.int .i64 (k : Int)) ∧ W.cell? ⟨w.heap.size + 1, 1, none⟩ = some (.string (strOf t))) := hid0 (fun W hW => by
    have q0 := row1 ((hW.block w.heap.size (by omega)).trans hr0)
    have q1 := row2 ((hW.block (w.heap.size + 1) (by omega)).trans hr1)
    exact ⟨Below.later hB0 hW, q0.1, q1.1, q1.2.1⟩)
  have hul : (unitsOf t).length ≤ 4194400 := Nat.le_trans (units_len t t.length 0 (by omega)) hxl
  generalize (unitsOf t).length = U at *
  generalize strOf t = T at *
  clear hX hB0 hr0 hr1 hs0 hxl hx
  obtain ⟨_, x0, x1, x2⟩ := HW.out w0 (Below.refl _ _)
  have hfold := hw0.symm
  clear hw0
  rcases hk with rfl | rfl | rfl | rfl | rfl | rfl <;> simp only [Int.cast_ofNat_Int] at hfold x1 HW ⊢
  · have HV : Hid (V = 0) := hid0 (by rw [hV, if_neg (by omega), if_neg (by omega), if_neg (by omega), if_neg (by omega)])
    clear hV
    by_cases z : (S.length : Int) = 0
    · go_enter Tryz.func29, Tryz.ntmps29
      have z2 : ((S.length : Int) == 0) = true := by rw [z]; rfl
      go_wp2
      go_ret
      exact ⟨by simp [HV.out], HB0.out⟩
    · go_enter Tryz.func29, Tryz.ntmps29
      have z2 : ((S.length : Int) == 0) = false := beq_eq_false_iff_ne.2 z
      go_wp2
      go_ret
      exact ⟨by simp [HV.out], HB0.out⟩
  · rw [if_neg (by omega), if_pos rfl] at hV
    have z2 : ((S.length : Int) == 0) = true ∨ ((S.length : Int) == 0) = false := by cases ((S.length : Int) == 0) <;> simp
    by_cases h5 : 500 ≤ S.length
    · have HV : Hid (V = 3) := hid0 (by rw [hV, if_pos h5])
      have h5I : (500 : Int) ≤ (S.length : Int) := by omega
      have z3 : ((S.length : Int) == 0) = false := beq_eq_false_iff_ne.2 (by omega)
      clear hV z2
      generalize hasL S T = D at *
      go_enter Tryz.func29, Tryz.ntmps29
      go_wp2_with (go_at_call 52; refine (HNm.out _ HB0.out).mono ?_; rintro e w1 ⟨rfl, hb1⟩; have HB1 := hid0 (Below.later HB0.out hb1); clear hb1)
      go_ret
      exact ⟨by simp [HV.out], HB1.out⟩
    · rw [if_neg h5] at hV
      have h5I : ¬ (500 : Int) ≤ (S.length : Int) := by omega
      cases hh : hasL S T with
      | true =>
        rw [hh] at hV HNm
        have HV : Hid (V = 5) := hid0 (by rw [hV, if_pos rfl])
        clear hV hh
        rcases z2 with z3 | z3
        all_goals
          go_enter Tryz.func29, Tryz.ntmps29
          go_wp2_with (go_at_call 52; refine (HNm.out _ HB0.out).mono ?_; rintro e w1 ⟨rfl, hb1⟩; have HB1 := hid0 (Below.later HB0.out hb1); clear hb1)
          go_ret
          exact ⟨by simp [HV.out], HB1.out⟩
      | false =>
        rw [hh] at hV HNm
        have HV : Hid (V = 0) := hid0 (by rw [hV, if_neg (by decide)])
        clear hV hh
        rcases z2 with z3 | z3
        all_goals
          go_enter Tryz.func29, Tryz.ntmps29
          go_wp2_with (go_at_call 52; refine (HNm.out _ HB0.out).mono ?_; rintro e w1 ⟨rfl, hb1⟩; obtain ⟨_, x3, x4, x5⟩ := HW.out _ hb1; have HB1 := hid0 (Below.later HB0.out hb1); clear hb1)
          go_ret
          exact ⟨by simp [HV.out], HB1.out⟩
  · by_cases hS : S.length = 0
    · have HV : Hid (V = 2) := hid0 (by rw [hV, if_pos (.inr ⟨hS, by omega⟩)])
      have z3 : ((S.length : Int) == 0) = true := by rw [hS]; rfl
      clear hV hS
      go_enter Tryz.func29, Tryz.ntmps29
      go_wp2
      go_ret
      exact ⟨by simp [HV.out], HB0.out⟩
    · have z3 : ((S.length : Int) == 0) = false := beq_eq_false_iff_ne.2 (by omega)
      obtain ⟨m, hm⟩ : ∃ m, S.length = m + 1 := ⟨S.length - 1, by omega⟩
      rw [if_neg (by omega), if_neg (by omega), if_neg (by omega), if_pos rfl] at hV
      have hmlt : m < S.length := by omega
      rw [show S.getLast? = some S[m] by rw [List.getLast?_eq_getElem?, hm, Nat.add_sub_cancel, List.getElem?_eq_getElem hmlt]] at hV
      simp only at hV
      have hmI : (S.length : Int) - 1 = (m : Int) := by omega
      have q1 : (m : Int) < (S.length : Int) := by omega
      have q2 : (0 : Int) ≤ (m : Int) := by omega
      obtain ⟨b, off, ae, ce, rfl, hb, c0, c1, c2, _⟩ := HX.out.at' m hmlt
      generalize S[m] = sc at *
      obtain ⟨lo, pa, ed⟩ := sc
      simp only at c0 c1 c2 hV
      obtain ⟨w1, hw1⟩ : ∃ w1, w1 = w0.alloc (.cells #[.string lo, .string pa, .slice ae ed.length ce] 38) := ⟨_, rfl⟩
      obtain ⟨y0, y1, y2⟩ := row3 (w := w1) (g := w0.heap.size) (by rw [hw1]; exact heap_alloc_new w0 _)
      have HB1 : Hid (Below w.heap.size w w1) := hid0 (by rw [hw1]; exact Below.later HB0.out ((Below.refl _ _).alloc (Nat.le_refl _) _))
      have hfold1 := hw1.symm
      clear hw1 hm
      have hse := str_eq lo ⟨#[114, 111, 111, 116]⟩
      rw [ByteArray.toList_eq (⟨#[114, 111, 111, 116]⟩ : ByteArray)] at hse
      have hsp := str_eq pa ⟨#[]⟩
      rw [ByteArray.toList_eq (⟨#[]⟩ : ByteArray)] at hsp
      by_cases e1 : lo = ⟨#[114, 111, 111, 116]⟩
      · have HV : Hid (V = 1) := hid0 (by rw [hV, if_pos e1])
        rw [decide_eq_true e1] at hse
        clear hV e1 hsp
        go_enter Tryz.func29, Tryz.ntmps29
        go_wp2
        go_ret
        exact ⟨by simp [HV.out], HB1.out⟩
      · rw [decide_eq_false e1] at hse
        rw [if_neg e1] at hV
        clear e1
        by_cases e2 : pa = ⟨#[]⟩
        · rw [decide_eq_true e2] at hsp
          rw [if_pos e2] at hV
          clear e2
          by_cases e3 : ed.length = 0
          · have HV : Hid (V = 0) := hid0 (by rw [hV, if_pos e3])
            have e3I : ¬ (0 : Int) < (ed.length : Int) := by omega
            clear hV e3
            go_enter Tryz.func29, Tryz.ntmps29
            go_wp2
            go_ret
            exact ⟨by simp [HV.out], HB1.out⟩
          · have HV : Hid (V = 6) := hid0 (by rw [hV, if_neg e3])
            have e3I : (0 : Int) < (ed.length : Int) := by omega
            clear hV e3
            go_enter Tryz.func29, Tryz.ntmps29
            go_wp2
            go_ret
            exact ⟨by simp [HV.out], HB1.out⟩
        · rw [decide_eq_false e2] at hsp
          have HV : Hid (V = 5) := hid0 (by rw [hV, if_neg e2])
          clear hV e2
          go_enter Tryz.func29, Tryz.ntmps29
          go_wp2
          go_ret
          exact ⟨by simp [HV.out], HB1.out⟩
  iterate 2
    (by_cases hS : S.length = 0
     · have HV : Hid (V = 2) := hid0 (by rw [hV, if_pos (.inr ⟨hS, by omega⟩)])
       have z3 : ((S.length : Int) == 0) = true := by rw [hS]; rfl
       clear hV hS
       go_enter Tryz.func29, Tryz.ntmps29
       go_wp2
       go_ret
       exact ⟨by simp [HV.out], HB0.out⟩
     · have z3 : ((S.length : Int) == 0) = false := beq_eq_false_iff_ne.2 (by omega)
       rw [if_neg (by omega), if_neg (by omega), if_pos (by omega)] at hV
       by_cases e1 : 32 < U
       · have HV : Hid (V = 3) := hid0 (by rw [hV, if_pos (.inl e1)])
         have d1 : decide ((32 : Int) < (U : Int)) = true := decide_eq_true (by omega)
         have e1I : (32 : Int) < (U : Int) := by omega
         clear hV
         go_enter Tryz.func29, Tryz.ntmps29
         go_wp2_with (first
           | (go_at_call 53; refine (HSp.out _).mono ?_; rintro e w1 ⟨v1, q1, rfl, hb1⟩; obtain ⟨hb2, x3, x4, x5⟩ := HW.out _ hb1; have HB1 := hid0 hb2; have HB9 := hid0 hb1; clear hb1 hb2)
           | (go_at_call 54; refine (HCo.out _ HB1.out).mono ?_; rintro e w2 ⟨rfl, hb3⟩; obtain ⟨hb4, x6, x7, x8⟩ := HW.out _ (Below.later HB9.out hb3); have HB2 := hid0 hb4; clear hb3 hb4))
         go_ret
         exact ⟨by simp [HV.out], HB2.out⟩
       · have d1 : decide ((32 : Int) < (U : Int)) = false := decide_eq_false (by omega)
         have e1I : ¬ (32 : Int) < (U : Int) := by omega
         by_cases e2 : 20000 ≤ nEd S
         · have HV : Hid (V = 3) := hid0 (by rw [hV, if_pos (.inr e2)])
           have d2 : decide ((20000 : Int) ≤ ((nEd S : Nat) : Int)) = true := decide_eq_true (by omega)
           have e2I : (20000 : Int) ≤ ((nEd S : Nat) : Int) := by omega
           clear hV
           go_enter Tryz.func29, Tryz.ntmps29
           go_wp2_with (first
             | (go_at_call 53; refine (HSp.out _).mono ?_; rintro e w1 ⟨v1, q1, rfl, hb1⟩; obtain ⟨hb2, x3, x4, x5⟩ := HW.out _ hb1; have HB1 := hid0 hb2; have HB9 := hid0 hb1; clear hb1 hb2)
             | (go_at_call 54; refine (HCo.out _ HB1.out).mono ?_; rintro e w2 ⟨rfl, hb3⟩; obtain ⟨hb4, x6, x7, x8⟩ := HW.out _ (Below.later HB9.out hb3); have HB2 := hid0 hb4; clear hb3 hb4))
           go_ret
           exact ⟨by simp [HV.out], HB2.out⟩
         · have HV : Hid (V = 0) := hid0 (by rw [hV, if_neg (by omega)])
           have d2 : decide ((20000 : Int) ≤ ((nEd S : Nat) : Int)) = false := decide_eq_false (by omega)
           have e2I : ¬ (20000 : Int) ≤ ((nEd S : Nat) : Int) := by omega
           clear hV
           go_enter Tryz.func29, Tryz.ntmps29
           go_wp2_with (first
             | (go_at_call 53; refine (HSp.out _).mono ?_; rintro e w1 ⟨v1, q1, rfl, hb1⟩; obtain ⟨hb2, x3, x4, x5⟩ := HW.out _ hb1; have HB1 := hid0 hb2; have HB9 := hid0 hb1; clear hb1 hb2)
             | (go_at_call 54; refine (HCo.out _ HB1.out).mono ?_; rintro e w2 ⟨rfl, hb3⟩; obtain ⟨hb4, x6, x7, x8⟩ := HW.out _ (Below.later HB9.out hb3); have HB2 := hid0 hb4; clear hb3 hb4))
           go_ret
           exact ⟨by simp [HV.out], HB2.out⟩)
  · have HV : Hid (V = 2) := hid0 (by rw [hV, if_pos (.inl rfl)])
    clear hV
    go_enter Tryz.func29, Tryz.ntmps29
    go_wp2
    go_ret
    exact ⟨by simp [HV.out], HB0.out⟩
end Go.Proofs.YtlfeiadgahdgoaaGreatDoor
namespace Go.Proofs.YtlfeiadgahdgoaaGreatDoor
open Go.RowKit Go.Shelf Go.Lib
/-- The sections behind a line without a fault. -/
def withF (S : List Sec) (x : Nat × List UInt8) : List Sec :=
  if x.1 = 1 then S ++ [⟨strOf x.2, ⟨#[]⟩, []⟩]
  else if x.1 = 2 then (match S.getLast? with
    | none => S
    | some s => S.dropLast ++ [⟨s.loc, strOf x.2, s.ed⟩])
  else if x.1 = 3 ∨ x.1 = 4 then (match S.getLast? with
    | none => S
    | some s => S.dropLast ++ [⟨s.loc, s.par, s.ed ++ [(decide (x.1 = 3), strOf x.2)]⟩])
  else S
/-- The number of a refusal in the document's list. -/
def numS (i : Nat) : Nat := if i = 6 then 6 else i + 1
def lineD (S : List Sec) (x : Nat × List UInt8) : Stp := if lfF S x = 0 then .go (withF S x) else .stop (lfF S x)
def stpN : Stp → Stp
  | .go S => .go S
  | .stop i => .stop (numS i)
theorem last_nil {S : List Sec} (h : S.getLast? = none) : S = [] := by
  cases S with
  | nil => rfl
  | cons a l => simp at h
theorem lf1 (S : List Sec) (c : List UInt8) : lfF S (1, c) = if 500 ≤ S.length then 3 else if hasL S (strOf c) = true then 5 else 0 := by simp [lfF]
theorem lf5 (S : List Sec) (c : List UInt8) : lfF S (5, c) = 2 := by simp [lfF]
theorem lf2 {S : List Sec} {s : Sec} (c : List UInt8) (h : S.getLast? = some s) : lfF S (2, c) = if s.loc = ⟨#[114, 111, 111, 116]⟩ then 1 else if s.par = ⟨#[]⟩ then (if s.ed.length = 0 then 0 else 6) else 5 := by
  have h1 : ¬ S.length = 0 := fun e => by rw [List.length_eq_zero_iff.1 e] at h; cases h
  unfold lfF
  simp only
  simp [h1, h]
theorem lf34 {S : List Sec} {s : Sec} (ad : Bool) (c : List UInt8) (h : S.getLast? = some s) : lfF S (if ad then 3 else 4, c) = if 32 < (unitsOf c).length ∨ 20000 ≤ nEd S then 3 else 0 := by
  have h1 : ¬ S.length = 0 := fun e => by rw [List.length_eq_zero_iff.1 e] at h; cases h
  unfold lfF
  cases ad
  · simp [h1]
  · simp [h1]
theorem with1 (S : List Sec) (c : List UInt8) : withF S (1, c) = S ++ [⟨strOf c, ⟨#[]⟩, []⟩] := by simp [withF]
theorem with2 {S : List Sec} {s : Sec} (c : List UInt8) (h : S.getLast? = some s) : withF S (2, c) = S.dropLast ++ [⟨s.loc, strOf c, s.ed⟩] := by simp [withF, h]
theorem with34 {S : List Sec} {s : Sec} (ad : Bool) (c : List UInt8) (h : S.getLast? = some s) : withF S (if ad then 3 else 4, c) = S.dropLast ++ [⟨s.loc, s.par, s.ed ++ [(ad, strOf c)]⟩] := by
  cases ad <;> simp [withF, h]
theorem line5 (S : List Sec) : lineD S (5, []) = .stop 2 := by
  unfold lineD
  rw [lf5]
  rfl
theorem line0 {S : List Sec} {k : Nat} (c : List UInt8) (hk : 2 ≤ k) (h : S.getLast? = none) : lineD S (k, c) = .stop 2 := by
  have := last_nil h
  subst this
  have h2 : lfF [] (k, c) = 2 := by
    unfold lfF
    rw [if_pos (.inr ⟨rfl, hk⟩)]
  unfold lineD
  rw [h2]
  rfl
/-- A head's. -/
theorem head_same (S : List Sec) (r : List UInt8) (hs : Lib.hasSuffix r [93] = true) : stpN (headS S r) = lineD S (tagK 1 (Lib.trimS (Lib.trimSuffix r [93]) [32, 9])) := by
  unfold headS tagK
  rw [if_pos hs]
  cases tagF (Lib.trimS (Lib.trimSuffix r [93]) [32, 9]) with
  | none => simp only; rw [line5]; rfl
  | some c =>
    simp only
    unfold lineD
    rw [lf1, with1]
    by_cases h5 : S.length < 500
    · have h6 : ¬ 500 ≤ S.length := by omega
      by_cases hh : hasL S (strOf c) = true
      · simp [h5, h6, hh, stpN, numS]
      · simp [h5, h6, hh, stpN]
    · have h6 : 500 ≤ S.length := by omega
      simp [h5, h6, stpN, numS]
theorem par_same (S : List Sec) (u : List UInt8) (hu : (Lib.trimLeftS u [32, 9]).length < u.length) : stpN (parS S u) = lineD S (tagK 2 (Lib.trimLeftS u [32, 9])) := by
  unfold parS tagK
  rw [if_pos hu]
  cases tagF (Lib.trimLeftS u [32, 9]) with
  | none => simp only; rw [line5]; rfl
  | some c =>
    simp only
    cases hS : S.getLast? with
    | none => simp only; rw [line0 c (by omega) hS]; rfl
    | some s =>
      simp only
      unfold lineD
      rw [lf2 c hS, with2 c hS]
      by_cases h1 : s.loc = ⟨#[114, 111, 111, 116]⟩
      · simp only [h1, if_true]; rfl
      · simp only [h1, if_false]
        by_cases h2 : s.par = ⟨#[]⟩
        · simp only [h2, if_true]
          by_cases h3 : s.ed.length = 0
          · simp only [h3, if_true]; rfl
          · simp only [h3, if_false]; rfl
        · simp only [h2, if_false]; rfl
theorem enc_nil (ps : List Nat) : encAll (toI ps) = [] ↔ ps = [] := by
  constructor
  · intro h
    cases ps with
    | nil => rfl
    | cons n l =>
      have e : encAll (toI (n :: l)) = encL n ++ encAll (toI l) := by simp [toI, encAll]
      rw [e] at h
      exact absurd (List.append_eq_nil_iff.1 h).1 (encL_ne n)
  · rintro rfl; rfl
theorem ed_same (S : List Sec) (b : List UInt8) (ad : Bool) (ht : Lib.trimRightS b [32, 9] = b) : stpN (edS S ad b) = lineD S (entK (if ad then 3 else 4) b) := by
  unfold edS entK readR contR Lib.trimS
  rw [ht]
  cases pntsOf (Lib.trimLeftS b [32, 9]) with
  | none => simp only; rw [line5]; rfl
  | some ps =>
    simp only [List.nil_append]
    by_cases hs : (toI ps).all scalarP = true
    · rw [if_pos hs]
      simp only
      by_cases h0 : ps = []
      · subst h0
        rw [if_neg (by simp), if_pos (by rfl), line5]; rfl
      · have hl : 0 < ps.length := List.length_pos_iff.2 h0
        rw [if_pos ⟨hs, hl⟩, if_neg (fun e => h0 ((enc_nil ps).1 e))]
        have hu : (unitsOf (encAll (toI ps))).length = ps.length := by
          have := congrArg List.length (units_enc (toI ps) hs)
          simpa [toI] using this
        cases hS : S.getLast? with
        | none => simp only; rw [line0 _ (by cases ad <;> decide) hS]; rfl
        | some s =>
          simp only
          unfold lineD
          rw [lf34 ad _ hS, with34 ad _ hS, hu]
          by_cases h3 : ps.length ≤ 32 ∧ nEd S < 20000
          · have h4 : ¬ (32 < ps.length ∨ 20000 ≤ nEd S) := by omega
            simp only [if_pos h3, if_neg h4]; rfl
          · have h4 : 32 < ps.length ∨ 20000 ≤ nEd S := by omega
            simp only [if_neg h3, if_pos h4]; rfl
    · rw [if_neg hs, if_neg (fun h => hs h.1)]
      simp only
      rw [line5]
      rfl
theorem trimR_tail {a : UInt8} {r : List UInt8} (h : Lib.trimRightS (a :: r) [32, 9] = a :: r) : Lib.trimRightS r [32, 9] = r := by
  rw [trimR_cons] at h
  split at h
  · cases h
  · injection h
theorem trimR_again (l : List UInt8) : Lib.trimRightS (Lib.trimRightS l [32, 9]) [32, 9] = Lib.trimRightS l [32, 9] := by
  induction l with
  | nil => rfl
  | cons a t ih =>
    rw [trimR_cons]
    split
    · rfl
    · rename_i h
      rw [trimR_cons, ih, if_neg h]
theorem lineB_right (l : List UInt8) : Lib.trimRightS (lineB l) [32, 9] = lineB l := by
  unfold lineB
  rw [← trim_comm, trimR_again]
theorem suf_last (r : List UInt8) (c : UInt8) : Lib.hasSuffix r [c] = decide (r.getLast? = some c) := by
  unfold Lib.hasSuffix
  rw [Bool.eq_iff_iff, List.isSuffixOf_iff_suffix, decide_eq_true_eq]
  constructor
  · rintro ⟨t, rfl⟩; simp
  · intro h
    obtain ⟨t, rfl⟩ : ∃ t, r = t ++ [c] := by
      have hn : r ≠ [] := fun e => by rw [e] at h; cases h
      refine ⟨r.dropLast, ?_⟩
      rw [List.getLast?_eq_some_getLast hn] at h
      injection h with h
      rw [← h, List.dropLast_concat_getLast]
    exact ⟨t, rfl⟩
theorem suf_drop (r : List UInt8) (c : UInt8) : Lib.trimSuffix r [c] = if r.getLast? = some c then r.dropLast else r := by
  unfold Lib.trimSuffix
  rw [suf_last]
  by_cases h : r.getLast? = some c
  · rw [decide_eq_true h, if_pos rfl, if_pos h, List.dropLast_eq_take]; rfl
  · rw [decide_eq_false h, if_neg (by decide), if_neg h]
theorem pre_one (a c : UInt8) (r : List UInt8) : Lib.hasPrefix (a :: r) [c] = (c == a) := by
  simp [Lib.hasPrefix, List.isPrefixOf]
theorem pre_one_drop (c : UInt8) (r : List UInt8) : Lib.trimPrefix (c :: r) [c] = r := by
  unfold Lib.trimPrefix
  rw [pre_one, beq_self_eq_true, if_pos rfl]
  rfl
theorem pre_par {a : UInt8} {r : List UInt8} (h : a ≠ 112) : Lib.hasPrefix (a :: r) parW = false := by
  unfold Lib.hasPrefix parW
  rw [List.isPrefixOf]
  simp only [Bool.and_eq_false_imp, beq_iff_eq]
  intro e
  exact absurd e.symm h
/-- What the program makes of a line is what the document does. -/
theorem line_same (S : List Sec) (t : List UInt8) (ht : Lib.trimRightS t [32, 9] = t) : stpN (lineS S t) = lineD S (whatF t) := by
  cases t with
  | nil => simp [lineS, stpN, whatF, lineD, lfF, withF]
  | cons a r =>
    have hr := trimR_tail ht
    unfold lineS
    rw [if_neg (by simp), pre_one, pre_one, pre_one]
    by_cases h91 : a = 91
    · subst h91
      rw [if_pos (by decide), pre_one_drop]
      by_cases hs : r.getLast? = some 93
      · rw [head_same S r (by rw [suf_last, decide_eq_true hs]), suf_drop, if_pos hs]
        simp only [whatF, hs, and_self, if_true]
      · unfold headS
        rw [suf_last, decide_eq_false hs, if_neg (by decide)]
        have e : whatF (91 :: r) = (5, []) := by
          rw [whatF, if_neg (fun h => hs h.2), if_neg (by decide), if_neg (by decide), pre_par (by decide), if_neg (fun h => by cases h.2.1)]
        rw [e, line5]
        rfl
    · rw [if_neg (by simpa using fun e => h91 e.symm)]
      by_cases h43 : a = 43
      · subst h43
        have e : whatF (43 :: r) = entK 3 r := by rw [whatF, if_neg (fun h => h91 h.1), if_pos rfl]
        rw [pre_par (by decide), if_neg (by decide), if_pos (by decide), pre_one_drop, ed_same S r true hr, e]
        rfl
      · by_cases h45 : a = 45
        · subst h45
          have e : whatF (45 :: r) = entK 4 r := by rw [whatF, if_neg (fun h => h91 h.1), if_neg h43, if_pos rfl]
          rw [pre_par (by decide), if_neg (by decide), if_neg (by decide), if_pos (by decide), pre_one_drop, ed_same S r false hr, e]
          rfl
        · rw [if_neg (c := (43 == a) = true) (by simpa using fun e => h43 e.symm), if_neg (c := (45 == a) = true) (by simpa using fun e => h45 e.symm)]
          have e : whatF (a :: r) = if 7 < (a :: r).length ∧ Lib.hasPrefix (a :: r) parW = true ∧ (((a :: r)[6]?).map blankB) = some true then tagK 2 (Lib.trimS ((a :: r).drop 6) [32, 9]) else (5, []) := by
            rw [whatF, if_neg (fun h => h91 h.1), if_neg h43, if_neg h45]
          rw [e]
          clear e
          cases hp : Lib.hasPrefix (a :: r) parW with
          | false =>
            rw [if_neg (by decide), if_neg (fun h => by cases h.2.1), line5]
            rfl
          | true =>
            rw [if_pos rfl]
            obtain ⟨u, hu⟩ := List.isPrefixOf_iff_prefix.1 hp
            have hd : Lib.trimPrefix (a :: r) parW = u := by
              unfold Lib.trimPrefix
              rw [if_pos hp, ← hu]
              rfl
            have hru : Lib.trimRightS u [32, 9] = u := by
              rw [← hu] at ht
              exact trimR_tail (trimR_tail (trimR_tail (trimR_tail (trimR_tail (trimR_tail ht)))))
            rw [hd, ← hu]
            have h6 : (parW ++ u)[6]? = u[0]? := by unfold parW; rfl
            have h6d : (parW ++ u).drop 6 = u := by unfold parW; rfl
            have h6l : (parW ++ u).length = u.length + 6 := by unfold parW; simp
            rw [h6, h6d, h6l]
            unfold Lib.trimS
            rw [hru]
            by_cases hb : 7 < u.length + 6 ∧ true = true ∧ (u[0]?).map blankB = some true
            · rw [if_pos hb]
              refine par_same S u ?_
              cases u with
              | nil => simp at hb
              | cons b u =>
                have hbb : blankB b = true := by simpa using hb.2.2
                rw [trimL_blank hbb]
                have := dropWhile_le ([32, 9].contains ·) u
                show (Lib.trimLeftS u [32, 9]).length < (b :: u).length
                unfold Lib.trimLeftS
                simp only [List.length_cons]
                omega
            · rw [if_neg hb, line5]
              unfold parS
              rw [if_neg]
              · rfl
              · cases u with
                | nil => simp [Lib.trimLeftS]
                | cons b u =>
                  cases hbb : blankB b with
                  | false => rw [trimL_id hbb]; omega
                  | true =>
                    have hu0 : u ≠ [] := fun e => by
                      subst e
                      rw [trimR_cons, if_pos ⟨hbb, rfl⟩] at hru
                      cases hru
                    have := List.length_pos_iff.2 hu0
                    exact absurd ⟨by simp; omega, rfl, by simp [hbb]⟩ hb
end Go.Proofs.YtlfeiadgahdgoaaGreatDoor
namespace Go.Proofs.YtlfeiadgahdgoaaGreatDoor
open Go.RowKit Go.Shelf Go.Lib
def docP (S : List Sec) (n : Nat) : List (List UInt8) → PRes
  | [] => .ok S
  | x :: r => match lineD S (whatF (lineB x)) with
    | .stop i => .stop (n + 1) i
    | .go S' => docP S' (n + 1) r
def prsN : PRes → PRes
  | .ok S => .ok S
  | .stop n i => .stop n (numS i)
theorem linesD_at (x y cur : List UInt8) (h : (10 : UInt8) ∉ x) : linesD cur (x ++ 10 :: y) = chopR (cur ++ x) :: linesD [] y := by
  induction x generalizing cur with
  | nil => rw [List.nil_append, linesD, if_pos rfl, List.append_nil]
  | cons a x ih =>
    rw [List.cons_append, linesD, if_neg (fun e => h (by rw [e]; exact .head _)), ih _ (fun hm => h (.tail _ hm)), List.append_assoc]
    rfl
theorem linesD_none (x cur : List UInt8) (h : (10 : UInt8) ∉ x) : linesD cur x = if cur ++ x = [] then [] else [cur ++ x] := by
  induction x generalizing cur with
  | nil => rw [linesD, List.append_nil]
  | cons a x ih =>
    rw [linesD, if_neg (fun e => h (by rw [e]; exact .head _)), ih _ (fun hm => h (.tail _ hm)), List.append_assoc]
    rfl
theorem chop_suf (x : List UInt8) : Lib.trimSuffix x [13] = chopR x := by
  rw [suf_drop]
  rfl
theorem line_doc (S : List Sec) (x : List UInt8) : stpN (lineS S (lineB x)) = lineD S (whatF (lineB x)) := line_same S (lineB x) (lineB_right x)
theorem lineB_nil : lineB [] = [] := by
  unfold lineB
  have : noC [] = [] := by simp [noC]
  rw [this]
  rfl
theorem doc_same : ∀ (d : Nat) (S : List Sec) (n : Nat) (l : List UInt8), l.length ≤ d → prsN (parA S n l) = docP S n (linesD [] l)
  | 0, S, n, l, h => by
    have : l = [] := List.length_eq_zero_iff.1 (by omega)
    subst this
    rw [parA_step]
    have hc : Lib.cut ([] : List UInt8) [10] = ([], [], false) := by
      rcases cut_cases [] 10 with ⟨x, y, e, _⟩ | ⟨_, e⟩
      · simp at e
      · exact e
    unfold cutN
    rw [hc]
    simp only [Bool.false_eq_true, if_false]
    rw [lineB_nil]
    rfl
  | d + 1, S, n, l, h => by
    rw [parA_step]
    rcases cut_cases l 10 with ⟨x, y, e, hx, hc⟩ | ⟨hn, hc⟩
    · have hcn : cutN l = chopR x := by unfold cutN; rw [hc]; simp only [if_true]; exact chop_suf x
      rw [hcn, hc, e, linesD_at x y [] hx, List.nil_append, docP, ← line_doc]
      have hy : y.length ≤ d := by
        have := congrArg List.length e
        simp at this
        omega
      cases lineS S (lineB (chopR x)) with
      | stop i => rfl
      | go S' =>
        simp only [if_true]
        exact doc_same d S' (n + 1) y hy
    · have hcn : cutN l = l := by unfold cutN; rw [hc]; rfl
      rw [hcn, hc, linesD_none l [] hn, List.nil_append]
      simp only [Bool.false_eq_true, if_false]
      by_cases h0 : l = []
      · subst h0
        rw [if_pos rfl, lineB_nil]
        rfl
      · rw [if_neg h0, docP, ← line_doc]
        cases lineS S (lineB l) with
        | stop i => rfl
        | go S' => rfl
end Go.Proofs.YtlfeiadgahdgoaaGreatDoor
namespace Go.Proofs.YtlfeiadgahdgoaaGreatDoor
open Go.RowKit Go.Shelf Go.Lib
structure WB (w : World) (lo : Nat) (v : Value) (S : List SecO) : Prop where
  sec : w.ownsRow lo 38 3 v S.length (cellsO S)
  ed : ∀ x ∈ S, OwnE w lo x.ev x.s.ed.length x.s.ed
  ne : ∀ x ∈ S, ∀ g, x.ev.ownBlock = some g → v.ownBlock ≠ some g
  pw : S.Pairwise fun x y => ∀ g, x.ev.ownBlock = some g → y.ev.ownBlock ≠ some g
/-- A block of it. -/
def WB.owns (v : Value) (S : List SecO) (k : Nat) : Prop := v.ownBlock = some k ∨ ∃ x ∈ S, x.ev.ownBlock = some k
theorem WB.keep {w w' : World} {lo : Nat} {v : Value} {S : List SecO} (h : WB w lo v S) (hb : ∀ k, WB.owns v S k → w'.heap[k]? = w.heap[k]?) : WB w' lo v S where
  sec := own_blk h.sec (fun k hk => hb k (.inl hk))
  ed := fun x hx => own_blk (h.ed x hx) (fun k hk => hb k (.inr ⟨x, hx, hk⟩))
  ne := h.ne
  pw := h.pw
theorem WB.lt {w : World} {lo : Nat} {v : Value} {S : List SecO} (h : WB w lo v S) {k : Nat} (hk : WB.owns v S k) : lo ≤ k ∧ k < w.heap.size := by
  rcases hk with hk | ⟨x, hx, hk⟩
  · exact World.ownsRow.lt h.sec k hk
  · exact World.ownsRow.lt (h.ed x hx) k hk
theorem WB.later {w w' : World} {lo : Nat} {v : Value} {S : List SecO} (h : WB w lo v S) (hb : Below w.heap.size w w') : WB w' lo v S := h.keep (fun k hk => hb.block k (h.lt hk).2)
theorem WB.nil (w : World) (lo : Nat) : WB w lo (.slice none 0 0) [] := ⟨World.ownsRow_nil _ _ _ _, fun _ h => absurd h (List.not_mem_nil), fun _ h => absurd h (List.not_mem_nil), List.Pairwise.nil⟩
theorem WB.form {w : World} {lo : Nat} {v : Value} {S : List SecO} (h : WB w lo v S) : ∃ a c, v = .slice a S.length c ∧ S.length ≤ c := by
  rcases h.sec.2 with ⟨h1, h2⟩ | ⟨g, cap, cur, h1, _, _, h4, _⟩
  · exact ⟨none, 0, by rw [h1, h2], by omega⟩
  · exact ⟨_, cap, h1, h4⟩
theorem WB.xa {w : World} {lo : Nat} {a : Option Addr} {n c : Nat} {S : List SecO} (h : WB w lo (.slice a n c) S) : XA w a (secsO S) := ⟨fun k hk => by
  have hk2 : k < S.length := by rw [secsO_length] at hk; exact hk
  have h0 := h.sec
  have e : (secsO S)[k] = S[k].s := by simp [secsO]
  obtain ⟨ae, ce, e1, h1⟩ := (h.ed S[k] (List.getElem_mem hk2)).ea
  rcases h.sec.2 with ⟨h2, h3⟩ | ⟨g, cap, cur, h2, hg, hh, _⟩
  · omega
  · injection h2 with e2 e3 e4
    subst e2 e3 e4
    obtain ⟨c0, c1, c2⟩ := cellsO_at S k hk2
    rw [e]
    refine ⟨g, 0, ae, ce, rfl, (Array.getElem?_eq_some_iff.1 hh).1, ?_, ?_, ?_, h1⟩
    · rw [Nat.zero_add, World.ownsRow.cellAt h0 _ (by omega)]; exact c0
    · rw [Nat.zero_add, World.ownsRow.cellAt h0 _ (by omega)]; exact c1
    · rw [Nat.zero_add, World.ownsRow.cellAt h0 _ (by omega), c2, e1]⟩
/-- A section more. -/
theorem WB.head {w W w1 : World} {lo : Nat} {v v' : Value} {S : List SecO} {c : ByteArray} (h : WB w lo v S) (hW : ∀ k, k < w.heap.size → W.heap[k]? = w.heap[k]?) (hsz : w.heap.size ≤ W.heap.size) (hg : W.grownBy w1 v.ownBlock)
    (hown : w1.ownsRow lo 38 3 v' (S.length + 1) (cellsO S ++ [.string c, .string ⟨#[]⟩, .slice none 0 0])) (hat : v'.ownBlock = v.ownBlock ∨ v'.ownBlock = some W.heap.size) :
    WB w1 lo v' (S ++ [⟨⟨c, ⟨#[]⟩, []⟩, .slice none 0 0⟩]) ∧ ∀ k, WB.owns v' (S ++ [⟨⟨c, ⟨#[]⟩, []⟩, .slice none 0 0⟩]) k → k < w.heap.size ∨ k = W.heap.size := by
  have b1 : ∀ k, k < w.heap.size → v.ownBlock ≠ some k → w1.heap[k]? = w.heap[k]? := fun k h2 h3 => (hg.block k (by omega) (fun e => h3 e.symm)).trans (hW k h2)
  have hnew : ∀ x ∈ S, ∀ g, x.ev.ownBlock = some g → v'.ownBlock ≠ some g := fun x hx g hgx e => by
    rcases hat with e2 | e2
    · rw [e2] at e; exact h.ne x hx g hgx e
    · rw [e2] at e
      have := (World.ownsRow.lt (h.ed x hx) g hgx).2
      injection e with e
      omega
  refine ⟨⟨?_, fun x hx => ?_, fun x hx => ?_, ?_⟩, ?_⟩
  · rw [List.length_append, List.length_singleton, cellsO_append]
    exact hown
  · rcases List.mem_append.1 hx with hx | hx
    · refine own_blk (h.ed x hx) (fun k hk => ?_)
      exact b1 k (World.ownsRow.lt (h.ed x hx) k hk).2 (h.ne x hx k hk)
    · rw [List.mem_singleton] at hx
      subst hx
      exact World.ownsRow_nil _ _ _ _
  · rcases List.mem_append.1 hx with hx | hx
    · exact hnew x hx
    · rw [List.mem_singleton] at hx
      subst hx
      intro g hgx
      cases hgx
  · refine List.pairwise_append.2 ⟨h.pw, List.pairwise_singleton _ _, fun y hy z hz => ?_⟩
    rw [List.mem_singleton] at hz
    subst hz
    intro g hgx e
    cases e
  · rintro k (hk | ⟨x, hx, hk⟩)
    · rcases hat with e | e
      · rw [e] at hk; exact .inl (h.lt (.inl hk)).2
      · rw [e] at hk; injection hk with hk; exact .inr hk.symm
    · rcases List.mem_append.1 hx with hx | hx
      · exact .inl (h.lt (.inr ⟨x, hx, hk⟩)).2
      · rw [List.mem_singleton] at hx
        subst hx
        cases hk
theorem WB.len {w : World} {lo g n cap : Nat} {S : List SecO} (h : WB w lo (.slice (some ⟨g, 0, none⟩) n cap) S) : S.length = n := by
  rcases h.sec.2 with ⟨h1, _⟩ | ⟨_, _, _, h1, _⟩
  · cases h1
  · injection h1 with _ e; exact e.symm
/-- The last section's parent is written. -/
theorem WB.par {w : World} {lo g n cap : Nat} {P : List SecO} {x : SecO} (h : WB w lo (.slice (some ⟨g, 0, none⟩) n cap) (P ++ [x])) (c : ByteArray) : WB (w.setCell ⟨g, P.length * 3 + 1, none⟩ (.string c)) lo (.slice (some ⟨g, 0, none⟩) n cap) (P ++ [⟨⟨x.s.loc, c, x.s.ed⟩, x.ev⟩]) := by
  have hn := h.len
  have hmem : ∀ y ∈ P ++ [(⟨⟨x.s.loc, c, x.s.ed⟩, x.ev⟩ : SecO)], ∃ z ∈ P ++ [x], z.ev = y.ev ∧ z.s.ed = y.s.ed := fun y hy => by
    rcases List.mem_append.1 hy with hy | hy
    · exact ⟨y, List.mem_append.2 (.inl hy), rfl, rfl⟩
    · rw [List.mem_singleton] at hy
      subst hy
      exact ⟨x, by simp, rfl, rfl⟩
  refine ⟨?_, fun y hy => ?_, fun y hy => ?_, ?_⟩
  · have h0 := h.sec
    rw [hn] at h0
    have h1 := (World.ownsRow.stored h0 (P.length * 3 + 1) (.string c)).1
    rw [cellsO_set] at h1
    rw [List.length_append, List.length_singleton, ← show (P ++ [x]).length = P.length + 1 by simp, hn, cellsO_append]
    exact h1
  · obtain ⟨z, hz, e1, e2⟩ := hmem y hy
    rw [← e1, ← e2]
    exact own_blk (h.ed z hz) (fun k hk => Below.heap_setCell w _ _ k (fun e => h.ne z hz k hk (by simp only at e; rw [e]; rfl)))
  · obtain ⟨z, hz, e1, _⟩ := hmem y hy
    rw [← e1]
    exact h.ne z hz
  · have hp := List.pairwise_append.1 h.pw
    refine List.pairwise_append.2 ⟨hp.1, List.pairwise_singleton _ _, fun y hy z hz => ?_⟩
    rw [List.mem_singleton] at hz
    subst hz
    exact hp.2.2 y hy x (by simp)
/-- An edit more. -/
theorem WB.edit {w W w1 : World} {lo g n cap : Nat} {P : List SecO} {x : SecO} {ev' : Value} {ad : Bool} {e : ByteArray} (h : WB w lo (.slice (some ⟨g, 0, none⟩) n cap) (P ++ [x])) (hW : ∀ k, k < w.heap.size → W.heap[k]? = w.heap[k]?) (hsz : w.heap.size ≤ W.heap.size) (hg : W.grownBy w1 x.ev.ownBlock)
    (hown : w1.ownsRow lo 40 2 ev' (x.s.ed.length + 1) (cellsE x.s.ed ++ [.bool ad, .string e])) (hat : ev'.ownBlock = x.ev.ownBlock ∨ ev'.ownBlock = some W.heap.size) :
    WB (w1.setCell ⟨g, P.length * 3 + 2, none⟩ ev') lo (.slice (some ⟨g, 0, none⟩) n cap) (P ++ [⟨⟨x.s.loc, x.s.par, x.s.ed ++ [(ad, e)]⟩, ev'⟩]) ∧ ∀ k, WB.owns (.slice (some ⟨g, 0, none⟩) n cap) (P ++ [⟨⟨x.s.loc, x.s.par, x.s.ed ++ [(ad, e)]⟩, ev'⟩]) k → k < w.heap.size ∨ k = W.heap.size := by
  have hgl := World.ownsRow.lt h.sec g rfl
  have hx : x ∈ P ++ [x] := by simp
  have hn := h.len
  have b1 : ∀ k, k < w.heap.size → x.ev.ownBlock ≠ some k → w1.heap[k]? = w.heap[k]? := fun k h2 h3 => (hg.block k (by omega) (fun e => h3 e.symm)).trans (hW k h2)
  have hxg : x.ev.ownBlock ≠ some g := fun e => h.ne x hx g e rfl
  have hev : ev'.ownBlock ≠ some g := fun e2 => by
    rcases hat with e3 | e3
    · rw [e3] at e2; exact hxg e2
    · rw [e3] at e2; injection e2 with e2; omega
  have setd : ∀ k, ¬ k = g → (w1.setCell ⟨g, P.length * 3 + 2, none⟩ ev').heap[k]? = w1.heap[k]? := fun k h1 => Below.heap_setCell w1 _ _ k h1
  have hold : ∀ y ∈ P, OwnE (w1.setCell ⟨g, P.length * 3 + 2, none⟩ ev') lo y.ev y.s.ed.length y.s.ed := fun y hy => by
    have hy2 : y ∈ P ++ [x] := List.mem_append.2 (.inl hy)
    refine own_blk (h.ed y hy2) (fun k hk => ?_)
    have hk2 := World.ownsRow.lt (h.ed y hy2) k hk
    have hk3 : ¬ k = g := fun e => h.ne y hy2 k hk (by rw [e]; rfl)
    exact (setd k hk3).trans (b1 k hk2.2 ((List.pairwise_append.1 h.pw).2.2 y hy x (by simp) k hk))
  refine ⟨⟨?_, fun y hy => ?_, fun y hy => ?_, ?_⟩, ?_⟩
  · have h0 : w1.ownsRow lo 38 3 (.slice (some ⟨g, 0, none⟩) n cap) n (cellsO (P ++ [x])) := by
      have h1 := h.sec
      rw [hn] at h1
      exact own_blk h1 (fun k hk => by cases hk; exact b1 g hgl.2 hxg)
    have h1 := (World.ownsRow.stored h0 (P.length * 3 + 2) ev').1
    rw [cellsO_set] at h1
    rw [List.length_append, List.length_singleton, ← show (P ++ [x]).length = P.length + 1 by simp, hn, cellsO_append]
    exact h1
  · rcases List.mem_append.1 hy with hy | hy
    · exact hold y hy
    · rw [List.mem_singleton] at hy
      subst hy
      unfold OwnE
      rw [cellsE_append, List.length_append, List.length_singleton]
      exact own_blk hown (fun k hk => setd k (fun e => hev (by rw [← e]; exact hk)))
  · rcases List.mem_append.1 hy with hy | hy
    · exact h.ne y (List.mem_append.2 (.inl hy))
    · rw [List.mem_singleton] at hy
      subst hy
      intro q hq e2
      cases e2
      exact hev hq
  · have hp := List.pairwise_append.1 h.pw
    refine List.pairwise_append.2 ⟨hp.1, List.pairwise_singleton _ _, fun y hy z hz => ?_⟩
    rw [List.mem_singleton] at hz
    subst hz
    intro q hq e2
    rcases hat with e3 | e3
    · rw [e3] at e2; exact hp.2.2 y hy x (by simp) q hq e2
    · rw [e3] at e2
      injection e2 with e2
      have := (World.ownsRow.lt (h.ed y (List.mem_append.2 (.inl hy))) q hq).2
      omega
  · rintro k (hk | ⟨y, hy, hk⟩)
    · exact .inl (h.lt (.inl hk)).2
    · rcases List.mem_append.1 hy with hy | hy
      · exact .inl (h.lt (.inr ⟨y, List.mem_append.2 (.inl hy), hk⟩)).2
      · rw [List.mem_singleton] at hy
        subst hy
        rcases hat with e3 | e3
        · rw [e3] at hk; exact .inl (h.lt (.inr ⟨x, hx, hk⟩)).2
        · rw [e3] at hk; injection hk with hk; exact .inr hk.symm
end Go.Proofs.YtlfeiadgahdgoaaGreatDoor
namespace Go.Proofs.YtlfeiadgahdgoaaGreatDoor
open Go.RowKit Go.Shelf Go.Lib
theorem box3 (w : World) (sv : Value) (k : Int) (T : ByteArray) : ∃ w0, w0 = ((w.alloc (.cells #[sv] 24)).alloc (.cells #[.int .i64 k, .string T] 71)).alloc (.cells #[.slice none 0 0] 24) ∧ Below w.heap.size w w0 ∧ w0.heap.size = w.heap.size + 3 ∧ w0.heap[w.heap.size]? = some (.cells #[sv] 24 (0, 0)) ∧ w0.heap[w.heap.size + 1]? = some (.cells #[.int .i64 k, .string T] 71 (0, 0)) ∧ w0.heap[w.heap.size + 2]? = some (.cells #[.slice none 0 0] 24 (0, 0)) := by
  obtain ⟨w0, hw0, hb, hs, h0, h1⟩ := box2 w sv k T
  rw [← hw0]
  refine ⟨_, rfl, hb.alloc (by omega) _, by simp [hs], (Below.heap_alloc _ _ _ (by omega)).trans h0, (Below.heap_alloc _ _ _ (by omega)).trans h1, ?_⟩
  have h := heap_alloc_new w0 (.cells #[.slice none 0 0] 24)
  rw [hs] at h
  exact h
/-- What is handed back: sections of its own. -/
def WthA (w : World) (lo : Nat) (S' : List Sec) (e : Ending) (w' : World) : Prop := ∃ v' S2, e = .returned (.agg #[v']) ∧ WB w' lo v' S2 ∧ secsO S2 = S' ∧ Below lo w w'
theorem set_one {w : World} {g : Nat} {a : Value} {t : TypeId} (b : Value) (h : w.heap[g]? = some (.cells #[a] t (0, 0))) : (w.setCell ⟨g, 0, none⟩ b).heap[g]? = some (.cells #[b] t (0, 0)) := heap_setCell_same w g 0 _ t b h
set_option maxRecDepth 10000 in
set_option maxHeartbeats 1600000 in
theorem with_none (lo : Nat) (a : Option Addr) (c : Nat) (S : List SecO) (T : ByteArray) (w : World) (hlo : lo ≤ w.heap.size) (hX : WB w lo (.slice a S.length c) S) :
    Calls Tryz.prog 30 #[.agg #[.slice a S.length c], .agg #[.int .i64 0, .string T]] w fun e w' => WthA w lo (secsO S) e w' := by
  obtain ⟨w0, hw0, hB0, hs0, hr0, hr1, hr2⟩ := box3 w (.slice a S.length c) 0 T
  obtain ⟨x0, y0⟩ := row1 hr0
  obtain ⟨x1, x2, y1, y2⟩ := row2 hr1
  obtain ⟨x3, y3⟩ := row1 hr2
  have HX := hid0 (hX.later hB0)
  have HX0 := hid0 hX
  have HB0 := hid0 hB0
  have HR := hid0 hr2
  have hfold := hw0.symm
  clear hw0 hB0 hr0 hr1 hr2 hX
  go_enter Tryz.func30, Tryz.ntmps30
  go_wp2
  (try simp only [Exit.inBlock, Exit.then])
  refine bodyPost_ret (results_cell_row rfl _ _ (w.heap.size + 2) 24 _ _ _ rfl (set_one _ HR.out) Tryz.underlying24 rfl (by kernel_rfl)) rfl ?_
  exact ⟨_, S, rfl, HX.out.keep (fun k hk => Below.heap_setCell _ _ _ k (by have := (HX0.out.lt hk).2; simp only; omega)), rfl, (lowB HB0.out hlo).setCell (p := ⟨w.heap.size + 2, 0, none⟩) (by simp only; omega) _⟩
set_option maxRecDepth 10000 in
set_option maxHeartbeats 1600000 in
theorem with_par (lo g cap : Nat) (P : List SecO) (x : SecO) (T : ByteArray) (w : World) (hl : P.length ≤ 500) (hlo : lo ≤ w.heap.size) (hX : WB w lo (.slice (some ⟨g, 0, none⟩) (P.length + 1) cap) (P ++ [x])) :
    Calls Tryz.prog 30 #[.agg #[.slice (some ⟨g, 0, none⟩) (P.length + 1) cap], .agg #[.int .i64 2, .string T]] w fun e w' => WthA w lo (secsO P ++ [⟨x.s.loc, T, x.s.ed⟩]) e w' := by
  obtain ⟨w0, hw0, hB0, hs0, hr0, hr1, hr2⟩ := box3 w (.slice (some ⟨g, 0, none⟩) (P.length + 1) cap) 2 T
  obtain ⟨x0, y0⟩ := row1 hr0
  obtain ⟨x1, x2, y1, y2⟩ := row2 hr1
  have hX1 := hX.later hB0
  have hgl := (World.ownsRow.lt hX.sec g rfl)
  have hlast : w0.cell? ⟨g, P.length * 3 + 1, none⟩ = some (.string x.s.par) ∧ w0.frozen? ⟨g, P.length * 3 + 1, none⟩ = false := by
    have h0 := hX1.sec
    have e : (P ++ [x]).length = P.length + 1 := by simp
    rw [e] at h0
    obtain ⟨c0, c1, c2⟩ := cellsO_at (P ++ [x]) P.length (by simp)
    rw [show (P ++ [x])[P.length]'(by simp) = x by simp] at c1
    exact ⟨by rw [World.ownsRow.cellAt h0 _ (by omega)]; exact c1, World.ownsRow.frozenAt h0 _⟩
  obtain ⟨z0, z1⟩ := hlast
  have hr0' := (Below.heap_setCell w0 ⟨g, P.length * 3 + 1, none⟩ (.string T) w.heap.size (by simp only; omega)).trans hr0
  have hr2' := (Below.heap_setCell w0 ⟨g, P.length * 3 + 1, none⟩ (.string T) (w.heap.size + 2) (by simp only; omega)).trans hr2
  obtain ⟨u0, v0⟩ := row1 hr0'
  obtain ⟨u3, v3⟩ := row1 hr2'
  have HX := hid0 (hX1.par T)
  have HX0 := hid0 hX
  have HB0 := hid0 hB0
  have HR := hid0 hr2'
  have hfold := hw0.symm
  have q0 : ((P.length + 1 : Nat) : Int) - 1 = (P.length : Int) := by omega
  have q1 : (0 : Int) ≤ (P.length : Int) := by omega
  have q2 : (P.length : Int) < ((P.length + 1 : Nat) : Int) := by omega
  clear hw0 hB0 hr0 hr1 hr2 hX hr0' hr2' hX1
  go_enter Tryz.func30, Tryz.ntmps30
  go_wp2
  (try simp only [Exit.inBlock, Exit.then])
  refine bodyPost_ret (results_cell_row rfl _ _ (w.heap.size + 2) 24 _ _ _ rfl (set_one _ HR.out) Tryz.underlying24 rfl (by kernel_rfl)) rfl ?_
  refine ⟨_, _, rfl, HX.out.keep (fun k hk => Below.heap_setCell _ _ _ k ?_), by rw [secsO_snoc], ((lowB HB0.out hlo).setCell (p := ⟨g, P.length * 3 + 1, none⟩) (by simp only; omega) _).setCell (p := ⟨w.heap.size + 2, 0, none⟩) (by simp only; omega) _⟩
  have hk2 : k < w.heap.size := by
    rcases hk with hk | ⟨y, hy, hk⟩
    · exact (HX0.out.lt (.inl hk)).2
    · rcases List.mem_append.1 hy with hy | hy
      · exact (HX0.out.lt (.inr ⟨y, List.mem_append.2 (.inl hy), hk⟩)).2
      · rw [List.mem_singleton] at hy
        subst hy
        exact (HX0.out.lt (.inr ⟨x, by simp, hk⟩)).2
  simp only
  omega
set_option maxRecDepth 10000 in
set_option maxHeartbeats 1600000 in
theorem with_head (lo : Nat) (a : Option Addr) (c : Nat) (S : List SecO) (K : ByteArray) (w : World) (hl : S.length ≤ 500) (hlo : lo ≤ w.heap.size) (hX : WB w lo (.slice a S.length c) S) :
    Calls Tryz.prog 30 #[.agg #[.slice a S.length c], .agg #[.int .i64 1, .string K]] w fun e w' => WthA w lo (secsO S ++ [⟨K, ⟨#[]⟩, []⟩]) e w' := by
  obtain ⟨w0, hw0, hB0, hs0, hr0, hr1, hr2⟩ := box3 w (.slice a S.length c) 1 K
  obtain ⟨x0, y0⟩ := row1 hr0
  obtain ⟨x1, x2, y1, y2⟩ := row2 hr1
  obtain ⟨x3, y3⟩ := row1 hr2
  have HX := hid0 (hX.later hB0)
  have HX0 := hid0 hX
  have HB0 := hid0 hB0
  have HR0 := hid0 hr0
  have HR2 := hid0 hr2
  have hfold := hw0.symm
  obtain ⟨j0, hj, hy0, hy1, hy2⟩ := info_parts infoSec
  have HS0 := hid0 hs0
  have hsz : w.heap.size ≤ w0.heap.size := by omega
  clear hs0 hw0 hB0 hr0 hr1 hr2 hX
  go_enter Tryz.func30, Tryz.ntmps30
  go_wp2_with (at_builtin; go_loud ((
    refine wpList_append_own_at _ (by rfl) _ _ 22 (by rfl) lo 38 j0 (.agg #[.string ⟨#[]⟩, .string ⟨#[]⟩, .slice none 0 0]) 3 56 Tryz.underlying22 hj hy0 hy1 hy2 rfl (by decide) (.slice a S.length c) S.length (cellsO S) (by rfl) (World.ownsRow.alloc HX.out.sec _) ⟨_, 0, none⟩ 1 1 [.string K, .string ⟨#[]⟩, .slice none 0 0] (by rfl) (by rfl) (cell3_new _ _ _ _ _) (fun u hu => by simp only [List.mem_cons, List.not_mem_nil, or_false] at hu; rcases hu with rfl | rfl | rfl <;> rfl) (by unfold maxLen; omega) (by omega) (by simp; omega) ?_
    intro v8 w8 hown8 hgrow8 _ hat8
    obtain ⟨g8, cap8, rfl, hg8a, hg8b, hg8c⟩ := own_form hown8 (Nat.succ_pos _)
    have hs0 := HS0.out
    have nb : (∀ q, w.heap.size ≤ q → some q ≠ (Value.slice a S.length c).ownBlock) := (fun q hq e => by have := (HX0.out.lt (.inl e.symm)).2; omega)
    have hR8 := (hgrow8.block w.heap.size (by simp; omega) (nb _ (Nat.le_refl _))).trans ((Below.heap_alloc _ _ _ (by omega)).trans HR0.out)
    have hR9 := (hgrow8.block (w.heap.size + 2) (by simp; omega) (nb _ (by omega))).trans ((Below.heap_alloc _ _ _ (by omega)).trans HR2.out)
    obtain ⟨c8, f8⟩ := row1 hR8
    obtain ⟨d8, e8⟩ := row1 (set_one (.slice (some ⟨g8, 0, none⟩) (S.length + 1) cap8) hR8)
    have hR7 := (Below.heap_setCell w8 ⟨w.heap.size, 0, none⟩ (.slice (some ⟨g8, 0, none⟩) (S.length + 1) cap8) (w.heap.size + 2) (by simp only; omega)).trans hR9
    obtain ⟨c7, f7⟩ := row1 hR7
    have HR7 := hid0 hR7
    have HF := hid0 (WB.head HX.out (fun q hq => Below.heap_alloc _ _ q hq) (by simp) hgrow8 hown8 hat8)
    have HFk := hid0 (WB.head HX0.out (fun q hq => (Below.heap_alloc _ _ q (by omega)).trans (HB0.out.block q hq)) (by simp; omega) hgrow8 hown8 hat8).2
    have HL := hid0 ((((lowB HB0.out hlo).alloc (by omega) _).grown hgrow8 (by simp; omega) (fun q hq => (HX0.out.lt (.inl hq)).1)).setCell (p := ⟨w.heap.size, 0, none⟩) (by simp only; omega) (.slice (some ⟨g8, 0, none⟩) (S.length + 1) cap8))
    clear hs0 hown8 hgrow8 hat8 hR8 hR9 hR7 nb hg8a hg8b hg8c)))
  (try simp only [Exit.inBlock, Exit.then])
  refine bodyPost_ret (results_cell_row rfl _ _ (w.heap.size + 2) 24 _ _ _ rfl (set_one _ HR7.out) Tryz.underlying24 rfl (by kernel_rfl)) rfl ?_
  refine ⟨_, _, rfl, HF.out.1.keep (fun k hk => ?_), by rw [secsO_snoc], HL.out.setCell (p := ⟨w.heap.size + 2, 0, none⟩) (by simp only; omega) _⟩
  have h9 := HFk.out k hk
  have hs0 := HS0.out
  simp at h9
  exact (Below.heap_setCell _ _ _ k (by simp only; omega)).trans (Below.heap_setCell _ _ _ k (by simp only; omega))
end Go.Proofs.YtlfeiadgahdgoaaGreatDoor
