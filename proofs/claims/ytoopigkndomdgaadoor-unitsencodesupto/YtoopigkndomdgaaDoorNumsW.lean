/-
  The walks of caesuraref0.SameInts, caesurakit.Ints, caesurakit.List, caesurakit.ListLeft.
-/
import Derived.Test.YtoopigkndomdgaaDoorEncodeW
import Derived.Deep.QuietTactic
import Derived.BigQuiet
namespace Go.Proofs.YtoopigkndomdgaaDoor
open Go.RowKit
/-- A slice of numbers of the call's own. -/
def OwnI (w : World) (base : Nat) (v : Value) (ps : List Int) : Prop := w.ownsRow base 3 1 v ps.length (ps.map (Value.int .i64))
theorem infoInt : (Tryd.prog.info? 3).map (fun i => (i.zero, i.size, i.bytes)) = some (some (.int .i64 0), 1, 8) := by kernel_rfl
theorem OwnI.later {w w' : World} {base : Nat} {v : Value} {ps : List Int} (h : OwnI w base v ps) (hb : Below w.heap.size w w') : OwnI w' base v ps := by
  obtain ⟨h1, h2⟩ := h
  refine ⟨h1, ?_⟩
  rcases h2 with h2 | ⟨g, cap, cur, hv, hg, hh, r⟩
  · exact .inl h2
  · exact .inr ⟨g, cap, cur, hv, hg, (hb.block g (Array.getElem?_eq_some_iff.1 hh).1).trans hh, r⟩
theorem OwnI.pa {w : World} {base : Nat} {v : Value} {ps : List Int} (h : OwnI w base v ps) : ∃ a cap, v = .slice a ps.length cap ∧ PA w a ps := by
  have h0 := h
  rcases h.2 with ⟨rfl, hn⟩ | ⟨g, cap, cur, rfl, _⟩
  · have : ps = [] := List.length_eq_zero_iff.1 hn
    subst this
    exact ⟨none, 0, rfl, ⟨fun k h => absurd h (Nat.not_lt_zero _)⟩⟩
  · refine ⟨_, cap, rfl, ⟨fun k hk => ⟨g, 0, rfl, ?_⟩⟩⟩
    rw [Nat.zero_add, World.ownsRow.cellAt h0 k (by omega)]
    simp [hk]
theorem ownI_snoc {w wr w1 : World} {base : Nat} {v v' : Value} {ps : List Int} {p : Int} {o : Obj} (hown : OwnI wr base v ps)
    (hown' : w1.ownsRow base 3 1 v' (ps.length + 1) (ps.map (Value.int .i64) ++ [.int .i64 p])) (hgrow : (wr.alloc o).grownBy w1 v.ownBlock) (hbel : Below base w wr) (hb : base ≤ w.heap.size) :
    OwnI w1 base v' (ps ++ [p]) ∧ Below base w w1 := by
  have hsz := hbel.size
  refine ⟨?_, (hbel.alloc (by omega) o).grown hgrow (by simp; omega) (fun k hk => (World.ownsRow.lt hown k hk).1)⟩
  unfold OwnI
  rw [List.length_append, List.map_append]
  exact hown'
set_option maxRecDepth 10000 in
set_option maxHeartbeats 400000 in
theorem sameI_pa (ps : List Int) (a b : Option Addr) (ca cb : Nat) (w : World) (hl : ps.length ≤ 140737488355328) (ha : PA w a ps) (hb : PA w b ps) :
    Calls Tryd.prog 19 #[.slice a ps.length ca, .slice b ps.length cb] w fun e w' => e = .returned (.bool true) ∧ Below w.heap.size w w' := by
  have HA := hidE ha
  have HB := hidE hb
  clear ha hb
  go_enter Tryd.func19, Tryd.ntmps19
  go_wp2
  go_loopw [5] (fun i wr => ∃ k q : Nat, k ≤ ps.length ∧ i = .int .i64 (k : Int) ∧ wr = w.drewN q) (fun i _ => ps.length - (intOf i).toNat)
  case atStart => exact ⟨0, 0, Nat.zero_le _, rfl, rfl⟩
  case round =>
    obtain ⟨k, q, hk, rfl, rfl⟩ := hrel
    by_cases hlt : k < ps.length
    · obtain ⟨b1, o1, rfl, c0⟩ := HA.out.at' k hlt
      obtain ⟨b2, o2, rfl, d0⟩ := HB.out.at' k hlt
      generalize ps[k] = u at *
      clear HA HB
      go_wp2
      go_quiet ((fail))
      go_wp2
      go_roundw
      case rel => exact ⟨k + 1, _, hlt, by go_num, rfl⟩
      case measure => simp [intOf]; omega
    · have hk2 : ¬ (k : Int) < (ps.length : Int) := by omega
      clear HA HB
      go_wp2
      go_ret
      exact ⟨rfl, below_drewN (Below.refl _ _) q⟩
theorem OwnI.full {w : World} {base : Nat} {v : Value} {ps : List Int} (h : OwnI w base v ps) (hp : 0 < ps.length) : ∃ g cap, v = .slice (some ⟨g, 0, none⟩) ps.length cap ∧ base ≤ g ∧ ps.length ≤ cap ∧ cap ≤ maxLen := by
  rcases h.2 with ⟨_, hn⟩ | ⟨g, cap, cur, hv, hg, _, h1, h2, _⟩
  · omega
  · exact ⟨g, cap, hv, hg, h1, h2⟩
theorem OwnI.cell {w : World} {base g n cap : Nat} {ps : List Int} (h : OwnI w base (.slice (some ⟨g, 0, none⟩) n cap) ps) (k : Nat) (hk : k < ps.length) : w.cell? ⟨g, k, none⟩ = some (.int .i64 ps[k]) := by
  have h0 := h
  rcases h.2 with ⟨h', _⟩ | ⟨g', cap', cur, h', _⟩
  · simp at h'
  · simp only [Value.slice.injEq, Option.some.injEq, Addr.mk.injEq, and_true] at h'
    obtain ⟨rfl, rfl, rfl⟩ := h'
    rw [World.ownsRow.cellAt h0 k (by omega)]
    simp [hk]
theorem OwnI.front {w : World} {base g n cap : Nat} {l m : List Int} (h : OwnI w base (.slice (some ⟨g, 0, none⟩) n cap) (l ++ m)) : PA w (some ⟨g, 0, none⟩) l := ⟨fun k hk => ⟨g, 0, rfl, by
  rw [Nat.zero_add, h.cell k (by simp; omega), List.getElem_append_left hk]⟩⟩
set_option maxRecDepth 10000 in
set_option maxHeartbeats 800000 in
theorem kitInts_any (ps : List Int) (a : Option Addr) (cap : Nat) (hl : ps.length ≤ 4194400) (w : World) (ha : PA w a ps) :
    Calls Tryd.prog 29 #[.slice a ps.length cap] w fun e w' => ∃ v', e = .returned v' ∧ OwnI w' w.heap.size v' ps ∧ Below w.heap.size w w' := by
  obtain ⟨i0, hi, hz0, hz1, hz2⟩ := info_parts infoInt
  have HA := hidE ha
  clear ha
  go_enter Tryd.func29, Tryd.ntmps29
  go_wp2
  go_loopw [3, 4] (fun v i wr => ∃ k : Nat, k ≤ ps.length ∧ i = .int .i64 (k : Int) ∧ OwnI wr w.heap.size v (ps.take k) ∧ Below w.heap.size w wr) (fun _ i _ => ps.length - (intOf i).toNat)
  case atStart => exact ⟨0, Nat.zero_le _, rfl, World.ownsRow_nil _ _ _ _, Below.refl _ _⟩
  case round =>
    obtain ⟨k, hk, rfl, hown, hB⟩ := hrel
    have HO := hidE hown
    clear hown
    by_cases hk' : k < ps.length
    · obtain ⟨b1, o1, rfl, c0⟩ := HA.out.at' k hk'
      have hck := (hB.cell (p := ⟨b1, o1 + k, none⟩) (World.block_lt_of_cell? w _ c0)).trans c0
      have HN : Hid (ps.take (k + 1) = ps.take k ++ [ps[k]]) := by show _ = _; rw [List.take_succ_eq_append_getElem hk']
      have hlen : (ps.take k).length = k := by rw [List.length_take]; omega
      generalize ps[k] = u at *
      have hki : (k : Int) < (ps.length : Int) := by omega
      have hs := hB.size
      clear c0
      go_wp2_with (at_builtin; refine wpList_append_own _ rfl _ _ 36 rfl w.heap.size 3 i0 (.int .i64 0) 1 8 Tryd.underlying36 hi hz0 hz1 hz2 rfl (by decide) _ _ _ rfl (HO.out.alloc _) ⟨wr.heap.size, 0, none⟩ 1 1 [.int .i64 u] rfl rfl (cell_one_new _ _ _) (by simp [Value.oneCell']) (by rw [hlen]; unfold maxLen; omega) (by rw [hlen]; omega) (by simp; omega) ?_; intro v' w1 hown' hgrow _)
      have R := ownI_snoc HO.out hown' hgrow hB (Nat.le_refl _)
      rw [← HN.out] at R
      have HR := hidE R
      clear R hown' hgrow
      go_wp2
      go_roundw
      case rel => exact ⟨k + 1, by omega, by go_num, HR.out.1, HR.out.2⟩
      case measure => simp [intOf]; omega
    · have hki : ¬ (k : Int) < (ps.length : Int) := by omega
      go_wp2
      go_ret
      exact ⟨_, rfl, by have := HO.out; rw [List.take_of_length_le (by omega)] at this; exact this, hB⟩
set_option maxRecDepth 10000 in
set_option maxHeartbeats 800000 in
theorem kitList_any (ps : List Int) (a : Option Addr) (cap : Nat) (hl : ps.length ≤ 4194400) (w : World) (ha : PA w a ps) :
    Calls Tryd.prog 16 #[.slice a ps.length cap] w fun e w' => ∃ g c, e = .returned (.slice (some ⟨g, 0, none⟩) ps.length c) ∧ OwnI w' w.heap.size (.slice (some ⟨g, 0, none⟩) (ps.length + 2) c) (ps ++ [-77, -77]) ∧ w.heap.size ≤ g ∧ ps.length + 2 ≤ c ∧ c ≤ maxLen ∧ Below w.heap.size w w' := by
  obtain ⟨i0, hi, hz0, hz1, hz2⟩ := info_parts infoInt
  have HI := hidE (kitInts_any ps a cap hl w ha)
  clear ha
  go_enter Tryd.func16, Tryd.ntmps16
  go_wp2_with (first
    | (go_at_call 29; refine HI.out.mono ?_; rintro e w1 ⟨v1, rfl, ho1, hb1⟩; have HO1 := hidE ho1; have HB1 := hidE hb1; have hs1 := hb1.size; clear ho1 hb1)
    | (at_builtin; refine wpList_append_own _ rfl _ _ 36 rfl w.heap.size 3 i0 (.int .i64 0) 1 8 Tryd.underlying36 hi hz0 hz1 hz2 rfl (by decide) _ _ _ rfl (HO1.out.alloc _) ⟨w1.heap.size, 0, none⟩ 2 2 [.int .i64 (-77), .int .i64 (-77)] rfl rfl (cells_new _ _ _) (by simp [Value.oneCell']) (by unfold maxLen; omega) (by omega) (by simp; omega) ?_; intro v2 w2 hown2 hgrow2 _; have HO2 : Hid (OwnI w2 w.heap.size v2 (ps ++ [-77, -77])) := by { show OwnI _ _ _ _; unfold OwnI; rw [List.length_append, List.map_append]; exact hown2 }; have HB2 : Hid (Below w.heap.size w w2) := ((HB1.out.alloc hs1 _).grown hgrow2 (by simp; omega) (fun k hk => (World.ownsRow.lt HO1.out k hk).1)); clear hown2 hgrow2; obtain ⟨g, c, rfl, hg, hc, hm⟩ := HO2.out.full (by simp); rw [List.length_append] at hc; have hc1 : (ps.length : Int) ≤ (c : Int) := by omega)
    | fail)
  go_ret
  refine ⟨g, c, ?_, by have := HO2.out; rw [List.length_append] at this; exact this, hg, hc, hm, HB2.out⟩
  rfl
set_option maxRecDepth 10000 in
set_option maxHeartbeats 800000 in
theorem listLeft_any (ps : List Int) (base g c : Nat) (hl : ps.length ≤ 4194400) (w : World) (ho : OwnI w base (.slice (some ⟨g, 0, none⟩) (ps.length + 2) c) (ps ++ [-77, -77])) (hc : ps.length + 2 ≤ c) :
    Calls Tryd.prog 20 #[.slice (some ⟨g, 0, none⟩) ps.length c] w fun e w' => e = .returned (.bool true) ∧ Below w.heap.size w w' := by
  have c0 := ho.cell ps.length (by simp)
  have c1 := ho.cell (ps.length + 1) (by simp)
  simp only [List.getElem_append_right (Nat.le_refl _), Nat.sub_self, List.getElem_cons_zero] at c0
  rw [List.getElem_append_right (by omega)] at c1
  simp only [Nat.add_sub_cancel_left, List.getElem_cons_succ, List.getElem_cons_zero] at c1
  have hc1 : (ps.length : Int) + 2 ≤ (c : Int) := by omega
  clear ho
  go_enter Tryd.func20, Tryd.ntmps20
  go_wp2
  go_ret
  exact ⟨rfl, Below.refl _ _⟩
end Go.Proofs.YtoopigkndomdgaaDoor
