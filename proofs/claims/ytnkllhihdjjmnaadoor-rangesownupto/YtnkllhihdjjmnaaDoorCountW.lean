/-
  The walks of ranges.Count and ranges.Has.
-/
import Derived.Test.YtnkllhihdjjmnaaDoorFaceW
import Derived.Shelf.SlicesQ.IndexFunc
import Derived.Ground.SlgfProg
import Derived.Test.YtnkllhihdjjmnaaDoorShelfC
namespace Go.Proofs.YtnkllhihdjjmnaaDoor
open Go.RowKit

theorem lens_take (l : List (Int × Int)) (k : Nat) (h : k < l.length) : lens (l.take (k + 1)) = lens (l.take k) + (l[k].2 - l[k].1 + 1) := by
  rw [List.take_succ_eq_append_getElem h, lens, lens, List.map_append, List.sum_append]
  simp
theorem lens_bound : ∀ {l : List (Int × Int)} {a : Int}, 0 ≤ a → NormF a l → 0 ≤ lens l ∧ lens l ≤ 1114112 ∧ (0 < l.length → lens l + a ≤ 1114112)
  | [], _, _, _ => ⟨by simp [lens], by simp [lens], fun h => (by simp at h)⟩
  | r :: l, a, ha, ⟨g1, g2, g3, g4⟩ => by
    have ih := lens_bound (a := r.2 + 2) (by omega) g4
    have e : lens (r :: l) = (r.2 - r.1 + 1) + lens l := by simp [lens]
    rw [e]
    by_cases h : 0 < l.length
    · have := ih.2.2 h; omega
    · have : l = [] := List.length_eq_zero_iff.1 (by omega)
      subst this
      have : lens [] = 0 := rfl
      omega
theorem norm_take : ∀ {l : List (Int × Int)} {a : Int} (k : Nat), NormF a l → NormF a (l.take k)
  | _, _, 0, _ => trivial
  | [], _, _ + 1, _ => trivial
  | _ :: _, _, k + 1, ⟨g1, g2, g3, g4⟩ => ⟨g1, g2, g3, norm_take k g4⟩
/-- What is answered of a count. -/
def Counted (w w' : World) (A0 : Addr) (l : List (Int × Int)) (e : Ending) : Prop :=
  e = .returned (.tuple #[.int .i64 (if mayL l then card (pts l) 1114112 else 0), errVal A0 (mayL l)]) ∧ Below w.heap.size w w'
set_option maxRecDepth 10000 in
set_option maxHeartbeats 400000 in
theorem count_any (l : List (Int × Int)) (hl : l.length ≤ 50000000) (a : Option Addr) (cap : Nat) (A0 : Addr) (w : World) (hr : RA w a l) (hE : w.cell? ⟨0, 0, none⟩ = some (errArg A0)) :
    Calls Tryd.prog 9 #[.slice a l.length cap] w fun e w' => Counted w w' A0 l e := by
  have hN := normal_any l hl a cap A0 w hr hE
  have HN := hidE hN
  clear hN hr hE
  cases hm : mayL l with
  | false =>
    rw [hm] at HN
    have hv : errVal A0 false = errArg A0 := rfl
    go_enter Tryd.func9, Tryd.ntmps9
    go_wp2_with (go_at_call 11; refine HN.out.mono ?_; rintro e w1 ⟨v, m, rfl, h2, h3, h4, h5, h6⟩; rw [hv]; unfold errArg)
    go_returns
    refine ⟨?_, h6⟩
    rw [hm]
    rfl
  | true =>
    rw [hm] at HN
    have hv : errVal A0 true = .nilIface := rfl
    go_enter Tryd.func9, Tryd.ntmps9
    go_wp2_with (go_at_call 11; refine HN.out.mono ?_; rintro e w1 ⟨v, m, rfl, h2, h3, h4, h5, h6⟩; rw [hv]; obtain ⟨a', cap', rfl, hra⟩ := h2.ra)
    have HL := hidE (lens_take m)
    have HB := hidE (fun k => lens_bound (Int.le_refl 0) (norm_take k h3))
    have hml := (norm_len h3 (Int.le_refl 0)).1
    have hmm := fun k (h : k < m.length) => norm_mem h3 _ (List.getElem_mem h)
    have HM := hidE hmm
    have HRA := hidE hra
    have HX : Hid (lens m = card (pts l) 1114112) := by
      show _ = _
      rw [lens_card (Int.le_refl 0) h3]
      exact card_congr (fun p _ _ => h4 trivial p)
    clear h2 h3 h4 h5 hmm hra
    go_loopw [6, 19] (fun s i wr => ∃ k : Nat, k ≤ m.length ∧ i = .int .i64 (k : Int) ∧ s = .int .i64 (lens (m.take k)) ∧ Below w.heap.size w wr ∧ Below w1.heap.size w1 wr) (fun _ i _ => m.length - (intOf i).toNat)
    case atStart => exact ⟨0, Nat.zero_le _, rfl, rfl, h6, Below.refl _ _⟩
    case round =>
      obtain ⟨k, hk, rfl, rfl, hB, hB1⟩ := hrel
      have hs := hB.size
      have hs1 := hB1.size
      by_cases hlt : k < m.length
      · obtain ⟨b1, o1, rfl, c0, c1⟩ := (HRA.out.later hB1).at' k hlt
        have hl1 := HL.out k hlt
        have hb0 := HB.out k
        have hb1 := HB.out (k + 1)
        have hmr := HM.out k hlt
        generalize m[k] = r at *
        obtain ⟨lo, hi⟩ := r
        simp only at c0 c1 hmr hl1
        rw [hl1] at hb1
        generalize lens (m.take k) = s at *
        have HL1 := hidE hl1
        clear hl1 HL HM HB
        go_wp2
        go_roundw
        case rel => exact ⟨k + 1, by omega, by go_num, by rw [HL1.out], by go_grown, by go_grown⟩
        case measure => simp [intOf]; omega
      · have hki : ¬ (k : Int) < (m.length : Int) := by omega
        go_wp2
        go_returns
        refine ⟨?_, hB⟩
        rw [hm, ← HX.out, List.take_of_length_le (by omega)]
        rfl
set_option maxRecDepth 10000 in
theorem pred_has (n : Int) (B : Nat) (w : World) (hB : B < w.heap.size) (hcell : w.cell? ⟨B, 0, none⟩ = some (.int .i64 n)) :
    PredBelow Tryd.prog 32 #[.pointer (some ⟨B, 0, none⟩)] (fun x => .agg (encE x).toArray) (fun x => hasR x n) w := fun W x hb => by
  have hc : W.cell? ⟨B, 0, none⟩ = some (.int .i64 n) := (hb.cell (p := ⟨B, 0, none⟩) hB).trans hcell
  have hBW : B < W.heap.size := Nat.lt_of_lt_of_le hB hb.size
  have hne : B ≠ W.heap.size := by omega
  obtain ⟨lo, hi⟩ := x
  show Calls Tryd.prog 32 #[.agg #[.int .i64 lo, .int .i64 hi], .pointer (some ⟨B, 0, none⟩)] W _
  by_cases h1 : lo ≤ n
  · by_cases h2 : n ≤ hi
    · go_enter Tryd.func32, Tryd.ntmps32
      go_wp2
      go_ret
      exact ⟨by simp [hasR, h1, h2], hb.alloc hb.size _⟩
    · go_enter Tryd.func32, Tryd.ntmps32
      go_wp2
      go_ret
      exact ⟨by simp [hasR, h1, h2], hb.alloc hb.size _⟩
  · go_enter Tryd.func32, Tryd.ntmps32
    go_wp2
    go_ret
    exact ⟨by simp [hasR]; omega, hb.alloc hb.size _⟩
set_option maxRecDepth 10000 in
set_option maxHeartbeats 400000 in
theorem has_any (l : List (Int × Int)) (hl : l.length ≤ 50000000) (a : Option Addr) (cap : Nat) (n : Int) (w : World) (hr : RA w a l) :
    Calls Tryd.prog 20 #[.slice a l.length cap, .int .i64 n] w fun e w' => e = .returned (.bool (pts l n)) ∧ Below w.heap.size w w' := by
  cases l with
  | nil =>
    clear hr hl
    rw [pts_nil, List.length_nil]
    go_enter Tryd.func20, Tryd.ntmps20
    go_wp2
    go_rounds 1
    go_ret
    exact ⟨rfl, (Below.refl _ w).alloc (Nat.le_refl _) _⟩
  | cons r l =>
    obtain ⟨b, off, rfl, _, _⟩ := hr.at' 0 (by simp)
    have hbl : b < w.heap.size := by
      obtain ⟨b', off', he, h1, _⟩ := hr.at' 0 (by simp)
      cases he
      exact World.block_lt_of_cell? w _ h1
    have eg : ∀ args w, (callFunc 32 args).run Tryd.prog w = .ok (.enter 32 args) w := enters_of Tryd.func32 (by kernel_rfl) rfl
    have hcon := AnyQ.slices_ContainsFunc Tryd.containsR 2 Tryd.isAgg35 Tryd.sizeOf35 encE (fun _ => rfl) (fun x => hasR x n) 32 #[.pointer (some ⟨w.heap.size, 0, none⟩)] eg b off (r :: l).length cap (r :: l) (w.alloc (.cells #[.int .i64 n] 3))
      (pred_has n w.heap.size _ (by simp) (by simp)) (Nat.le_refl _) (by omega) (by simp; omega) (fun j hj i v hi => by
        obtain ⟨b', off', he, h0, h1⟩ := (hr.later ((Below.refl _ w).alloc (Nat.le_refl _) (.cells #[.int .i64 n] 3))).at' j hj
        simp only [Option.some.injEq, Addr.mk.injEq, and_true] at he
        obtain ⟨rfl, rfl⟩ := he
        have e : (r :: l)[j]! = (r :: l)[j] := getElem!_pos _ j hj
        rw [e] at hi
        match i, hi with
        | 0, hi => simp only [encE, List.getElem?_cons_zero, Option.some.injEq] at hi; rw [← hi]; exact h0
        | 1, hi => simp only [encE, List.getElem?_cons_succ, List.getElem?_cons_zero, Option.some.injEq] at hi; rw [← hi]; exact h1
        | i + 2, hi => simp [encE] at hi)
    change Calls Tryd.prog 31 _ _ _ at hcon
    rw [List.take_length] at hcon
    have HC := hidE hcon
    have HP : Hid ((r :: l).any (fun x => hasR x n) = pts (r :: l) n) := rfl
    rw [HP.out] at HC
    clear hr hcon
    generalize pts (r :: l) n = x at *
    generalize (r :: l).length = k at *
    go_enter Tryd.func20, Tryd.ntmps20
    go_wp2_with (go_at_call 31; refine HC.out.mono ?_; rintro e w' ⟨rfl, hb'⟩)
    go_ret
    exact ⟨rfl, ((Below.refl _ w).alloc (Nat.le_refl _) _).trans (hb'.mono (by simp))⟩
end Go.Proofs.YtnkllhihdjjmnaaDoor
