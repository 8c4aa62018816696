/-
  Lists of ranges in memory; the walks of ranges.mayBe, either, both, firstAlone, caesuraref0.SameRanges.
-/
import Derived.Test.YthdmhelgmejicaaGreatDoorProg
import Derived.Test.YthdmhelgmejicaaGreatDoorRgM
import Derived.WalkKit
import Derived.WalkSpells
import Derived.WalkLawsBesides
import Derived.Handy
import Derived.Maps.AppendAt
import Derived.Deep.QuietTactic
import Derived.BigQuiet
import Derived.Shelf.Abstract
namespace Go.Proofs.YthdmhelgmejicaaGreatDoor
open Go.RowKit
theorem hidE {p : Prop} (h : p) : Hid p := h
def cellsR (l : List (Int × Int)) : List Value := l.flatMap fun r => [.int .i64 r.1, .int .i64 r.2]
theorem cellsR_length (l : List (Int × Int)) : (cellsR l).length = l.length * 2 := by
  induction l with
  | nil => rfl
  | cons u l ih => rw [cellsR, List.flatMap_cons, List.length_append, List.length_cons]; rw [cellsR] at ih; rw [ih]; simp; omega
theorem cellsR_append (l m : List (Int × Int)) : cellsR (l ++ m) = cellsR l ++ cellsR m := by simp [cellsR]
theorem cellsR_at (l : List (Int × Int)) : ∀ (k : Nat) (h : k < l.length), (cellsR l)[k * 2]? = some (.int .i64 l[k].1) ∧ (cellsR l)[k * 2 + 1]? = some (.int .i64 l[k].2) := by
  induction l with
  | nil => intro k h; simp at h
  | cons u l ih =>
    intro k h
    have e : cellsR (u :: l) = .int .i64 u.1 :: .int .i64 u.2 :: cellsR l := rfl
    cases k with
    | zero => rw [e]; simp
    | succ k =>
      have := ih k (by simpa using h)
      rw [e, show (k + 1) * 2 = k * 2 + 1 + 1 by omega, show k * 2 + 1 + 1 + 1 = (k * 2 + 1) + 1 + 1 by omega]
      simpa using this
/-- Pairs of numbers in memory, each where it is asked. -/
structure RA (w : World) (a : Option Addr) (l : List (Int × Int)) : Prop where
  at' : ∀ k (h : k < l.length), ∃ b off, a = some ⟨b, off, none⟩ ∧ w.cell? ⟨b, off + k * 2, none⟩ = some (.int .i64 l[k].1) ∧ w.cell? ⟨b, off + k * 2 + 1, none⟩ = some (.int .i64 l[k].2)
theorem RA.later {w w' : World} {a : Option Addr} {l : List (Int × Int)} (h : RA w a l) (hb : Below w.heap.size w w') : RA w' a l := ⟨fun k hk => by
  obtain ⟨b, off, rfl, h1, h2⟩ := h.at' k hk
  exact ⟨b, off, rfl, (hb.cell (p := ⟨b, off + k * 2, none⟩) (World.block_lt_of_cell? w _ h1)).trans h1, (hb.cell (p := ⟨b, off + k * 2 + 1, none⟩) (World.block_lt_of_cell? w _ h2)).trans h2⟩⟩
theorem RA.nil (w : World) (a : Option Addr) : RA w a [] := ⟨fun _ h => absurd h (Nat.not_lt_zero _)⟩
/-- A slice of ranges of the call's own. -/
def OwnR (w : World) (base : Nat) (v : Value) (l : List (Int × Int)) : Prop := w.ownsRow base 86 2 v l.length (cellsR l)
theorem infoRange : (Tryz.prog.info? 86).map (fun i => (i.zero, i.size, i.bytes)) = some (some (.agg #[.int .i64 0, .int .i64 0]), 2, 16) := by kernel_rfl
theorem OwnR.nil (w : World) (base : Nat) : OwnR w base (.slice none 0 0) [] := World.ownsRow_nil _ _ _ _
theorem OwnR.later {w w' : World} {base : Nat} {v : Value} {l : List (Int × Int)} (h : OwnR w base v l) (hb : Below w.heap.size w w') : OwnR w' base v l := by
  obtain ⟨h1, h2⟩ := h
  refine ⟨h1, ?_⟩
  rcases h2 with h2 | ⟨g, cap, cur, hv, hg, hh, r⟩
  · exact .inl h2
  · exact .inr ⟨g, cap, cur, hv, hg, (hb.block g (Array.getElem?_eq_some_iff.1 hh).1).trans hh, r⟩
theorem OwnR.ra {w : World} {base : Nat} {v : Value} {l : List (Int × Int)} (h : OwnR w base v l) : ∃ a cap, v = .slice a l.length cap ∧ RA w a l := by
  have h0 := h
  rcases h.2 with ⟨rfl, hn⟩ | ⟨g, cap, cur, rfl, _⟩
  · have : l = [] := List.length_eq_zero_iff.1 hn
    subst this
    exact ⟨none, 0, rfl, RA.nil _ _⟩
  · refine ⟨_, cap, rfl, ⟨fun k hk => ⟨g, 0, rfl, ?_⟩⟩⟩
    obtain ⟨a, b⟩ := cellsR_at l k hk
    rw [Nat.zero_add, World.ownsRow.cellAt h0 _ (by omega), World.ownsRow.cellAt h0 _ (by omega)]
    exact ⟨a, b⟩
theorem ownR_snoc {w wr w1 : World} {base : Nat} {v v' : Value} {l m : List (Int × Int)} {r : Int × Int} {o : Obj} {n : Nat} (hn : n = l.length) (hown : OwnR wr base v l)
    (hown' : w1.ownsRow base 86 2 v' (n + 1) (cellsR l ++ [.int .i64 r.1, .int .i64 r.2])) (hgrow : (wr.alloc o).grownBy w1 v.ownBlock) (hm : m = l ++ [r]) (hbel : Below base w wr) (hb : base ≤ w.heap.size) :
    OwnR w1 base v' m ∧ Below base w w1 := by
  subst hm hn
  have hsz := hbel.size
  refine ⟨?_, (hbel.alloc (by omega) o).grown hgrow (by simp; omega) (fun k hk => (World.ownsRow.lt hown k hk).1)⟩
  have e2 : cellsR (l ++ [r]) = cellsR l ++ [.int .i64 r.1, .int .i64 r.2] := by rw [cellsR_append]; rfl
  unfold OwnR
  rw [List.length_append, e2]
  exact hown'
theorem cell2_new (w : World) (a b : Value) (t : TypeId) : ∀ j u, [a, b][j]? = some u → (w.alloc (.cells #[a, b] t)).cell? ((⟨w.heap.size, 0, none⟩ : Addr).add j) = some u := by
  intro j u h
  rw [Addr.add_lit, cell_of_row _ w.heap.size _ _ _ _ (heap_alloc_new w _), Nat.zero_add]
  simpa using h
theorem mayL_take (l : List (Int × Int)) (k : Nat) (h : k < l.length) : mayL (l.take (k + 1)) = (mayL (l.take k) && mayR l[k]) := by
  unfold mayL
  rw [List.take_succ_eq_append_getElem h, List.all_append]
  simp
theorem mayL_false (l : List (Int × Int)) (k : Nat) (h : k < l.length) (hr : mayR l[k] = false) : mayL l = false := by
  cases e : mayL l with
  | false => rfl
  | true => rw [List.all_eq_true.1 e _ (List.getElem_mem h)] at hr; cases hr
set_option maxRecDepth 10000 in
set_option maxHeartbeats 400000 in
theorem mayBe_any (l : List (Int × Int)) (a : Option Addr) (cap : Nat) (hl : l.length ≤ 140737488355328) (w : World) (ha : RA w a l) :
    Calls Tryz.prog 112 #[.slice a l.length cap] w fun e w' => e = .returned (.bool (mayL l)) ∧ Below w.heap.size w w' := by
  have HA := hidE ha
  clear ha
  go_enter Tryz.func112, Tryz.ntmps112
  go_wp2
  go_loopw [7] (fun i wr => ∃ k : Nat, k ≤ l.length ∧ i = .int .i64 (k : Int) ∧ mayL (l.take k) = true ∧ Below w.heap.size w wr) (fun i _ => l.length - (intOf i).toNat)
  case atStart => exact ⟨0, Nat.zero_le _, rfl, rfl, Below.refl _ _⟩
  case round =>
    obtain ⟨k, hk, rfl, hm, hB⟩ := hrel
    have HM := hidE hm
    clear hm
    by_cases hlt : k < l.length
    · obtain ⟨b1, o1, rfl, c0, c1⟩ := (HA.out.later hB).at' k hlt
      have HF := hidE (mayL_false l k hlt)
      have HT := hidE (mayL_take l k hlt)
      generalize l[k] = r at *
      obtain ⟨lo, hi⟩ := r
      simp only at c0 c1
      have hs := hB.size
      by_cases h1 : lo < 0
      · go_wp2
        go_ret
        exact ⟨by rw [HF.out (by simp [mayR]; omega)]; rfl, by go_grown⟩
      · by_cases h2 : 1114111 < hi
        · go_wp2
          go_ret
          exact ⟨by rw [HF.out (by simp [mayR]; omega)]; rfl, by go_grown⟩
        · by_cases h3 : hi < lo
          · go_wp2
            go_ret
            exact ⟨by rw [HF.out (by simp [mayR]; omega)]; rfl, by go_grown⟩
          · go_wp2
            go_roundw
            case rel => exact ⟨k + 1, hlt, by go_num, by rw [HT.out, HM.out]; simp [mayR]; omega, by go_grown⟩
            case measure => simp [intOf]; omega
    · have hki : ¬ (k : Int) < (l.length : Int) := by omega
      go_wp2
      go_ret
      exact ⟨by have := HM.out; rw [List.take_of_length_le (by omega)] at this; rw [this]; rfl, hB⟩
set_option maxRecDepth 10000 in
theorem either_any (x y : Bool) (w : World) : Calls Tryz.prog 88 #[.bool x, .bool y] w fun e w' => e = .returned (.bool (x || y)) ∧ w' = w := by
  cases x <;> cases y <;>
    (go_enter Tryz.func88, Tryz.ntmps88
     go_wp2
     go_ret
     exact ⟨rfl, rfl⟩)
/-- What a choice is worth, as a function value's own contract. -/
def Chooses (g : Nat) (f : Bool → Bool → Bool) : Prop := (∀ args w, (callFunc g args).run Tryz.prog w = .ok (.enter g args) w) ∧ ∀ (x y : Bool) (w : World), Calls Tryz.prog g #[.bool x, .bool y] w fun e w' => e = .returned (.bool (f x y)) ∧ w' = w
theorem either_chooses : Chooses 88 (fun x y => x || y) := ⟨enters_of Tryz.func88 (by kernel_rfl) rfl, either_any⟩
end Go.Proofs.YthdmhelgmejicaaGreatDoor
