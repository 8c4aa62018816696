/-
  The units of a text as a list; the walk of caesuraref2.Split.
-/
import Derived.Test.YtlmbbohhdgeedaaDoorUnitW
import Derived.Maps.AppendAt
namespace Go.Proofs.YtlmbbohhdgeedaaDoor
open Go.RowKit
/-- The units from a place on, and of a text. -/
def unitsF : Nat → Nat → List UInt8 → List (Int × Nat × Nat)
  | 0, _, _ => []
  | _ + 1, _, [] => []
  | f + 1, k, a :: l => ((uniOf (a :: l)).1, k, k + (uniOf (a :: l)).2) :: unitsF f (k + (uniOf (a :: l)).2) ((a :: l).drop (uniOf (a :: l)).2)
def unitsAt (l : List UInt8) (k : Nat) : List (Int × Nat × Nat) := unitsF (l.length - k) k (l.drop k)
def unitsOf (l : List UInt8) : List (Int × Nat × Nat) := unitsAt l 0
theorem uni_size (a : UInt8) (r : List UInt8) : 1 ≤ (uniOf (a :: r)).2 ∧ (uniOf (a :: r)).2 ≤ r.length + 1 ∧ (uniOf (a :: r)).2 ≤ 4 := by
  unfold uniOf
  cases hr : rowOf a.toNat with
  | none => rw [good_none hr]; simp
  | some i =>
    have hi := rowOf_lt hr
    have hs := sz_pos i hi
    rw [good_some hr]
    by_cases hf : fits (tLo2 i) (tHi2 i) (tSz i - 1) r + 1 < tSz i
    · rw [if_pos hf]; simp
    · rw [if_neg hf]
      have := fits_le (tLo2 i) (tHi2 i) (tSz i - 1) r
      simp only
      omega
theorem uni_bound (a : UInt8) (r : List UInt8) : -1 ≤ (uniOf (a :: r)).1 ∧ (uniOf (a :: r)).1 ≤ 100000000 := by
  unfold uniOf
  cases hr : rowOf a.toNat with
  | none => rw [good_none hr]; simp
  | some i =>
    have hs := sz_pos i (rowOf_lt hr)
    rw [good_some hr]
    by_cases hf : fits (tLo2 i) (tHi2 i) (tSz i - 1) r + 1 < tSz i
    · rw [if_pos hf]; simp
    · rw [if_neg hf]
      obtain ⟨_, g2, g3, _⟩ := good_parts hr hf
      have hb := pt_bound (a :: r) ((a.toNat : Int) - tMk i) (by omega) (by omega) (tSz i - 1) (by omega)
      simp only
      omega
theorem unitsF_fuel : ∀ (f g k : Nat) (l : List UInt8), l.length ≤ f → l.length ≤ g → unitsF f k l = unitsF g k l := by
  intro f
  induction f with
  | zero =>
    intro g k l hf hg
    have : l = [] := List.length_eq_zero_iff.1 (by omega)
    subst this
    cases g <;> rfl
  | succ f ih =>
    intro g k l hf hg
    cases l with
    | nil => cases g <;> rfl
    | cons a l =>
      cases g with
      | zero => simp at hg
      | succ g =>
        have hs := uni_size a l
        simp only [List.length_cons] at hf hg
        rw [unitsF, unitsF, ih g _ _ (by rw [List.length_drop, List.length_cons]; omega) (by rw [List.length_drop, List.length_cons]; omega)]
theorem unitsAt_end (l : List UInt8) (k : Nat) (h : l.length ≤ k) : unitsAt l k = [] := by
  rw [unitsAt, show l.length - k = 0 by omega]; rfl
theorem unitsAt_step (l : List UInt8) (k : Nat) (h : k < l.length) : unitsAt l k = ((uniOf (l.drop k)).1, k, k + (uniOf (l.drop k)).2) :: unitsAt l (k + (uniOf (l.drop k)).2) := by
  obtain ⟨a, r, e⟩ : ∃ a r, l.drop k = a :: r := by
    cases h' : l.drop k with
    | nil => have := congrArg List.length h'; simp at this; omega
    | cons a r => exact ⟨a, r, rfl⟩
  have hl := congrArg List.length e
  rw [List.length_drop, List.length_cons] at hl
  have hs := uni_size a r
  have e2 : l.drop (k + (uniOf (a :: r)).2) = (a :: r).drop (uniOf (a :: r)).2 := by rw [← List.drop_drop, e]
  rw [unitsAt, unitsAt, e, e2, show l.length - k = (l.length - k - 1) + 1 by omega, unitsF]
  rw [unitsF_fuel (l.length - k - 1) (l.length - (k + (uniOf (a :: r)).2)) _ _ (by rw [List.length_drop, List.length_cons]; omega) (by rw [List.length_drop, List.length_cons]; omega)]
/-- Units as cells. -/
def cellsU (us : List (Int × Nat × Nat)) : List Value := us.flatMap fun u => [.int .i64 u.1, .int .i64 (u.2.1 : Int), .int .i64 (u.2.2 : Int)]
theorem cellsU_length (us : List (Int × Nat × Nat)) : (cellsU us).length = us.length * 3 := by
  induction us with
  | nil => rfl
  | cons u us ih => rw [cellsU, List.flatMap_cons, List.length_append, List.length_cons]; rw [cellsU] at ih; rw [ih]; simp; omega
theorem cellsU_append (us vs : List (Int × Nat × Nat)) : cellsU (us ++ vs) = cellsU us ++ cellsU vs := by simp [cellsU]
/-- A slice of units of the call's own. -/
def OwnU (w : World) (base : Nat) (v : Value) (us : List (Int × Nat × Nat)) : Prop := w.ownsRow base 28 3 v us.length (cellsU us)
theorem infoUnit : (Tryd.prog.info? 28).map (fun i => (i.zero, i.size, i.bytes)) = some (some (.agg #[.int .i64 0, .int .i64 0, .int .i64 0]), 3, 24) := by kernel_rfl
theorem OwnU.nil (w : World) (base : Nat) : OwnU w base (.slice none 0 0) [] := World.ownsRow_nil _ _ _ _
theorem ownU_snoc {w wr w1 : World} {base : Nat} {v v' : Value} {us m : List (Int × Nat × Nat)} {u : Int × Nat × Nat} {o : Obj} {n : Nat} (hn : n = us.length) (hown : OwnU wr base v us)
    (hown' : w1.ownsRow base 28 3 v' (n + 1) (cellsU us ++ [.int .i64 u.1, .int .i64 (u.2.1 : Int), .int .i64 (u.2.2 : Int)])) (hgrow : (wr.alloc o).grownBy w1 v.ownBlock) (hm : m = us ++ [u]) (hbel : Below base w wr) (hb : base ≤ w.heap.size) :
    OwnU w1 base v' m ∧ Below base w w1 := by
  subst hm hn
  have hsz := hbel.size
  refine ⟨?_, (hbel.alloc (by omega) o).grown hgrow (by simp; omega) (fun k hk => (World.ownsRow.lt hown k hk).1)⟩
  have e2 : cellsU (us ++ [u]) = cellsU us ++ [.int .i64 u.1, .int .i64 (u.2.1 : Int), .int .i64 (u.2.2 : Int)] := by rw [cellsU_append]; rfl
  unfold OwnU
  rw [List.length_append, e2]
  exact hown'
theorem hid {p : Prop} (h : p) : Hid p := h
theorem OwnU.later {w w' : World} {base : Nat} {v : Value} {us : List (Int × Nat × Nat)} (h : OwnU w base v us) (hb : Below w.heap.size w w') : OwnU w' base v us := by
  obtain ⟨h1, h2⟩ := h
  refine ⟨h1, ?_⟩
  rcases h2 with h2 | ⟨g, cap, cur, hv, hg, hh, r⟩
  · exact .inl h2
  · exact .inr ⟨g, cap, cur, hv, hg, (hb.block g (Array.getElem?_eq_some_iff.1 hh).1).trans hh, r⟩
theorem cell3_new (w : World) (a b c : Value) (t : TypeId) : ∀ j u, [a, b, c][j]? = some u → (w.alloc (.cells #[a, b, c] t)).cell? ((⟨w.heap.size, 0, none⟩ : Addr).add j) = some u := by
  intro j u h
  rw [Addr.add_lit, cell_of_row _ w.heap.size _ _ _ _ (heap_alloc_new w _), Nat.zero_add]
  simpa using h
set_option maxRecDepth 10000 in
set_option maxHeartbeats 800000 in
theorem refSplit_any (s : ByteArray) (hs : s.size ≤ 4194400) (w : World) :
    Calls Tryd.prog 34 #[.string s] w fun e w' => ∃ v, e = .returned v ∧ OwnU w' w.heap.size v (unitsOf s.data.toList) ∧ Below w.heap.size w w' := by
  obtain ⟨i0, hi, hz0, hz1, hz2⟩ := info_parts infoUnit
  have hlen : s.data.toList.length = s.size := bsize s
  go_enter Tryd.func34, Tryd.ntmps34
  go_wp2
  go_loopw [3, 4] (fun v i wr => ∃ (k : Nat) (pre : List (Int × Nat × Nat)), k ≤ s.size ∧ pre.length ≤ k ∧ i = .int .i64 (k : Int) ∧ unitsOf s.data.toList = pre ++ unitsAt s.data.toList k ∧ OwnU wr w.heap.size v pre ∧ Below w.heap.size w wr) (fun _ i _ => s.size - (intOf i).toNat)
  case atStart => exact ⟨0, [], Nat.zero_le _, by simp, rfl, rfl, OwnU.nil _ _, Below.refl _ _⟩
  case round =>
    obtain ⟨k, pre, hk, hpl, rfl, hpre, hown, hbel⟩ := hrel
    have HPre := hid hpre
    clear hpre
    by_cases hlt : k < s.size
    · have hg := refGood_any s k hlt (by omega) wr
      rw [refGood_eq] at hg
      have hl := drop_cons s k hlt
      have hsz1 := uni_size s[k] (s.data.toList.drop (k + 1))
      have hbd := uni_bound s[k] (s.data.toList.drop (k + 1))
      rw [← hl] at hsz1 hbd
      have hll : (s.data.toList.drop (k + 1)).length = s.size - (k + 1) := by rw [List.length_drop, hlen]
      rw [hll] at hsz1
      have hltL : k < s.data.toList.length := by omega
      cases hq : goodOf (s.data.toList.drop k) with
      | none =>
        rw [hq] at hg
        have hu : uniOf (s.data.toList.drop k) = (-1, 1) := by rw [uniOf, hq]
        have HU : Hid (unitsAt s.data.toList k = (-1, k, k + 1) :: unitsAt s.data.toList (k + 1)) := by show _ = _; rw [unitsAt_step _ _ hltL, hu]
        rw [goodVal] at hg
        clear hq hl hu hll hltL hlen hsz1 hbd
        go_wp2_with (first
          | (go_at_call 50; refine hg.mono ?_; rintro e w2 ⟨rfl, hb⟩; have HO := hid (hown.later hb); have hB2 := hbel.trans (hb.mono hbel.size); have hsz := hB2.size; clear hown)
          | (at_builtin; refine wpList_append_own _ rfl _ _ 25 rfl w.heap.size 28 i0 (.agg #[.int .i64 0, .int .i64 0, .int .i64 0]) 3 24 Tryd.underlying25 hi hz0 hz1 hz2 rfl (by decide) _ _ _ rfl (HO.out.alloc _) ⟨w2.heap.size, 0, none⟩ 1 1 [.int .i64 (-1), .int .i64 (k : Int), .int .i64 ((k : Int) + 1)] rfl rfl ?c1a ?c2a ?c3a ?c4a ?c5a ?_)
          | fail)
        case c1a => exact cell3_new _ _ _ _ _
        case c2a => intro u hu; simp at hu; rcases hu with rfl | rfl | rfl <;> rfl
        case c3a => unfold maxLen; omega
        case c4a => omega
        case c5a => simp; omega
        · intro v' w1 hown' hgrow _
          have R := ownU_snoc (u := (-1, k, k + 1)) rfl HO.out (by simpa using hown') hgrow rfl hB2 (Nat.le_refl _)
          have HR := hid R
          clear R hown' hgrow HO
          go_wp2
          go_roundw
          case rel => exact ⟨k + 1, pre ++ [(-1, k, k + 1)], by omega, by simp; omega, by go_num, by rw [HPre.out, HU.out]; simp, HR.out.1, HR.out.2⟩
          case measure => simp [intOf]; omega
      | some q =>
        obtain ⟨p, n⟩ := q
        rw [hq] at hg
        have hu : uniOf (s.data.toList.drop k) = ((p : Int), n) := by rw [uniOf, hq]
        have HU : Hid (unitsAt s.data.toList k = ((p : Int), k, k + n) :: unitsAt s.data.toList (k + n)) := by show _ = _; rw [unitsAt_step _ _ hltL, hu]
        rw [hu] at hsz1 hbd
        simp only at hsz1 hbd
        have hn0 : ¬ (n : Int) = 0 := by omega
        have hnb : ((n : Int) == 0) = false := by simpa using hn0
        rw [goodVal] at hg
        clear hq hl hu hll hltL hlen
        go_wp2_with (first
          | (go_at_call 50; refine hg.mono ?_; rintro e w2 ⟨rfl, hb⟩; have HO := hid (hown.later hb); have hB2 := hbel.trans (hb.mono hbel.size); have hsz := hB2.size; clear hown)
          | (at_builtin; refine wpList_append_own _ rfl _ _ 25 rfl w.heap.size 28 i0 (.agg #[.int .i64 0, .int .i64 0, .int .i64 0]) 3 24 Tryd.underlying25 hi hz0 hz1 hz2 rfl (by decide) _ _ _ rfl (HO.out.alloc _) ⟨w2.heap.size, 0, none⟩ 1 1 [.int .i64 (p : Int), .int .i64 (k : Int), .int .i64 ((k : Int) + (n : Int))] rfl rfl ?c1b ?c2b ?c3b ?c4b ?c5b ?_)
          | fail)
        case c1b => exact cell3_new _ _ _ _ _
        case c2b => intro u hu; simp at hu; rcases hu with rfl | rfl | rfl <;> rfl
        case c3b => unfold maxLen; omega
        case c4b => omega
        case c5b => simp; omega
        · intro v' w1 hown' hgrow _
          have R := ownU_snoc (u := ((p : Int), k, k + n)) rfl HO.out (by simpa using hown') hgrow rfl hB2 (Nat.le_refl _)
          have HR := hid R
          clear R hown' hgrow HO
          go_wp2
          go_roundw
          case rel => exact ⟨k + n, pre ++ [((p : Int), k, k + n)], by omega, by simp; omega, by go_num, by rw [HPre.out, HU.out]; simp, HR.out.1, HR.out.2⟩
          case measure => simp [intOf]; omega
    · go_wp2
      go_ret
      have hkk : unitsAt s.data.toList k = [] := unitsAt_end _ _ (by omega)
      exact ⟨_, rfl, by rw [HPre.out, hkk, List.append_nil]; exact hown, hbel⟩
end Go.Proofs.YtlmbbohhdgeedaaDoor
