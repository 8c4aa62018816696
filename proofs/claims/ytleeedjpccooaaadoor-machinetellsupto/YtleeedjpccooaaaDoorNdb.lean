/-
  PlTW, PlUW, PlVW, PlTM, PlEaM, MbM, PlWW, PlXW, MbBW, MbAW, MbCW, MbDW, ShelfZ, PlEbW.
-/
import Derived.Test.YtleeedjpccooaaaDoorNda
import Derived.ChangeKeysEq
import Derived.Lib.TrailingZeros
import Derived.Laws.IdiomStrings
import Derived.Laws.BytesString
import Derived.Maps.OwnSet
import Derived.Maps.OwnOps
import Derived.StringKeys
import Derived.Deep.RegionHeld3
import Derived.Laws.AppendOwnNone
import Derived.Shelf.Spec.TrailingZeros
import Derived.Ground.Names7Prog
import Derived.Test.YtleeedjpccooaaaDoorProg
import Derived.RangeFuncNested
import Derived.RangeFuncBound
import Derived.RangeFuncCalls
import Derived.RangeFuncLeaves
import Derived.RangeFuncBox
import Derived.Shelf.Abstract
import Derived.OwnWalkIn
import Derived.TacticsInMore
import Derived.LoopNIn
import Derived.LoopIn
namespace Go.Proofs.YtleeedjpccooaaaDoor
open Go.RowKit Go.Shelf
def addF (l : List Int) (f : Nat → Bool) (q : Nat) : Bool := l.any (fun x => decide (x = (q : Int))) || f q
theorem addF_nil (f : Nat → Bool) : addF [] f = f := by funext q; simp [addF]
theorem addF_snoc {L : List Int} {k : Nat} (hk : k < L.length) {p : Nat} (hp : L[k] = (p : Int)) (f : Nat → Bool) : (fun q => decide (q = p) || addF (L.take k) f q) = addF (L.take (k + 1)) f := by
  funext q
  have e : decide ((p : Int) = (q : Int)) = decide (q = p) := by
    by_cases h : q = p
    · subst h; simp
    · rw [decide_eq_false h, decide_eq_false (by omega)]
  simp only [addF, List.take_succ_eq_append_getElem hk, List.any_append, hp, List.any_cons, List.any_nil, Bool.or_false, e]
  cases decide (q = p) <;> simp
theorem oneOf_at {n : Nat} {L : List Int} (h : L.all (oneOf n) = true) {k : Nat} (hk : k < L.length) : ∃ p : Nat, p < n ∧ L[k] = (p : Int) := by
  have := (oneOf_iff n L[k]).1 (List.all_eq_true.1 h _ (List.getElem_mem hk))
  exact ⟨(L[k]).toNat, by omega, by omega⟩
set_option maxRecDepth 10000 in
set_option maxHeartbeats 800000 in
theorem addAll_any (A o g m n : Nat) (f : Nat → Bool) (L : List Int) (a : Option Addr) (c : Nat) (w : World) (hl : L.length ≤ 100000000000000) (hm : m ≤ 1000000) (hn : n ≤ 512 * m) (hall : L.all (oneOf n) = true) (hAl : A < w.heap.size) (hA : ¬ A = g) (hs : w.cell? ⟨A, o, none⟩ = some (.slice (some ⟨g, 0, none⟩) m m)) (ha : IA w a L) (hag : ∀ p, a = some p → ¬ p.block = g) (h : BS w g m f) :
    Calls Tryd.prog 80 #[.pointer (some ⟨A, o, none⟩), .slice a L.length c] w fun e w' => e = .returned (.tuple #[]) ∧ BS w' g m (addF L f) ∧ Only w w' (fun k => k = g) := by
  have HAll := hid0 hall
  have HI := hid0 ha
  have HAg := hid0 hag
  have HB0 := hid0 h
  have HS := hid0 hs
  clear hall ha hag h hs
  go_enter Tryd.func80, Tryd.ntmps80
  go_wp2
  go_loopw [8] (fun i wr => ∃ k : Nat, k ≤ L.length ∧ i = .int .i64 (k : Int) ∧ Hid (BS wr g m (addF (L.take k) f)) ∧ Hid (Only w wr (fun k => k = g))) (fun i _ => L.length - (intOf i).toNat)
  case atStart => exact ⟨0, Nat.zero_le _, rfl, hid0 (by rw [List.take_zero, addF_nil]; exact HB0.out), hid0 (Only.refl _ _)⟩
  case round =>
    obtain ⟨k, hk, rfl, HB, HO⟩ := hrel
    by_cases hlt : k < L.length
    · obtain ⟨p, hp, hpk⟩ := oneOf_at HAll.out hlt
      obtain ⟨b, off, rfl, hb, d1⟩ := HI.out.at' k hlt
      have d2 : wr.cell? ⟨b, off + k, none⟩ = some (.int .i64 (p : Int)) := by
        rw [HO.out.cell (p := ⟨b, off + k, none⟩) hb (HAg.out ⟨b, off, none⟩ rfl), d1, hpk]
      have hkI : (k : Int) < (L.length : Int) := by omega
      have hkI0 : (0 : Int) ≤ (k : Int) := by omega
      have HC := hid0 (add_any A o g m _ p wr (by omega) hm ((HO.out.cell (p := ⟨A, o, none⟩) hAl hA).trans HS.out) HB.out)
      have HN := hid0 (addF_snoc hlt hpk f)
      clear d1 hpk
      go_wp2_with (go_at_call 92; refine HC.out.mono ?_; rintro e w1 ⟨rfl, hb1, ho1⟩; have HB1 := hid0 hb1; have HO1 := hid0 ho1; clear hb1 ho1)
      go_roundw
      case rel => exact ⟨k + 1, by omega, by go_num, hid0 (by rw [← HN.out]; exact HB1.out), hid0 (HO.out.trans HO1.out (fun i hi => .inl hi))⟩
      case measure => simp [intOf]; omega
    · have hkI : ¬ (k : Int) < (L.length : Int) := by omega
      have HE : Hid (BS wr g m (addF L f)) := hid0 (by have := HB.out; rwa [List.take_of_length_le (by omega)] at this)
      clear HB
      go_wp2
      go_end0
      exact ⟨rfl, HE.out, HO.out⟩
theorem word_ask (f : Nat → Bool) (p : Nat) : bits .and .u64 ((wordOf f (p / 64) : Int) / 2 ^ (p % 64)) 1 = if f p then 1 else 0 := by
  have hp : 64 * (p / 64) + p % 64 = p := by omega
  have hb := wordOf_bit f (p / 64) (p % 64)
  rw [hp, decide_eq_true (Nat.mod_lt p (by omega)), Bool.true_and, Nat.testBit_eq_decide_div_mod_eq] at hb
  have hl := wordOf_lt f (p / 64)
  have e : ((wordOf f (p / 64) : Int) / 2 ^ (p % 64)) = ((wordOf f (p / 64) / 2 ^ (p % 64) : Nat) : Int) := by simp
  have hq : wordOf f (p / 64) / 2 ^ (p % 64) < 2 ^ 64 := Nat.lt_of_le_of_lt (Nat.div_le_self _ _) hl
  rw [e, show (1 : Int) = ((1 : Nat) : Int) from rfl, bits_and_u64_nat _ _ hq (by decide), Nat.and_one_is_mod]
  cases hf : f p
  · rw [hf] at hb
    have := of_decide_eq_false hb
    simp only [Bool.false_eq_true, if_false]
    omega
  · rw [hf] at hb
    have := of_decide_eq_true hb
    simp only [if_true]
    omega
set_option maxRecDepth 10000 in
set_option maxHeartbeats 1600000 in
theorem hasOneOf_any (g m n : Nat) (f : Nat → Bool) (L : List Int) (a : Option Addr) (c : Nat) (w : World) (hl : L.length ≤ 100000000000000) (hm : m ≤ 1000000) (hn : n ≤ 512 * m) (hall : L.all (oneOf n) = true) (ha : IA w a L) (h : BS w g m f) :
    Calls Tryd.prog 60 #[.agg #[.slice (some ⟨g, 0, none⟩) m m], .slice a L.length c] w fun e w' => e = .returned (.bool (L.any (fun x => f x.toNat))) ∧ Below w.heap.size w w' := by
  have HAll := hid0 hall
  obtain ⟨w0, hw0⟩ : ∃ w0, w0 = w.alloc (.cells #[.slice (some ⟨g, 0, none⟩) m m] 119) := ⟨_, rfl⟩
  have hb0 : Below w.heap.size w w0 := by rw [hw0]; exact (Below.refl _ _).alloc (Nat.le_refl _) _
  have HI := hid0 (ha.past hb0)
  have HB0 := hid0 (h.kept (w' := w0) (hb0.block g h.lt))
  have hs : w0.cell? ⟨w.heap.size, 0, none⟩ = some (.slice (some ⟨g, 0, none⟩) m m) := by rw [hw0]; exact cell_one_new _ _ _ 0 _ rfl
  have HBe := hid0 hb0
  have hfold := hw0.symm
  clear hall ha h hb0 hw0
  go_enter Tryd.func60, Tryd.ntmps60
  go_wp2
  go_loopw [9] (fun i wr => ∃ k : Nat, k ≤ L.length ∧ i = .int .i64 (k : Int) ∧ wr = w0 ∧ Hid ((L.drop k).any (fun x => f x.toNat) = L.any (fun x => f x.toNat))) (fun i _ => L.length - (intOf i).toNat)
  case atStart => exact ⟨0, Nat.zero_le _, rfl, rfl, hid0 rfl⟩
  case round =>
    obtain ⟨k, hk, rfl, rfl, HD⟩ := hrel
    by_cases hlt : k < L.length
    · obtain ⟨p, hp, hpk⟩ := oneOf_at HAll.out hlt
      obtain ⟨b, off, rfl, hb, d1⟩ := HI.out.at' k hlt
      rw [hpk] at d1
      have HS : Hid ((L.drop k).any (fun x => f x.toNat) = (f p || (L.drop (k + 1)).any (fun x => f x.toNat))) := hid0 (by rw [List.drop_eq_getElem_cons hlt, List.any_cons, hpk]; rfl)
      have hkI : (k : Int) < (L.length : Int) := by omega
      have hkI0 : (0 : Int) ≤ (k : Int) := by omega
      obtain ⟨d, hd⟩ : ∃ d : Nat, d = p / 512 := ⟨_, rfl⟩
      obtain ⟨r, hr⟩ : ∃ r : Nat, r = p % 512 := ⟨_, rfl⟩
      obtain ⟨e, he⟩ : ∃ e : Nat, e = r / 64 := ⟨_, rfl⟩
      have hde : d * 8 + e = p / 64 := by omega
      obtain ⟨k0, k1⟩ := HB0.out.cell (p / 64) (by omega)
      have hp0 : (0 : Int) ≤ (p : Int) := by omega
      have hdI : (p : Int) / 512 = (d : Int) := by omega
      have hrI : (p : Int) % 512 = (r : Int) := by omega
      have heI' : (r : Int) / 64 = (e : Int) := by omega
      have hr0 : (0 : Int) ≤ (r : Int) := by omega
      have hdI1 : (d : Int) < (m : Int) := by omega
      have hdI0 : (0 : Int) ≤ (d : Int) := by omega
      have hdI2 : (d : Int) + 1 ≤ (m : Int) := by omega
      have heI1 : (e : Int) < 8 := by omega
      have heI0 : (0 : Int) ≤ (e : Int) := by omega
      have hmI : (0 : Int) ≤ (p : Int) % 64 := by omega
      have hmI2 : (p : Int) % 64 < 64 := by omega
      have hbit := word_ask f p
      rw [← hde] at k0 hbit
      clear hde hd hr he hpk
      cases hf : f p
      · have HD2 : Hid ((L.drop (k + 1)).any (fun x => f x.toNat) = L.any (fun x => f x.toNat)) := hid0 (by rw [← HD.out, HS.out, hf, Bool.false_or])
        rw [hf] at hbit
        simp only [Bool.false_eq_true, if_false] at hbit
        clear HS HD
        go_wp2
        go_roundw
        case rel => exact ⟨k + 1, by omega, by go_num, trivial, HD2⟩
        case measure => simp [intOf]; omega
      · have HD2 : Hid (L.any (fun x => f x.toNat) = true) := hid0 (by rw [← HD.out, HS.out, hf, Bool.true_or])
        rw [hf] at hbit
        simp only [if_true] at hbit
        clear HS HD
        go_wp2
        go_ret
        exact ⟨by rw [HD2.out]; rfl, HBe.out⟩
    · have hkI : ¬ (k : Int) < (L.length : Int) := by omega
      have HD2 : Hid (L.any (fun x => f x.toNat) = false) := hid0 (by rw [← HD.out, List.drop_of_length_le (by omega)]; rfl)
      clear HD
      go_wp2
      go_ret
      exact ⟨by rw [HD2.out]; rfl, HBe.out⟩
end Go.Proofs.YtleeedjpccooaaaDoor
namespace Go.Proofs.YtleeedjpccooaaaDoor
open Go.RowKit Go.Shelf
def zeroBlk : Value := .agg #[.int .u64 0, .int .u64 0, .int .u64 0, .int .u64 0, .int .u64 0, .int .u64 0, .int .u64 0, .int .u64 0]
theorem infoBlk : (Tryd.prog.info? 149).map (fun i => (i.zero, i.size, i.bytes)) = some (some zeroBlk, 8, 64) := by kernel_rfl
theorem wordOf_zero (i : Nat) : wordOf (fun _ => false) i = 0 := by
  apply Nat.eq_of_testBit_eq
  intro k
  rw [wordOf_bit]; simp
theorem made_blk (n i : Nat) (hi : i < n) : (madeCells zeroBlk.cells n)[i]? = some (.int .u64 0) := by
  have h8 : i % 8 = 0 ∨ i % 8 = 1 ∨ i % 8 = 2 ∨ i % 8 = 3 ∨ i % 8 = 4 ∨ i % 8 = 5 ∨ i % 8 = 6 ∨ i % 8 = 7 := by omega
  have hz : zeroBlk.cells = #[.int .u64 0, .int .u64 0, .int .u64 0, .int .u64 0, .int .u64 0, .int .u64 0, .int .u64 0, .int .u64 0] := by kernel_rfl
  have hs : zeroBlk.cells.size = 8 := by rw [hz]; rfl
  have : (madeCells zeroBlk.cells n)[i]? = some (zeroBlk.cells[i % 8]!) := by
    simp only [madeCells, Array.getElem?_map, Array.getElem?_range, hi, hs, if_true, Option.map_some]
  rw [this, hz]
  rcases h8 with h | h | h | h | h | h | h | h <;> rw [h] <;> rfl
set_option maxRecDepth 10000 in
set_option maxHeartbeats 800000 in
theorem roomFor_any (n : Nat) (w : World) (hn : n ≤ 100000000) :
    Calls Tryd.prog 77 #[.int .i64 (n : Int)] w fun e w' => ∃ g, e = .returned (.agg #[.slice (some ⟨g, 0, none⟩) ((n + 511) / 512) ((n + 511) / 512)]) ∧ w.heap.size ≤ g ∧ BS w' g ((n + 511) / 512) (fun _ => false) ∧ Below w.heap.size w w' := by
  obtain ⟨m, hm⟩ : ∃ m : Nat, m = (n + 511) / 512 := ⟨_, rfl⟩
  rw [← hm]
  have hmI : ((n : Int) + 512 - 1) / 512 = (m : Int) := by omega
  have hm1 : m ≤ 1000000 := by omega
  have hn0 : (0 : Int) ≤ (n : Int) + 512 - 1 := by omega
  have hnI : (n : Int) ≤ 100000000 := by omega
  have hmI0 : (0 : Int) ≤ (m : Int) := by omega
  obtain ⟨i0, hi, hz0, hz1, hz2⟩ := info_parts infoBlk
  obtain ⟨w0, hw0⟩ : ∃ w0, w0 = w.alloc (.cells #[.slice none 0 0] 119) := ⟨_, rfl⟩
  have hb0 : Below w.heap.size w w0 := by rw [hw0]; exact (Below.refl _ _).alloc (Nat.le_refl _) _
  have hr0 : w0.heap[w.heap.size]? = some (.cells #[.slice none 0 0] 119 (0, 0)) := by rw [hw0]; exact heap_alloc_new w _
  have hs0 : w0.heap.size = w.heap.size + 1 := by rw [hw0]; simp
  have hfold := hw0.symm
  have HB0 := hid0 hb0
  clear hw0 hb0 hm
  go_enter Tryd.func77, Tryd.ntmps77
  go_wp2_with (at_make; go_loud ((
    refine wpList_make_full _ rfl _ _ 117 rfl w0.heap.size 149 i0 zeroBlk 8 Tryd.underlying117 hi hz0 hz1 .i64 .i64 _ _ m rfl rfl hmI hmI (by rw [hz2]; omega) (by unfold maxLen; omega) (Nat.le_refl _) ?_
    intro w1 hown1 hgrow1
    have hb1 : Below w0.heap.size w0 w1 := ⟨hgrow1.os, hgrow1.tape, hgrow1.output, hgrow1.size, fun k hk => hgrow1.block k hk (by simp)⟩
    have hr1 : w1.heap[w.heap.size]? = some (.cells #[.slice none 0 0] 119 (0, 0)) := (hb1.block _ (by omega)).trans hr0
    have hc1 : w1.cell? ⟨w.heap.size, 0, none⟩ = some (.slice none 0 0) := by rw [cell_of_row _ _ _ _ _ _ hr1]; rfl
    have hf1 : w1.frozen? ⟨w.heap.size, 0, none⟩ = false := by simp [World.frozen?, hr1]
    have HBS : Hid (∀ u, BS (w1.setCell ⟨w.heap.size, 0, none⟩ u) w0.heap.size m (fun _ => false)) := hid0 (fun u => by {
      rcases hown1.2 with ⟨h, _⟩ | ⟨g, cap, cur, hv, _, hrow, _, _, hsz, htk⟩
      · simp at h
      · simp only [Value.slice.injEq, Option.some.injEq, Addr.mk.injEq] at hv
        obtain ⟨⟨hg, _⟩, _, hcap⟩ := hv
        subst hg; subst hcap
        refine ⟨⟨cur, by rw [Below.heap_setCell _ _ _ _ (by show w0.heap.size ≠ w.heap.size; omega)]; exact hrow, fun i hi' => ?_⟩, fun _ _ => rfl⟩
        have e1 : cur.toList[i]? = (cur.toList.take (m * 8))[i]? := by rw [List.getElem?_take_of_lt (by omega)]
        rw [← Array.getElem?_toList, e1, htk, Array.getElem?_toList, made_blk _ _ (by omega), wordOf_zero]
        rfl })
    have HBl : Hid (∀ u, Below w.heap.size w (w1.setCell ⟨w.heap.size, 0, none⟩ u)) := hid0 (fun u => (Below.later HB0.out (hb1.mono (by omega))).setCell (p := ⟨w.heap.size, 0, none⟩) (Nat.le_refl _) u)
    have hc2 : ∀ u, (w1.setCell ⟨w.heap.size, 0, none⟩ u).cell? ⟨w.heap.size, 0, none⟩ = some u := fun u => by rw [cell_of_row _ _ _ _ _ _ (heap_setCell_same w1 _ _ _ _ _ hr1)]; rfl
    clear hown1 hgrow1 hb1 hr1)))
  have hc3 := hc2 (.slice (some ⟨w.heap.size + 1, 0, none⟩) m m)
  have HE : Hid (w.heap.size ≤ w.heap.size + 1) := hid0 (by omega)
  rw [hs0] at HBS
  exact bodyPost_ret (v := .agg #[.slice (some ⟨w.heap.size + 1, 0, none⟩) m m]) (by simp [results, Tryd.results77, go_sem, hc3]) rfl ⟨_, rfl, HE.out, HBS.out _, HBl.out _⟩
end Go.Proofs.YtleeedjpccooaaaDoor
namespace Go.Proofs.YtleeedjpccooaaaDoor
open Go.RowKit Go.Shelf
theorem infoU64 : (Tryd.prog.info? 105).map (fun i => (i.zero, i.size, i.bytes)) = some (some (.int .u64 0), 1, 8) := by kernel_rfl
theorem undU64 : Tryd.prog.underlying 105 = some (.int .u64) := by kernel_rfl
theorem undBlk : Tryd.prog.underlying 149 = some (.array 8 105) := by kernel_rfl
theorem cellsU64 : Tryd.prog.cellsOf 105 = 1 := by kernel_rfl
theorem eq_u64 (d : Nat) (a b : Int) (w : World) : (Op.equalIn (d + 1) 105 (.int .u64 a) (.int .u64 b)).run Tryd.prog w = .ok (a == b) w := by
  simp only [Op.equalIn, Sem.run_bind, run_underlying undU64, Result.andThen_ok, if_true, Sem.run_pure]
theorem part_u64 (xs : Array Value) (k : Nat) (a : Int) (h : xs[k]? = some (.int .u64 a)) (w : World) : (part 105 xs k).run Tryd.prog w = .ok (.int .u64 a) w := by
  obtain ⟨i, hi, hz0, hz1, hz2⟩ := info_parts infoU64
  simp [part, h, go_sem]
theorem items_u64 (d : Nat) (xs ys : Array Value) (f g : Nat → Int) (w : World) : ∀ is : List Nat, (∀ i ∈ is, xs[i]? = some (.int .u64 (f i)) ∧ ys[i]? = some (.int .u64 (g i))) → (Op.eqItems (d + 1) 105 1 xs ys is).run Tryd.prog w = .ok (is.all (fun i => f i == g i)) w
  | [], _ => by simp [Op.eqItems]
  | i :: is, h => by
    obtain ⟨h1, h2⟩ := h i (by simp)
    have ih := items_u64 d xs ys f g w is (fun j hj => h j (by simp [hj]))
    simp only [Op.eqItems, Sem.run_bind, Nat.mul_one, part_u64 xs i _ h1, part_u64 ys i _ h2, eq_u64, Result.andThen_ok, List.all_cons]
    cases hfg : (f i == g i)
    · simp
    · simpa using ih
def zeroB (f : Nat → Bool) (k : Nat) : Bool := (List.range 8).all (fun i => (wordOf f (k * 8 + i) : Int) == 0)
def emF (f : Nat → Bool) (m : Nat) : Bool := (List.range (512 * m)).all (fun q => !f q)
theorem emF_iff (f : Nat → Bool) (m : Nat) : emF f m = true ↔ ∀ q, q < 512 * m → f q = false := by
  simp [emF]
theorem wordOf_eq_zero (f : Nat → Bool) (i : Nat) : wordOf f i = 0 ↔ ∀ j, j < 64 → f (64 * i + j) = false := by
  constructor
  · intro h j hj
    have hb := wordOf_bit f i j
    rw [h, Nat.zero_testBit, decide_eq_true hj, Bool.true_and] at hb
    exact hb.symm
  · intro h
    apply Nat.eq_of_testBit_eq
    intro j
    rw [wordOf_bit, Nat.zero_testBit]
    by_cases hj : j < 64
    · rw [h j hj, Bool.and_false]
    · rw [decide_eq_false hj, Bool.false_and]
theorem zeroB_all {f : Nat → Bool} {k : Nat} (h : zeroB f k = true) (q : Nat) (h1 : 512 * k ≤ q) (h2 : q < 512 * (k + 1)) : f q = false := by
  have h3 := List.all_eq_true.1 h ((q - 512 * k) / 64) (by simp; omega)
  have h4 : wordOf f (k * 8 + (q - 512 * k) / 64) = 0 := by
    have := eq_of_beq h3; omega
  have h5 := (wordOf_eq_zero f _).1 h4 (q % 64) (by omega)
  rw [show 64 * (k * 8 + (q - 512 * k) / 64) + q % 64 = q by omega] at h5
  exact h5
theorem zeroB_not {f : Nat → Bool} {k : Nat} (h : zeroB f k = false) : ∃ q, q < 512 * (k + 1) ∧ f q = true := by
  obtain ⟨i, h1, h2⟩ := List.all_eq_false.1 h
  have h1 : i < 8 := List.mem_range.1 h1
  have h3 : ¬ wordOf f (k * 8 + i) = 0 := fun e => h2 (by rw [e]; rfl)
  rw [wordOf_eq_zero] at h3
  have : ∃ j, j < 64 ∧ f (64 * (k * 8 + i) + j) = true := by
    apply Classical.byContradiction
    intro hn
    apply h3
    intro j hj
    cases hf : f (64 * (k * 8 + i) + j)
    · rfl
    · exact absurd ⟨j, hj, hf⟩ hn
  obtain ⟨j, hj, hf⟩ := this
  exact ⟨_, by omega, hf⟩
theorem eq_blk (f : Nat → Bool) (k : Nat) (w : World) : (Op.equalIn 10000 149 (.agg #[.int .u64 (wordOf f (k * 8) : Int), .int .u64 (wordOf f (k * 8 + 1) : Int), .int .u64 (wordOf f (k * 8 + 2) : Int), .int .u64 (wordOf f (k * 8 + 3) : Int), .int .u64 (wordOf f (k * 8 + 4) : Int), .int .u64 (wordOf f (k * 8 + 5) : Int), .int .u64 (wordOf f (k * 8 + 6) : Int), .int .u64 (wordOf f (k * 8 + 7) : Int)]) (.agg #[.int .u64 0, .int .u64 0, .int .u64 0, .int .u64 0, .int .u64 0, .int .u64 0, .int .u64 0, .int .u64 0])).run Tryd.prog w = .ok (zeroB f k) w := by
  obtain ⟨i, hi, _⟩ := info_parts infoU64
  rw [show (10000 : Nat) = 9998 + 1 + 1 from rfl, run_equalIn_array w (9998 + 1) _ _ undBlk hi, cellsU64, items_u64 9998 _ _ (fun i => (wordOf f (k * 8 + i) : Int)) (fun _ => 0) w _ (fun i hi => ?_)]
  · rfl
  · have h8 : i < 8 := List.mem_range.1 hi
    have : i = 0 ∨ i = 1 ∨ i = 2 ∨ i = 3 ∨ i = 4 ∨ i = 5 ∨ i = 6 ∨ i = 7 := by omega
    rcases this with rfl | rfl | rfl | rfl | rfl | rfl | rfl | rfl <;> exact ⟨rfl, rfl⟩
set_option maxRecDepth 10000 in
set_option maxHeartbeats 1600000 in
theorem isEmpty_any (g m : Nat) (f : Nat → Bool) (w : World) (hm : m ≤ 1000000) (h : BS w g m f) :
    Calls Tryd.prog 84 #[.agg #[.slice (some ⟨g, 0, none⟩) m m]] w fun e w' => e = .returned (.bool (emF f m)) ∧ Below w.heap.size w w' := by
  obtain ⟨w0, hw0⟩ : ∃ w0, w0 = w.alloc (.cells #[.slice (some ⟨g, 0, none⟩) m m] 119) := ⟨_, rfl⟩
  have hb0 : Below w.heap.size w w0 := by rw [hw0]; exact (Below.refl _ _).alloc (Nat.le_refl _) _
  have HB0 := hid0 (h.kept (w' := w0) (hb0.block g h.lt))
  have hs : w0.cell? ⟨w.heap.size, 0, none⟩ = some (.slice (some ⟨g, 0, none⟩) m m) := by rw [hw0]; exact cell_one_new _ _ _ 0 _ rfl
  have HBe := hid0 hb0
  have hfold := hw0.symm
  clear h hb0 hw0
  go_enter Tryd.func84, Tryd.ntmps84
  go_wp2
  go_loopw [7] (fun i wr => ∃ k : Nat, k ≤ m ∧ i = .int .i64 (k : Int) ∧ wr = w0 ∧ Hid (∀ q, q < 512 * k → f q = false)) (fun i _ => m - (intOf i).toNat)
  case atStart => exact ⟨0, Nat.zero_le _, rfl, rfl, hid0 (fun q hq => by omega)⟩
  case round =>
    obtain ⟨k, hk, rfl, rfl, HD⟩ := hrel
    by_cases hlt : k < m
    · have hkI : (k : Int) < (m : Int) := by omega
      have hkI0 : (0 : Int) ≤ (k : Int) := by omega
      have c0 := (HB0.out.cell (k * 8) (by omega)).1
      have c1 := (HB0.out.cell (k * 8 + 1) (by omega)).1
      have c2 := (HB0.out.cell (k * 8 + 2) (by omega)).1
      have c3 := (HB0.out.cell (k * 8 + 3) (by omega)).1
      have c4 := (HB0.out.cell (k * 8 + 4) (by omega)).1
      have c5 := (HB0.out.cell (k * 8 + 5) (by omega)).1
      have c6 := (HB0.out.cell (k * 8 + 6) (by omega)).1
      have c7 := (HB0.out.cell (k * 8 + 7) (by omega)).1
      have heq := eq_blk f k wr
      cases hz : zeroB f k
      · have HD2 : Hid (emF f m = false) := hid0 (by
          obtain ⟨q, h1, h2⟩ := zeroB_not hz
          cases he : emF f m
          · rfl
          · have := (emF_iff f m).1 he q (by omega)
            rw [this] at h2; cases h2)
        rw [hz] at heq
        clear HD
        go_wp2
        go_ret
        exact ⟨by rw [HD2.out]; rfl, HBe.out⟩
      · have HD2 : Hid (∀ q, q < 512 * (k + 1) → f q = false) := hid0 (fun q hq => by
          by_cases h1 : q < 512 * k
          · exact HD.out q h1
          · exact zeroB_all hz q (by omega) hq)
        rw [hz] at heq
        clear HD
        go_wp2
        go_roundw
        case rel => exact ⟨k + 1, by omega, by go_num, trivial, HD2⟩
        case measure => simp [intOf]; omega
    · have hkI : ¬ (k : Int) < (m : Int) := by omega
      have HD2 : Hid (emF f m = true) := hid0 (by
        refine (emF_iff f m).2 (fun q hq => HD.out q (by omega)))
      clear HD
      go_wp2
      go_ret
      exact ⟨by rw [HD2.out]; rfl, HBe.out⟩
end Go.Proofs.YtleeedjpccooaaaDoor
namespace Go.Proofs.YtleeedjpccooaaaDoor
theorem low_form (x : Nat) (h0 : x ≠ 0) (h : x < 2 ^ 64) : ∃ m, x = 2 ^ Lib.ctz 64 x * (2 * m + 1) ∧ Lib.ctz 64 x < 64 := by
  obtain ⟨m, h1, h2⟩ := Lib.ctzFrom_spec 64 x (by omega) h
  have : Lib.ctz 64 x = Lib.ctzFrom 64 x := by simp [Lib.ctz, h0]
  rw [this]
  exact ⟨m, h1, h2⟩
theorem pow_form_div (k m : Nat) : 2 ^ k * (2 * m + 1) / 2 ^ k = 2 * m + 1 := by
  rw [Nat.mul_comm, Nat.mul_div_cancel _ (Nat.two_pow_pos k)]
theorem pow_form_pred (k m : Nat) : (2 ^ k * (2 * m + 1) - 1) / 2 ^ k = 2 * m := by
  have hp := Nat.two_pow_pos k
  have e : 2 ^ k * (2 * m + 1) - 1 = 2 ^ k * (2 * m) + (2 ^ k - 1) := by rw [Nat.mul_add, Nat.mul_one]; omega
  rw [e, Nat.mul_add_div hp, Nat.div_eq_of_lt (show 2 ^ k - 1 < 2 ^ k by omega), Nat.add_zero]
theorem low_bits (k m j : Nat) : (2 ^ k * (2 * m + 1)).testBit j = (decide (j = k) || (decide (k < j) && (2 ^ k * (2 * m + 1)).testBit j)) := by
  by_cases h1 : j = k
  · subst h1
    rw [Nat.testBit_eq_decide_div_mod_eq, pow_form_div]
    simp
  · by_cases h2 : k < j
    · simp [h1, h2]
    · have h3 : j < k := by omega
      rw [Nat.testBit_two_pow_mul, decide_eq_false (show ¬ j ≥ k by omega)]
      simp [h1, h2]
theorem low_off (k m j : Nat) : (2 ^ k * (2 * m + 1) &&& (2 ^ k * (2 * m + 1) - 1)).testBit j = (decide (k < j) && (2 ^ k * (2 * m + 1)).testBit j) := by
  rw [Nat.testBit_and]
  by_cases h1 : j = k
  · subst h1
    have : (2 ^ j * (2 * m + 1) - 1).testBit j = false := by
      rw [Nat.testBit_eq_decide_div_mod_eq, pow_form_pred]; simp
    simp [this]
  · by_cases h2 : k < j
    · obtain ⟨i, rfl⟩ : ∃ i, j = k + 1 + i := ⟨j - k - 1, by omega⟩
      have e : (2 ^ k * (2 * m + 1) - 1).testBit (k + 1 + i) = (2 ^ k * (2 * m + 1)).testBit (k + 1 + i) := by
        rw [Nat.testBit_eq_decide_div_mod_eq, Nat.testBit_eq_decide_div_mod_eq, Nat.pow_add, Nat.pow_add, ← Nat.div_div_eq_div_mul, ← Nat.div_div_eq_div_mul, ← Nat.div_div_eq_div_mul, ← Nat.div_div_eq_div_mul, pow_form_pred, pow_form_div]
        have : 2 * m / 2 ^ 1 = (2 * m + 1) / 2 ^ 1 := by omega
        rw [this]
      rw [e, decide_eq_true h2]; simp
    · have : (2 ^ k * (2 * m + 1)).testBit j = false := by
        rw [low_bits]; simp [h1, h2]
      rw [this]; simp
/-- The lowest bit of a word; the word without it. -/
theorem low_word (x : Nat) (h0 : x ≠ 0) (h : x < 2 ^ 64) : x.testBit (Lib.ctz 64 x) = true ∧ Lib.ctz 64 x < 64 ∧ ∀ j, (j < Lib.ctz 64 x → x.testBit j = false) ∧ (x &&& (x - 1)).testBit j = (decide (Lib.ctz 64 x < j) && x.testBit j) := by
  obtain ⟨m, h1, h2⟩ := low_form x h0 h
  generalize Lib.ctz 64 x = k at *
  subst h1
  refine ⟨by rw [low_bits]; simp, h2, fun j => ⟨fun hj => ?_, low_off k m j⟩⟩
  rw [low_bits]; simp; omega
end Go.Proofs.YtleeedjpccooaaaDoor
namespace Go.Proofs.YtleeedjpccooaaaDoor
/-- The places of a set below n, rising. -/
def plB (f : Nat → Bool) (n : Nat) : List Nat := (List.range n).filter f
theorem plB_zero (f : Nat → Bool) : plB f 0 = [] := rfl
theorem plB_succ (f : Nat → Bool) (n : Nat) : plB f (n + 1) = if f n then plB f n ++ [n] else plB f n := by
  simp only [plB, List.range_succ, List.filter_append]
  cases h : f n <;> simp [h]
theorem plB_skip (f : Nat → Bool) (a : Nat) : ∀ d, (∀ q, a ≤ q → q < a + d → f q = false) → plB f (a + d) = plB f a
  | 0, _ => rfl
  | d + 1, h => by
    rw [← Nat.add_assoc, plB_succ, h (a + d) (by omega) (by omega)]
    simp [plB_skip f a d (fun q h1 h2 => h q h1 (by omega))]
/-- A word without the bits below c. -/
def wordFrom (f : Nat → Bool) (c i : Nat) : Nat := wordOf (fun q => f q && decide (64 * i + c ≤ q)) i
theorem wordFrom_zero (f : Nat → Bool) (i : Nat) : wordFrom f 0 i = wordOf f i := by
  apply Nat.eq_of_testBit_eq
  intro k
  rw [wordFrom, wordOf_bit, wordOf_bit]
  simp
theorem wordFrom_bit (f : Nat → Bool) (c i k : Nat) : (wordFrom f c i).testBit k = (decide (k < 64) && (f (64 * i + k) && decide (c ≤ k))) := by
  rw [wordFrom, wordOf_bit]
  have : decide (64 * i + c ≤ 64 * i + k) = decide (c ≤ k) := by
    by_cases h : c ≤ k
    · rw [decide_eq_true h, decide_eq_true (by omega)]
    · rw [decide_eq_false h, decide_eq_false (by omega)]
  rw [this]
theorem wordFrom_lt (f : Nat → Bool) (c i : Nat) : wordFrom f c i < 18446744073709551616 := wordOf_lt _ _
theorem wordFrom_none {f : Nat → Bool} {c i : Nat} (h : wordFrom f c i = 0) (hc : c ≤ 64) : plB f (64 * (i + 1)) = plB f (64 * i + c) := by
  have := plB_skip f (64 * i + c) (64 - c) (fun q h1 h2 => by
    have hb := wordFrom_bit f c i (q - 64 * i)
    rw [h, Nat.zero_testBit, decide_eq_true (show q - 64 * i < 64 by omega), decide_eq_true (show c ≤ q - 64 * i by omega), show 64 * i + (q - 64 * i) = q by omega] at hb
    simpa using hb.symm)
  rw [← this]
  congr 1
  omega
theorem wordFrom_some {f : Nat → Bool} {c i : Nat} (h : wordFrom f c i ≠ 0) : ∃ t, Lib.ctz 64 (wordFrom f c i) = t ∧ c ≤ t ∧ t < 64 ∧ f (64 * i + t) = true ∧ wordFrom f c i &&& (wordFrom f c i - 1) = wordFrom f (t + 1) i ∧ plB f (64 * i + (t + 1)) = plB f (64 * i + c) ++ [64 * i + t] := by
  obtain ⟨h1, h2, h3⟩ := low_word _ h (wordFrom_lt f c i)
  refine ⟨_, rfl, ?_⟩
  generalize Lib.ctz 64 (wordFrom f c i) = t at *
  rw [wordFrom_bit, decide_eq_true h2, Bool.true_and, Bool.and_eq_true] at h1
  have hct : c ≤ t := of_decide_eq_true h1.2
  refine ⟨hct, h2, h1.1, ?_, ?_⟩
  · apply Nat.eq_of_testBit_eq
    intro j
    rw [(h3 j).2, wordFrom_bit, wordFrom_bit]
    by_cases hj : t < j
    · rw [decide_eq_true hj, decide_eq_true (show c ≤ j by omega), decide_eq_true (show t + 1 ≤ j by omega), Bool.true_and]
    · rw [decide_eq_false hj, decide_eq_false (show ¬ t + 1 ≤ j by omega)]
      simp
  · rw [← Nat.add_assoc, plB_succ, h1.1, if_pos rfl]
    have := plB_skip f (64 * i + c) (t - c) (fun q h4 h5 => by
      have hb := (h3 (q - 64 * i)).1 (by omega)
      rw [wordFrom_bit, decide_eq_true (show q - 64 * i < 64 by omega), decide_eq_true (show c ≤ q - 64 * i by omega), show 64 * i + (q - 64 * i) = q by omega] at hb
      simpa using hb)
    rw [show 64 * i + t = 64 * i + c + (t - c) by omega, this]
end Go.Proofs.YtleeedjpccooaaaDoor
namespace Go.Proofs.YtleeedjpccooaaaDoor
/-- Little ends first: so many bytes of a number. -/
def leB (n : Nat) : Nat → List UInt8
  | 0 => []
  | k + 1 => UInt8.ofNat (n % 256) :: leB (n / 256) k
theorem leB_len : ∀ (k n : Nat), (leB n k).length = k
  | 0, _ => rfl
  | k + 1, n => by rw [leB, List.length_cons, leB_len k]
theorem leB_snoc : ∀ (k n : Nat), leB n (k + 1) = leB n k ++ [UInt8.ofNat (n / 256 ^ k % 256)]
  | 0, n => by simp [leB]
  | k + 1, n => by
    rw [leB, leB_snoc k, leB, List.cons_append, Nat.div_div_eq_div_mul, Nat.pow_succ, Nat.mul_comm 256]
/-- And back. -/
def leD : List UInt8 → Nat
  | [] => 0
  | b :: l => b.toNat + 256 * leD l
theorem leD_leB : ∀ (k n : Nat), leD (leB n k) = n % 256 ^ k
  | 0, n => by simp [leB, leD, Nat.mod_one]
  | k + 1, n => by
    have e : (UInt8.ofNat (n % 256)).toNat = n % 256 := by rw [UInt8.toNat_ofNat']; omega
    have p : 256 ^ (k + 1) = 256 * 256 ^ k := by rw [Nat.pow_succ, Nat.mul_comm]
    rw [leB, leD, leD_leB k, e, p, Nat.mod_mul]
theorem leB_inj {k a b : Nat} (ha : a < 256 ^ k) (hb : b < 256 ^ k) (h : leB a k = leB b k) : a = b := by
  have := congrArg leD h
  rwa [leD_leB, leD_leB, Nat.mod_eq_of_lt ha, Nat.mod_eq_of_lt hb] at this
/-- A word of a set, as text. -/
def wdT (f : Nat → Bool) (i : Nat) : List UInt8 := if wordOf f i = 0 then [] else leB i 4 ++ leB (wordOf f i) 8
/-- The words of a set ahead of the i-th, as text. -/
def encW (f : Nat → Bool) : Nat → List UInt8
  | 0 => []
  | i + 1 => encW f i ++ wdT f i
theorem wdT_len (f : Nat → Bool) (i : Nat) : (wdT f i).length ≤ 12 := by
  unfold wdT
  split
  · simp
  · rw [List.length_append, leB_len, leB_len]; omega
theorem encW_len (f : Nat → Bool) : ∀ i, (encW f i).length ≤ 12 * i
  | 0 => by simp [encW]
  | i + 1 => by rw [encW, List.length_append]; have := encW_len f i; have := wdT_len f i; omega
theorem encW_same {f g : Nat → Bool} : ∀ n, (∀ q, q < 64 * n → f q = g q) → encW f n = encW g n
  | 0, _ => rfl
  | n + 1, h => by
    have hw : wordOf f n = wordOf g n := by
      apply Nat.eq_of_testBit_eq
      intro k
      rw [wordOf_bit, wordOf_bit]
      by_cases hk : k < 64
      · rw [h (64 * n + k) (by omega)]
      · simp [hk]
    rw [encW, encW, encW_same n (fun q hq => h q (by omega))]
    unfold wdT
    rw [hw]
/-- The words of a set that hold anything, in their order. -/
def wl (f : Nat → Bool) : Nat → List Nat
  | 0 => []
  | i + 1 => if wordOf f i = 0 then wl f i else wl f i ++ [i]
def wlT (f : Nat → Bool) (l : List Nat) : List UInt8 := l.flatMap fun i => leB i 4 ++ leB (wordOf f i) 8
theorem encW_wl (f : Nat → Bool) : ∀ n, encW f n = wlT f (wl f n)
  | 0 => rfl
  | n + 1 => by
    rw [encW, wl, encW_wl f n]
    unfold wdT wlT
    by_cases h : wordOf f n = 0
    · rw [if_pos h, if_pos h, List.append_nil]
    · rw [if_neg h, if_neg h, List.flatMap_append]; simp
theorem wl_lt (f : Nat → Bool) : ∀ n, ∀ i ∈ wl f n, i < n ∧ wordOf f i ≠ 0
  | 0, i, h => by cases h
  | n + 1, i, h => by
    rw [wl] at h
    by_cases h0 : wordOf f n = 0
    · rw [if_pos h0] at h; have := wl_lt f n i h; exact ⟨by omega, this.2⟩
    · rw [if_neg h0, List.mem_append, List.mem_singleton] at h
      rcases h with h | rfl
      · have := wl_lt f n i h; exact ⟨by omega, this.2⟩
      · exact ⟨by omega, h0⟩
theorem wl_len (f : Nat → Bool) : ∀ n, (wl f n).length ≤ n
  | 0 => by simp [wl]
  | n + 1 => by
    rw [wl]
    have := wl_len f n
    split
    · omega
    · rw [List.length_append, List.length_singleton]; omega
theorem wlT_len (f : Nat → Bool) (l : List Nat) : (wlT f l).length = 12 * l.length := by
  unfold wlT
  induction l with
  | nil => rfl
  | cons i l ih => rw [List.flatMap_cons, List.length_append, ih, List.length_append, leB_len, leB_len, List.length_cons]; omega
/-- The places of the words ahead of the n-th are those of the words that hold anything. -/
theorem plB_wl (f : Nat → Bool) : ∀ n, plB f (64 * n) = (wl f n).flatMap fun i => (plB f (64 * (i + 1))).drop (plB f (64 * i)).length
  | 0 => rfl
  | n + 1 => by
    have hp : plB f (64 * n) <+: plB f (64 * (n + 1)) := by
      unfold plB
      rw [show 64 * (n + 1) = 64 * n + 64 by omega, List.range_add, List.filter_append]
      exact List.prefix_append _ _
    rw [wl]
    by_cases h : wordOf f n = 0
    · rw [if_pos h, ← plB_wl f n]
      rw [show 64 * (n + 1) = 64 * n + 64 by omega]
      exact plB_skip f (64 * n) 64 (fun q h1 h2 => by
        have := (wordOf_eq_zero f n).1 h (q - 64 * n) (by omega)
        rwa [show 64 * n + (q - 64 * n) = q by omega] at this)
    · rw [if_neg h, List.flatMap_append, ← plB_wl f n]
      simp only [List.flatMap_cons, List.flatMap_nil, List.append_nil]
      obtain ⟨t, ht⟩ := hp
      rw [← ht, List.drop_left]
/-- Texts tell sets apart. -/
theorem encW_inj {f g : Nat → Bool} {n : Nat} (hn : n ≤ 4294967296) (h : encW f n = encW g n) : ∀ q, q < 64 * n → f q = g q := by
  have key : ∀ (l m : List Nat), (∀ i ∈ l, i < n ∧ wordOf f i ≠ 0) → (∀ i ∈ m, i < n ∧ wordOf g i ≠ 0) → wlT f l = wlT g m → l = m ∧ ∀ i ∈ l, wordOf f i = wordOf g i := by
    intro l
    induction l with
    | nil =>
      intro m _ _ he
      cases m with
      | nil => exact ⟨rfl, fun i hi => by cases hi⟩
      | cons j m =>
        have := congrArg List.length he
        rw [wlT_len, wlT_len] at this
        simp at this
    | cons i l ih =>
      intro m hl hm he
      cases m with
      | nil =>
        have := congrArg List.length he
        rw [wlT_len, wlT_len] at this
        simp at this
      | cons j m =>
        unfold wlT at he
        rw [List.flatMap_cons, List.flatMap_cons, List.append_assoc, List.append_assoc] at he
        obtain ⟨e1, e2⟩ := List.append_inj he (by rw [leB_len, leB_len])
        obtain ⟨e3, e4⟩ := List.append_inj e2 (by rw [leB_len, leB_len])
        have hi := hl i (.head _)
        have hj := hm j (.head _)
        obtain rfl : i = j := leB_inj (k := 4) (by omega) (by omega) e1
        have hw : wordOf f i = wordOf g i := leB_inj (k := 8) (by have := wordOf_lt f i; omega) (by have := wordOf_lt g i; omega) e3
        obtain ⟨r1, r2⟩ := ih m (fun k hk => hl k (.tail _ hk)) (fun k hk => hm k (.tail _ hk)) e4
        refine ⟨by rw [r1], fun k hk => ?_⟩
        rcases List.mem_cons.1 hk with rfl | hk
        · exact hw
        · exact r2 k hk
  rw [encW_wl, encW_wl] at h
  obtain ⟨e, hw⟩ := key _ _ (wl_lt f n) (wl_lt g n) h
  have mem : ∀ (f : Nat → Bool) (n i : Nat), i < n → wordOf f i ≠ 0 → i ∈ wl f n := by
    intro f n
    induction n with
    | zero => intro i hi; omega
    | succ n ih =>
      intro i hi h0
      rw [wl]
      by_cases hin : i = n
      · subst hin; rw [if_neg h0]; simp
      · split
        · exact ih i (by omega) h0
        · exact List.mem_append_left _ (ih i (by omega) h0)
  intro q hq
  have hqn : q / 64 < n := by omega
  have hww : wordOf f (q / 64) = wordOf g (q / 64) := by
    by_cases h0 : wordOf f (q / 64) = 0
    · by_cases h1 : wordOf g (q / 64) = 0
      · rw [h0, h1]
      · exact hw _ (by rw [e]; exact mem g n _ hqn h1)
    · exact hw _ (mem f n _ hqn h0)
  have h1 := wordOf_bit f (q / 64) (q % 64)
  have h2 := wordOf_bit g (q / 64) (q % 64)
  rw [hww, h2, show 64 * (q / 64) + q % 64 = q by omega] at h1
  have : q % 64 < 64 := Nat.mod_lt _ (by omega)
  simpa [this] using h1.symm
/-- Two rising lists as one. -/
def mrgA (x : Nat) (f : List Nat → List Nat) : List Nat → List Nat
  | [] => x :: f []
  | y :: b => if x < y then x :: f (y :: b) else if y < x then y :: mrgA x f b else x :: f b
def mrg : List Nat → List Nat → List Nat
  | [] => fun b => b
  | x :: a => mrgA x (mrg a)
theorem mrg_nl (b : List Nat) : mrg [] b = b := rfl
theorem mrg_nil : ∀ (a : List Nat), mrg a [] = a
  | [] => rfl
  | x :: a => by
    show x :: mrg a [] = x :: a
    rw [mrg_nil a]
theorem mrg_cons (x : Nat) (a : List Nat) (y : Nat) (b : List Nat) : mrg (x :: a) (y :: b) = if x < y then x :: mrg a (y :: b) else if y < x then y :: mrg (x :: a) b else x :: mrg a b := rfl
theorem mrg_mem : ∀ (a b : List Nat) (z : Nat), z ∈ mrg a b ↔ z ∈ a ∨ z ∈ b
  | [], b, z => by simp [mrg_nl]
  | x :: a, [], z => by simp [mrg_nil]
  | x :: a, y :: b, z => by
    rw [mrg_cons]
    split
    · rw [List.mem_cons, mrg_mem a (y :: b), List.mem_cons (a := z) (b := x), or_assoc]
    · split
      · rw [List.mem_cons, mrg_mem (x :: a) b, List.mem_cons, List.mem_cons]
        constructor
        · rintro (h | (h | h) | h)
          · exact .inr (.inl h)
          · exact .inl (.inl h)
          · exact .inl (.inr h)
          · exact .inr (.inr h)
        · rintro ((h | h) | (h | h))
          · exact .inr (.inl (.inl h))
          · exact .inr (.inl (.inr h))
          · exact .inl h
          · exact .inr (.inr h)
      · have e : x = y := by omega
        subst e
        rw [List.mem_cons, mrg_mem a b, List.mem_cons, List.mem_cons]
        constructor
        · rintro (h | h | h)
          · exact .inl (.inl h)
          · exact .inl (.inr h)
          · exact .inr (.inr h)
        · rintro ((h | h) | (h | h))
          · exact .inl h
          · exact .inr (.inl h)
          · exact .inl h
          · exact .inr (.inr h)
termination_by a b => a.length + b.length
theorem mrg_len : ∀ (a b : List Nat), (mrg a b).length ≤ a.length + b.length
  | [], b => by simp [mrg_nl]
  | x :: a, [] => by simp [mrg_nil]
  | x :: a, y :: b => by
    rw [mrg_cons]
    split
    · have := mrg_len a (y :: b); simp only [List.length_cons] at *; omega
    · split
      · have := mrg_len (x :: a) b; simp only [List.length_cons] at *; omega
      · have := mrg_len a b; simp only [List.length_cons] at *; omega
termination_by a b => a.length + b.length
theorem mrg_rise : ∀ (a b : List Nat), a.Pairwise (· < ·) → b.Pairwise (· < ·) → (mrg a b).Pairwise (· < ·)
  | [], b, _, hb => by rw [mrg_nl]; exact hb
  | x :: a, [], ha, _ => by rw [mrg_nil]; exact ha
  | x :: a, y :: b, ha, hb => by
    obtain ⟨ha1, ha2⟩ := List.pairwise_cons.1 ha
    obtain ⟨hb1, hb2⟩ := List.pairwise_cons.1 hb
    rw [mrg_cons]
    split
    · refine List.pairwise_cons.2 ⟨fun z hz => ?_, mrg_rise a (y :: b) ha2 hb⟩
      rcases (mrg_mem _ _ _).1 hz with h | h
      · exact ha1 z h
      · rcases List.mem_cons.1 h with rfl | h
        · assumption
        · have := hb1 z h; omega
    · split
      · refine List.pairwise_cons.2 ⟨fun z hz => ?_, mrg_rise (x :: a) b ha hb2⟩
        rcases (mrg_mem _ _ _).1 hz with h | h
        · rcases List.mem_cons.1 h with rfl | h
          · assumption
          · have := ha1 z h; omega
        · exact hb1 z h
      · refine List.pairwise_cons.2 ⟨fun z hz => ?_, mrg_rise a b ha2 hb2⟩
        rcases (mrg_mem _ _ _).1 hz with h | h
        · exact ha1 z h
        · have := hb1 z h; omega
termination_by a b => a.length + b.length
/-- Each once, of what stands side by side. -/
def onceC : List Nat → List Nat → List Nat
  | acc, [] => acc
  | acc, x :: l => onceC (if acc.getLast? = some x then acc else acc ++ [x]) l
theorem onceC_snoc : ∀ (l acc : List Nat) (x : Nat), onceC acc (l ++ [x]) = if (onceC acc l).getLast? = some x then onceC acc l else onceC acc l ++ [x]
  | [], acc, x => rfl
  | y :: l, acc, x => by rw [List.cons_append, onceC, onceC, onceC_snoc l]
end Go.Proofs.YtleeedjpccooaaaDoor
namespace Go.Proofs.YtleeedjpccooaaaDoor
open Go.RowKit Go.Shelf
def orTo (f h : Nat → Bool) (n q : Nat) : Bool := f q || (decide (q < n) && h q)
def andTo (f h : Nat → Bool) (n q : Nat) : Bool := f q && (h q || decide (n ≤ q))
theorem orTo_zero (f h : Nat → Bool) : orTo f h 0 = f := by funext q; simp [orTo]
theorem andTo_zero (f h : Nat → Bool) : andTo f h 0 = f := by funext q; simp [andTo]
theorem wordOf_same {f h : Nat → Bool} {i : Nat} (e : ∀ j, j < 64 → f (64 * i + j) = h (64 * i + j)) : wordOf f i = wordOf h i := by
  apply Nat.eq_of_testBit_eq
  intro k
  rw [wordOf_bit, wordOf_bit]
  by_cases hl : k < 64
  · rw [e k hl]
  · rw [decide_eq_false hl, Bool.false_and, Bool.false_and]
theorem orTo_other (f h : Nat → Bool) (x i : Nat) (hi : ¬ i = x) : wordOf (orTo f h (64 * (x + 1))) i = wordOf (orTo f h (64 * x)) i :=
  wordOf_same (fun j hj => by
    unfold orTo
    have : decide (64 * i + j < 64 * (x + 1)) = decide (64 * i + j < 64 * x) := by
      by_cases h1 : 64 * i + j < 64 * x
      · rw [decide_eq_true h1, decide_eq_true (by omega)]
      · rw [decide_eq_false h1, decide_eq_false (by omega)]
    rw [this])
theorem andTo_other (f h : Nat → Bool) (x i : Nat) (hi : ¬ i = x) : wordOf (andTo f h (64 * (x + 1))) i = wordOf (andTo f h (64 * x)) i :=
  wordOf_same (fun j hj => by
    unfold andTo
    have : decide (64 * (x + 1) ≤ 64 * i + j) = decide (64 * x ≤ 64 * i + j) := by
      by_cases h1 : 64 * x ≤ 64 * i + j
      · rw [decide_eq_true h1, decide_eq_true (by omega)]
      · rw [decide_eq_false h1, decide_eq_false (by omega)]
    rw [this])
theorem orTo_word (f h : Nat → Bool) (x : Nat) : wordOf (orTo f h (64 * x)) x ||| wordOf h x = wordOf (orTo f h (64 * (x + 1))) x := by
  apply Nat.eq_of_testBit_eq
  intro k
  rw [Nat.testBit_or, wordOf_bit, wordOf_bit, wordOf_bit]
  by_cases hl : k < 64
  · unfold orTo
    rw [decide_eq_true hl, decide_eq_true (show 64 * x + k < 64 * (x + 1) by omega), decide_eq_false (show ¬ 64 * x + k < 64 * x by omega)]
    simp
  · rw [decide_eq_false hl]; rfl
theorem andTo_word (f h : Nat → Bool) (x : Nat) : wordOf (andTo f h (64 * x)) x &&& wordOf h x = wordOf (andTo f h (64 * (x + 1))) x := by
  apply Nat.eq_of_testBit_eq
  intro k
  rw [Nat.testBit_and, wordOf_bit, wordOf_bit, wordOf_bit]
  by_cases hl : k < 64
  · unfold andTo
    rw [decide_eq_true hl, decide_eq_false (show ¬ 64 * (x + 1) ≤ 64 * x + k by omega), decide_eq_true (show 64 * x ≤ 64 * x + k by omega)]
    simp
  · rw [decide_eq_false hl]; rfl
theorem BS.put {w : World} {g m : Nat} {f f' : Nat → Bool} (h : BS w g m f) (x : Nat) (he : ∀ i, ¬ i = x → wordOf f' i = wordOf f i) (ho : ∀ q, 512 * m ≤ q → f' q = false) : BS (w.setCell ⟨g, x, none⟩ (.int .u64 (wordOf f' x : Int))) g m f' := by
  obtain ⟨cur, h1, h2⟩ := h.row
  refine ⟨⟨_, heap_setCell_same w g x _ _ _ h1, fun i hi => ?_⟩, ho⟩
  by_cases e : i = x
  · subst e
    have : i < cur.size := (Array.getElem?_eq_some_iff.1 (h2 _ hi)).1
    simp [this]
  · rw [Array.getElem?_setIfInBounds_ne (fun e' => e e'.symm), h2 i hi, he i e]
theorem index_blk (h : Nat → Bool) (k j : Nat) (hj : j < 8) (w : World) : (Instr.index 149 (.agg #[.int .u64 (wordOf h (k * 8) : Int), .int .u64 (wordOf h (k * 8 + 1) : Int), .int .u64 (wordOf h (k * 8 + 2) : Int), .int .u64 (wordOf h (k * 8 + 3) : Int), .int .u64 (wordOf h (k * 8 + 4) : Int), .int .u64 (wordOf h (k * 8 + 5) : Int), .int .u64 (wordOf h (k * 8 + 6) : Int), .int .u64 (wordOf h (k * 8 + 7) : Int)]) (.int .i64 (j : Int))).run Tryd.prog w = .ok (.int .u64 (wordOf h (k * 8 + j) : Int)) w := by
  obtain ⟨i, hi, hz0, hz1, hz2⟩ := info_parts infoU64
  have : j = 0 ∨ j = 1 ∨ j = 2 ∨ j = 3 ∨ j = 4 ∨ j = 5 ∨ j = 6 ∨ j = 7 := by omega
  rcases this with rfl | rfl | rfl | rfl | rfl | rfl | rfl | rfl <;> simp [Instr.index, go_sem, part]
theorem BS.only {w w' : World} {g m : Nat} {f : Nat → Bool} {S : Nat → Prop} (h : BS w g m f) (ho : Only w w' S) (hs : ¬ S g) : BS w' g m f := h.kept (ho.block g h.lt hs)
set_option maxRecDepth 10000 in
set_option maxHeartbeats 3200000 in
theorem join_any (A o g g2 m : Nat) (f h : Nat → Bool) (w : World) (hm : m ≤ 1000000) (hAl : A < w.heap.size) (hA : ¬ A = g) (hgg : ¬ g2 = g) (hs : w.cell? ⟨A, o, none⟩ = some (.slice (some ⟨g, 0, none⟩) m m)) (hf : BS w g m f) (hh : BS w g2 m h) :
    Calls Tryd.prog 93 #[.pointer (some ⟨A, o, none⟩), .agg #[.slice (some ⟨g2, 0, none⟩) m m]] w fun e w' => e = .returned (.tuple #[]) ∧ BS w' g m (orTo f h (64 * (m * 8))) ∧ Only w w' (fun k => k = g) := by
  obtain ⟨w0, hw0⟩ : ∃ w0, w0 = w.alloc (.cells #[.slice (some ⟨g2, 0, none⟩) m m] 119) := ⟨_, rfl⟩
  have ho0 : Only w w0 (fun k => k = g) := by rw [hw0]; exact Only.alloc _ _ _
  have hgl := hf.lt
  have hs0 : w0.heap.size = w.heap.size + 1 := by rw [hw0]; simp
  have HF0 := hid0 (hf.kept (w' := w0) (by rw [hw0]; exact Below.heap_alloc w _ g hf.lt))
  have HH0 := hid0 (hh.only ho0 hgg)
  have hsA : w0.cell? ⟨A, o, none⟩ = some (.slice (some ⟨g, 0, none⟩) m m) := by rw [ho0.cell (p := ⟨A, o, none⟩) hAl hA]; exact hs
  have hsB : w0.cell? ⟨w.heap.size, 0, none⟩ = some (.slice (some ⟨g2, 0, none⟩) m m) := by rw [hw0]; exact cell_one_new _ _ _ 0 _ rfl
  have HO0 := hid0 ho0
  have HSA := hid0 hsA
  have HSB := hid0 hsB
  have HOut : Hid (∀ n q, 512 * m ≤ q → orTo f h n q = false) := hid0 (fun n q hq => by simp [orTo, hf.out q hq, hh.out q hq])
  have hfold := hw0.symm
  clear hf hh hs hw0 ho0
  go_enter Tryd.func93, Tryd.ntmps93
  go_wp2
  go_loopw [15] (fun i wr => ∃ k : Nat, k ≤ m ∧ i = .int .i64 (k : Int) ∧ Hid (BS wr g m (orTo f h (64 * (k * 8)))) ∧ Hid (Only w0 wr (fun k => k = g))) (fun i _ => m - (intOf i).toNat)
  case atStart => exact ⟨0, Nat.zero_le _, rfl, hid0 (by rw [show 64 * (0 * 8) = 0 from rfl, orTo_zero]; exact HF0.out), hid0 (Only.refl _ _)⟩
  case round =>
    obtain ⟨k, hk, rfl, HF, HO⟩ := hrel
    by_cases hlt : k < m
    · have hkI : (k : Int) < (m : Int) := by omega
      have hkI0 : (0 : Int) ≤ (k : Int) := by omega
      have hB1 : wr.cell? ⟨w.heap.size, 0, none⟩ = some (.slice (some ⟨g2, 0, none⟩) m m) := by rw [HO.out.cell (p := ⟨w.heap.size, 0, none⟩) (by show w.heap.size < _; omega) (by show ¬ w.heap.size = g; omega)]; exact HSB.out
      have HH1 := HH0.out.only HO.out hgg
      have c0 := (HH1.cell (k * 8) (by omega)).1
      have c1 := (HH1.cell (k * 8 + 1) (by omega)).1
      have c2 := (HH1.cell (k * 8 + 2) (by omega)).1
      have c3 := (HH1.cell (k * 8 + 3) (by omega)).1
      have c4 := (HH1.cell (k * 8 + 4) (by omega)).1
      have c5 := (HH1.cell (k * 8 + 5) (by omega)).1
      have c6 := (HH1.cell (k * 8 + 6) (by omega)).1
      have c7 := (HH1.cell (k * 8 + 7) (by omega)).1
      clear HH1
      go_wp2
      go_loopw [23] (fun i wr => ∃ j : Nat, j ≤ 8 ∧ i = .int .i64 (j : Int) ∧ Hid (BS wr g m (orTo f h (64 * (k * 8 + j)))) ∧ Hid (Only w0 wr (fun k => k = g))) (fun i _ => 8 - (intOf i).toNat)
      case atStart => exact ⟨0, Nat.zero_le _, rfl, HF, HO⟩
      case round =>
        clear hB1 c0 c1 c2 c3 c4 c5 c6 c7 HF HO
        obtain ⟨j, hj, rfl, HF, HO⟩ := hrel
        by_cases hj8 : j < 8
        · have hjI : (j : Int) < 8 := by omega
          have hjI0 : (0 : Int) ≤ (j : Int) := by omega
          have hA1 : wr.cell? ⟨A, o, none⟩ = some (.slice (some ⟨g, 0, none⟩) m m) := by rw [HO.out.cell (p := ⟨A, o, none⟩) (by show A < _; omega) hA]; exact HSA.out
          obtain ⟨k0, k1⟩ := HF.out.cell (k * 8 + j) (by omega)
          have hix := index_blk h k j hj8 wr
          obtain ⟨a, ha⟩ : ∃ a : Nat, a = wordOf (orTo f h (64 * (k * 8 + j))) (k * 8 + j) := ⟨_, rfl⟩
          obtain ⟨b, hb⟩ : ∃ b : Nat, b = wordOf h (k * 8 + j) := ⟨_, rfl⟩
          have hal : a < 18446744073709551616 := by rw [ha]; exact wordOf_lt _ _
          have hbl : b < 18446744073709551616 := by rw [hb]; exact wordOf_lt _ _
          rw [← ha] at k0
          rw [← hb] at hix
          obtain ⟨aI, haI⟩ : ∃ aI : Int, (a : Int) = aI := ⟨_, rfl⟩
          obtain ⟨bI, hbI⟩ : ∃ bI : Int, (b : Int) = bI := ⟨_, rfl⟩
          obtain ⟨eI, heI⟩ : ∃ eI : Int, ((a ||| b : Nat) : Int) = eI := ⟨_, rfl⟩
          have hor : bits .or .u64 aI bI = eI := by rw [← haI, ← hbI, ← heI]; exact bits_or_u64_nat a b hal hbl
          have hs2 : a ||| b = wordOf (orTo f h (64 * (k * 8 + j + 1))) (k * 8 + j) := by
            rw [ha, hb]; exact orTo_word f h (k * 8 + j)
          have hBS := HF.out.put (k * 8 + j) (orTo_other f h (k * 8 + j)) (HOut.out _)
          rw [← hs2, heI] at hBS
          have HBS : Hid (∀ n, BS ((wr.drewN n).setCell ⟨g, k * 8 + j, none⟩ (.int .u64 eI)) g m (orTo f h (64 * (k * 8 + (j + 1))))) := hid0 (fun n => ⟨hBS.row, hBS.out⟩)
          have HO1 : Hid (∀ n, Only w0 ((wr.drewN n).setCell ⟨g, k * 8 + j, none⟩ (.int .u64 eI)) (fun k => k = g)) := hid0 (fun n => HO.out.trans ((Only.drewN wr n _).trans (Only.setCell _ g _ _) (fun i hi => .inl hi)) (fun i hi => .inl hi))
          rw [haI] at k0
          rw [hbI] at hix
          clear ha hb hal hbl haI hbI heI hs2 hBS HF HO
          go_wp2
          go_region
          go_wp2
          go_roundw
          case rel => exact ⟨j + 1, by omega, by go_num, hid0 (HBS.out _), hid0 (HO1.out _)⟩
          case measure => simp [intOf]; omega
        · have hjI : ¬ (j : Int) < 8 := by omega
          have HE : Hid (BS wr g m (orTo f h (64 * ((k + 1) * 8)))) := hid0 (by have := HF.out; rwa [show k * 8 + j = (k + 1) * 8 by omega] at this)
          clear HF
          go_wp2
          go_roundw
          case rel => exact ⟨k + 1, by omega, by go_num, HE, HO⟩
          case measure => simp [intOf]; omega
    · have hkI : ¬ (k : Int) < (m : Int) := by omega
      have HE : Hid (BS wr g m (orTo f h (64 * (m * 8)))) := hid0 (by have := HF.out; rwa [show k = m by omega] at this)
      clear HF
      go_wp2
      go_end0
      exact ⟨rfl, HE.out, HO0.out.trans HO.out (fun i hi => .inl hi)⟩
set_option maxRecDepth 10000 in
set_option maxHeartbeats 3200000 in
theorem meet_any (A o g g2 m : Nat) (f h : Nat → Bool) (w : World) (hm : m ≤ 1000000) (hAl : A < w.heap.size) (hA : ¬ A = g) (hgg : ¬ g2 = g) (hs : w.cell? ⟨A, o, none⟩ = some (.slice (some ⟨g, 0, none⟩) m m)) (hf : BS w g m f) (hh : BS w g2 m h) :
    Calls Tryd.prog 82 #[.pointer (some ⟨A, o, none⟩), .agg #[.slice (some ⟨g2, 0, none⟩) m m]] w fun e w' => e = .returned (.tuple #[]) ∧ BS w' g m (andTo f h (64 * (m * 8))) ∧ Only w w' (fun k => k = g) := by
  obtain ⟨w0, hw0⟩ : ∃ w0, w0 = w.alloc (.cells #[.slice (some ⟨g2, 0, none⟩) m m] 119) := ⟨_, rfl⟩
  have ho0 : Only w w0 (fun k => k = g) := by rw [hw0]; exact Only.alloc _ _ _
  have hgl := hf.lt
  have hs0 : w0.heap.size = w.heap.size + 1 := by rw [hw0]; simp
  have HF0 := hid0 (hf.kept (w' := w0) (by rw [hw0]; exact Below.heap_alloc w _ g hf.lt))
  have HH0 := hid0 (hh.only ho0 hgg)
  have hsA : w0.cell? ⟨A, o, none⟩ = some (.slice (some ⟨g, 0, none⟩) m m) := by rw [ho0.cell (p := ⟨A, o, none⟩) hAl hA]; exact hs
  have hsB : w0.cell? ⟨w.heap.size, 0, none⟩ = some (.slice (some ⟨g2, 0, none⟩) m m) := by rw [hw0]; exact cell_one_new _ _ _ 0 _ rfl
  have HO0 := hid0 ho0
  have HSA := hid0 hsA
  have HSB := hid0 hsB
  have HOut : Hid (∀ n q, 512 * m ≤ q → andTo f h n q = false) := hid0 (fun n q hq => by simp [andTo, hf.out q hq, hh.out q hq])
  have hfold := hw0.symm
  clear hf hh hs hw0 ho0
  go_enter Tryd.func82, Tryd.ntmps82
  go_wp2
  go_loopw [12] (fun i wr => ∃ k : Nat, k ≤ m ∧ i = .int .i64 (k : Int) ∧ Hid (BS wr g m (andTo f h (64 * (k * 8)))) ∧ Hid (Only w0 wr (fun k => k = g))) (fun i _ => m - (intOf i).toNat)
  case atStart => exact ⟨0, Nat.zero_le _, rfl, hid0 (by rw [show 64 * (0 * 8) = 0 from rfl, andTo_zero]; exact HF0.out), hid0 (Only.refl _ _)⟩
  case round =>
    obtain ⟨k, hk, rfl, HF, HO⟩ := hrel
    by_cases hlt : k < m
    · have hkI : (k : Int) < (m : Int) := by omega
      have hkI0 : (0 : Int) ≤ (k : Int) := by omega
      have hB1 : wr.cell? ⟨w.heap.size, 0, none⟩ = some (.slice (some ⟨g2, 0, none⟩) m m) := by rw [HO.out.cell (p := ⟨w.heap.size, 0, none⟩) (by show w.heap.size < _; omega) (by show ¬ w.heap.size = g; omega)]; exact HSB.out
      have HH1 := HH0.out.only HO.out hgg
      have c0 := (HH1.cell (k * 8) (by omega)).1
      have c1 := (HH1.cell (k * 8 + 1) (by omega)).1
      have c2 := (HH1.cell (k * 8 + 2) (by omega)).1
      have c3 := (HH1.cell (k * 8 + 3) (by omega)).1
      have c4 := (HH1.cell (k * 8 + 4) (by omega)).1
      have c5 := (HH1.cell (k * 8 + 5) (by omega)).1
      have c6 := (HH1.cell (k * 8 + 6) (by omega)).1
      have c7 := (HH1.cell (k * 8 + 7) (by omega)).1
      clear HH1
      go_wp2
      go_loopw [20] (fun i wr => ∃ j : Nat, j ≤ 8 ∧ i = .int .i64 (j : Int) ∧ Hid (BS wr g m (andTo f h (64 * (k * 8 + j)))) ∧ Hid (Only w0 wr (fun k => k = g))) (fun i _ => 8 - (intOf i).toNat)
      case atStart => exact ⟨0, Nat.zero_le _, rfl, HF, HO⟩
      case round =>
        clear hB1 c0 c1 c2 c3 c4 c5 c6 c7 HF HO
        obtain ⟨j, hj, rfl, HF, HO⟩ := hrel
        by_cases hj8 : j < 8
        · have hjI : (j : Int) < 8 := by omega
          have hjI0 : (0 : Int) ≤ (j : Int) := by omega
          have hA1 : wr.cell? ⟨A, o, none⟩ = some (.slice (some ⟨g, 0, none⟩) m m) := by rw [HO.out.cell (p := ⟨A, o, none⟩) (by show A < _; omega) hA]; exact HSA.out
          obtain ⟨k0, k1⟩ := HF.out.cell (k * 8 + j) (by omega)
          have hix := index_blk h k j hj8 wr
          obtain ⟨a, ha⟩ : ∃ a : Nat, a = wordOf (andTo f h (64 * (k * 8 + j))) (k * 8 + j) := ⟨_, rfl⟩
          obtain ⟨b, hb⟩ : ∃ b : Nat, b = wordOf h (k * 8 + j) := ⟨_, rfl⟩
          have hal : a < 18446744073709551616 := by rw [ha]; exact wordOf_lt _ _
          have hbl : b < 18446744073709551616 := by rw [hb]; exact wordOf_lt _ _
          rw [← ha] at k0
          rw [← hb] at hix
          obtain ⟨aI, haI⟩ : ∃ aI : Int, (a : Int) = aI := ⟨_, rfl⟩
          obtain ⟨bI, hbI⟩ : ∃ bI : Int, (b : Int) = bI := ⟨_, rfl⟩
          obtain ⟨eI, heI⟩ : ∃ eI : Int, ((a &&& b : Nat) : Int) = eI := ⟨_, rfl⟩
          have hor : bits .and .u64 aI bI = eI := by rw [← haI, ← hbI, ← heI]; exact bits_and_u64_nat a b hal hbl
          have hs2 : a &&& b = wordOf (andTo f h (64 * (k * 8 + j + 1))) (k * 8 + j) := by
            rw [ha, hb]; exact andTo_word f h (k * 8 + j)
          have hBS := HF.out.put (k * 8 + j) (andTo_other f h (k * 8 + j)) (HOut.out _)
          rw [← hs2, heI] at hBS
          have HBS : Hid (∀ n, BS ((wr.drewN n).setCell ⟨g, k * 8 + j, none⟩ (.int .u64 eI)) g m (andTo f h (64 * (k * 8 + (j + 1))))) := hid0 (fun n => ⟨hBS.row, hBS.out⟩)
          have HO1 : Hid (∀ n, Only w0 ((wr.drewN n).setCell ⟨g, k * 8 + j, none⟩ (.int .u64 eI)) (fun k => k = g)) := hid0 (fun n => HO.out.trans ((Only.drewN wr n _).trans (Only.setCell _ g _ _) (fun i hi => .inl hi)) (fun i hi => .inl hi))
          rw [haI] at k0
          rw [hbI] at hix
          clear ha hb hal hbl haI hbI heI hs2 hBS HF HO
          go_wp2
          go_region
          go_wp2
          go_roundw
          case rel => exact ⟨j + 1, by omega, by go_num, hid0 (HBS.out _), hid0 (HO1.out _)⟩
          case measure => simp [intOf]; omega
        · have hjI : ¬ (j : Int) < 8 := by omega
          have HE : Hid (BS wr g m (andTo f h (64 * ((k + 1) * 8)))) := hid0 (by have := HF.out; rwa [show k * 8 + j = (k + 1) * 8 by omega] at this)
          clear HF
          go_wp2
          go_roundw
          case rel => exact ⟨k + 1, by omega, by go_num, HE, HO⟩
          case measure => simp [intOf]; omega
    · have hkI : ¬ (k : Int) < (m : Int) := by omega
      have HE : Hid (BS wr g m (andTo f h (64 * (m * 8)))) := hid0 (by have := HF.out; rwa [show k = m by omega] at this)
      clear HF
      go_wp2
      go_end0
      exact ⟨rfl, HE.out, HO0.out.trans HO.out (fun i hi => .inl hi)⟩
end Go.Proofs.YtleeedjpccooaaaDoor
namespace Go.Proofs.YtleeedjpccooaaaDoor
open Go.RowKit Go.Shelf
set_option maxRecDepth 10000 in
set_option maxHeartbeats 800000 in
theorem joinNil_any (A o g m : Nat) (w : World) (hm : m ≤ 1000000) (hAl : A < w.heap.size) (hs : w.cell? ⟨A, o, none⟩ = some (.slice (some ⟨g, 0, none⟩) m m)) :
    Calls Tryd.prog 93 #[.pointer (some ⟨A, o, none⟩), .agg #[.slice none 0 0]] w fun e w' => e = .returned (.tuple #[]) ∧ Below w.heap.size w w' := by
  obtain ⟨w0, hw0⟩ : ∃ w0, w0 = w.alloc (.cells #[.slice none 0 0] 119) := ⟨_, rfl⟩
  have hb0 : Below w.heap.size w w0 := by rw [hw0]; exact (Below.refl _ _).alloc (Nat.le_refl _) _
  have hsA : w0.cell? ⟨A, o, none⟩ = some (.slice (some ⟨g, 0, none⟩) m m) := by rw [hb0.cell (p := ⟨A, o, none⟩) hAl]; exact hs
  have hsB : w0.cell? ⟨w.heap.size, 0, none⟩ = some (.slice none 0 0) := by rw [hw0]; exact cell_one_new _ _ _ 0 _ rfl
  have HB0 := hid0 hb0
  have hfold := hw0.symm
  have hmI : (0 : Int) ≤ (m : Int) := by omega
  clear hw0 hb0 hs
  go_enter Tryd.func93, Tryd.ntmps93
  go_wp2
  go_loopw [15] (fun i wr => i = .int .i64 0 ∧ wr = w0) (fun _ _ => 0)
  case atStart => exact ⟨rfl, rfl⟩
  case round =>
    obtain ⟨rfl, rfl⟩ := hrel
    go_wp2
    go_end0
    exact ⟨rfl, HB0.out⟩
/-- A row of places. -/
inductive RowIs (w : World) (m : Nat) (L : List Int) : Option Nat → Value → Prop
  | short (a : Option Addr) (c : Nat) (h : IA w a L) : RowIs w m L (a.map (·.block)) (.agg #[.slice a L.length c, .slice none 0 0])
  | long (g : Nat) (h : BS w g m (addF L (fun _ => false))) : RowIs w m L (some g) (.agg #[.slice none 0 0, .slice (some ⟨g, 0, none⟩) m m])
theorem IA.only {w w' : World} {a : Option Addr} {L : List Int} {S : Nat → Prop} (h : IA w a L) (ho : Only w w' S) (hs : ∀ p, a = some p → ¬ S p.block) : IA w' a L := ⟨fun k hk => by
  obtain ⟨b, off, rfl, h1, h2⟩ := h.at' k hk
  exact ⟨b, off, rfl, Nat.lt_of_lt_of_le h1 ho.size, (ho.cell (p := ⟨b, off + k, none⟩) h1 (hs ⟨b, off, none⟩ rfl)).trans h2⟩⟩
theorem RowIs.only {w w' : World} {m : Nat} {L : List Int} {x : Option Nat} {v : Value} {S : Nat → Prop} (h : RowIs w m L x v) (ho : Only w w' S) (hs : ∀ b, x = some b → ¬ S b) : RowIs w' m L x v := by
  cases h with
  | short a c h => exact .short a c (h.only ho (fun p hp => hs _ (by rw [hp]; rfl)))
  | long g h => exact .long g (h.only ho (hs g rfl))
theorem addF_or (L : List Int) (f : Nat → Bool) (n : Nat) (h : L.all (oneOf n) = true) (m : Nat) (hn : n ≤ 512 * m) : orTo f (addF L (fun _ => false)) (64 * (m * 8)) = addF L f := by
  funext q
  unfold orTo addF
  by_cases hq : q < 64 * (m * 8)
  · rw [decide_eq_true hq, Bool.true_and, Bool.or_false, Bool.or_comm]
  · rw [decide_eq_false hq, Bool.false_and, Bool.or_false]
    have : L.any (fun x => decide (x = (q : Int))) = false := by
      rw [List.any_eq_false]
      intro x hx hd
      have h1 := (oneOf_iff n x).1 (List.all_eq_true.1 h x hx)
      have h2 := of_decide_eq_true hd
      omega
    rw [this, Bool.false_or]
set_option maxRecDepth 10000 in
set_option maxHeartbeats 1600000 in
theorem joinTo_any (A o g m n : Nat) (f : Nat → Bool) (L : List Int) (x : Option Nat) (v : Value) (w : World) (hl : L.length ≤ 100000000000000) (hm : m ≤ 1000000) (hn : n ≤ 512 * m) (hall : L.all (oneOf n) = true) (hAl : A < w.heap.size) (hA : ¬ A = g) (hs : w.cell? ⟨A, o, none⟩ = some (.slice (some ⟨g, 0, none⟩) m m)) (h : BS w g m f) (hv : RowIs w m L x v) (hx : ¬ x = some g) :
    Calls Tryd.prog 81 #[v, .pointer (some ⟨A, o, none⟩)] w fun e w' => e = .returned (.tuple #[]) ∧ BS w' g m (addF L f) ∧ Only w w' (fun k => k = g) := by
  have hgl := h.lt
  cases hv with
  | short a c hi =>
    obtain ⟨w0, hw0⟩ : ∃ w0, w0 = w.alloc (.cells #[.slice a L.length c, .slice none 0 0] 142) := ⟨_, rfl⟩
    have ho0 : Only w w0 (fun k => k = g) := by rw [hw0]; exact Only.alloc _ _ _
    have hb0 : Below w.heap.size w w0 := by rw [hw0]; exact (Below.refl _ _).alloc (Nat.le_refl _) _
    have hr0 : w0.heap[w.heap.size]? = some (.cells #[.slice a L.length c, .slice none 0 0] 142 (0, 0)) := by rw [hw0]; exact heap_alloc_new w _
    have hs0 : w0.heap.size = w.heap.size + 1 := by rw [hw0]; simp
    have c0 : w0.cell? ⟨w.heap.size, 0, none⟩ = some (.slice a L.length c) := by rw [cell_of_row _ _ _ _ _ _ hr0]; rfl
    have hsA : w0.cell? ⟨A, o, none⟩ = some (.slice (some ⟨g, 0, none⟩) m m) := by rw [hb0.cell (p := ⟨A, o, none⟩) hAl]; exact hs
    have HC := hid0 (addAll_any A o g m n f L a c w0 hl hm hn hall (by omega) hA hsA (hi.past hb0) (fun p hp e => hx (by rw [hp]; exact congrArg some e)) (h.kept (hb0.block g h.lt)))
    have HN : Hid (∀ w1, Only w0 w1 (fun k => k = g) → Calls Tryd.prog 93 #[.pointer (some ⟨A, o, none⟩), .agg #[.slice none 0 0]] w1 fun e w' => e = .returned (.tuple #[]) ∧ Below w1.heap.size w1 w') := hid0 (fun w1 ho1 => joinNil_any A o g m w1 hm (by have := ho1.size; omega) (by rw [ho1.cell (p := ⟨A, o, none⟩) (by show A < _; omega) hA]; exact hsA))
    have HR : Hid (∀ w1, Only w0 w1 (fun k => k = g) → w1.cell? ⟨w.heap.size, 1, none⟩ = some (.slice none 0 0)) := hid0 (fun w1 ho1 => by
      rw [ho1.cell (p := ⟨w.heap.size, 1, none⟩) (by show w.heap.size < _; omega) (by show ¬ w.heap.size = g; omega), cell_of_row _ _ _ _ _ _ hr0]; rfl)
    have HO := hid0 ho0
    have hfold := hw0.symm
    clear hw0 ho0 hb0 hr0 hs h hi hall
    go_enter Tryd.func81, Tryd.ntmps81
    go_wp2_with (first
      | (go_at_call 80; refine HC.out.mono ?_; rintro e w1 ⟨rfl, hb1, ho1⟩; have HB1 := hid0 hb1; have c1 := HR.out w1 ho1; have HJ := hid0 (HN.out w1 ho1); have HO1 := hid0 ho1; clear hb1 ho1)
      | (go_at_call 93; refine HJ.out.mono ?_; rintro e w2 ⟨rfl, hb2⟩; have HB2 := hid0 hb2; clear hb2))
    go_end0
    exact ⟨rfl, HB1.out.kept (HB2.out.block g HB1.out.lt), (HO.out.trans HO1.out (fun i hi => .inl hi)).trans (Only.ofBelow HB2.out (fun _ => False) (fun i h1 h2 => by omega)) (fun i hi => absurd hi id)⟩
  | long g2 h2 =>
    have hg2 : ¬ g2 = g := fun e => hx (by rw [e])
    have hl2 := h2.lt
    obtain ⟨w0, hw0⟩ : ∃ w0, w0 = w.alloc (.cells #[.slice none 0 0, .slice (some ⟨g2, 0, none⟩) m m] 142) := ⟨_, rfl⟩
    have ho0 : Only w w0 (fun k => k = g) := by rw [hw0]; exact Only.alloc _ _ _
    have hb0 : Below w.heap.size w w0 := by rw [hw0]; exact (Below.refl _ _).alloc (Nat.le_refl _) _
    have hr0 : w0.heap[w.heap.size]? = some (.cells #[.slice none 0 0, .slice (some ⟨g2, 0, none⟩) m m] 142 (0, 0)) := by rw [hw0]; exact heap_alloc_new w _
    have hs0 : w0.heap.size = w.heap.size + 1 := by rw [hw0]; simp
    have c0 : w0.cell? ⟨w.heap.size, 0, none⟩ = some (.slice none 0 0) := by rw [cell_of_row _ _ _ _ _ _ hr0]; rfl
    have hsA : w0.cell? ⟨A, o, none⟩ = some (.slice (some ⟨g, 0, none⟩) m m) := by rw [hb0.cell (p := ⟨A, o, none⟩) hAl]; exact hs
    have HC := hid0 (addAll_any A o g m n f [] none 0 w0 (by simp) hm hn rfl (by omega) hA hsA ⟨fun k hk => by simp at hk⟩ (fun p hp => by cases hp) (h.kept (hb0.block g h.lt)))
    have h20 := h2.kept (hb0.block g2 h2.lt)
    have HN : Hid (∀ w1, BS w1 g m (addF [] f) → Only w0 w1 (fun k => k = g) → Calls Tryd.prog 93 #[.pointer (some ⟨A, o, none⟩), .agg #[.slice (some ⟨g2, 0, none⟩) m m]] w1 fun e w' => e = .returned (.tuple #[]) ∧ BS w' g m (addF L f) ∧ Only w1 w' (fun k => k = g)) := hid0 (fun w1 hb1 ho1 => by
      rw [addF_nil] at hb1
      rw [← addF_or L f n hall m hn]
      exact join_any A o g g2 m f _ w1 hm (by have := ho1.size; omega) hA hg2 (by rw [ho1.cell (p := ⟨A, o, none⟩) (by show A < _; omega) hA]; exact hsA) hb1 (h20.only ho1 hg2))
    have HR : Hid (∀ w1, Only w0 w1 (fun k => k = g) → w1.cell? ⟨w.heap.size, 1, none⟩ = some (.slice (some ⟨g2, 0, none⟩) m m)) := hid0 (fun w1 ho1 => by
      rw [ho1.cell (p := ⟨w.heap.size, 1, none⟩) (by show w.heap.size < _; omega) (by show ¬ w.heap.size = g; omega), cell_of_row _ _ _ _ _ _ hr0]; rfl)
    have HO := hid0 ho0
    have hfold := hw0.symm
    clear hw0 ho0 hb0 hr0 hs h h2 h20 hall
    go_enter Tryd.func81, Tryd.ntmps81
    go_wp2_with (first
      | (go_at_call 80; refine HC.out.mono ?_; rintro e w1 ⟨rfl, hb1, ho1⟩; have c1 := HR.out w1 ho1; have HJ := hid0 (HN.out w1 hb1 ho1); have HO1 := hid0 ho1; clear hb1 ho1)
      | (go_at_call 93; refine HJ.out.mono ?_; rintro e w2 ⟨rfl, hb2, ho2⟩; have HB2 := hid0 hb2; have HO2 := hid0 ho2; clear hb2 ho2))
    go_end0
    exact ⟨rfl, HB2.out, (HO.out.trans HO1.out (fun i hi => .inl hi)).trans HO2.out (fun i hi => .inl hi)⟩
end Go.Proofs.YtleeedjpccooaaaDoor
namespace Go.Proofs.YtleeedjpccooaaaDoor
open Go.RowKit Go.Shelf Go.Maps
theorem u8_toN (x : Nat) (h : x < 256) : (UInt8.ofNat x).toNat = x := by rw [UInt8.toNat_ofNat']; omega
theorem u8_injN {x y : Nat} (hx : x < 256) (hy : y < 256) (h : UInt8.ofNat x = UInt8.ofNat y) : x = y := by rw [← u8_toN x hx, ← u8_toN y hy, h]
def cellsOf (l : List UInt8) : List Value := l.map fun c => .int .u8 (c.toNat : Int)
/-- A slice of bytes of the call's own. -/
def OwnB (w : World) (base : Nat) (v : Value) (l : List UInt8) : Prop := w.ownsRow base 5 1 v l.length (cellsOf l)
theorem infoU8 : (Tryd.prog.info? 5).map (fun i => (i.zero, i.size, i.bytes)) = some (some (.int .u8 0), 1, 1) := by kernel_rfl
theorem toStr {w : World} {base : Nat} {v : Value} {l : List UInt8} (h : OwnB w base v l) : (convert 99 9 v).run Tryd.prog w = .ok (.string ⟨l.toArray⟩) w := by
  have h0 := h
  rcases h.2 with ⟨rfl, hn⟩ | ⟨g, cap, cur, rfl, _⟩
  · have : l = [] := List.length_eq_zero_iff.1 hn
    subst this
    rw [run_convert_bytes_string w 99 9 5 none 0 0 Tryd.underlying99 Tryd.underlying5 Tryd.underlying9]; rfl
  · refine run_convert_bytes_back (P := Tryd.prog) w 99 9 5 ⟨g, 0, none⟩ cap l Tryd.underlying99 Tryd.underlying5 Tryd.underlying9 (fun j hj => ?_)
    rw [Addr.add_lit, Nat.zero_add, World.ownsRow.cellAt h0 j (by omega)]
    simp [cellsOf, hj]
/-- Bytes put behind. -/
structure Apd (w w' : World) (lo : Nat) (v v' : Value) (l : List UInt8) : Prop where
  own : OwnB w' lo v' l
  frm : Only w w' (fun k => v.ownBlock = some k)
  at' : ∀ k, v'.ownBlock = some k → v.ownBlock = some k ∨ w.heap.size ≤ k
theorem apd_more {w wr w2 : World} {lo : Nat} {v u v' : Value} {l : List UInt8} {c : UInt8} {o : Obj} (h : Apd w wr lo v u l) (hown : w2.ownsRow lo 5 1 v' (l.length + 1) (cellsOf l ++ [.int .u8 (c.toNat : Int)])) (hg : (wr.alloc o).grownBy w2 u.ownBlock) (hat : v'.ownBlock = u.ownBlock ∨ v'.ownBlock = some (wr.alloc o).heap.size) : Apd w w2 lo v v' (l ++ [c]) := by
  refine ⟨?_, h.frm.trans ((Only.alloc wr o (fun k => u.ownBlock = some k)).trans (Only.ofGrown hg) (fun _ h => .inl h)) (fun k hk => h.at' k hk), fun k hk => ?_⟩
  · unfold OwnB
    rw [List.length_append, List.length_singleton]
    have e : cellsOf (l ++ [c]) = cellsOf l ++ [.int .u8 (c.toNat : Int)] := by simp [cellsOf]
    rw [e]
    exact hown
  · rcases hat with e | e
    · exact h.at' k (by rw [← e]; exact hk)
    · rw [e] at hk
      cases hk
      right
      have := h.frm.size
      simp
      omega
theorem lawS : Keyed Tryd.prog 9 := string_keyed Tryd.underlying9
def strB (k : List UInt8) : ByteArray := ⟨k.toArray⟩
def keyS (k : List UInt8) : Lit := .string k
theorem keyS_inj {a b : List UInt8} (h : keyS a = keyS b) : a = b := by unfold keyS at h; injection h
theorem keyS_is (k : List UInt8) : WideAt.IsKeyLit (keyS k) := trivial
/-- A map that has the texts ks, each with its number. -/
structure SaysS (D : DataW Unit) (off0 : Nat) (ks : List (List UInt8)) : Prop where
  has : ∀ c, Maps.has D (keyS c) = decide (c ∈ ks)
  at' : ∀ i (h : i < ks.length), D.atKey (keyS ks[i]) (.lit (.int .i64 0)) = .lit (.int .i64 ((i + off0 : Nat) : Int))
  off : ∀ c, c ∉ ks → D.atKey (keyS c) (.lit (.int .i64 0)) = .lit (.int .i64 0)
theorem saysS_nil (o : Nat) : SaysS (.map []) o [] := ⟨fun c => by rfl, fun i h => absurd h (Nat.not_lt_zero _), fun c _ => rfl⟩
theorem saysS_put {D : DataW Unit} {o : Nat} {ks : List (List UInt8)} (h : SaysS D o ks) (hT : Tidy D) {c : List UInt8} (hc : c ∉ ks) : SaysS (D.put (keyS c) (.lit (.int .i64 ((ks.length + o : Nat) : Int)))) o (ks ++ [c]) where
  has := fun d => by
    by_cases e : d = c
    · subst e
      rw [has_put_same hT.isMap (keyS_is _)]
      simp
    · rw [has_put_other (fun he => e (keyS_inj he)), h.has]
      simp [e]
  at' := fun i hi => by
    by_cases e : i < ks.length
    · rw [List.getElem_append_left e, atKey_put_other (fun he => hc (by rw [← keyS_inj he]; exact List.getElem_mem e)), h.at' i e]
    · have e2 : i = ks.length := by simp at hi; omega
      subst e2
      rw [List.getElem_append_right (Nat.le_refl _)]
      simp only [Nat.sub_self, List.getElem_cons_zero]
      exact atKey_put_same hT.isMap (keyS_is _) _ _
  off := fun d hd => by
    rw [List.mem_append, not_or] at hd
    rw [atKey_put_other (fun he => hd.2 (by rw [keyS_inj he]; simp))]
    exact h.off d hd.1
/-- The block B is the map of the texts ks. -/
def MapS (w : World) (B o : Nat) (ks : List (List UInt8)) : Prop := ∃ D, w.ownsMap Tryd.prog 9 (plainElem Tryd.prog 3) B ks.length D ∧ SaysS D o ks
theorem MapS.lt {w : World} {B o : Nat} {ks : List (List UInt8)} (h : MapS w B o ks) : B < w.heap.size := by
  obtain ⟨D, h1, _⟩ := h
  exact h1.lt
theorem MapS.keep {w w' : World} {B o : Nat} {ks : List (List UInt8)} (h : MapS w B o ks) (hb : w'.heap[B]? = w.heap[B]?) : MapS w' B o ks := by
  obtain ⟨D, ⟨es, clock, h1, h2⟩, hs⟩ := h
  exact ⟨D, ⟨es, clock, hb.trans h1, h2⟩, hs⟩
theorem MapS.isMap {w : World} {B o : Nat} {ks : List (List UInt8)} (h : MapS w B o ks) : ∃ es clock, w.heap[B]? = some (.map es clock) := by
  obtain ⟨D, ⟨es, clock, h1, h2⟩, hs⟩ := h
  exact ⟨es, clock, h1⟩
theorem MapS.made (w : World) (o : Nat) : MapS (w.alloc (.map #[] 0)) w.heap.size o [] := ⟨_, World.ownsMap_made w _ _ _, saysS_nil o⟩
set_option maxRecDepth 100000 in
theorem keyOf_strB (k : List UInt8) (hk : k.length ≤ 1000000000000) : keyOf Tryd.prog 9 (.string (strB k)) = some (keyS k) := by
  have := Go.WideMaps.keyOf_string_mk (P := Tryd.prog) Tryd.underlying9 (s := strB k) (by unfold maxLen; simp [strB, ByteArray.size]; omega)
  simpa [strB, keyS] using this
set_option maxRecDepth 100000 in
theorem MapS.look {w : World} {B o : Nat} {ks : List (List UInt8)} (h : MapS w B o ks) {i : Nat} (hi : i < ks.length) (hk : ks[i].length ≤ 1000000000000) :
    (Instr.lookup 93 (.map (some B)) (.string (strB ks[i])) true).run Tryd.prog w = .ok (.tuple #[.int .i64 ((i + o : Nat) : Int), .bool true]) w := by
  obtain ⟨D, h1, hs⟩ := h
  obtain ⟨v, ps, hrun, hv⟩ := h1.look_ok (t := 93) lawS Tryd.underlying93 (Tryd.zeroValue3 w) (plainElem_int Tryd.underlying3 (by decide)) (keyOf_strB ks[i] hk)
  obtain ⟨c, rfl, hcc, _⟩ := plainElem_int_inv Tryd.underlying3 hv
  have e := congrArg Prod.fst hcc
  have e2 := hs.at' i hi
  simp only [e2] at e
  injection e with e
  injection e with _ e
  have h3 := hs.has ks[i]
  rw [hrun, ← e, h3, decide_eq_true (List.getElem_mem hi)]
set_option maxRecDepth 100000 in
theorem MapS.lookNot {w : World} {B o : Nat} {ks : List (List UInt8)} (h : MapS w B o ks) {d : List UInt8} (hd : d ∉ ks) (hk : d.length ≤ 1000000000000) :
    (Instr.lookup 93 (.map (some B)) (.string (strB d)) true).run Tryd.prog w = .ok (.tuple #[.int .i64 0, .bool false]) w := by
  obtain ⟨D, h1, hs⟩ := h
  obtain ⟨v, ps, hrun, hv⟩ := h1.look_ok (t := 93) lawS Tryd.underlying93 (Tryd.zeroValue3 w) (plainElem_int Tryd.underlying3 (by decide)) (keyOf_strB d hk)
  obtain ⟨c, rfl, hcc, _⟩ := plainElem_int_inv Tryd.underlying3 hv
  have e := congrArg Prod.fst hcc
  have e2 := hs.off d hd
  simp only [e2] at e
  injection e with e
  injection e with _ e
  have h3 := hs.has d
  rw [hrun, ← e, h3, decide_eq_false hd]
set_option maxRecDepth 100000 in
theorem MapS.put {w : World} {B o : Nat} {ks : List (List UInt8)} (h : MapS w B o ks) {d : List UInt8} (hd : d ∉ ks) (hk : d.length ≤ 1000000000000) (hn : ks.length + o ≤ 1000000000000) :
    ∃ w', (Instr.mapUpdate 93 (.map (some B)) (.string (strB d)) (.int .i64 ((ks.length + o : Nat) : Int))).run Tryd.prog w = .ok () w' ∧ MapS w' B o (ks ++ [d]) ∧ w.grownBy w' (some B) := by
  obtain ⟨D, h1, hs⟩ := h
  have hw : (Lit.int .i64 ((ks.length + o : Nat) : Int)).wf = true := by simp [Lit.wf, IntKind.min, IntKind.max, IntKind.signed, IntKind.bits]; omega
  obtain ⟨w', hrun, h2, h3⟩ := h1.update (t := 93) lawS Tryd.underlying93 (by unfold maxLen; omega) (keyOf_strB d hk) (plainElem_int Tryd.underlying3 hw)
  refine ⟨w', hrun, ⟨_, ?_, saysS_put hs (h1.tidy lawS) hd⟩, h3⟩
  rw [List.length_append]
  exact h2
end Go.Proofs.YtleeedjpccooaaaDoor
namespace Go.Proofs.YtleeedjpccooaaaDoor
open Go.RowKit Go.Shelf
set_option maxRecDepth 10000 in
set_option maxHeartbeats 1600000 in
theorem addBytes_any (lo n cnt : Nat) (v : Value) (l : List UInt8) (w : World) (ho : OwnB w lo v l) (hl : l.length ≤ 100000000000) (hn : n < 18446744073709551616) (hc : cnt ≤ 8) (hlo : lo ≤ w.heap.size) :
    Calls Tryd.prog 50 #[v, .int .u64 (n : Int), .int .i64 (cnt : Int)] w fun e w' => ∃ v', e = .returned v' ∧ Apd w w' lo v v' (l ++ leB n cnt) := by
  obtain ⟨i0, hi, hz0, hz1, hz2⟩ := info_parts infoU8
  have HA : Hid (Apd w w lo v v l) := hid0 ⟨ho, Only.refl _ _, fun k hk => .inl hk⟩
  have hcI : (cnt : Int) ≤ 8 := by omega
  clear ho
  go_enter Tryd.func50, Tryd.ntmps50
  go_wp2
  go_loopw [0, 1, 8] (fun u x i wr => ∃ (k m : Nat) (p : List UInt8), k ≤ cnt ∧ i = .int .i64 (k : Int) ∧ x = .int .u64 (m : Int) ∧ m < 18446744073709551616 ∧ p.length ≤ 100000000008 ∧ Hid (p ++ leB m (cnt - k) = l ++ leB n cnt) ∧ Hid (Apd w wr lo v u p)) (fun _ _ i _ => cnt - (intOf i).toNat)
  case atStart => exact ⟨0, n, l, by omega, rfl, rfl, hn, by omega, hid0 rfl, HA⟩
  case round =>
    obtain ⟨k, m, p, hk, rfl, rfl, hm, hp, HE, HP⟩ := hrel
    have hmI : (m : Int) < 18446744073709551616 := by omega
    have HO : Hid (∀ o : Obj, (wr.alloc o).ownsRow lo 5 1 u0 p.length (cellsOf p)) := hid0 (fun o => World.ownsRow.alloc HP.out.own o)
    have hlo2 : lo ≤ wr.heap.size := Nat.le_trans hlo HP.out.frm.size
    obtain ⟨au, cu, hu0⟩ : ∃ au cu, u0 = .slice au p.length cu := by
      rcases HP.out.own.2 with ⟨e, hn⟩ | ⟨g, cap, cur, e, _⟩
      · exact ⟨none, 0, by rw [e, hn]⟩
      · exact ⟨_, _, e⟩
    subst hu0
    by_cases hb : k < cnt
    · have hbI : (k : Int) < (cnt : Int) := by omega
      obtain ⟨y, hy⟩ : ∃ y, y = m % 256 := ⟨_, rfl⟩
      have hw8 : IntKind.u8.wrap (m : Int) = (y : Int) := by rw [IntKind.wrap_u8']; omega
      have hcc : ((UInt8.ofNat (m % 256)).toNat : Int) = (y : Int) := by rw [u8_toN _ (by omega), hy]
      have HNx : Hid (∀ (v' : Value) (w2 : World), w2.ownsRow lo 5 1 v' (p.length + 1) (cellsOf p ++ [.int .u8 (y : Int)]) → (wr.alloc (.cells #[.int .u8 (y : Int)] 5)).grownBy w2 (Value.slice au p.length cu).ownBlock → (v'.ownBlock = (Value.slice au p.length cu).ownBlock ∨ v'.ownBlock = some (wr.alloc (.cells #[.int .u8 (y : Int)] 5)).heap.size) → Apd w w2 lo v v' (p ++ [UInt8.ofNat (m % 256)])) := hid0 (fun v' w2 h1 h2 h3 => apd_more (c := UInt8.ofNat (m % 256)) HP.out (by rw [hcc]; exact h1) h2 h3)
      have HE2 : Hid (p ++ [UInt8.ofNat (m % 256)] ++ leB (m / 256) (cnt - (k + 1)) = l ++ leB n cnt) := hid0 (by
        rw [← HE.out, show cnt - k = (cnt - (k + 1)) + 1 by omega, leB]; simp)
      have HL2 : Hid ((p ++ [UInt8.ofNat (m % 256)]).length ≤ 100000000008) := hid0 (by
        have h1 := congrArg List.length HE2.out
        simp only [List.length_append, leB_len] at h1 ⊢
        omega)
      clear hcc HE HP hy
      go_wp2_with (at_builtin; go_loud ((refine wpList_append_own_at _ rfl _ _ 99 rfl lo 5 i0 (.int .u8 0) 1 1 Tryd.underlying99 hi hz0 hz1 hz2 rfl (by decide) (.slice au p.length cu) p.length (cellsOf p) rfl (HO.out _) ⟨wr.heap.size, 0, none⟩ 1 1 [.int .u8 (y : Int)] rfl rfl (cell_one_new _ _ _) (by simp [Value.oneCell']) (by unfold maxLen; omega) (by omega) (by simp; omega) ?_; intro v' w2 h1 h2 _ h3; have HN := hid0 (HNx.out v' w2 h1 h2 h3); clear h1 h2 h3)))
      go_roundw
      case rel => exact ⟨k + 1, m / 256, _, by omega, by go_num, by go_num, by omega, HL2.out, HE2, HN⟩
      case measure => simp [intOf]; omega
    · obtain rfl : k = cnt := by omega
      have HF : Hid (Apd w wr lo v (.slice au p.length cu) (l ++ leB n k)) := hid0 (by
        have := HE.out
        rw [Nat.sub_self, leB, List.append_nil] at this
        rw [← this]; exact HP.out)
      go_wp2
      go_ret
      exact ⟨_, rfl, HF.out⟩
theorem Apd.trans {a b c : World} {lo : Nat} {u v z : Value} {l m : List UInt8} (h : Apd a b lo u v l) (k : Apd b c lo v z m) : Apd a c lo u z m :=
  ⟨k.own, h.frm.trans k.frm (fun i hi => h.at' i hi), fun i hi => by
    rcases k.at' i hi with q | q
    · exact h.at' i q
    · right; have := h.frm.size; omega⟩
theorem Apd.since {a b c : World} {lo : Nat} {u v : Value} {l : List UInt8} (h : Below a.heap.size a b) (k : Apd b c lo u v l) : Apd a c lo u v l :=
  ⟨k.own, (Only.ofBelow h _ (fun i h1 h2 => by omega)).trans k.frm (fun i hi => .inl hi), fun i hi => by
    rcases k.at' i hi with q | q
    · exact .inl q
    · right; have := h.size; omega⟩
set_option maxRecDepth 10000 in
set_option maxHeartbeats 1600000 in
theorem addWord_any (lo i x : Nat) (v : Value) (l : List UInt8) (w : World) (ho : OwnB w lo v l) (hl : l.length ≤ 99999999000) (hi : i < 4294967296) (hx : x < 18446744073709551616) (hlo : lo ≤ w.heap.size) :
    Calls Tryd.prog 66 #[v, .agg #[.int .i64 (i : Int), .int .u64 (x : Int)]] w fun e w' => ∃ v', e = .returned v' ∧ Apd w w' lo v v' (l ++ leB i 4 ++ leB x 8) := by
  obtain ⟨w0, hw0⟩ : ∃ w0, w0 = w.alloc (.cells #[.int .i64 (i : Int), .int .u64 (x : Int)] 130) := ⟨_, rfl⟩
  have hb0 : Below w.heap.size w w0 := by rw [hw0]; exact (Below.refl _ _).alloc (Nat.le_refl _) _
  have hs0 : w0.heap.size = w.heap.size + 1 := by rw [hw0]; simp
  have hr0 : w0.heap[w.heap.size]? = some (.cells #[.int .i64 (i : Int), .int .u64 (x : Int)] 130 (0, 0)) := by rw [hw0]; exact heap_alloc_new w _
  have HVl : Hid (∀ k, v.ownBlock = some k → k < w.heap.size) := hid0 (fun k hk => (World.ownsRow.lt ho k hk).2)
  have HRd : Hid (∀ V : World, Only w0 V (fun k => v.ownBlock = some k) → V.cell? ⟨w.heap.size, 0, none⟩ = some (.int .i64 (i : Int)) ∧ V.cell? ⟨w.heap.size, 1, none⟩ = some (.int .u64 (x : Int))) := hid0 (fun V ho => by
    have hq : V.heap[w.heap.size]? = _ := (ho.block w.heap.size (by omega) (fun s => by have := HVl.out _ s; omega)).trans hr0
    exact ⟨by rw [cell_of_row _ _ _ _ _ _ hq]; rfl, by rw [cell_of_row _ _ _ _ _ _ hq]; rfl⟩)
  have HS0 := hid0 (HRd.out w0 (Only.refl _ _))
  have HC1 : Hid (Calls Tryd.prog 50 #[v, .int .u64 (i : Int), .int .i64 4] w0.drew fun e w' => ∃ v', e = .returned v' ∧ Apd w0 w' lo v v' (l ++ leB i 4)) := hid0 (by
    have hd : Below w0.heap.size w0 w0.drew := (Below.refl _ _).drew
    have h := addBytes_any lo i 4 v l w0.drew (own_blk ho (fun k hk => (hb0.block k (World.ownsRow.lt ho k hk).2))) (by omega) (by omega) (by omega) (by have := hb0.size; have := hd.size; omega)
    exact h.mono (fun e w' ⟨v', h1, h2⟩ => ⟨v', h1, h2.since hd⟩))
  have HC2 : Hid (∀ (V : World) (v1 : Value), Apd w0 V lo v v1 (l ++ leB i 4) → Calls Tryd.prog 50 #[v1, .int .u64 (x : Int), .int .i64 8] V fun e w' => ∃ v', e = .returned v' ∧ Apd w w' lo v v' (l ++ leB i 4 ++ leB x 8) ∧ Only w0 w' (fun k => v.ownBlock = some k)) := hid0 (fun V v1 h1 => by
    have h := addBytes_any lo x 8 v1 (l ++ leB i 4) V h1.own (by rw [List.length_append, leB_len]; omega) hx (by omega) (by have := hb0.size; have := h1.frm.size; omega)
    exact h.mono (fun e w' ⟨v', q1, q2⟩ => ⟨v', q1, (h1.trans q2).since hb0, (h1.trans q2).frm⟩))
  have hiI : (i : Int) < 4294967296 := by omega
  have hwi : IntKind.u64.wrap (i : Int) = (i : Int) := by rw [IntKind.wrap_u64]; omega
  have hfold := hw0.symm
  clear hw0 hb0 hr0 ho hlo hs0
  go_enter Tryd.func66, Tryd.ntmps66
  go_wp2
  go_region_held3 (fun V => V.cell? ⟨w.heap.size, 0, none⟩ = some (.int .i64 (i : Int)) ∧ V.cell? ⟨w.heap.size, 1, none⟩ = some (.int .u64 (x : Int)))
    (first | assumption | exact HS0.out)
    (first
      | (go_at_call 50; have hq := HA1.out; refine (HC2.out _ _ hq).mono ?_; rintro e w2 ⟨v2, rfl, h2, h3⟩; have HF := hid0 h2; have hs2 := HRd.out w2 h3; clear h2 h3)
      | (go_at_call 50; refine HC1.out.mono ?_; rintro e w1 ⟨v1, rfl, h1⟩; have HA1 := hid0 h1; have hs1 := HRd.out w1 h1.frm; clear h1))
  go_wp2
  go_ret
  exact ⟨_, rfl, HF.out⟩
end Go.Proofs.YtleeedjpccooaaaDoor
namespace Go.Proofs.YtleeedjpccooaaaDoor
open Go.RowKit Go.Shelf
theorem leD_lt : ∀ (l : List UInt8), leD l < 256 ^ l.length
  | [] => by simp [leD]
  | b :: l => by
    have h1 := leD_lt l
    have h2 := b.toNat_lt
    rw [leD, List.length_cons, Nat.pow_succ]
    omega
theorem leD_drop {l : List UInt8} {k : Nat} (hk : k < l.length) : leD (l.drop k) = (l[k]).toNat + 256 * leD (l.drop (k + 1)) := by
  rw [List.drop_eq_getElem_cons hk, leD]
theorem or_low (n b : Nat) (h : b < 256) : n * 256 ||| b = n * 256 + b := by
  have := Nat.shiftLeft_add_eq_or_of_lt (b := b) (i := 8) h n
  rw [Nat.shiftLeft_eq] at this
  exact this.symm
set_option maxRecDepth 10000 in
set_option maxHeartbeats 800000 in
theorem numberIn_any (cnt : Nat) (l : List UInt8) (w : World) (hc : cnt ≤ 8) (hl : cnt ≤ l.length) (hb : l.length ≤ 100000000000) :
    Calls Tryd.prog 89 #[.string ⟨l.toArray⟩, .int .i64 (cnt : Int)] w fun e w' => e = .returned (.int .u64 (leD (l.take cnt) : Int)) ∧ w' = w := by
  have hcI : (cnt : Int) ≤ 8 := by omega
  have HT : Hid ((l.take cnt).length = cnt) := hid0 (by rw [List.length_take]; omega)
  go_enter Tryd.func89, Tryd.ntmps89
  go_wp2
  go_loopw [5, 6] (fun x i wr => ∃ k : Nat, k ≤ cnt ∧ i = .int .i64 ((k : Int) - 1) ∧ x = .int .u64 (leD ((l.take cnt).drop k) : Int) ∧ wr = w) (fun _ i _ => (intOf i + 1).toNat)
  case atStart => exact ⟨cnt, Nat.le_refl _, rfl, by rw [List.drop_of_length_le (by rw [HT.out]; exact Nat.le_refl _)]; rfl, rfl⟩
  case round =>
    obtain ⟨k, hk, rfl, rfl, rfl⟩ := hrel
    by_cases h0 : k = 0
    · subst h0
      rw [show (((0 : Nat) : Int) - 1) = (-1 : Int) from rfl]
      go_wp2
      go_ret
      exact ⟨rfl, rfl⟩
    · obtain ⟨j, rfl⟩ : ∃ j, k = j + 1 := ⟨k - 1, by omega⟩
      have hj : j < (l.take cnt).length := by rw [HT.out]; omega
      have hjl : j < l.length := by omega
      have hd := leD_drop hj
      have hlt := leD_lt ((l.take cnt).drop (j + 1))
      rw [List.length_drop, HT.out] at hlt
      have hlt2 : leD ((l.take cnt).drop (j + 1)) < 72057594037927936 := by
        refine Nat.lt_of_lt_of_le hlt ?_
        exact Nat.le_trans (Nat.pow_le_pow_right (by omega) (show cnt - (j + 1) ≤ 7 by omega)) (by decide)
      rw [List.getElem_take] at hd
      have hv := (l[j]).toNat_lt
      generalize hb2 : (l[j]).toNat = b at *
      have HD := hid0 hd
      clear hd hlt
      generalize leD ((l.take cnt).drop (j + 1)) = n at *
      have ej : ((j + 1 : Nat) : Int) - 1 = (j : Int) := by omega
      rw [ej]
      have HB2 : Hid (∀ h, ((⟨l.toArray⟩ : ByteArray)[j]'h).toNat = b) := hid0 (fun h => by rw [← hb2]; rfl)
      have HW : Hid (IntKind.u64.wrap (b : Int) = (b : Int)) := hid0 (by rw [IntKind.wrap_u64]; omega)
      have HO : Hid (bits .or .u64 ((n : Int) * 256) (b : Int) = ((b + 256 * n : Nat) : Int)) := hid0 (by
        rw [show (n : Int) * 256 = ((n * 256 : Nat) : Int) by omega, bits_or_u64_nat _ _ (by omega) (by omega), or_low n b (by omega)]
        omega)
      clear hb2 hv
      go_wp2
      go_roundw
      case rel => exact ⟨j, by omega, rfl, by rw [HB2.out, HW.out, HO.out, HD.out], trivial⟩
      case measure => simp [intOf]
end Go.Proofs.YtleeedjpccooaaaDoor
namespace Go.Proofs.YtleeedjpccooaaaDoor
open Go.RowKit Go.Shelf
def nI (l : List Nat) : List Int := l.map fun x => ((x : Nat) : Int)
theorem nI_len (l : List Nat) : (nI l).length = l.length := by unfold nI; rw [List.length_map]
theorem nI_app (a b : List Nat) : nI (a ++ b) = nI a ++ nI b := by unfold nI; rw [List.map_append]
theorem IA.cons {w : World} {a : Option Addr} {x : Int} {L : List Int} (h : IA w a (x :: L)) : ∃ b off, a = some ⟨b, off, none⟩ ∧ w.cell? ⟨b, off, none⟩ = some (.int .i64 x) ∧ IA w (some ⟨b, off + 1, none⟩) L := by
  obtain ⟨b, off, e, h1, h2⟩ := h.at' 0 (by simp)
  refine ⟨b, off, e, by simpa using h2, ⟨fun k hk => ?_⟩⟩
  obtain ⟨b', off', e', h3, h4⟩ := h.at' (k + 1) (by simpa using hk)
  rw [e] at e'
  cases e'
  refine ⟨b, off + 1, rfl, h3, ?_⟩
  rw [show off + 1 + k = off + (k + 1) by omega, h4]
  simp
/-- The rest of a list, as slicing tells where it lies. -/
theorem IA.rest {w : World} {b off c : Nat} {L : List Int} (h : IA w (some ⟨b, off + 1, none⟩) L) (hc : L.length + 1 ≤ c) : IA w (if c = 1 then some ⟨b, off, none⟩ else some ⟨b, off + 1, none⟩) L := by
  by_cases h1 : c = 1
  · have h0 : L = [] := List.length_eq_zero_iff.1 (by omega)
    subst h0
    exact ⟨fun _ h => absurd h (Nat.not_lt_zero _)⟩
  · rw [if_neg h1]; exact h
theorem rest_some {b off c : Nat} {q : Prop} (h : (if c = 1 then some (⟨b, off, none⟩ : Addr) else some ⟨b, off + 1, none⟩) = none) : q := by
  split at h <;> cases h
theorem ia_nil (w : World) (a : Option Addr) : IA w a [] := ⟨fun _ h => absurd h (Nat.not_lt_zero _)⟩
/-- A list of numbers put behind one of one's own. -/
theorem wpList_spreadJ {ops : Array Oper} {rest : List Oper} {op : Oper} {a : Act} {w : World} {Q : Exit → Act → World → Prop} (hgd : op.guard = none) (s x : Operand) (ho : op.op = .call { callee := .builtin .append, args := #[s, x], argTypes := #[34, 34] })
    (v : Value) (P : List Int) (aN : Option Addr) (n : Nat) (L : List Int) (cN base : Nat) (hs : a.eval s = v) (hx : a.eval x = .slice aN n cN) (hn : n = L.length) (hnil : aN = none → cN = 0) (hv : OwnI w base v P) (ha : IA w aN L) (hl : P.length + L.length ≤ 17592186044416) (hb : base ≤ w.heap.size)
    (h : ∀ v' w', OwnI w' base v' (P ++ L) → w.grownBy w' v.ownBlock → wpList Tryd.prog ops Q rest (a.put op.dst v') w') : wpList Tryd.prog ops Q (op :: rest) a w := by
  obtain ⟨i0, hi, hz0, hz1, hz2⟩ := info_parts infoInt
  subst hn
  cases aN with
  | none =>
    have hL : L = [] := by
      cases L with
      | nil => rfl
      | cons y r => obtain ⟨b, off, e, _⟩ := ha.at' 0 (by simp); cases e
    subst hL
    have hc := hnil rfl
    subst hc
    refine wpList_append_own_none hgd s x 34 ho base 3 i0 1 Tryd.underlying34 hi v P.length (P.map (Value.int .i64)) hs hv hx (h v w (by rw [List.append_nil]; exact hv) ⟨rfl, rfl, rfl, Nat.le_refl _, fun _ _ _ => rfl⟩)
  | some ad =>
    refine wpList_append_own _ hgd s x 34 ho base 3 i0 (.int .i64 0) 1 8 Tryd.underlying34 hi hz0 hz1 hz2 rfl (by decide) v P.length (P.map (Value.int .i64)) hs hv ad L.length cN (L.map (Value.int .i64)) hx (by simp) (fun j u hu => ?_) (fun u hu => by obtain ⟨y, _, rfl⟩ := List.mem_map.1 hu; rfl) (by unfold maxLen; omega) (by omega) hb (fun v' w' h1 h2 _ => h v' w' (by unfold OwnI; rw [List.length_append, List.map_append]; exact h1) h2)
    have hj : j < L.length := by have := (List.getElem?_eq_some_iff.1 hu).1; simpa using this
    obtain ⟨b, off, e, h1, h2⟩ := ha.at' j hj
    cases e
    rw [Addr.add_mid, h2]
    have : (L.map (Value.int .i64))[j]? = some (.int .i64 L[j]) := by simp [hj]
    rw [this] at hu
    exact hu
theorem own_n {w : World} {base : Nat} {v : Value} {L : List Int} {n : Nat} (h : OwnI w base v L) (hn : L.length = n) : w.ownsRow base 3 1 v n (L.map (Value.int .i64)) := by rw [← hn]; exact h
/-- make, of what takes one cell. -/
theorem made_run {t e : TypeId} {z : Value} {by' : Nat} (ht : Tryd.prog.underlying t = some (.slice e)) (hinfo : (Tryd.prog.info? e).map (fun i => (i.zero, i.size, i.bytes)) = some (some z, 1, by')) (l c : Nat) (hlc : l ≤ c) (hb : by' * c ≤ 281474976710656) (hc : c ≤ 100000000000) (w : World) :
    (Instr.makeSlice t (.int .i64 (l : Int)) (.int .i64 (c : Int))).run Tryd.prog w = .ok (.slice (some ⟨w.heap.size, 0, none⟩) l c) (w.alloc (.cells (madeCells z.cells c) e)) := by
  obtain ⟨i, hi, hz0, hz1, hz2⟩ := info_parts hinfo
  have hr := run_make (P := Tryd.prog) w t e i z ht hi hz0 .i64 .i64 l c (by omega) (by omega) (by rw [hz2, ← Int.natCast_mul]; omega) (by omega)
  rw [hr, hz1, Nat.mul_one, Int.toNat_natCast, Int.toNat_natCast]
theorem made_own {e : TypeId} {z : Value} (hz : z.cells = #[z]) (l c : Nat) (hlc : l ≤ c) (hc : c ≤ 100000000000) (w : World) (base : Nat) (hb : base ≤ w.heap.size) :
    (w.alloc (.cells (madeCells z.cells c) e)).ownsRow base e 1 (.slice (some ⟨w.heap.size, 0, none⟩) l c) l (List.replicate l z) := by
  refine ⟨by simp, .inr ⟨w.heap.size, c, _, rfl, hb, heap_alloc_new w _, hlc, by unfold maxLen; omega, ?_, ?_⟩⟩
  · rw [size_madeCells]; omega
  · apply List.ext_getElem
    · simp [size_madeCells]; omega
    · intro k h1 h2
      simp [madeCells, hz, Nat.mod_one]
set_option maxRecDepth 10000 in
set_option maxHeartbeats 1600000 in
theorem merged_any (A B : List Nat) (aA aB : Option Addr) (cA cB : Nat) (w : World) (hA : IA w aA (nI A)) (hB : IA w aB (nI B)) (hcA : A.length ≤ cA) (hcB : B.length ≤ cB) (hnA : aA = none → cA = 0) (hnB : aB = none → cB = 0) (hlA : A.length ≤ 100000000) (hlB : B.length ≤ 100000000) :
    Calls Tryd.prog 54 #[.slice aA A.length cA, .slice aB B.length cB] w fun e w' => ∃ v, e = .returned v ∧ OwnI w' w.heap.size v (nI (mrg A B)) ∧ Below w.heap.size w w' := by
  obtain ⟨i0, hi, hz0, hz1, hz2⟩ := info_parts infoInt
  have HAB : Hid (IA w aA (nI A) ∧ IA w aB (nI B) ∧ (aA = none → cA = 0) ∧ (aB = none → cB = 0)) := hid0 ⟨hA, hB, hnA, hnB⟩
  have hlI : (A.length : Int) ≤ 100000000 := by omega
  have hlI2 : (B.length : Int) ≤ 100000000 := by omega
  obtain ⟨n, hn⟩ : ∃ n, n = A.length + B.length := ⟨_, rfl⟩
  have hmk : ∀ V : World, (Instr.makeSlice 34 (.int .i64 0) (.int .i64 ((A.length : Int) + (B.length : Int)))).run Tryd.prog V = .ok (.slice (some ⟨V.heap.size, 0, none⟩) 0 n) (V.alloc (.cells (madeCells #[.int .i64 0] n) 3)) := fun V => by
    have h := made_run (t := 34) Tryd.underlying34 infoInt 0 n (Nat.zero_le _) (by omega) (by omega) V
    rw [hn] at h ⊢
    rw [Int.natCast_add] at h
    exact h
  obtain ⟨w0, hw0⟩ : ∃ w0, w0 = w.alloc (.cells (madeCells #[.int .i64 0] n) 3) := ⟨_, rfl⟩
  have HO0 : Hid (OwnI w0 w.heap.size (.slice (some ⟨w.heap.size, 0, none⟩) 0 n) (nI [])) := hid0 (by rw [hw0]; exact made_own (z := .int .i64 0) rfl 0 n (Nat.zero_le _) (by omega) w _ (Nat.le_refl _))
  have HB0 : Hid (Below w.heap.size w w0) := hid0 (by rw [hw0]; exact (Below.refl _ _).alloc (Nat.le_refl _) _)
  have hfold := hw0.symm
  clear hA hB hnA hnB hw0 hn
  go_enter Tryd.func54, Tryd.ntmps54
  go_wp2
  go_loopw [0, 1, 5] (fun u x v wr => ∃ (P A' B' : List Nat) (k m : Nat) (a b : Option Addr) (c d : Nat), u = .slice a k c ∧ x = .slice b m d ∧ k ≤ c ∧ m ≤ d ∧ k ≤ 100000000 ∧ m ≤ 100000000 ∧ Hid (k = A'.length ∧ m = B'.length) ∧ Hid (IA w a (nI A') ∧ IA w b (nI B') ∧ (a = none → c = 0) ∧ (b = none → d = 0)) ∧ Hid (P ++ mrg A' B' = mrg A B ∧ P.length + A'.length + B'.length ≤ 200000000) ∧ Hid (OwnI wr w.heap.size v (nI P)) ∧ Hid (Below w.heap.size w wr)) (fun u x _ _ => (match u with | .slice _ k _ => k | _ => 0) + (match x with | .slice _ k _ => k | _ => 0))
  case atStart => exact ⟨[], A, B, A.length, B.length, aA, aB, cA, cB, rfl, rfl, hcA, hcB, hlA, hlB, hid0 ⟨rfl, rfl⟩, HAB, hid0 ⟨rfl, by simp; omega⟩, HO0, HB0⟩
  case round =>
    clear hmk hfold HO0 HB0 HAB
    obtain ⟨P, A', B', k, m, a, b, c, d, rfl, rfl, hc', hd', hlA', hlB', HK, HI, HM, HO, HB⟩ := hrel
    have HBd : Hid ((nI P).length + (nI A').length ≤ 17592186044416 ∧ (nI P ++ nI A').length + (nI B').length ≤ 17592186044416) := hid0 (by
      have := HM.out.2
      rw [List.length_append, nI_len, nI_len, nI_len]; omega)
    by_cases hk0 : k = 0
    · subst hk0
      have HK1 : Hid (0 = (nI A').length) := hid0 (by rw [nI_len]; exact HK.out.1)
      have HK2 : Hid (m = (nI B').length) := hid0 (by rw [nI_len]; exact HK.out.2)
      have HE : Hid (nI P ++ nI A' ++ nI B' = nI (mrg A B)) := hid0 (by
        have h0 : A' = [] := List.length_eq_zero_iff.1 HK.out.1.symm
        rw [← HM.out.1, h0, mrg_nl, nI_app]; simp [nI])
      go_wp2_with (first
        | (at_builtin; have hq := HO1.out; go_loud ((refine wpList_spreadJ rfl _ _ rfl v1 (nI P ++ nI A') b m (nI B') d w.heap.size rfl rfl HK2.out HI.out.2.2.2 HO1.out (HI.out.2.1.past HB1.out) HBd.out.2 (by have := HB1.out.size; omega) ?_; intro v2 w2 ho2 hg2; have HO2 := hid0 ho2; have HB2 := hid0 (HB1.out.grown hg2 (by have := HB1.out.size; omega) (fun k hk => (World.ownsRow.lt HO1.out k hk).1)); clear ho2 hg2)))
        | (at_builtin; go_loud ((refine wpList_spreadJ rfl _ _ rfl u5 (nI P) a 0 (nI A') c w.heap.size rfl rfl HK1.out HI.out.2.2.1 HO.out (HI.out.1.past HB.out) HBd.out.1 HB.out.size ?_; intro v1 w1 ho1 hg1; have HO1 := hid0 ho1; have HB1 := hid0 (HB.out.grown hg1 HB.out.size (fun k hk => (World.ownsRow.lt HO.out k hk).1)); clear ho1 hg1))))
      go_ret
      exact ⟨_, rfl, by rw [← HE.out]; exact HO2.out, HB2.out⟩
    · obtain ⟨k', rfl⟩ : ∃ k', k = k' + 1 := ⟨k - 1, by omega⟩
      have hkI : (0 : Int) < ((k' + 1 : Nat) : Int) := by omega
      by_cases hm0 : m = 0
      · subst hm0
        have HK1 : Hid (k' + 1 = (nI A').length) := hid0 (by rw [nI_len]; exact HK.out.1)
        have HK2 : Hid (0 = (nI B').length) := hid0 (by rw [nI_len]; exact HK.out.2)
        have HE : Hid (nI P ++ nI A' ++ nI B' = nI (mrg A B)) := hid0 (by
          have h0 : B' = [] := List.length_eq_zero_iff.1 HK.out.2.symm
          rw [← HM.out.1, h0, mrg_nil, nI_app]; simp [nI])
        go_wp2_with (first
          | (at_builtin; have hq := HO1.out; go_loud ((refine wpList_spreadJ rfl _ _ rfl v1 (nI P ++ nI A') b 0 (nI B') d w.heap.size rfl rfl HK2.out HI.out.2.2.2 HO1.out (HI.out.2.1.past HB1.out) HBd.out.2 (by have := HB1.out.size; omega) ?_; intro v2 w2 ho2 hg2; have HO2 := hid0 ho2; have HB2 := hid0 (HB1.out.grown hg2 (by have := HB1.out.size; omega) (fun k hk => (World.ownsRow.lt HO1.out k hk).1)); clear ho2 hg2)))
          | (at_builtin; go_loud ((refine wpList_spreadJ rfl _ _ rfl u5 (nI P) a (k' + 1) (nI A') c w.heap.size rfl rfl HK1.out HI.out.2.2.1 HO.out (HI.out.1.past HB.out) HBd.out.1 HB.out.size ?_; intro v1 w1 ho1 hg1; have HO1 := hid0 ho1; have HB1 := hid0 (HB.out.grown hg1 HB.out.size (fun k hk => (World.ownsRow.lt HO.out k hk).1)); clear ho1 hg1))))
        go_ret
        exact ⟨_, rfl, by rw [← HE.out]; exact HO2.out, HB2.out⟩
      · obtain ⟨m', rfl⟩ : ∃ m', m = m' + 1 := ⟨m - 1, by omega⟩
        have hmI : (0 : Int) < ((m' + 1 : Nat) : Int) := by omega
        obtain ⟨x, A2, rfl⟩ : ∃ x A2, A' = x :: A2 := by
          cases A' with
          | nil => have := HK.out.1; simp at this
          | cons x A2 => exact ⟨x, A2, rfl⟩
        obtain ⟨y, B2, rfl⟩ : ∃ y B2, B' = y :: B2 := by
          cases B' with
          | nil => have := HK.out.2; simp at this
          | cons y B2 => exact ⟨y, B2, rfl⟩
        have HL : Hid (k' = A2.length ∧ m' = B2.length) := hid0 (by have := HK.out; simp only [List.length_cons] at this; omega)
        obtain ⟨ba, oa, ea, hxa, hia⟩ := IA.cons (x := (x : Int)) (L := nI A2) HI.out.1
        obtain ⟨bb, ob, eb, hxb, hib⟩ := IA.cons (x := (y : Int)) (L := nI B2) HI.out.2.1
        subst ea
        subst eb
        have HIa := hid0 hia
        have HIb := hid0 hib
        have HCl : Hid (∀ V : World, Below w.heap.size w V → V.cell? ⟨ba, oa, none⟩ = some (.int .i64 (x : Int)) ∧ V.cell? ⟨bb, ob, none⟩ = some (.int .i64 (y : Int))) := hid0 (fun V hV => ⟨(hV.cell (p := ⟨ba, oa, none⟩) (World.block_lt_of_cell? w _ hxa)).trans hxa, (hV.cell (p := ⟨bb, ob, none⟩) (World.block_lt_of_cell? w _ hxb)).trans hxb⟩)
        obtain ⟨dx, dy⟩ := HCl.out wr HB.out
        have HP2 : Hid (P.length ≤ 200000000) := hid0 (by have := HM.out.2; omega)
        have hpl := HP2.out
        have hsz := HB.out.size
        clear hxa hxb hia hib HBd
        obtain ⟨av, cv, ev, _⟩ := HO.out.ia
        rw [nI_len] at ev
        subst ev
        have HD : Hid (∀ q, OwnI (wr.drewN q) w.heap.size (.slice av P.length cv) (nI P) ∧ Below w.heap.size w (wr.drewN q)) := hid0 (fun q => ⟨own_blk HO.out (fun k hk => rfl), ⟨HB.out.os, HB.out.tape, HB.out.output, HB.out.size, HB.out.block⟩⟩)
        have HAp : Hid (∀ (V w1 : World) (v1 : Value) (z : Nat) (o : Obj), OwnI V w.heap.size (.slice av P.length cv) (nI P) → Below w.heap.size w V → w1.ownsRow w.heap.size 3 1 v1 (P.length + 1) ((nI P).map (Value.int .i64) ++ [.int .i64 (z : Int)]) → (V.alloc o).grownBy w1 (Value.slice av P.length cv).ownBlock → OwnI w1 w.heap.size v1 (nI (P ++ [z])) ∧ Below w.heap.size w w1) := hid0 (fun V w1 v1 z o h1 h2 h3 h4 => by
          have h5 := ownI_snoc (by rw [nI_len]) h1 h3 h4 h2 (Nat.le_refl _)
          refine ⟨?_, h5.2⟩
          rw [nI_app]; exact h5.1)
        by_cases hxy : x < y
        · have hxyI : (x : Int) < (y : Int) := by omega
          have hne : ((y : Int) == (x : Int)) = false := by simp; omega
          have HN1 : Hid (IA w (if c = 1 then some ⟨ba, oa, none⟩ else some ⟨ba, oa + 1, none⟩) (nI A2) ∧ IA w (some ⟨bb, ob, none⟩) (nI (y :: B2)) ∧ ((if c = 1 then some (⟨ba, oa, none⟩ : Addr) else some ⟨ba, oa + 1, none⟩) = none → c - 1 = 0) ∧ (some (⟨bb, ob, none⟩ : Addr) = none → d = 0)) := hid0 ⟨HIa.out.rest (by rw [nI_len, ← HL.out.1]; exact hc'), HI.out.2.1, fun h => rest_some h, (fun h => nomatch h)⟩
          have HM1 : Hid (P ++ [x] ++ mrg A2 (y :: B2) = mrg A B ∧ (P ++ [x]).length + A2.length + (y :: B2).length ≤ 200000000) := hid0 ⟨by rw [← HM.out.1, mrg_cons, if_pos hxy]; simp, by have := HM.out.2; simp only [List.length_append, List.length_cons, List.length_nil] at this ⊢; omega⟩
          go_wp2
          go_quiet ((fail))
          obtain ⟨HOd, HBd⟩ := HD.out nq
          have HOd := hid0 HOd
          have HBd := hid0 HBd
          obtain ⟨dx, dy⟩ := HCl.out _ HBd.out
          have hsd := HBd.out.size
          generalize wr.drewN nq = wd at *
          go_wp2_with (at_builtin; go_loud ((refine wpList_append_own_at _ rfl _ _ 34 rfl w.heap.size 3 i0 (.int .i64 0) 1 8 Tryd.underlying34 hi hz0 hz1 hz2 rfl (by decide) (.slice av P.length cv) P.length ((nI P).map (Value.int .i64)) rfl (World.ownsRow.alloc (own_n HOd.out (nI_len P)) _) ⟨wd.heap.size, 0, none⟩ 1 1 [.int .i64 (x : Int)] rfl rfl (cell_one_new _ _ _) (by simp [Value.oneCell']) (by unfold maxLen; omega) (by omega) (by simp; omega) ?_; intro v1 w1 h1 h2 _ _; have R := HAp.out wd w1 v1 x _ HOd.out HBd.out h1 h2; have HO1 := hid0 R.1; have HB1 := hid0 R.2; obtain ⟨dx, dy⟩ := HCl.out w1 HB1.out; clear R h1 h2)))
          go_roundw
          case rel => exact ⟨P ++ [x], A2, y :: B2, k', m' + 1, _, _, c - 1, d, rfl, rfl, by omega, by omega, by omega, by omega, hid0 ⟨HL.out.1, by simp [HL.out.2]⟩, HN1, HM1, HO1, HB1⟩
          case measure => simp
        · by_cases hyx : y < x
          · have hxyI : (y : Int) < (x : Int) := by omega
            have hxyN : ¬ (x : Int) < (y : Int) := by omega
            have hne : ((x : Int) == (y : Int)) = false := by simp; omega
            have HN1 : Hid (IA w (some ⟨ba, oa, none⟩) (nI (x :: A2)) ∧ IA w (if d = 1 then some ⟨bb, ob, none⟩ else some ⟨bb, ob + 1, none⟩) (nI B2) ∧ (some (⟨ba, oa, none⟩ : Addr) = none → c = 0) ∧ ((if d = 1 then some (⟨bb, ob, none⟩ : Addr) else some ⟨bb, ob + 1, none⟩) = none → d - 1 = 0)) := hid0 ⟨HI.out.1, HIb.out.rest (by rw [nI_len, ← HL.out.2]; exact hd'), (fun h => nomatch h), fun h => rest_some h⟩
            have HM1 : Hid (P ++ [y] ++ mrg (x :: A2) B2 = mrg A B ∧ (P ++ [y]).length + (x :: A2).length + B2.length ≤ 200000000) := hid0 ⟨by rw [← HM.out.1, mrg_cons, if_neg hxy, if_pos hyx]; simp, by have := HM.out.2; simp only [List.length_append, List.length_cons, List.length_nil] at this ⊢; omega⟩
            go_wp2
            go_quiet ((fail))
            obtain ⟨HOd, HBd⟩ := HD.out nq
            have HOd := hid0 HOd
            have HBd := hid0 HBd
            obtain ⟨dx, dy⟩ := HCl.out _ HBd.out
            have hsd := HBd.out.size
            generalize wr.drewN nq = wd at *
            go_wp2_with (at_builtin; go_loud ((refine wpList_append_own_at _ rfl _ _ 34 rfl w.heap.size 3 i0 (.int .i64 0) 1 8 Tryd.underlying34 hi hz0 hz1 hz2 rfl (by decide) (.slice av P.length cv) P.length ((nI P).map (Value.int .i64)) rfl (World.ownsRow.alloc (own_n HOd.out (nI_len P)) _) ⟨wd.heap.size, 0, none⟩ 1 1 [.int .i64 (y : Int)] rfl rfl (cell_one_new _ _ _) (by simp [Value.oneCell']) (by unfold maxLen; omega) (by omega) (by simp; omega) ?_; intro v1 w1 h1 h2 _ _; have R := HAp.out wd w1 v1 y _ HOd.out HBd.out h1 h2; have HO1 := hid0 R.1; have HB1 := hid0 R.2; obtain ⟨dx, dy⟩ := HCl.out w1 HB1.out; clear R h1 h2)))
            go_roundw
            case rel => exact ⟨P ++ [y], x :: A2, B2, k' + 1, m', _, _, c, d - 1, rfl, rfl, by omega, by omega, by omega, by omega, hid0 ⟨by simp [HL.out.1], HL.out.2⟩, HN1, HM1, HO1, HB1⟩
            case measure => simp
          · obtain rfl : x = y := by omega
            have hxyN : ¬ (x : Int) < (x : Int) := by omega
            have HN1 : Hid (IA w (if c = 1 then some ⟨ba, oa, none⟩ else some ⟨ba, oa + 1, none⟩) (nI A2) ∧ IA w (if d = 1 then some ⟨bb, ob, none⟩ else some ⟨bb, ob + 1, none⟩) (nI B2) ∧ ((if c = 1 then some (⟨ba, oa, none⟩ : Addr) else some ⟨ba, oa + 1, none⟩) = none → c - 1 = 0) ∧ ((if d = 1 then some (⟨bb, ob, none⟩ : Addr) else some ⟨bb, ob + 1, none⟩) = none → d - 1 = 0)) := hid0 ⟨HIa.out.rest (by rw [nI_len, ← HL.out.1]; exact hc'), HIb.out.rest (by rw [nI_len, ← HL.out.2]; exact hd'), fun h => rest_some h, fun h => rest_some h⟩
            have HM1 : Hid (P ++ [x] ++ mrg A2 B2 = mrg A B ∧ (P ++ [x]).length + A2.length + B2.length ≤ 200000000) := hid0 ⟨by rw [← HM.out.1, mrg_cons, if_neg hxy, if_neg hyx]; simp, by have := HM.out.2; simp only [List.length_append, List.length_cons, List.length_nil] at this ⊢; omega⟩
            go_wp2
            go_quiet ((fail))
            obtain ⟨HOd, HBd⟩ := HD.out nq
            have HOd := hid0 HOd
            have HBd := hid0 HBd
            obtain ⟨dx, dy⟩ := HCl.out _ HBd.out
            have hsd := HBd.out.size
            generalize wr.drewN nq = wd at *
            go_wp2_with (at_builtin; go_loud ((refine wpList_append_own_at _ rfl _ _ 34 rfl w.heap.size 3 i0 (.int .i64 0) 1 8 Tryd.underlying34 hi hz0 hz1 hz2 rfl (by decide) (.slice av P.length cv) P.length ((nI P).map (Value.int .i64)) rfl (World.ownsRow.alloc (own_n HOd.out (nI_len P)) _) ⟨wd.heap.size, 0, none⟩ 1 1 [.int .i64 (x : Int)] rfl rfl (cell_one_new _ _ _) (by simp [Value.oneCell']) (by unfold maxLen; omega) (by omega) (by simp; omega) ?_; intro v1 w1 h1 h2 _ _; have R := HAp.out wd w1 v1 x _ HOd.out HBd.out h1 h2; have HO1 := hid0 R.1; have HB1 := hid0 R.2; obtain ⟨dx, dy⟩ := HCl.out w1 HB1.out; clear R h1 h2)))
            go_roundw
            case rel => exact ⟨P ++ [x], A2, B2, k', m', _, _, c - 1, d - 1, rfl, rfl, by omega, by omega, by omega, by omega, HL, HN1, HM1, HO1, HB1⟩
            case measure => simp; omega
end Go.Proofs.YtleeedjpccooaaaDoor
namespace Go.Proofs
open Go.Shelf
def Tryd.lays7n29_ren : Go.Shelf.Ren := ⟨fun | 29 => 90 | n => n, fun | 22 => 105 | 3 => 3 | 4 => 4 | 25 => 134 | 54 => 156 | 0 => 0 | 5 => 5 | n => n, fun | 1 => 11 | n => n⟩
theorem Tryd.lays7n29 : Go.Proofs.Lays7.n29 Tryd.prog Tryd.lays7n29_ren := {
  mixed := by kernel_rfl
  f29 := Tryd.func90.trans (congrArg some (by kernel_rfl))
  t0 := Tryd.underlying0
  a0 := Tryd.isAgg0
  z0 := Tryd.sizeOf0
  v0 := Tryd.zeroValue0
  i0 := by kernel_rfl
  t3 := Tryd.underlying3
  a3 := Tryd.isAgg3
  z3 := Tryd.sizeOf3
  v3 := Tryd.zeroValue3
  i3 := by kernel_rfl
  t4 := Tryd.underlying4
  a4 := Tryd.isAgg4
  z4 := Tryd.sizeOf4
  v4 := Tryd.zeroValue4
  i4 := by kernel_rfl
  t5 := Tryd.underlying5
  a5 := Tryd.isAgg5
  z5 := Tryd.sizeOf5
  v5 := Tryd.zeroValue5
  i5 := by kernel_rfl
  t22 := Tryd.underlying105
  a22 := Tryd.isAgg105
  z22 := Tryd.sizeOf105
  v22 := Tryd.zeroValue105
  i22 := by kernel_rfl
  t25 := Tryd.underlying134
  a25 := Tryd.isAgg134
  z25 := Tryd.sizeOf134
  v25 := Tryd.zeroValue134
  i25 := by kernel_rfl
  t54 := Tryd.underlying156
  a54 := Tryd.isAgg156
  z54 := Tryd.sizeOf156
  g1 := by kernel_rfl }
end Go.Proofs
namespace Go.Proofs.YtleeedjpccooaaaDoor
open Go.RowKit Go.Shelf
attribute [local go_sem] Oper.semAt_some
set_option maxRecDepth 100000 in
set_option maxHeartbeats 2000000 in
theorem each_in (n : Nat) (hn : 1 ≤ n) (l g m : Nat) (f : Nat → Bool) (hm : m ≤ 1000000) (J : List Nat → World → Prop) (S : Nat → Prop) (w : World)
    (hJa : ∀ pre A B, J pre A → Below A.heap.size A B → J pre B)
    (hJs : ∀ pre A, J pre A → BS A g m f ∧ TabAt 11 Lib.deBruijn64tab A)
    (hS : ∀ i, S i → i < w.heap.size)
    (hY : ∀ pre x A, J pre A → x < 512 * m → f x = true → YieldAt Fence.wide (n - 1) Tryd.prog l #[.int .i64 (x : Int)] A fun e A' => e = .returned (.bool true) ∧ J (pre ++ [x]) A' ∧ Only A A' S)
    (h0 : J [] w) :
    CallsIn Fence.wide n Tryd.prog 83 #[.agg #[.slice (some ⟨g, 0, none⟩) m m], .func (.yield l) #[] #[]] w fun e w' => (∃ v, e = .returned v) ∧ J (plB f (512 * m)) w' := by
  obtain ⟨w0, hw0⟩ : ∃ w0, w0 = w.alloc (.cells #[.slice (some ⟨g, 0, none⟩) m m] 119) := ⟨_, rfl⟩
  have hb0 : Below w.heap.size w w0 := by rw [hw0]; exact (Below.refl _ _).alloc (Nat.le_refl _) _
  have hs0 : w0.heap.size = w.heap.size + 1 := by rw [hw0]; simp
  have hsB : w0.cell? ⟨w.heap.size, 0, none⟩ = some (.slice (some ⟨g, 0, none⟩) m m) := by rw [hw0]; exact cell_one_new _ _ _ 0 _ rfl
  have HJ0 := hid0 (hJa _ _ _ h0 hb0)
  have HJs := hid0 hJs
  have HY := hid0 hY
  have HSB := hid0 hsB
  have HO0 : Hid (Only w0 w0 S) := hid0 (Only.refl _ _)
  have HKp : Hid (∀ A, Only w0 A S → A.cell? ⟨w.heap.size, 0, none⟩ = some (.slice (some ⟨g, 0, none⟩) m m)) := hid0 (fun A ho => by
    rw [ho.cell (p := ⟨w.heap.size, 0, none⟩) (by show w.heap.size < _; omega) (fun s => by have := hS _ s; simp at this)]; exact hsB)
  have hmI : (m : Int) ≤ 1000000 := by omega
  have hfold := hw0.symm
  clear hJa hJs hY hS h0 hw0 hb0
  refine callsIn_of_wp Tryd.func83 rfl trivial ?_ rfl
  simp only [Tryd.ntmps83, List.size_toArray, List.length_cons, List.length_nil, Nat.reduceAdd, Nat.reduceSub, Array.replicate_succ, Array.replicate_zero, List.push_toArray, List.append_toArray, List.nil_append, List.cons_append]
  gi_wp2
  gi_loopw [10] (fun i wr => ∃ k : Nat, k ≤ m ∧ i = .int .i64 (k : Int) ∧ Hid (J (plB f (64 * (k * 8))) wr) ∧ Hid (Only w0 wr S)) (fun i _ => m - (intOf i).toNat)
  case atStart => exact ⟨0, Nat.zero_le _, rfl, HJ0, HO0⟩
  case round =>
    clear hsB
    obtain ⟨k, hk, rfl, HJ, HO⟩ := hrel
    by_cases hlt : k < m
    · have hkI : (k : Int) < (m : Int) := by omega
      have hkI0 : (0 : Int) ≤ (k : Int) := by omega
      have hB1 := HKp.out wr HO.out
      have HH1 := (HJs.out _ _ HJ.out).1
      have c0 := (HH1.cell (k * 8) (by omega)).1
      have c1 := (HH1.cell (k * 8 + 1) (by omega)).1
      have c2 := (HH1.cell (k * 8 + 2) (by omega)).1
      have c3 := (HH1.cell (k * 8 + 3) (by omega)).1
      have c4 := (HH1.cell (k * 8 + 4) (by omega)).1
      have c5 := (HH1.cell (k * 8 + 5) (by omega)).1
      have c6 := (HH1.cell (k * 8 + 6) (by omega)).1
      have c7 := (HH1.cell (k * 8 + 7) (by omega)).1
      clear HH1
      gi_wp2
      gi_loopw [18] (fun i wr => ∃ j : Nat, j ≤ 8 ∧ i = .int .i64 (j : Int) ∧ Hid (J (plB f (64 * (k * 8 + j))) wr) ∧ Hid (Only w0 wr S)) (fun i _ => 8 - (intOf i).toNat)
      case atStart => exact ⟨0, Nat.zero_le _, rfl, HJ, HO⟩
      case round =>
        clear hB1 c0 c1 c2 c3 c4 c5 c6 c7 HJ HO
        obtain ⟨j, hj, rfl, HJ, HO⟩ := hrel
        by_cases hj8 : j < 8
        · have hjI : (j : Int) < 8 := by omega
          have hjI0 : (0 : Int) ≤ (j : Int) := by omega
          have hix := index_blk f k j hj8 wr
          gi_wp2
          clear hix
          gi_loopw [6] (fun x wr => ∃ c : Nat, c ≤ 64 ∧ x = .int .u64 (wordFrom f c (k * 8 + j) : Int) ∧ Hid (J (plB f (64 * (k * 8 + j) + c)) wr) ∧ Hid (Only w0 wr S)) (fun x _ => (intOf x).toNat)
          case atStart => exact ⟨0, Nat.zero_le _, by rw [wordFrom_zero], HJ, HO⟩
          case round =>
            clear HJ HO
            obtain ⟨c, hc, rfl, HJ, HO⟩ := hrel
            have hwl := wordFrom_lt f c (k * 8 + j)
            by_cases hw : wordFrom f c (k * 8 + j) = 0
            · have HE := hid0 (wordFrom_none hw hc)
              rw [hw]
              gi_wp2
              go_roundw
              case rel => exact ⟨j + 1, by omega, by go_num, hid0 (by rw [← Nat.add_assoc, HE.out]; exact HJ.out), HO⟩
              case measure => simp [intOf]; omega
            · obtain ⟨t, ht, hct, ht64, hft, hnx, hpl⟩ := wordFrom_some hw
              have HNx := hid0 hnx
              have HPl := hid0 hpl
              have HFt := hid0 hft
              have HT := hid0 (HJs.out _ _ HJ.out).2
              have HC := hid0 (Any7.bits_TrailingZeros64 Tryd.lays7n29 (wordFrom f c (k * 8 + j)) hwl wr (fun _ => HT.out))
              rw [ht] at HC
              have HW := hid0 hw
              clear hnx hpl hft hw ht
              generalize hx : wordFrom f c (k * 8 + j) = x at *
              have hx0 : ¬ (x : Int) = 0 := by have := HW.out; omega
              have hxI : (x : Int) < 18446744073709551616 := by omega
              have htI : (t : Int) < 64 := by omega
              have hxI0 : (1 : Int) ≤ (x : Int) := by omega
              have HX := hid0 hwl
              have HXe := hid0 hx
              have hmm : (k : Int) < 1000000 := by omega
              have HE : Hid (((64 * (k * 8 + j) + t : Nat) : Int) = (k : Int) * 512 + (j : Int) * 64 + (t : Int)) := hid0 (by omega)
              clear hwl hx hct
              have hx1 : ((x : Int) != 0) = true := by simpa using hx0
              have HX0 := hid0 hx0
              have HX1 := hid0 hxI0
              have HX2 := hid0 hxI
              clear hx0 hxI0 hxI
              gi_wp2_with (refine ⟨trivial, ?_⟩; gi_at_call 90; refine (callsIn_wide.2 HC.out).mono ?_; rintro e w2 ⟨rfl, rfl⟩; obtain ⟨fn, tmps, assign, body, hy, hR⟩ := HY.out _ (64 * (k * 8 + j) + t) _ HJ.out (by omega) HFt.out; rw [HE.out] at hy; have HRd := hid0 hR; clear hR)
              refine HRd.out.mono ?_
              rintro e W3 ⟨rfl, hJ3, hO3⟩
              have HJ3 : Hid (J (plB f (64 * (k * 8 + j) + (t + 1))) W3) := hid0 (by rw [HPl.out]; exact hJ3)
              have HO3 : Hid (Only w0 W3 S) := hid0 (HO.out.trans hO3 (fun i hi => .inl hi))
              have hxI := HX2.out
              have hxI0 := HX1.out
              have hbits : bits .and .u64 (x : Int) ((x : Int) - 1) = (wordFrom f (t + 1) (k * 8 + j) : Int) := by
                rw [show (x : Int) - 1 = ((x - 1 : Nat) : Int) by omega, bits_and_u64_nat x _ HX.out (by have := HX.out; omega), HNx.out]
              have HLt : Hid (wordFrom f (t + 1) (k * 8 + j) < x) := hid0 (by have h1 := HNx.out; have h2 := HW.out; have h3 : x &&& (x - 1) ≤ x - 1 := Nat.and_le_right; omega)
              have HT64 := hid0 ht64
              clear hJ3 hO3 hy HRd HC HJ HO HT ht64
              gi_wp2
              go_roundw
              case rel => exact ⟨t + 1, by have := HT64.out; omega, by rfl, HJ3, HO3⟩
              case measure => have := HLt.out; simp [intOf]; omega
        · have hj8e : j = 8 := by omega
          subst hj8e
          gi_wp2
          go_roundw
          case rel => exact ⟨k + 1, by omega, by go_num, hid0 (by have := HJ.out; rwa [show k * 8 + 8 = (k + 1) * 8 by omega] at this), HO⟩
          case measure => simp [intOf]; omega
    · have hkm : k = m := by omega
      subst hkm
      have hB1 := HKp.out wr HO.out
      gi_wp2
      go_end0
      exact ⟨⟨_, rfl⟩, by have := HJ.out; rwa [show 64 * (k * 8) = 512 * k by omega] at this⟩
end Go.Proofs.YtleeedjpccooaaaDoor
