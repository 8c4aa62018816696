/-
  caesuralaw17.patterns.
-/
import Derived.Test.YthcpalpcakjfnaaMgPdW
namespace Go.Proofs.Ythcpalpcakjfnaa
open Go.RowKit Go.Shelf Go.Lib Go.Maps
theorem undI3 : Try.prog.underlying 3 = some (.int .i64) := by kernel_rfl
theorem undA3 : Try.prog.underlying 54 = some (.array 3 3) := by kernel_rfl
theorem cellsI3 : Try.prog.cellsOf 3 = 1 := by kernel_rfl
theorem eq_i3 (d : Nat) (a b : Int) (w : World) : (Op.equalIn (d + 1) 3 (.int .i64 a) (.int .i64 b)).run Try.prog w = .ok (a == b) w := by
  simp only [Op.equalIn, Sem.run_bind, run_underlying undI3, Result.andThen_ok, if_true, Sem.run_pure]
theorem part_i3 (xs : Array Value) (k : Nat) (a : Int) (h : xs[k]? = some (.int .i64 a)) (w : World) : (part 3 xs k).run Try.prog w = .ok (.int .i64 a) w := by
  obtain ⟨i, hi, hz0, hz1, hz2⟩ := info_parts infoInt
  simp [part, h, go_sem]
theorem items_i3 (d : Nat) (xs ys : Array Value) (f g : Nat → Int) (w : World) : ∀ is : List Nat, (∀ i ∈ is, xs[i]? = some (.int .i64 (f i)) ∧ ys[i]? = some (.int .i64 (g i))) → (Op.eqItems (d + 1) 3 1 xs ys is).run Try.prog w = .ok (is.all (fun i => f i == g i)) w
  | [], _ => by simp [Op.eqItems]
  | i :: is, h => by
    obtain ⟨h1, h2⟩ := h i (by simp)
    have ih := items_i3 d xs ys f g w is (fun j hj => h j (by simp [hj]))
    simp only [Op.eqItems, Sem.run_bind, Nat.mul_one, part_i3 xs i _ h1, part_i3 ys i _ h2, eq_i3, Result.andThen_ok, List.all_cons]
    cases hfg : (f i == g i)
    · simp
    · simpa using ih
theorem eq_val3 (a b c : Int) (w : World) : (Op.equalIn 10000 54 (.agg #[.int .i64 a, .int .i64 b, .int .i64 c]) (.agg #[.int .i64 a, .int .i64 b, .int .i64 c])).run Try.prog w = .ok true w := by
  obtain ⟨i, hi, _⟩ := info_parts infoInt
  rw [show (10000 : Nat) = 9998 + 1 + 1 from rfl, run_equalIn_array w (9998 + 1) _ _ undA3 hi, cellsI3, items_i3 9998 _ _ (fun i => if i = 0 then a else if i = 1 then b else c) (fun i => if i = 0 then a else if i = 1 then b else c) w _ (fun i hi => ?_)]
  · simp
  · have h8 : i < 3 := List.mem_range.1 hi
    have : i = 0 ∨ i = 1 ∨ i = 2 := by omega
    rcases this with rfl | rfl | rfl <;> exact ⟨rfl, rfl⟩
theorem pats_any (n : Nat) (s : Int) (a : Option Addr) (Ls : List Nat) (cc : Nat) (vr v2 v3 v4 v5 : Value) (w : World) (hn : n ≤ 100000000) (hvr : ∃ ar cr, vr = .slice ar n cr) (hL : LenA w a Ls) (hl : Ls.length ≤ 100000000) (hm : ∀ m ∈ Ls, m ≤ 100000000) (hbd : (cutX Ls Ls.length).length ≤ 1999000000000) :
    Calls Try.prog 15 #[.agg #[vr, .int .i64 s, v2, v3, v4, v5], .slice a Ls.length cc] w fun e w' => PatR w (patF n s Ls) e w' := by
  by_cases h1 : s < 0
  · have h := patterns_neg n s a Ls cc vr v2 v3 v4 v5 w hn hvr [] 0 (hid0 rfl) (hid0 rfl) h1
    rw [patF_none n s Ls (.inl h1)]
    simpa [cutX, ruX] using h
  · by_cases h2 : (n : Int) < s
    · have h := patterns_big n s a Ls cc vr v2 v3 v4 v5 w hn hvr [] 0 (hid0 rfl) (hid0 rfl) h2
      rw [patF_none n s Ls (.inr h2)]
      simpa [cutX, ruX] using h
    · obtain ⟨b, rfl⟩ : ∃ b : Nat, s = (b : Int) := ⟨s.toNat, by omega⟩
      rw [patF_some n b Ls (by omega)]
      exact patterns_some n b a Ls cc vr v2 v3 v4 v5 w hn hvr (by omega) hL hl hm hbd
set_option maxRecDepth 10000 in
set_option maxHeartbeats 1600000 in
theorem same_patterns (n : Nat) (s : Int) (a : Option Addr) (Ls : List Nat) (cc : Nat) (ar : Option Addr) (cr : Nat) (nt : Bool) (aN aP : Option Addr) (mN cN mP cP : Nat) (el : Bool) (w : World) (hn : n ≤ 100000000) (hL : LenA w a Ls) (hl : Ls.length ≤ 100000000) (hm : ∀ m ∈ Ls, m ≤ 100000000) (hbd : (cutX Ls Ls.length).length ≤ 1999000000000) :
    Calls Try.prog 6 #[.agg #[.slice ar n cr, .int .i64 s, .bool nt, .slice aN mN cN, .slice aP mP cP, .bool el], .slice a Ls.length cc] w fun e w' => e = .returned (.bool true) ∧ Below w.heap.size w w' := by
  obtain ⟨W, hW⟩ : ∃ W, w.alloc (.cells #[.slice ar n cr, .int .i64 s, .bool nt, .slice aN mN cN, .slice aP mP cP, .bool el] 31) = W := ⟨_, rfl⟩
  obtain ⟨hb, hr, _⟩ := laid1 hW
  have H1 := hid0 (fun (V : World) (hV : Below w.heap.size w V) => refPatterns_any n s a Ls cc (.slice ar n cr) (.bool nt) (.slice aN mN cN) (.slice aP mP cP) (.bool el) V hn ⟨_, _, rfl⟩ (hL.past hV) hl hm hbd)
  have H2 := hid0 (fun (V : World) (hV : Below w.heap.size w V) => pats_any n s a Ls cc (.slice ar n cr) (.bool nt) (.slice aN mN cN) (.slice aP mP cP) (.bool el) V hn ⟨_, _, rfl⟩ (hL.past hV) hl hm hbd)
  have HSk : Hid (∀ V, Below W.heap.size W V → V.cell? ⟨w.heap.size, 0, none⟩ = some (.slice ar n cr) ∧ V.cell? ⟨w.heap.size, 1, none⟩ = some (.int .i64 s) ∧ V.cell? ⟨w.heap.size, 2, none⟩ = some (.bool nt) ∧ V.cell? ⟨w.heap.size, 3, none⟩ = some (.slice aN mN cN) ∧ V.cell? ⟨w.heap.size, 4, none⟩ = some (.slice aP mP cP) ∧ V.cell? ⟨w.heap.size, 5, none⟩ = some (.bool el)) := hid0 (fun V hV => by
    have h' := (hV.block _ (Array.getElem?_eq_some_iff.1 hr).1).trans hr
    exact ⟨by rw [cell_of_row _ _ _ _ _ _ h']; rfl, by rw [cell_of_row _ _ _ _ _ _ h']; rfl, by rw [cell_of_row _ _ _ _ _ _ h']; rfl, by rw [cell_of_row _ _ _ _ _ _ h']; rfl, by rw [cell_of_row _ _ _ _ _ _ h']; rfl, by rw [cell_of_row _ _ _ _ _ _ h']; rfl⟩)
  have hlen : (patF n s Ls).length ≤ 1999100000000 := by have := patF_len n s Ls; omega
  have HB := hid0 hb
  obtain ⟨e0, e1, e2, e3, e4, e5⟩ := HSk.out W (Below.refl _ _)
  generalize patF n s Ls = PL' at *
  have hll : ((PL'.length : Int) != (PL'.length : Int)) = false := by simp
  clear hb hr hL hm hbd
  go_enter Try.func6, Try.ntmps6
  go_wp2_with (first
    | (go_at_call 14; refine (H1.out _ HB.out).mono ?_; rintro e w1 ⟨x1, rfl, ho1, hb1⟩; obtain ⟨a1, c1, hx1, _⟩ := ho1.cells; subst hx1; have HO1 := hid0 ho1; have HB1 := hid0 hb1; obtain ⟨f0, f1, f2, f3, f4, f5⟩ := HSk.out w1 hb1; clear ho1 hb1)
    | (go_at_call 15; refine (H2.out _ (Below.later HB.out HB1.out)).mono ?_; rintro e w2 ⟨x2, rfl, ho2, hb2⟩; obtain ⟨a2, c2, hx2, _⟩ := ho2.cells; subst hx2; have HO2 := hid0 ho2; have HB2 := hid0 hb2; clear ho2 hb2)
    | fail)
  have HP1 := hid0 (HO1.out.past HB2.out)
  have HBe := hid0 (Below.later HB.out (Below.later HB1.out HB2.out))
  clear e0 e1 e2 e3 e4 e5 f0 f1 f2 f3 f4 f5 hW hll H1 H2
  go_loopw [7] (fun i wr => ∃ k : Nat, k ≤ PL'.length ∧ i = .int .i64 (k : Int) ∧ ∃ q, wr = w2.drewN q) (fun i _ => PL'.length - (intOf i).toNat)
  case atStart => exact ⟨0, Nat.zero_le _, rfl, 0, rfl⟩
  case round =>
    obtain ⟨k, hk, rfl, nd, rfl⟩ := hrel
    by_cases hlt : k < PL'.length
    · have hkI : (k : Int) < (PL'.length : Int) := by omega
      have hk0 : (0 : Int) ≤ (k : Int) := by omega
      have hwk : IntKind.i64.wrap ((k : Int) + 1) = (k : Int) + 1 := by simp [IntKind.wrap, IntKind.bits, IntKind.signed]; omega
      obtain ⟨a1', c1', ev1, hc1⟩ := HP1.out.cells
      cases ev1
      obtain ⟨g1, rfl, _, x0, x1, x2⟩ := hc1 k hlt
      obtain ⟨a2', c2', ev2, hc2⟩ := HO2.out.cells
      cases ev2
      obtain ⟨g2, rfl, _, y0, y1, y2⟩ := hc2 k hlt
      have heq := fun V => eq_val3 PL'[k].1 PL'[k].2.1 PL'[k].2.2 V
      generalize PL'[k].1 = z0 at *
      generalize PL'[k].2.1 = z1 at *
      generalize PL'[k].2.2 = z2 at *
      clear hc1 hc2
      go_wp2
      go_quiet ((fail))
      go_wp2
      go_roundw
      case rel => exact ⟨k + 1, by omega, by go_num, _, rfl⟩
      case measure => simp [intOf]; omega
    · have hkI : ¬ (k : Int) < (PL'.length : Int) := by omega
      go_wp2
      go_ret
      exact ⟨rfl, below_drew' HBe.out nd⟩
end Go.Proofs.Ythcpalpcakjfnaa
