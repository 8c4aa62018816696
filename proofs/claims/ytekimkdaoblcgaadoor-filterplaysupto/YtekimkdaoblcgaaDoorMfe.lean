/-
  PrEW, PrBW, PrFW, PrGM, FiDW, FiEW, FiFW, FiGW, FiHW, PrHW.
-/
import Derived.Test.YtekimkdaoblcgaaDoorMfd
import Derived.Test.YtekimkdaoblcgaaDoorMfb
import Derived.Laws.EntriesVeiled
import Derived.Laws.OwnMore
import Derived.BigRegion
import Derived.Deep.RegionHeld3
import Derived.Deep.Cut
namespace Go.Proofs.YtekimkdaoblcgaaDoor
open Go.RowKit Go.Shelf
/-- Nothing but a block, and new ones, is another. -/
structure Exc (w w' : World) (B : Nat) : Prop where
  os : w'.os = w.os
  tape : w'.tape = w.tape
  output : w'.output = w.output
  size : w.heap.size ≤ w'.heap.size
  oth : ∀ k, k < w.heap.size → k ≠ B → w'.heap[k]? = w.heap[k]?
theorem Exc.refl (w : World) (B : Nat) : Exc w w B := ⟨rfl, rfl, rfl, Nat.le_refl _, fun _ _ _ => rfl⟩
theorem Exc.trans {a b c : World} {B : Nat} (h : Exc a b B) (k : Exc b c B) : Exc a c B := ⟨k.os.trans h.os, k.tape.trans h.tape, k.output.trans h.output, Nat.le_trans h.size k.size, fun i hi hd => (k.oth i (Nat.lt_of_lt_of_le hi h.size) hd).trans (h.oth i hi hd)⟩
theorem Exc.of {w w' : World} (h : Below w.heap.size w w') (B : Nat) : Exc w w' B := ⟨h.os, h.tape, h.output, h.size, fun k hk _ => h.block k hk⟩
theorem Exc.grown {w w' : World} {B : Nat} (h : w.grownBy w' (some B)) : Exc w w' B := ⟨h.os, h.tape, h.output, h.size, fun k hk hn => h.block k hk (fun e => hn (Option.some.inj e))⟩
theorem Exc.below {w w' : World} {B lo : Nat} (h : Exc w w' B) (hl : lo ≤ B) (hw : lo ≤ w.heap.size) : Below lo w w' := ⟨h.os, h.tape, h.output, h.size, fun k hk => h.oth k (by omega) (by omega)⟩
theorem Exc.cell {w w' : World} {B b o : Nat} {u : Value} (h : Exc w w' B) (hb : b ≠ B) (hc : w.cell? ⟨b, o, none⟩ = some u) : w'.cell? ⟨b, o, none⟩ = some u := (World.cell?_of_block (w := w) (h.oth b (World.block_lt_of_cell? _ _ hc) hb)).trans hc
/-- What is asked of the lists of what is told. -/
structure Tld (O P : List (List Int)) : Prop where
  o : ∀ j, j < O.length → Rs (O.getD j []) ∧ (O.getD j []).length ≤ 1000000000 ∧ ∀ z ∈ O.getD j [], 0 ≤ z ∧ z < 1000000000
  p : ∀ j, j < P.length → Rs (P.getD j []) ∧ (P.getD j []).length ≤ 1000000000
def fsF (O P : List (List Int)) (x y : Nat) : Int := lstF (O.getD x []) (P.getD y [])
theorem Tld.wf {O P : List (List Int)} (h : Tld O P) {x y : Nat} (hx : x < O.length) : (Lit.int .i64 (fsF O P x y)).wf = true := by
  have hb : -1 ≤ fsF O P x y ∧ fsF O P x y < 1000000000 := by
    by_cases e : fsF O P x y = -1
    · omega
    · have := (h.o x hx).2.2 _ (lstF_mem (b := P.getD y []) e)
      unfold fsF
      omega
  generalize fsF O P x y = z at *
  simp [Lit.wf, IntKind.min, IntKind.max, IntKind.bits, IntKind.signed]; omega
/-- What the closure leaves. -/
def FsR (w : World) (Bm q : Nat) (f : Nat → Nat → Int) (w' : World) : Prop := Kn2 w' Bm (q + 1) f ∧ Exc w w' Bm
set_option maxRecDepth 10000 in
set_option maxHeartbeats 1600000 in
theorem first_any (O P : List (List Int)) (x y Kb Pb Bm q cO cP : Nat) (aO aP : Option Addr) (w : World) (hO : RwC w aO O) (hP : RwC w aP P) (ht : Tld O P) (hx : x < O.length) (hy : y < P.length) (hxb : inN x) (hyb : inN y) (hq : q ≤ 1000000000)
    (k0 : w.cell? ⟨Kb, 0, none⟩ = some (.map (some Bm))) (p2 : w.cell? ⟨Pb, 2, none⟩ = some (.slice aO O.length cO)) (p5 : w.cell? ⟨Pb, 5, none⟩ = some (.slice aP P.length cP)) (hk : Kn2 w Bm q (fsF O P)) :
    Calls Tryd.prog 65 #[.int .i64 (x : Int), .int .i64 (y : Int), .pointer (some ⟨Kb, 0, none⟩), .pointer (some ⟨Pb, 0, none⟩)] w fun e w' => e = .returned (.int .i64 (fsF O P x y)) ∧ FsR w Bm q (fsF O P) w' := by
  obtain ⟨w1, hw1⟩ : ∃ w1, w1 = w.alloc (.cells #[.int .i64 (x : Int), .int .i64 (y : Int)] 110) := ⟨_, rfl⟩
  have hB1 : Below w.heap.size w w1 := by rw [hw1]; exact (Below.refl _ _).alloc (Nat.le_refl _) _
  have hY1 : w1.heap[w.heap.size]? = some (.cells #[.int .i64 (x : Int), .int .i64 (y : Int)] 110 (0, 0)) := by rw [hw1]; exact heap_alloc_new w _
  have y0 : w1.cell? ⟨w.heap.size, 0, none⟩ = some (.int .i64 (x : Int)) := by rw [cell_of_row _ _ _ _ _ _ hY1]; rfl
  have y1 : w1.cell? ⟨w.heap.size, 1, none⟩ = some (.int .i64 (y : Int)) := by rw [cell_of_row _ _ _ _ _ _ hY1]; rfl
  have k1 : w1.cell? ⟨Kb, 0, none⟩ = some (.map (some Bm)) := (hB1.cell (p := ⟨Kb, 0, none⟩) (World.block_lt_of_cell? _ _ k0)).trans k0
  have d1' : w1.cell? ⟨Pb, 2, none⟩ = some (.slice aO O.length cO) := (hB1.cell (p := ⟨Pb, 2, none⟩) (World.block_lt_of_cell? _ _ p2)).trans p2
  have d2' : w1.cell? ⟨Pb, 5, none⟩ = some (.slice aP P.length cP) := (hB1.cell (p := ⟨Pb, 5, none⟩) (World.block_lt_of_cell? _ _ p5)).trans p5
  have hk1 : Kn2 w1 Bm q (fsF O P) := hk.block (hB1.block _ hk.lt)
  have HK1 := hid0 hk1
  have HB1 := hid0 hB1
  have HT := hid0 ht
  obtain ⟨bO, oO, rfl, _, a1, c1, d3, ia1, hc1⟩ := (hO.past hB1).at' x hx
  obtain ⟨bP, oP, rfl, _, a2, c2, d4, ia2, hc2⟩ := (hP.past hB1).at' y hy
  obtain ⟨r1, hr1⟩ : ∃ r1, r1 = O[x] := ⟨_, rfl⟩
  obtain ⟨r2, hr2⟩ : ∃ r2, r2 = P[y] := ⟨_, rfl⟩
  rw [← hr1] at d3 ia1 hc1
  rw [← hr2] at d4 ia2 hc2
  have er1 : O.getD x [] = r1 := by rw [getD_at hx, hr1]
  have er2 : P.getD y [] = r2 := by rw [getD_at hy, hr2]
  have HLb := hid0 (leastOfBoth_any r1 r2 a1 a2 c1 c2 w1.drew (by have := (ht.o x hx).2.1; rw [er1] at this; exact this) (by have := (ht.p y hy).2; rw [er2] at this; exact this) hc1 hc2 (by have := (ht.o x hx).1; rw [er1] at this; exact this) (by have := (ht.p y hy).1; rw [er2] at this; exact this) ⟨ia1.at'⟩ ⟨ia2.at'⟩)
  have HF : Hid (lstF r1 r2 = fsF O P x y) := hid0 (by unfold fsF; rw [er1, er2])
  rw [HF.out] at HLb
  have HWf := hid0 (ht.wf (P := P) (y := y) hx)
  have hxI : (x : Int) < (O.length : Int) := by omega
  have hyI : (y : Int) < (P.length : Int) := by omega
  have hxI0 : (0 : Int) ≤ (x : Int) := by omega
  have hyI0 : (0 : Int) ≤ (y : Int) := by omega
  have hfold := hw1.symm
  have d1 := d1'
  have d2 := d2'
  clear hw1 hB1 hY1 k0 p2 p5 hk hk1 hO hP ht ia1 ia2 hr1 hr2 er1 er2 d1' d2' HF
  generalize hres : fsF O P x y = res at *
  have HRes := hid0 hres
  clear hres
  rcases HK1.out.look hxb hyb with hlk | ⟨z, hlk⟩
  · rw [HRes.out] at hlk
    go_enter Tryd.func65, Tryd.ntmps65
    go_wp2
    go_ret
    exact ⟨rfl, by obtain ⟨n, D, h1, h2, h3⟩ := HK1.out; exact ⟨n, D, h1, by omega, h3⟩, Exc.of HB1.out _⟩
  · go_enter Tryd.func65, Tryd.ntmps65
    go_wp2
    refine wp_region_noPanic ?_
    refine wp_region_held_drew (S := (fun V => V.cell? ⟨Pb, 2, none⟩ = some (.slice (some ⟨bO, oO, none⟩) O.length cO) ∧ V.cell? ⟨Pb, 5, none⟩ = some (.slice (some ⟨bP, oP, none⟩) P.length cP) ∧ V.cell? ⟨bO, oO + x, none⟩ = some (.slice a1 r1.length c1) ∧ V.cell? ⟨bP, oP + y, none⟩ = some (.slice a2 r2.length c2))) (by kernel_rfl) ?_ (fun hHeld => ?_)
    · exact ⟨d1, d2, d3, d4⟩
    refine tkV (i := 0) (d := some 21) (v := ?_) rfl (by kernel_rfl) (by kernel_rfl) (by kernel_rfl) rfl (fun _ _ _ h => h) (by rfl) ?_ (by assumption) ?_
    rotate_left
    · (intro w hSw; (try dsimp only at hSw); (try simp only [List.getElem_toArray, List.getElem_cons_zero]); go_simp; try with_reducible rfl)
    try simp only [Act.put, List.setIfInBounds_toArray, List.set_cons_zero, List.set_cons_succ]
    refine tkV (i := 1) (d := some 22) (v := ?_) rfl (by kernel_rfl) (by kernel_rfl) (by kernel_rfl) rfl (fun _ _ _ h => h) (by rfl) ?_ (by assumption) ?_
    rotate_left
    · (intro w hSw; (try dsimp only at hSw); (try simp only [List.getElem_toArray, List.getElem_cons_zero, List.getElem_cons_succ]); go_simp; try with_reducible rfl)
    try simp only [Act.put, List.setIfInBounds_toArray, List.set_cons_zero, List.set_cons_succ]
    refine tkV (i := 2) (d := some 23) (v := ?_) rfl (by kernel_rfl) (by kernel_rfl) (by kernel_rfl) rfl (fun _ _ _ h => h) (by rfl) ?_ (by assumption) ?_
    rotate_left
    · (intro w hSw; (try dsimp only at hSw); (try simp only [List.getElem_toArray, List.getElem_cons_zero, List.getElem_cons_succ]); go_simp; try with_reducible rfl)
    try simp only [Act.put, List.setIfInBounds_toArray, List.set_cons_zero, List.set_cons_succ]
    refine tkV (i := 3) (d := some 24) (v := ?_) rfl (by kernel_rfl) (by kernel_rfl) (by kernel_rfl) rfl (fun _ _ _ h => h) (by rfl) ?_ (by assumption) ?_
    rotate_left
    · (intro w hSw; (try dsimp only at hSw); (try simp only [List.getElem_toArray, List.getElem_cons_zero, List.getElem_cons_succ]); go_simp; try with_reducible rfl)
    try simp only [Act.put, List.setIfInBounds_toArray, List.set_cons_zero, List.set_cons_succ]
    refine tkV (i := 4) (d := some 25) (v := ?_) rfl (by kernel_rfl) (by kernel_rfl) (by kernel_rfl) rfl (fun _ _ _ h => h) (by rfl) ?_ (by assumption) ?_
    rotate_left
    · (intro w hSw; (try dsimp only at hSw); (try simp only [List.getElem_toArray, List.getElem_cons_zero, List.getElem_cons_succ]); go_simp; try with_reducible rfl)
    try simp only [Act.put, List.setIfInBounds_toArray, List.set_cons_zero, List.set_cons_succ]
    refine tkV (i := 5) (d := some 26) (v := ?_) rfl (by kernel_rfl) (by kernel_rfl) (by kernel_rfl) rfl (fun _ _ _ h => h) (by rfl) ?_ (by assumption) ?_
    rotate_left
    · (intro w hSw; (try dsimp only at hSw); (try simp only [List.getElem_toArray, List.getElem_cons_zero, List.getElem_cons_succ]); go_simp; try with_reducible rfl)
    try simp only [Act.put, List.setIfInBounds_toArray, List.set_cons_zero, List.set_cons_succ]
    refine tkV (i := 6) (d := some 27) (v := ?_) rfl (by kernel_rfl) (by kernel_rfl) (by kernel_rfl) rfl (fun _ _ _ h => h) (by rfl) ?_ (by assumption) ?_
    rotate_left
    · (intro w hSw; (try dsimp only at hSw); (try simp only [List.getElem_toArray, List.getElem_cons_zero, List.getElem_cons_succ]); go_simp; try with_reducible rfl)
    try simp only [Act.put, List.setIfInBounds_toArray, List.set_cons_zero, List.set_cons_succ]
    refine tkV (i := 7) (d := some 28) (v := ?_) rfl (by kernel_rfl) (by kernel_rfl) (by kernel_rfl) rfl (fun _ _ _ h => h) (by rfl) ?_ (by assumption) ?_
    rotate_left
    · (intro w hSw; (try dsimp only at hSw); (try simp only [List.getElem_toArray, List.getElem_cons_zero, List.getElem_cons_succ]); go_simp; try with_reducible rfl)
    try simp only [Act.put, List.setIfInBounds_toArray, List.set_cons_zero, List.set_cons_succ]
    refine tkV (i := 8) (d := some 29) (v := ?_) rfl (by kernel_rfl) (by kernel_rfl) (by kernel_rfl) rfl (fun _ _ _ h => h) (by rfl) ?_ (by assumption) ?_
    rotate_left
    · (intro w hSw; (try dsimp only at hSw); (try simp only [List.getElem_toArray, List.getElem_cons_zero, List.getElem_cons_succ]); go_simp; try with_reducible rfl)
    try simp only [Act.put, List.setIfInBounds_toArray, List.set_cons_zero, List.set_cons_succ]
    refine tkV (i := 9) (d := some 30) (v := ?_) rfl (by kernel_rfl) (by kernel_rfl) (by kernel_rfl) rfl (fun _ _ _ h => h) (by rfl) ?_ (by assumption) ?_
    rotate_left
    · (intro w hSw; (try dsimp only at hSw); (try simp only [List.getElem_toArray, List.getElem_cons_zero, List.getElem_cons_succ]); go_simp; try with_reducible rfl)
    try simp only [Act.put, List.setIfInBounds_toArray, List.set_cons_zero, List.set_cons_succ]
    refine tkV (i := 10) (d := some 31) (v := ?_) rfl (by kernel_rfl) (by kernel_rfl) (by kernel_rfl) rfl (fun _ _ _ h => h) (by rfl) ?_ (by assumption) ?_
    rotate_left
    · (intro w hSw; (try dsimp only at hSw); (try simp only [List.getElem_toArray, List.getElem_cons_zero, List.getElem_cons_succ]); go_simp; try with_reducible rfl)
    try simp only [Act.put, List.setIfInBounds_toArray, List.set_cons_zero, List.set_cons_succ]
    refine tkV (i := 11) (d := some 32) (v := ?_) rfl (by kernel_rfl) (by kernel_rfl) (by kernel_rfl) rfl (fun _ _ _ h => h) (by rfl) ?_ (by assumption) ?_
    rotate_left
    · (intro w hSw; (try dsimp only at hSw); (try simp only [List.getElem_toArray, List.getElem_cons_zero, List.getElem_cons_succ]); go_simp; try with_reducible rfl)
    try simp only [Act.put, List.setIfInBounds_toArray, List.set_cons_zero, List.set_cons_succ]
    refine wpAnyH_ready (rs := [12]) (by kernel_rfl) (by simp) (AllReadyH.cons rfl (fun K hK => ?_) AllReadyH.nil)
    try simp only [List.getElem_toArray, List.getElem_cons_zero, List.getElem_cons_succ]
    go_simp
    refine HLb.out.mono ?_
    rintro e w2 ⟨rfl, nq, hw2⟩
    have HS2 : Hid ((fun V => V.cell? ⟨Pb, 2, none⟩ = some (.slice (some ⟨bO, oO, none⟩) O.length cO) ∧ V.cell? ⟨Pb, 5, none⟩ = some (.slice (some ⟨bP, oP, none⟩) P.length cP) ∧ V.cell? ⟨bO, oO + x, none⟩ = some (.slice a1 r1.length c1) ∧ V.cell? ⟨bP, oP + y, none⟩ = some (.slice a2 r2.length c2)) w2) := hid0 (by rw [hw2]; exact ⟨d1, d2, d3, d4⟩)
    have HW2 := hid0 hw2
    clear hw2
    go_wp2_with fail
    refine hK.out _ _ ?_ (fun hHeld12 => ?_)
    · exact HS2.out
    clear hK K
    (try simp only [Act.put]); (try simp only [List.setIfInBounds_toArray]); (try simp only [List.set_cons_succ]); (try simp only [List.set_cons_zero])
    refine tkV (i := 13) (d := some 8) (v := ?_) rfl (by kernel_rfl) (by kernel_rfl) (by kernel_rfl) rfl (fun _ _ _ h => h) (by rfl) ?_ (by assumption) ?_
    rotate_left
    · (intro w hSw; (try dsimp only at hSw); (try simp only [List.getElem_toArray, List.getElem_cons_zero, List.getElem_cons_succ]); go_simp; try with_reducible rfl)
    try simp only [Act.put, List.setIfInBounds_toArray, List.set_cons_zero, List.set_cons_succ]
    refine wpAnyH_done (by kernel_rfl) ?_ _
    refine NoPanic.normal ?_
    have hk2 : Kn2 w2 Bm q (fsF O P) := by rw [HW2.out]; exact HK1.out.block rfl
    obtain ⟨w3, hrun, hk3, hg3⟩ := hk2.put (x := x) (y := y) hxb hyb hq (by rw [HRes.out]; exact HWf.out)
    rw [HRes.out] at hrun
    have HK3 := hid0 hk3
    have HE3 : Hid (Exc w w3 Bm) := hid0 ((Exc.of (HB1.out.trans (by rw [HW2.out]; exact ⟨rfl, rfl, rfl, Nat.le_refl _, fun _ _ => rfl⟩)) _).trans (Exc.grown hg3))
    have y0' : w2.cell? ⟨w.heap.size, 0, none⟩ = some (.int .i64 (x : Int)) := by rw [HW2.out]; exact y0
    have y1' : w2.cell? ⟨w.heap.size, 1, none⟩ = some (.int .i64 (y : Int)) := by rw [HW2.out]; exact y1
    have k2' : w2.cell? ⟨Kb, 0, none⟩ = some (.map (some Bm)) := by rw [HW2.out]; exact k1
    clear hk2 hk3 hg3 hHeld hHeld12 hfold
    go_wp2
    go_ret
    exact ⟨rfl, HK3.out, HE3.out⟩
end Go.Proofs.YtekimkdaoblcgaaDoor
namespace Go.Proofs.YtekimkdaoblcgaaDoor
open Go.RowKit Go.Shelf
set_option maxRecDepth 10000 in
set_option maxHeartbeats 1600000 in
theorem symbolsOf_any (sl sr : Int) (N O M P : List (List Int)) (B : List Bool) (el : Bool) (aN aO aM aP aB : Option Addr) (cN cO cM cP cB : Nat) (w : World) (hs : PrS ⟨sl, N, O, sr, M, P, B, el⟩) (ha : PrA w ⟨sl, N, O, sr, M, P, B, el⟩ ⟨aN, aO, aM, aP, aB, cN, cO, cM, cP, cB⟩) :
    Calls Tryd.prog 44 #[.agg #[.int .i64 sl, .slice aN N.length cN, .slice aO O.length cO, .int .i64 sr, .slice aM M.length cM, .slice aP P.length cP, .slice aB B.length cB, .bool el]] w fun e w' => e = .returned (.int .i64 (symF N : Int)) ∧ Below w.heap.size w w' := by
  obtain ⟨w0, hw0, hB0, hz0, hC0⟩ := box_pr w ⟨sl, N, O, sr, M, P, B, el⟩ ⟨aN, aO, aM, aP, aB, cN, cO, cM, cP, cB⟩
  have HC : Hid (∀ V : World, Below w0.heap.size w0 V → (V.cell? ⟨w.heap.size, 0, none⟩ = some (.int .i64 sl) ∧ V.cell? ⟨w.heap.size, 1, none⟩ = some (.slice aN N.length cN) ∧ V.cell? ⟨w.heap.size, 2, none⟩ = some (.slice aO O.length cO) ∧ V.cell? ⟨w.heap.size, 3, none⟩ = some (.int .i64 sr)) ∧ V.cell? ⟨w.heap.size, 4, none⟩ = some (.slice aM M.length cM) ∧ V.cell? ⟨w.heap.size, 5, none⟩ = some (.slice aP P.length cP) ∧ V.cell? ⟨w.heap.size, 6, none⟩ = some (.slice aB B.length cB) ∧ V.cell? ⟨w.heap.size, 7, none⟩ = some (.bool el)) := hid0 hC0
  replace hw0 : w.alloc (.cells #[.int .i64 sl, .slice aN N.length cN, .slice aO O.length cO, .int .i64 sr, .slice aM M.length cM, .slice aP P.length cP, .slice aB B.length cB, .bool el] 27) = w0 := hw0
  obtain ⟨⟨x0, x1, x2, x3⟩, x4, x5, x6, x7⟩ := HC.out w0 (Below.refl _ _)
  have HB0 := hid0 hB0
  have hrn : RwC w0 aN N := ha.n.past hB0
  have HRn := hid0 hrn
  clear hB0 hz0 hrn hC0
  by_cases h0 : N.length = 0
  · have HV : Hid (symF N = 0) := hid0 (by unfold symF; rw [List.eq_nil_of_length_eq_zero h0]; rfl)
    have h0I : ((N.length : Int) == 0) = true := by rw [beq_iff_eq]; omega
    have h0J : (N.length : Int) = 0 := by omega
    clear h0
    go_enter Tryd.func44, Tryd.ntmps44
    go_wp2
    go_ret
    exact ⟨by rw [HV.out]; rfl, HB0.out⟩
  · obtain ⟨b, off, rfl, _, a1, c1, d1, _, _⟩ := HRn.out.at' 0 (by omega)
    have HV : Hid (symF N = N[0].length) := hid0 (by unfold symF; rw [getD_at (by omega)])
    rw [Nat.add_zero] at d1
    have h0I : ((N.length : Int) == 0) = false := by simp; intro e; subst e; exact h0 rfl
    have h0J : ¬ (N.length : Int) = 0 := by omega
    have h0K : (0 : Int) < (N.length : Int) := by omega
    have h0L : 0 < N.length := by omega
    have h0M : ¬ N = [] := fun e => h0 (by rw [e]; rfl)
    generalize N[0] = r at *
    clear h0
    go_enter Tryd.func44, Tryd.ntmps44
    go_wp2
    go_ret
    exact ⟨by rw [HV.out]; rfl, HB0.out⟩
set_option maxRecDepth 10000 in
set_option maxHeartbeats 1600000 in
theorem refSymbols_any (sl sr : Int) (N O M P : List (List Int)) (B : List Bool) (el : Bool) (aN aO aM aP aB : Option Addr) (cN cO cM cP cB : Nat) (w : World) (hs : PrS ⟨sl, N, O, sr, M, P, B, el⟩) (ha : PrA w ⟨sl, N, O, sr, M, P, B, el⟩ ⟨aN, aO, aM, aP, aB, cN, cO, cM, cP, cB⟩) :
    Calls Tryd.prog 80 #[.agg #[.int .i64 sl, .slice aN N.length cN, .slice aO O.length cO, .int .i64 sr, .slice aM M.length cM, .slice aP P.length cP, .slice aB B.length cB, .bool el]] w fun e w' => e = .returned (.int .i64 (symF N : Int)) ∧ Below w.heap.size w w' := by
  obtain ⟨w0, hw0, hB0, hz0, hC0⟩ := box_pr w ⟨sl, N, O, sr, M, P, B, el⟩ ⟨aN, aO, aM, aP, aB, cN, cO, cM, cP, cB⟩
  have HC : Hid (∀ V : World, Below w0.heap.size w0 V → (V.cell? ⟨w.heap.size, 0, none⟩ = some (.int .i64 sl) ∧ V.cell? ⟨w.heap.size, 1, none⟩ = some (.slice aN N.length cN) ∧ V.cell? ⟨w.heap.size, 2, none⟩ = some (.slice aO O.length cO) ∧ V.cell? ⟨w.heap.size, 3, none⟩ = some (.int .i64 sr)) ∧ V.cell? ⟨w.heap.size, 4, none⟩ = some (.slice aM M.length cM) ∧ V.cell? ⟨w.heap.size, 5, none⟩ = some (.slice aP P.length cP) ∧ V.cell? ⟨w.heap.size, 6, none⟩ = some (.slice aB B.length cB) ∧ V.cell? ⟨w.heap.size, 7, none⟩ = some (.bool el)) := hid0 hC0
  replace hw0 : w.alloc (.cells #[.int .i64 sl, .slice aN N.length cN, .slice aO O.length cO, .int .i64 sr, .slice aM M.length cM, .slice aP P.length cP, .slice aB B.length cB, .bool el] 27) = w0 := hw0
  obtain ⟨⟨x0, x1, x2, x3⟩, x4, x5, x6, x7⟩ := HC.out w0 (Below.refl _ _)
  have HB0 := hid0 hB0
  have hrn : RwC w0 aN N := ha.n.past hB0
  have HRn := hid0 hrn
  clear hB0 hz0 hrn hC0
  by_cases h0 : N.length = 0
  · have HV : Hid (symF N = 0) := hid0 (by unfold symF; rw [List.eq_nil_of_length_eq_zero h0]; rfl)
    have h0I : ((N.length : Int) == 0) = true := by rw [beq_iff_eq]; omega
    have h0J : (N.length : Int) = 0 := by omega
    clear h0
    go_enter Tryd.func80, Tryd.ntmps80
    go_wp2
    go_ret
    exact ⟨by rw [HV.out]; rfl, HB0.out⟩
  · obtain ⟨b, off, rfl, _, a1, c1, d1, _, _⟩ := HRn.out.at' 0 (by omega)
    have HV : Hid (symF N = N[0].length) := hid0 (by unfold symF; rw [getD_at (by omega)])
    rw [Nat.add_zero] at d1
    have h0I : ((N.length : Int) == 0) = false := by simp; intro e; subst e; exact h0 rfl
    have h0J : ¬ (N.length : Int) = 0 := by omega
    have h0K : (0 : Int) < (N.length : Int) := by omega
    have h0L : 0 < N.length := by omega
    have h0M : ¬ N = [] := fun e => h0 (by rw [e]; rfl)
    generalize N[0] = r at *
    clear h0
    go_enter Tryd.func80, Tryd.ntmps80
    go_wp2
    go_ret
    exact ⟨by rw [HV.out]; rfl, HB0.out⟩
theorem errC_true (A : Nat → Addr) : errC A true = .nilIface := rfl
theorem errC_false (A : Nat → Addr) : errC A false = .iface 129 (.pointer (some (A 0))) := rfl
set_option maxRecDepth 10000 in
set_option maxHeartbeats 1600000 in
theorem pairCheck_any (A : Nat → Addr) (sl sr : Int) (N O M P : List (List Int)) (B : List Bool) (el : Bool) (aN aO aM aP aB : Option Addr) (cN cO cM cP cB : Nat) (sy : Int) (w : World) (hs : PrS ⟨sl, N, O, sr, M, P, B, el⟩) (ha : PrA w ⟨sl, N, O, sr, M, P, B, el⟩ ⟨aN, aO, aM, aP, aB, cN, cO, cM, cP, cB⟩) (he : Sents w A) :
    Calls Tryd.prog 22 #[.agg #[.int .i64 sl, .slice aN N.length cN, .slice aO O.length cO, .int .i64 sr, .slice aM M.length cM, .slice aP P.length cP, .slice aB B.length cB, .bool el], .int .i64 sy] w fun e w' => e = .returned (errC A (chkP sl N O sr M P B.length sy)) ∧ Below w.heap.size w w' := by
  obtain ⟨w0, hw0, hB0, hz0, hC0⟩ := box_pr w ⟨sl, N, O, sr, M, P, B, el⟩ ⟨aN, aO, aM, aP, aB, cN, cO, cM, cP, cB⟩
  have HC : Hid (∀ V : World, Below w0.heap.size w0 V → (V.cell? ⟨w.heap.size, 0, none⟩ = some (.int .i64 sl) ∧ V.cell? ⟨w.heap.size, 1, none⟩ = some (.slice aN N.length cN) ∧ V.cell? ⟨w.heap.size, 2, none⟩ = some (.slice aO O.length cO) ∧ V.cell? ⟨w.heap.size, 3, none⟩ = some (.int .i64 sr)) ∧ V.cell? ⟨w.heap.size, 4, none⟩ = some (.slice aM M.length cM) ∧ V.cell? ⟨w.heap.size, 5, none⟩ = some (.slice aP P.length cP) ∧ V.cell? ⟨w.heap.size, 6, none⟩ = some (.slice aB B.length cB) ∧ V.cell? ⟨w.heap.size, 7, none⟩ = some (.bool el)) := hid0 hC0
  replace hw0 : w.alloc (.cells #[.int .i64 sl, .slice aN N.length cN, .slice aO O.length cO, .int .i64 sr, .slice aM M.length cM, .slice aP P.length cP, .slice aB B.length cB, .bool el] 27) = w0 := hw0
  obtain ⟨⟨x0, x1, x2, x3⟩, x4, x5, x6, x7⟩ := HC.out w0 (Below.refl _ _)
  have HB0 := hid0 hB0
  have hb1 : B.length ≤ 1000000000 := hs.b
  have HK1 := hid0 (check_any A sl sy (B.length : Int) N O aN aO cN cO w0 (by have : N.length ≤ 1000000000 := hs.n; omega) (fun r hr => by have := hs.nr r hr; omega) (fun r hr => by have := hs.or r hr; omega) (by omega) (ha.n.past hB0).rwa (ha.o.past hB0).rwa (he.below hB0))
  have HK2 : Hid (∀ V : World, Below w0.heap.size w0 V → Calls Tryd.prog 37 #[.agg #[.int .i64 sr, .slice aM M.length cM, .slice aP P.length cP], .int .i64 sy, .int .i64 (B.length : Int)] V fun e w' => e = .returned (errC A (chkF sr M P sy (B.length : Int))) ∧ Below V.heap.size V w') := hid0 (fun V hV => check_any A sr sy (B.length : Int) M P aM aP cM cP V (by have : M.length ≤ 1000000000 := hs.m; omega) (fun r hr => by have := hs.mr r hr; omega) (fun r hr => by have := hs.pr r hr; omega) (by omega) ((ha.m.past hB0).past hV).rwa ((ha.p'.past hB0).past hV).rwa ((he.below hB0).below hV))
  have HZ0 := hid0 hz0
  clear hB0 hz0 hC0 ha hs he
  cases hq : chkF sl N O sy (B.length : Int) with
  | false =>
    have HV : Hid (chkP sl N O sr M P B.length sy = false) := hid0 (by unfold chkP; rw [hq]; rfl)
    rw [hq, errC_false] at HK1
    clear hq
    go_enter Tryd.func22, Tryd.ntmps22
    go_wp2_with (go_at_call 37; refine HK1.out.mono ?_; rintro e w1 ⟨rfl, hb⟩; have HB1 := hid0 hb; clear hb)
    go_ret
    exact ⟨by rw [HV.out]; rfl, HB0.out.trans (HB1.out.mono HB0.out.size)⟩
  | true =>
    have HV : Hid (chkP sl N O sr M P B.length sy = chkF sr M P sy (B.length : Int)) := hid0 (by unfold chkP; rw [hq]; rfl)
    rw [hq, errC_true] at HK1
    clear hq
    obtain ⟨ev, hev⟩ : ∃ ev, ev = errC A (chkF sr M P sy (B.length : Int)) := ⟨_, rfl⟩
    have HEv := hid0 hev
    rw [← hev] at HK2
    clear hev
    go_enter Tryd.func22, Tryd.ntmps22
    go_wp2_with (first
      | (go_at_call 37; have hq := HB1.out; refine (HK2.out _ hq).mono ?_; rintro e w2 ⟨rfl, hb⟩; have HB2 := hid0 (hq.trans (hb.mono hq.size)); clear hb hq)
      | (go_at_call 37; refine HK1.out.mono ?_; rintro e w1 ⟨rfl, hb⟩; have HB1 := hid0 hb; obtain ⟨⟨y0, y1, y2, y3⟩, y4, y5, y6, y7⟩ := HC.out w1 hb; clear hb HK1))
    go_ret
    exact ⟨by rw [HV.out, ← HEv.out]; rfl, HB0.out.trans (HB2.out.mono HB0.out.size)⟩
set_option maxRecDepth 10000 in
set_option maxHeartbeats 1600000 in
theorem refPairCheck_any (sl sr : Int) (N O M P : List (List Int)) (B : List Bool) (el : Bool) (aN aO aM aP aB : Option Addr) (cN cO cM cP cB : Nat) (sy : Int) (w : World) (hs : PrS ⟨sl, N, O, sr, M, P, B, el⟩) (ha : PrA w ⟨sl, N, O, sr, M, P, B, el⟩ ⟨aN, aO, aM, aP, aB, cN, cO, cM, cP, cB⟩) :
    Calls Tryd.prog 32 #[.agg #[.int .i64 sl, .slice aN N.length cN, .slice aO O.length cO, .int .i64 sr, .slice aM M.length cM, .slice aP P.length cP, .slice aB B.length cB, .bool el], .int .i64 sy] w fun e w' => e = .returned (.int .i64 (numC (chkP sl N O sr M P B.length sy))) ∧ Below w.heap.size w w' := by
  obtain ⟨w0, hw0, hB0, hz0, hC0⟩ := box_pr w ⟨sl, N, O, sr, M, P, B, el⟩ ⟨aN, aO, aM, aP, aB, cN, cO, cM, cP, cB⟩
  have HC : Hid (∀ V : World, Below w0.heap.size w0 V → (V.cell? ⟨w.heap.size, 0, none⟩ = some (.int .i64 sl) ∧ V.cell? ⟨w.heap.size, 1, none⟩ = some (.slice aN N.length cN) ∧ V.cell? ⟨w.heap.size, 2, none⟩ = some (.slice aO O.length cO) ∧ V.cell? ⟨w.heap.size, 3, none⟩ = some (.int .i64 sr)) ∧ V.cell? ⟨w.heap.size, 4, none⟩ = some (.slice aM M.length cM) ∧ V.cell? ⟨w.heap.size, 5, none⟩ = some (.slice aP P.length cP) ∧ V.cell? ⟨w.heap.size, 6, none⟩ = some (.slice aB B.length cB) ∧ V.cell? ⟨w.heap.size, 7, none⟩ = some (.bool el)) := hid0 hC0
  replace hw0 : w.alloc (.cells #[.int .i64 sl, .slice aN N.length cN, .slice aO O.length cO, .int .i64 sr, .slice aM M.length cM, .slice aP P.length cP, .slice aB B.length cB, .bool el] 27) = w0 := hw0
  obtain ⟨⟨x0, x1, x2, x3⟩, x4, x5, x6, x7⟩ := HC.out w0 (Below.refl _ _)
  have HB0 := hid0 hB0
  have hb1 : B.length ≤ 1000000000 := hs.b
  have HK1 := hid0 (refCheck_any sl sy (B.length : Int) N O aN aO cN cO w0 (by have : N.length ≤ 1000000000 := hs.n; omega) (fun r hr => by have := hs.nr r hr; omega) (fun r hr => by have := hs.or r hr; omega) (ha.n.past hB0).rwa (ha.o.past hB0).rwa)
  have HK2 : Hid (∀ V : World, Below w0.heap.size w0 V → Calls Tryd.prog 50 #[.agg #[.int .i64 sr, .slice aM M.length cM, .slice aP P.length cP], .int .i64 sy, .int .i64 (B.length : Int)] V fun e w' => e = .returned (.int .i64 (numC (chkF sr M P sy (B.length : Int)))) ∧ Below V.heap.size V w') := hid0 (fun V hV => refCheck_any sr sy (B.length : Int) M P aM aP cM cP V (by have : M.length ≤ 1000000000 := hs.m; omega) (fun r hr => by have := hs.mr r hr; omega) (fun r hr => by have := hs.pr r hr; omega) ((ha.m.past hB0).past hV).rwa ((ha.p'.past hB0).past hV).rwa)
  clear hB0 hz0 hC0 ha hs
  cases hq : chkF sl N O sy (B.length : Int) with
  | false =>
    have HV : Hid (chkP sl N O sr M P B.length sy = false) := hid0 (by unfold chkP; rw [hq]; rfl)
    rw [hq] at HK1
    have e1 : numC false = 1 := rfl
    rw [e1] at HK1
    clear hq e1
    go_enter Tryd.func32, Tryd.ntmps32
    go_wp2_with (go_at_call 50; refine HK1.out.mono ?_; rintro e w1 ⟨rfl, hb⟩; have HB1 := hid0 hb; clear hb)
    go_ret
    exact ⟨by rw [HV.out]; rfl, HB0.out.trans (HB1.out.mono HB0.out.size)⟩
  | true =>
    have HV : Hid (chkP sl N O sr M P B.length sy = chkF sr M P sy (B.length : Int)) := hid0 (by unfold chkP; rw [hq]; rfl)
    rw [hq] at HK1
    have e1 : numC true = 0 := rfl
    rw [e1] at HK1
    clear hq e1
    obtain ⟨ev, hev⟩ : ∃ ev, ev = numC (chkF sr M P sy (B.length : Int)) := ⟨_, rfl⟩
    have HEv := hid0 hev
    rw [← hev] at HK2
    clear hev
    go_enter Tryd.func32, Tryd.ntmps32
    go_wp2_with (first
      | (go_at_call 50; have hq := HB1.out; refine (HK2.out _ hq).mono ?_; rintro e w2 ⟨rfl, hb⟩; have HB2 := hid0 (hq.trans (hb.mono hq.size)); clear hb hq)
      | (go_at_call 50; refine HK1.out.mono ?_; rintro e w1 ⟨rfl, hb⟩; have HB1 := hid0 hb; obtain ⟨⟨y0, y1, y2, y3⟩, y4, y5, y6, y7⟩ := HC.out w1 hb; clear hb HK1))
    go_ret
    exact ⟨by rw [HV.out, ← HEv.out]; rfl, HB0.out.trans (HB2.out.mono HB0.out.size)⟩
set_option maxRecDepth 10000 in
set_option maxHeartbeats 1600000 in
theorem allBelow_any (n : Nat) (L : List Int) (a : Option Addr) (c : Nat) (w : World) (hl : L.length ≤ 1000000000) (ha : IA w a L) : Calls Tryd.prog 45 #[.slice a L.length c, .int .i64 (n : Int)] w fun e w' => e = .returned (.bool (L.all (oneOf n))) ∧ w' = w := by
  have HA := hid0 ha
  clear ha
  go_enter Tryd.func45, Tryd.ntmps45
  go_wp2
  go_loopw [9] (fun i wr => ∃ k : Nat, k ≤ L.length ∧ i = .int .i64 (k : Int) ∧ wr = w ∧ Hid ((L.drop k).all (oneOf n) = L.all (oneOf n))) (fun i _ => L.length - (intOf i).toNat)
  case atStart => exact ⟨0, Nat.zero_le _, rfl, rfl, hid0 rfl⟩
  case round =>
    obtain ⟨k, hk, rfl, rfl, HD⟩ := hrel
    by_cases hlt : k < L.length
    · obtain ⟨b, off, rfl, _, d1⟩ := HA.out.at' k hlt
      have hkI : (k : Int) < (L.length : Int) := by omega
      have hkI0 : (0 : Int) ≤ (k : Int) := by omega
      have HS := hid0 (all_drop (n := n) hlt)
      generalize L[k] = s at *
      by_cases h1 : s < 0
      · have HV : Hid (L.all (oneOf n) = false) := hid0 (by rw [← HD.out, HS.out, (oneOf_not _ _).2 (fun q => by omega)]; rfl)
        clear HS HD
        go_wp2
        go_ret
        exact ⟨by rw [HV.out]; rfl, rfl⟩
      · by_cases h2 : s ≥ (n : Int)
        · have HV : Hid (L.all (oneOf n) = false) := hid0 (by rw [← HD.out, HS.out, (oneOf_not _ _).2 (fun q => by omega)]; rfl)
          clear HS HD
          go_wp2
          go_ret
          exact ⟨by rw [HV.out]; rfl, rfl⟩
        · have HD2 : Hid ((L.drop (k + 1)).all (oneOf n) = L.all (oneOf n)) := hid0 (by rw [← HD.out, HS.out, (oneOf_iff _ _).2 ⟨by omega, by omega⟩, Bool.true_and])
          clear HS HD
          go_wp2
          go_roundw
          case rel => exact ⟨k + 1, by omega, by go_num, trivial, HD2⟩
          case measure => simp [intOf]; omega
    · have hkI : ¬ (k : Int) < (L.length : Int) := by omega
      have HV : Hid (L.all (oneOf n) = true) := hid0 (by rw [← HD.out]; exact all_end (by omega))
      clear HD
      go_wp2
      go_ret
      exact ⟨by rw [HV.out]; rfl, rfl⟩
set_option maxRecDepth 10000 in
set_option maxHeartbeats 1600000 in
theorem saysBreak_any (sl sr : Int) (N O M P : List (List Int)) (B : List Bool) (el : Bool) (aN aO aM aP aB : Option Addr) (cN cO cM cP cB : Nat) (d : Int) (w : World) (hd : d < (B.length : Int)) (_hs : PrS ⟨sl, N, O, sr, M, P, B, el⟩) (ha : PrA w ⟨sl, N, O, sr, M, P, B, el⟩ ⟨aN, aO, aM, aP, aB, cN, cO, cM, cP, cB⟩) :
    Calls Tryd.prog 29 #[.agg #[.int .i64 sl, .slice aN N.length cN, .slice aO O.length cO, .int .i64 sr, .slice aM M.length cM, .slice aP P.length cP, .slice aB B.length cB, .bool el], .int .i64 d] w fun e w' => e = .returned (.bool (sayF B el d)) ∧ Below w.heap.size w w' := by
  obtain ⟨w0, hw0, hB0, hz0, hC0⟩ := box_pr w ⟨sl, N, O, sr, M, P, B, el⟩ ⟨aN, aO, aM, aP, aB, cN, cO, cM, cP, cB⟩
  have HC : Hid (∀ V : World, Below w0.heap.size w0 V → (V.cell? ⟨w.heap.size, 0, none⟩ = some (.int .i64 sl) ∧ V.cell? ⟨w.heap.size, 1, none⟩ = some (.slice aN N.length cN) ∧ V.cell? ⟨w.heap.size, 2, none⟩ = some (.slice aO O.length cO) ∧ V.cell? ⟨w.heap.size, 3, none⟩ = some (.int .i64 sr)) ∧ V.cell? ⟨w.heap.size, 4, none⟩ = some (.slice aM M.length cM) ∧ V.cell? ⟨w.heap.size, 5, none⟩ = some (.slice aP P.length cP) ∧ V.cell? ⟨w.heap.size, 6, none⟩ = some (.slice aB B.length cB) ∧ V.cell? ⟨w.heap.size, 7, none⟩ = some (.bool el)) := hid0 hC0
  replace hw0 : w.alloc (.cells #[.int .i64 sl, .slice aN N.length cN, .slice aO O.length cO, .int .i64 sr, .slice aM M.length cM, .slice aP P.length cP, .slice aB B.length cB, .bool el] 27) = w0 := hw0
  obtain ⟨⟨x0, x1, x2, x3⟩, x4, x5, x6, x7⟩ := HC.out w0 (Below.refl _ _)
  have HB0 := hid0 hB0
  have hb : BoA w0 aB B := ha.b.past hB0
  have HBo := hid0 hb
  clear hB0 hz0 hC0 hb ha _hs
  by_cases h0 : d < 0
  · have HV : Hid (sayF B el d = el) := hid0 (by unfold sayF; rw [if_pos h0])
    have h1 : ¬ d ≥ 0 := by omega
    go_enter Tryd.func29, Tryd.ntmps29
    go_wp2
    go_ret
    exact ⟨by rw [HV.out]; rfl, HB0.out⟩
  · obtain ⟨k, rfl⟩ : ∃ k : Nat, d = (k : Int) := ⟨d.toNat, by omega⟩
    obtain ⟨b, off, rfl, _, d1⟩ := HBo.out.at' k (by omega)
    have HV : Hid (sayF B el (k : Int) = B[k]'(by omega)) := hid0 (by unfold sayF; rw [if_neg h0, Int.toNat_natCast, List.getD_eq_getElem?_getD, List.getElem?_eq_getElem (by omega)]; rfl)
    have hkI0 : (0 : Int) ≤ (k : Int) := by omega
    have h1 : (k : Int) ≥ 0 := by omega
    have hkn : k < B.length := by omega
    generalize B[k]'(by omega) = bv at *
    cases bv with
    | true =>
      go_enter Tryd.func29, Tryd.ntmps29
      go_wp2
      go_ret
      exact ⟨by rw [HV.out]; rfl, HB0.out⟩
    | false =>
      go_enter Tryd.func29, Tryd.ntmps29
      go_wp2
      go_ret
      exact ⟨by rw [HV.out]; rfl, HB0.out⟩
end Go.Proofs.YtekimkdaoblcgaaDoor
namespace Go.Proofs.YtekimkdaoblcgaaDoor
open Go.RowKit Go.Shelf
/-- A closure that looks what it knows. -/
structure Clo (w : World) (lo Kb Pb Bm q cO cP : Nat) (O P : List (List Int)) (aO aP : Option Addr) : Prop where
  k0 : w.cell? ⟨Kb, 0, none⟩ = some (.map (some Bm))
  p2 : w.cell? ⟨Pb, 2, none⟩ = some (.slice aO O.length cO)
  p5 : w.cell? ⟨Pb, 5, none⟩ = some (.slice aP P.length cP)
  kn : Kn2 w Bm q (fsF O P)
  ne : Kb ≠ Bm ∧ Pb ≠ Bm
  lo : lo ≤ Kb ∧ lo ≤ Pb ∧ lo ≤ Bm
set_option maxRecDepth 10000 in
set_option maxHeartbeats 1600000 in
theorem firstOf_any (sl sr : Int) (N O M P : List (List Int)) (B : List Bool) (el : Bool) (aN aO aM aP aB : Option Addr) (cN cO cM cP cB : Nat) (w : World) :
    Calls Tryd.prog 47 #[.agg #[.int .i64 sl, .slice aN N.length cN, .slice aO O.length cO, .int .i64 sr, .slice aM M.length cM, .slice aP P.length cP, .slice aB B.length cB, .bool el]] w fun e w' => ∃ Kb Pb, e = .returned (.func (.func 65) #[] #[.pointer (some ⟨Kb, 0, none⟩), .pointer (some ⟨Pb, 0, none⟩)]) ∧ (∃ Bm, Clo w' w.heap.size Kb Pb Bm 0 cO cP O P aO aP) ∧ Below w.heap.size w w' := by
  obtain ⟨w0, hw0, hB0, hz0, hC0⟩ := box_pr w ⟨sl, N, O, sr, M, P, B, el⟩ ⟨aN, aO, aM, aP, aB, cN, cO, cM, cP, cB⟩
  have HC : Hid (∀ V : World, Below w0.heap.size w0 V → (V.cell? ⟨w.heap.size, 0, none⟩ = some (.int .i64 sl) ∧ V.cell? ⟨w.heap.size, 1, none⟩ = some (.slice aN N.length cN) ∧ V.cell? ⟨w.heap.size, 2, none⟩ = some (.slice aO O.length cO) ∧ V.cell? ⟨w.heap.size, 3, none⟩ = some (.int .i64 sr)) ∧ V.cell? ⟨w.heap.size, 4, none⟩ = some (.slice aM M.length cM) ∧ V.cell? ⟨w.heap.size, 5, none⟩ = some (.slice aP P.length cP) ∧ V.cell? ⟨w.heap.size, 6, none⟩ = some (.slice aB B.length cB) ∧ V.cell? ⟨w.heap.size, 7, none⟩ = some (.bool el)) := hid0 hC0
  replace hw0 : w.alloc (.cells #[.int .i64 sl, .slice aN N.length cN, .slice aO O.length cO, .int .i64 sr, .slice aM M.length cM, .slice aP P.length cP, .slice aB B.length cB, .bool el] 27) = w0 := hw0
  have hmf : ∀ (fn : Fn) (first cap : Array Value) (w : World), (Instr.makeFunc fn first cap).run Tryd.prog w = .ok (.func fn first cap) w := fun _ _ _ _ => rfl
  have hmm : ∀ w : World, (Instr.makeMap 109 none).run Tryd.prog w = .ok (.map (some w.heap.size)) (w.alloc (.map #[] 0)) := fun _ => rfl
  obtain ⟨w1, hw1⟩ : ∃ w1, w1 = w0.alloc (.map #[] 0) := ⟨_, rfl⟩
  obtain ⟨w2, hw2⟩ : ∃ w2, w2 = w1.alloc (.cells #[.map (some w0.heap.size)] 109) := ⟨_, rfl⟩
  have hb1 : Below w0.heap.size w0 w1 := by rw [hw1]; exact (Below.refl _ _).alloc (Nat.le_refl _) _
  have hb2 : Below w1.heap.size w1 w2 := by rw [hw2]; exact (Below.refl _ _).alloc (Nat.le_refl _) _
  have hz1 : w1.heap.size = w0.heap.size + 1 := by rw [hw1]; simp
  have hb02 : Below w0.heap.size w0 w2 := hb1.trans (hb2.mono hb1.size)
  have hk1 : Kn2 w1 w0.heap.size 0 (fsF O P) := by rw [hw1]; exact Kn2.made w0 _
  have hr2 : w2.heap[w1.heap.size]? = some (.cells #[.map (some w0.heap.size)] 109 (0, 0)) := by rw [hw2]; exact heap_alloc_new w1 _
  have HCl : Hid (Clo w2 w.heap.size w1.heap.size w.heap.size w0.heap.size 0 cO cP O P aO aP) := hid0 ⟨by rw [cell_of_row _ _ _ _ _ _ hr2]; rfl, (HC.out w2 hb02).1.2.2.1, (HC.out w2 hb02).2.2.1, hk1.block (hb2.block _ (by omega)), by omega, by omega⟩
  have HBw : Hid (Below w.heap.size w w2) := hid0 (hB0.trans (hb02.mono (by omega)))
  have hz1' : w1.heap.size = w0.heap.size + 1 := hz1
  have hz0' := hz0
  have HX1 := hid0 hz1
  have hf1 := hw1.symm
  have hf2 := hw2.symm
  clear hw1 hw2 hb1 hb2 hz1 hb02 hk1 hr2 hB0 hC0 HC hz0 hz1' hz0'
  go_enter Tryd.func47, Tryd.ntmps47
  go_wp2
  go_ret
  exact ⟨_, _, rfl, ⟨_, HCl.out⟩, HBw.out⟩
end Go.Proofs.YtekimkdaoblcgaaDoor
namespace Go.Proofs.YtekimkdaoblcgaaDoor
open Go.RowKit Go.Shelf
theorem make_zero (n : Nat) (w : World) (hn : n ≤ 1000000000) : ∃ w', (Instr.makeSlice 28 (.int .i64 (n : Int)) (.int .i64 (n : Int))).run Tryd.prog w = .ok (.slice (some ⟨w.heap.size, 0, none⟩) n n) w' ∧ w'.ownsRow w.heap.size 3 1 (.slice (some ⟨w.heap.size, 0, none⟩) n n) n ((List.replicate n (0 : Int)).map (Value.int .i64)) ∧ Below w.heap.size w w' := by
  obtain ⟨i, hi, hz0, hz1, hz2⟩ := info_parts infoInt
  obtain ⟨w', h1, h2, h3⟩ := run_make_full (P := Tryd.prog) w w.heap.size 28 3 i (.int .i64 0) 1 Tryd.underlying28 hi hz0 hz1 .i64 .i64 n (by rw [hz2]; omega) (by unfold maxLen; omega) (Nat.le_refl _)
  refine ⟨w', h1, ?_, (Below.refl _ _).grown h3 (Nat.le_refl _) (fun k hk => by cases hk)⟩
  have e : (madeCells (Value.int .i64 0).cells (n * 1)).toList = (List.replicate n (0 : Int)).map (Value.int .i64) := by
    apply List.ext_getElem
    · rw [Array.length_toList, size_madeCells]; simp
    · intro k h4 h5
      simp [madeCells, Value.cells, Nat.mod_one]
  rw [← e]
  exact h2
/-- What Decide's loop keeps: the places from q on are done. -/
structure Dc (wn V : World) (g n Kb Pb Bm cO cP q : Nat) (O P : List (List Int)) (aO aP : Option Addr) (D : Nat → Int) : Prop where
  own : ∃ Z : List Int, Z.length = n ∧ V.ownsRow wn.heap.size 3 1 (.slice (some ⟨g, 0, none⟩) n n) n (Z.map (Value.int .i64)) ∧ ∀ j, q ≤ j → j < n → Z[j]? = some (D j)
  clo : Clo V wn.heap.size Kb Pb Bm (n - q) cO cP O P aO aP
  ne : g ≠ Kb ∧ g ≠ Pb ∧ g ≠ Bm
  bel : Below wn.heap.size wn V
section
variable {wn V V' : World} {g n Kb Pb Bm cO cP q : Nat} {O P : List (List Int)} {aO aP : Option Addr} {D : Nat → Int}
theorem Clo.exc {lo k : Nat} (h : Clo V lo Kb Pb Bm k cO cP O P aO aP) (he : Exc V V' Bm) (hk : Kn2 V' Bm (k + 1) (fsF O P)) : Clo V' lo Kb Pb Bm (k + 1) cO cP O P aO aP :=
  ⟨he.cell h.ne.1 h.k0, he.cell h.ne.2 h.p2, he.cell h.ne.2 h.p5, hk, h.ne, h.lo⟩
/-- One place is looked at, and its number is written. -/
theorem Dc.step (h : Dc wn V g n Kb Pb Bm cO cP (q + 1) O P aO aP D) (hq : q < n) (hf : FsR V Bm (n - (q + 1)) (fsF O P) V') {d : Int} (hd : d = D q) : V'.frozen? ⟨g, q, none⟩ = false ∧ (∃ z, V'.cell? ⟨g, q, none⟩ = some (.int .i64 z)) ∧ Dc wn (V'.setCell ⟨g, q, none⟩ (.int .i64 d)) g n Kb Pb Bm cO cP q O P aO aP D := by
  obtain ⟨hk, he⟩ := hf
  obtain ⟨Z, hz, ho, hD⟩ := h.own
  have hg := World.ownsRow.lt ho g rfl
  have ho' : V'.ownsRow wn.heap.size 3 1 (.slice (some ⟨g, 0, none⟩) n n) n (Z.map (Value.int .i64)) := own_blk ho (fun k hk' => by
    have e : g = k := by simpa [Value.ownBlock] using hk'
    subst e
    exact he.oth g hg.2 h.ne.2.2)
  have hc := h.clo.exc he hk
  have hs := (World.ownsRow.stored ho' q (.int .i64 d)).1
  refine ⟨World.ownsRow.frozenAt ho' q, ⟨_, by rw [World.ownsRow.cellAt ho' q (by omega), List.getElem?_map, List.getElem?_eq_getElem (by omega)]; rfl⟩, ⟨⟨Z.set q d, by simpa using hz, by rw [List.map_set]; exact hs, fun j hj hjn => ?_⟩, ?_, h.ne, ?_⟩⟩
  · by_cases e : j = q
    · subst e
      rw [List.getElem?_set_self (by omega), hd]
    · rw [List.getElem?_set_ne (fun e2 => e e2.symm)]
      exact hD j (by omega) hjn
  · have e1 : n - (q + 1) + 1 = n - q := by omega
    rw [e1] at hc
    have oth : ∀ k, k ≠ g → (V'.setCell ⟨g, q, none⟩ (.int .i64 d)).heap[k]? = V'.heap[k]? := fun k hk' => Below.heap_setCell _ _ _ _ hk'
    exact ⟨(World.cell?_of_block (w := V') (oth Kb (fun e => h.ne.1 e.symm))).trans hc.k0, (World.cell?_of_block (w := V') (oth Pb (fun e => h.ne.2.1 e.symm))).trans hc.p2, (World.cell?_of_block (w := V') (oth Pb (fun e => h.ne.2.1 e.symm))).trans hc.p5, hc.kn.block (oth Bm (fun e => h.ne.2.2 e.symm)), hc.ne, hc.lo⟩
  · exact (h.bel.trans (he.below h.clo.lo.2.2 h.bel.size)).setCell (p := ⟨g, q, none⟩) hg.1 _
theorem Dc.done (h : Dc wn V g n Kb Pb Bm cO cP 0 O P aO aP D) : OwnI V wn.heap.size (.slice (some ⟨g, 0, none⟩) n n) ((List.range n).map D) := by
  obtain ⟨Z, hz, ho, hD⟩ := h.own
  have e : Z = (List.range n).map D := by
    apply List.ext_getElem?
    intro j
    rcases Nat.lt_or_ge j n with hj | hj
    · rw [hD j (Nat.zero_le _) hj]; simp [hj]
    · rw [List.getElem?_eq_none (by omega), List.getElem?_eq_none (by simpa using hj)]
  unfold OwnI
  rw [← e, hz]
  exact ho
end
theorem rev_at {l : List Int} {q : Nat} (hq : q < l.length) : l.reverse.getD (l.length - 1 - q) 0 = l[q] := by
  rw [List.getD_eq_getElem?_getD, List.getElem?_reverse (by omega), List.getElem?_eq_getElem (by omega)]
  show l[l.length - 1 - (l.length - 1 - q)] = l[q]
  congr 1
  omega
end Go.Proofs.YtekimkdaoblcgaaDoor
namespace Go.Proofs.YtekimkdaoblcgaaDoor
open Go.RowKit Go.Shelf Go.Maps
theorem FA.only {w w' : World} {S : Nat → Prop} {a : Option Addr} {L : List Fd} (h : FA w a L) (ho : Only w w' S) (hs : ∀ p, a = some p → ¬ S p.block) : FA w' a L := ⟨fun k hk => by
  obtain ⟨b, off, rfl, h1, c0, c1, c2⟩ := h.at' k hk
  have hn := hs ⟨b, off, none⟩ rfl
  exact ⟨b, off, rfl, Nat.lt_of_lt_of_le h1 ho.size, (ho.cell (p := ⟨b, off + k * 3, none⟩) h1 hn).trans c0, (ho.cell (p := ⟨b, off + k * 3 + 1, none⟩) h1 hn).trans c1, (ho.cell (p := ⟨b, off + k * 3 + 2, none⟩) h1 hn).trans c2⟩⟩
def chL (F : List Sp) (m : Nat) : List Int := (List.range m).map fun j => chW F j
theorem chL_len (F : List Sp) (m : Nat) : (chL F m).length = m := by simp [chL]
theorem chL_at (F : List Sp) {m j : Nat} (h : j < m) : (chL F m)[j]? = some (chW F j) := by simp [chL, h]
theorem chL_nil (m : Nat) : chL [] m = List.replicate m 0 := by
  apply List.ext_getElem?
  intro j
  by_cases h : j < m
  · rw [chL_at _ h, List.getElem?_replicate, if_pos h]; rfl
  · rw [List.getElem?_eq_none (by rw [chL_len]; omega), List.getElem?_replicate, if_neg h]
theorem chL_snoc (F : List Sp) (f : Sp) (m : Nat) (h1 : f.1 < f.2) (h2 : f.2 + 1 < m) : ((chL F m).set (f.1 + 1) (chW F (f.1 + 1) + 1)).set (f.2 + 1) (chW F (f.2 + 1) - 1) = chL (F ++ [f]) m := by
  apply List.ext_getElem?
  intro j
  rw [List.getElem?_set, List.getElem?_set]
  simp only [List.length_set, chL_len]
  by_cases h : j < m
  · rw [chL_at _ h, chL_at _ h, chW_snoc]
    by_cases e2 : f.2 + 1 = j
    · subst e2
      rw [if_pos rfl, if_pos h, if_neg (by omega), if_pos rfl]
      congr 1
      try omega
    · rw [if_neg e2]
      by_cases e1 : f.1 + 1 = j
      · subst e1
        rw [if_pos rfl, if_pos h, if_pos rfl, if_neg e2]
        try congr 1
      · rw [if_neg e1, if_neg e1, if_neg e2]
        congr 1
        omega
  · rw [if_neg (by omega), if_neg (by omega), List.getElem?_eq_none (by rw [chL_len]; omega), List.getElem?_eq_none (by rw [chL_len]; omega)]
/-- The list of changes in memory. -/
def ChO (w : World) (lo g m : Nat) (F : List Sp) : Prop := w.ownsRow lo 3 1 (.slice (some ⟨g, 0, none⟩) m m) m ((chL F m).map (Value.int .i64))
theorem ChO.past {w w' : World} {lo g m : Nat} {F : List Sp} (h : ChO w lo g m F) (hb : Below w.heap.size w w') : ChO w' lo g m F := own_blk h (fun k hk => hb.block k (World.ownsRow.lt h k hk).2)
theorem ChO.cell {w : World} {lo g m : Nat} {F : List Sp} (h : ChO w lo g m F) {j : Nat} (hj : j < m) : w.cell? ⟨g, j, none⟩ = some (.int .i64 (chW F j)) ∧ w.frozen? ⟨g, j, none⟩ = false := by
  refine ⟨?_, World.ownsRow.frozenAt h j⟩
  rw [World.ownsRow.cellAt h j (by omega), List.getElem?_map, chL_at _ hj]
  rfl
theorem ChO.snoc {w : World} {lo g m : Nat} {F : List Sp} (h : ChO w lo g m F) (f : Sp) (h1 : f.1 < f.2) (h2 : f.2 + 1 < m) : ChO ((w.setCell ⟨g, f.1 + 1, none⟩ (.int .i64 (chW F (f.1 + 1) + 1))).setCell ⟨g, f.2 + 1, none⟩ (.int .i64 (chW F (f.2 + 1) - 1))) lo g m (F ++ [f]) := by
  have q1 := (World.ownsRow.stored h (f.1 + 1) (.int .i64 (chW F (f.1 + 1) + 1))).1
  have q2 := (World.ownsRow.stored q1 (f.2 + 1) (.int .i64 (chW F (f.2 + 1) - 1))).1
  unfold ChO
  rw [← chL_snoc F f m h1 h2, List.map_set, List.map_set]
  exact q2
/-- The last place that is reached behind the first so many; what changes answers. -/
def lsK (tr l : List Int) (F : List Fd) : Nat → Nat
  | 0 => 0
  | k + 1 => trl tr l (F.getD k (0, 0, 0)).2.2.toNat
def ChR (w : World) (m : Nat) (F : List Sp) (e : Ending) (w' : World) : Prop := ∃ g, e = .returned (.slice (some ⟨g, 0, none⟩) m m) ∧ ChO w' w.heap.size g m F ∧ Below w.heap.size w w'
section
variable {w : World} {p : Prg} {q : PrL} {sup : Bool} {tr : List Int} {E : List (List Int)} {bef : Int} {f : FlL}
theorem fnd_ends {E : List (List Int)} {l : List Int} (n : Nat) : (allK E l n).Pairwise fun x y => x.2.2 ≤ y.2.2 := List.Pairwise.imp (fun h => by rcases h with h | h <;> omega) (all_ord E l n)
set_option maxRecDepth 10000 in
set_option maxHeartbeats 1600000 in
theorem changes_any (P l : List Int) (ap aw : Option Addr) (cp cw : Nat) (h : FlA w p q sup tr E bef f) (hs : FlS p tr E) (hl : l.length ≤ 100000000) (hP : P.length = l.length) (hp : IA w ap P) (ha : IA w aw l) (hI : ∀ c ∈ P, inI c) :
    Calls Tryd.prog 49 #[.pointer (some ⟨f.X, 0, none⟩), .slice ap l.length cp, .slice aw l.length cw] w fun e w' => ChR w (l.length + 2) (if sup then (allK E P P.length).map (spF tr l) else []) e w' := by
  have HF := hid0 h
  have HS := hid0 hs
  have HA := hid0 ha
  obtain ⟨m, hm⟩ : ∃ m, m = l.length + 2 := ⟨_, rfl⟩
  obtain ⟨w1, hmk, ho1, hb1⟩ := make_zero m w (by omega)
  have HO1 : Hid (ChO w1 w.heap.size w.heap.size m []) := hid0 (by unfold ChO; rw [chL_nil]; exact ho1)
  have HB1 := hid0 hb1
  have hmI : (l.length : Int) + 2 = (m : Int) := by omega
  have HAl : Hid (∀ V : World, Below w.heap.size w V → ∀ T', T' = f.T → Calls Tryd.prog 67 #[.pointer (some ⟨T', 0, none⟩), .slice ap l.length cp] V fun e w' => AllR V (allK E P P.length) e w') := hid0 (fun V hV T' hT' => by
    obtain ⟨lo, hi, bk, mp, ht⟩ := (h.past hV).tri
    have q := all_any P ap cp ht hs.good (hp.past hV) hI (by omega) ht.hs (by have := hs.el; omega)
    rw [hP] at q ⊢
    rw [hT']
    exact q)
  have HMem : Hid (∀ x ∈ allK E P P.length, ∃ (a b : Nat), x.2.1 = (a : Int) ∧ x.2.2 = (b : Int) ∧ a < b ∧ b ≤ l.length) := hid0 (fun x hx => by
    obtain ⟨j, s, hj, rfl, hst, _⟩ := all_mem P.length (Nat.le_refl _) x hx
    have hne : E[j] ≠ [] := fun e0 => hs.good.ne (by rw [← e0]; exact List.getElem_mem hj)
    have := std_len hst hne
    have := List.length_pos_iff.2 hne
    exact ⟨s, s + E[j].length, rfl, by show (s : Int) + (E[j].length : Int) = _; omega, by omega, by omega⟩)
  have HLn : Hid ((allK E P P.length).length ≤ 3200000000) := hid0 (by have := allK_len hs.good.len P P.length; omega)
  have HOr := hid0 (fnd_ends (E := E) (l := P) P.length)
  rw [← hm]
  obtain ⟨F, hFd⟩ : ∃ F, allK E P P.length = F := ⟨_, rfl⟩
  rw [hFd] at HAl HMem HLn HOr ⊢
  have hF9 := HLn.out
  have hml : l.length + 2 = m := hm.symm
  have HML := hid0 hml
  clear h hs ha ho1 hb1 hp hI hm hml hFd HLn
  go_enter Tryd.func49, Tryd.ntmps49
  go_upto_region 2 with (fail)
  clear hmk
  have x8 := (HF.out.past HB1.out).c8
  cases sup with
  | false =>
    have HR : Hid (ChR w m [] (.returned (.slice (some ⟨w.heap.size, 0, none⟩) m m)) w1) := hid0 ⟨_, rfl, HO1.out, HB1.out⟩
    go_wp2
    go_ret
    exact HR.out
  | true =>
    have x10 := (HF.out.past HB1.out).c10
    have HA1 := hid0 (HAl.out w1 HB1.out f.T rfl)
    go_upto_region 5 with (fail)
    go_upto_region 6 with (go_at_call 67; go_loud ((
      refine HA1.out.mono ?_
      rintro e w2 ⟨v, rfl, ho, hb⟩
      obtain ⟨a5, c5, rfl, hfa⟩ := ho.fa
      have HF2 := hid0 hfa
      have HB12 := hid0 hb
      have HB2 : Hid (Below w.heap.size w w2) := hid0 (Below.later HB1.out hb)
      have HO2 := hid0 (HO1.out.past hb)
      have HA5 : Hid (∀ pd, a5 = some pd → w.heap.size < pd.block) := hid0 (fun pd hpd => by
        have q1 := (World.ownsRow.lt HO1.out w.heap.size rfl).2
        rcases ho.2 with ⟨e, _⟩ | ⟨g', cap', cur', e, hg', _⟩
        · injection e with e; rw [hpd] at e; cases e
        · injection e with e
          rw [hpd] at e
          injection e with e
          subst e
          show w.heap.size < g'
          omega)
      clear ho hb hfa HA1)))
    clear x8 x10
    go_wp2
    go_loopw [8, 28] (fun x y wr => ∃ k la : Nat, k ≤ F.length ∧ y = .int .i64 (k : Int) ∧ x = .int .i64 (la : Int) ∧ la ≤ l.length ∧ Hid (la = lsK tr l F k) ∧ Hid (ChO wr w.heap.size w.heap.size m ((F.take k).map (spF tr l))) ∧ Hid (Below w.heap.size w wr) ∧ Hid (Only w2 wr (fun b => b = w.heap.size))) (fun _ y _ => F.length - (intOf y).toNat)
    case atStart => exact ⟨0, 0, Nat.zero_le _, rfl, rfl, Nat.zero_le _, hid0 rfl, HO2, HB2, hid0 (Only.refl _ _)⟩
    case round =>
      clear HO2 HB2
      obtain ⟨k, la, hk, rfl, rfl, hla, HLa, HO, HB, HOn⟩ := hrel
      by_cases hlt : k < F.length
      · have hkI : (k : Int) < (F.length : Int) := by omega
        have hkI0 : (0 : Int) ≤ (k : Int) := by omega
        obtain ⟨b5, o5, e5, hb5, d0, d1, d2⟩ := (HF2.out.only HOn.out (fun pd hpd => by have := HA5.out pd hpd; omega)).at' k hlt
        subst e5
        obtain ⟨A0, B0, hA0, hB0, hab, hbl⟩ := HMem.out F[k] (List.getElem_mem hlt)
        have HSp : Hid (spF tr l F[k] = (A0, trl tr l B0)) := hid0 (by unfold spF; rw [hA0, hB0]; rfl)
        have HTk : Hid ((F.take (k + 1)).map (spF tr l) = (F.take k).map (spF tr l) ++ [(A0, trl tr l B0)]) := hid0 (by
          rw [List.take_add_one, List.getElem?_eq_getElem hlt, List.map_append, ← HSp.out]
          rfl)
        have HLs : Hid (trl tr l B0 = lsK tr l F (k + 1)) := hid0 (by
          show _ = trl tr l (F.getD k (0, 0, 0)).2.2.toNat
          rw [List.getD_eq_getElem?_getD, List.getElem?_eq_getElem hlt]
          show trl tr l B0 = trl tr l F[k].2.2.toNat
          rw [hB0]
          rfl)
        have HMx : Hid (trl tr l (max la B0) = trl tr l B0) := hid0 (by
          rw [HLa.out]
          cases k with
          | zero => show trl tr l (max 0 B0) = _; rw [Nat.zero_max]
          | succ k' =>
            show trl tr l (max (trl tr l (F.getD k' (0, 0, 0)).2.2.toNat) B0) = _
            refine trl_max ?_
            have q1 := List.pairwise_iff_getElem.1 HOr.out k' (k' + 1) (by omega) hlt (by omega)
            rw [List.getD_eq_getElem?_getD, List.getElem?_eq_getElem (by omega)]
            show (F[k'].2.2).toNat ≤ B0
            rw [hB0] at q1
            omega)
        rw [hA0] at d1
        rw [hB0] at d2
        obtain ⟨t, ht⟩ : ∃ t, trl tr l B0 = t := ⟨_, rfl⟩
        have ht1 : B0 ≤ t := by rw [← ht]; exact trl_ge _ _ _
        have ht2 : t ≤ l.length := by rw [← ht]; exact trl_le hbl
        rw [ht] at HTk HLs HMx
        obtain ⟨mx, hmx⟩ : ∃ mx, max la B0 = mx := ⟨_, rfl⟩
        rw [hmx] at HMx
        have hmxl : mx ≤ l.length := by omega
        have hmxI : max (la : Int) (B0 : Int) = (mx : Int) := by omega
        generalize F[k].1 = F0 at *
        clear hA0 hB0 HSp ht
        have hm9 : l.length + 2 = m := HML.out
        obtain ⟨F', hF'⟩ : ∃ F', (F.take k).map (spF tr l) = F' := ⟨_, rfl⟩
        have hFl : F'.length ≤ 3200000000 := by rw [← hF', List.length_map, List.length_take]; omega
        rw [hF'] at HO HTk
        have hc1 := chW_bound F' (A0 + 1)
        have hc2 := chW_bound F' (t + 1)
        clear hF'
        go_upto_region 8 with (fail)
        obtain ⟨W2, hW2, hbw, hrow⟩ : ∃ W, wr.alloc (.cells #[.int .i64 F0, .int .i64 (A0 : Int), .int .i64 (B0 : Int)] 116) = W ∧ Below wr.heap.size wr W ∧ W.heap[wr.heap.size]? = some (.cells #[.int .i64 F0, .int .i64 (A0 : Int), .int .i64 (B0 : Int)] 116 (0, 0)) := ⟨_, rfl, (Below.refl _ _).alloc (Nat.le_refl _) _, heap_alloc_new _ _⟩
        rw [hW2]
        have y2 : W2.cell? ⟨wr.heap.size, 2, none⟩ = some (.int .i64 (B0 : Int)) := by rw [cell_of_row _ _ _ _ _ _ hrow]; rfl
        have HBw : Hid (Below wr.heap.size wr W2) := hid0 hbw
        have HRw := hid0 hrow
        have HTr : Hid (Calls Tryd.prog 68 #[.pointer (some ⟨f.X, 0, none⟩), .slice aw l.length cw, .int .i64 (mx : Int)] W2 fun e w' => e = .returned (.int .i64 (t : Int)) ∧ Below W2.heap.size W2 w') := hid0 (by
          have hq := HB.out.trans (hbw.mono HB.out.size)
          have q := trailed_any l aw cw mx (HF.out.past hq) HS.out (by omega) (HA.out.past hq) hmxl
          rw [HMx.out] at q
          exact q)
        clear d0 d1 d2 hW2 hbw hrow hb5
        go_upto_region 9 with (go_at_call 68; go_loud ((
          refine HTr.out.mono ?_
          rintro e w3 ⟨rfl, hb⟩
          have HB23 : Hid (Below wr.heap.size wr w3) := hid0 (Below.later HBw.out hb)
          have HR3 := hid0 ((hb.block _ (Array.getElem?_eq_some_iff.1 HRw.out).1).trans HRw.out)
          clear hb HTr)))
        clear y2
        have y1 : w3.cell? ⟨wr.heap.size, 1, none⟩ = some (.int .i64 (A0 : Int)) := by rw [cell_of_row _ _ _ _ _ _ HR3.out]; rfl
        have HO3 := hid0 (HO.out.past HB23.out)
        obtain ⟨z1, z2⟩ := HO3.out.cell (show A0 + 1 < m by omega)
        obtain ⟨z3, z4⟩ := HO3.out.cell (show t + 1 < m by omega)
        have HO4 := hid0 (HO3.out.snoc (A0, t) (by show A0 < t; omega) (by show t + 1 < m; omega))
        obtain ⟨A1, hA1⟩ : ∃ A1, A0 + 1 = A1 := ⟨_, rfl⟩
        obtain ⟨T1, hT1⟩ : ∃ T1, t + 1 = T1 := ⟨_, rfl⟩
        have hA1I : (A0 : Int) + 1 = (A1 : Int) := by omega
        have hT1I : (t : Int) + 1 = (T1 : Int) := by omega
        have hA1m : (A1 : Int) < (m : Int) := by omega
        have hT1m : (T1 : Int) < (m : Int) := by omega
        have hA10 : (0 : Int) ≤ (A1 : Int) := by omega
        have hT10 : (0 : Int) ≤ (T1 : Int) := by omega
        have hne : ¬ A1 = T1 := by omega
        have hA1' : ((A0, t) : Sp).1 + 1 = A1 := hA1
        have hT1' : ((A0, t) : Sp).2 + 1 = T1 := hT1
        rw [hA1', hT1'] at HO4
        rw [hA1] at z1 z2 hc1
        rw [hT1] at z3 z4 hc2
        generalize chW F' A1 = c1 at *
        generalize chW F' T1 = c2 at *
        have hw1 : IntKind.i64.wrap (c1 + 1) = c1 + 1 := by simp [IntKind.wrap, IntKind.bits, IntKind.signed]; omega
        have hw2 : IntKind.i64.wrap (c2 - 1) = c2 - 1 := by simp [IntKind.wrap, IntKind.bits, IntKind.signed]; omega
        clear hA1 hT1 hA1' hT1' HO3
        go_upto_region 10 with (fail)
        have z5 : (w3.setCell ⟨w.heap.size, A1, none⟩ (.int .i64 (c1 + 1))).cell? ⟨w.heap.size, T1, none⟩ = some (.int .i64 c2) := (World.cell?_setCell_other _ _ _ _ (fun e => hne (by injection e))).trans z3
        have z6 : (w3.setCell ⟨w.heap.size, A1, none⟩ (.int .i64 (c1 + 1))).frozen? ⟨w.heap.size, T1, none⟩ = false := by rw [World.frozen?_setCell]; exact z4
        have HO5 : Hid (Only w3 ((w3.setCell ⟨w.heap.size, A1, none⟩ (.int .i64 (c1 + 1))).setCell ⟨w.heap.size, T1, none⟩ (.int .i64 (c2 - 1))) (fun b => b = w.heap.size)) := hid0 ((Only.setCell _ _ _ _).trans (Only.setCell _ _ _ _) (fun i hi => .inl hi))
        obtain ⟨W4, hW4⟩ : ∃ W4, W4 = w3.setCell ⟨w.heap.size, A1, none⟩ (.int .i64 (c1 + 1)) := ⟨_, rfl⟩
        rw [← hW4] at z5 z6 HO4 HO5 ⊢
        have HWs : Hid (w.heap.size ≤ w3.heap.size) := hid0 (by have := HB.out.size; have := HB23.out.size; omega)
        clear z1 z2 z3 z4 y1 hW4
        go_wp2
        go_roundw
        case rel => exact ⟨k + 1, t, hlt, by go_num, rfl, ht2, HLs, hid0 (by rw [HTk.out]; exact HO4.out), hid0 ((HB.out.trans (HB23.out.mono HB.out.size)).trans (HO5.out.below HWs.out (fun i hi => by omega))), hid0 ((HOn.out.trans (Only.ofNew HB23.out (fun b => b = w.heap.size)) (fun i hi => .inl hi)).trans HO5.out (fun i hi => .inl hi))⟩
        case measure => simp [intOf]; omega
      · have hkI : ¬ (k : Int) < (F.length : Int) := by omega
        have HR : Hid (ChR w m (F.map (spF tr l)) (.returned (.slice (some ⟨w.heap.size, 0, none⟩) m m)) wr) := hid0 ⟨_, rfl, by have h := HO.out; rw [List.take_of_length_le (by omega)] at h; exact h, HB.out⟩
        go_wp2
        go_ret
        exact HR.out
end
end Go.Proofs.YtekimkdaoblcgaaDoor
namespace Go.Proofs.YtekimkdaoblcgaaDoor
open Go.RowKit Go.Shelf Go.Maps
theorem own_slice {w : World} {base : Nat} {v : Value} {L : List Int} (h : OwnI w base v L) : ∃ a cap, v = .slice a L.length cap ∧ IA w a L ∧ L.length ≤ cap ∧ ∀ p, a = some p → base ≤ p.block ∧ p.block < w.heap.size := by
  have h0 := h
  obtain ⟨a, cap, e, hia⟩ := OwnI.ia h0
  rcases h.2 with ⟨rfl, hn⟩ | ⟨g, cap', cur, rfl, _, _, hc, _⟩
  · injection e with e1 e2 e3
    subst e1 e3
    exact ⟨none, 0, by rw [hn], hia, by omega, fun p hp => by cases hp⟩
  · injection e with e1 e2 e3
    subst e1 e3
    exact ⟨_, _, rfl, hia, hc, fun p hp => by injection hp with hp; subst hp; exact World.ownsRow.lt h0 g rfl⟩
set_option maxRecDepth 100000 in
set_option maxHeartbeats 1000000 in
theorem cloneI_any (L : List Int) (a : Option Addr) (c : Nat) (w : World) (hl : L.length ≤ 1000000000) (ha : IA w a L) :
    Calls Tryd.prog 26 #[.slice a L.length c] w fun e w' => ∃ v, e = .returned v ∧ OwnI w' w.heap.size v L ∧ Below w.heap.size w w' := by
  have q22 : ∀ (w : World) (a : Option Addr) (n c n' c' : Nat), (binOp .eql 28 (.slice a n c) (.slice none n' c')).run Tryd.prog w = .ok (.bool a.isNone) w := fun w a n c n' c' => Lib.run_eql_slice_nil w _ _ a n c n' c' Tryd.underlying28
  obtain ⟨i0, hi, hz0, hz1, hz2⟩ := info_parts infoInt
  cases a with
  | none =>
    have hL : L = [] := by
      cases L with
      | nil => rfl
      | cons y r => obtain ⟨b, off, e, _⟩ := ha.at' 0 (by simp); cases e
    subst hL
    clear ha
    go_enter Tryd.func26, Tryd.ntmps26
    go_wp2
    go_ret
    exact ⟨_, rfl, World.ownsRow_nil _ _ _ _, Below.refl _ _⟩
  | some ad =>
    have HNw : Hid (∀ (o : Obj) (j : Nat) (u : Value), (L.map (Value.int .i64))[j]? = some u → (w.alloc o).cell? (ad.add j) = some u) := hid0 (fun o j u hu => by
      have hj : j < L.length := by have := (List.getElem?_eq_some_iff.1 hu).1; simpa using this
      obtain ⟨b, off, e, h1, h2⟩ := ha.at' j hj
      cases e
      rw [Addr.add_mid]
      refine (cell_alloc h2 _).trans ?_
      have : (L.map (Value.int .i64))[j]? = some (Value.int .i64 L[j]) := by simp [hj]
      rw [this] at hu
      exact hu)
    clear ha
    go_enter Tryd.func26, Tryd.ntmps26
    go_wp2_with (at_builtin; go_loud ((
      refine wpList_append_own _ rfl _ _ 28 rfl w.heap.size 3 i0 (.int .i64 0) 1 8 Tryd.underlying28 hi hz0 hz1 hz2 rfl (by decide) _ _ _ rfl (World.ownsRow_made w #[] 0 (Nat.le_refl _) (Nat.zero_le _) rfl) ad L.length c (L.map (Value.int .i64)) rfl (by simp) (HNw.out _) (fun u hu => by obtain ⟨y, _, rfl⟩ := List.mem_map.1 hu; rfl) (by unfold maxLen; omega) (by omega) (by simp) ?_
      intro v' w1 hown hgrow _
      have HO : Hid (OwnI w1 w.heap.size v' L) := hid0 (by simpa [OwnI] using hown)
      have HB : Hid (Below w.heap.size w w1) := hid0 (((Below.refl _ w).alloc (Nat.le_refl _) _).grown hgrow (by simp) (fun k hk => by have hk' : some w.heap.size = some k := hk; injection hk' with hk'; omega))
      clear hown hgrow)))
    go_ret
    exact ⟨_, rfl, HO.out, HB.out⟩
theorem infoBool : (Tryd.prog.info? 4).map (fun i => (i.zero, i.size, i.bytes)) = some (some (.bool false), 1, 1) := by kernel_rfl
def OwnBo (w : World) (base : Nat) (v : Value) (B : List Bool) : Prop := w.ownsRow base 4 1 v B.length (B.map Value.bool)
theorem OwnBo.ba {w : World} {base : Nat} {v : Value} {L : List Bool} (h : OwnBo w base v L) : ∃ a cap, v = .slice a L.length cap ∧ BoA w a L := by
  have h0 := h
  rcases h.2 with ⟨rfl, hn⟩ | ⟨g, cap, cur, rfl, hg, hr, hc, _⟩
  · exact ⟨none, 0, by rw [hn], ⟨fun k hk => by omega⟩⟩
  · refine ⟨_, cap, rfl, ⟨fun k hk => ⟨g, 0, rfl, (World.ownsRow.lt h0 g rfl).2, ?_⟩⟩⟩
    have := World.ownsRow.cellAt h0 k (by omega)
    rw [Nat.zero_add, this]
    simp [hk]
set_option maxRecDepth 100000 in
set_option maxHeartbeats 1000000 in
theorem cloneB_any (L : List Bool) (a : Option Addr) (c : Nat) (w : World) (hl : L.length ≤ 1000000000) (ha : BoA w a L) :
    Calls Tryd.prog 42 #[.slice a L.length c] w fun e w' => ∃ v, e = .returned v ∧ OwnBo w' w.heap.size v L ∧ Below w.heap.size w w' := by
  have q22 : ∀ (w : World) (a : Option Addr) (n c n' c' : Nat), (binOp .eql 25 (.slice a n c) (.slice none n' c')).run Tryd.prog w = .ok (.bool a.isNone) w := fun w a n c n' c' => Lib.run_eql_slice_nil w _ _ a n c n' c' Tryd.underlying25
  obtain ⟨i0, hi, hz0, hz1, hz2⟩ := info_parts infoBool
  cases a with
  | none =>
    have hL : L = [] := by
      cases L with
      | nil => rfl
      | cons y r => obtain ⟨b, off, e, _⟩ := ha.at' 0 (by simp); cases e
    subst hL
    clear ha
    go_enter Tryd.func42, Tryd.ntmps42
    go_wp2
    go_ret
    exact ⟨_, rfl, World.ownsRow_nil _ _ _ _, Below.refl _ _⟩
  | some ad =>
    have HNw : Hid (∀ (o : Obj) (j : Nat) (u : Value), (L.map (Value.bool))[j]? = some u → (w.alloc o).cell? (ad.add j) = some u) := hid0 (fun o j u hu => by
      have hj : j < L.length := by have := (List.getElem?_eq_some_iff.1 hu).1; simpa using this
      obtain ⟨b, off, e, h1, h2⟩ := ha.at' j hj
      cases e
      rw [Addr.add_mid]
      refine (cell_alloc h2 _).trans ?_
      have : (L.map (Value.bool))[j]? = some (Value.bool L[j]) := by simp [hj]
      rw [this] at hu
      exact hu)
    clear ha
    go_enter Tryd.func42, Tryd.ntmps42
    go_wp2_with (at_builtin; go_loud ((
      refine wpList_append_own _ rfl _ _ 25 rfl w.heap.size 4 i0 (.bool false) 1 1 Tryd.underlying25 hi hz0 hz1 hz2 rfl (by decide) _ _ _ rfl (World.ownsRow_made w #[] 0 (Nat.le_refl _) (Nat.zero_le _) rfl) ad L.length c (L.map (Value.bool)) rfl (by simp) (HNw.out _) (fun u hu => by obtain ⟨y, _, rfl⟩ := List.mem_map.1 hu; rfl) (by unfold maxLen; omega) (by omega) (by simp) ?_
      intro v' w1 hown hgrow _
      have HO : Hid (OwnBo w1 w.heap.size v' L) := hid0 (by simpa [OwnBo] using hown)
      have HB : Hid (Below w.heap.size w w1) := hid0 (((Below.refl _ w).alloc (Nat.le_refl _) _).grown hgrow (by simp) (fun k hk => by have hk' : some w.heap.size = some k := hk; injection hk' with hk'; omega))
      clear hown hgrow)))
    go_ret
    exact ⟨_, rfl, HO.out, HB.out⟩
theorem make_rows (n : Nat) (w : World) (hn : n ≤ 1000000000) : ∃ w', (Instr.makeSlice 22 (.int .i64 (n : Int)) (.int .i64 (n : Int))).run Tryd.prog w = .ok (.slice (some ⟨w.heap.size, 0, none⟩) n n) w' ∧ (∃ vs, w'.ownsRow w.heap.size 28 1 (.slice (some ⟨w.heap.size, 0, none⟩) n n) n vs) ∧ Below w.heap.size w w' := by
  obtain ⟨i, hi, hz0, hz1, hz2⟩ := info_parts infoInts
  obtain ⟨w', h1, h2, h3⟩ := run_make_full (P := Tryd.prog) w w.heap.size 22 28 i (.slice none 0 0) 1 Tryd.underlying22 hi hz0 hz1 .i64 .i64 n (by rw [hz2]; omega) (by unfold maxLen; omega) (Nat.le_refl _)
  exact ⟨w', h1, ⟨_, h2⟩, (Below.refl _ _).grown h3 (Nat.le_refl _) (fun k hk => by cases hk)⟩
/-- Copies, up to k. -/
structure Cps (w : World) (g n k : Nat) (L : List (List Int)) (vs : List Value) : Prop where
  own : w.ownsRow g 28 1 (.slice (some ⟨g, 0, none⟩) n n) n vs
  row : ∀ j (h : j < L.length), j < k → ∃ a c, vs[j]? = some (.slice a (L[j]).length c) ∧ IA w a L[j] ∧ (L[j]).length ≤ c ∧ ∀ p, a = some p → g < p.block
theorem Cps.past {w w' : World} {g n k : Nat} {L : List (List Int)} {vs : List Value} (h : Cps w g n k L vs) (hb : Below w.heap.size w w') : Cps w' g n k L vs :=
  ⟨own_blk h.own (fun q hq => hb.block q (World.ownsRow.lt h.own q hq).2), fun j hj hk => by
    obtain ⟨a, c, h1, h2, h3, h4⟩ := h.row j hj hk
    exact ⟨a, c, h1, h2.past hb, h3, h4⟩⟩
theorem Cps.put {w : World} {g n k : Nat} {L : List (List Int)} {vs : List Value} (h : Cps w g n k L vs) (hk : k < L.length) (hn : n = L.length) {a : Option Addr} {c : Nat} (hia : IA w a L[k]) (hc : (L[k]).length ≤ c) (ha : ∀ p, a = some p → g < p.block) :
    Cps (w.setCell ⟨g, k, none⟩ (.slice a (L[k]).length c)) g n (k + 1) L (vs.set k (.slice a (L[k]).length c)) := by
  have hvs : vs.length = n := by have := h.own.1; omega
  have ho := Only.setCell w g k (.slice a (L[k]).length c)
  have keep : ∀ {a' : Option Addr} {l : List Int}, IA w a' l → (∀ p, a' = some p → g < p.block) → IA (w.setCell ⟨g, k, none⟩ (.slice a (L[k]).length c)) a' l := fun hi hp => ⟨fun j hj => by
    obtain ⟨b, off, rfl, q1, q2⟩ := hi.at' j hj
    have := hp _ rfl
    exact ⟨b, off, rfl, Nat.lt_of_lt_of_le q1 ho.size, (ho.cell (p := ⟨b, off + j, none⟩) q1 (fun e => by simp only at this e; omega)).trans q2⟩⟩
  refine ⟨(World.ownsRow.stored h.own k _).1, fun j hj hjk => ?_⟩
  by_cases e : j = k
  · subst e
    exact ⟨a, c, by rw [List.getElem?_set, if_pos rfl, if_pos (by omega)], keep hia ha, hc, ha⟩
  · obtain ⟨a', c', h1, h2, h3, h4⟩ := h.row j hj (by omega)
    exact ⟨a', c', by rw [List.getElem?_set, if_neg (fun q => e q.symm)]; exact h1, keep h2 h4, h3, h4⟩
theorem Cps.keep {w V : World} {g n k : Nat} {L : List (List Int)} {vs : List Value} (h : Cps w g n k L vs) (ha : Agree w V g) : Cps V g n k L vs :=
  ⟨own_agree h.own ha, fun j hj hk => by
    obtain ⟨a, c, h1, h2, h3, h4⟩ := h.row j hj hk
    refine ⟨a, c, h1, ⟨fun q hq => ?_⟩, h3, h4⟩
    obtain ⟨b, off, rfl, q1, q2⟩ := h2.at' q hq
    have := h4 _ rfl
    exact ⟨b, off, rfl, Nat.lt_of_lt_of_le q1 ha.size, (World.cell?_of_block (w := w) (a := ⟨b, off + q, none⟩) (ha.block b (Nat.le_of_lt this) q1)).trans q2⟩⟩
theorem Cps.rwc {w : World} {g n : Nat} {L : List (List Int)} {vs : List Value} (h : Cps w g n L.length L vs) (hn : n = L.length) : RwC w (some ⟨g, 0, none⟩) L := ⟨fun k hk => by
  obtain ⟨a, c, h1, h2, h3, _⟩ := h.row k hk hk
  refine ⟨g, 0, rfl, (World.ownsRow.lt h.own g rfl).2, a, c, ?_, h2, h3⟩
  rw [Nat.zero_add, World.ownsRow.cellAt h.own k (by omega)]
  exact h1⟩
set_option maxRecDepth 10000 in
set_option maxHeartbeats 1000000 in
theorem copyLists_any (L : List (List Int)) (a : Option Addr) (c : Nat) (w : World) (hl : L.length ≤ 1000000000) (hr : ∀ r ∈ L, r.length ≤ 1000000000) (ha : RwC w a L) :
    Calls Tryd.prog 64 #[.slice a L.length c] w fun e w' => ∃ g, e = .returned (.slice (some ⟨g, 0, none⟩) L.length L.length) ∧ (∀ V : World, Agree w' V w.heap.size → RwC V (some ⟨g, 0, none⟩) L) ∧ Below w.heap.size w w' := by
  have HA := hid0 ha
  have HR := hid0 hr
  obtain ⟨w1, hmk, ⟨vs0, ho1⟩, hb1⟩ := make_rows L.length w hl
  have HC0 : Hid (Cps w1 w.heap.size L.length 0 L vs0) := hid0 ⟨ho1, fun j _ h => absurd h (Nat.not_lt_zero _)⟩
  have HB1 := hid0 hb1
  clear ha hr ho1 hb1
  go_enter Tryd.func64, Tryd.ntmps64
  go_upto_region 2 with (fail)
  clear hmk
  go_wp2
  go_loopw [11] (fun x wr => ∃ (k : Nat) (vs : List Value), k ≤ L.length ∧ x = .int .i64 (k : Int) ∧ Hid (Cps wr w.heap.size L.length k L vs) ∧ Hid (Below w.heap.size w wr)) (fun x _ => L.length - (intOf x).toNat)
  case atStart => exact ⟨0, vs0, Nat.zero_le _, rfl, HC0, HB1⟩
  case round =>
    clear HC0 HB1
    obtain ⟨k, vs, hk, rfl, HC, HB⟩ := hrel
    by_cases hlt : k < L.length
    · have hkI : (k : Int) < (L.length : Int) := by omega
      have hkI0 : (0 : Int) ≤ (k : Int) := by omega
      obtain ⟨b, off, rfl, hbl, a1, c1, d1, i1, _⟩ := (HA.out.past HB.out).at' k hlt
      have HCl := hid0 (cloneI_any L[k] a1 c1 wr (HR.out _ (List.getElem_mem hlt)) i1)
      have HPut : Hid (∀ (V : World), Below wr.heap.size wr V → ∀ (a2 : Option Addr) (c2 : Nat), IA V a2 L[k] → (L[k]).length ≤ c2 → (∀ p, a2 = some p → w.heap.size < p.block) → Cps (V.setCell ⟨w.heap.size, k, none⟩ (.slice a2 (L[k]).length c2)) w.heap.size L.length (k + 1) L (vs.set k (.slice a2 (L[k]).length c2))) := hid0 (fun V hV a2 c2 q1 q2 q3 => (HC.out.past hV).put hlt rfl q1 q2 q3)
      have HOw : Hid (∀ V : World, Below wr.heap.size wr V → (∃ u, V.cell? ⟨w.heap.size, k, none⟩ = some u) ∧ V.frozen? ⟨w.heap.size, k, none⟩ = false) := hid0 (fun V hV => by
        have ho := (HC.out.past hV).own
        have hvl : vs.length = L.length := by have := ho.1; omega
        refine ⟨⟨vs[k]'(by omega), ?_⟩, World.ownsRow.frozenAt ho k⟩
        rw [World.ownsRow.cellAt ho k (by omega), List.getElem?_eq_getElem])
      have hgs : w.heap.size < wr.heap.size := (World.ownsRow.lt HC.out.own w.heap.size rfl).2
      generalize L[k] = s at *
      clear i1 hbl
      go_wp2_with (go_at_call 26; go_loud ((
        refine HCl.out.mono ?_
        rintro e w2 ⟨v, rfl, ho, hb⟩
        obtain ⟨a2, c2, rfl, hi2, hc2, hp2⟩ := own_slice ho
        have HP2 := hid0 (HPut.out w2 hb a2 c2 hi2 hc2 (fun p hp => by have := hp2 p hp; omega))
        obtain ⟨⟨u0, y0⟩, y1⟩ := HOw.out w2 hb
        have HB2 : Hid (Below w.heap.size w (w2.setCell ⟨w.heap.size, k, none⟩ (.slice a2 s.length c2))) := hid0 ((HB.out.trans (hb.mono HB.out.size)).trans ((Only.setCell _ _ _ _).below (by have := hb.size; omega) (fun i hi => by omega)))
        clear ho hb hi2 hc2 hp2 HCl HPut HOw)))
      go_roundw
      case rel => exact ⟨k + 1, _, hlt, by go_num, HP2, HB2⟩
      case measure => simp [intOf]; omega
    · have hkI : ¬ (k : Int) < (L.length : Int) := by omega
      have HE : Hid (∀ V : World, Agree wr V w.heap.size → RwC V (some ⟨w.heap.size, 0, none⟩) L) := hid0 (fun V hV => by have h := HC.out.keep hV; rw [show k = L.length by omega] at h; exact h.rwc rfl)
      go_wp2
      go_ret
      exact ⟨_, rfl, HE.out, HB.out⟩
end Go.Proofs.YtekimkdaoblcgaaDoor
namespace Go.Proofs.YtekimkdaoblcgaaDoor
open Go.RowKit Go.Shelf Go.Maps
theorem Agree.trans {a b c : World} {lo : Nat} (h : Agree a b lo) (k : Agree b c lo) : Agree a c lo := ⟨Nat.le_trans h.size k.size, fun i h1 h2 => (k.block i h1 (Nat.lt_of_lt_of_le h2 h.size)).trans (h.block i h1 h2)⟩
theorem Agree.raise {a b : World} {lo lo' : Nat} (h : Agree a b lo) (hl : lo ≤ lo') : Agree a b lo' := ⟨h.size, fun i h1 h2 => h.block i (by omega) h2⟩
theorem Agree.ofB {a b : World} {lo : Nat} (h : Below a.heap.size a b) : Agree a b lo := ⟨h.size, fun i _ h2 => h.block i h2⟩
def MchR (w : World) (st : Int) (N O : List (List Int)) (e : Ending) (w' : World) : Prop := ∃ g1 g2, e = .returned (.agg #[.int .i64 st, .slice (some ⟨g1, 0, none⟩) N.length N.length, .slice (some ⟨g2, 0, none⟩) O.length O.length]) ∧ (∀ V : World, Agree w' V w.heap.size → RwC V (some ⟨g1, 0, none⟩) N ∧ RwC V (some ⟨g2, 0, none⟩) O) ∧ Below w.heap.size w w'
set_option maxRecDepth 100000 in
set_option maxHeartbeats 1600000 in
theorem copyMach_any (st : Int) (N O : List (List Int)) (aN aO : Option Addr) (cN cO : Nat) (w : World) (hN : N.length ≤ 1000000000) (hO : O.length ≤ 1000000000) (rN : ∀ r ∈ N, r.length ≤ 1000000000) (rO : ∀ r ∈ O, r.length ≤ 1000000000) (iN : RwC w aN N) (iO : RwC w aO O) :
    Calls Tryd.prog 41 #[.agg #[.int .i64 st, .slice aN N.length cN, .slice aO O.length cO]] w fun e w' => MchR w st N O e w' := by
  obtain ⟨W0, hW0⟩ : ∃ W0, W0 = w.alloc (.cells #[.int .i64 st, .slice aN N.length cN, .slice aO O.length cO] 24) := ⟨_, rfl⟩
  obtain ⟨W1, hW1⟩ : ∃ W1, W1 = W0.alloc (.cells #[.int .i64 0, .slice none 0 0, .slice none 0 0] 24) := ⟨_, rfl⟩
  have s0 : W0.heap.size = w.heap.size + 1 := by rw [hW0]; simp
  have s1 : W1.heap.size = w.heap.size + 2 := by rw [hW1]; simp [s0]
  have b0 : Below w.heap.size w W0 := by rw [hW0]; exact (Below.refl _ _).alloc (Nat.le_refl _) _
  have b1 : Below W0.heap.size W0 W1 := by rw [hW1]; exact (Below.refl _ _).alloc (Nat.le_refl _) _
  have r0 : W0.heap[w.heap.size]? = some (.cells #[.int .i64 st, .slice aN N.length cN, .slice aO O.length cO] 24 (0, 0)) := by rw [hW0]; exact heap_alloc_new _ _
  have r1 : W1.heap[w.heap.size + 1]? = some (.cells #[.int .i64 0, .slice none 0 0, .slice none 0 0] 24 (0, 0)) := by rw [hW1, ← s0]; exact heap_alloc_new _ _
  have HSo : Hid (∀ V : World, Below (w.heap.size + 1) W1 V → V.cell? ⟨w.heap.size, 0, none⟩ = some (.int .i64 st) ∧ V.cell? ⟨w.heap.size, 1, none⟩ = some (.slice aN N.length cN) ∧ V.cell? ⟨w.heap.size, 2, none⟩ = some (.slice aO O.length cO) ∧ Below (w.heap.size + 1) W1 V) := hid0 (fun V hV => by
    have hr := ((hV.block w.heap.size (by omega)).trans (b1.block w.heap.size (by omega))).trans r0
    exact ⟨by rw [cell_of_row _ _ _ _ _ _ hr]; rfl, by rw [cell_of_row _ _ _ _ _ _ hr]; rfl, by rw [cell_of_row _ _ _ _ _ _ hr]; rfl, hV⟩)
  have HL1 : Hid (∀ V : World, Below (w.heap.size + 1) W1 V → Calls Tryd.prog 64 #[.slice aN N.length cN] V fun e w' => (∃ g, e = .returned (.slice (some ⟨g, 0, none⟩) N.length N.length) ∧ Hid (∀ U : World, Agree w' U V.heap.size → RwC U (some ⟨g, 0, none⟩) N) ∧ Hid (Below V.heap.size V w')) ∧ Below (w.heap.size + 1) W1 w') := hid0 (fun V hV => (copyLists_any N aN cN V hN rN (iN.past (b0.trans ((b1.mono (by omega)).trans (hV.mono (by omega)))))).mono (by
    rintro e w' ⟨g, h1, h2, h3⟩
    exact ⟨⟨g, h1, hid0 h2, hid0 h3⟩, hV.trans (h3.mono (by have := hV.size; omega))⟩))
  have HL2 : Hid (∀ V : World, Below (w.heap.size + 1) W1 V → Calls Tryd.prog 64 #[.slice aO O.length cO] V fun e w' => (∃ g, e = .returned (.slice (some ⟨g, 0, none⟩) O.length O.length) ∧ Hid (∀ U : World, Agree w' U V.heap.size → RwC U (some ⟨g, 0, none⟩) O) ∧ Hid (Below V.heap.size V w')) ∧ Below (w.heap.size + 1) W1 w') := hid0 (fun V hV => (copyLists_any O aO cO V hO rO (iO.past (b0.trans ((b1.mono (by omega)).trans (hV.mono (by omega)))))).mono (by
    rintro e w' ⟨g, h1, h2, h3⟩
    exact ⟨⟨g, h1, hid0 h2, hid0 h3⟩, hV.trans (h3.mono (by have := hV.size; omega))⟩))
  have HR1 := hid0 r1
  have HBw : Hid (Below w.heap.size w W1) := hid0 (b0.trans (b1.mono (by omega)))
  have f0 := hW0.symm
  have f1 := hW1.symm
  obtain ⟨x0, x1, x2, _⟩ := HSo.out W1 (Below.refl _ _)
  have M1 : Hid True := trivial
  clear b0 b1 r0 r1 hW0 hW1 iN iO rN rO
  go_enter Tryd.func41, Tryd.ntmps41
  go_upto_region 1 with (fail)
  clear f0 f1
  go_region_held3 (fun W => W.cell? ⟨w.heap.size, 0, none⟩ = some (.int .i64 st) ∧ W.cell? ⟨w.heap.size, 1, none⟩ = some (.slice aN N.length cN) ∧ W.cell? ⟨w.heap.size, 2, none⟩ = some (.slice aO O.length cO) ∧ Below (w.heap.size + 1) W1 W) (first | exact HSo.out _ (by go_grown) | (go_split_ands; exact HSo.out _ (by go_grown)) | (go_split_ands; exact HSo.out _ (by assumption)))
    (first
      | (go_at_call 64; clear M1; go_split_ands; refine (HL1.out _ (by go_grown)).mono ?_; rintro e w2 ⟨⟨g1, rfl, HA1, HB1⟩, hx⟩; have HR2 : Hid (w2.heap[w.heap.size + 1]? = some (.cells #[.int .i64 0, .slice none 0 0, .slice none 0 0] 24 (0, 0))) := hid0 ((HB1.out.block _ (Array.getElem?_eq_some_iff.1 HR1.out).1).trans HR1.out))
      | (go_at_call 64; go_split_ands; refine (HL2.out _ (by go_grown)).mono ?_; rintro e w3 ⟨⟨g2, rfl, HA2, HB2⟩, hy⟩; have HR3 : Hid (w3.heap[w.heap.size + 1]? = some (.cells #[.int .i64 0, .slice none 0 0, .slice none 0 0] 24 (0, 0))) := hid0 ((HB2.out.block _ (Array.getElem?_eq_some_iff.1 HR2.out).1).trans HR2.out); have y0 : w3.cell? ⟨w.heap.size + 1, 0, none⟩ = some (.int .i64 0) := (cell_of_row _ _ _ _ _ _ HR3.out).trans rfl; have y1 : w3.cell? ⟨w.heap.size + 1, 1, none⟩ = some (.slice none 0 0) := (cell_of_row _ _ _ _ _ _ HR3.out).trans rfl; have y2 : w3.cell? ⟨w.heap.size + 1, 2, none⟩ = some (.slice none 0 0) := (cell_of_row _ _ _ _ _ _ HR3.out).trans rfl; have z0 : w3.frozen? ⟨w.heap.size + 1, 0, none⟩ = false := (by simp [World.frozen?, HR3.out]); have z1 : w3.frozen? ⟨w.heap.size + 1, 1, none⟩ = false := (by simp [World.frozen?, HR3.out]); have z2 : w3.frozen? ⟨w.heap.size + 1, 2, none⟩ = false := (by simp [World.frozen?, HR3.out])))
  go_split_ands
  have HW3 : Hid (Below w.heap.size w w3 ∧ Agree w2 w3 W1.heap.size) := hid0 ⟨HBw.out.trans (hy.mono (by omega)), Agree.ofB HB2.out⟩
  obtain ⟨W4, hW4⟩ : ∃ W4, W4 = ((w3.setCell ⟨w.heap.size + 1, 0, none⟩ (.int .i64 st)).setCell ⟨w.heap.size + 1, 1, none⟩ (.slice (some ⟨g1, 0, none⟩) N.length N.length)).setCell ⟨w.heap.size + 1, 2, none⟩ (.slice (some ⟨g2, 0, none⟩) O.length O.length) := ⟨_, rfl⟩
  have hr4 : W4.heap[w.heap.size + 1]? = some (.cells #[.int .i64 st, .slice (some ⟨g1, 0, none⟩) N.length N.length, .slice (some ⟨g2, 0, none⟩) O.length O.length] 24 (0, 0)) := by
    rw [hW4]
    exact heap_setCell_same _ _ 2 _ _ _ (heap_setCell_same _ _ 1 _ _ _ (heap_setCell_same _ _ 0 _ _ _ HR3.out))
  have HO4 : Hid (Only w3 W4 (fun b => b = w.heap.size + 1)) := hid0 (by
    rw [hW4]
    exact ((Only.setCell _ _ _ _).trans (Only.setCell _ _ _ _) (fun i hi => .inl hi)).trans (Only.setCell _ _ _ _) (fun i hi => .inl hi))
  have v0 : W4.cell? ⟨w.heap.size + 1, 0, none⟩ = some (.int .i64 st) := (cell_of_row _ _ _ _ _ _ hr4).trans rfl
  have v1 : W4.cell? ⟨w.heap.size + 1, 1, none⟩ = some (.slice (some ⟨g1, 0, none⟩) N.length N.length) := (cell_of_row _ _ _ _ _ _ hr4).trans rfl
  have v2 : W4.cell? ⟨w.heap.size + 1, 2, none⟩ = some (.slice (some ⟨g2, 0, none⟩) O.length O.length) := (cell_of_row _ _ _ _ _ _ hr4).trans rfl
  have HR : Hid (MchR w st N O (.returned (.agg #[.int .i64 st, .slice (some ⟨g1, 0, none⟩) N.length N.length, .slice (some ⟨g2, 0, none⟩) O.length O.length])) W4) := hid0 (by
    have hs3 : w.heap.size + 1 < w3.heap.size := (Array.getElem?_eq_some_iff.1 HR3.out).1
    have hA34 : Agree w3 W4 W1.heap.size := (Agree.refl w3 _).only HO4.out (fun k hk => by omega)
    refine ⟨g1, g2, rfl, fun V hV => ⟨HA1.out V ((HW3.out.2.trans hA34).trans (hV.raise (by omega))), HA2.out V ((hA34.trans (hV.raise (by omega))).raise ?_)⟩, HW3.out.1.trans (HO4.out.below (by omega) (fun i hi => by omega))⟩
    exact HB1.out.size)
  rw [← hW4]
  have HR4 := hid0 hr4
  clear hW4 hr4 y0 y1 y2 z0 z1 z2 hx hy x0 x1 x2
  go_wp2
  refine bodyPost_ret (results_cell_row rfl _ _ (w.heap.size + 1) 24 _ _ _ rfl HR4.out Tryd.underlying24 rfl (by kernel_rfl)) rfl ?_
  exact HR.out
end Go.Proofs.YtekimkdaoblcgaaDoor
namespace Go.Proofs.YtekimkdaoblcgaaDoor
open Go.RowKit Go.Shelf Go.Maps
def CpR (w : World) (p : Prg) (e : Ending) (w' : World) : Prop := ∃ q : PrL, e = .returned (.agg #[.int .i64 p.sl, .slice q.aN p.N.length q.cN, .slice q.aO p.O.length q.cO, .int .i64 p.sr, .slice q.aM p.M.length q.cM, .slice q.aP p.P.length q.cP, .slice q.aB p.B.length q.cB, .bool p.el]) ∧ (∀ V : World, Agree w' V w.heap.size → PrA V p q) ∧ Below w.heap.size w w'
theorem BoA.own {w : World} {base : Nat} {a : Option Addr} {n cap : Nat} {B : List Bool} (h : OwnBo w base (.slice a n cap) B) : BoA w a B := by
  obtain ⟨a', c', e, hb⟩ := h.ba
  injection e with e1
  rw [e1]
  exact hb
set_option maxRecDepth 100000 in
set_option maxHeartbeats 4000000 in
theorem copyOf_any (p : Prg) (q : PrL) (w : World) (hs : PrS p) (hO : p.O.length ≤ 1000000000) (hP : p.P.length ≤ 1000000000) (h : PrA w p q) :
    Calls Tryd.prog 25 #[.agg #[.int .i64 p.sl, .slice q.aN p.N.length q.cN, .slice q.aO p.O.length q.cO, .int .i64 p.sr, .slice q.aM p.M.length q.cM, .slice q.aP p.P.length q.cP, .slice q.aB p.B.length q.cB, .bool p.el]] w fun e w' => CpR w p e w' := by
  obtain ⟨W0, hW0⟩ : ∃ W0, W0 = w.alloc (.cells #[.int .i64 p.sl, .slice q.aN p.N.length q.cN, .slice q.aO p.O.length q.cO, .int .i64 p.sr, .slice q.aM p.M.length q.cM, .slice q.aP p.P.length q.cP, .slice q.aB p.B.length q.cB, .bool p.el] 27) := ⟨_, rfl⟩
  obtain ⟨W1, hW1⟩ : ∃ W1, W1 = W0.alloc (.cells #[.int .i64 0, .slice none 0 0, .slice none 0 0, .int .i64 0, .slice none 0 0, .slice none 0 0, .slice none 0 0, .bool false] 27) := ⟨_, rfl⟩
  have s0 : W0.heap.size = w.heap.size + 1 := by rw [hW0]; simp
  have s1 : W1.heap.size = w.heap.size + 2 := by rw [hW1]; simp [s0]
  have b0 : Below w.heap.size w W0 := by rw [hW0]; exact (Below.refl _ _).alloc (Nat.le_refl _) _
  have b1 : Below W0.heap.size W0 W1 := by rw [hW1]; exact (Below.refl _ _).alloc (Nat.le_refl _) _
  have r0 : W0.heap[w.heap.size]? = some (.cells #[.int .i64 p.sl, .slice q.aN p.N.length q.cN, .slice q.aO p.O.length q.cO, .int .i64 p.sr, .slice q.aM p.M.length q.cM, .slice q.aP p.P.length q.cP, .slice q.aB p.B.length q.cB, .bool p.el] 27 (0, 0)) := by rw [hW0]; exact heap_alloc_new _ _
  have r1 : W1.heap[w.heap.size + 1]? = some (.cells #[.int .i64 0, .slice none 0 0, .slice none 0 0, .int .i64 0, .slice none 0 0, .slice none 0 0, .slice none 0 0, .bool false] 27 (0, 0)) := by rw [hW1, ← s0]; exact heap_alloc_new _ _
  have HSo : Hid (∀ V : World, Below (w.heap.size + 1) W1 V → V.cell? ⟨w.heap.size, 0, none⟩ = some (.int .i64 p.sl) ∧ V.cell? ⟨w.heap.size, 1, none⟩ = some (.slice q.aN p.N.length q.cN) ∧ V.cell? ⟨w.heap.size, 2, none⟩ = some (.slice q.aO p.O.length q.cO) ∧ V.cell? ⟨w.heap.size, 3, none⟩ = some (.int .i64 p.sr) ∧ V.cell? ⟨w.heap.size, 4, none⟩ = some (.slice q.aM p.M.length q.cM) ∧ V.cell? ⟨w.heap.size, 5, none⟩ = some (.slice q.aP p.P.length q.cP) ∧ V.cell? ⟨w.heap.size, 6, none⟩ = some (.slice q.aB p.B.length q.cB) ∧ V.cell? ⟨w.heap.size, 7, none⟩ = some (.bool p.el) ∧ Below (w.heap.size + 1) W1 V) := hid0 (fun V hV => by
    have hr := ((hV.block w.heap.size (by omega)).trans (b1.block w.heap.size (by omega))).trans r0
    refine ⟨?_, ?_, ?_, ?_, ?_, ?_, ?_, ?_, hV⟩ <;> (rw [cell_of_row _ _ _ _ _ _ hr]; rfl))
  have HL1 : Hid (∀ V : World, Below (w.heap.size + 1) W1 V → Calls Tryd.prog 41 #[.agg #[.int .i64 p.sl, .slice q.aN p.N.length q.cN, .slice q.aO p.O.length q.cO]] V fun e w' => (∃ g g', e = .returned (.agg #[.int .i64 p.sl, .slice (some ⟨g, 0, none⟩) p.N.length p.N.length, .slice (some ⟨g', 0, none⟩) p.O.length p.O.length]) ∧ Hid (∀ U : World, Agree w' U V.heap.size → RwC U (some ⟨g, 0, none⟩) p.N ∧ RwC U (some ⟨g', 0, none⟩) p.O) ∧ Hid (Below V.heap.size V w')) ∧ Below (w.heap.size + 1) W1 w') := hid0 (fun V hV => (copyMach_any p.sl p.N p.O q.aN q.aO q.cN q.cO V hs.n hO hs.nr hs.or ((h.past (b0.trans ((b1.mono (by omega)).trans (hV.mono (by omega))))).n) ((h.past (b0.trans ((b1.mono (by omega)).trans (hV.mono (by omega))))).o)).mono (by
    rintro e w' ⟨g, g', h1, h2, h3⟩
    exact ⟨⟨g, g', h1, hid0 h2, hid0 h3⟩, hV.trans (h3.mono (by have := hV.size; omega))⟩))
  have HL2 : Hid (∀ V : World, Below (w.heap.size + 1) W1 V → Calls Tryd.prog 41 #[.agg #[.int .i64 p.sr, .slice q.aM p.M.length q.cM, .slice q.aP p.P.length q.cP]] V fun e w' => (∃ g g', e = .returned (.agg #[.int .i64 p.sr, .slice (some ⟨g, 0, none⟩) p.M.length p.M.length, .slice (some ⟨g', 0, none⟩) p.P.length p.P.length]) ∧ Hid (∀ U : World, Agree w' U V.heap.size → RwC U (some ⟨g, 0, none⟩) p.M ∧ RwC U (some ⟨g', 0, none⟩) p.P) ∧ Hid (Below V.heap.size V w')) ∧ Below (w.heap.size + 1) W1 w') := hid0 (fun V hV => (copyMach_any p.sr p.M p.P q.aM q.aP q.cM q.cP V hs.m hP hs.mr hs.pr ((h.past (b0.trans ((b1.mono (by omega)).trans (hV.mono (by omega))))).m) ((h.past (b0.trans ((b1.mono (by omega)).trans (hV.mono (by omega))))).p')).mono (by
    rintro e w' ⟨g, g', h1, h2, h3⟩
    exact ⟨⟨g, g', h1, hid0 h2, hid0 h3⟩, hV.trans (h3.mono (by have := hV.size; omega))⟩))
  have HL3 : Hid (∀ V : World, Below (w.heap.size + 1) W1 V → Calls Tryd.prog 42 #[.slice q.aB p.B.length q.cB] V fun e w' => (∃ a c, e = .returned (.slice a p.B.length c) ∧ Hid (OwnBo w' V.heap.size (.slice a p.B.length c) p.B) ∧ Hid (Below V.heap.size V w')) ∧ Below (w.heap.size + 1) W1 w') := hid0 (fun V hV => (cloneB_any p.B q.aB q.cB V hs.b ((h.past (b0.trans ((b1.mono (by omega)).trans (hV.mono (by omega))))).b)).mono (by
    rintro e w' ⟨v, h1, h2, h3⟩
    obtain ⟨a, c, rfl, _⟩ := h2.ba
    exact ⟨⟨a, c, h1, hid0 h2, hid0 h3⟩, hV.trans (h3.mono (by have := hV.size; omega))⟩))
  have HR1 := hid0 r1
  have HBw : Hid (Below w.heap.size w W1) := hid0 (b0.trans (b1.mono (by omega)))
  have f0 := hW0.symm
  have f1 := hW1.symm
  obtain ⟨x0, x1, x2, x3, x4, x5, x6, x7, _⟩ := HSo.out W1 ((Below.refl _ _))
  have M1 : Hid True := trivial
  clear b0 b1 r0 r1 hW0 hW1 hs h hO hP
  go_enter Tryd.func25, Tryd.ntmps25
  go_upto_region 1 with (fail)
  clear f0 f1
  go_region_held3 (fun W => W.cell? ⟨w.heap.size, 0, none⟩ = some (.int .i64 p.sl) ∧ W.cell? ⟨w.heap.size, 1, none⟩ = some (.slice q.aN p.N.length q.cN) ∧ W.cell? ⟨w.heap.size, 2, none⟩ = some (.slice q.aO p.O.length q.cO) ∧ W.cell? ⟨w.heap.size, 3, none⟩ = some (.int .i64 p.sr) ∧ W.cell? ⟨w.heap.size, 4, none⟩ = some (.slice q.aM p.M.length q.cM) ∧ W.cell? ⟨w.heap.size, 5, none⟩ = some (.slice q.aP p.P.length q.cP) ∧ W.cell? ⟨w.heap.size, 6, none⟩ = some (.slice q.aB p.B.length q.cB) ∧ W.cell? ⟨w.heap.size, 7, none⟩ = some (.bool p.el) ∧ Below (w.heap.size + 1) W1 W) (first | exact HSo.out _ (by go_grown) | (go_split_ands; exact HSo.out _ (by go_grown)) | (go_split_ands; exact HSo.out _ (by assumption)))
    (first
      | (go_at_call 42; go_split_ands; refine (HL3.out _ (by go_grown)).mono ?_; rintro e w4 ⟨⟨aB, cB, rfl, HA3, HB3⟩, hz⟩; have HR4 : Hid (w4.heap[w.heap.size + 1]? = some (.cells #[.int .i64 0, .slice none 0 0, .slice none 0 0, .int .i64 0, .slice none 0 0, .slice none 0 0, .slice none 0 0, .bool false] 27 (0, 0))) := hid0 ((HB3.out.block _ (Array.getElem?_eq_some_iff.1 HR3.out).1).trans HR3.out); have y0 : w4.cell? ⟨w.heap.size + 1, 0, none⟩ = some (.int .i64 0) := (cell_of_row _ _ _ _ _ _ HR4.out).trans rfl; have y1 : w4.cell? ⟨w.heap.size + 1, 1, none⟩ = some (.slice none 0 0) := (cell_of_row _ _ _ _ _ _ HR4.out).trans rfl; have y2 : w4.cell? ⟨w.heap.size + 1, 2, none⟩ = some (.slice none 0 0) := (cell_of_row _ _ _ _ _ _ HR4.out).trans rfl; have y3 : w4.cell? ⟨w.heap.size + 1, 3, none⟩ = some (.int .i64 0) := (cell_of_row _ _ _ _ _ _ HR4.out).trans rfl; have y4 : w4.cell? ⟨w.heap.size + 1, 4, none⟩ = some (.slice none 0 0) := (cell_of_row _ _ _ _ _ _ HR4.out).trans rfl; have y5 : w4.cell? ⟨w.heap.size + 1, 5, none⟩ = some (.slice none 0 0) := (cell_of_row _ _ _ _ _ _ HR4.out).trans rfl; have y6 : w4.cell? ⟨w.heap.size + 1, 6, none⟩ = some (.slice none 0 0) := (cell_of_row _ _ _ _ _ _ HR4.out).trans rfl; have y7 : w4.cell? ⟨w.heap.size + 1, 7, none⟩ = some (.bool false) := (cell_of_row _ _ _ _ _ _ HR4.out).trans rfl; have z0 : w4.frozen? ⟨w.heap.size + 1, 0, none⟩ = false := (by simp [World.frozen?, HR4.out]); have z1 : w4.frozen? ⟨w.heap.size + 1, 1, none⟩ = false := (by simp [World.frozen?, HR4.out]); have z2 : w4.frozen? ⟨w.heap.size + 1, 2, none⟩ = false := (by simp [World.frozen?, HR4.out]); have z3 : w4.frozen? ⟨w.heap.size + 1, 3, none⟩ = false := (by simp [World.frozen?, HR4.out]); have z4 : w4.frozen? ⟨w.heap.size + 1, 4, none⟩ = false := (by simp [World.frozen?, HR4.out]); have z5 : w4.frozen? ⟨w.heap.size + 1, 5, none⟩ = false := (by simp [World.frozen?, HR4.out]); have z6 : w4.frozen? ⟨w.heap.size + 1, 6, none⟩ = false := (by simp [World.frozen?, HR4.out]); have z7 : w4.frozen? ⟨w.heap.size + 1, 7, none⟩ = false := (by simp [World.frozen?, HR4.out]))
      | (go_at_call 41; clear M1; go_split_ands; refine (HL1.out _ (by go_grown)).mono ?_; rintro e w2 ⟨⟨g1, g2, rfl, HA1, HB1⟩, hx⟩; have HR2 : Hid (w2.heap[w.heap.size + 1]? = some (.cells #[.int .i64 0, .slice none 0 0, .slice none 0 0, .int .i64 0, .slice none 0 0, .slice none 0 0, .slice none 0 0, .bool false] 27 (0, 0))) := hid0 ((HB1.out.block _ (Array.getElem?_eq_some_iff.1 HR1.out).1).trans HR1.out))
      | (go_at_call 41; go_split_ands; refine (HL2.out _ (by go_grown)).mono ?_; rintro e w3 ⟨⟨g3, g4, rfl, HA2, HB2⟩, hy⟩; have HR3 : Hid (w3.heap[w.heap.size + 1]? = some (.cells #[.int .i64 0, .slice none 0 0, .slice none 0 0, .int .i64 0, .slice none 0 0, .slice none 0 0, .slice none 0 0, .bool false] 27 (0, 0))) := hid0 ((HB2.out.block _ (Array.getElem?_eq_some_iff.1 HR2.out).1).trans HR2.out)))
  go_split_ands
  have HW4 : Hid (Below w.heap.size w w4 ∧ Agree w2 w4 W1.heap.size ∧ Agree w3 w4 W1.heap.size) := hid0 ⟨HBw.out.trans (hz.mono (by omega)), (Agree.ofB HB2.out).trans (Agree.ofB HB3.out), Agree.ofB HB3.out⟩
  obtain ⟨W5, hW5⟩ : ∃ W5, W5 = ((((((((w4.setCell ⟨w.heap.size + 1, 0, none⟩ (.int .i64 p.sl)).setCell ⟨w.heap.size + 1, 1, none⟩ (.slice (some ⟨g1, 0, none⟩) p.N.length p.N.length)).setCell ⟨w.heap.size + 1, 2, none⟩ (.slice (some ⟨g2, 0, none⟩) p.O.length p.O.length)).setCell ⟨w.heap.size + 1, 3, none⟩ (.int .i64 p.sr)).setCell ⟨w.heap.size + 1, 4, none⟩ (.slice (some ⟨g3, 0, none⟩) p.M.length p.M.length)).setCell ⟨w.heap.size + 1, 5, none⟩ (.slice (some ⟨g4, 0, none⟩) p.P.length p.P.length)).setCell ⟨w.heap.size + 1, 6, none⟩ (.slice aB p.B.length cB)).setCell ⟨w.heap.size + 1, 7, none⟩ (.bool p.el)) := ⟨_, rfl⟩
  have hr5 : W5.heap[w.heap.size + 1]? = some (.cells #[.int .i64 p.sl, .slice (some ⟨g1, 0, none⟩) p.N.length p.N.length, .slice (some ⟨g2, 0, none⟩) p.O.length p.O.length, .int .i64 p.sr, .slice (some ⟨g3, 0, none⟩) p.M.length p.M.length, .slice (some ⟨g4, 0, none⟩) p.P.length p.P.length, .slice aB p.B.length cB, .bool p.el] 27 (0, 0)) := by
    rw [hW5]
    exact (heap_setCell_same _ _ 7 _ _ _ (heap_setCell_same _ _ 6 _ _ _ (heap_setCell_same _ _ 5 _ _ _ (heap_setCell_same _ _ 4 _ _ _ (heap_setCell_same _ _ 3 _ _ _ (heap_setCell_same _ _ 2 _ _ _ (heap_setCell_same _ _ 1 _ _ _ (heap_setCell_same _ _ 0 _ _ _ HR4.out))))))))
  have HO5 : Hid (Only w4 W5 (fun b => b = w.heap.size + 1)) := hid0 (by
    rw [hW5]
    exact ((((((((Only.setCell _ _ _ _).trans (Only.setCell _ _ _ _) (fun i hi => .inl hi)).trans (Only.setCell _ _ _ _) (fun i hi => .inl hi)).trans (Only.setCell _ _ _ _) (fun i hi => .inl hi)).trans (Only.setCell _ _ _ _) (fun i hi => .inl hi)).trans (Only.setCell _ _ _ _) (fun i hi => .inl hi)).trans (Only.setCell _ _ _ _) (fun i hi => .inl hi)).trans (Only.setCell _ _ _ _) (fun i hi => .inl hi)))
  have HR : Hid (CpR w p (.returned (.agg #[.int .i64 p.sl, .slice (some ⟨g1, 0, none⟩) p.N.length p.N.length, .slice (some ⟨g2, 0, none⟩) p.O.length p.O.length, .int .i64 p.sr, .slice (some ⟨g3, 0, none⟩) p.M.length p.M.length, .slice (some ⟨g4, 0, none⟩) p.P.length p.P.length, .slice aB p.B.length cB, .bool p.el])) W5) := hid0 (by
    have hs4 : w.heap.size + 1 < w4.heap.size := (Array.getElem?_eq_some_iff.1 HR4.out).1
    have hA45 : Agree w4 W5 W1.heap.size := (Agree.refl w4 _).only HO5.out (fun k hk => by omega)
    have hl1 := HB1.out.size
    have hl2 := HB2.out.size
    refine ⟨⟨some ⟨g1, 0, none⟩, some ⟨g2, 0, none⟩, some ⟨g3, 0, none⟩, some ⟨g4, 0, none⟩, aB, p.N.length, p.O.length, p.M.length, p.P.length, cB⟩, rfl, fun V hV => ?_, HW4.out.1.trans (HO5.out.below (by omega) (fun i hi => by omega))⟩
    have hV5 : Agree w4 V W1.heap.size := hA45.trans (hV.raise (by omega))
    have q1 := HA1.out V (HW4.out.2.1.trans hV5)
    have q2 := HA2.out V ((HW4.out.2.2.trans hV5).raise hl1)
    exact ⟨q1.1, q1.2, q2.1, q2.2, BoA.own (own_agree HA3.out (hV5.raise (Nat.le_trans hl1 hl2)))⟩)
  rw [← hW5]
  have HR5 := hid0 hr5
  clear hW5 hr5 y0 z0 y1 z1 y2 z2 y3 z3 y4 z4 y5 z5 y6 z6 y7 z7 hx hy hz x0 x1 x2 x3 x4 x5 x6 x7
  go_wp2
  refine bodyPost_ret (results_cell_row rfl _ _ (w.heap.size + 1) 27 _ _ _ rfl HR5.out Tryd.underlying27 rfl (by kernel_rfl)) rfl ?_
  exact HR.out
end Go.Proofs.YtekimkdaoblcgaaDoor
namespace Go.Proofs.YtekimkdaoblcgaaDoor
open Go.RowKit Go.Shelf Go.Maps
theorem fine_len {st : Int} {N O : List (List Int)} {sy nb : Int} (h : chkF st N O sy nb = true) : O.length = N.length := by
  unfold chkF at h
  simp only [Bool.and_eq_true, decide_eq_true_eq, List.all_eq_true, List.mem_range] at h
  obtain ⟨⟨⟨_, _, _, _, _, h6, _⟩, _⟩, _⟩ := h
  exact h6
set_option maxRecDepth 10000 in
set_option maxHeartbeats 800000 in
theorem decider_any (aB : Option Addr) (n cB : Nat) (el : Bool) (bef : Int) (w : World) :
    Calls Tryd.prog 27 #[.slice aB n cB, .bool el, .int .i64 bef] w fun e w' => e = .returned (.func (.func 43) #[] #[.pointer (some ⟨w.heap.size + 2, 0, none⟩), .pointer (some ⟨w.heap.size + 1, 0, none⟩), .pointer (some ⟨w.heap.size, 0, none⟩)]) ∧ w' = ((w.alloc (.cells #[.slice aB n cB] 25)).alloc (.cells #[.bool el] 4)).alloc (.cells #[.int .i64 bef] 3) := by
  go_enter Tryd.func27, Tryd.ntmps27
  go_wp2
  go_ret
  exact ⟨rfl, rfl⟩
set_option maxRecDepth 10000 in
set_option maxHeartbeats 1600000 in
theorem decided_any (B : List Bool) (el : Bool) (bef d : Int) (hd : Bool) (aB : Option Addr) (cB b1 b2 b3 : Nat) (w : World) (k1 : w.cell? ⟨b1, 0, none⟩ = some (.int .i64 bef)) (k2 : w.cell? ⟨b2, 0, none⟩ = some (.bool el)) (k3 : w.cell? ⟨b3, 0, none⟩ = some (.slice aB B.length cB)) (hB : BoA w aB B) (hd1 : d < (B.length : Int)) :
    Calls Tryd.prog 43 #[.int .i64 d, .bool hd, .pointer (some ⟨b1, 0, none⟩), .pointer (some ⟨b2, 0, none⟩), .pointer (some ⟨b3, 0, none⟩)] w fun e w' => e = .returned (.bool (dcd B el bef d hd)) ∧ w' = w := by
  by_cases hn : d < 0
  · have hsay : sayF B el d = el := by unfold sayF; rw [if_pos hn]
    cases hd with
    | true =>
      have hr : dcd B el bef d true = false := by unfold dcd; rw [if_pos (by simp [hn])]
      rw [hr]
      clear hr hsay hB
      go_enter Tryd.func43, Tryd.ntmps43
      go_wp2
      go_ret
      exact ⟨rfl, rfl⟩
    | false =>
      have hr : dcd B el bef d false = el := by unfold dcd; rw [if_neg (by simp), hsay]
      rw [hr]
      clear hr hsay hB
      go_enter Tryd.func43, Tryd.ntmps43
      go_wp2
      go_ret
      exact ⟨rfl, rfl⟩
  · obtain ⟨n, rfl⟩ : ∃ n : Nat, d = (n : Int) := ⟨d.toNat, by omega⟩
    have hnB : n < B.length := by omega
    obtain ⟨b, off, rfl, _, hc⟩ := hB.at' n hnB
    have hsay : sayF B el (n : Int) = B[n] := by
      unfold sayF
      rw [if_neg hn, Int.toNat_natCast, List.getD_eq_getElem?_getD, List.getElem?_eq_getElem hnB]
      rfl
    have hnI0 : (0 : Int) ≤ (n : Int) := by omega
    generalize B[n] = bb at *
    cases hd with
    | true =>
      by_cases hge : (n : Int) ≥ bef
      · have hr : dcd B el bef (n : Int) true = false := by unfold dcd; rw [if_pos (by simp [hge])]
        rw [hr]
        clear hr hsay hB
        go_enter Tryd.func43, Tryd.ntmps43
        go_wp2
        go_ret
        exact ⟨rfl, rfl⟩
      · have hr : dcd B el bef (n : Int) true = bb := by
          unfold dcd
          rw [if_neg (by simp only [Bool.true_and, Bool.or_eq_true, decide_eq_true_eq, not_or]; exact ⟨hn, hge⟩), hsay]
        rw [hr]
        clear hr hsay hB
        go_enter Tryd.func43, Tryd.ntmps43
        go_wp2
        go_ret
        exact ⟨rfl, rfl⟩
    | false =>
      have hr : dcd B el bef (n : Int) false = bb := by unfold dcd; rw [if_neg (by simp), hsay]
      rw [hr]
      clear hr hsay hB
      go_enter Tryd.func43, Tryd.ntmps43
      go_wp2
      go_ret
      exact ⟨rfl, rfl⟩
end Go.Proofs.YtekimkdaoblcgaaDoor
namespace Go.Proofs.YtekimkdaoblcgaaDoor
open Go.RowKit Go.Shelf
theorem Dc.drewN {wn V : World} {g n Kb Pb Bm cO cP q : Nat} {O P : List (List Int)} {aO aP : Option Addr} {D : Nat → Int} (h : Dc wn V g n Kb Pb Bm cO cP q O P aO aP D) (k : Nat) : Dc wn (V.drewN k) g n Kb Pb Bm cO cP q O P aO aP D := by
  obtain ⟨Z, h1, h2, h3⟩ := h.own
  exact ⟨⟨Z, h1, own_blk h2 (fun _ _ => rfl), h3⟩, ⟨h.clo.k0, h.clo.p2, h.clo.p5, h.clo.kn.block rfl, h.clo.ne, h.clo.lo⟩, h.ne, below_drew' h.bel k⟩
theorem tld_of {sl sr : Int} {N O M P : List (List Int)} {nb sy : Nat} (h1 : Fine sl N O sy nb) (h2 : Fine sr M P sy nb) (ho : ∀ r ∈ O, r.length ≤ 1000000000) (hp : ∀ r ∈ P, r.length ≤ 1000000000) (hb : nb ≤ 1000000000) : Tld O P := by
  refine ⟨fun j hj => ?_, fun j hj => ?_⟩
  · have hj' : j < N.length := by rw [← h1.out]; exact hj
    obtain ⟨q1, q2⟩ := h1.rise j hj'
    exact ⟨q1, ho _ (by rw [getD_at hj]; exact List.getElem_mem hj), fun z hz => by have := q2 z hz; omega⟩
  · have hj' : j < M.length := by rw [← h2.out]; exact hj
    exact ⟨(h2.rise j hj').1, hp _ (by rw [getD_at hj]; exact List.getElem_mem hj)⟩
/-- What Decide leaves. -/
def DecR (A : Nat → Addr) (w : World) (ok : Bool) (D : List Int) (e : Ending) (w' : World) : Prop := ∃ v, e = .returned (.tuple #[v, errC A ok]) ∧ OwnI w' w.heap.size v (if ok then D else []) ∧ Below w.heap.size w w'
set_option maxRecDepth 10000 in
set_option maxHeartbeats 1600000 in
theorem decide_long (A : Nat → Addr) (sl sr : Int) (N O M P : List (List Int)) (B : List Bool) (el : Bool) (aN aO aM aP aB : Option Addr) (cN cO cM cP cB : Nat) (l : List Int) (aw : Option Addr) (cw : Nat) (w : World) (hs : PrS ⟨sl, N, O, sr, M, P, B, el⟩) (ha : PrA w ⟨sl, N, O, sr, M, P, B, el⟩ ⟨aN, aO, aM, aP, aB, cN, cO, cM, cP, cB⟩) (hl : l.length ≤ 1000000000) (hw : IA w aw l) (he : Sents w A) (h1 : chkP sl N O sr M P B.length (symF N : Int) = true) (h2 : l.all (oneOf (symF N)) = true) (hlong : 2 ≤ l.length) :
    Calls Tryd.prog 28 #[.agg #[.int .i64 sl, .slice aN N.length cN, .slice aO O.length cO, .int .i64 sr, .slice aM M.length cM, .slice aP P.length cP, .slice aB B.length cB, .bool el], .slice aw l.length cw] w fun e w' => DecR A w true (decF sl N O sr M P l) e w' := by
  obtain ⟨w0, hw0, hB0, hz0, hC0⟩ := box_pr w ⟨sl, N, O, sr, M, P, B, el⟩ ⟨aN, aO, aM, aP, aB, cN, cO, cM, cP, cB⟩
  have HC : Hid (∀ V : World, Below w0.heap.size w0 V → (V.cell? ⟨w.heap.size, 0, none⟩ = some (.int .i64 sl) ∧ V.cell? ⟨w.heap.size, 1, none⟩ = some (.slice aN N.length cN) ∧ V.cell? ⟨w.heap.size, 2, none⟩ = some (.slice aO O.length cO) ∧ V.cell? ⟨w.heap.size, 3, none⟩ = some (.int .i64 sr)) ∧ V.cell? ⟨w.heap.size, 4, none⟩ = some (.slice aM M.length cM) ∧ V.cell? ⟨w.heap.size, 5, none⟩ = some (.slice aP P.length cP) ∧ V.cell? ⟨w.heap.size, 6, none⟩ = some (.slice aB B.length cB) ∧ V.cell? ⟨w.heap.size, 7, none⟩ = some (.bool el)) := hid0 hC0
  replace hw0 : w.alloc (.cells #[.int .i64 sl, .slice aN N.length cN, .slice aO O.length cO, .int .i64 sr, .slice aM M.length cM, .slice aP P.length cP, .slice aB B.length cB, .bool el] 27) = w0 := hw0
  have hf1 : Fine sl N O (symF N) B.length := fine_of (by unfold chkP at h1; simp only [Bool.and_eq_true] at h1; exact h1.1)
  have hf2 : Fine sr M P (symF N) B.length := fine_of (by unfold chkP at h1; simp only [Bool.and_eq_true] at h1; exact h1.2)
  have hsy : ∀ z ∈ l, 0 ≤ z ∧ z < (symF N : Int) := fun z hz => (oneOf_iff _ _).1 (List.all_eq_true.1 h2 z hz)
  have htl : Tld O P := tld_of hf1 hf2 hs.or hs.pr hs.b
  have HAl : Hid (∀ V : World, Below w0.heap.size w0 V → PrA V ⟨sl, N, O, sr, M, P, B, el⟩ ⟨aN, aO, aM, aP, aB, cN, cO, cM, cP, cB⟩ ∧ IA V aw l ∧ Sents V A ∧ Below w.heap.size w V) := hid0 (fun V hV => by
    have h := hB0.trans (hV.mono (by omega))
    exact ⟨ha.past h, hw.past h, he.below h, h⟩)
  have HSy := hid0 (symbolsOf_any sl sr N O M P B el aN aO aM aP aB cN cO cM cP cB w0 hs (HAl.out w0 (Below.refl _ _)).1)
  have HCk : Hid (∀ V : World, Below w0.heap.size w0 V → Calls Tryd.prog 22 #[.agg #[.int .i64 sl, .slice aN N.length cN, .slice aO O.length cO, .int .i64 sr, .slice aM M.length cM, .slice aP P.length cP, .slice aB B.length cB, .bool el], .int .i64 (symF N : Int)] V fun e w' => e = .returned .nilIface ∧ Below V.heap.size V w') := hid0 (fun V hV => by
    have h := pairCheck_any A sl sr N O M P B el aN aO aM aP aB cN cO cM cP cB (symF N : Int) V hs (HAl.out V hV).1 (HAl.out V hV).2.2.1
    rw [h1, errC_true] at h
    exact h)
  have HAb : Hid (∀ V : World, Below w0.heap.size w0 V → Calls Tryd.prog 45 #[.slice aw l.length cw, .int .i64 (symF N : Int)] V fun e w' => e = .returned (.bool true) ∧ w' = V) := hid0 (fun V hV => by
    have h := allBelow_any (symF N) l aw cw V hl (HAl.out V hV).2.1
    rw [h2] at h
    exact h)
  have hrun := hf1.run hsy
  have HRu : Hid (∀ V : World, Below w0.heap.size w0 V → Calls Tryd.prog 46 #[.agg #[.int .i64 sl, .slice aN N.length cN, .slice aO O.length cO], .slice aw l.length cw] V fun e w' => ∃ v, e = .returned (.tuple #[v, .nilIface]) ∧ OwnI w' V.heap.size v ((List.range (l.length + 1)).map fun k => (stK N sl.toNat l k : Int)) ∧ Below V.heap.size V w') := hid0 (fun V hV => by
    have h := run_any A sl N l aN aO aw cN O.length cO cw V (fun r hr => by have := hs.nr r hr; omega) (by omega) (HAl.out V hV).1.n.rwa (HAl.out V hV).2.1 (HAl.out V hV).2.2.1
    rw [hrun] at h
    exact h)
  have HFo : Hid (∀ V : World, Calls Tryd.prog 47 #[.agg #[.int .i64 sl, .slice aN N.length cN, .slice aO O.length cO, .int .i64 sr, .slice aM M.length cM, .slice aP P.length cP, .slice aB B.length cB, .bool el]] V fun e w' => ∃ Kb Pb, e = .returned (.func (.func 65) #[] #[.pointer (some ⟨Kb, 0, none⟩), .pointer (some ⟨Pb, 0, none⟩)]) ∧ (∃ Bm, Clo w' V.heap.size Kb Pb Bm 0 cO cP O P aO aP) ∧ Below V.heap.size V w') := hid0 (fun V => firstOf_any sl sr N O M P B el aN aO aM aP aB cN cO cM cP cB V)
  obtain ⟨n, hn⟩ : ∃ n, n = l.length - 1 := ⟨_, rfl⟩
  have hnl : l.length = n + 1 := by omega
  have hnI : (l.length : Int) - 1 = (n : Int) := by omega
  have hnW : IntKind.i64.wrap (n : Int) = (n : Int) := by simp [IntKind.wrap, IntKind.bits, IntKind.signed]; omega
  have hn1 : 1 ≤ n := by omega
  have hlt2 : ¬ (l.length : Int) < 2 := by omega
  have hnb : n ≤ 1000000000 := by omega
  have HF1 := hid0 hf1
  have HF2 := hid0 hf2
  have HSl := hid0 hsy
  have HTl := hid0 htl
  have HNl := hid0 hnl
  have HZ0 := hid0 hz0
  have hsr : 0 ≤ sr ∧ sr < (M.length : Int) := hf2.start
  obtain ⟨b0, rfl⟩ : ∃ b0 : Nat, sr = (b0 : Int) := ⟨sr.toNat, by omega⟩
  have hMs : M.length ≤ 1000000000 := hs.m
  have hNs : N.length ≤ 1000000000 := hs.n
  obtain ⟨⟨x0, x1, x2, x3⟩, x4, x5, x6, x7⟩ := HC.out w0 (Below.refl _ _)
  clear hf1 hf2 hsy htl hrun h1 h2 hB0 hC0 hn hnl hz0 ha hw he hs hsr
  generalize hsy : symF N = sy at *
  have HSyN := hid0 hsy
  clear hsy
  go_enter Tryd.func28, Tryd.ntmps28
  go_upto_region 2 with (go_at_call 44; refine HSy.out.mono ?_; rintro e w1 ⟨rfl, hb⟩; have HB1 := hid0 hb; clear hb; clear x0 x1 x2 x3 x4 x5 x6 x7)
  obtain ⟨⟨x0, x1, x2, x3⟩, x4, x5, x6, x7⟩ := HC.out w1 HB1.out
  go_upto_region 4 with (first
    | (go_at_call 45; refine (HAb.out w2 HB2.out).mono ?_; rintro e wq ⟨rfl, hq⟩; have hq' := hq.symm; subst hq'; clear hq)
    | (go_at_call 22; refine (HCk.out w1 HB1.out).mono ?_; rintro e w2 ⟨rfl, hb⟩; have HB2 : Hid (Below w0.heap.size w0 w2) := hid0 (HB1.out.trans (hb.mono HB1.out.size)); clear hb; clear x0 x1 x2 x3 x4 x5 x6 x7))
  obtain ⟨⟨x0, x1, x2, x3⟩, x4, x5, x6, x7⟩ := HC.out w2 HB2.out
  go_upto_region 9 with (go_at_call 46; go_loud ((
    refine (HRu.out w2 HB2.out).mono ?_
    rintro e w3 ⟨va, rfl, ho3, hb3⟩
    obtain ⟨xa, ca, rfl, ia3⟩ := ho3.ia
    have HB3 : Hid (Below w0.heap.size w0 w3) := hid0 (HB2.out.trans (hb3.mono HB2.out.size))
    have HIa := hid0 ia3
    clear ho3 hb3 ia3; clear x0 x1 x2 x3 x4 x5 x6 x7)))
  obtain ⟨w4, hmk, ho4, hb4⟩ := make_zero n w3 hnb
  have HO4 := hid0 ho4
  have HB4 : Hid (Below w0.heap.size w0 w4) := hid0 (HB3.out.trans (hb4.mono HB3.out.size))
  have HB34 := hid0 hb4
  obtain ⟨⟨x0, x1, x2, x3⟩, x4, x5, x6, x7⟩ := HC.out w4 HB4.out
  clear ho4 hb4
  go_upto_region 11 with (go_at_call 47; go_loud ((
    refine (HFo.out w4).mono ?_
    rintro e w5 ⟨Kb, Pb, rfl, hcl, hb5⟩
    obtain ⟨Bm, hcl⟩ := hcl
    have HCl := hid0 hcl
    have HB45 := hid0 hb5
    have HB5 : Hid (Below w0.heap.size w0 w5) := hid0 (HB4.out.trans (hb5.mono HB4.out.size))
    clear hcl hb5 hmk; clear x0 x1 x2 x3 x4 x5 x6 x7)))
  obtain ⟨⟨x0, x1, x2, x3⟩, x4, x5, x6, x7⟩ := HC.out w5 HB5.out
  have HD5 : Hid (Dc w3 w5 w3.heap.size n Kb Pb Bm cO cP n O P aO aP (decK sl N O (b0 : Int) M P l)) := hid0 (by
    have g4 := World.ownsRow.lt HO4.out w3.heap.size rfl
    have hlo := HCl.out.lo
    refine ⟨⟨List.replicate n 0, by simp, own_blk HO4.out (fun k hk => ?_), fun j h1 h2 => by omega⟩, ?_, by omega, HB34.out.trans (HB45.out.mono HB34.out.size)⟩
    · exact HB45.out.block k (World.ownsRow.lt HO4.out k hk).2
    · rw [Nat.sub_self]
      exact ⟨HCl.out.k0, HCl.out.p2, HCl.out.p5, HCl.out.kn, HCl.out.ne, by omega⟩)
  clear HCl HO4 HB34 HB45 HB4
  go_wp2
  clear x0 x1 x2 x3 x4 x5 x6 x7
  go_loopw [11, 12] (fun bv pv wr => ∃ q : Nat, q ≤ n ∧ bv = .int .i64 (stK M b0 l.reverse (n - q) : Int) ∧ pv = .int .i64 (q : Int) ∧ Hid (Dc w3 wr w3.heap.size n Kb Pb Bm cO cP q O P aO aP (decK sl N O (b0 : Int) M P l))) (fun _ pv _ => (intOf pv).toNat)
  case atStart => exact ⟨n, Nat.le_refl _, by rw [Nat.sub_self]; rfl, rfl, HD5⟩
  case round =>
    clear HD5
    obtain ⟨q, hq, rfl, rfl, HD⟩ := hrel
    have hbw : Below w0.heap.size w0 wr := HB3.out.trans (HD.out.bel.mono HB3.out.size)
    have HBw := hid0 hbw
    obtain ⟨⟨x0, x1, x2, x3⟩, x4, x5, x6, x7⟩ := HC.out wr hbw
    by_cases hq0 : q = 0
    · have hqI : ¬ (q : Int) > 0 := by omega
      have HFin : Hid (DecR A w true (decF sl N O (b0 : Int) M P l) (.returned (.tuple #[.slice (some ⟨w3.heap.size, 0, none⟩) n n, .nilIface])) wr) := hid0 (by
        refine ⟨_, rfl, ?_, (HAl.out wr hbw).2.2.2⟩
        rw [if_pos rfl]
        have h := HD.out
        rw [hq0] at h
        unfold decF
        rw [show l.length - 1 = n by have := HNl.out; omega]
        exact owns_lower h.done (by have := (HAl.out w3 HB3.out).2.2.2.size; exact this))
      clear hq0 hbw
      go_wp2
      go_returns
      exact HFin.out
    · obtain ⟨r, rfl⟩ : ∃ r, q = r + 1 := ⟨q - 1, by omega⟩
      have hqI : ((r + 1 : Nat) : Int) > 0 := by omega
      have hrl : r + 1 < l.length := by have := HNl.out; omega
      obtain ⟨bh, hbh⟩ : ∃ bh, bh = stK M b0 l.reverse (n - (r + 1)) := ⟨_, rfl⟩
      have hrev : ∀ z ∈ l.reverse, 0 ≤ z ∧ z < (sy : Int) := fun z hz => HSl.out z (List.mem_reverse.1 hz)
      have hbl : bh < M.length := by
        rw [hbh]
        have h := HF2.out.st hrev (n - (r + 1)) (by rw [List.length_reverse]; have := HNl.out; omega)
        rw [Int.toNat_natCast] at h
        exact h
      have hz := HSl.out _ (List.getElem_mem hrl)
      obtain ⟨zn, hzn⟩ : ∃ zn : Nat, l[r + 1] = (zn : Int) := ⟨l[r + 1].toNat, by omega⟩
      have hznS : zn < sy := by rw [hzn] at hz; omega
      have hrow := HF2.out.row bh hbl
      obtain ⟨n1, n2⟩ := HF2.out.next (s := bh) (z := l[r + 1]) hbl hz
      obtain ⟨b1, hb1⟩ : ∃ b1, b1 = nxS M bh l[r + 1] := ⟨_, rfl⟩
      have hst : stK M b0 l.reverse (n - r) = b1 := by
        have e : n - r = (n - (r + 1)) + 1 := by omega
        rw [e]
        show nxS M (stK M b0 l.reverse (n - (r + 1))) (l.reverse.getD (n - (r + 1)) 0) = b1
        have e2 : n - (r + 1) = l.length - 1 - (r + 1) := by have := HNl.out; omega
        rw [← hbh, hb1, e2, rev_at hrl]
      obtain ⟨ba, hba⟩ : ∃ ba, ba = stK N sl.toNat l (r + 1) := ⟨_, rfl⟩
      have hbal : ba < N.length := by rw [hba]; exact HF1.out.st HSl.out (r + 1) (by omega)
      have haO : ba < O.length := by rw [HF1.out.out]; exact hbal
      have hbP : b1 < P.length := by rw [HF2.out.out, hb1]; exact n1
      -- the row of the state behind
      have hpr := (HAl.out wr hbw).1
      obtain ⟨bM, oM, eM, _, a5, c5, d5, i5, _⟩ := hpr.m.at' bh hbl
      have eM' : aM = some ⟨bM, oM, none⟩ := eM
      have hl5 : (M[bh]).length = sy := by rw [← hrow, getD_at hbl]
      obtain ⟨b6, o6, rfl, _, d6⟩ := i5.at' zn (show zn < (M[bh]).length by omega)
      have hv6 : (M[bh])[zn]'(by omega) = (b1 : Int) := by
        rw [hb1, ← n2, getD_at hbl, List.getD_eq_getElem?_getD, hzn, Int.toNat_natCast, List.getElem?_eq_getElem (by omega)]
        rfl
      rw [hv6] at d6
      have d5' : wr.cell? ⟨bM, oM + bh, none⟩ = some (.slice (some ⟨b6, o6, none⟩) sy c5) := by rw [← hl5]; exact d5
      obtain ⟨b7, o7, eW, _, d7⟩ := (HAl.out wr hbw).2.1.at' (r + 1) hrl
      rw [hzn] at d7
      obtain ⟨b8, o8, e8, _, d8⟩ := (HIa.out.past HD.out.bel).at' (r + 1) (by simp; omega)
      have hv8 : ((List.range (l.length + 1)).map fun k => (stK N sl.toNat l k : Int))[r + 1]'(by simp; omega) = (ba : Int) := by rw [List.getElem_map, List.getElem_range, hba]
      rw [hv8] at d8
      have HFi : Hid (∀ k, Calls Tryd.prog 65 #[.int .i64 (ba : Int), .int .i64 (b1 : Int), .pointer (some ⟨Kb, 0, none⟩), .pointer (some ⟨Pb, 0, none⟩)] (wr.drewN k) fun e w' => e = .returned (.int .i64 (fsF O P ba b1)) ∧ FsR (wr.drewN k) Bm (n - (r + 1)) (fsF O P) w') := hid0 (fun k => by
        have hd := (HD.out.drewN k).clo
        have hp := hpr.past (below_drew' (Below.refl _ _) k)
        exact first_any O P ba b1 Kb Pb Bm (n - (r + 1)) cO cP aO aP (wr.drewN k) hp.o hp.p' HTl.out haO hbP ⟨by omega⟩ ⟨by have := n1; rw [← hb1] at this; omega⟩ (by omega) hd.k0 hd.p2 hd.p5 hd.kn)
      have HSt : Hid (∀ k V', FsR (wr.drewN k) Bm (n - (r + 1)) (fsF O P) V' → V'.frozen? ⟨w3.heap.size, r, none⟩ = false ∧ (∃ z, V'.cell? ⟨w3.heap.size, r, none⟩ = some (.int .i64 z)) ∧ Dc w3 (V'.setCell ⟨w3.heap.size, r, none⟩ (.int .i64 (fsF O P ba b1))) w3.heap.size n Kb Pb Bm cO cP r O P aO aP (decK sl N O (b0 : Int) M P l)) := hid0 (fun k V' hV => (HD.out.drewN k).step (by omega) hV (by
        unfold decK fsF
        rw [Int.toNat_natCast, show l.length - 1 - r = n - r by have := HNl.out; omega, hst, hba]))
      have hbhI : (bh : Int) < (M.length : Int) := by omega
      have hbhI0 : (0 : Int) ≤ (bh : Int) := by omega
      have hznI : (zn : Int) < (sy : Int) := by omega
      have hznI0 : (0 : Int) ≤ (zn : Int) := by omega
      have hrI : ((r + 1 : Nat) : Int) < (l.length : Int) := by omega
      have hrI0 : (0 : Int) ≤ ((r + 1 : Nat) : Int) := by omega
      obtain ⟨q, hq'⟩ : ∃ q, q = r + 1 := ⟨_, rfl⟩
      have hqr : (q : Int) - 1 = (r : Int) := by omega
      have hqW : IntKind.i64.wrap (r : Int) = (r : Int) := by simp [IntKind.wrap, IntKind.bits, IntKind.signed]; omega
      rw [← hbh]
      rw [← hq'] at hqI hrI hrI0 d7 d8 ⊢
      have hqn : q < l.length := by omega
      have hqa : (q : Int) < ((l.length + 1 : Nat) : Int) := by omega
      have hla : ((List.range (l.length + 1)).map fun k => (stK N sl.toNat l k : Int)).length = l.length + 1 := by simp
      have hrn : (r : Int) < (n : Int) := by omega
      have hrn0 : (0 : Int) ≤ (r : Int) := by omega
      subst eM'
      subst eW
      subst e8
      have HStk := hid0 hst
      have HQr := hid0 hq'
      generalize fsF O P ba b1 = dv at *
      clear hbh hrev hrow n1 n2 hb1 hst hba hpr eM hl5 hv6 hv8 i5 hz hzn hq' hq hbw d5 hq0
      go_wp2
      go_quiet ((fail))
      go_wp2_with (go_at_call 65; go_loud ((
        refine (HFi.out nq).mono ?_
        rintro e w6 ⟨rfl, hf⟩
        obtain ⟨fz, ⟨z6, c6⟩, hdc⟩ := HSt.out nq w6 hf
        have HD2 := hid0 hdc
        clear hf hdc)))
      go_roundw
      case rel => exact ⟨r, by omega, by rw [HStk.out], by have := HQr.out; go_num, HD2⟩
      case measure => have := HQr.out; simp [intOf]; omega
set_option maxRecDepth 10000 in
set_option maxHeartbeats 1600000 in
theorem decide_any (A : Nat → Addr) (sl sr : Int) (N O M P : List (List Int)) (B : List Bool) (el : Bool) (aN aO aM aP aB : Option Addr) (cN cO cM cP cB : Nat) (l : List Int) (aw : Option Addr) (cw : Nat) (w : World) (hs : PrS ⟨sl, N, O, sr, M, P, B, el⟩) (ha : PrA w ⟨sl, N, O, sr, M, P, B, el⟩ ⟨aN, aO, aM, aP, aB, cN, cO, cM, cP, cB⟩) (hl : l.length ≤ 1000000000) (hw : IA w aw l) (he : Sents w A) :
    Calls Tryd.prog 28 #[.agg #[.int .i64 sl, .slice aN N.length cN, .slice aO O.length cO, .int .i64 sr, .slice aM M.length cM, .slice aP P.length cP, .slice aB B.length cB, .bool el], .slice aw l.length cw] w fun e w' => DecR A w (okD sl N O sr M P B.length l) (decF sl N O sr M P l) e w' := by
  cases h1 : chkP sl N O sr M P B.length (symF N : Int) with
  | true =>
    cases h2 : l.all (oneOf (symF N)) with
    | true =>
      have hok : okD sl N O sr M P B.length l = true := by unfold okD; rw [h1, h2]; rfl
      rw [hok]
      by_cases hlong : 2 ≤ l.length
      · exact decide_long A sl sr N O M P B el aN aO aM aP aB cN cO cM cP cB l aw cw w hs ha hl hw he h1 h2 hlong
      · have HD0 : Hid (decF sl N O sr M P l = []) := hid0 (by unfold decF; rw [show l.length - 1 = 0 by omega]; rfl)
        obtain ⟨w0, hw0, hB0, hz0, hC0⟩ := box_pr w ⟨sl, N, O, sr, M, P, B, el⟩ ⟨aN, aO, aM, aP, aB, cN, cO, cM, cP, cB⟩
        have HC : Hid (∀ V : World, Below w0.heap.size w0 V → (V.cell? ⟨w.heap.size, 0, none⟩ = some (.int .i64 sl) ∧ V.cell? ⟨w.heap.size, 1, none⟩ = some (.slice aN N.length cN) ∧ V.cell? ⟨w.heap.size, 2, none⟩ = some (.slice aO O.length cO) ∧ V.cell? ⟨w.heap.size, 3, none⟩ = some (.int .i64 sr)) ∧ V.cell? ⟨w.heap.size, 4, none⟩ = some (.slice aM M.length cM) ∧ V.cell? ⟨w.heap.size, 5, none⟩ = some (.slice aP P.length cP) ∧ V.cell? ⟨w.heap.size, 6, none⟩ = some (.slice aB B.length cB) ∧ V.cell? ⟨w.heap.size, 7, none⟩ = some (.bool el)) := hid0 hC0
        replace hw0 : w.alloc (.cells #[.int .i64 sl, .slice aN N.length cN, .slice aO O.length cO, .int .i64 sr, .slice aM M.length cM, .slice aP P.length cP, .slice aB B.length cB, .bool el] 27) = w0 := hw0
        have HAl : Hid (∀ V : World, Below w0.heap.size w0 V → PrA V ⟨sl, N, O, sr, M, P, B, el⟩ ⟨aN, aO, aM, aP, aB, cN, cO, cM, cP, cB⟩ ∧ IA V aw l ∧ Sents V A ∧ Below w.heap.size w V) := hid0 (fun V hV => by
          have h := hB0.trans (hV.mono (by omega))
          exact ⟨ha.past h, hw.past h, he.below h, h⟩)
        have HSy := hid0 (symbolsOf_any sl sr N O M P B el aN aO aM aP aB cN cO cM cP cB w0 hs (HAl.out w0 (Below.refl _ _)).1)
        have HCk : Hid (∀ V : World, Below w0.heap.size w0 V → Calls Tryd.prog 22 #[.agg #[.int .i64 sl, .slice aN N.length cN, .slice aO O.length cO, .int .i64 sr, .slice aM M.length cM, .slice aP P.length cP, .slice aB B.length cB, .bool el], .int .i64 (symF N : Int)] V fun e w' => e = .returned .nilIface ∧ Below V.heap.size V w') := hid0 (fun V hV => by
          have h := pairCheck_any A sl sr N O M P B el aN aO aM aP aB cN cO cM cP cB (symF N : Int) V hs (HAl.out V hV).1 (HAl.out V hV).2.2.1
          rw [h1, errC_true] at h
          exact h)
        have HAb : Hid (∀ V : World, Below w0.heap.size w0 V → Calls Tryd.prog 45 #[.slice aw l.length cw, .int .i64 (symF N : Int)] V fun e w' => e = .returned (.bool true) ∧ w' = V) := hid0 (fun V hV => by
          have h := allBelow_any (symF N) l aw cw V hl (HAl.out V hV).2.1
          rw [h2] at h
          exact h)
        obtain ⟨⟨x0, x1, x2, x3⟩, x4, x5, x6, x7⟩ := HC.out w0 (Below.refl _ _)
        have hlt2 : (l.length : Int) < 2 := by omega
        clear hB0 hC0 hz0 ha hw he hs h1 h2 hok hlong
        generalize hsy : symF N = sy at *
        clear hsy
        go_enter Tryd.func28, Tryd.ntmps28
        go_wp2_with (first
          | (go_at_call 45; refine (HAb.out w2 HB2.out).mono ?_; rintro e wq ⟨rfl, hq⟩; have hq' := hq.symm; subst hq'; clear hq)
          | (go_at_call 22; refine (HCk.out w1 HB1.out).mono ?_; rintro e w2 ⟨rfl, hb⟩; have HB2 : Hid (Below w0.heap.size w0 w2) := hid0 (HB1.out.trans (hb.mono HB1.out.size)); clear hb)
          | (go_at_call 44; refine HSy.out.mono ?_; rintro e w1 ⟨rfl, hb⟩; have HB1 := hid0 hb; obtain ⟨⟨z0, z1, z2, z3⟩, z4, z5, z6, z7⟩ := HC.out w1 hb; clear hb))
        go_returns
        exact ⟨_, rfl, by rw [HD0.out]; exact World.ownsRow_nil _ _ _ _, (HAl.out w2 HB2.out).2.2.2⟩
    | false =>
      have hok : okD sl N O sr M P B.length l = false := by unfold okD; rw [h1, h2]; rfl
      rw [hok]
      obtain ⟨w0, hw0, hB0, hz0, hC0⟩ := box_pr w ⟨sl, N, O, sr, M, P, B, el⟩ ⟨aN, aO, aM, aP, aB, cN, cO, cM, cP, cB⟩
      have HC : Hid (∀ V : World, Below w0.heap.size w0 V → (V.cell? ⟨w.heap.size, 0, none⟩ = some (.int .i64 sl) ∧ V.cell? ⟨w.heap.size, 1, none⟩ = some (.slice aN N.length cN) ∧ V.cell? ⟨w.heap.size, 2, none⟩ = some (.slice aO O.length cO) ∧ V.cell? ⟨w.heap.size, 3, none⟩ = some (.int .i64 sr)) ∧ V.cell? ⟨w.heap.size, 4, none⟩ = some (.slice aM M.length cM) ∧ V.cell? ⟨w.heap.size, 5, none⟩ = some (.slice aP P.length cP) ∧ V.cell? ⟨w.heap.size, 6, none⟩ = some (.slice aB B.length cB) ∧ V.cell? ⟨w.heap.size, 7, none⟩ = some (.bool el)) := hid0 hC0
      replace hw0 : w.alloc (.cells #[.int .i64 sl, .slice aN N.length cN, .slice aO O.length cO, .int .i64 sr, .slice aM M.length cM, .slice aP P.length cP, .slice aB B.length cB, .bool el] 27) = w0 := hw0
      have HAl : Hid (∀ V : World, Below w0.heap.size w0 V → PrA V ⟨sl, N, O, sr, M, P, B, el⟩ ⟨aN, aO, aM, aP, aB, cN, cO, cM, cP, cB⟩ ∧ IA V aw l ∧ Sents V A ∧ Below w.heap.size w V) := hid0 (fun V hV => by
        have h := hB0.trans (hV.mono (by omega))
        exact ⟨ha.past h, hw.past h, he.below h, h⟩)
      have HSy := hid0 (symbolsOf_any sl sr N O M P B el aN aO aM aP aB cN cO cM cP cB w0 hs (HAl.out w0 (Below.refl _ _)).1)
      have HCk : Hid (∀ V : World, Below w0.heap.size w0 V → Calls Tryd.prog 22 #[.agg #[.int .i64 sl, .slice aN N.length cN, .slice aO O.length cO, .int .i64 sr, .slice aM M.length cM, .slice aP P.length cP, .slice aB B.length cB, .bool el], .int .i64 (symF N : Int)] V fun e w' => e = .returned .nilIface ∧ Below V.heap.size V w') := hid0 (fun V hV => by
        have h := pairCheck_any A sl sr N O M P B el aN aO aM aP aB cN cO cM cP cB (symF N : Int) V hs (HAl.out V hV).1 (HAl.out V hV).2.2.1
        rw [h1, errC_true] at h
        exact h)
      have HAb : Hid (∀ V : World, Below w0.heap.size w0 V → Calls Tryd.prog 45 #[.slice aw l.length cw, .int .i64 (symF N : Int)] V fun e w' => e = .returned (.bool false) ∧ w' = V) := hid0 (fun V hV => by
        have h := allBelow_any (symF N) l aw cw V hl (HAl.out V hV).2.1
        rw [h2] at h
        exact h)
      obtain ⟨⟨x0, x1, x2, x3⟩, x4, x5, x6, x7⟩ := HC.out w0 (Below.refl _ _)
      clear hB0 hC0 hz0 ha hw he hs h1 h2 hok
      generalize hsy : symF N = sy at *
      clear hsy
      go_enter Tryd.func28, Tryd.ntmps28
      go_wp2_with (first
        | (go_at_call 45; refine (HAb.out w2 HB2.out).mono ?_; rintro e wq ⟨rfl, hq⟩; have hq' := hq.symm; subst hq'; clear hq)
        | (go_at_call 22; refine (HCk.out w1 HB1.out).mono ?_; rintro e w2 ⟨rfl, hb⟩; have HB2 : Hid (Below w0.heap.size w0 w2) := hid0 (HB1.out.trans (hb.mono HB1.out.size)); clear hb)
        | (go_at_call 44; refine HSy.out.mono ?_; rintro e w1 ⟨rfl, hb⟩; have HB1 := hid0 hb; obtain ⟨⟨z0, z1, z2, z3⟩, z4, z5, z6, z7⟩ := HC.out w1 hb; clear hb))
      have e0 := (HAl.out w2 HB2.out).2.2.1.c0
      go_quiet ((fail))
      go_wp2
      go_returns
      exact ⟨_, rfl, World.ownsRow_nil _ _ _ _, below_drew' (HAl.out w2 HB2.out).2.2.2 _⟩
  | false =>
    have hok : okD sl N O sr M P B.length l = false := by unfold okD; rw [h1]; rfl
    rw [hok]
    obtain ⟨w0, hw0, hB0, hz0, hC0⟩ := box_pr w ⟨sl, N, O, sr, M, P, B, el⟩ ⟨aN, aO, aM, aP, aB, cN, cO, cM, cP, cB⟩
    have HC : Hid (∀ V : World, Below w0.heap.size w0 V → (V.cell? ⟨w.heap.size, 0, none⟩ = some (.int .i64 sl) ∧ V.cell? ⟨w.heap.size, 1, none⟩ = some (.slice aN N.length cN) ∧ V.cell? ⟨w.heap.size, 2, none⟩ = some (.slice aO O.length cO) ∧ V.cell? ⟨w.heap.size, 3, none⟩ = some (.int .i64 sr)) ∧ V.cell? ⟨w.heap.size, 4, none⟩ = some (.slice aM M.length cM) ∧ V.cell? ⟨w.heap.size, 5, none⟩ = some (.slice aP P.length cP) ∧ V.cell? ⟨w.heap.size, 6, none⟩ = some (.slice aB B.length cB) ∧ V.cell? ⟨w.heap.size, 7, none⟩ = some (.bool el)) := hid0 hC0
    replace hw0 : w.alloc (.cells #[.int .i64 sl, .slice aN N.length cN, .slice aO O.length cO, .int .i64 sr, .slice aM M.length cM, .slice aP P.length cP, .slice aB B.length cB, .bool el] 27) = w0 := hw0
    have HAl : Hid (∀ V : World, Below w0.heap.size w0 V → PrA V ⟨sl, N, O, sr, M, P, B, el⟩ ⟨aN, aO, aM, aP, aB, cN, cO, cM, cP, cB⟩ ∧ IA V aw l ∧ Sents V A ∧ Below w.heap.size w V) := hid0 (fun V hV => by
      have h := hB0.trans (hV.mono (by omega))
      exact ⟨ha.past h, hw.past h, he.below h, h⟩)
    have HSy := hid0 (symbolsOf_any sl sr N O M P B el aN aO aM aP aB cN cO cM cP cB w0 hs (HAl.out w0 (Below.refl _ _)).1)
    have HCk : Hid (∀ V : World, Below w0.heap.size w0 V → Calls Tryd.prog 22 #[.agg #[.int .i64 sl, .slice aN N.length cN, .slice aO O.length cO, .int .i64 sr, .slice aM M.length cM, .slice aP P.length cP, .slice aB B.length cB, .bool el], .int .i64 (symF N : Int)] V fun e w' => e = .returned (.iface 129 (.pointer (some (A 0)))) ∧ Below V.heap.size V w') := hid0 (fun V hV => by
      have h := pairCheck_any A sl sr N O M P B el aN aO aM aP aB cN cO cM cP cB (symF N : Int) V hs (HAl.out V hV).1 (HAl.out V hV).2.2.1
      rw [h1, errC_false] at h
      exact h)
    obtain ⟨⟨x0, x1, x2, x3⟩, x4, x5, x6, x7⟩ := HC.out w0 (Below.refl _ _)
    clear hB0 hC0 hz0 ha hw he hs h1 hok
    generalize hsy : symF N = sy at *
    clear hsy
    go_enter Tryd.func28, Tryd.ntmps28
    go_wp2_with (first
      | (go_at_call 22; refine (HCk.out w1 HB1.out).mono ?_; rintro e w2 ⟨rfl, hb⟩; have HB2 : Hid (Below w0.heap.size w0 w2) := hid0 (HB1.out.trans (hb.mono HB1.out.size)); clear hb)
      | (go_at_call 44; refine HSy.out.mono ?_; rintro e w1 ⟨rfl, hb⟩; have HB1 := hid0 hb; obtain ⟨⟨z0, z1, z2, z3⟩, z4, z5, z6, z7⟩ := HC.out w1 hb; clear hb))
    have e0 := (HAl.out w2 HB2.out).2.2.1.c0
    go_quiet ((fail))
    go_wp2
    go_returns
    exact ⟨_, rfl, World.ownsRow_nil _ _ _ _, below_drew' (HAl.out w2 HB2.out).2.2.2 _⟩
end Go.Proofs.YtekimkdaoblcgaaDoor
