/-
  MjBW, MjDW, MjEM, MiPM, MiSM.
-/
import Derived.Test.YtjmmckkiicefhaaDoorMgb
import Derived.Lib.SmallJoins
import Derived.Deep.Cut
import Derived.Deep.RegionHeld3
import Derived.Deep.RegionLaw
import Derived.Test.YtjmmckkiicefhaaDoorMga
import Derived.Laws.IdiomStrings
import Derived.Laws.BytesString
import Derived.Maps.OwnSet
import Derived.Maps.OwnOps
import Derived.StringKeys
import Derived.HandedShaped
namespace Go.Proofs.YtjmmckkiicefhaaDoor
open Go.RowKit Go.Shelf
/-- While the states are put to the end. -/
structure CtI (w W : World) (lo l0 h0 j0 j1 P R L C n : Nat) (ro pl cl : Nat → Nat) (vs : Value) (sp : List (Nat × Nat)) (vq : Value) (q : List Nat) (S : List Nat) (k0 f to t B : Nat) : Prop where
  pt : Pt W lo l0 h0 j0 j1 P R L C n ro pl cl vs sp vq q
  ba : W.heap[w.heap.size]? = some (.cells #[.int .i64 (f : Int), .int .i64 ((to - t : Nat) : Int)] 74 (0, 0))
  bz : B = w.heap.size + 1
  bb : W.heap[B]? = some (.cells #[.int .i64 (to : Int), .int .i64 (to : Int)] 74 (0, 0))
  c1 : Cut1 n S k0 f to t ro pl cl sp
  frm : Only w W (gapF lo l0 h0 j0 j1)
theorem gap_ia {w W : World} {lo l0 h0 j0 j1 : Nat} {a : Option Addr} {l : List Int} (h : IA w a l) (hb : Only w W (gapF lo l0 h0 j0 j1)) (hg : ∀ p, a = some p → l0 ≤ p.block ∧ p.block < h0) : IA W a l := ⟨fun k hk => by
  obtain ⟨b, off, rfl, h1, h2⟩ := h.at' k hk
  have := hg _ rfl
  refine ⟨b, off, rfl, Nat.lt_of_lt_of_le h1 hb.size, (hb.cell (p := ⟨b, off + k, none⟩) h1 (fun s => ?_)).trans h2⟩
  have := s.2.1
  simp only at *
  omega⟩
/-- Two spans more. -/
structure CtB (wq w6 W : World) (M E m1 m2 e1 e2 : Nat) : Prop where
  bm : W.heap[M]? = some (.cells #[.int .i64 (m1 : Int), .int .i64 (m2 : Int)] 74 (0, 0))
  be : W.heap[E]? = some (.cells #[.int .i64 (e1 : Int), .int .i64 (e2 : Int)] 74 (0, 0))
  ne : M ≠ E
  bel : Only w6 W (fun _ => False)
  nw : w6.heap.size ≤ M ∧ w6.heap.size ≤ E
theorem CtB.drew {wq w6 W : World} {M E m1 m2 e1 e2 : Nat} (h : CtB wq w6 W M E m1 m2 e1 e2) : CtB wq w6 W.drew M E m1 m2 e1 e2 := ⟨h.bm, h.be, h.ne, ⟨h.bel.os, h.bel.tape, h.bel.output, h.bel.size, h.bel.block⟩, h.nw⟩
/-- Four spans. -/
structure CtC (W : World) (A B M E a1 a2 b1 b2 m1 m2 e1 e2 : Nat) : Prop where
  ba : W.heap[A]? = some (.cells #[.int .i64 (a1 : Int), .int .i64 (a2 : Int)] 74 (0, 0))
  bb : W.heap[B]? = some (.cells #[.int .i64 (b1 : Int), .int .i64 (b2 : Int)] 74 (0, 0))
  bm : W.heap[M]? = some (.cells #[.int .i64 (m1 : Int), .int .i64 (m2 : Int)] 74 (0, 0))
  be : W.heap[E]? = some (.cells #[.int .i64 (e1 : Int), .int .i64 (e2 : Int)] 74 (0, 0))
  ne : A ≠ B ∧ A ≠ M ∧ A ≠ E ∧ B ≠ M ∧ B ≠ E ∧ M ≠ E
theorem CtC.past {W W' : World} {A B M E a1 a2 b1 b2 m1 m2 e1 e2 : Nat} (h : CtC W A B M E a1 a2 b1 b2 m1 m2 e1 e2) (hb : Below W.heap.size W W') : CtC W' A B M E a1 a2 b1 b2 m1 m2 e1 e2 :=
  ⟨(hb.block _ (Array.getElem?_eq_some_iff.1 h.ba).1).trans h.ba, (hb.block _ (Array.getElem?_eq_some_iff.1 h.bb).1).trans h.bb, (hb.block _ (Array.getElem?_eq_some_iff.1 h.bm).1).trans h.bm, (hb.block _ (Array.getElem?_eq_some_iff.1 h.be).1).trans h.be, h.ne⟩
/-- The greater piece and the lesser one. -/
structure CtD (wq W : World) (lo l0 h0 j0 j1 P R L C n : Nat) (ro pl cl : Nat → Nat) (vs : Value) (sp : List (Nat × Nat)) (vq : Value) (q : List Nat) (M E f u to d1 d2 m1 m2 e1 e2 : Nat) : Prop where
  pt : Pt W lo l0 h0 j0 j1 P R L C n ro pl cl vs sp vq q
  bm : W.heap[M]? = some (.cells #[.int .i64 (m1 : Int), .int .i64 (m2 : Int)] 74 (0, 0))
  be : W.heap[E]? = some (.cells #[.int .i64 (e1 : Int), .int .i64 (e2 : Int)] 74 (0, 0))
  frm : Only wq W (gapF lo l0 h0 j0 j1)
  dis : (d1 < d2 ∧ m1 = u ∧ m2 = to ∧ e1 = f ∧ e2 = u) ∨ (¬ d1 < d2 ∧ m1 = f ∧ m2 = u ∧ e1 = u ∧ e2 = to)
/-- With one span more. -/
structure CtE (wq W : World) (lo l0 h0 j0 j1 P R L C n : Nat) (ro pl cl : Nat → Nat) (vs : Value) (sp : List (Nat × Nat)) (vq : Value) (q : List Nat) (E e1 e2 : Nat) : Prop where
  pt : Pt W lo l0 h0 j0 j1 P R L C n ro pl cl vs sp vq q
  be : W.heap[E]? = some (.cells #[.int .i64 (e1 : Int), .int .i64 (e2 : Int)] 74 (0, 0))
  frm : Only wq W (gapF lo l0 h0 j0 j1)
/-- While the lesser piece gets its number. -/
structure CtG (wq W : World) (lo l0 h0 j0 j1 P R L C n : Nat) (ro pl cl : Nat → Nat) (vs : Value) (sp : List (Nat × Nat)) (q : List Nat) : Prop where
  pt : ∃ vq, Pt W lo l0 h0 j0 j1 P R L C n ro pl cl vs sp vq q ∧ Only wq W (gapF lo l0 h0 j0 j1)
theorem CtG.drew {wq W : World} {lo l0 h0 j0 j1 P R L C n : Nat} {ro pl cl : Nat → Nat} {vs : Value} {sp : List (Nat × Nat)} {q : List Nat} (h : CtG wq W lo l0 h0 j0 j1 P R L C n ro pl cl vs sp q) (k : Nat) : CtG wq (W.drewN k) lo l0 h0 j0 j1 P R L C n ro pl cl vs sp q := by
  obtain ⟨vq, h1, h2⟩ := h.pt
  exact ⟨vq, h1.past (below_drew' (Below.refl _ _) k), ⟨h2.os, h2.tape, h2.output, h2.size, h2.block⟩⟩
theorem seg_succ (ro : Nat → Nat) (a j : Nat) : seg ro a (a + (j + 1)) = seg ro a (a + j) ++ [ro (a + j)] := by
  unfold seg
  rw [show a + (j + 1) - a = j + 1 by omega, show a + j - a = j by omega, List.range_succ, List.map_append]
  rfl
/-- What cut leaves. -/
def CutW (w : World) (lo l0 h0 j0 j1 P R L C n : Nat) (cl : Nat → Nat) (sp : List (Nat × Nat)) (q S : List Nat) (w' : World) : Prop := ∃ ro' pl' cl' vs' sp' vq' add, Pt w' lo l0 h0 j0 j1 P R L C n ro' pl' cl' vs' sp' vq' (q ++ add) ∧ Prt n ro' pl' cl' sp' ∧ CutR n S cl cl' add sp.length sp'.length ∧ Only w w' (gapF lo l0 h0 j0 j1)
set_option maxRecDepth 10000 in
set_option maxHeartbeats 1600000 in
theorem cut_any (lo l0 h0 j0 j1 P R L C n : Nat) (ro pl cl : Nat → Nat) (vs : Value) (sp : List (Nat × Nat)) (vq : Value) (q S : List Nat) (aS : Option Addr) (cS : Nat) (w : World) (hp : Pt w lo l0 h0 j0 j1 P R L C n ro pl cl vs sp vq q) (hr : Prt n ro pl cl sp) (hS : Cuttable n cl S) (ha : IA w aS (natI S)) (hg : ∀ p, aS = some p → l0 ≤ p.block ∧ p.block < h0) (hn : n ≤ 4000000) (hq : q.length ≤ 5000000000000) :
    Calls Tryd.prog 43 #[.pointer (some ⟨P, 0, none⟩), .slice aS S.length cS] w fun e w' => e = .returned (.tuple #[]) ∧ CutW w lo l0 h0 j0 j1 P R L C n cl sp q S w' := by
  obtain ⟨i0, hi, hz0', hz1, hz2⟩ := info_parts infoSp
  obtain ⟨i1, hi1, hy0, hy1, hy2⟩ := info_parts infoInt
  have hSn : S.length ≤ n := nodup_le n S hS.nd hS.lt
  have hSp : 0 < S.length := List.length_pos_iff.2 hS.ne
  have hx0 : S[0] < n := hS.lt _ (List.getElem_mem _)
  obtain ⟨k0, hk0⟩ : ∃ k0, k0 = cl S[0] := ⟨_, rfl⟩
  have hkS : ∀ x ∈ S, cl x = k0 := fun x hx => by rw [hk0]; exact hS.one x hx _ (List.getElem_mem _)
  have hc1 := cut1_zero hr hS hkS
  obtain ⟨f, hf⟩ : ∃ f, f = (spF sp k0).1 := ⟨_, rfl⟩
  obtain ⟨to, hto⟩ : ∃ to, to = (spF sp k0).2 := ⟨_, rfl⟩
  rw [← hf, ← hto] at hc1
  have hkl := hc1.k'
  obtain ⟨z1, z2⟩ := hr.sz k0 hkl
  rw [← hf, ← hto] at z1
  rw [← hto] at z2
  have hspn := hr.few
  obtain ⟨g, cg, rfl, s0, s1, _, _⟩ := hp.span hkl
  rw [← hf] at s0
  rw [← hto] at s1
  obtain ⟨bS, oS, rfl, hbS, dS⟩ := ha.at' 0 (by rw [natI_len]; exact hSp)
  have dS' : w.cell? ⟨bS, oS, none⟩ = some (.int .i64 (S[0] : Int)) := by simpa [natI] using dS
  have dC := hp.class'.cell hx0
  rw [← hk0] at dC
  obtain ⟨c0, c1, c2, c3, c4⟩ := hp.cell
  obtain ⟨x0, hx0e⟩ : ∃ x0, x0 = S[0] := ⟨_, rfl⟩
  rw [← hx0e] at hx0 dS' dC
  have hx0I : (x0 : Int) < (n : Int) := by omega
  have hx00 : (0 : Int) ≤ (x0 : Int) := by omega
  have hkI : (k0 : Int) < (sp.length : Int) := by omega
  have hkI0 : (0 : Int) ≤ (k0 : Int) := by omega
  have hSI : (0 : Int) < (S.length : Int) := by omega
  have HP := hid0 hp
  have HR := hid0 hr
  have HS := hid0 hS
  have HA := hid0 ha
  have HG := hid0 hg
  have HKS := hid0 hkS
  have HC1 := hid0 hc1
  have HF := hid0 (And.intro hf hto)
  clear hp hr hS ha hg hkS hc1 hk0 hx0e hf hto dS hspn
  go_enter Tryd.func43, Tryd.ntmps43
  go_wp2
  go_quiet ((fail))
  have hBq : Below w.heap.size w (w.drewN nq) := below_drew' (Below.refl _ _) nq
  have HPq := hid0 (HP.out.past hBq)
  have HAq := hid0 (HA.out.past hBq)
  have HOq : Hid (∀ W, Only (w.drewN nq) W (gapF lo l0 h0 j0 j1) → Only w W (gapF lo l0 h0 j0 j1)) := hid0 (fun W h => ⟨h.os, h.tape, h.output, h.size, h.block⟩)
  have s0q : (w.drewN nq).cell? ⟨g, k0 * 2, none⟩ = some (.int .i64 (f : Int)) := s0
  have s1q : (w.drewN nq).cell? ⟨g, k0 * 2 + 1, none⟩ = some (.int .i64 (to : Int)) := s1
  have c3q : (w.drewN nq).cell? ⟨P, 3, none⟩ = some (.slice (some ⟨g, 0, none⟩) sp.length cg) := c3
  clear HP HA hBq s0 s1 c3 dS' dC c0 c1 c2 c4 hbS hx0I hx00 hx0
  generalize w.drewN nq = wq at *
  obtain ⟨w1, hw1⟩ : ∃ w1, w1 = wq.alloc (.cells #[.int .i64 (f : Int), .int .i64 (to : Int)] 74) := ⟨_, rfl⟩
  have hsz1 : w1.heap.size = wq.heap.size + 1 := by rw [hw1]; simp
  obtain ⟨w2, hw2⟩ : ∃ w2, w2 = w1.alloc (.cells #[.int .i64 (to : Int), .int .i64 (to : Int)] 74) := ⟨_, rfl⟩
  have hB1 : Below wq.heap.size wq w1 := by rw [hw1]; exact (Below.refl _ _).alloc (Nat.le_refl _) _
  have hB2 : Below wq.heap.size wq w2 := by rw [hw2]; exact hB1.alloc (by omega) _
  have r1 : w1.heap[wq.heap.size]? = some (.cells #[.int .i64 (f : Int), .int .i64 (to : Int)] 74 (0, 0)) := by rw [hw1]; exact heap_alloc_new _ _
  have x1 : w1.cell? ⟨wq.heap.size, 1, none⟩ = some (.int .i64 (to : Int)) := by rw [cell_of_row _ _ _ _ _ _ r1]; rfl
  have HI0 : Hid (CtI wq w2 lo l0 h0 j0 j1 P R L C n ro pl cl (.slice (some ⟨g, 0, none⟩) sp.length cg) sp vq q S k0 f to 0 w1.heap.size) := hid0 ⟨HPq.out.past hB2, by
      rw [hw2, Below.heap_alloc _ _ _ (by omega), r1]; rfl, hsz1, by
      have := heap_alloc_new w1 (.cells #[.int .i64 (to : Int), .int .i64 (to : Int)] 74)
      rw [← hw2] at this
      exact this, HC1.out, Only.ofBelow hB2 _ (fun i a b => by omega)⟩
  have q1 := hw1.symm
  have q2 := hw2.symm
  clear hw1 hw2 hsz1 hB1 hB2 r1
  go_wp2
  clear q1 q2 x1 s0q s1q c3q
  go_loopw [36] (fun i wr => ∃ (k : Nat) (ro' pl' : Nat → Nat), k ≤ S.length ∧ i = .int .i64 (k : Int) ∧ Hid (CtI wq wr lo l0 h0 j0 j1 P R L C n ro' pl' cl (.slice (some ⟨g, 0, none⟩) sp.length cg) sp vq q S k0 f to k w1.heap.size)) (fun i _ => S.length - (intOf i).toNat)
  case atStart => exact ⟨0, ro, pl, Nat.zero_le _, rfl, HI0⟩
  case round =>
    obtain ⟨k, ro', pl', hk, rfl, HI⟩ := hrel
    by_cases hlt : k < S.length
    · have hkkI : (k : Int) < (S.length : Int) := by omega
      have hkk0 : (0 : Int) ≤ (k : Int) := by omega
      obtain ⟨b', o', e, hb', d1⟩ := (gap_ia HAq.out HI.out.frm HG.out).at' k (by rw [natI_len]; exact hlt)
      cases e
      obtain ⟨a1, a2, a3, a4⟩ := HI.out.c1.at HS.out HKS.out hlt
      have hstep := HI.out.c1.step HS.out HKS.out hlt
      have d1' : wr.cell? ⟨bS, oS + k, none⟩ = some (.int .i64 (S[k] : Int)) := by simpa [natI] using d1
      have dp := HI.out.pt.place.cell a4
      have pr := HI.out.c1.prt.lr _ a4
      obtain ⟨s, hs⟩ : ∃ s, s = S[k] := ⟨_, rfl⟩
      rw [← hs] at a1 a2 a4 d1' dp hstep pr
      obtain ⟨i', hi'⟩ : ∃ i', i' = pl' s := ⟨_, rfl⟩
      rw [← hi'] at a1 a2 dp hstep pr
      obtain ⟨u, hu⟩ : ∃ u, u = to - k := ⟨_, rfl⟩
      obtain ⟨u', hu'⟩ : ∃ u', u' = to - (k + 1) := ⟨_, rfl⟩
      rw [← hu'] at hstep
      have b0 : wr.cell? ⟨wq.heap.size, 1, none⟩ = some (.int .i64 (u : Int)) := by rw [cell_of_row _ _ _ _ _ _ HI.out.ba, hu]; rfl
      have bz : wr.frozen? ⟨wq.heap.size, 1, none⟩ = false := by simp [World.frozen?, HI.out.ba]
      have huI : (u : Int) - 1 = (u' : Int) := by omega
      have huW : IntKind.i64.wrap (u' : Int) = (u' : Int) := by simp [IntKind.wrap, IntKind.bits, IntKind.signed]; omega
      have hsI : (s : Int) < (n : Int) := by omega
      have hs0 : (0 : Int) ≤ (s : Int) := by omega
      have hjn : u' < n := by omega
      have hro := HI.out.c1.prt.rl u' hjn
      obtain ⟨l1, l2, l3, l4⟩ := HPq.out.lt
      obtain ⟨n1, n2, n3, n4, n5, n6⟩ := HPq.out.ne
      have hbig := HPq.out.big
      obtain ⟨w5, hw5⟩ : ∃ w5, w5 = wr.setCell ⟨wq.heap.size, 1, none⟩ (.int .i64 (u' : Int)) := ⟨_, rfl⟩
      have hO5 : Only wr w5 (fun b => b = wq.heap.size) := by rw [hw5]; exact Only.setCell _ _ _ _
      have hp5 : Pt w5.drew lo l0 h0 j0 j1 P R L C n ro' pl' cl (.slice (some ⟨g, 0, none⟩) sp.length cg) sp vq q := by
        have h := HI.out.pt
        obtain ⟨m1, m2, m3, m4⟩ := h.lt
        have key : ∀ b, b < wr.heap.size → b ≠ wq.heap.size → w5.heap[b]? = wr.heap[b]? := fun b hb hne => hO5.block b hb hne
        have hw : wq.heap.size < wr.heap.size := (Array.getElem?_eq_some_iff.1 HI.out.ba).1
        have q1 : ∀ b, vq.ownBlock = some b → b ≠ wq.heap.size := fun b hb => by have := (World.ownsRow.lt HPq.out.queue b hb).2; omega
        have q2 : ∀ b, (Value.slice (some ⟨g, 0, none⟩) sp.length cg).ownBlock = some b → b ≠ wq.heap.size := fun b hb => by have := (World.ownsRow.lt HPq.out.spans b hb).2; omega
        exact ⟨(key _ m1 (by omega)).trans h.blk, h.row.keep (key _ m2 (by omega)), h.place.keep (key _ m3 (by omega)), h.class'.keep (key _ m4 (by omega)), own_blk h.spans (fun b hb => key _ (World.ownsRow.lt h.spans b hb).2 (q2 b hb)), own_blk h.queue (fun b hb => key _ (World.ownsRow.lt h.queue b hb).2 (q1 b hb)), h.gs, h.gq, h.ne, h.g4, h.nq, Nat.le_trans h.big hO5.size, h.lol, Nat.le_trans h.bj hO5.size⟩
      have r5 : w5.heap[wq.heap.size]? = some (.cells #[.int .i64 (f : Int), .int .i64 (u' : Int)] 74 (0, 0)) := by
        rw [hw5]
        exact heap_setCell_same _ _ 1 _ _ _ HI.out.ba
      have b1 : w5.cell? ⟨wq.heap.size, 1, none⟩ = some (.int .i64 (u' : Int)) := by rw [cell_of_row _ _ _ _ _ _ r5]; rfl
      have c1 : w5.cell? ⟨P, 1, none⟩ = some (.slice (some ⟨L, 0, none⟩) n n) := hp5.cell.2.1
      have dp5 : w5.cell? ⟨L, s, none⟩ = some (.int .i64 (i' : Int)) := (hO5.cell (p := ⟨L, s, none⟩) HI.out.pt.lt.2.2.1 (by simp only; omega)).trans dp
      have HSw := hid0 (swap_any lo l0 h0 j0 j1 P R L C n i' u' ro' pl' cl _ sp vq q w5.drew hp5 (by omega) hjn (by rw [pr.2]; exact a4) hro.1 (by omega))
      have HNx : Hid (∀ w3, Pt w3 lo l0 h0 j0 j1 P R L C n (swR ro' i' u') (swP ro' pl' i' u') cl (.slice (some ⟨g, 0, none⟩) sp.length cg) sp vq q → Only w5.drew w3 (fun k => k = R ∨ k = L) → w3.heap.size = w5.drew.heap.size → CtI wq w3 lo l0 h0 j0 j1 P R L C n (swR ro' i' u') (swP ro' pl' i' u') cl (.slice (some ⟨g, 0, none⟩) sp.length cg) sp vq q S k0 f to (k + 1) w1.heap.size) := hid0 (fun w3 hp3 ho3 hz3 => by
        have hsz : w1.heap.size < wr.heap.size := (Array.getElem?_eq_some_iff.1 HI.out.bb).1
        have hbz := HI.out.bz
        have hsz5 : w5.heap.size = wr.heap.size := by rw [hw5]; simp [World.setCell]
        have g4 := HPq.out.g4
        refine ⟨hp3, ?_, hbz, ?_, hstep, ?_⟩
        · rw [← hu']
          exact (ho3.block _ (by show wq.heap.size < w5.heap.size; omega) (by omega)).trans r5
        · exact (ho3.block _ (by show w1.heap.size < w5.heap.size; omega) (by omega)).trans ((hO5.block _ hsz (by omega)).trans HI.out.bb)
        · refine HI.out.frm.trans ((hO5.mono (T := fun b => b = R ∨ b = L ∨ wq.heap.size ≤ b) (fun b hb => by omega)).trans (show Only w5 w3 (fun b => b = R ∨ b = L) from ⟨ho3.os, ho3.tape, ho3.output, ho3.size, ho3.block⟩) (fun b hb => by omega)) (fun b hb => ?_)
          rcases hb with rfl | rfl | hb
          · exact .inl g4.2.1
          · exact .inl g4.2.2.1
          · exact .inr hb)
      have HCe : Hid (∀ w3, Pt w3 lo l0 h0 j0 j1 P R L C n (swR ro' i' u') (swP ro' pl' i' u') cl (.slice (some ⟨g, 0, none⟩) sp.length cg) sp vq q → Only w5.drew w3 (fun k => k = R ∨ k = L) → w3.cell? ⟨P, 1, none⟩ = some (.slice (some ⟨L, 0, none⟩) n n) ∧ w3.cell? ⟨wq.heap.size, 1, none⟩ = some (.int .i64 (u' : Int))) := hid0 (fun w3 hp3 ho3 => by
        have hsz5 : wq.heap.size < w5.heap.size := (Array.getElem?_eq_some_iff.1 r5).1
        exact ⟨hp3.cell.2.1, (ho3.cell (p := ⟨wq.heap.size, 1, none⟩) hsz5 (by simp only; omega)).trans b1⟩)
      have q5 := hw5.symm
      clear hw5 hO5 hp5 r5 HI d1 hstep pr hro hs hi' hu hu' a1 a2 a3 a4 dp
      go_wp2
      refine wp_region_noPanic ?_
      refine wp_region_held_drew (S := (fun V => V.cell? ⟨P, 1, none⟩ = some (.slice (some ⟨L, 0, none⟩) n n) ∧ V.cell? ⟨wq.heap.size, 1, none⟩ = some (.int .i64 (u' : Int)))) (by kernel_rfl) ?_ (fun hHeld => ?_)
      · exact ⟨c1, b1⟩
      refine tkV (i := 0) (d := some 44) (v := ?_) rfl (by kernel_rfl) (by kernel_rfl) (by kernel_rfl) rfl (fun _ _ _ h => h) (by rfl) ?_ (by assumption) ?_
      rotate_left
      · (intro w hSw; (try dsimp only at hSw); (try simp only [List.getElem_toArray, List.getElem_cons_zero]); go_simp; try with_reducible rfl)
      try simp only [Act.put, List.setIfInBounds_toArray, List.set_cons_zero, List.set_cons_succ]
      refine tkV (i := 1) (d := some 45) (v := ?_) rfl (by kernel_rfl) (by kernel_rfl) (by kernel_rfl) rfl (fun _ _ _ h => h) (by rfl) ?_ (by assumption) ?_
      rotate_left
      · (intro w hSw; (try dsimp only at hSw); (try simp only [List.getElem_toArray, List.getElem_cons_zero, List.getElem_cons_succ]); go_simp; try with_reducible rfl)
      try simp only [Act.put, List.setIfInBounds_toArray, List.set_cons_zero, List.set_cons_succ]
      refine tkV (i := 2) (d := some 46) (v := ?_) rfl (by kernel_rfl) (by kernel_rfl) (by kernel_rfl) rfl (fun _ _ _ h => h) (by rfl) ?_ (by assumption) ?_
      rotate_left
      · (intro w hSw; (try dsimp only at hSw); (try simp only [List.getElem_toArray, List.getElem_cons_zero, List.getElem_cons_succ]); go_simp; try with_reducible rfl)
      try simp only [Act.put, List.setIfInBounds_toArray, List.set_cons_zero, List.set_cons_succ]
      refine tkV (i := 3) (d := some 47) (v := ?_) rfl (by kernel_rfl) (by kernel_rfl) (by kernel_rfl) rfl (fun _ _ _ h => h) (by rfl) ?_ (by assumption) ?_
      rotate_left
      · (intro w hSw; (try dsimp only at hSw); (try simp only [List.getElem_toArray, List.getElem_cons_zero, List.getElem_cons_succ]); go_simp; try with_reducible rfl)
      try simp only [Act.put, List.setIfInBounds_toArray, List.set_cons_zero, List.set_cons_succ]
      refine tkV (i := 4) (d := some 48) (v := ?_) rfl (by kernel_rfl) (by kernel_rfl) (by kernel_rfl) rfl (fun _ _ _ h => h) (by rfl) ?_ (by assumption) ?_
      rotate_left
      · (intro w hSw; (try dsimp only at hSw); (try simp only [List.getElem_toArray, List.getElem_cons_zero, List.getElem_cons_succ]); go_simp; try with_reducible rfl)
      try simp only [Act.put, List.setIfInBounds_toArray, List.set_cons_zero, List.set_cons_succ]
      refine tkV (i := 5) (d := some 49) (v := ?_) rfl (by kernel_rfl) (by kernel_rfl) (by kernel_rfl) rfl (fun _ _ _ h => h) (by rfl) ?_ (by assumption) ?_
      rotate_left
      · (intro w hSw; (try dsimp only at hSw); (try simp only [List.getElem_toArray, List.getElem_cons_zero, List.getElem_cons_succ]); go_simp; try with_reducible rfl)
      try simp only [Act.put, List.setIfInBounds_toArray, List.set_cons_zero, List.set_cons_succ]
      refine tkV (i := 6) (d := some 50) (v := ?_) rfl (by kernel_rfl) (by kernel_rfl) (by kernel_rfl) rfl (fun _ _ _ h => h) (by rfl) ?_ (by assumption) ?_
      rotate_left
      · (intro w hSw; (try dsimp only at hSw); (try simp only [List.getElem_toArray, List.getElem_cons_zero, List.getElem_cons_succ]); go_simp; try with_reducible rfl)
      try simp only [Act.put, List.setIfInBounds_toArray, List.set_cons_zero, List.set_cons_succ]
      refine tkV (i := 8) (d := some 52) (v := ?_) rfl (by kernel_rfl) (by kernel_rfl) (by kernel_rfl) rfl (fun _ _ _ h => h) (by rfl) ?_ (by assumption) ?_
      rotate_left
      · (intro w hSw; (try dsimp only at hSw); (try simp only [List.getElem_toArray, List.getElem_cons_zero, List.getElem_cons_succ]); go_simp; try with_reducible rfl)
      try simp only [Act.put, List.setIfInBounds_toArray, List.set_cons_zero, List.set_cons_succ]
      refine tkV (i := 9) (d := some 53) (v := ?_) rfl (by kernel_rfl) (by kernel_rfl) (by kernel_rfl) rfl (fun _ _ _ h => h) (by rfl) ?_ (by assumption) ?_
      rotate_left
      · (intro w hSw; (try dsimp only at hSw); (try simp only [List.getElem_toArray, List.getElem_cons_zero, List.getElem_cons_succ]); go_simp; try with_reducible rfl)
      try simp only [Act.put, List.setIfInBounds_toArray, List.set_cons_zero, List.set_cons_succ]
      refine wpAnyH_ready (rs := [7]) (by kernel_rfl) (by simp) (AllReadyH.cons rfl (fun K hK => ?_) AllReadyH.nil)
      try simp only [List.getElem_toArray, List.getElem_cons_zero, List.getElem_cons_succ]
      go_simp
      refine hK.out _ _ ?_ (fun hHeld7 => ?_)
      · exact ⟨c1, b1⟩
      clear hK K
      (try simp only [Act.put]); (try simp only [List.setIfInBounds_toArray]); (try simp only [List.set_cons_succ]); (try simp only [List.set_cons_zero])
      refine wpAnyH_ready (rs := [10]) (by kernel_rfl) (by simp) (AllReadyH.cons rfl (fun K hK => ?_) AllReadyH.nil)
      try simp only [List.getElem_toArray, List.getElem_cons_zero, List.getElem_cons_succ]
      go_simp
      refine HSw.out.mono ?_
      rintro e w3 ⟨rfl, hp3, ho3, hz3⟩
      have HI3 := hid0 (HNx.out w3 hp3 ho3 hz3)
      have hs3 : w3.cell? ⟨P, 1, none⟩ = some (.slice (some ⟨L, 0, none⟩) n n) ∧ w3.cell? ⟨wq.heap.size, 1, none⟩ = some (.int .i64 (u' : Int)) := HCe.out w3 hp3 ho3
      clear hp3 ho3 hz3
      go_wp2_with fail
      refine hK.out _ _ ?_ (fun hHeld10 => ?_)
      · exact hs3
      clear hK K
      (try simp only [Act.put]); (try simp only [List.setIfInBounds_toArray]); (try simp only [List.set_cons_succ]); (try simp only [List.set_cons_zero])
      refine wpAnyH_done (by kernel_rfl) ?_ _
      refine NoPanic.normal ?_
      clear hHeld hHeld7 hHeld10
      go_wp2
      go_roundw
      case rel => exact ⟨k + 1, _, _, by omega, by go_num, HI3⟩
      case measure => simp [intOf]; omega
    · obtain rfl : k = S.length := by omega
      have hkkI : ¬ (S.length : Int) < (S.length : Int) := by omega
      have hbz := HI.out.bz
      obtain ⟨u, hu⟩ : ∃ u, u = to - S.length := ⟨_, rfl⟩
      have hba := HI.out.ba
      rw [← hu] at hba
      have hbb := HI.out.bb
      obtain ⟨w6, hw6⟩ : ∃ w6, w6 = wr.setCell ⟨w1.heap.size, 0, none⟩ (.int .i64 (u : Int)) := ⟨_, rfl⟩
      have hO6 : Only wr w6 (fun b => b = w1.heap.size) := by rw [hw6]; exact Only.setCell _ _ _ _
      have hbb6 : w6.heap[w1.heap.size]? = some (.cells #[.int .i64 (u : Int), .int .i64 (to : Int)] 74 (0, 0)) := by rw [hw6]; exact heap_setCell_same _ _ 0 _ _ _ hbb
      have hba6 : w6.heap[wq.heap.size]? = some (.cells #[.int .i64 (f : Int), .int .i64 (u : Int)] 74 (0, 0)) := (hO6.block _ (Array.getElem?_eq_some_iff.1 hba).1 (by omega)).trans hba
      have y1 : wr.cell? ⟨wq.heap.size, 1, none⟩ = some (.int .i64 (u : Int)) := by rw [cell_of_row _ _ _ _ _ _ hba]; rfl
      have y2 : wr.cell? ⟨w1.heap.size, 0, none⟩ = some (.int .i64 (to : Int)) := by rw [cell_of_row _ _ _ _ _ _ hbb]; rfl
      have y3 : wr.frozen? ⟨w1.heap.size, 0, none⟩ = false := by simp [World.frozen?, hbb]
      have y4 : w6.cell? ⟨wq.heap.size, 0, none⟩ = some (.int .i64 (f : Int)) := by rw [cell_of_row _ _ _ _ _ _ hba6]; rfl
      have y5 : w6.cell? ⟨wq.heap.size, 1, none⟩ = some (.int .i64 (u : Int)) := by rw [cell_of_row _ _ _ _ _ _ hba6]; rfl
      have y6 : w6.cell? ⟨w1.heap.size, 0, none⟩ = some (.int .i64 (u : Int)) := by rw [cell_of_row _ _ _ _ _ _ hbb6]; rfl
      have y7 : w6.cell? ⟨w1.heap.size, 1, none⟩ = some (.int .i64 (to : Int)) := by rw [cell_of_row _ _ _ _ _ _ hbb6]; rfl
      have HB6 := hid0 (And.intro hba6 hbb6)
      have HO6 := hid0 hO6
      have HU := hid0 hu
      have q6 := hw6.symm
      clear hbz hba hbb hO6 hba6 hbb6 hw6 hu HI0
      go_upto_region 10 with (fail)
      go_cut [9, 10] from 59 (fun p9 p10 wx => ∃ M E : Nat, p9 = .pointer (some ⟨M, 0, none⟩) ∧ p10 = .pointer (some ⟨E, 0, none⟩) ∧ Hid (CtB wq w6 wx M E f u u to))
      case first =>
        obtain ⟨v1, hv1⟩ : ∃ v1, v1 = w6.alloc (.cells #[.int .i64 0, .int .i64 0] 74) := ⟨_, rfl⟩
        obtain ⟨v2, hv2⟩ : ∃ v2, v2 = v1.alloc (.cells #[.int .i64 0, .int .i64 0] 74) := ⟨_, rfl⟩
        have hs1 : v1.heap.size = w6.heap.size + 1 := by rw [hv1]; simp
        have hs0 : w1.heap.size < w6.heap.size := World.block_lt_of_cell? w6 _ y6
        have hs2 : v2.heap.size = v1.heap.size + 1 := by rw [hv2]; simp
        have hv1o : Only w6 v1 (fun _ => False) := by rw [hv1]; exact Only.alloc _ _ _
        have hv2o : Only w6 v2 (fun _ => False) := hv1o.trans (by rw [hv2]; exact Only.alloc _ _ (fun _ => False)) (fun _ h => False.elim h)
        have rx1 : v1.heap[w6.heap.size]? = some (.cells #[.int .i64 0, .int .i64 0] 74 (0, 0)) := by rw [hv1]; exact heap_alloc_new _ _
        have rx : v2.heap[w6.heap.size]? = some (.cells #[.int .i64 0, .int .i64 0] 74 (0, 0)) := by rw [hv2, Below.heap_alloc _ _ _ (by omega)]; exact rx1
        have ry : v2.heap[v1.heap.size]? = some (.cells #[.int .i64 0, .int .i64 0] 74 (0, 0)) := by rw [hv2]; exact heap_alloc_new _ _
        have c10 : v1.cell? ⟨wq.heap.size, 0, none⟩ = some (.int .i64 (f : Int)) := by rw [hv1]; exact cell_alloc y4 _
        have c11 : v1.cell? ⟨wq.heap.size, 1, none⟩ = some (.int .i64 (u : Int)) := by rw [hv1]; exact cell_alloc y5 _
        have c12 : v1.cell? ⟨w1.heap.size, 0, none⟩ = some (.int .i64 (u : Int)) := by rw [hv1]; exact cell_alloc y6 _
        have c13 : v1.cell? ⟨w1.heap.size, 1, none⟩ = some (.int .i64 (to : Int)) := by rw [hv1]; exact cell_alloc y7 _
        have c20 : v2.cell? ⟨wq.heap.size, 0, none⟩ = some (.int .i64 (f : Int)) := by rw [hv2]; exact cell_alloc c10 _
        have c21 : v2.cell? ⟨wq.heap.size, 1, none⟩ = some (.int .i64 (u : Int)) := by rw [hv2]; exact cell_alloc c11 _
        have c22 : v2.cell? ⟨w1.heap.size, 0, none⟩ = some (.int .i64 (u : Int)) := by rw [hv2]; exact cell_alloc c12 _
        have c23 : v2.cell? ⟨w1.heap.size, 1, none⟩ = some (.int .i64 (to : Int)) := by rw [hv2]; exact cell_alloc c13 _
        have e1 : v2.cell? ⟨w6.heap.size, 0, none⟩ = some (.int .i64 0) := by rw [cell_of_row _ _ _ _ _ _ rx]; rfl
        have e2 : v2.cell? ⟨w6.heap.size, 1, none⟩ = some (.int .i64 0) := by rw [cell_of_row _ _ _ _ _ _ rx]; rfl
        have e3 : v2.cell? ⟨v1.heap.size, 0, none⟩ = some (.int .i64 0) := by rw [cell_of_row _ _ _ _ _ _ ry]; rfl
        have e4 : v2.cell? ⟨v1.heap.size, 1, none⟩ = some (.int .i64 0) := by rw [cell_of_row _ _ _ _ _ _ ry]; rfl
        have e5 : ∀ o, v2.frozen? ⟨w6.heap.size, o, none⟩ = false := fun o => by simp [World.frozen?, rx]
        have e6 : ∀ o, v2.frozen? ⟨v1.heap.size, o, none⟩ = false := fun o => by simp [World.frozen?, ry]
        obtain ⟨p1, hp1⟩ : ∃ p1, p1 = v2.setCell ⟨w6.heap.size, 0, none⟩ (.int .i64 (f : Int)) := ⟨_, rfl⟩
        obtain ⟨p2, hp2⟩ : ∃ p2, p2 = p1.setCell ⟨w6.heap.size, 1, none⟩ (.int .i64 (u : Int)) := ⟨_, rfl⟩
        obtain ⟨p3, hp3⟩ : ∃ p3, p3 = p2.setCell ⟨v1.heap.size, 0, none⟩ (.int .i64 (u : Int)) := ⟨_, rfl⟩
        obtain ⟨p4, hp4⟩ : ∃ p4, p4 = p3.setCell ⟨v1.heap.size, 1, none⟩ (.int .i64 (to : Int)) := ⟨_, rfl⟩
        have rp1 : p1.heap[w6.heap.size]? = some (.cells #[.int .i64 (f : Int), .int .i64 0] 74 (0, 0)) := by rw [hp1]; exact heap_setCell_same _ _ 0 _ _ _ rx
        have rp2 : p2.heap[w6.heap.size]? = some (.cells #[.int .i64 (f : Int), .int .i64 (u : Int)] 74 (0, 0)) := by rw [hp2]; exact heap_setCell_same _ _ 1 _ _ _ rp1
        have kp1 : Only v2 p1 (fun b => b = w6.heap.size) := by rw [hp1]; exact Only.setCell _ _ _ _
        have kp2 : Only v2 p2 (fun b => b = w6.heap.size) := kp1.trans (by rw [hp2]; exact Only.setCell _ _ _ _) (fun _ h => .inl h)
        have tp2 : p2.heap[v1.heap.size]? = some (.cells #[.int .i64 0, .int .i64 0] 74 (0, 0)) := (kp2.block _ (by omega) (by omega)).trans ry
        have tp3 : p3.heap[v1.heap.size]? = some (.cells #[.int .i64 (u : Int), .int .i64 0] 74 (0, 0)) := by rw [hp3]; exact heap_setCell_same _ _ 0 _ _ _ tp2
        have tp4 : p4.heap[v1.heap.size]? = some (.cells #[.int .i64 (u : Int), .int .i64 (to : Int)] 74 (0, 0)) := by rw [hp4]; exact heap_setCell_same _ _ 1 _ _ _ tp3
        have kp4 : Only p2 p4 (fun b => b = v1.heap.size) := (by rw [hp3]; exact Only.setCell _ _ _ _ : Only p2 p3 (fun b => b = v1.heap.size)).trans (by rw [hp4]; exact Only.setCell _ _ _ _) (fun _ h => .inl h)
        have Hp : Hid (CtB wq w6 p4 (w6.heap.size) (v1.heap.size) f u u to) := hid0 ⟨(kp4.block _ (Array.getElem?_eq_some_iff.1 rp2).1 (by omega)).trans rp2, tp4, by omega, (hv2o.trans ((kp2.mono (T := fun b => w6.heap.size ≤ b) (fun b hb => by omega)).trans kp4 (fun b hb => .inl (by omega))) (fun b hb => .inr hb)), by omega, by omega⟩
        have zp1 : p1.cell? ⟨w6.heap.size, 1, none⟩ = some (.int .i64 0) := by rw [cell_of_row _ _ _ _ _ _ rp1]; rfl
        have zp2 : p2.cell? ⟨v1.heap.size, 0, none⟩ = some (.int .i64 0) := by rw [cell_of_row _ _ _ _ _ _ tp2]; rfl
        have zp3 : p3.cell? ⟨v1.heap.size, 1, none⟩ = some (.int .i64 0) := by rw [cell_of_row _ _ _ _ _ _ tp3]; rfl
        have zp5 : p2.cell? ⟨v1.heap.size, 1, none⟩ = some (.int .i64 0) := by rw [cell_of_row _ _ _ _ _ _ tp2]; rfl
        have op1 : p1.frozen? ⟨w6.heap.size, 1, none⟩ = false := by simp [World.frozen?, rp1]
        have op2 : p2.frozen? ⟨v1.heap.size, 0, none⟩ = false := by simp [World.frozen?, tp2]
        have op3 : p3.frozen? ⟨v1.heap.size, 1, none⟩ = false := by simp [World.frozen?, tp3]
        have op4 : p2.frozen? ⟨v1.heap.size, 1, none⟩ = false := by simp [World.frozen?, tp2]
        have lp1 : p2.cell? ⟨w1.heap.size, 0, none⟩ = some (.int .i64 (u : Int)) := (kp2.cell (p := ⟨w1.heap.size, 0, none⟩) (World.block_lt_of_cell? v2 _ c22) (by simp only; omega)).trans c22
        have lp2 : p2.cell? ⟨w1.heap.size, 1, none⟩ = some (.int .i64 (to : Int)) := (kp2.cell (p := ⟨w1.heap.size, 1, none⟩) (World.block_lt_of_cell? v2 _ c23) (by simp only; omega)).trans c23
        have gp1 := hp1.symm; have gp2 := hp2.symm; have gp3 := hp3.symm; have gp4 := hp4.symm
        clear hp1 hp2 hp3 hp4 rp1 rp2 kp1 kp2 kp4 tp2 tp3 tp4
        obtain ⟨s1, hs1⟩ : ∃ s1, s1 = v2.setCell ⟨v1.heap.size, 0, none⟩ (.int .i64 (f : Int)) := ⟨_, rfl⟩
        obtain ⟨s2, hs2⟩ : ∃ s2, s2 = s1.setCell ⟨v1.heap.size, 1, none⟩ (.int .i64 (u : Int)) := ⟨_, rfl⟩
        obtain ⟨s3, hs3⟩ : ∃ s3, s3 = s2.setCell ⟨w6.heap.size, 0, none⟩ (.int .i64 (u : Int)) := ⟨_, rfl⟩
        obtain ⟨s4, hs4⟩ : ∃ s4, s4 = s3.setCell ⟨w6.heap.size, 1, none⟩ (.int .i64 (to : Int)) := ⟨_, rfl⟩
        have rs1 : s1.heap[v1.heap.size]? = some (.cells #[.int .i64 (f : Int), .int .i64 0] 74 (0, 0)) := by rw [hs1]; exact heap_setCell_same _ _ 0 _ _ _ ry
        have rs2 : s2.heap[v1.heap.size]? = some (.cells #[.int .i64 (f : Int), .int .i64 (u : Int)] 74 (0, 0)) := by rw [hs2]; exact heap_setCell_same _ _ 1 _ _ _ rs1
        have ks1 : Only v2 s1 (fun b => b = v1.heap.size) := by rw [hs1]; exact Only.setCell _ _ _ _
        have ks2 : Only v2 s2 (fun b => b = v1.heap.size) := ks1.trans (by rw [hs2]; exact Only.setCell _ _ _ _) (fun _ h => .inl h)
        have ts2 : s2.heap[w6.heap.size]? = some (.cells #[.int .i64 0, .int .i64 0] 74 (0, 0)) := (ks2.block _ (by omega) (by omega)).trans rx
        have ts3 : s3.heap[w6.heap.size]? = some (.cells #[.int .i64 (u : Int), .int .i64 0] 74 (0, 0)) := by rw [hs3]; exact heap_setCell_same _ _ 0 _ _ _ ts2
        have ts4 : s4.heap[w6.heap.size]? = some (.cells #[.int .i64 (u : Int), .int .i64 (to : Int)] 74 (0, 0)) := by rw [hs4]; exact heap_setCell_same _ _ 1 _ _ _ ts3
        have ks4 : Only s2 s4 (fun b => b = w6.heap.size) := (by rw [hs3]; exact Only.setCell _ _ _ _ : Only s2 s3 (fun b => b = w6.heap.size)).trans (by rw [hs4]; exact Only.setCell _ _ _ _) (fun _ h => .inl h)
        have Hs : Hid (CtB wq w6 s4 (v1.heap.size) (w6.heap.size) f u u to) := hid0 ⟨(ks4.block _ (Array.getElem?_eq_some_iff.1 rs2).1 (by omega)).trans rs2, ts4, by omega, (hv2o.trans ((ks2.mono (T := fun b => w6.heap.size ≤ b) (fun b hb => by omega)).trans ks4 (fun b hb => .inl (by omega))) (fun b hb => .inr hb)), by omega, by omega⟩
        have zs1 : s1.cell? ⟨v1.heap.size, 1, none⟩ = some (.int .i64 0) := by rw [cell_of_row _ _ _ _ _ _ rs1]; rfl
        have zs2 : s2.cell? ⟨w6.heap.size, 0, none⟩ = some (.int .i64 0) := by rw [cell_of_row _ _ _ _ _ _ ts2]; rfl
        have zs3 : s3.cell? ⟨w6.heap.size, 1, none⟩ = some (.int .i64 0) := by rw [cell_of_row _ _ _ _ _ _ ts3]; rfl
        have zs5 : s2.cell? ⟨w6.heap.size, 1, none⟩ = some (.int .i64 0) := by rw [cell_of_row _ _ _ _ _ _ ts2]; rfl
        have os1 : s1.frozen? ⟨v1.heap.size, 1, none⟩ = false := by simp [World.frozen?, rs1]
        have os2 : s2.frozen? ⟨w6.heap.size, 0, none⟩ = false := by simp [World.frozen?, ts2]
        have os3 : s3.frozen? ⟨w6.heap.size, 1, none⟩ = false := by simp [World.frozen?, ts3]
        have os4 : s2.frozen? ⟨w6.heap.size, 1, none⟩ = false := by simp [World.frozen?, ts2]
        have ls1 : s2.cell? ⟨w1.heap.size, 0, none⟩ = some (.int .i64 (u : Int)) := (ks2.cell (p := ⟨w1.heap.size, 0, none⟩) (World.block_lt_of_cell? v2 _ c22) (by simp only; omega)).trans c22
        have ls2 : s2.cell? ⟨w1.heap.size, 1, none⟩ = some (.int .i64 (to : Int)) := (ks2.cell (p := ⟨w1.heap.size, 1, none⟩) (World.block_lt_of_cell? v2 _ c23) (by simp only; omega)).trans c23
        have gs1 := hs1.symm; have gs2 := hs2.symm; have gs3 := hs3.symm; have gs4 := hs4.symm
        clear hs1 hs2 hs3 hs4 rs1 rs2 ks1 ks2 ks4 ts2 ts3 ts4
        have gv1 := hv1.symm
        have gv2 := hv2.symm
        clear hv1 hv2 hs0 hs1 hs2 hv1o hv2o rx1 rx ry
        go_wp2_with fail
        go_region
        all_goals go_wp2_with fail
        · go_meet
          case rel => exact ⟨_, _, rfl, rfl, hid0 Hp.out.drew⟩
        · go_meet
          case rel => exact ⟨_, _, rfl, rfl, hid0 Hs.out.drew⟩
      case rest =>
        obtain ⟨M, E, rfl, rfl, HX⟩ := hcut
        have hwz : wq.heap.size < w6.heap.size := World.block_lt_of_cell? w6 _ y4
        have hwy : w1.heap.size < w6.heap.size := World.block_lt_of_cell? w6 _ y6
        have HPc : Hid (Pt wc lo l0 h0 j0 j1 P R L C n ro' pl' cl (.slice (some ⟨g, 0, none⟩) sp.length cg) sp vq q) := hid0 (HI.out.pt.far HPq.out.low ((HO6.out.mono (T := fun b => wq.heap.size ≤ b) (fun b hb => by have := HI.out.bz; omega)).trans (HX.out.bel.mono (T := fun b => wq.heap.size ≤ b) (fun b hb => False.elim hb)) (fun b hb => .inl hb)))
        have HFc : Hid (Only wq wc (gapF lo l0 h0 j0 j1)) := hid0 (HI.out.frm.trans ((HO6.out.mono (T := fun b => wq.heap.size ≤ b) (fun b hb => by have := HI.out.bz; omega)).trans (HX.out.bel.mono (T := fun b => wq.heap.size ≤ b) (fun b hb => False.elim hb)) (fun b hb => .inl hb)) (fun b hb => .inr hb))
        have HC := hid0 HI.out.c1
        have HBox : Hid (CtC wc wq.heap.size w1.heap.size M E f u u to f u u to) := hid0 ⟨(HX.out.bel.block _ hwz (fun h => h)).trans HB6.out.1, (HX.out.bel.block _ hwy (fun h => h)).trans HB6.out.2, HX.out.bm, HX.out.be, by have := HX.out.nw; have := HX.out.ne; have := HI.out.bz; omega⟩
        have HLo : Hid (wq.heap.size < M ∧ wq.heap.size < E ∧ wq.heap.size < w1.heap.size) := hid0 (by have := HX.out.nw; have := HI.out.bz; omega)
        have hroom := HI.out.c1.room
        have hfu : f ≤ u := by have := HU.out; omega
        have hut : u ≤ to := by have := HU.out; omega
        have HSz : Hid (to - u = S.length) := hid0 (by have := HU.out; omega)
        have HLw := hid0 HPq.out.low
        clear HI HX HB6 HO6 hwz hwy hroom y1 y2 y3 y4 y5 y6 y7 q6
        obtain ⟨A, hA⟩ : ∃ A, A = wq.heap.size := ⟨_, rfl⟩
        have HAw : Hid (wq.heap.size ≤ A) := hid0 (by omega)
        rw [← hA] at HBox HLo HLw ⊢
        clear hA
        generalize w1.heap.size = B at *
        have HSo : Hid (∀ V : World, Below wc.heap.size wc V → V.cell? ⟨A, 0, none⟩ = some (.int .i64 (f : Int)) ∧ V.cell? ⟨A, 1, none⟩ = some (.int .i64 (u : Int)) ∧ V.cell? ⟨B, 0, none⟩ = some (.int .i64 (u : Int)) ∧ V.cell? ⟨B, 1, none⟩ = some (.int .i64 (to : Int)) ∧ Below wc.heap.size wc V) := hid0 (fun V hV => by
          have h1 := (hV.block _ (Array.getElem?_eq_some_iff.1 HBox.out.ba).1).trans HBox.out.ba
          have h2 := (hV.block _ (Array.getElem?_eq_some_iff.1 HBox.out.bb).1).trans HBox.out.bb
          exact ⟨by rw [cell_of_row _ _ _ _ _ _ h1]; rfl, by rw [cell_of_row _ _ _ _ _ _ h1]; rfl, by rw [cell_of_row _ _ _ _ _ _ h2]; rfl, by rw [cell_of_row _ _ _ _ _ _ h2]; rfl, hV⟩)
        have HSz1 : Hid (∀ V : World, Below wc.heap.size wc V → Calls Tryd.prog 50 #[.agg #[.int .i64 (f : Int), .int .i64 (u : Int)]] V fun e w' => e = .returned (.int .i64 ((u - f : Nat) : Int)) ∧ Below wc.heap.size wc w') := hid0 (fun V hV => (size_any f u V hfu (by omega)).mono (fun e w' h => ⟨h.1, hV.trans (h.2.mono hV.size)⟩))
        have HSz2 : Hid (∀ V : World, Below wc.heap.size wc V → Calls Tryd.prog 50 #[.agg #[.int .i64 (u : Int), .int .i64 (to : Int)]] V fun e w' => e = .returned (.int .i64 ((to - u : Nat) : Int)) ∧ Below wc.heap.size wc w') := hid0 (fun V hV => (size_any u to V hut (by omega)).mono (fun e w' h => ⟨h.1, hV.trans (h.2.mono hV.size)⟩))
        obtain ⟨x0', x1', x2', x3', _⟩ := HSo.out wc (Below.refl _ _)
        obtain ⟨d1, hd1⟩ : ∃ d1, d1 = u - f := ⟨_, rfl⟩
        obtain ⟨d2, hd2⟩ : ∃ d2, d2 = to - u := ⟨_, rfl⟩
        rw [← hd1] at HSz1
        rw [← hd2] at HSz2
        have HD := hid0 (And.intro hd1 hd2)
        clear hd1 hd2
        go_upto_region 11 with (fail)
        go_region_held3 (fun W => W.cell? ⟨A, 0, none⟩ = some (.int .i64 (f : Int)) ∧ W.cell? ⟨A, 1, none⟩ = some (.int .i64 (u : Int)) ∧ W.cell? ⟨B, 0, none⟩ = some (.int .i64 (u : Int)) ∧ W.cell? ⟨B, 1, none⟩ = some (.int .i64 (to : Int)) ∧ Below wc.heap.size wc W) (first | exact HSo.out _ (by go_grown) | (go_split_ands; exact HSo.out _ (by go_grown)) | (go_split_ands; exact HSo.out _ (by assumption)))
          (first
            | (go_at_call 50; go_split_ands; with_reducible refine (HSz1.out _ (by go_grown)).mono ?_; rintro e wx ⟨rfl, hbx⟩)
            | (go_at_call 50; go_split_ands; with_reducible refine (HSz2.out _ (by go_grown)).mono ?_; rintro e wx ⟨rfl, hbx⟩))
        have HPx := hid0 (HPc.out.past hbx)
        have HBx := hid0 (HBox.out.past hbx)
        have HFx : Hid (Only wq wx (gapF lo l0 h0 j0 j1)) := hid0 (HFc.out.trans (Only.ofBelow hbx (fun _ => False) (fun i a b => absurd b (Nat.not_lt.2 a))) (fun i h => False.elim h))
        clear HSo HSz1 HSz2 HPc HBox HFc x0' x1' x2' x3'
        go_upto_if 65 with (fail)
        go_cut [] from 61 (fun wy => ∃ m1 m2 e1 e2 : Nat, Hid (CtD wq wy lo l0 h0 j0 j1 P R L C n ro' pl' cl (.slice (some ⟨g, 0, none⟩) sp.length cg) sp vq q M E f u to d1 d2 m1 m2 e1 e2))
        case first =>
          by_cases hdd : (d1 : Int) < (d2 : Int)
          · obtain ⟨na, nb, nc, nd, ne, nf⟩ := HBx.out.ne
            obtain ⟨x1, hx1⟩ : ∃ x1, x1 = wx.setCell ⟨M, 0, none⟩ (.int .i64 (u : Int)) := ⟨_, rfl⟩
            obtain ⟨x2, hx2⟩ : ∃ x2, x2 = x1.setCell ⟨M, 1, none⟩ (.int .i64 (to : Int)) := ⟨_, rfl⟩
            obtain ⟨x3, hx3⟩ : ∃ x3, x3 = x2.setCell ⟨E, 0, none⟩ (.int .i64 (f : Int)) := ⟨_, rfl⟩
            obtain ⟨x4, hx4⟩ : ∃ x4, x4 = x3.setCell ⟨E, 1, none⟩ (.int .i64 (u : Int)) := ⟨_, rfl⟩
            have r1 : x1.heap[M]? = some (.cells #[.int .i64 (u : Int), .int .i64 (u : Int)] 74 (0, 0)) := by rw [hx1]; exact heap_setCell_same _ _ 0 _ _ _ HBx.out.bm
            have r2 : x2.heap[M]? = some (.cells #[.int .i64 (u : Int), .int .i64 (to : Int)] 74 (0, 0)) := by rw [hx2]; exact heap_setCell_same _ _ 1 _ _ _ r1
            have k2 : Only wx x2 (fun b => b = M) := (by rw [hx1]; exact Only.setCell _ _ _ _ : Only wx x1 (fun b => b = M)).trans (by rw [hx2]; exact Only.setCell _ _ _ _) (fun _ h => .inl h)
            have lA := (Array.getElem?_eq_some_iff.1 HBx.out.ba).1
            have lE := (Array.getElem?_eq_some_iff.1 HBx.out.be).1
            have a2 := (k2.block A lA nb).trans HBx.out.ba
            have t2 := (k2.block E lE (fun e => nf e.symm)).trans HBx.out.be
            have t3 : x3.heap[E]? = some (.cells #[.int .i64 (f : Int), .int .i64 (to : Int)] 74 (0, 0)) := by rw [hx3]; exact heap_setCell_same _ _ 0 _ _ _ t2
            have t4 : x4.heap[E]? = some (.cells #[.int .i64 (f : Int), .int .i64 (u : Int)] 74 (0, 0)) := by rw [hx4]; exact heap_setCell_same _ _ 1 _ _ _ t3
            have k4 : Only x2 x4 (fun b => b = E) := (by rw [hx3]; exact Only.setCell _ _ _ _ : Only x2 x3 (fun b => b = E)).trans (by rw [hx4]; exact Only.setCell _ _ _ _) (fun _ h => .inl h)
            have k5 : Only wx x4 (fun b => A < b) := (k2.mono (T := fun b => A < b) (fun b hb => by have := HLo.out; omega)).trans k4 (fun b hb => .inl (by have := HLo.out; omega))
            have HRel : Hid (CtD wq x4.drew lo l0 h0 j0 j1 P R L C n ro' pl' cl (.slice (some ⟨g, 0, none⟩) sp.length cg) sp vq q M E f u to d1 d2 u to f u) := hid0 ⟨(HPx.out.far HLw.out (k5.mono (T := fun b => A ≤ b) (fun b hb => Nat.le_of_lt hb))).past ⟨rfl, rfl, rfl, Nat.le_refl _, fun _ _ => rfl⟩, (k4.block _ (Array.getElem?_eq_some_iff.1 r2).1 (fun e => nf e)).trans r2, t4, (HFx.out.trans ⟨k5.os, k5.tape, k5.output, k5.size, k5.block⟩ (fun b hb => .inr (by have := HAw.out; omega))), .inl ⟨by omega, rfl, rfl, rfl, rfl⟩⟩
            have z1 : wx.cell? ⟨B, 0, none⟩ = some (.int .i64 (u : Int)) := by rw [cell_of_row _ _ _ _ _ _ HBx.out.bb]; rfl
            have z2 : wx.cell? ⟨B, 1, none⟩ = some (.int .i64 (to : Int)) := by rw [cell_of_row _ _ _ _ _ _ HBx.out.bb]; rfl
            have z3 : wx.cell? ⟨A, 0, none⟩ = some (.int .i64 (f : Int)) := by rw [cell_of_row _ _ _ _ _ _ HBx.out.ba]; rfl
            have z4 : wx.cell? ⟨A, 1, none⟩ = some (.int .i64 (u : Int)) := by rw [cell_of_row _ _ _ _ _ _ HBx.out.ba]; rfl
            have z5 : x2.cell? ⟨A, 0, none⟩ = some (.int .i64 (f : Int)) := by rw [cell_of_row _ _ _ _ _ _ a2]; rfl
            have z6 : x2.cell? ⟨A, 1, none⟩ = some (.int .i64 (u : Int)) := by rw [cell_of_row _ _ _ _ _ _ a2]; rfl
            have m0 : wx.cell? ⟨M, 0, none⟩ = some (.int .i64 (f : Int)) := by rw [cell_of_row _ _ _ _ _ _ HBx.out.bm]; rfl
            have m1 : wx.cell? ⟨M, 1, none⟩ = some (.int .i64 (u : Int)) := by rw [cell_of_row _ _ _ _ _ _ HBx.out.bm]; rfl
            have m2 : x1.cell? ⟨M, 1, none⟩ = some (.int .i64 (u : Int)) := by rw [cell_of_row _ _ _ _ _ _ r1]; rfl
            have e0 : x2.cell? ⟨E, 0, none⟩ = some (.int .i64 (u : Int)) := by rw [cell_of_row _ _ _ _ _ _ t2]; rfl
            have e1 : x2.cell? ⟨E, 1, none⟩ = some (.int .i64 (to : Int)) := by rw [cell_of_row _ _ _ _ _ _ t2]; rfl
            have e2 : x3.cell? ⟨E, 1, none⟩ = some (.int .i64 (to : Int)) := by rw [cell_of_row _ _ _ _ _ _ t3]; rfl
            have f0 : ∀ o, wx.frozen? ⟨M, o, none⟩ = false := fun o => by simp [World.frozen?, HBx.out.bm]
            have f1 : ∀ o, x1.frozen? ⟨M, o, none⟩ = false := fun o => by simp [World.frozen?, r1]
            have f2 : ∀ o, x2.frozen? ⟨E, o, none⟩ = false := fun o => by simp [World.frozen?, t2]
            have f3 : ∀ o, x3.frozen? ⟨E, o, none⟩ = false := fun o => by simp [World.frozen?, t3]
            have g1 := hx1.symm
            have g2 := hx2.symm
            have g3 := hx3.symm
            have g4 := hx4.symm
            clear hx1 hx2 hx3 hx4 r1 r2 k2 lA lE a2 t2 t3 t4 k4 k5
            go_wp2_with fail
            go_region
            all_goals
              go_wp2_with fail
              go_meet
              case rel => exact ⟨_, _, _, _, HRel⟩
          · have HRel : Hid (CtD wq wx lo l0 h0 j0 j1 P R L C n ro' pl' cl (.slice (some ⟨g, 0, none⟩) sp.length cg) sp vq q M E f u to d1 d2 f u u to) := hid0 ⟨HPx.out, HBx.out.bm, HBx.out.be, HFx.out, .inr ⟨by omega, rfl, rfl, rfl, rfl⟩⟩
            go_wp2_with fail
            go_meet
            case rel => exact ⟨_, _, _, _, HRel⟩
        case rest =>
          obtain ⟨m1, m2, e1, e2, HD2⟩ := hcut
          have hd := HD2.out.dis
          have he12 : e1 ≤ e2 := by omega
          have he2n : e2 ≤ n := by omega
          have HS3 := hid0 (size_any e1 e2 wc he12 (by omega))
          obtain ⟨d3, hd3⟩ : ∃ d3, d3 = e2 - e1 := ⟨_, rfl⟩
          rw [← hd3] at HS3
          have t0 : wc.cell? ⟨E, 0, none⟩ = some (.int .i64 (e1 : Int)) := by rw [cell_of_row _ _ _ _ _ _ HD2.out.be]; rfl
          have t1 : wc.cell? ⟨E, 1, none⟩ = some (.int .i64 (e2 : Int)) := by rw [cell_of_row _ _ _ _ _ _ HD2.out.be]; rfl
          by_cases h3 : d3 = 0
          · have HCW : Hid (∀ wz, Below wc.heap.size wc wz → CutW w lo l0 h0 j0 j1 P R L C n cl sp q S wz) := hid0 (fun wz hbz => by
              have hS0 := HSz.out
              have hle : to - S.length ≤ f := by have := HU.out; have := HD.out; omega
              exact ⟨ro', pl', cl, _, sp, vq, [], by rw [List.append_nil]; exact HD2.out.pt.past hbz, HC.out.prt, HC.out.none HKS.out HS.out hle, HOq.out wz (HD2.out.frm.trans (Only.ofBelow hbz (fun _ => False) (fun i a b => absurd b (Nat.not_lt.2 a))) (fun i h => False.elim h))⟩)
            subst h3
            have hz0 : (((0 : Nat) : Int) == 0) = true := by decide
            clear hd hd3
            go_wp2_with (go_at_call 50; go_loud ((refine HS3.out.mono ?_; rintro e wz ⟨rfl, hbz⟩)))
            go_returns
            exact ⟨rfl, HCW.out _ hbz⟩
          · have hz0 : ((d3 : Int) == 0) = false := by simpa using h3
            have hS0 := HSz.out
            have hfu' : f < to - S.length := by have := HU.out; have := HD.out; omega
            have hsome := HC.out.some HKS.out HS.out hfu' (mo := (m1, m2)) (le := (e1, e2)) (by
              have hu2 := HU.out
              rw [← hu2]
              rcases hd with ⟨_, q1, q2, q3, q4⟩ | ⟨_, q1, q2, q3, q4⟩
              · right; rw [q1, q2, q3, q4]; exact ⟨rfl, rfl⟩
              · left; rw [q1, q2, q3, q4]; exact ⟨rfl, rfl⟩)
            have HSm := hid0 hsome
            have h3I : e1 < e2 := by omega
            have HD3 := hid0 hd3
            clear hd hd3 hsome hfu' hS0 HC HSz HU HD hfu hut
            go_upto_region 14 with (go_at_call 50; go_loud ((refine HS3.out.mono ?_; rintro e wz ⟨rfl, hbz⟩)))
            have hPz := HD2.out.pt.past hbz
            have hFz : Only wq wz (gapF lo l0 h0 j0 j1) := HD2.out.frm.trans (Only.ofBelow hbz (fun _ => False) (fun i a b => absurd b (Nat.not_lt.2 a))) (fun i h => False.elim h)
            have hmz := (hbz.block _ (Array.getElem?_eq_some_iff.1 HD2.out.bm).1).trans HD2.out.bm
            have hez := (hbz.block _ (Array.getElem?_eq_some_iff.1 HD2.out.be).1).trans HD2.out.be
            obtain ⟨gg, cc, eq, s0, s1, fz, _⟩ := hPz.span hkl
            cases eq
            rw [← HF.out.1] at s0
            rw [← HF.out.2] at s1
            obtain ⟨hset, hoset⟩ := hPz.setSpan hkl (m1, m2)
            have hstored := (World.ownsRow.stored hPz.spans (k0 * 2) (.int .i64 (m1 : Int))).1
            obtain ⟨y1, hy1⟩ : ∃ y1, y1 = wz.setCell ⟨g, k0 * 2, none⟩ (.int .i64 (m1 : Int)) := ⟨_, rfl⟩
            obtain ⟨y2, hy2⟩ : ∃ y2, y2 = y1.setCell ⟨g, k0 * 2 + 1, none⟩ (.int .i64 (m2 : Int)) := ⟨_, rfl⟩
            rw [← hy1, ← hy2] at hset hoset
            rw [← hy1] at hstored
            have v1 : y1.frozen? ⟨g, k0 * 2 + 1, none⟩ = false := World.ownsRow.frozenAt hstored _
            have v2 : y1.cell? ⟨g, k0 * 2 + 1, none⟩ = some (.int .i64 (to : Int)) := by rw [hy1]; exact (World.cell?_setCell_other _ _ _ _ (by simp)).trans s1
            have v0 := fz (k0 * 2)
            have v3 : wz.cell? ⟨P, 3, none⟩ = some (.slice (some ⟨g, 0, none⟩) sp.length cg) := hPz.cell.2.2.2.1
            have v4 : wz.cell? ⟨M, 0, none⟩ = some (.int .i64 (m1 : Int)) := by rw [cell_of_row _ _ _ _ _ _ hmz]; rfl
            have v5 : wz.cell? ⟨M, 1, none⟩ = some (.int .i64 (m2 : Int)) := by rw [cell_of_row _ _ _ _ _ _ hmz]; rfl
            have hgA : g < A := HLw.out.s g rfl
            have HPv : Hid (Pt y2.drew lo l0 h0 j0 j1 P R L C n ro' pl' cl (.slice (some ⟨g, 0, none⟩) sp.length cg) (sp.set k0 (m1, m2)) vq q) := hid0 (hset.past ⟨rfl, rfl, rfl, Nat.le_refl _, fun _ _ => rfl⟩)
            have HEv : Hid (y2.drew.heap[E]? = some (.cells #[.int .i64 (e1 : Int), .int .i64 (e2 : Int)] 74 (0, 0))) := hid0 ((hoset.block _ (Array.getElem?_eq_some_iff.1 hez).1 (by have := HLo.out; omega)).trans hez)
            have HFv : Hid (Only wq y2.drew (gapF lo l0 h0 j0 j1)) := hid0 (hFz.trans (show Only wz y2.drew (fun b => b = g) from ⟨hoset.os, hoset.tape, hoset.output, hoset.size, hoset.block⟩) (fun b hb => .inl (by rw [hb]; exact hPz.gs g rfl)))
            have gy1 := hy1.symm
            have gy2 := hy2.symm
            clear hy1 hy2 hPz hFz hmz hez hset hoset hstored fz HS3 t0 t1
            go_wp2_with fail
            go_region
            clear gy1 gy2 v0 v1 v2 v3 v4 v5 s0 s1
            generalize y2.drew = w8 at *
            go_upto_region 15 with (fail)
            go_cut [] from 78 (fun w9 => ∃ g4 c4 : Nat, Hid (CtE wq w9 lo l0 h0 j0 j1 P R L C n ro' pl' cl (.slice (some ⟨g4, 0, none⟩) (sp.length + 1) c4) (sp.set k0 (m1, m2) ++ [(e1, e2)]) vq q E e1 e2))
            case first =>
              obtain ⟨wA, hwA⟩ : ∃ wA, wA = w8.alloc (.cells #[.int .i64 (e1 : Int), .int .i64 (e2 : Int)] 74) := ⟨_, rfl⟩
              have hOA : Only w8 wA (fun _ => False) := by rw [hwA]; exact Only.alloc _ _ _
              have hsA : wA.heap.size = w8.heap.size + 1 := by rw [hwA]; simp
              have HNew : Hid (∀ j u, [Value.int .i64 (e1 : Int), Value.int .i64 (e2 : Int)][j]? = some u → wA.cell? ((⟨w8.heap.size, 0, none⟩ : Addr).add j) = some u) := hid0 (fun j u hj => by
                have hr := heap_alloc_new w8 (.cells #[.int .i64 (e1 : Int), .int .i64 (e2 : Int)] 74)
                rw [← hwA] at hr
                rw [Addr.add_lit, Nat.zero_add, cell_of_row _ _ _ _ _ _ hr]
                simpa using hj)
              have HOwn : Hid (wA.ownsRow lo 74 2 (.slice (some ⟨g, 0, none⟩) sp.length cg) sp.length (spV (sp.set k0 (m1, m2)))) := hid0 (by
                have h := HPv.out.spans
                rw [List.length_set] at h
                exact own_blk h (fun k hk => hOA.block _ (World.ownsRow.lt h k hk).2 (fun h => h)))
              have HLo8 : Hid (lo ≤ wA.heap.size) := hid0 (by have := HPv.out.g4.1.1; have := HPv.out.lt.1; omega)
              have HNx : Hid (∀ (v' : Value) (w2 : World), w2.ownsRow lo 74 2 v' (sp.length + 1) (spV (sp.set k0 (m1, m2)) ++ [.int .i64 (e1 : Int), .int .i64 (e2 : Int)]) → wA.drew.grownBy w2 (Value.slice (some ⟨g, 0, none⟩) sp.length cg).ownBlock → (v'.ownBlock = (Value.slice (some ⟨g, 0, none⟩) sp.length cg).ownBlock ∨ v'.ownBlock = some wA.drew.heap.size) → w2.cell? ⟨P, 3, none⟩ = some (.slice (some ⟨g, 0, none⟩) sp.length cg) ∧ w2.frozen? ⟨P, 3, none⟩ = false ∧ CtE wq (w2.setCell ⟨P, 3, none⟩ v') lo l0 h0 j0 j1 P R L C n ro' pl' cl v' (sp.set k0 (m1, m2) ++ [(e1, e2)]) vq q E e1 e2) := hid0 (fun v' w2 hown hgrow hat => by
                have hO2 : Only w8 w2 (fun k => (Value.slice (some ⟨g, 0, none⟩) sp.length cg).ownBlock = some k) := (hOA.mono (T := fun k => (Value.slice (some ⟨g, 0, none⟩) sp.length cg).ownBlock = some k) (fun _ h => False.elim h)).trans (show Only wA w2 (fun k => (Value.slice (some ⟨g, 0, none⟩) sp.length cg).ownBlock = some k) from ⟨hgrow.os, hgrow.tape, hgrow.output, hgrow.size, fun k hk hn => hgrow.block k hk (fun e => hn e.symm)⟩) (fun _ h => .inl h)
                obtain ⟨a1, a2, a3, a4⟩ := HPv.out.addSpan (e1, e2) hO2 (by rw [List.length_set]; exact hown) (by
                  rcases hat with e | e
                  · exact .inl e
                  · exact .inr ⟨wA.heap.size, by omega, e⟩)
                refine ⟨a2, a3, a1, (a4.block _ (Array.getElem?_eq_some_iff.1 HEv.out).1 (fun hh => ?_)).trans HEv.out, HFv.out.trans a4 (fun b hb => .inl ?_)⟩
                · rcases hh with hh | hh
                  · have := HLo.out
                    have : g = E := by simpa [Value.ownBlock] using hh
                    omega
                  · have := HLo.out
                    have := HLw.out.b4
                    omega
                · rcases hb with hb | hb
                  · exact HPv.out.gs b hb
                  · rw [hb]; exact HPv.out.g4.1)
              have c3 : w8.cell? ⟨P, 3, none⟩ = some (.slice (some ⟨g, 0, none⟩) sp.length cg) := HPv.out.cell.2.2.2.1
              have c3A : wA.cell? ⟨P, 3, none⟩ = some (.slice (some ⟨g, 0, none⟩) sp.length cg) := by rw [hwA]; exact cell_alloc c3 _
              have t0 : w8.cell? ⟨E, 0, none⟩ = some (.int .i64 (e1 : Int)) := by rw [cell_of_row _ _ _ _ _ _ HEv.out]; rfl
              have t1 : w8.cell? ⟨E, 1, none⟩ = some (.int .i64 (e2 : Int)) := by rw [cell_of_row _ _ _ _ _ _ HEv.out]; rfl
              have gA := hwA.symm
              have hspl : sp.length ≤ 4000000 := by have := HC1.out.prt.few; omega
              clear hwA hOA hsA
              go_wp2_with fail
              go_region_law ((refine step_append_own_at (by rfl) _ _ 65 (by rfl) lo 74 i0 _ 2 16 Tryd.underlying65 hi hz0' hz1 hz2 rfl (by decide) (.slice (some ⟨g, 0, none⟩) sp.length cg) sp.length (spV (sp.set k0 (m1, m2))) (by rfl) HOwn.out ⟨w8.heap.size, 0, none⟩ 1 1 [.int .i64 (e1 : Int), .int .i64 (e2 : Int)] (by rfl) (by rfl) HNew.out (by simp [Value.oneCell']) (by unfold maxLen; omega) (by omega) HLo8.out ?_; intro v' w2 hown hgrow hat; obtain ⟨g4, cap4, rfl⟩ := Go.Joins.ownsRow_form hown (Nat.succ_pos _); obtain ⟨n1, n2, n3⟩ := HNx.out _ _ hown hgrow hat; have HN3 := hid0 n3; clear n3 hown hgrow hat))
              all_goals
                go_wp2_with fail
                go_meet
                case rel => exact ⟨_, _, HN3⟩
            case rest =>
              obtain ⟨g4, c4, HE⟩ := hcut
              have t0 : wc.cell? ⟨E, 0, none⟩ = some (.int .i64 (e1 : Int)) := by rw [cell_of_row _ _ _ _ _ _ HE.out.be]; rfl
              have t1 : wc.cell? ⟨E, 1, none⟩ = some (.int .i64 (e2 : Int)) := by rw [cell_of_row _ _ _ _ _ _ HE.out.be]; rfl
              have c0 : wc.cell? ⟨P, 0, none⟩ = some (.slice (some ⟨R, 0, none⟩) n n) := HE.out.pt.cell.1
              have i1' : (0 : Int) ≤ (e1 : Int) := by omega
              have i2' : (e1 : Int) ≤ (e2 : Int) := by omega
              have i3' : (e2 : Int) ≤ (n : Int) := by omega
              have i4' : ¬ n = e1 := by omega
              have hd3 : e2 - e1 = d3 := HD3.out.symm
              have hspl : sp.length ≤ 4000000 := by have := HC1.out.prt.few; omega
              obtain ⟨K, hK⟩ : ∃ K, K = sp.length := ⟨_, rfl⟩
              have hKI : ((sp.length + 1 : Nat) : Int) - 1 = (K : Int) := by omega
              have hKI2 : (sp.length : Int) + 1 - 1 = (K : Int) := by omega
              have hKW : IntKind.i64.wrap (K : Int) = (K : Int) := by simp [IntKind.wrap, IntKind.bits, IntKind.signed]; omega
              have HK := hid0 hK
              have HJ0 : Hid (CtG wq wc lo l0 h0 j0 j1 P R L C n ro' pl' (fun s => if e1 ≤ pl' s ∧ pl' s < e1 + 0 then K else cl s) (.slice (some ⟨g4, 0, none⟩) (sp.length + 1) c4) (sp.set k0 (m1, m2) ++ [(e1, e2)]) (q ++ seg ro' e1 (e1 + 0))) := hid0 ⟨vq, (by
                have e : seg ro' e1 (e1 + 0) = [] := by simp [seg]
                rw [e, List.append_nil]
                exact HE.out.pt.congr (fun s hs => by rw [if_neg (by omega)])), HE.out.frm⟩
              clear hK
              go_upto_region 16 with (fail)
              go_wp2
              go_quiet ((fail))
              clear t0 t1 c0
              go_wp2
              go_loopw [98] (fun i wr => ∃ j : Nat, j ≤ d3 ∧ i = .int .i64 (j : Int) ∧ Hid (CtG wq wr lo l0 h0 j0 j1 P R L C n ro' pl' (fun s => if e1 ≤ pl' s ∧ pl' s < e1 + j then K else cl s) (.slice (some ⟨g4, 0, none⟩) (sp.length + 1) c4) (sp.set k0 (m1, m2) ++ [(e1, e2)]) (q ++ seg ro' e1 (e1 + j)))) (fun i _ => d3 - (intOf i).toNat)
              case atStart => exact ⟨0, Nat.zero_le _, rfl, hid0 (HJ0.out.drew _)⟩
              case round =>
                obtain ⟨j, hj, rfl, HJ⟩ := hrel
                obtain ⟨vqj, hPj, hFj⟩ := HJ.out.pt
                by_cases hlt : j < d3
                · have hjI : (j : Int) < (d3 : Int) := by omega
                  have hj0 : (0 : Int) ≤ (j : Int) := by omega
                  have hpos : e1 + j < n := by have := HD3.out; omega
                  have hdr := hPj.row.cell hpos
                  obtain ⟨hsn, hsp⟩ := HSm.out.1.rl (e1 + j) hpos
                  obtain ⟨Q, hQ⟩ : ∃ Q, Q = q ++ seg ro' e1 (e1 + j) := ⟨_, rfl⟩
                  rw [← hQ] at hPj
                  have hQl : Q.length ≤ 6000000000000 := by rw [hQ, List.length_append]; simp [seg]; omega
                  have hQ2 : q ++ seg ro' e1 (e1 + (j + 1)) = Q ++ [ro' (e1 + j)] := by rw [seg_succ, hQ, List.append_assoc]
                  have hcl2 : ∀ t, t < n → putF (fun s => if e1 ≤ pl' s ∧ pl' s < e1 + j then K else cl s) (ro' (e1 + j)) K t = if e1 ≤ pl' t ∧ pl' t < e1 + (j + 1) then K else cl t := fun t ht => by
                    unfold putF
                    have hpt := HSm.out.1.lr t ht
                    by_cases e : t = ro' (e1 + j)
                    · rw [if_pos e, if_pos (by rw [e, hsp]; omega)]
                    · rw [if_neg e]
                      show (if e1 ≤ pl' t ∧ pl' t < e1 + j then K else cl t) = _
                      have hne : pl' t ≠ e1 + j := fun e' => e (by rw [← e']; exact hpt.2.symm)
                      by_cases e2' : e1 ≤ pl' t ∧ pl' t < e1 + j
                      · rw [if_pos e2', if_pos (by omega)]
                      · rw [if_neg e2', if_neg (by omega)]
                  have hS1 := (hPj.setClass (ro' (e1 + j)) K).congr hcl2
                  obtain ⟨s, hs⟩ : ∃ s, s = ro' (e1 + j) := ⟨_, rfl⟩
                  rw [← hs] at hdr hsn hS1 hQ2
                  have hsI : (s : Int) < (n : Int) := by omega
                  have hs0 : (0 : Int) ≤ (s : Int) := by omega
                  obtain ⟨_, _, p2, p3, _⟩ := hPj.cell
                  have fC := hPj.class'.frozen s
                  obtain ⟨zc, dC⟩ : ∃ zc, wr.cell? ⟨C, s, none⟩ = some zc := ⟨_, hPj.class'.cell hsn⟩
                  obtain ⟨zi, rfl⟩ : ∃ zi : Int, zc = .int .i64 zi := by
                    have := hPj.class'.cell hsn
                    rw [dC] at this
                    exact ⟨_, Option.some.inj this⟩
                  obtain ⟨x1, hx1⟩ : ∃ x1, x1 = wr.setCell ⟨C, s, none⟩ (.int .i64 (K : Int)) := ⟨_, rfl⟩
                  rw [← hx1] at hS1
                  obtain ⟨aq, cq, hvq, _⟩ := hPj.queue.ia
                  rw [natI_len] at hvq
                  subst hvq
                  have HP1 : Hid (Pt x1.drew lo l0 h0 j0 j1 P R L C n ro' pl' (fun t => if e1 ≤ pl' t ∧ pl' t < e1 + (j + 1) then K else cl t) (.slice (some ⟨g4, 0, none⟩) (sp.length + 1) c4) (sp.set k0 (m1, m2) ++ [(e1, e2)]) (.slice aq Q.length cq) Q) := hid0 (hS1.past ⟨rfl, rfl, rfl, Nat.le_refl _, fun _ _ => rfl⟩)
                  have HF1 : Hid (Only wq x1.drew (gapF lo l0 h0 j0 j1)) := hid0 (by
                    have ho : Only wr x1 (fun b => b = C) := by rw [hx1]; exact Only.setCell _ _ _ _
                    exact hFj.trans (show Only wr x1.drew (fun b => b = C) from ⟨ho.os, ho.tape, ho.output, ho.size, ho.block⟩) (fun b hb => .inl (by rw [hb]; exact hPj.g4.2.2.2)))
                  have gx1 := hx1.symm
                  have HQ2 := hid0 hQ2
                  clear hx1 hS1 hPj hFj hQ hQ2 hcl2 hsp HJ hs
                  go_upto_region 19 with (fail)
                  go_wp2_with fail
                  go_region
                  clear gx1 p2 p3 fC dC hdr
                  generalize x1.drew = v8 at *
                  have p4 : v8.cell? ⟨P, 4, none⟩ = some (.slice aq Q.length cq) := HP1.out.cell.2.2.2.2
                  have HNx : Hid (∀ (v' : Value) (w2 : World), w2.ownsRow lo 3 1 v' (Q.length + 1) ((natI Q).map (Value.int .i64) ++ [.int .i64 (s : Int)]) → (v8.alloc (.cells #[.int .i64 (s : Int)] 3)).grownBy w2 (Value.slice aq Q.length cq).ownBlock → (v'.ownBlock = (Value.slice aq Q.length cq).ownBlock ∨ v'.ownBlock = some (v8.alloc (.cells #[.int .i64 (s : Int)] 3)).heap.size) → w2.cell? ⟨P, 4, none⟩ = some (.slice aq Q.length cq) ∧ w2.frozen? ⟨P, 4, none⟩ = false ∧ CtG wq (w2.setCell ⟨P, 4, none⟩ v') lo l0 h0 j0 j1 P R L C n ro' pl' (fun t => if e1 ≤ pl' t ∧ pl' t < e1 + (j + 1) then K else cl t) (.slice (some ⟨g4, 0, none⟩) (sp.length + 1) c4) (sp.set k0 (m1, m2) ++ [(e1, e2)]) (q ++ seg ro' e1 (e1 + (j + 1)))) := hid0 (fun v' w2 hown hgrow hat => by
                    have hO2 : Only v8 w2 (fun k => (Value.slice aq Q.length cq).ownBlock = some k) := (Only.alloc v8 (.cells #[.int .i64 (s : Int)] 3) (fun k => (Value.slice aq Q.length cq).ownBlock = some k)).trans (Only.ofGrown hgrow) (fun _ h => .inl h)
                    obtain ⟨a1, a2, a3, a4⟩ := HP1.out.addQueue s hO2 hown (by
                      rcases hat with e | e
                      · exact .inl e
                      · exact .inr ⟨_, by simp, e⟩)
                    refine ⟨a2, a3, ⟨v', by rw [HQ2.out]; exact a1, HF1.out.trans a4 (fun b hb => .inl ?_)⟩⟩
                    rcases hb with hb | hb
                    · exact HP1.out.gq b hb
                    · rw [hb]; exact HP1.out.g4.1)
                  have HOw : Hid ((v8.alloc (.cells #[.int .i64 (s : Int)] 3)).ownsRow lo 3 1 (.slice aq Q.length cq) Q.length ((natI Q).map (Value.int .i64))) := hid0 (by
                    have h := HP1.out.queue
                    unfold OwnI at h
                    rw [natI_len] at h
                    exact World.ownsRow.alloc h _)
                  have HLo8 : Hid (lo ≤ (v8.alloc (.cells #[.int .i64 (s : Int)] 3)).heap.size) := hid0 (by have := HP1.out.g4.1.1; have := HP1.out.lt.1; simp; omega)
                  go_wp2_with (at_builtin; go_loud ((refine wpList_append_own_at _ rfl _ _ 25 rfl lo 3 i1 (.int .i64 0) 1 8 Tryd.underlying25 hi1 hy0 hy1 hy2 rfl (by decide) (.slice aq Q.length cq) Q.length ((natI Q).map (Value.int .i64)) rfl HOw.out ⟨v8.heap.size, 0, none⟩ 1 1 [.int .i64 (s : Int)] rfl rfl (cell_one_new _ _ _) (by simp [Value.oneCell']) (by unfold maxLen; omega) (by omega) HLo8.out ?_; intro v' w2 hown hgrow _ hat; obtain ⟨g5, cap5, rfl⟩ := Go.Joins.ownsRow_form hown (Nat.succ_pos _); obtain ⟨n1, n2, n3⟩ := HNx.out _ _ hown hgrow hat; have HN3 := hid0 n3; clear n3 hown hgrow hat)))
                  go_roundw
                  case rel => exact ⟨j + 1, by omega, by go_num, HN3⟩
                  case measure => simp [intOf]; omega
                · obtain rfl : j = d3 := by omega
                  have hjI : ¬ (j : Int) < (j : Int) := by omega
                  have HFin : Hid (CutW w lo l0 h0 j0 j1 P R L C n cl sp q S wr) := hid0 (by
                    have e : e1 + j = e2 := by have := HD3.out; omega
                    rw [e] at hPj
                    rw [HK.out] at hPj
                    exact ⟨ro', pl', _, _, _, vqj, _, hPj, HSm.out.1, by have := HSm.out.2.1; simpa using this, HOq.out wr hFj⟩)
                  clear hPj hFj HJ
                  go_wp2
                  go_returns
                  exact ⟨rfl, HFin.out⟩
end Go.Proofs.YtjmmckkiicefhaaDoor
namespace Go.Proofs.YtjmmckkiicefhaaDoor
open Go.RowKit Go.Shelf
def cellsOf (l : List UInt8) : List Value := l.map fun c => .int .u8 (c.toNat : Int)
/-- A slice of bytes of the call's own. -/
def OwnB (w : World) (base : Nat) (v : Value) (l : List UInt8) : Prop := w.ownsRow base 5 1 v l.length (cellsOf l)
theorem infoU8 : (Tryd.prog.info? 5).map (fun i => (i.zero, i.size, i.bytes)) = some (some (.int .u8 0), 1, 1) := by kernel_rfl
theorem toStr {w : World} {base : Nat} {v : Value} {l : List UInt8} (h : OwnB w base v l) : (convert 77 9 v).run Tryd.prog w = .ok (.string ⟨l.toArray⟩) w := by
  have h0 := h
  rcases h.2 with ⟨rfl, hn⟩ | ⟨g, cap, cur, rfl, _⟩
  · have : l = [] := List.length_eq_zero_iff.1 hn
    subst this
    rw [run_convert_bytes_string w 77 9 5 none 0 0 Tryd.underlying77 Tryd.underlying5 Tryd.underlying9]; rfl
  · refine run_convert_bytes_back (P := Tryd.prog) w 77 9 5 ⟨g, 0, none⟩ cap l Tryd.underlying77 Tryd.underlying5 Tryd.underlying9 (fun j hj => ?_)
    rw [Addr.add_lit, Nat.zero_add, World.ownsRow.cellAt h0 j (by omega)]
    simp [cellsOf, hj]
/-- Bytes put behind. -/
structure Apd (w w' : World) (lo : Nat) (v v' : Value) (l : List UInt8) : Prop where
  own : OwnB w' lo v' l
  frm : Only w w' (fun k => v.ownBlock = some k)
  at' : ∀ k, v'.ownBlock = some k → v.ownBlock = some k ∨ w.heap.size ≤ k
theorem apd_more {w wr w2 : World} {lo : Nat} {v u v' : Value} {l : List UInt8} {c : UInt8} {o : Obj} (h : Apd w wr lo v u l) (hown : w2.ownsRow lo 5 1 v' (l.length + 1) (cellsOf l ++ [.int .u8 (c.toNat : Int)])) (hg : (wr.alloc o).grownBy w2 u.ownBlock) (hat : v'.ownBlock = u.ownBlock ∨ v'.ownBlock = some (wr.alloc o).heap.size) : Apd w w2 lo v v' (l ++ [c]) := by
  refine ⟨?_, h.frm.trans ((Only.alloc wr o (fun k => u.ownBlock = some k)).trans (Only.ofGrown hg) (fun _ h => .inl h)) (fun k hk => h.at' k hk), fun k hk => ?_⟩
  · unfold OwnB
    rw [List.length_append, List.length_singleton]
    have e : cellsOf (l ++ [c]) = cellsOf l ++ [.int .u8 (c.toNat : Int)] := by simp [cellsOf]
    rw [e]
    exact hown
  · rcases hat with e | e
    · exact h.at' k (by rw [← e]; exact hk)
    · rw [e] at hk
      cases hk
      right
      have := h.frm.size
      simp
      omega
set_option maxRecDepth 10000 in
set_option maxHeartbeats 1600000 in
theorem addNumber_any (lo n : Nat) (v : Value) (l : List UInt8) (w : World) (ho : OwnB w lo v l) (hl : l.length ≤ 100000000000) (hn : n < 9223372036854775808) (hlo : lo ≤ w.heap.size) :
    Calls Tryd.prog 45 #[v, .int .i64 (n : Int)] w fun e w' => ∃ v', e = .returned v' ∧ Apd w w' lo v v' (l ++ encN n) := by
  obtain ⟨i0, hi, hz0, hz1, hz2⟩ := info_parts infoU8
  have HA : Hid (Apd w w lo v v l) := hid0 ⟨ho, Only.refl _ _, fun k hk => .inl hk⟩
  clear ho
  go_enter Tryd.func45, Tryd.ntmps45
  go_wp2
  go_loopw [0, 1] (fun u i wr => ∃ (m : Nat) (p : List UInt8), i = .int .i64 (m : Int) ∧ m < 9223372036854775808 ∧ p.length ≤ 100000000020 ∧ Hid (p ++ encN m = l ++ encN n) ∧ Hid (Apd w wr lo v u p)) (fun _ i _ => (intOf i).toNat)
  case atStart => exact ⟨n, l, rfl, hn, by omega, hid0 rfl, HA⟩
  case round =>
    obtain ⟨m, p, rfl, hm, hp, HE, HP⟩ := hrel
    have HO : Hid (∀ o : Obj, (wr.alloc o).ownsRow lo 5 1 u0 p.length (cellsOf p)) := hid0 (fun o => World.ownsRow.alloc HP.out.own o)
    have hlo2 : lo ≤ wr.heap.size := Nat.le_trans hlo HP.out.frm.size
    obtain ⟨au, cu, hu0⟩ : ∃ au cu, u0 = .slice au p.length cu := by
      rcases HP.out.own.2 with ⟨e, hn⟩ | ⟨g, cap, cur, e, _⟩
      · exact ⟨none, 0, by rw [e, hn]⟩
      · exact ⟨_, _, e⟩
    subst hu0
    by_cases hb : m < 128
    · have hbI : (m : Int) < 128 := by omega
      have hw8 : IntKind.u8.wrap (m : Int) = (m : Int) := by rw [IntKind.wrap_u8']; omega
      have hc : ((UInt8.ofNat m).toNat : Int) = (m : Int) := by rw [u8_toN m (by omega)]
      have HNx : Hid (∀ (v' : Value) (w2 : World), w2.ownsRow lo 5 1 v' (p.length + 1) (cellsOf p ++ [.int .u8 (m : Int)]) → (wr.alloc (.cells #[.int .u8 (m : Int)] 5)).grownBy w2 (Value.slice au p.length cu).ownBlock → (v'.ownBlock = (Value.slice au p.length cu).ownBlock ∨ v'.ownBlock = some (wr.alloc (.cells #[.int .u8 (m : Int)] 5)).heap.size) → Apd w w2 lo v v' (l ++ encN n)) := hid0 (fun v' w2 h1 h2 h3 => by
        have := apd_more (c := UInt8.ofNat m) HP.out (by rw [hc]; exact h1) h2 h3
        rw [← HE.out, encN_small hb]
        exact this)
      clear hc HE HP
      go_wp2_with (at_builtin; go_loud ((refine wpList_append_own_at _ rfl _ _ 77 rfl lo 5 i0 (.int .u8 0) 1 1 Tryd.underlying77 hi hz0 hz1 hz2 rfl (by decide) (.slice au p.length cu) p.length (cellsOf p) rfl (HO.out _) ⟨wr.heap.size, 0, none⟩ 1 1 [.int .u8 (m : Int)] rfl rfl (cell_one_new _ _ _) (by simp [Value.oneCell']) (by unfold maxLen; omega) (by omega) (by simp; omega) ?_; intro v' w2 hown hgrow _ hat; have HN := hid0 (HNx.out _ _ hown hgrow hat); clear hown hgrow hat)))
      go_ret
      exact ⟨_, rfl, HN.out⟩
    · have hbI : ¬ (m : Int) < 128 := by omega
      have hbI2 : (128 : Int) ≤ (m : Int) := by omega
      obtain ⟨x, hx⟩ : ∃ x, x = m % 256 := ⟨_, rfl⟩
      obtain ⟨y, hy⟩ : ∃ y, y = m % 128 + 128 := ⟨_, rfl⟩
      have hw8 : IntKind.u8.wrap (m : Int) = (x : Int) := by rw [IntKind.wrap_u8']; omega
      have hor : bits .or .u8 (x : Int) 128 = (y : Int) := by
        have h1 := u8_or_nat x 128 (by omega) (by omega)
        have h2 : ∀ x, x < 256 → x ||| 128 = x % 128 + 128 := by decide
        rw [h2 x (by omega)] at h1
        have e : ((128 : Nat) : Int) = 128 := rfl
        rw [e] at h1
        rw [h1]
        omega
      have hc : ((UInt8.ofNat (m % 128 + 128)).toNat : Int) = (y : Int) := by rw [u8_toN _ (by omega), hy]
      have HNx : Hid (∀ (v' : Value) (w2 : World), w2.ownsRow lo 5 1 v' (p.length + 1) (cellsOf p ++ [.int .u8 (y : Int)]) → (wr.alloc (.cells #[.int .u8 (y : Int)] 5)).grownBy w2 (Value.slice au p.length cu).ownBlock → (v'.ownBlock = (Value.slice au p.length cu).ownBlock ∨ v'.ownBlock = some (wr.alloc (.cells #[.int .u8 (y : Int)] 5)).heap.size) → Apd w w2 lo v v' (p ++ [UInt8.ofNat (m % 128 + 128)])) := hid0 (fun v' w2 h1 h2 h3 => apd_more (c := UInt8.ofNat (m % 128 + 128)) HP.out (by rw [hc]; exact h1) h2 h3)
      have HE2 : Hid (p ++ [UInt8.ofNat (m % 128 + 128)] ++ encN (m / 128) = l ++ encN n) := hid0 (by rw [← HE.out, encN_big hb]; simp)
      have HL2 : Hid ((p ++ [UInt8.ofNat (m % 128 + 128)]).length ≤ 100000000020) := hid0 (by
        have h1 := congrArg List.length HE2.out
        simp only [List.length_append] at h1 ⊢
        have h2 := encN_ten hn
        omega)
      clear hc HE HP hx hy
      go_wp2_with (at_builtin; go_loud ((refine wpList_append_own_at _ rfl _ _ 77 rfl lo 5 i0 (.int .u8 0) 1 1 Tryd.underlying77 hi hz0 hz1 hz2 rfl (by decide) (.slice au p.length cu) p.length (cellsOf p) rfl (HO.out _) ⟨wr.heap.size, 0, none⟩ 1 1 [.int .u8 (y : Int)] rfl rfl (cell_one_new _ _ _) (by simp [Value.oneCell']) (by unfold maxLen; omega) (by omega) (by simp; omega) ?_; intro v' w2 hown hgrow _ hat; have HN := hid0 (HNx.out _ _ hown hgrow hat); clear hown hgrow hat)))
      go_roundw
      case rel => exact ⟨m / 128, _, by go_num, by omega, HL2.out, HE2, HN⟩
      case measure => simp [intOf]; omega
/-- What cutAll leaves. -/
def CutsW (w : World) (lo l0 h0 j0 j1 P R L C n : Nat) (cl : Nat → Nat) (sp : List (Nat × Nat)) (Ls : List (List Nat)) (wt : Nat → Nat) (T : Nat) (w' : World) : Prop := ∃ ro' pl' cl' vs' sp' vq' q', Pt w' lo l0 h0 j0 j1 P R L C n ro' pl' cl' vs' sp' vq' q' ∧ Prt n ro' pl' cl' sp' ∧ CutsR n Ls cl cl' q' sp.length sp'.length wt T ∧ Only w w' (gapF lo l0 h0 j0 j1)
/-- Lists of states in memory, in the gap. -/
structure GapL (w : World) (l0 h0 : Nat) (a : Option Addr) (Ls : List (List Nat)) : Prop where
  at' : ∀ k (h : k < Ls.length), ∃ b off, a = some ⟨b, off, none⟩ ∧ b < w.heap.size ∧ l0 ≤ b ∧ b < h0 ∧ ∃ a1 c1, w.cell? ⟨b, off + k, none⟩ = some (.slice a1 (Ls[k]).length c1) ∧ IA w a1 (natI Ls[k]) ∧ ∀ p, a1 = some p → l0 ≤ p.block ∧ p.block < h0
theorem GapL.keep {w W : World} {lo l0 h0 j0 j1 : Nat} {a : Option Addr} {Ls : List (List Nat)} (h : GapL w l0 h0 a Ls) (hb : Only w W (gapF lo l0 h0 j0 j1)) : GapL W l0 h0 a Ls := ⟨fun k hk => by
  obtain ⟨b, off, rfl, h1, h2, h3, a1, c1, h4, h5, h6⟩ := h.at' k hk
  refine ⟨b, off, rfl, Nat.lt_of_lt_of_le h1 hb.size, h2, h3, a1, c1, (hb.cell (p := ⟨b, off + k, none⟩) h1 (fun s => ?_)).trans h4, gap_ia h5 hb h6, h6⟩
  have := s.2.1
  simp only at *
  omega⟩
set_option maxRecDepth 10000 in
set_option maxHeartbeats 1600000 in
theorem cutAll_any (lo l0 h0 j0 j1 P R L C n : Nat) (ro pl cl : Nat → Nat) (vs : Value) (sp : List (Nat × Nat)) (vq : Value) (Ls : List (List Nat)) (aL : Option Addr) (cL : Nat) (wt : Nat → Nat) (T : Nat) (w : World) (hp : Pt w lo l0 h0 j0 j1 P R L C n ro pl cl vs sp vq []) (hr : Prt n ro pl cl sp) (hL : Cutlist n cl Ls) (ha : GapL w l0 h0 aL Ls) (hn : n ≤ 2200000) (hl : Ls.length ≤ n) (hT : ∀ l : List Nat, l.Nodup → (∀ x ∈ l, x < n) → (l.map wt).sum ≤ T) :
    Calls Tryd.prog 32 #[.pointer (some ⟨P, 0, none⟩), .slice aL Ls.length cL] w fun e w' => e = .returned (.tuple #[]) ∧ CutsW w lo l0 h0 j0 j1 P R L C n cl sp Ls wt T w' := by
  have HA := hid0 ha
  have HL := hid0 hL
  have HT := hid0 hT
  have H0 : Hid (CutsW w lo l0 h0 j0 j1 P R L C n cl sp (Ls.take 0) wt T w) := hid0 ⟨ro, pl, cl, vs, sp, vq, [], hp, hr, cutsR_nil _ _ _ _ _, Only.refl _ _⟩
  clear ha hL hT hp hr
  go_enter Tryd.func32, Tryd.ntmps32
  go_wp2
  go_loopw [8] (fun i wr => ∃ k : Nat, k ≤ Ls.length ∧ i = .int .i64 (k : Int) ∧ Hid (CutsW w lo l0 h0 j0 j1 P R L C n cl sp (Ls.take k) wt T wr)) (fun i _ => Ls.length - (intOf i).toNat)
  case atStart => exact ⟨0, Nat.zero_le _, rfl, H0⟩
  case round =>
    obtain ⟨k, hk, rfl, HC⟩ := hrel
    by_cases hlt : k < Ls.length
    · have hkI : (k : Int) < (Ls.length : Int) := by omega
      have hk0 : (0 : Int) ≤ (k : Int) := by omega
      obtain ⟨ro', pl', cl', vs', sp', vq', q', h1, h2, h3, h4⟩ := HC.out
      obtain ⟨b, off, rfl, _, _, _, a1, c1, d1, i1, g1⟩ := (HA.out.keep h4).at' k hlt
      have hq : q'.length ≤ 5000000000000 := by
        have h5 := h3.len
        rw [List.length_take, Nat.min_eq_left (Nat.le_of_lt hlt)] at h5
        have h6 : k * n ≤ 2200000 * 2200000 := Nat.mul_le_mul (by omega) hn
        omega
      have HCt := hid0 (cut_any lo l0 h0 j0 j1 P R L C n ro' pl' cl' vs' sp' vq' q' Ls[k] a1 c1 wr h1 h2 (h3.next HL.out hlt) i1 g1 (by omega) hq)
      have HNx : Hid (∀ w2, CutW wr lo l0 h0 j0 j1 P R L C n cl' sp' q' Ls[k] w2 → CutsW w lo l0 h0 j0 j1 P R L C n cl sp (Ls.take (k + 1)) wt T w2) := hid0 (fun w2 hc => by
        obtain ⟨ro2, pl2, cl2, vs2, sp2, vq2, add, e1, e2, e3, e4⟩ := hc
        refine ⟨ro2, pl2, cl2, vs2, sp2, vq2, _, e1, e2, ?_, h4.trans e4 (fun i hi => .inl hi)⟩
        rw [List.take_succ_eq_append_getElem hlt]
        exact h3.snoc e3 HT.out)
      clear h1 h2 h3 h4 i1 g1 hq HC
      generalize Ls[k] = S at *
      go_wp2_with (go_at_call 43; go_loud ((refine HCt.out.mono ?_; rintro e w2 ⟨rfl, hc2⟩; have HC2 := hid0 (HNx.out w2 hc2); clear hc2)))
      go_roundw
      case rel => exact ⟨k + 1, by omega, by go_num, HC2⟩
      case measure => simp [intOf]; omega
    · obtain rfl : k = Ls.length := by omega
      have hkI : ¬ (Ls.length : Int) < (Ls.length : Int) := by omega
      have HF : Hid (CutsW w lo l0 h0 j0 j1 P R L C n cl sp Ls wt T wr) := hid0 (by have := HC.out; rw [List.take_length] at this; exact this)
      clear HC
      go_wp2
      go_returns
      exact ⟨rfl, HF.out⟩
set_option maxRecDepth 10000 in
set_option maxHeartbeats 800000 in
theorem take_any (lo l0 h0 j0 j1 P R L C n : Nat) (ro pl cl : Nat → Nat) (vs : Value) (sp : List (Nat × Nat)) (vq : Value) (q : List Nat) (w : World) (hp : Pt w lo l0 h0 j0 j1 P R L C n ro pl cl vs sp vq q) :
    Calls Tryd.prog 35 #[.pointer (some ⟨P, 0, none⟩)] w fun e w' => e = .returned vq ∧ Pt w' lo l0 h0 j0 j1 P R L C n ro pl cl vs sp (.slice none 0 0) [] ∧ OwnI w' lo vq (natI q) ∧ Only w w' (fun b => b = P) ∧ w'.heap.size = w.heap.size := by
  obtain ⟨aq, cq, hvq, _⟩ := hp.queue.ia
  rw [natI_len] at hvq
  subst hvq
  obtain ⟨_, _, _, _, c4⟩ := hp.cell
  have f4 := hp.frozen 4
  obtain ⟨n1, n2, n3, n4, n5, n6⟩ := hp.ne
  obtain ⟨w1, hw1⟩ : ∃ w1, w1 = w.setCell ⟨P, 4, none⟩ (.slice none 0 0) := ⟨_, rfl⟩
  have hO : Only w w1 (fun b => b = P) := by rw [hw1]; exact Only.setCell _ _ _ _
  have key : ∀ b, b ≠ P → w1.heap[b]? = w.heap[b]? := fun b hb => by rw [hw1]; exact Below.heap_setCell _ _ _ _ hb
  have hq1 : OwnI w1 lo (.slice aq q.length cq) (natI q) := own_blk hp.queue (fun k hk => key _ (by
    obtain ⟨cs, hc⟩ := own_ty hp.queue hk
    exact blk_ne hc hp.blk (by decide)))
  have hP1 : Pt w1 lo l0 h0 j0 j1 P R L C n ro pl cl vs sp (.slice none 0 0) [] := ⟨by rw [hw1]; exact heap_setCell_same _ _ 4 _ _ _ hp.blk, hp.row.keep (key _ (Ne.symm n1)), hp.place.keep (key _ (Ne.symm n2)), hp.class'.keep (key _ (Ne.symm n3)), own_blk hp.spans (fun k hk => key _ (by
    obtain ⟨cs, hc⟩ := own_ty hp.spans hk
    exact blk_ne hc hp.blk (by decide))), World.ownsRow_nil _ _ _ _, hp.gs, (fun k hk => nomatch hk), hp.ne, hp.g4, (fun k hk => nomatch hk), Nat.le_trans hp.big hO.size, hp.lol, Nat.le_trans hp.bj hO.size⟩
  have HF := hid0 (And.intro hP1 (And.intro hq1 (And.intro hO (show w1.heap.size = w.heap.size by rw [hw1]; simp [World.setCell]))))
  have g1 := hw1.symm
  clear hw1 hO key hq1 hP1 hp
  go_enter Tryd.func35, Tryd.ntmps35
  go_wp2
  go_ret
  exact ⟨rfl, HF.out⟩
end Go.Proofs.YtjmmckkiicefhaaDoor
namespace Go.Proofs.YtjmmckkiicefhaaDoor
open Go.RowKit Go.Shelf Go.Lib Go.Maps
/-- Numbers in memory, in a block from lo on. -/
structure IQ (w : World) (lo : Nat) (a : Option Addr) (L : List Int) : Prop where
  at' : ∀ k (h : k < L.length), ∃ b off, a = some ⟨b, off, none⟩ ∧ lo ≤ b ∧ b < w.heap.size ∧ w.cell? ⟨b, off + k, none⟩ = some (.int .i64 L[k])
theorem IQ.ia {w : World} {lo : Nat} {a : Option Addr} {L : List Int} (h : IQ w lo a L) : IA w a L := ⟨fun k hk => by
  obtain ⟨b, off, e, _, h1, h2⟩ := h.at' k hk
  exact ⟨b, off, e, h1, h2⟩⟩
theorem IQ.keep {w w' : World} {lo : Nat} {a : Option Addr} {L : List Int} (h : IQ w lo a L) (hs : w.heap.size ≤ w'.heap.size) (hk : ∀ k, lo ≤ k → k < w.heap.size → w'.heap[k]? = w.heap[k]?) : IQ w' lo a L := ⟨fun k hk' => by
  obtain ⟨b, off, e, h0, h1, h2⟩ := h.at' k hk'
  exact ⟨b, off, e, h0, by omega, (World.cell?_of_block (w := w) (hk b h0 h1)).trans h2⟩⟩
/-- Lists of numbers likewise. -/
structure RwQ (w : World) (lo : Nat) (a : Option Addr) (L : List (List Int)) : Prop where
  at' : ∀ k (h : k < L.length), ∃ b off, a = some ⟨b, off, none⟩ ∧ lo ≤ b ∧ b < w.heap.size ∧ ∃ a1 c1, w.cell? ⟨b, off + k, none⟩ = some (.slice a1 (L[k]).length c1) ∧ IQ w lo a1 L[k]
theorem RwQ.rwa {w : World} {lo : Nat} {a : Option Addr} {L : List (List Int)} (h : RwQ w lo a L) : RwA w a L := ⟨fun k hk => by
  obtain ⟨b, off, e, _, h1, a1, c1, h2, h3⟩ := h.at' k hk
  exact ⟨b, off, e, h1, a1, c1, h2, h3.ia⟩⟩
theorem RwQ.keep {w w' : World} {lo : Nat} {a : Option Addr} {L : List (List Int)} (h : RwQ w lo a L) (hs : w.heap.size ≤ w'.heap.size) (hk : ∀ k, lo ≤ k → k < w.heap.size → w'.heap[k]? = w.heap[k]?) : RwQ w' lo a L := ⟨fun k hk' => by
  obtain ⟨b, off, e, h0, h1, a1, c1, h2, h3⟩ := h.at' k hk'
  exact ⟨b, off, e, h0, by omega, a1, c1, (World.cell?_of_block (w := w) (hk b h0 h1)).trans h2, h3.keep hs hk⟩⟩
theorem OwnI.iq {w : World} {base : Nat} {v : Value} {L : List Int} (h : OwnI w base v L) : ∃ a cap, v = .slice a L.length cap ∧ IQ w base a L := by
  have h0 := h
  rcases h.2 with ⟨rfl, hn⟩ | ⟨g, cap, cur, rfl, hg, hr, hc, _⟩
  · exact ⟨none, 0, by rw [hn], ⟨fun k hk => by omega⟩⟩
  · refine ⟨_, cap, rfl, ⟨fun k hk => ⟨g, 0, rfl, hg, (World.ownsRow.lt h0 g rfl).2, ?_⟩⟩⟩
    have := World.ownsRow.cellAt h0 k (by omega)
    rw [Nat.zero_add, this]
    simp [hk]
theorem OwnI.past {w w' : World} {base : Nat} {v : Value} {L : List Int} (h : OwnI w base v L) (hb : Below w.heap.size w w') : OwnI w' base v L := own_blk h (fun k hk => hb.block k (World.ownsRow.lt h k hk).2)
theorem row_later {w w' : World} {base : Nat} {t : TypeId} {size n : Nat} {v : Value} {xs : List Value} (h : w.ownsRow base t size v n xs) (hb : Below w.heap.size w w') : w'.ownsRow base t size v n xs := own_blk h (fun k hk => hb.block k (World.ownsRow.lt h k hk).2)
abbrev Lot := List (Value × List Int)
structure Bag (w : World) (base : Nat) (v : Value) (ps : Lot) : Prop where
  outer : w.ownsRow base 25 1 v ps.length (ps.map (·.1))
  row : ∀ x ∈ ps, OwnI w base x.1 x.2
  apart : ps.Pairwise fun x y => ∀ g, x.1.ownBlock = some g → y.1.ownBlock ≠ some g
  away : ∀ x ∈ ps, ∀ g, v.ownBlock = some g → x.1.ownBlock ≠ some g
theorem Bag.nil (w : World) (base : Nat) : Bag w base (.slice none 0 0) [] := ⟨World.ownsRow_nil _ _ _ _, by simp, List.Pairwise.nil, by simp⟩
theorem Bag.later {w w' : World} {base : Nat} {v : Value} {ps : Lot} (h : Bag w base v ps) (hb : Below w.heap.size w w') : Bag w' base v ps :=
  ⟨row_later h.outer hb, fun x hx => (h.row x hx).past hb, h.apart, h.away⟩
/-- All lists empty. -/
theorem Bag.made {w : World} {base : Nat} {v : Value} {n : Nat} (h : w.ownsRow base 25 1 v n (List.replicate n (.slice none 0 0))) : Bag w base v (List.replicate n (.slice none 0 0, [])) := by
  refine ⟨?_, ?_, ?_, ?_⟩
  · rw [List.length_replicate, List.map_replicate]; exact h
  · intro x hx
    rw [List.eq_of_mem_replicate hx]
    exact World.ownsRow_nil _ _ _ _
  · rw [List.pairwise_replicate]
    right
    intro g hg
    cases hg
  · intro x hx g _ hxg
    rw [List.eq_of_mem_replicate hx] at hxg
    cases hxg
/-- One list is another one. -/
theorem Bag.set {W w1 : World} {base g n c : Nat} {ps : Lot} (h : Bag W base (.slice (some ⟨g, 0, none⟩) n c) ps) (hn : n = ps.length) (y : Nat) (hy : y < ps.length) {v' : Value} {l' : List Int}
    (hk : ∀ k, k < W.heap.size → (ps[y]).1.ownBlock ≠ some k → w1.heap[k]? = W.heap[k]?) (hv : OwnI w1 base v' l') (hnew : ∀ q, v'.ownBlock = some q → (ps[y]).1.ownBlock = some q ∨ W.heap.size ≤ q) :
    Bag (w1.setCell ⟨g, y, none⟩ v') base (.slice (some ⟨g, 0, none⟩) n c) (ps.set y (v', l')) := by
  subst hn
  have hmem : ps[y] ∈ ps := List.getElem_mem hy
  have hgl := World.ownsRow.lt h.outer g rfl
  have hvg : ∀ q, v'.ownBlock = some q → q ≠ g := fun q hq e => by
    subst e
    rcases hnew q hq with h1 | h1
    · exact h.away _ hmem q rfl h1
    · omega
  have hyg : (ps[y]).1.ownBlock ≠ some g := h.away _ hmem g rfl
  have hout1 : w1.ownsRow base 25 1 (.slice (some ⟨g, 0, none⟩) ps.length c) ps.length (ps.map (·.1)) := own_blk h.outer (fun k hk' => by
    have e : g = k := by simpa [Value.ownBlock] using hk'
    subst e
    exact hk g hgl.2 hyg)
  have hother : ∀ {t : TypeId} {size m : Nat} {u : Value} {xs : List Value}, w1.ownsRow base t size u m xs → (∀ q, u.ownBlock = some q → q ≠ g) → (w1.setCell ⟨g, y, none⟩ v').ownsRow base t size u m xs := by
    intro t size m u xs ho hne
    exact own_blk ho (fun q hq => Below.heap_setCell w1 _ _ q (hne q hq))
  refine ⟨?_, ?_, ?_, ?_⟩
  · have h1 := (World.ownsRow.stored hout1 y v').1
    rw [List.length_set, List.map_set]
    exact h1
  · intro x hx
    obtain ⟨j, hj, rfl⟩ := List.getElem_of_mem hx
    have hj2 : j < ps.length := by simpa using hj
    rw [List.getElem_set]
    split
    · exact hother hv hvg
    · rename_i hne
      have hr := h.row _ (List.getElem_mem hj2)
      refine hother (own_blk hr (fun q hq => hk q (World.ownsRow.lt hr q hq).2 ?_)) (fun q hq e => ?_)
      · intro hyq
        have := List.pairwise_iff_getElem.1 h.apart
        rcases Nat.lt_or_gt_of_ne hne with hlt | hlt
        · exact this y j hy hj2 hlt q hyq hq
        · exact this j y hj2 hy hlt q hq hyq
      · subst e
        exact h.away _ (List.getElem_mem hj2) q rfl hq
  · rw [List.pairwise_iff_getElem]
    intro i j hi hj hij q hiq hjq
    have hi2 : i < ps.length := by simpa using hi
    have hj2 : j < ps.length := by simpa using hj
    have ap := List.pairwise_iff_getElem.1 h.apart
    rw [List.getElem_set] at hiq hjq
    split at hiq
    · rename_i e
      subst e
      rw [if_neg (by omega)] at hjq
      rcases hnew q hiq with h1 | h1
      · exact ap y j hi2 hj2 hij q h1 hjq
      · have := (World.ownsRow.lt (h.row _ (List.getElem_mem hj2)) q hjq).2; omega
    · split at hjq
      · rename_i e
        subst e
        rcases hnew q hjq with h1 | h1
        · exact ap i y hi2 hj2 hij q hiq h1
        · have := (World.ownsRow.lt (h.row _ (List.getElem_mem hi2)) q hiq).2; omega
      · exact ap i j hi2 hj2 hij q hiq hjq
  · intro x hx q hq hxq
    have e : g = q := by simpa [Value.ownBlock] using hq
    subst e
    obtain ⟨j, hj, rfl⟩ := List.getElem_of_mem hx
    have hj2 : j < ps.length := by simpa using hj
    rw [List.getElem_set] at hxq
    split at hxq
    · exact hvg g hxq rfl
    · exact h.away _ (List.getElem_mem hj2) g rfl hxq
theorem Bag.cells {w : World} {base g n c : Nat} {ps : Lot} (h : Bag w base (.slice (some ⟨g, 0, none⟩) n c) ps) (hn : n = ps.length) (j : Nat) (hj : j < ps.length) : w.cell? ⟨g, j, none⟩ = some (ps[j]).1 ∧ w.frozen? ⟨g, j, none⟩ = false := by
  subst hn
  refine ⟨?_, World.ownsRow.frozenAt h.outer j⟩
  rw [World.ownsRow.cellAt h.outer j (by omega)]
  simp [hj]
theorem Bag.rwq {w : World} {base : Nat} {v : Value} {ps : Lot} (h : Bag w base v ps) : ∃ a c, v = .slice a (ps.map (·.2)).length c ∧ RwQ w base a (ps.map (·.2)) := by
  have h0 := h.outer
  rcases h0.2 with ⟨hv, hn⟩ | ⟨g, cap, cur, hv, hg, _⟩
  · have hps : ps = [] := List.eq_nil_of_length_eq_zero (by omega)
    subst hps
    exact ⟨none, 0, hv, ⟨fun k hk => by simp at hk⟩⟩
  · refine ⟨some ⟨g, 0, none⟩, cap, by rw [hv, List.length_map], ⟨fun k hk => ?_⟩⟩
    have hk' : k < ps.length := by simpa using hk
    obtain ⟨a1, c1, e1, hq⟩ := (h.row ps[k] (List.getElem_mem hk')).iq
    rw [hv] at h0
    refine ⟨g, 0, rfl, hg, (World.ownsRow.lt h0 g rfl).2, a1, c1, ?_, ?_⟩
    · rw [Nat.zero_add, World.ownsRow.cellAt h0 k (by omega)]
      simp [hk', e1]
    · simp only [List.getElem_map]
      exact hq
/-- One more, made behind the others. -/
theorem Bag.snoc {W wr w1 : World} {base : Nat} {v v' x : Value} {ps : Lot} {l : List Int} {o : Obj} {n : Nat} (hn : n = ps.length) (h : Bag W base v ps) (hk : Below W.heap.size W wr) (hx : OwnI wr W.heap.size x l) (hbase : base ≤ W.heap.size)
    (hown' : w1.ownsRow base 25 1 v' (n + 1) (ps.map (·.1) ++ [x])) (hgrow : (wr.alloc o).grownBy w1 v.ownBlock) (hat : v'.ownBlock = v.ownBlock ∨ v'.ownBlock = some (wr.alloc o).heap.size) {w : World} (hb : Below base w W) :
    Bag w1 base v' (ps ++ [(x, l)]) ∧ Below base w w1 := by
  subst hn
  have h2 := h.later hk
  have hs := hk.size
  have hxl := World.ownsRow.lt hx
  have hxa : ∀ g, v.ownBlock = some g → x.ownBlock ≠ some g := fun g hg hxg => by
    have e1 := (World.ownsRow.lt h.outer g hg).2
    have e2 := (hxl g hxg).1
    omega
  have old : ∀ (u : Value) (m : List Int) (b : Nat), OwnI wr b u m → (∀ g, v.ownBlock = some g → u.ownBlock ≠ some g) → OwnI w1 b u m := fun u m b hu hne => by
    refine World.ownsRow.kept (World.ownsRow.alloc hu o) hgrow ?_
    cases e : u.ownBlock with
    | none => exact .inl rfl
    | some g => exact .inr fun hc => hne g hc.symm e
  refine ⟨⟨?_, ?_, ?_, ?_⟩, ?_⟩
  · rw [List.length_append, List.map_append]
    exact hown'
  · intro y hy
    rcases List.mem_append.1 hy with hy | hy
    · exact old _ _ _ (h2.row y hy) (h.away y hy)
    · rw [List.mem_singleton] at hy
      subst hy
      exact owns_lower (old _ _ _ hx hxa) hbase
  · rw [List.pairwise_append]
    refine ⟨h.apart, List.pairwise_singleton _ _, ?_⟩
    intro y hy z hz g hg hzg
    rw [List.mem_singleton] at hz
    subst hz
    have e1 := (World.ownsRow.lt (h.row y hy) g hg).2
    have e2 := (hxl g hzg).1
    omega
  · intro y hy g hg hyg
    have hlt : g < wr.heap.size := by
      rcases List.mem_append.1 hy with hy | hy
      · exact (World.ownsRow.lt (h2.row y hy) g hyg).2
      · rw [List.mem_singleton] at hy
        subst hy
        exact (hxl g hyg).2
    rcases hat with hat | hat
    · rw [hat] at hg
      rcases List.mem_append.1 hy with hy | hy
      · exact h.away y hy g hg hyg
      · rw [List.mem_singleton] at hy
        subst hy
        exact hxa g hg hyg
    · rw [hat] at hg
      simp at hg
      omega
  · refine ((hb.trans (hk.mono hbase)).alloc ?_ o).grown hgrow ?_ (fun k hk' => (World.ownsRow.lt h.outer k hk').1)
    · omega
    · simp; omega
theorem Bag.grown {W w2 : World} {o : Obj} {base g n c : Nat} {ps : Lot} (h : Bag W base (.slice (some ⟨g, 0, none⟩) n c) ps) (hn : n = ps.length) (y : Nat) (hy : y < ps.length) {row : Option Nat} (hrow : row = (ps[y]).1.ownBlock) (hgrow : (W.alloc o).grownBy w2 row) :
    w2.cell? ⟨g, y, none⟩ = some (ps[y]).1 ∧ w2.frozen? ⟨g, y, none⟩ = false ∧ ∀ k, k < W.heap.size → (ps[y]).1.ownBlock ≠ some k → w2.heap[k]? = W.heap[k]? := by
  subst hn hrow
  have hb : ∀ k, k < W.heap.size → (ps[y]).1.ownBlock ≠ some k → w2.heap[k]? = W.heap[k]? := fun k hk hne => (hgrow.block k (by simp; omega) (fun e => hne e.symm)).trans (heap_alloc_old W o hk)
  have hgl := (World.ownsRow.lt h.outer g rfl).2
  have hne : (ps[y]).1.ownBlock ≠ some g := h.away _ (List.getElem_mem hy) g rfl
  have ho : w2.ownsRow base 25 1 (.slice (some ⟨g, 0, none⟩) ps.length c) ps.length (ps.map (·.1)) := own_blk h.outer (fun k hk => by
    have e : g = k := by simpa [Value.ownBlock] using hk
    subst e
    exact hb g hgl hne)
  refine ⟨?_, World.ownsRow.frozenAt ho y, hb⟩
  rw [World.ownsRow.cellAt ho y (by omega)]
  simp [hy]
theorem lawS : Keyed Tryd.prog 9 := string_keyed Tryd.underlying9
def strB (k : List UInt8) : ByteArray := ⟨k.toArray⟩
def keyS (k : List UInt8) : Lit := .string k
theorem keyS_inj {a b : List UInt8} (h : keyS a = keyS b) : a = b := by unfold keyS at h; injection h
theorem keyS_is (k : List UInt8) : WideAt.IsKeyLit (keyS k) := trivial
/-- A map that has the texts ks, each with its number. -/
structure SaysS (D : DataW Unit) (ks : List (List UInt8)) : Prop where
  has : ∀ c, Maps.has D (keyS c) = decide (c ∈ ks)
  at' : ∀ i (h : i < ks.length), D.atKey (keyS ks[i]) (.lit (.int .i64 0)) = .lit (.int .i64 (i : Int))
  off : ∀ c, c ∉ ks → D.atKey (keyS c) (.lit (.int .i64 0)) = .lit (.int .i64 0)
theorem saysS_nil : SaysS (.map []) [] := ⟨fun c => by rfl, fun i h => absurd h (Nat.not_lt_zero _), fun c _ => rfl⟩
theorem saysS_put {D : DataW Unit} {ks : List (List UInt8)} (h : SaysS D ks) (hT : Tidy D) {c : List UInt8} (hc : c ∉ ks) : SaysS (D.put (keyS c) (.lit (.int .i64 (ks.length : Int)))) (ks ++ [c]) where
  has := fun d => by
    by_cases e : d = c
    · subst e
      rw [has_put_same hT.isMap (keyS_is _)]
      simp
    · rw [has_put_other (fun he => e (keyS_inj he)), h.has]
      simp [e]
  at' := fun i hi => by
    by_cases e : i < ks.length
    · rw [List.getElem_append_left e, atKey_put_other (fun he => hc (by rw [← keyS_inj he]; exact List.getElem_mem e)), h.at' i e]
    · have e2 : i = ks.length := by simp at hi; omega
      subst e2
      rw [List.getElem_append_right (Nat.le_refl _)]
      simp only [Nat.sub_self, List.getElem_cons_zero]
      exact atKey_put_same hT.isMap (keyS_is _) _ _
  off := fun d hd => by
    rw [List.mem_append, not_or] at hd
    rw [atKey_put_other (fun he => hd.2 (by rw [keyS_inj he]; simp))]
    exact h.off d hd.1
/-- The block B is the map of the texts ks. -/
def MapS (w : World) (B : Nat) (ks : List (List UInt8)) : Prop := ∃ D, w.ownsMap Tryd.prog 9 (plainElem Tryd.prog 3) B ks.length D ∧ SaysS D ks
theorem MapS.lt {w : World} {B : Nat} {ks : List (List UInt8)} (h : MapS w B ks) : B < w.heap.size := by
  obtain ⟨D, h1, _⟩ := h
  exact h1.lt
theorem MapS.keep {w w' : World} {B : Nat} {ks : List (List UInt8)} (h : MapS w B ks) (hb : w'.heap[B]? = w.heap[B]?) : MapS w' B ks := by
  obtain ⟨D, ⟨es, clock, h1, h2⟩, hs⟩ := h
  exact ⟨D, ⟨es, clock, hb.trans h1, h2⟩, hs⟩
theorem MapS.isMap {w : World} {B : Nat} {ks : List (List UInt8)} (h : MapS w B ks) : ∃ es clock, w.heap[B]? = some (.map es clock) := by
  obtain ⟨D, ⟨es, clock, h1, h2⟩, hs⟩ := h
  exact ⟨es, clock, h1⟩
theorem MapS.made (w : World) : MapS (w.alloc (.map #[] 0)) w.heap.size [] := ⟨_, World.ownsMap_made w _ _ _, saysS_nil⟩
set_option maxRecDepth 100000 in
theorem keyOf_strB (k : List UInt8) (hk : k.length ≤ 1000000000000) : keyOf Tryd.prog 9 (.string (strB k)) = some (keyS k) := by
  have := Go.WideMaps.keyOf_string_mk (P := Tryd.prog) Tryd.underlying9 (s := strB k) (by unfold maxLen; simp [strB, ByteArray.size]; omega)
  simpa [strB, keyS] using this
set_option maxRecDepth 100000 in
theorem MapS.look {w : World} {B : Nat} {ks : List (List UInt8)} (h : MapS w B ks) {i : Nat} (hi : i < ks.length) (hk : ks[i].length ≤ 1000000000000) :
    (Instr.lookup 80 (.map (some B)) (.string (strB ks[i])) true).run Tryd.prog w = .ok (.tuple #[.int .i64 (i : Int), .bool true]) w := by
  obtain ⟨D, h1, hs⟩ := h
  obtain ⟨v, ps, hrun, hv⟩ := h1.look_ok (t := 80) lawS Tryd.underlying80 (Tryd.zeroValue3 w) (plainElem_int Tryd.underlying3 (by decide)) (keyOf_strB ks[i] hk)
  obtain ⟨c, rfl, hcc, _⟩ := plainElem_int_inv Tryd.underlying3 hv
  have e := congrArg Prod.fst hcc
  have e2 := hs.at' i hi
  simp only [e2] at e
  injection e with e
  injection e with _ e
  have h3 := hs.has ks[i]
  rw [hrun, ← e, h3, decide_eq_true (List.getElem_mem hi)]
set_option maxRecDepth 100000 in
theorem MapS.lookNot {w : World} {B : Nat} {ks : List (List UInt8)} (h : MapS w B ks) {d : List UInt8} (hd : d ∉ ks) (hk : d.length ≤ 1000000000000) :
    (Instr.lookup 80 (.map (some B)) (.string (strB d)) true).run Tryd.prog w = .ok (.tuple #[.int .i64 0, .bool false]) w := by
  obtain ⟨D, h1, hs⟩ := h
  obtain ⟨v, ps, hrun, hv⟩ := h1.look_ok (t := 80) lawS Tryd.underlying80 (Tryd.zeroValue3 w) (plainElem_int Tryd.underlying3 (by decide)) (keyOf_strB d hk)
  obtain ⟨c, rfl, hcc, _⟩ := plainElem_int_inv Tryd.underlying3 hv
  have e := congrArg Prod.fst hcc
  have e2 := hs.off d hd
  simp only [e2] at e
  injection e with e
  injection e with _ e
  have h3 := hs.has d
  rw [hrun, ← e, h3, decide_eq_false hd]
set_option maxRecDepth 100000 in
theorem MapS.put {w : World} {B : Nat} {ks : List (List UInt8)} (h : MapS w B ks) {d : List UInt8} (hd : d ∉ ks) (hk : d.length ≤ 1000000000000) (hn : ks.length ≤ 1000000000000) :
    ∃ w', (Instr.mapUpdate 80 (.map (some B)) (.string (strB d)) (.int .i64 (ks.length : Int))).run Tryd.prog w = .ok () w' ∧ MapS w' B (ks ++ [d]) ∧ w.grownBy w' (some B) := by
  obtain ⟨D, h1, hs⟩ := h
  have hw : (Lit.int .i64 (ks.length : Int)).wf = true := by simp [Lit.wf, IntKind.min, IntKind.max, IntKind.signed, IntKind.bits]; omega
  obtain ⟨w', hrun, h2, h3⟩ := h1.update (t := 80) lawS Tryd.underlying80 (by unfold maxLen; omega) (keyOf_strB d hk) (plainElem_int Tryd.underlying3 hw)
  refine ⟨w', hrun, ⟨_, ?_, saysS_put hs (h1.tidy lawS) hd⟩, h3⟩
  rw [List.length_append]
  exact h2
/-- Groups in memory. -/
structure Gp (W : World) (lo GB MB : Nat) (vl : Value) (ks : List (List UInt8)) (ps : Lot) (Ls : List (List Nat)) : Prop where
  blk : W.heap[GB]? = some (.cells #[.map (some MB), vl] 82 (0, 0))
  mp : MapS W MB ks
  bag : Bag W lo vl ps
  pl : ps.map (·.2) = Ls.map natI
  len : ks.length = Ls.length
  lo' : lo ≤ GB ∧ lo ≤ MB
theorem Gp.plen {W : World} {lo GB MB : Nat} {vl : Value} {ks : List (List UInt8)} {ps : Lot} {Ls : List (List Nat)} (h : Gp W lo GB MB vl ks ps Ls) : ps.length = Ls.length := by
  have := congrArg List.length h.pl
  simpa using this
theorem Gp.cell {W : World} {lo GB MB : Nat} {vl : Value} {ks : List (List UInt8)} {ps : Lot} {Ls : List (List Nat)} (h : Gp W lo GB MB vl ks ps Ls) : W.cell? ⟨GB, 0, none⟩ = some (.map (some MB)) ∧ W.cell? ⟨GB, 1, none⟩ = some vl ∧ (∀ o, W.frozen? ⟨GB, o, none⟩ = false) ∧ GB < W.heap.size := by
  refine ⟨?_, ?_, fun o => by simp [World.frozen?, h.blk], (Array.getElem?_eq_some_iff.1 h.blk).1⟩ <;> (rw [cell_of_row _ _ _ _ _ _ h.blk]; rfl)
/-- Only blocks of bytes have changed. -/
theorem Gp.bytes {W W' : World} {lo GB MB : Nat} {vl : Value} {ks : List (List UInt8)} {ps : Lot} {Ls : List (List Nat)} {S : Nat → Prop} (h : Gp W lo GB MB vl ks ps Ls) (ho : Only W W' S) (hS : ∀ k, S k → ∃ cs, W.heap[k]? = some (.cells cs 5 (0, 0))) : Gp W' lo GB MB vl ks ps Ls := by
  have key : ∀ {b : Nat} {cb : Array Value} {tb : TypeId}, W.heap[b]? = some (.cells cb tb (0, 0)) → tb ≠ 5 → W'.heap[b]? = W.heap[b]? := fun {b cb tb} hb ht => ho.block _ (Array.getElem?_eq_some_iff.1 hb).1 (fun e => by
    obtain ⟨cs, hc⟩ := hS b e
    exact blk_ne hb hc ht rfl)
  refine ⟨(key h.blk (by decide)).trans h.blk, h.mp.keep (ho.block _ h.mp.lt (fun e => ?_)), ⟨own_blk h.bag.outer (fun k hk => ?_), fun x hx => own_blk (h.bag.row x hx) (fun k hk => ?_), h.bag.apart, h.bag.away⟩, h.pl, h.len, h.lo'⟩
  · obtain ⟨cs, hc⟩ := hS _ e
    obtain ⟨es, clock, hm⟩ := h.mp.isMap
    rw [hm] at hc
    cases hc
  · obtain ⟨cs, hc⟩ := own_ty h.bag.outer hk
    exact key hc (by decide)
  · obtain ⟨cs, hc⟩ := own_ty (h.bag.row x hx) hk
    exact key hc (by decide)
/-- Blocks of bytes are as they were. -/
structure KeepT (w w' : World) : Prop where
  size : w.heap.size ≤ w'.heap.size
  byt : ∀ (b : Nat) (cs : Array Value), w.heap[b]? = some (.cells cs 5 (0, 0)) → w'.heap[b]? = w.heap[b]?
theorem KeepT.refl (w : World) : KeepT w w := ⟨Nat.le_refl _, fun _ _ _ => rfl⟩
theorem KeepT.trans {a b c : World} (h : KeepT a b) (k : KeepT b c) : KeepT a c := ⟨Nat.le_trans h.size k.size, fun i cs hi => by
  have e := h.byt i cs hi
  exact (k.byt i cs (e.trans hi)).trans e⟩
theorem KeepT.own {w w' : World} {lo : Nat} {v : Value} {l : List UInt8} (h : KeepT w w') (ho : OwnB w lo v l) : OwnB w' lo v l := own_blk ho (fun k hk => by
  obtain ⟨cs, hc⟩ := own_ty ho hk
  exact h.byt k cs hc)
theorem KeepT.only {w w' : World} {S : Nat → Prop} (ho : Only w w' S) (hS : ∀ k, S k → ∀ cs, w.heap[k]? ≠ some (Obj.cells cs 5 (0, 0))) : KeepT w w' := ⟨ho.size, fun b cs hb => ho.block b (Array.getElem?_eq_some_iff.1 hb).1 (fun s => hS b s cs hb)⟩
theorem KeepT.below {w w' : World} (h : Below w.heap.size w w') : KeepT w w' := ⟨h.size, fun b _cs hb => h.block b (Array.getElem?_eq_some_iff.1 hb).1⟩
end Go.Proofs.YtjmmckkiicefhaaDoor
namespace Go.Proofs.YtjmmckkiicefhaaDoor
open Go.RowKit Go.Shelf
theorem own_typ {w : World} {base : Nat} {t : TypeId} {size n : Nat} {v : Value} {xs : List Value} (h : w.ownsRow base t size v n xs) {g : Nat} (hg : v.ownBlock = some g) : ∃ cs, w.heap[g]? = some (.cells cs t (0, 0)) := by
  rcases h.2 with ⟨e, _⟩ | ⟨g', cap, cur, e, _, hr, _⟩
  · rw [e] at hg; cases hg
  · rw [e] at hg
    obtain rfl : g' = g := by simpa [Value.ownBlock] using hg
    exact ⟨cur, hr⟩
/-- Rows of unlike types lie in unlike blocks. -/
theorem own_unlike {w : World} {b1 b2 : Nat} {t1 t2 : TypeId} {s1 s2 n1 n2 : Nat} {v1 v2 : Value} {x1 x2 : List Value} (h1 : w.ownsRow b1 t1 s1 v1 n1 x1) (h2 : w.ownsRow b2 t2 s2 v2 n2 x2) (ht : t1 ≠ t2) : ∀ g, v1.ownBlock = some g → v2.ownBlock ≠ some g := fun g h3 h4 => by
  obtain ⟨c1, e1⟩ := own_typ h1 h3
  obtain ⟨c2, e2⟩ := own_typ h2 h4
  rw [e1] at e2
  cases e2
  exact ht rfl
abbrev Lz := List (Value × Nat × List Int)
/-- A slice of lists: each shows its beginning alone. -/
structure Pz (w : World) (base : Nat) (v : Value) (qs : Lz) : Prop where
  outer : w.ownsRow base 25 1 v qs.length (qs.map (·.1))
  row : ∀ x ∈ qs, ∃ g c, x.1 = .slice (some ⟨g, 0, none⟩) x.2.1 c ∧ x.2.1 ≤ x.2.2.length ∧ OwnI w base (.slice (some ⟨g, 0, none⟩) x.2.2.length c) x.2.2
theorem Pz.nil (w : World) (base : Nat) : Pz w base (.slice none 0 0) [] := ⟨World.ownsRow_nil _ _ _ _, fun x h => by cases h⟩
theorem Pz.later {w w' : World} {base : Nat} {v : Value} {qs : Lz} (h : Pz w base v qs) (hb : Below w.heap.size w w') : Pz w' base v qs :=
  ⟨row_later h.outer hb, fun x hx => by obtain ⟨g, c, e, hl, ho⟩ := h.row x hx; exact ⟨g, c, e, hl, row_later ho hb⟩⟩
/-- One more, made behind. -/
theorem Pz.snoc {W wr w1 w : World} {base : Nat} {v v' : Value} {qs : Lz} {r : List Int} {g c m : Nat} {o : Obj} {n : Nat} (hn : n = qs.length) (h : Pz W base v qs) (hk : Below W.heap.size W wr) (hm : m ≤ r.length) (hx : OwnI wr W.heap.size (.slice (some ⟨g, 0, none⟩) r.length c) r) (hbase : base ≤ W.heap.size)
    (hown' : w1.ownsRow base 25 1 v' (n + 1) (qs.map (·.1) ++ [.slice (some ⟨g, 0, none⟩) m c])) (hgrow : (wr.alloc o).grownBy w1 v.ownBlock) (hb : Below base w W) :
    Pz w1 base v' (qs ++ [(.slice (some ⟨g, 0, none⟩) m c, m, r)]) ∧ Below base w w1 := by
  subst hn
  have h2 := h.later hk
  have hs := hk.size
  have old : ∀ {n : Nat} {u : Value} {xs : List Value} {b : Nat}, wr.ownsRow b 3 1 u n xs → w1.ownsRow b 3 1 u n xs := fun {n u xs b} hu => by
    refine World.ownsRow.kept (World.ownsRow.alloc hu o) hgrow ?_
    cases e : u.ownBlock with
    | none => exact .inl rfl
    | some g => exact .inr fun hc => own_unlike h2.outer hu (by decide) g hc.symm e
  refine ⟨⟨?_, ?_⟩, ?_⟩
  · rw [List.length_append, List.map_append]
    exact hown'
  · intro y hy
    rcases List.mem_append.1 hy with hy | hy
    · obtain ⟨g1, c1, e1, hl1, ho1⟩ := h2.row y hy
      exact ⟨g1, c1, e1, hl1, old ho1⟩
    · rw [List.mem_singleton] at hy
      subst hy
      exact ⟨g, c, rfl, hm, owns_lower (old hx) hbase⟩
  · refine ((hb.trans (hk.mono hbase)).alloc ?_ o).grown hgrow ?_ (fun k hk' => (World.ownsRow.lt h.outer k hk').1)
    · omega
    · simp; omega
def m77 : List Int := List.replicate 64 (-77)
def rowZ (r : List Int) : Nat × List Int := (r.length, r ++ m77)
/-- The lists, and the marks behind them. -/
def Fits (qs : Lz) (L : List (List Int)) (m : Nat) : Prop := qs.map (·.2) = L.map rowZ ++ List.replicate m (1, [(-78 : Int)])
theorem Fits.len {qs : Lz} {L : List (List Int)} {m : Nat} (h : Fits qs L m) : qs.length = L.length + m := by
  have := congrArg List.length h
  simpa using this
theorem Fits.row {qs : Lz} {L : List (List Int)} {m k : Nat} (h : Fits qs L m) (hk : k < L.length) : ∃ x, qs[k]? = some x ∧ x.2 = rowZ L[k] := by
  have h1 : (qs.map (·.2))[k]? = some (rowZ L[k]) := by
    rw [h, List.getElem?_append_left (by simpa using hk)]
    simp [hk]
  rw [List.getElem?_map, Option.map_eq_some_iff] at h1
  obtain ⟨x, h2, h3⟩ := h1
  exact ⟨x, h2, h3⟩
theorem Fits.mark {qs : Lz} {L : List (List Int)} {m k : Nat} (h : Fits qs L m) (hk : k < m) : ∃ x, qs[L.length + k]? = some x ∧ x.2 = (1, [(-78 : Int)]) := by
  have h1 : (qs.map (·.2))[L.length + k]? = some (1, [(-78 : Int)]) := by
    rw [h, List.getElem?_append_right (by simp), List.length_map, Nat.add_sub_cancel_left, List.getElem?_replicate, if_pos hk]
  rw [List.getElem?_map, Option.map_eq_some_iff] at h1
  obtain ⟨x, h2, h3⟩ := h1
  exact ⟨x, h2, h3⟩
theorem Fits.snoc {qs : Lz} {L : List (List Int)} {v : Value} {r : List Int} (h : Fits qs L 0) : Fits (qs ++ [(v, r.length, r ++ m77)]) (L ++ [r]) 0 := by
  unfold Fits at *
  rw [List.map_append, h, List.map_append]
  simp [rowZ]
theorem Fits.more {qs : Lz} {L : List (List Int)} {v : Value} {m : Nat} (h : Fits qs L m) : Fits (qs ++ [(v, 1, [-78])]) L (m + 1) := by
  unfold Fits at *
  rw [List.map_append, h, List.append_assoc, List.replicate_succ']
  rfl
theorem Pz.cell {w : World} {base g n c : Nat} {qs : Lz} (h : Pz w base (.slice (some ⟨g, 0, none⟩) n c) qs) (hn : n = qs.length) {k : Nat} {x : Value × Nat × List Int} (hx : qs[k]? = some x) : w.cell? ⟨g, k, none⟩ = some x.1 := by
  subst hn
  obtain ⟨hk, e⟩ := List.getElem?_eq_some_iff.1 hx
  rw [World.ownsRow.cellAt h.outer k (by omega), List.getElem?_map, hx]
  rfl
/-- A machine's lists, as twin made them. -/
structure Tz (w : World) (base G c : Nat) (L : List (List Int)) : Prop where
  at' : ∃ qs, Pz w base (.slice (some ⟨G, 0, none⟩) (L.length + 64) c) qs ∧ Fits qs L 64
theorem Tz.later {w w' : World} {base G c : Nat} {L : List (List Int)} (h : Tz w base G c L) (hb : Below w.heap.size w w') : Tz w' base G c L := by
  obtain ⟨qs, h1, h2⟩ := h.at'
  exact ⟨qs, h1.later hb, h2⟩
theorem Tz.cap {w : World} {base G c : Nat} {L : List (List Int)} (h : Tz w base G c L) : L.length + 64 ≤ c ∧ base ≤ G ∧ G < w.heap.size := by
  obtain ⟨qs, h1, h2⟩ := h.at'
  have h3 := World.ownsRow.lt h1.outer G rfl
  have hl := h2.len
  obtain ⟨g', cap, e, _, _, h4⟩ := own_form h1.outer (by omega)
  simp only [Value.slice.injEq] at e
  obtain ⟨_, _, rfl⟩ := e
  exact ⟨by omega, h3⟩
theorem Tz.row {w : World} {base G c : Nat} {L : List (List Int)} (h : Tz w base G c L) {k : Nat} (hk : k < L.length) : ∃ g cg, w.cell? ⟨G, k, none⟩ = some (.slice (some ⟨g, 0, none⟩) L[k].length cg) ∧ L[k].length + 64 ≤ cg ∧ IA w (some ⟨g, 0, none⟩) L[k] ∧ (∀ j, j < 64 → w.cell? ⟨g, L[k].length + j, none⟩ = some (.int .i64 (-77))) ∧ base ≤ g ∧ g < w.heap.size ∧ ∀ j, w.frozen? ⟨g, j, none⟩ = false := by
  obtain ⟨qs, h1, h2⟩ := h.at'
  obtain ⟨x, hx, ex⟩ := h2.row hk
  obtain ⟨g, cg, e1, hl, ho⟩ := h1.row x (List.mem_of_getElem? hx)
  have hc := h1.cell h2.len.symm hx
  rw [e1] at hc
  rw [ex] at hc hl ho
  simp only [rowZ] at hc hl ho
  have hlen : (L[k] ++ m77).length = L[k].length + 64 := by rw [List.length_append]; simp [m77]
  have hca : L[k].length + 64 ≤ cg := by
    obtain ⟨g', cap, e, _, _, h4⟩ := own_form ho (by omega)
    simp only [Value.slice.injEq] at e
    obtain ⟨_, _, rfl⟩ := e
    omega
  have hcell : ∀ j (hj : j < (L[k] ++ m77).length), w.cell? ⟨g, j, none⟩ = some (.int .i64 (L[k] ++ m77)[j]) := fun j hj => by
    rw [World.ownsRow.cellAt ho j (by omega), List.getElem?_map, List.getElem?_eq_getElem hj]
    rfl
  have hgl := World.ownsRow.lt ho g rfl
  refine ⟨g, cg, hc, hca, ⟨fun j hj => ⟨g, 0, rfl, hgl.2, ?_⟩⟩, fun j hj => ?_, hgl.1, hgl.2, fun j => World.ownsRow.frozenAt ho j⟩
  · rw [Nat.zero_add, hcell j (by omega), List.getElem_append_left hj]
  · have e77 : ∀ (i : Nat) (h : i < m77.length), m77[i] = -77 := fun i h => by unfold m77; exact List.getElem_replicate _
    rw [hcell (L[k].length + j) (by omega), List.getElem_append_right (by omega), e77]
theorem Tz.mark {w : World} {base G c : Nat} {L : List (List Int)} (h : Tz w base G c L) {k : Nat} (hk : k < 64) : ∃ g cg, w.cell? ⟨G, L.length + k, none⟩ = some (.slice (some ⟨g, 0, none⟩) 1 cg) ∧ w.cell? ⟨g, 0, none⟩ = some (.int .i64 (-78)) := by
  obtain ⟨qs, h1, h2⟩ := h.at'
  obtain ⟨x, hx, ex⟩ := h2.mark hk
  obtain ⟨g, cg, e1, hl, ho⟩ := h1.row x (List.mem_of_getElem? hx)
  have hc := h1.cell h2.len.symm hx
  rw [e1] at hc
  rw [ex] at hc ho
  simp only at hc ho
  refine ⟨g, cg, hc, ?_⟩
  rw [World.ownsRow.cellAt ho 0 (by simp)]
  rfl
theorem Tz.rwa {w : World} {base G c : Nat} {L : List (List Int)} (h : Tz w base G c L) : RwA w (some ⟨G, 0, none⟩) L := ⟨fun k hk => by
  obtain ⟨g, cg, h1, _, h2, _⟩ := h.row hk
  exact ⟨G, 0, rfl, h.cap.2.2, some ⟨g, 0, none⟩, cg, by rw [Nat.zero_add]; exact h1, h2⟩⟩
end Go.Proofs.YtjmmckkiicefhaaDoor
namespace Go.Proofs.YtjmmckkiicefhaaDoor
open Go.RowKit Go.Shelf
def mkZ (i : Nat) : Int := -100 - (i : Int)
section
variable (base G : Nat) (a : Nat → Option Addr) (n c : Nat → Nat)
def vZ (j : Nat) : Value := .slice (a j) (n j) (c j)
/-- What stays. -/
structure Stc : Prop where
  apart : ∀ j j', j < 2 → j' < 2 → j ≠ j' → ∀ g, (vZ a n c j).ownBlock = some g → (vZ a n c j').ownBlock ≠ some g
  nb : ∀ j, j < 2 → n j ≤ 5000000
  plain : ∀ j, j < 2 → a j = none ∨ ∃ g, a j = some ⟨g, 0, none⟩
  zero : ∀ j, j < 2 → ∀ b off, a j = some ⟨b, off, none⟩ → off = 0 ∧ b ≠ G ∧ base ≤ b
/-- While they are written over. -/
structure Sp1 (w0 W : World) (i k : Nat) : Prop where
  out : W.heap[G]? = some (.cells #[vZ a n c 0, vZ a n c 1] 25 (0, 0))
  own : ∀ j, j < 2 → ∃ L : List Int, L.length = n j ∧ OwnI W base (vZ a n c j) L ∧ (j < i → ∀ z ∈ L, z = mkZ j) ∧ (j = i → ∀ m (h : m < L.length), m < k → L[m] = mkZ j)
  bel : Below base w0 W
/-- A list that reads. -/
structure Rdz (W : World) (x : Option Addr) (L : List Int) (vm : Value) : Prop where
  ia : IA W x L
  at' : ∀ b off, x = some ⟨b, off, none⟩ → off = 0 ∧ b < W.heap.size ∧ vm.ownBlock ≠ some b
/-- So many are grown. -/
structure Sp2 (w0 W : World) (i : Nat) (vm : Value) (M : List Value) : Prop where
  out : W.heap[G]? = some (.cells #[vZ a n c 0, vZ a n c 1] 25 (0, 0))
  read : ∀ j, j < 2 → Rdz W (a j) (List.replicate (n j) (mkZ j)) vm
  own : ∀ j, i ≤ j → j < 2 → OwnI W base (vZ a n c j) (List.replicate (n j) (mkZ j))
  mo : W.ownsRow base 25 1 vm M.length M
  len : M.length = i
  mor : ∀ j, j < i → ∃ am cm, M[j]? = some (.slice am (n j + 64) cm) ∧ Rdz W am (List.replicate (n j + 64) (mkZ j)) vm ∧ ∀ b off, am = some ⟨b, off, none⟩ → ∀ j', i ≤ j' → j' < 2 → (vZ a n c j').ownBlock ≠ some b
  vmG : vm.ownBlock ≠ some G
  bel : Below base w0 W
  big : base ≤ W.heap.size
/-- One while it grows. -/
structure Sp3 (w0 W : World) (i k : Nat) (lv vm : Value) (M : List Value) : Prop where
  out : W.heap[G]? = some (.cells #[vZ a n c 0, vZ a n c 1] 25 (0, 0))
  read : ∀ j, j < 2 → Rdz W (a j) (List.replicate (n j) (mkZ j)) vm
  own : ∀ j, i + 1 ≤ j → j < 2 → OwnI W base (vZ a n c j) (List.replicate (n j) (mkZ j))
  lo : OwnI W base lv (List.replicate (n i + k) (mkZ i))
  lva : ∀ j, j ≠ i → j < 2 → ∀ g, lv.ownBlock = some g → (vZ a n c j).ownBlock ≠ some g
  mo : W.ownsRow base 25 1 vm M.length M
  len : M.length = i
  mor : ∀ j, j < i → ∃ am cm, M[j]? = some (.slice am (n j + 64) cm) ∧ Rdz W am (List.replicate (n j + 64) (mkZ j)) vm ∧ ∀ b off, am = some ⟨b, off, none⟩ → lv.ownBlock ≠ some b ∧ ∀ j', i + 1 ≤ j' → j' < 2 → (vZ a n c j').ownBlock ≠ some b
  vmG : vm.ownBlock ≠ some G
  bel : Below base w0 W
  big : base ≤ W.heap.size
end
section
variable {base G : Nat} {a : Nat → Option Addr} {n c : Nat → Nat} {w0 W : World} {i k : Nat}
theorem out_cell {v0 v1 : Value} (h : W.heap[G]? = some (.cells #[v0, v1] 25 (0, 0))) : W.cell? ⟨G, 0, none⟩ = some v0 ∧ W.cell? ⟨G, 1, none⟩ = some v1 :=
  ⟨by rw [cell_of_row _ _ _ _ _ _ h]; rfl, by rw [cell_of_row _ _ _ _ _ _ h]; rfl⟩
theorem outZ (h : W.heap[G]? = some (.cells #[vZ a n c 0, vZ a n c 1] 25 (0, 0))) {j : Nat} (hj : j < 2) : W.cell? ⟨G, j, none⟩ = some (.slice (a j) (n j) (c j)) := by
  obtain ⟨h0, h1⟩ := out_cell h
  rcases (show j = 0 ∨ j = 1 by omega) with rfl | rfl
  · exact h0
  · exact h1
theorem Sp1.put (h : Sp1 base G a n c w0 W i k) (hs : Stc base G a n c) (hi : i < 2) (hk : k < n i) : ∃ g, a i = some ⟨g, 0, none⟩ ∧ (∃ z, W.cell? ⟨g, k, none⟩ = some (.int .i64 z)) ∧ W.frozen? ⟨g, k, none⟩ = false ∧ Sp1 base G a n c w0 (W.setCell ⟨g, k, none⟩ (.int .i64 (mkZ i))) i (k + 1) := by
  obtain ⟨L, hl, ho, _, hp⟩ := h.own i hi
  obtain ⟨g, cap, e, hg, hg2, _⟩ := own_form ho (by omega)
  simp only [vZ, Value.slice.injEq] at e
  have ea := e.1
  have hvo : (vZ a n c i).ownBlock = some g := by unfold vZ; rw [ea]; rfl
  have hgG : g ≠ G := (hs.zero i hi g 0 ea).2.1
  have ho2 : W.ownsRow base 3 1 (.slice (some ⟨g, 0, none⟩) (n i) (c i)) (n i) (L.map (Value.int .i64)) := by
    have h1 := ho
    unfold OwnI vZ at h1
    rw [ea, hl] at h1
    exact h1
  refine ⟨g, ea, ⟨_, by rw [World.ownsRow.cellAt ho2 k (by omega), List.getElem?_map, List.getElem?_eq_getElem (by omega)]; rfl⟩, World.ownsRow.frozenAt ho2 k, ?_, ?_, h.bel.setCell (p := ⟨g, k, none⟩) hg _⟩
  · exact (Below.heap_setCell _ _ _ _ (fun q => hgG q.symm)).trans h.out
  · intro j hj
    by_cases hji : j = i
    · subst hji
      refine ⟨L.set k (mkZ j), by simpa using hl, ?_, fun q => absurd q (Nat.lt_irrefl _), fun _ m hm hmk => ?_⟩
      · have h1 := (World.ownsRow.stored ho2 k (.int .i64 (mkZ j))).1
        unfold OwnI vZ
        rw [ea, List.length_set, hl, List.map_set]
        exact h1
      · rw [List.getElem_set]
        split
        · rfl
        · exact hp rfl m (by simpa using hm) (by omega)
    · obtain ⟨L', hl', ho', h1, h2⟩ := h.own j hj
      exact ⟨L', hl', own_blk ho' (fun q hq => Below.heap_setCell _ _ _ _ (fun e => hs.apart j i hj hi hji q hq (by rw [hvo]; exact congrArg some e.symm))), h1, fun e => absurd e hji⟩
theorem Sp1.next (h : Sp1 base G a n c w0 W i k) (hk : i < 2 → n i ≤ k) : Sp1 base G a n c w0 W (i + 1) 0 := by
  refine ⟨h.out, fun j hj => ?_, h.bel⟩
  obtain ⟨L, hl, ho, h1, h2⟩ := h.own j hj
  refine ⟨L, hl, ho, fun hji z hz => ?_, fun _ m _ hm => absurd hm (Nat.not_lt_zero _)⟩
  by_cases e : j = i
  · obtain ⟨m, hm, rfl⟩ := List.getElem_of_mem hz
    exact h2 e m hm (by have := hk (by omega); subst e; omega)
  · exact h1 (by omega) z hz
theorem Sp1.two (h : Sp1 base G a n c w0 W 2 k) (hs : Stc base G a n c) (hb : base ≤ W.heap.size) : Sp2 base G a n c w0 W 0 (.slice none 0 0) [] := by
  have key : ∀ j, j < 2 → OwnI W base (vZ a n c j) (List.replicate (n j) (mkZ j)) := fun j hj => by
    obtain ⟨L, hl, ho, h1, _⟩ := h.own j hj
    have e : L = List.replicate (n j) (mkZ j) := List.eq_replicate_iff.2 ⟨hl, h1 hj⟩
    rw [← e]
    exact ho
  refine ⟨h.out, fun j hj => ⟨?_, fun b off e => ?_⟩, fun j _ hj => key j hj, World.ownsRow_nil _ _ _ _, rfl, fun j hj => absurd hj (Nat.not_lt_zero _), fun q => (by cases q), h.bel, hb⟩
  · obtain ⟨x, cx, e, hi⟩ := (key j hj).ia
    simp only [vZ, Value.slice.injEq] at e
    rw [e.1]
    exact hi
  · have h1 := hs.zero j hj b off e
    have h2 : (vZ a n c j).ownBlock = some b := by unfold vZ; rw [e]; rfl
    exact ⟨h1.1, (World.ownsRow.lt (key j hj) b h2).2, fun q => (by cases q)⟩
theorem Sp2.start {vm : Value} {M : List Value} (h : Sp2 base G a n c w0 W i vm M) (hs : Stc base G a n c) (hi : i < 2) : Sp3 base G a n c w0 W i 0 (vZ a n c i) vm M :=
  ⟨h.out, h.read, fun j hj => h.own j (by omega), h.own i (Nat.le_refl _) hi, fun j hj h2 g hg => hs.apart i j hi h2 (fun e => hj e.symm) g hg, h.mo, h.len, fun j hj => by
    obtain ⟨am, cm, h1, h2, h3⟩ := h.mor j hj
    exact ⟨am, cm, h1, h2, fun b off e => ⟨h3 b off e i (Nat.le_refl _) hi, fun j' hj' => h3 b off e j' (by omega)⟩⟩, h.vmG, h.bel, h.big⟩
theorem Rdz.grown {w1 : World} {x : Option Addr} {L : List Int} {vm lv : Value} {o : Obj} {nn : Nat} (h : Rdz W x L vm) (hg : (W.alloc o).grownBy w1 lv.ownBlock) (hfr : ∀ g j u, lv.ownBlock = some g → j < nn → (W.alloc o).cell? ⟨g, j, none⟩ = some u → w1.cell? ⟨g, j, none⟩ = some u) (hz : ∀ b off, x = some ⟨b, off, none⟩ → lv.ownBlock = some b → L.length ≤ nn) : Rdz w1 x L vm := by
  have hs : (W.alloc o).heap.size = W.heap.size + 1 := by simp
  have hs1 := hg.size
  refine ⟨⟨fun k hk => ?_⟩, fun b off e => ?_⟩
  · obtain ⟨b, off, e, h1, h2⟩ := h.ia.at' k hk
    refine ⟨b, off, e, by omega, ?_⟩
    have h3 : (W.alloc o).cell? ⟨b, off + k, none⟩ = some (.int .i64 L[k]) := cell_alloc h2 o
    by_cases hb : lv.ownBlock = some b
    · have h4 := hz b off e hb
      have h5 := (h.at' b off e).1
      subst h5
      rw [Nat.zero_add] at h3 ⊢
      exact hfr b k _ hb (by omega) h3
    · exact hg.cell h3 (fun q => hb q.symm)
  · obtain ⟨h1, h2, h3⟩ := h.at' b off e
    exact ⟨h1, by omega, h3⟩
/-- One mark more. -/
theorem Sp3.step {w1 : World} {lv lv' vm : Value} {M : List Value} {o : Obj} (h : Sp3 base G a n c w0 W i k lv vm M) (hi : i < 2) (hs : Stc base G a n c)
    (hown' : w1.ownsRow base 3 1 lv' (n i + k + 1) ((List.replicate (n i + k) (mkZ i)).map (Value.int .i64) ++ [.int .i64 (mkZ i)])) (hgrow : (W.alloc o).grownBy w1 lv.ownBlock) (hat : lv'.ownBlock = lv.ownBlock ∨ lv'.ownBlock = some (W.alloc o).heap.size)
    (hfr : ∀ g j u, lv.ownBlock = some g → j < (n i + k) * 1 → (W.alloc o).cell? ⟨g, j, none⟩ = some u → w1.cell? ⟨g, j, none⟩ = some u) : Sp3 base G a n c w0 w1 i (k + 1) lv' vm M := by
  have hsz : (W.alloc o).heap.size = W.heap.size + 1 := by simp
  have hs1 := hgrow.size
  have hbig := h.big
  have hGs : G < W.heap.size := (Array.getElem?_eq_some_iff.1 h.out).1
  have hlvG : lv.ownBlock ≠ some G := fun q => by
    obtain ⟨cs, e⟩ := own_typ h.lo q
    rw [h.out] at e
    cases e
  have new : ∀ b, b < W.heap.size → lv.ownBlock ≠ some b → lv'.ownBlock ≠ some b := fun b hb hne q => by
    rcases hat with e | e
    · exact hne (by rw [← e]; exact q)
    · rw [e, hsz] at q
      have := Option.some.inj q
      omega
  have keep : ∀ {t : TypeId} {s m : Nat} {u : Value} {xs : List Value}, W.ownsRow base t s u m xs → (∀ g, lv.ownBlock = some g → u.ownBlock ≠ some g) → w1.ownsRow base t s u m xs := fun {t s m u xs} hu hne => by
    refine World.ownsRow.kept (World.ownsRow.alloc hu o) hgrow ?_
    cases e : u.ownBlock with
    | none => exact .inl rfl
    | some g => exact .inr fun hc => hne g hc.symm e
  refine ⟨?_, ?_, ?_, ?_, ?_, ?_, h.len, ?_, h.vmG, ?_, by omega⟩
  · exact ((hgrow.block G (by omega) (fun q => hlvG q.symm)).trans (Below.heap_alloc W _ _ hGs)).trans h.out
  · intro j hj
    refine (h.read j hj).grown hgrow (nn := n i + k) (fun g q u h1 h2 h3 => hfr g q u h1 (by omega) h3) (fun b off e hb => ?_)
    by_cases hji : j = i
    · subst hji; rw [List.length_replicate]; omega
    · exact absurd (show (vZ a n c j).ownBlock = some b by unfold vZ; rw [e]; rfl) (h.lva j hji hj b hb)
  · intro j hj hj2
    exact keep (h.own j hj hj2) (fun g hg => h.lva j (by omega) hj2 g hg)
  · unfold OwnI
    rw [show n i + (k + 1) = n i + k + 1 by omega, List.replicate_succ', List.length_append, List.length_replicate, List.length_singleton, List.map_append]
    exact hown'
  · intro j hji hj g hg hvg
    have hlt : g < W.heap.size := by
      rcases hs.plain j hj with e | ⟨b, e⟩
      · unfold vZ at hvg; rw [e] at hvg; cases hvg
      · unfold vZ at hvg
        rw [e] at hvg
        obtain rfl : b = g := by simpa [Value.ownBlock] using hvg
        exact ((h.read j hj).at' b 0 e).2.1
    exact new g hlt (fun q => h.lva j hji hj g q hvg) hg
  · exact keep h.mo (fun g hg hvg => own_unlike h.lo h.mo (by decide) g hg hvg)
  · intro j hj
    obtain ⟨am, cm, h1, h2, h3⟩ := h.mor j hj
    refine ⟨am, cm, h1, h2.grown hgrow (nn := n i + k) (fun g q u h1 h2 h3 => hfr g q u h1 (by omega) h3) (fun b off e hb => absurd hb (h3 b off e).1), fun b off e => ⟨new b (h2.at' b off e).2.1 (h3 b off e).1, (h3 b off e).2⟩⟩
  · exact (h.bel.alloc (by omega) o).grown hgrow (by omega) (fun q hq => (World.ownsRow.lt h.lo q hq).1)
/-- It is put behind the others. -/
theorem Sp3.done {w1 : World} {vm vm' : Value} {M : List Value} {o : Obj} {x : Option Addr} {cx : Nat} (h : Sp3 base G a n c w0 W i 64 (.slice x (n i + 64) cx) vm M) (hi : i < 2)
    (hown' : w1.ownsRow base 25 1 vm' (i + 1) (M ++ [.slice x (n i + 64) cx])) (hgrow : (W.alloc o).grownBy w1 vm.ownBlock) (hat : vm'.ownBlock = vm.ownBlock ∨ vm'.ownBlock = some (W.alloc o).heap.size) : Sp2 base G a n c w0 w1 (i + 1) vm' (M ++ [.slice x (n i + 64) cx]) := by
  have hsz : (W.alloc o).heap.size = W.heap.size + 1 := by simp
  have hs1 := hgrow.size
  have hbig := h.big
  have hGs : G < W.heap.size := (Array.getElem?_eq_some_iff.1 h.out).1
  have new : ∀ b, b < W.heap.size → vm.ownBlock ≠ some b → vm'.ownBlock ≠ some b := fun b hb hne q => by
    rcases hat with e | e
    · exact hne (by rw [← e]; exact q)
    · rw [e, hsz] at q
      have := Option.some.inj q
      omega
  have keep : ∀ {u : Value} {m : Nat} {xs : List Value}, W.ownsRow base 3 1 u m xs → w1.ownsRow base 3 1 u m xs := fun {u m xs} hu => by
    refine World.ownsRow.kept (World.ownsRow.alloc hu o) hgrow ?_
    cases e : u.ownBlock with
    | none => exact .inl rfl
    | some g => exact .inr fun hc => own_unlike h.mo hu (by decide) g hc.symm e
  have rd : ∀ {y : Option Addr} {L : List Int}, Rdz W y L vm → Rdz w1 y L vm' := fun {y L} hr => by
    have h1 := hr.grown (nn := 0) hgrow (fun g j u _ hj => absurd hj (Nat.not_lt_zero _)) (fun b off e hb => absurd hb (hr.at' b off e).2.2)
    exact ⟨h1.ia, fun b off e => ⟨(h1.at' b off e).1, (h1.at' b off e).2.1, new b (hr.at' b off e).2.1 (hr.at' b off e).2.2⟩⟩
  refine ⟨?_, fun j hj => rd (h.read j hj), fun j hj hj2 => keep (h.own j hj hj2), by rw [List.length_append, List.length_singleton, h.len]; exact hown', by rw [List.length_append, List.length_singleton, h.len], fun j hj => ?_, new G hGs h.vmG, ?_, by omega⟩
  · exact ((hgrow.block G (by omega) (fun q => h.vmG q.symm)).trans (Below.heap_alloc W _ _ hGs)).trans h.out
  · by_cases hji : j = i
    · subst hji
      obtain ⟨y, cy, e, hia⟩ := h.lo.ia
      rw [List.length_replicate] at e
      cases e
      refine ⟨x, cx, ?_, rd ⟨hia, fun b off e => ?_⟩, fun b off e j' h1 h2 => ?_⟩
      · rw [List.getElem?_append_right (by rw [h.len]; exact Nat.le_refl _), h.len, Nat.sub_self]; rfl
      · obtain ⟨g, cap, e2, _, h4, _⟩ := own_form h.lo (by rw [List.length_replicate]; omega)
        simp only [Value.slice.injEq] at e2
        rw [e] at e2
        simp only [Option.some.injEq, Addr.mk.injEq, and_true] at e2
        obtain ⟨⟨rfl, rfl⟩, _⟩ := e2
        exact ⟨rfl, h4, fun q => own_unlike h.mo h.lo (by decide) b q (by rw [e]; rfl)⟩
      · exact h.lva j' (by omega) h2 b (by rw [e]; rfl)
    · obtain ⟨am, cm, h1, h2, h3⟩ := h.mor j (by omega)
      exact ⟨am, cm, by rw [List.getElem?_append_left (by rw [h.len]; omega)]; exact h1, rd h2, fun b off e j' hj' => (h3 b off e).2 j' (by omega)⟩
  · exact (h.bel.alloc (by omega) o).grown hgrow (by omega) (fun q hq => (World.ownsRow.lt h.mo q hq).1)
end
end Go.Proofs.YtjmmckkiicefhaaDoor
