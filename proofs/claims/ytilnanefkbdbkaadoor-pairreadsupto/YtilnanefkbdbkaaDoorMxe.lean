/-
  PrWW, Door, SentP, PrdP.
-/
import Derived.Test.YtilnanefkbdbkaaDoorMxd
import Derived.Test.YtilnanefkbdbkaaDoorCards
import Derived.Test.YtilnanefkbdbkaaDoorTie
import Derived.WalkKit
import Derived.ProofKit
import Derived.OpenShut
import Derived.Deep.DeepHandedRow
import Derived.Lib.LaidTab
import Derived.Lib.SmallJoins
import Derived.Test.YtilnanefkbdbkaaDoorMxa
import Derived.Stop.LaidErr
import Derived.Deep.Matrix
import Derived.Deep.Grids
import Derived.Lib.LaidU8
import Derived.Shelf.Vars
import Derived.Lay
import Derived.LaidMore
import Derived.ChangeSlices
import Derived.Deep.Slices
namespace Go.Proofs.YtilnanefkbdbkaaDoor
open Go.RowKit Go.Shelf
theorem row10 {W : World} {X : Nat} {t : TypeId} {a0 a1 a2 a3 a4 a5 a6 a7 a8 a9 : Value} (h : W.heap[X]? = some (.cells #[a0, a1, a2, a3, a4, a5, a6, a7, a8, a9] t (0, 0))) : W.cell? ⟨X, 0, none⟩ = some a0 ∧ W.cell? ⟨X, 1, none⟩ = some a1 ∧ W.cell? ⟨X, 2, none⟩ = some a2 ∧ W.cell? ⟨X, 3, none⟩ = some a3 ∧ W.cell? ⟨X, 4, none⟩ = some a4 ∧ W.cell? ⟨X, 5, none⟩ = some a5 ∧ W.cell? ⟨X, 6, none⟩ = some a6 ∧ W.cell? ⟨X, 7, none⟩ = some a7 ∧ W.cell? ⟨X, 8, none⟩ = some a8 ∧ W.cell? ⟨X, 9, none⟩ = some a9 := by
  refine ⟨?_, ?_, ?_, ?_, ?_, ?_, ?_, ?_, ?_, ?_⟩ <;> (rw [cell_of_row _ _ _ _ _ _ h]; rfl)
theorem row8q {W : World} {X : Nat} {t : TypeId} {a0 a1 a2 a3 a4 a5 a6 a7 : Value} (h : W.heap[X]? = some (.cells #[a0, a1, a2, a3, a4, a5, a6, a7] t (0, 0))) : W.cell? ⟨X, 0, none⟩ = some a0 ∧ W.cell? ⟨X, 1, none⟩ = some a1 ∧ W.cell? ⟨X, 2, none⟩ = some a2 ∧ W.cell? ⟨X, 3, none⟩ = some a3 ∧ W.cell? ⟨X, 4, none⟩ = some a4 ∧ W.cell? ⟨X, 5, none⟩ = some a5 ∧ W.cell? ⟨X, 6, none⟩ = some a6 ∧ W.cell? ⟨X, 7, none⟩ = some a7 := by
  refine ⟨?_, ?_, ?_, ?_, ?_, ?_, ?_, ?_⟩ <;> (rw [cell_of_row _ _ _ _ _ _ h]; rfl)
theorem bel_set {B : Nat} {w V : World} (h : Below B w V) {Q : Nat} (hq : B ≤ Q) (k : Nat) (v : Value) : Below B w (V.setCell ⟨Q, k, none⟩ v) := h.setCell (p := ⟨Q, k, none⟩) hq v
set_option maxRecDepth 10000 in
set_option maxHeartbeats 1600000 in
theorem pairReads_any (A : Nat → Addr) (sl sr : Int) (N O M P : List (List Int)) (B : List Bool) (el : Bool) (aN aO aM aP aB : Option Addr) (cN cO cM cP cB : Nat) (sy : Int) (l : List Int) (aw : Option Addr) (cw : Nat) (w : World) (hs : PrS ⟨sl, N, O, sr, M, P, B, el⟩) (ha : PrA w ⟨sl, N, O, sr, M, P, B, el⟩ ⟨aN, aO, aM, aP, aB, cN, cO, cM, cP, cB⟩) (ho : O.length ≤ 1000000000) (hp : P.length ≤ 1000000000) (hnB : aB = none → cB = 0) (hl : l.length ≤ 999999000) (hw : IA w aw l) (he : Sents w A) :
    Calls Tryd.prog 3 #[.agg #[.int .i64 sl, .slice aN N.length cN, .slice aO O.length cO, .int .i64 sr, .slice aM M.length cM, .slice aP P.length cP, .slice aB B.length cB, .bool el, .int .i64 sy, .slice aw l.length cw]] w fun e w' => e = .returned (.bool true) ∧ Below w.heap.size w w' := by
  obtain ⟨w0, hw0, hb0, h0⟩ : ∃ w0, w.alloc (.cells #[.int .i64 sl, .slice aN N.length cN, .slice aO O.length cO, .int .i64 sr, .slice aM M.length cM, .slice aP P.length cP, .slice aB B.length cB, .bool el, .int .i64 sy, .slice aw l.length cw] 30) = w0 ∧ Below w.heap.size w w0 ∧ w0.heap[w.heap.size]? = some (.cells #[.int .i64 sl, .slice aN N.length cN, .slice aO O.length cO, .int .i64 sr, .slice aM M.length cM, .slice aP P.length cP, .slice aB B.length cB, .bool el, .int .i64 sy, .slice aw l.length cw] 30 (0, 0)) := ⟨_, rfl, (Below.refl _ _).alloc (Nat.le_refl _) _, heap_alloc_new _ _⟩
  have hz0 : w0.heap.size = w.heap.size + 1 := by rw [← hw0]; simp
  have HX0 : Hid (∀ V : World, Below w0.heap.size w0 V → V.heap[w.heap.size]? = some (.cells #[.int .i64 sl, .slice aN N.length cN, .slice aO O.length cO, .int .i64 sr, .slice aM M.length cM, .slice aP P.length cP, .slice aB B.length cB, .bool el, .int .i64 sy, .slice aw l.length cw] 30 (0, 0))) := hid0 (fun V hV => (hV.block _ (by omega)).trans h0)
  have HIn : Hid (∀ V : World, Below w0.heap.size w0 V → PrA V ⟨sl, N, O, sr, M, P, B, el⟩ ⟨aN, aO, aM, aP, aB, cN, cO, cM, cP, cB⟩ ∧ IA V aw l ∧ Sents V A) := hid0 (fun V hV => by
    have h := hb0.trans (hV.mono (by omega))
    exact ⟨ha.past h, hw.past h, he.below h⟩)
  have HLi := hid0 (list_any l aw cw w0 (by omega) (HIn.out w0 (Below.refl _ _)).2.1)
  have HPg : Hid (∀ V : World, Below w0.heap.size w0 V → Calls Tryd.prog 5 #[.agg #[.int .i64 sl, .slice aN N.length cN, .slice aO O.length cO, .int .i64 sr, .slice aM M.length cM, .slice aP P.length cP, .slice aB B.length cB, .bool el]] V fun e w' => PgR V sl sr N O M P B el e w') := hid0 (fun V hV => pairing_any sl sr N O M P B el aN aO aM aP aB cN cO cM cP cB V hs (HIn.out V hV).1 ho hp hnB)
  have HS := hid0 hs
  have HOP : Hid (O.length ≤ 1000000000 ∧ P.length ≤ 1000000000) := hid0 ⟨ho, hp⟩
  obtain ⟨x0, x1, x2, x3, x4, x5, x6, x7, x8, x9⟩ := row10 (HX0.out w0 (Below.refl _ _))
  have HXl : Hid (w.heap.size < w0.heap.size) := hid0 (by omega)
  have HBz : Hid (Below w.heap.size w w0) := hid0 hb0
  have HLw : Hid (Low A w0.heap.size) := hid0 (HIn.out w0 (Below.refl _ _)).2.2.low
  clear ha hw he hs hb0 h0 hz0 hnB
  go_enter Tryd.func3, Tryd.ntmps3
  go_upto_region 2 with (go_at_call 4; go_loud ((
    refine HLi.out.mono ?_
    rintro e w1 ⟨g, c, rfl, hk, hb⟩
    have HL1 := hid0 hk
    have HB1 := hid0 hb
    clear hk hb HLi x0 x1 x2 x3 x4 x5 x6 x7 x8 x9)))
  obtain ⟨x0, x1, x2, x3, x4, x5, x6, x7, x8, x9⟩ := row10 (HX0.out w1 HB1.out)
  have HPw := hid0 (HPg.out w1 HB1.out)
  go_upto_region 3 with (go_at_call 5; go_loud ((
    refine HPw.out.mono ?_
    rintro e W2 ⟨G1, G2, G3, G4, g7, d1, d2, d3, d4, c7, rfl, hk, hb⟩
    have HK2 := hid0 hk
    have HB2 : Hid (Below w0.heap.size w0 W2) := hid0 (HB1.out.trans (hb.mono HB1.out.size))
    have HB12 : Hid (Below w1.heap.size w1 W2) := hid0 hb
    obtain ⟨W3, hW3, hb3, h3⟩ : ∃ W3, W2.alloc (.cells #[.int .i64 0, .slice none 0 0, .slice none 0 0, .int .i64 0, .slice none 0 0, .slice none 0 0, .slice none 0 0, .bool false] 27) = W3 ∧ Below W2.heap.size W2 W3 ∧ W3.heap[W2.heap.size]? = some (.cells #[.int .i64 0, .slice none 0 0, .slice none 0 0, .int .i64 0, .slice none 0 0, .slice none 0 0, .slice none 0 0, .bool false] 27 (0, 0)) := ⟨_, rfl, (Below.refl _ _).alloc (Nat.le_refl _) _, heap_alloc_new _ _⟩
    have HB3 := hid0 hb3
    have HR3 := hid0 h3
    obtain ⟨k0, k1, k2, k3, k4, k5, k6, k7⟩ := row8q h3
    have f0 := frz h3 0
    have f1 := frz h3 1
    have f2 := frz h3 2
    have f3 := frz h3 3
    have f4 := frz h3 4
    have f5 := frz h3 5
    have f6 := frz h3 6
    have f7 := frz h3 7
    clear hk hb hb3 h3 HPw x0 x1 x2 x3 x4 x5 x6 x7 x8 x9)))
  have HR4 : Hid (((((((((W3.setCell ⟨W2.heap.size, 0, none⟩ (.int .i64 sl)).setCell ⟨W2.heap.size, 1, none⟩ (.slice (some ⟨G1, 0, none⟩) N.length d1)).setCell ⟨W2.heap.size, 2, none⟩ (.slice (some ⟨G2, 0, none⟩) O.length d2)).setCell ⟨W2.heap.size, 3, none⟩ (.int .i64 sr)).setCell ⟨W2.heap.size, 4, none⟩ (.slice (some ⟨G3, 0, none⟩) M.length d3)).setCell ⟨W2.heap.size, 5, none⟩ (.slice (some ⟨G4, 0, none⟩) P.length d4)).setCell ⟨W2.heap.size, 6, none⟩ (.slice (some ⟨g7, 0, none⟩) B.length c7)).setCell ⟨W2.heap.size, 7, none⟩ (.bool el)).heap[W2.heap.size]? = some (.cells #[.int .i64 sl, .slice (some ⟨G1, 0, none⟩) N.length d1, .slice (some ⟨G2, 0, none⟩) O.length d2, .int .i64 sr, .slice (some ⟨G3, 0, none⟩) M.length d3, .slice (some ⟨G4, 0, none⟩) P.length d4, .slice (some ⟨g7, 0, none⟩) B.length c7, .bool el] 27 (0, 0))) := hid0 (heap_setCell_same _ _ 7 _ _ _ (heap_setCell_same _ _ 6 _ _ _ (heap_setCell_same _ _ 5 _ _ _ (heap_setCell_same _ _ 4 _ _ _ (heap_setCell_same _ _ 3 _ _ _ (heap_setCell_same _ _ 2 _ _ _ (heap_setCell_same _ _ 1 _ _ _ (heap_setCell_same _ _ 0 _ _ _ HR3.out))))))))
  have HB4 : Hid (Below W2.heap.size W2 ((((((((W3.setCell ⟨W2.heap.size, 0, none⟩ (.int .i64 sl)).setCell ⟨W2.heap.size, 1, none⟩ (.slice (some ⟨G1, 0, none⟩) N.length d1)).setCell ⟨W2.heap.size, 2, none⟩ (.slice (some ⟨G2, 0, none⟩) O.length d2)).setCell ⟨W2.heap.size, 3, none⟩ (.int .i64 sr)).setCell ⟨W2.heap.size, 4, none⟩ (.slice (some ⟨G3, 0, none⟩) M.length d3)).setCell ⟨W2.heap.size, 5, none⟩ (.slice (some ⟨G4, 0, none⟩) P.length d4)).setCell ⟨W2.heap.size, 6, none⟩ (.slice (some ⟨g7, 0, none⟩) B.length c7)).setCell ⟨W2.heap.size, 7, none⟩ (.bool el))) := hid0 (bel_set (bel_set (bel_set (bel_set (bel_set (bel_set (bel_set (bel_set HB3.out (Nat.le_refl _) _ _) (Nat.le_refl _) _ _) (Nat.le_refl _) _ _) (Nat.le_refl _) _ _) (Nat.le_refl _) _ _) (Nat.le_refl _) _ _) (Nat.le_refl _) _ _) (Nat.le_refl _) _ _)
  clear HR3 HB3 k0 k1 k2 k3 k4 k5 k6 k7 f0 f1 f2 f3 f4 f5 f6 f7 hW3
  generalize ((((((((W3.setCell ⟨W2.heap.size, 0, none⟩ (.int .i64 sl)).setCell ⟨W2.heap.size, 1, none⟩ (.slice (some ⟨G1, 0, none⟩) N.length d1)).setCell ⟨W2.heap.size, 2, none⟩ (.slice (some ⟨G2, 0, none⟩) O.length d2)).setCell ⟨W2.heap.size, 3, none⟩ (.int .i64 sr)).setCell ⟨W2.heap.size, 4, none⟩ (.slice (some ⟨G3, 0, none⟩) M.length d3)).setCell ⟨W2.heap.size, 5, none⟩ (.slice (some ⟨G4, 0, none⟩) P.length d4)).setCell ⟨W2.heap.size, 6, none⟩ (.slice (some ⟨g7, 0, none⟩) B.length c7)).setCell ⟨W2.heap.size, 7, none⟩ (.bool el)) = V3 at *
  have HBv : Hid (Below w0.heap.size w0 V3) := hid0 (HB2.out.trans (HB4.out.mono HB2.out.size))
  have HKv : Hid (PgK V3 w1.heap.size G1 G2 G3 G4 g7 d1 d2 d3 d4 c7 N O M P B) := hid0 (HK2.out.past HB4.out)
  have HLv : Hid (LW V3 w0.heap.size g c l) := hid0 ((HL1.out.past HB12.out).past HB4.out)
  have HSz : Hid (W2.heap.size < V3.heap.size) := hid0 (by
    have h := HR4.out
    rcases Nat.lt_or_ge W2.heap.size V3.heap.size with h2 | h2
    · exact h2
    · rw [Array.getElem?_eq_none h2] at h; cases h)
  have HHi : Hid (w1.heap.size ≤ W2.heap.size ∧ w0.heap.size ≤ w1.heap.size) := hid0 ⟨HB12.out.size, HB1.out.size⟩
  have HOv : Hid (∀ V : World, Below V3.heap.size V3 V → OvX V (fun b => w0.heap.size ≤ b ∧ b < W2.heap.size) ⟨some ⟨G1, 0, none⟩, some ⟨G2, 0, none⟩, some ⟨G3, 0, none⟩, some ⟨G4, 0, none⟩, some ⟨g7, 0, none⟩, d1, d2, d3, d4, c7⟩ N.length O.length M.length P.length B.length (some ⟨g, 0, none⟩) l.length) := hid0 (fun V hV => ovx_of HK2.out (HL1.out.past HB12.out) HS.out HB1.out.size (Nat.le_refl _) (HB4.out.trans (hV.mono HB4.out.size)))
  have HGs : Hid (G1 ≠ W2.heap.size ∧ G2 ≠ W2.heap.size ∧ G3 ≠ W2.heap.size ∧ G4 ≠ W2.heap.size) := hid0 ⟨Nat.ne_of_lt HK2.out.n.blk.2, Nat.ne_of_lt HK2.out.o.blk.2, Nat.ne_of_lt HK2.out.m.blk.2, Nat.ne_of_lt HK2.out.p'.blk.2⟩
  have HCp : Hid (N.length ≤ d1 ∧ O.length ≤ d2) := hid0 (by
    obtain ⟨_, _, _, _, h1, _⟩ := HK2.out.n
    obtain ⟨_, _, _, _, h2, _⟩ := HK2.out.o
    omega)
  generalize W2.heap.size = Pb at *
  have HCl : Hid (∀ V : World, Below V3.heap.size V3 V → (V.cell? ⟨w.heap.size, 0, none⟩ = some (.int .i64 sl) ∧ V.cell? ⟨w.heap.size, 1, none⟩ = some (.slice aN N.length cN) ∧ V.cell? ⟨w.heap.size, 2, none⟩ = some (.slice aO O.length cO) ∧ V.cell? ⟨w.heap.size, 3, none⟩ = some (.int .i64 sr) ∧ V.cell? ⟨w.heap.size, 4, none⟩ = some (.slice aM M.length cM) ∧ V.cell? ⟨w.heap.size, 5, none⟩ = some (.slice aP P.length cP) ∧ V.cell? ⟨w.heap.size, 6, none⟩ = some (.slice aB B.length cB) ∧ V.cell? ⟨w.heap.size, 7, none⟩ = some (.bool el) ∧ V.cell? ⟨w.heap.size, 8, none⟩ = some (.int .i64 sy) ∧ V.cell? ⟨w.heap.size, 9, none⟩ = some (.slice aw l.length cw)) ∧ (V.cell? ⟨Pb, 0, none⟩ = some (.int .i64 sl) ∧ V.cell? ⟨Pb, 1, none⟩ = some (.slice (some ⟨G1, 0, none⟩) N.length d1) ∧ V.cell? ⟨Pb, 2, none⟩ = some (.slice (some ⟨G2, 0, none⟩) O.length d2) ∧ V.cell? ⟨Pb, 3, none⟩ = some (.int .i64 sr) ∧ V.cell? ⟨Pb, 4, none⟩ = some (.slice (some ⟨G3, 0, none⟩) M.length d3) ∧ V.cell? ⟨Pb, 5, none⟩ = some (.slice (some ⟨G4, 0, none⟩) P.length d4) ∧ V.cell? ⟨Pb, 6, none⟩ = some (.slice (some ⟨g7, 0, none⟩) B.length c7) ∧ V.cell? ⟨Pb, 7, none⟩ = some (.bool el))) := hid0 (fun V hV => ⟨row10 (HX0.out V (HBv.out.trans (hV.mono HBv.out.size))), row8q ((hV.block _ HSz.out).trans HR4.out)⟩)
  clear HB1 HB2 HB4 HB12 HK2 HL1
  have HAl : Hid (∀ V : World, Below V3.heap.size V3 V → PrA V ⟨sl, N, O, sr, M, P, B, el⟩ ⟨aN, aO, aM, aP, aB, cN, cO, cM, cP, cB⟩ ∧ IA V aw l ∧ Sents V A ∧ PrA V ⟨sl, N, O, sr, M, P, B, el⟩ ⟨some ⟨G1, 0, none⟩, some ⟨G2, 0, none⟩, some ⟨G3, 0, none⟩, some ⟨G4, 0, none⟩, some ⟨g7, 0, none⟩, d1, d2, d3, d4, c7⟩ ∧ IA V (some ⟨g, 0, none⟩) l ∧ PgK V w1.heap.size G1 G2 G3 G4 g7 d1 d2 d3 d4 c7 N O M P B ∧ LW V w0.heap.size g c l) := hid0 (fun V hV => by
    have h := HIn.out V (HBv.out.trans (hV.mono HBv.out.size))
    have hk := HKv.out.past hV
    have hl := HLv.out.past hV
    exact ⟨h.1, h.2.1, h.2.2, hk.pra sl sr el, hl.ia, hk, hl⟩)
  have hDl : (decF sl N O sr M P l).length ≤ 999999000 := by unfold decF; simp; omega
  have hKl := brk_len (decF sl N O sr M P l) B el l.length
  have HD := hid0 (fun V hV => refDecide_any sl sr N O M P B el aN aO aM aP aB cN cO cM cP cB l aw cw V HS.out (HAl.out V hV).1 (by omega) (HAl.out V hV).2.1)
  have HK := hid0 (fun V hV => refBreaks_any sl sr N O M P B el aN aO aM aP aB cN cO cM cP cB l aw cw V HS.out (HAl.out V hV).1 (by omega) (HAl.out V hV).2.1)
  have HPc := hid0 (fun V hV => pairCheck_any A sl sr N O M P B el (some ⟨G1, 0, none⟩) (some ⟨G2, 0, none⟩) (some ⟨G3, 0, none⟩) (some ⟨G4, 0, none⟩) (some ⟨g7, 0, none⟩) d1 d2 d3 d4 c7 sy V HS.out (HAl.out V hV).2.2.2.1 (HAl.out V hV).2.2.1)
  have HPd := hid0 (fun V hV => decide_any A sl sr N O M P B el (some ⟨G1, 0, none⟩) (some ⟨G2, 0, none⟩) (some ⟨G3, 0, none⟩) (some ⟨G4, 0, none⟩) (some ⟨g7, 0, none⟩) d1 d2 d3 d4 c7 l (some ⟨g, 0, none⟩) c V HS.out (HAl.out V hV).2.2.2.1 (by omega) (HAl.out V hV).2.2.2.2.1 (HAl.out V hV).2.2.1)
  have HPb := hid0 (fun V hV => breaks_any A sl sr N O M P B el (some ⟨G1, 0, none⟩) (some ⟨G2, 0, none⟩) (some ⟨G3, 0, none⟩) (some ⟨G4, 0, none⟩) (some ⟨g7, 0, none⟩) d1 d2 d3 d4 c7 l (some ⟨g, 0, none⟩) c V HS.out (HAl.out V hV).2.2.2.1 (by omega) (HAl.out V hV).2.2.2.2.1 (HAl.out V hV).2.2.1)
  have HPz := hid0 (fun V hV => size_any sl sr N O M P B el (some ⟨G1, 0, none⟩) (some ⟨G2, 0, none⟩) (some ⟨G3, 0, none⟩) (some ⟨G4, 0, none⟩) (some ⟨g7, 0, none⟩) d1 d2 d3 d4 c7 V HS.out (HAl.out V hV).2.2.2.1)
  have HCk := hid0 (fun V hV => refPairCheck_any sl sr N O M P B el aN aO aM aP aB cN cO cM cP cB sy V HS.out (HAl.out V hV).1)
  have HRz := hid0 (fun V hV => refSize_any sl sr N O M P B el aN aO aM aP aB cN cO cM cP cB V HS.out (HAl.out V hV).1)
  unfold RDecR at HD HK
  unfold DecR at HPd HPb
  have hLd : (if okD sl N O sr M P B.length l then decF sl N O sr M P l else []).length ≤ 999999000 := by
    split
    · omega
    · simp
  have hLk : (if okD sl N O sr M P B.length l then brkF (decF sl N O sr M P l) B el l.length else []).length ≤ 1000000000 := by
    split
    · omega
    · simp
  clear hDl hKl
  generalize (if okD sl N O sr M P B.length l then decF sl N O sr M P l else []) = LD at *
  generalize (if okD sl N O sr M P B.length l then brkF (decF sl N O sr M P l) B el l.length else []) = LK at *
  generalize okD sl N O sr M P B.length l = ok at *
  generalize chkP sl N O sr M P B.length sy = ck at *
  obtain ⟨⟨x0, x1, x2, x3, x4, x5, x6, x7, x8, x9⟩, ⟨y0, y1, y2, y3, y4, y5, y6, y7⟩⟩ := HCl.out V3 (Below.refl _ _)
  have HCall := hid0 (HPc.out V3 (Below.refl _ _))
  go_upto_region 4 with (go_at_call 6; go_loud ((
    refine HCall.out.mono ?_
    rintro e u1 ⟨rfl, hb⟩
    have HB1 : Hid (Below V3.heap.size V3 u1) := hid0 (hb)
    have HC1 : Hid (Below V3.heap.size V3 u1) := hid0 hb
    skip
    clear hb HCall; clear x0 x1 x2 x3 x4 x5 x6 x7 x8 x9 y0 y1 y2 y3 y4 y5 y6 y7)))
  obtain ⟨⟨x0, x1, x2, x3, x4, x5, x6, x7, x8, x9⟩, ⟨y0, y1, y2, y3, y4, y5, y6, y7⟩⟩ := HCl.out u1 HB1.out
  have HCall := hid0 (HPd.out u1 HB1.out)
  go_upto_region 5 with (go_at_call 7; go_loud ((
    refine HCall.out.mono ?_
    rintro e u2 ⟨v, rfl, ho1, hb⟩
    have HB2 : Hid (Below V3.heap.size V3 u2) := hid0 (HB1.out.trans (hb.mono HB1.out.size))
    have HC2 : Hid (Below u1.heap.size u1 u2) := hid0 hb
    obtain ⟨a2, c2, rfl, ii⟩ := ho1.ia; have HI2 := hid0 ii; clear ho1 ii
    clear hb HCall; clear x0 x1 x2 x3 x4 x5 x6 x7 x8 x9 y0 y1 y2 y3 y4 y5 y6 y7)))
  obtain ⟨⟨x0, x1, x2, x3, x4, x5, x6, x7, x8, x9⟩, ⟨y0, y1, y2, y3, y4, y5, y6, y7⟩⟩ := HCl.out u2 HB2.out
  have HCall := hid0 (HD.out u2 HB2.out)
  go_upto_region 6 with (go_at_call 8; go_loud ((
    refine HCall.out.mono ?_
    rintro e u3 ⟨v, rfl, ho1, hb⟩
    have HB3 : Hid (Below V3.heap.size V3 u3) := hid0 (HB2.out.trans (hb.mono HB2.out.size))
    have HC3 : Hid (Below u2.heap.size u2 u3) := hid0 hb
    obtain ⟨a3, c3, rfl, ii⟩ := ho1.ia; have HI3 := hid0 ii; clear ho1 ii
    clear hb HCall; clear x0 x1 x2 x3 x4 x5 x6 x7 x8 x9 y0 y1 y2 y3 y4 y5 y6 y7)))
  obtain ⟨⟨x0, x1, x2, x3, x4, x5, x6, x7, x8, x9⟩, ⟨y0, y1, y2, y3, y4, y5, y6, y7⟩⟩ := HCl.out u3 HB3.out
  have HCall := hid0 (HPb.out u3 HB3.out)
  go_upto_region 7 with (go_at_call 9; go_loud ((
    refine HCall.out.mono ?_
    rintro e u4 ⟨v, rfl, ho1, hb⟩
    have HB4 : Hid (Below V3.heap.size V3 u4) := hid0 (HB3.out.trans (hb.mono HB3.out.size))
    have HC4 : Hid (Below u3.heap.size u3 u4) := hid0 hb
    obtain ⟨a4, c4, rfl, ii⟩ := ho1.ia; have HI4 := hid0 ii; clear ho1 ii
    clear hb HCall; clear x0 x1 x2 x3 x4 x5 x6 x7 x8 x9 y0 y1 y2 y3 y4 y5 y6 y7)))
  obtain ⟨⟨x0, x1, x2, x3, x4, x5, x6, x7, x8, x9⟩, ⟨y0, y1, y2, y3, y4, y5, y6, y7⟩⟩ := HCl.out u4 HB4.out
  have HCall := hid0 (HK.out u4 HB4.out)
  go_upto_region 8 with (go_at_call 10; go_loud ((
    refine HCall.out.mono ?_
    rintro e u5 ⟨v, rfl, ho1, hb⟩
    have HB5 : Hid (Below V3.heap.size V3 u5) := hid0 (HB4.out.trans (hb.mono HB4.out.size))
    have HC5 : Hid (Below u4.heap.size u4 u5) := hid0 hb
    obtain ⟨a5, c5, rfl, ii⟩ := ho1.ia; have HI5 := hid0 ii; clear ho1 ii
    clear hb HCall; clear x0 x1 x2 x3 x4 x5 x6 x7 x8 x9 y0 y1 y2 y3 y4 y5 y6 y7)))
  have HSd : Hid (∀ V : World, Below u5.heap.size u5 V → Calls Tryd.prog 11 #[.slice a2 LD.length c2, .slice a3 LD.length c3] V fun e w' => e = .returned (.bool true) ∧ Below V.heap.size V w') := hid0 (fun V hV => (sameI LD a2 a3 c2 c3 V (by omega) ((((HI2.out.past HC3.out).past HC4.out).past HC5.out).past hV) (((HI3.out.past HC4.out).past HC5.out).past hV)).mono (fun _ _ h => ⟨h.1, by obtain ⟨n, e⟩ := h.2; rw [e]; exact below_drew' (Below.refl _ _) n⟩))
  have HSk : Hid (∀ V : World, Below u5.heap.size u5 V → Calls Tryd.prog 11 #[.slice a4 LK.length c4, .slice a5 LK.length c5] V fun e w' => e = .returned (.bool true) ∧ Below V.heap.size V w') := hid0 (fun V hV => (sameI LK a4 a5 c4 c5 V (by omega) ((HI4.out.past HC5.out).past hV) (HI5.out.past hV)).mono (fun _ _ h => ⟨h.1, by obtain ⟨n, e⟩ := h.2; rw [e]; exact below_drew' (Below.refl _ _) n⟩))
  have HSw : Hid (∀ V : World, Below V3.heap.size V3 V → Calls Tryd.prog 11 #[.slice (some ⟨g, 0, none⟩) l.length c, .slice aw l.length cw] V fun e w' => e = .returned (.bool true) ∧ Below V.heap.size V w') := hid0 (fun V hV => (sameI l (some ⟨g, 0, none⟩) aw c cw V (by omega) (HAl.out V hV).2.2.2.2.1 (HAl.out V hV).2.1).mono (fun _ _ h => ⟨h.1, by obtain ⟨n, e⟩ := h.2; rw [e]; exact below_drew' (Below.refl _ _) n⟩))
  have HLl : Hid (∀ V : World, Below V3.heap.size V3 V → Calls Tryd.prog 13 #[.slice (some ⟨g, 0, none⟩) l.length c] V fun e w' => e = .returned (.bool true) ∧ Below V.heap.size V w') := hid0 (fun V hV => (listLeft_any l w0.heap.size g c V (by omega) (HAl.out V hV).2.2.2.2.2.2).mono (fun _ _ h => ⟨h.1, by obtain ⟨n, e⟩ := h.2; rw [e]; exact below_drew' (Below.refl _ _) n⟩))
  have HPl := hid0 (fun V hV => pairingLeft_any sl sr N O M P B el w1.heap.size G1 G2 G3 G4 g7 d1 d2 d3 d4 c7 V HS.out (HAl.out V hV).2.2.2.2.2.1 HOP.out.1 HOP.out.2)
  have HSp := hid0 (fun V hV => samePairing sl sr N O M P B el (some ⟨G1, 0, none⟩) (some ⟨G2, 0, none⟩) (some ⟨G3, 0, none⟩) (some ⟨G4, 0, none⟩) (some ⟨g7, 0, none⟩) d1 d2 d3 d4 c7 aN aO aM aP aB cN cO cM cP cB V HS.out (HAl.out V hV).2.2.2.1 (HAl.out V hV).1 HOP.out.1 HOP.out.2)
  have HNu : Hid (∀ (b : Bool) (V : World), Below V3.heap.size V3 V → Calls Tryd.prog 16 #[errC A b] V fun e w' => e = .returned (.int .i64 (numC b)) ∧ w' = V) := hid0 (fun b V hV => num_errC A b V (HAl.out V hV).2.2.1)
  obtain ⟨⟨x0, x1, x2, x3, x4, x5, x6, x7, x8, x9⟩, ⟨y0, y1, y2, y3, y4, y5, y6, y7⟩⟩ := HCl.out u5 HB5.out
  have HCall := hid0 (HSd.out u5 (Below.refl _ _))
  go_upto_region 9 with (go_at_call 11; go_loud ((
    refine HCall.out.mono ?_
    rintro e u6 ⟨rfl, hb⟩
    have HB6 : Hid (Below V3.heap.size V3 u6) := hid0 (HB5.out.trans (hb.mono HB5.out.size))
    have HC6 : Hid (Below u5.heap.size u5 u6) := hid0 hb
    clear hb HCall; clear x0 x1 x2 x3 x4 x5 x6 x7 x8 x9 y0 y1 y2 y3 y4 y5 y6 y7)))
  obtain ⟨⟨x0, x1, x2, x3, x4, x5, x6, x7, x8, x9⟩, ⟨y0, y1, y2, y3, y4, y5, y6, y7⟩⟩ := HCl.out u6 HB6.out
  have HCall := hid0 (HSk.out u6 HC6.out)
  go_upto_region 10 with (go_at_call 11; go_loud ((
    refine HCall.out.mono ?_
    rintro e u7 ⟨rfl, hb⟩
    have HB7 : Hid (Below V3.heap.size V3 u7) := hid0 (HB6.out.trans (hb.mono HB6.out.size))
    have HC7 : Hid (Below u6.heap.size u6 u7) := hid0 hb
    clear hb HCall; clear x0 x1 x2 x3 x4 x5 x6 x7 x8 x9 y0 y1 y2 y3 y4 y5 y6 y7)))
  obtain ⟨⟨x0, x1, x2, x3, x4, x5, x6, x7, x8, x9⟩, ⟨y0, y1, y2, y3, y4, y5, y6, y7⟩⟩ := HCl.out u7 HB7.out
  have HCall := hid0 (HPz.out u7 HB7.out)
  go_upto_region 11 with (go_at_call 12; go_loud ((
    refine HCall.out.mono ?_
    rintro e u8 ⟨rfl, hb⟩
    have HB8 : Hid (Below V3.heap.size V3 u8) := hid0 (HB7.out.trans (hb.mono HB7.out.size))
    have HC8 : Hid (Below u7.heap.size u7 u8) := hid0 hb
    clear hb HCall; clear x0 x1 x2 x3 x4 x5 x6 x7 x8 x9 y0 y1 y2 y3 y4 y5 y6 y7)))
  obtain ⟨⟨x0, x1, x2, x3, x4, x5, x6, x7, x8, x9⟩, ⟨y0, y1, y2, y3, y4, y5, y6, y7⟩⟩ := HCl.out u8 HB8.out
  have HCa := hid0 (HSw.out u8 HB8.out)
  go_upto_region 12 with (first
    | (go_at_call 11; refine HCa.out.mono ?_; rintro e u9 ⟨rfl, hb⟩; have HB9 : Hid (Below V3.heap.size V3 u9) := hid0 (HB8.out.trans (hb.mono HB8.out.size)); clear hb; clear x0 x1 x2 x3 x4 x5 x6 x7 x8 x9 y0 y1 y2 y3 y4 y5 y6 y7; obtain ⟨⟨x0, x1, x2, x3, x4, x5, x6, x7, x8, x9⟩, ⟨y0, y1, y2, y3, y4, y5, y6, y7⟩⟩ := HCl.out u9 HB9.out)
    | (go_at_call 13; refine (HLl.out u9 HB9.out).mono ?_; rintro e u10 ⟨rfl, hb⟩; have HB10 : Hid (Below V3.heap.size V3 u10) := hid0 (HB9.out.trans (hb.mono HB9.out.size)); clear hb; clear x0 x1 x2 x3 x4 x5 x6 x7 x8 x9 y0 y1 y2 y3 y4 y5 y6 y7; obtain ⟨⟨x0, x1, x2, x3, x4, x5, x6, x7, x8, x9⟩, ⟨y0, y1, y2, y3, y4, y5, y6, y7⟩⟩ := HCl.out u10 HB10.out)
    | (go_at_call 14; refine (HPl.out u10 HB10.out).mono ?_; rintro e u11 ⟨rfl, hb⟩; have HB11 : Hid (Below V3.heap.size V3 u11) := hid0 (HB10.out.trans (hb.mono HB10.out.size)); clear hb; clear x0 x1 x2 x3 x4 x5 x6 x7 x8 x9 y0 y1 y2 y3 y4 y5 y6 y7; obtain ⟨⟨x0, x1, x2, x3, x4, x5, x6, x7, x8, x9⟩, ⟨y0, y1, y2, y3, y4, y5, y6, y7⟩⟩ := HCl.out u11 HB11.out)
    | (go_at_call 15; refine (HSp.out u11 HB11.out).mono ?_; rintro e u12 ⟨rfl, hb⟩; have HB12 : Hid (Below V3.heap.size V3 u12) := hid0 (HB11.out.trans (hb.mono HB11.out.size)); clear hb; clear x0 x1 x2 x3 x4 x5 x6 x7 x8 x9 y0 y1 y2 y3 y4 y5 y6 y7; obtain ⟨⟨x0, x1, x2, x3, x4, x5, x6, x7, x8, x9⟩, ⟨y0, y1, y2, y3, y4, y5, y6, y7⟩⟩ := HCl.out u12 HB12.out))
  have HBd : Hid (Below V3.heap.size V3 u12.drew) := hid0 (HB12.out.trans ⟨rfl, rfl, rfl, Nat.le_refl _, fun _ _ => rfl⟩)
  have hc1 : (numC ck == numC ck) = true := by simp
  have hc2 : (numC ok == numC ok) = true := by simp
  clear x0 x1 x2 x3 x4 x5 x6 x7 x8 x9 y0 y1 y2 y3 y4 y5 y6 y7
  refine wp_region_noPanic ?_
  refine wp_region_held_drew (S := (fun V => V.cell? ⟨w.heap.size, 0, none⟩ = some (.int .i64 sl) ∧ V.cell? ⟨w.heap.size, 1, none⟩ = some (.slice aN N.length cN) ∧ V.cell? ⟨w.heap.size, 2, none⟩ = some (.slice aO O.length cO) ∧ V.cell? ⟨w.heap.size, 3, none⟩ = some (.int .i64 sr) ∧ V.cell? ⟨w.heap.size, 4, none⟩ = some (.slice aM M.length cM) ∧ V.cell? ⟨w.heap.size, 5, none⟩ = some (.slice aP P.length cP) ∧ V.cell? ⟨w.heap.size, 6, none⟩ = some (.slice aB B.length cB) ∧ V.cell? ⟨w.heap.size, 7, none⟩ = some (.bool el) ∧ V.cell? ⟨w.heap.size, 8, none⟩ = some (.int .i64 sy) ∧ V.cell? ⟨w.heap.size, 9, none⟩ = some (.slice aw l.length cw))) (by kernel_rfl) ?_ (fun hHeld => ?_)
  · exact (HCl.out u12.drew HBd.out).1
  refine tkV (i := 0) (d := some 88) (v := ?_) rfl (by kernel_rfl) (by kernel_rfl) (by kernel_rfl) rfl (fun _ _ _ h => h) (by rfl) ?_ (by assumption) ?_
  rotate_left
  · (intro w hSw; (try dsimp only at hSw); (try simp only [List.getElem_toArray, List.getElem_cons_zero]); go_simp; try with_reducible rfl)
  try simp only [Act.put, List.setIfInBounds_toArray, List.set_cons_zero, List.set_cons_succ]
  refine tkV (i := 2) (d := some 90) (v := ?_) rfl (by kernel_rfl) (by kernel_rfl) (by kernel_rfl) rfl (fun _ _ _ h => h) (by rfl) ?_ (by assumption) ?_
  rotate_left
  · (intro w hSw; (try dsimp only at hSw); (try simp only [List.getElem_toArray, List.getElem_cons_zero, List.getElem_cons_succ]); go_simp; try with_reducible rfl)
  try simp only [Act.put, List.setIfInBounds_toArray, List.set_cons_zero, List.set_cons_succ]
  refine tkV (i := 3) (d := some 91) (v := ?_) rfl (by kernel_rfl) (by kernel_rfl) (by kernel_rfl) rfl (fun _ _ _ h => h) (by rfl) ?_ (by assumption) ?_
  rotate_left
  · (intro w hSw; (try dsimp only at hSw); (try simp only [List.getElem_toArray, List.getElem_cons_zero, List.getElem_cons_succ]); go_simp; try with_reducible rfl)
  try simp only [Act.put, List.setIfInBounds_toArray, List.set_cons_zero, List.set_cons_succ]
  refine tkV (i := 4) (d := some 92) (v := ?_) rfl (by kernel_rfl) (by kernel_rfl) (by kernel_rfl) rfl (fun _ _ _ h => h) (by rfl) ?_ (by assumption) ?_
  rotate_left
  · (intro w hSw; (try dsimp only at hSw); (try simp only [List.getElem_toArray, List.getElem_cons_zero, List.getElem_cons_succ]); go_simp; try with_reducible rfl)
  try simp only [Act.put, List.setIfInBounds_toArray, List.set_cons_zero, List.set_cons_succ]
  refine tkV (i := 5) (d := some 93) (v := ?_) rfl (by kernel_rfl) (by kernel_rfl) (by kernel_rfl) rfl (fun _ _ _ h => h) (by rfl) ?_ (by assumption) ?_
  rotate_left
  · (intro w hSw; (try dsimp only at hSw); (try simp only [List.getElem_toArray, List.getElem_cons_zero, List.getElem_cons_succ]); go_simp; try with_reducible rfl)
  try simp only [Act.put, List.setIfInBounds_toArray, List.set_cons_zero, List.set_cons_succ]
  refine wpAnyH_ready (rs := [1]) (by kernel_rfl) (by simp) (AllReadyH.cons rfl (fun K hK => ?_) AllReadyH.nil)
  try simp only [List.getElem_toArray, List.getElem_cons_zero, List.getElem_cons_succ]
  go_simp
  refine (HNu.out ck u12.drew (HBd.out)).mono ?_
  rintro e z1 ⟨rfl, hz⟩
  have Hz1 : Hid (Below V3.heap.size V3 z1) := hid0 (by rw [hz]; exact HBd.out)
  have Sz1 : Hid ((fun V => V.cell? ⟨w.heap.size, 0, none⟩ = some (.int .i64 sl) ∧ V.cell? ⟨w.heap.size, 1, none⟩ = some (.slice aN N.length cN) ∧ V.cell? ⟨w.heap.size, 2, none⟩ = some (.slice aO O.length cO) ∧ V.cell? ⟨w.heap.size, 3, none⟩ = some (.int .i64 sr) ∧ V.cell? ⟨w.heap.size, 4, none⟩ = some (.slice aM M.length cM) ∧ V.cell? ⟨w.heap.size, 5, none⟩ = some (.slice aP P.length cP) ∧ V.cell? ⟨w.heap.size, 6, none⟩ = some (.slice aB B.length cB) ∧ V.cell? ⟨w.heap.size, 7, none⟩ = some (.bool el) ∧ V.cell? ⟨w.heap.size, 8, none⟩ = some (.int .i64 sy) ∧ V.cell? ⟨w.heap.size, 9, none⟩ = some (.slice aw l.length cw)) z1) := hid0 (HCl.out z1 Hz1.out).1
  clear hz
  go_wp2_with fail
  refine hK.out _ _ ?_ (fun hHeld1 => ?_)
  · exact Sz1.out
  clear hK K
  (try simp only [Act.put]); (try simp only [List.setIfInBounds_toArray]); (try simp only [List.set_cons_succ]); (try simp only [List.set_cons_zero])
  refine wpAnyH_ready (rs := [6]) (by kernel_rfl) (by simp) (AllReadyH.cons rfl (fun K hK => ?_) AllReadyH.nil)
  try simp only [List.getElem_toArray, List.getElem_cons_zero, List.getElem_cons_succ]
  go_simp
  refine (HCk.out z1 (Hz1.out)).mono ?_
  rintro e z2 ⟨rfl, hb⟩
  have Hz2 : Hid (Below V3.heap.size V3 z2) := hid0 ((Hz1.out).trans (hb.mono (Hz1.out).size))
  have Sz2 : Hid ((fun V => V.cell? ⟨w.heap.size, 0, none⟩ = some (.int .i64 sl) ∧ V.cell? ⟨w.heap.size, 1, none⟩ = some (.slice aN N.length cN) ∧ V.cell? ⟨w.heap.size, 2, none⟩ = some (.slice aO O.length cO) ∧ V.cell? ⟨w.heap.size, 3, none⟩ = some (.int .i64 sr) ∧ V.cell? ⟨w.heap.size, 4, none⟩ = some (.slice aM M.length cM) ∧ V.cell? ⟨w.heap.size, 5, none⟩ = some (.slice aP P.length cP) ∧ V.cell? ⟨w.heap.size, 6, none⟩ = some (.slice aB B.length cB) ∧ V.cell? ⟨w.heap.size, 7, none⟩ = some (.bool el) ∧ V.cell? ⟨w.heap.size, 8, none⟩ = some (.int .i64 sy) ∧ V.cell? ⟨w.heap.size, 9, none⟩ = some (.slice aw l.length cw)) z2) := hid0 (HCl.out z2 Hz2.out).1
  clear hb
  go_wp2_with fail
  refine hK.out _ _ ?_ (fun hHeld6 => ?_)
  · exact Sz2.out
  clear hK K
  (try simp only [Act.put]); (try simp only [List.setIfInBounds_toArray]); (try simp only [List.set_cons_succ]); (try simp only [List.set_cons_zero])
  refine tkV (i := 7) (d := some 95) (v := ?_) rfl (by kernel_rfl) (by kernel_rfl) (by kernel_rfl) rfl (fun _ _ _ h => h) (by rfl) ?_ (by assumption) ?_
  rotate_left
  · (intro w hSw; (try dsimp only at hSw); (try simp only [List.getElem_toArray, List.getElem_cons_zero, List.getElem_cons_succ]); go_simp; try with_reducible rfl)
  try simp only [Act.put, List.setIfInBounds_toArray, List.set_cons_zero, List.set_cons_succ]
  refine tkV (i := 8) (d := some 96) (v := ?_) rfl (by kernel_rfl) (by kernel_rfl) (by kernel_rfl) rfl (fun _ _ _ h => h) (by rfl) ?_ (by assumption) ?_
  rotate_left
  · (intro w hSw; (try dsimp only at hSw); (try simp only [List.getElem_toArray, List.getElem_cons_zero, List.getElem_cons_succ]); go_simp; try with_reducible rfl)
  try simp only [Act.put, List.setIfInBounds_toArray, List.set_cons_zero, List.set_cons_succ]
  refine tkV (i := 9) (d := some 97) (v := ?_) rfl (by kernel_rfl) (by kernel_rfl) (by kernel_rfl) rfl (fun _ _ _ h => h) (by rfl) ?_ (by assumption) ?_
  rotate_left
  · (intro w hSw; (try dsimp only at hSw); (try simp only [List.getElem_toArray, List.getElem_cons_zero, List.getElem_cons_succ]); go_simp; try with_reducible rfl)
  try simp only [Act.put, List.setIfInBounds_toArray, List.set_cons_zero, List.set_cons_succ]
  refine tkV (i := 10) (d := some 98) (v := ?_) rfl (by kernel_rfl) (by kernel_rfl) (by kernel_rfl) rfl (fun _ _ _ h => h) (by rfl) ?_ (by assumption) ?_
  rotate_left
  · (intro w hSw; (try dsimp only at hSw); (try simp only [List.getElem_toArray, List.getElem_cons_zero, List.getElem_cons_succ]); go_simp; try with_reducible rfl)
  try simp only [Act.put, List.setIfInBounds_toArray, List.set_cons_zero, List.set_cons_succ]
  refine tkV (i := 11) (d := some 99) (v := ?_) rfl (by kernel_rfl) (by kernel_rfl) (by kernel_rfl) rfl (fun _ _ _ h => h) (by rfl) ?_ (by assumption) ?_
  rotate_left
  · (intro w hSw; (try dsimp only at hSw); (try simp only [List.getElem_toArray, List.getElem_cons_zero, List.getElem_cons_succ]); go_simp; try with_reducible rfl)
  try simp only [Act.put, List.setIfInBounds_toArray, List.set_cons_zero, List.set_cons_succ]
  refine wpAnyH_ready (rs := [12]) (by kernel_rfl) (by simp) (AllReadyH.cons rfl (fun K hK => ?_) AllReadyH.nil)
  try simp only [List.getElem_toArray, List.getElem_cons_zero, List.getElem_cons_succ]
  go_simp
  refine (HRz.out z2 (Hz2.out)).mono ?_
  rintro e z3 ⟨rfl, hb⟩
  have Hz3 : Hid (Below V3.heap.size V3 z3) := hid0 ((Hz2.out).trans (hb.mono (Hz2.out).size))
  have Sz3 : Hid ((fun V => V.cell? ⟨w.heap.size, 0, none⟩ = some (.int .i64 sl) ∧ V.cell? ⟨w.heap.size, 1, none⟩ = some (.slice aN N.length cN) ∧ V.cell? ⟨w.heap.size, 2, none⟩ = some (.slice aO O.length cO) ∧ V.cell? ⟨w.heap.size, 3, none⟩ = some (.int .i64 sr) ∧ V.cell? ⟨w.heap.size, 4, none⟩ = some (.slice aM M.length cM) ∧ V.cell? ⟨w.heap.size, 5, none⟩ = some (.slice aP P.length cP) ∧ V.cell? ⟨w.heap.size, 6, none⟩ = some (.slice aB B.length cB) ∧ V.cell? ⟨w.heap.size, 7, none⟩ = some (.bool el) ∧ V.cell? ⟨w.heap.size, 8, none⟩ = some (.int .i64 sy) ∧ V.cell? ⟨w.heap.size, 9, none⟩ = some (.slice aw l.length cw)) z3) := hid0 (HCl.out z3 Hz3.out).1
  clear hb
  go_wp2_with fail
  refine hK.out _ _ ?_ (fun hHeld12 => ?_)
  · exact Sz3.out
  clear hK K
  (try simp only [Act.put]); (try simp only [List.setIfInBounds_toArray]); (try simp only [List.set_cons_succ]); (try simp only [List.set_cons_zero])
  refine tkV (i := 13) (d := some 101) (v := ?_) rfl (by kernel_rfl) (by kernel_rfl) (by kernel_rfl) rfl (fun _ _ _ h => h) (by rfl) ?_ (by assumption) ?_
  rotate_left
  · (intro w hSw; (try dsimp only at hSw); (try simp only [List.getElem_toArray, List.getElem_cons_zero, List.getElem_cons_succ]); go_simp; try with_reducible rfl)
  try simp only [Act.put, List.setIfInBounds_toArray, List.set_cons_zero, List.set_cons_succ]
  refine tkV (i := 14) (d := some 102) (v := ?_) rfl (by kernel_rfl) (by kernel_rfl) (by kernel_rfl) rfl (fun _ _ _ h => h) (by rfl) ?_ (by assumption) ?_
  rotate_left
  · (intro w hSw; (try dsimp only at hSw); (try simp only [List.getElem_toArray, List.getElem_cons_zero, List.getElem_cons_succ]); go_simp; try with_reducible rfl)
  try simp only [Act.put, List.setIfInBounds_toArray, List.set_cons_zero, List.set_cons_succ]
  refine tkV (i := 15) (d := some 103) (v := ?_) rfl (by kernel_rfl) (by kernel_rfl) (by kernel_rfl) rfl (fun _ _ _ h => h) (by rfl) ?_ (by assumption) ?_
  rotate_left
  · (intro w hSw; (try dsimp only at hSw); (try simp only [List.getElem_toArray, List.getElem_cons_zero, List.getElem_cons_succ]); go_simp; try with_reducible rfl)
  try simp only [Act.put, List.setIfInBounds_toArray, List.set_cons_zero, List.set_cons_succ]
  refine tkV (i := 16) (d := some 104) (v := ?_) rfl (by kernel_rfl) (by kernel_rfl) (by kernel_rfl) rfl (fun _ _ _ h => h) (by rfl) ?_ (by assumption) ?_
  rotate_left
  · (intro w hSw; (try dsimp only at hSw); (try simp only [List.getElem_toArray, List.getElem_cons_zero, List.getElem_cons_succ]); go_simp; try with_reducible rfl)
  try simp only [Act.put, List.setIfInBounds_toArray, List.set_cons_zero, List.set_cons_succ]
  refine tkV (i := 17) (d := some 105) (v := ?_) rfl (by kernel_rfl) (by kernel_rfl) (by kernel_rfl) rfl (fun _ _ _ h => h) (by rfl) ?_ (by assumption) ?_
  rotate_left
  · (intro w hSw; (try dsimp only at hSw); (try simp only [List.getElem_toArray, List.getElem_cons_zero, List.getElem_cons_succ]); go_simp; try with_reducible rfl)
  try simp only [Act.put, List.setIfInBounds_toArray, List.set_cons_zero, List.set_cons_succ]
  refine tkV (i := 18) (d := some 106) (v := ?_) rfl (by kernel_rfl) (by kernel_rfl) (by kernel_rfl) rfl (fun _ _ _ h => h) (by rfl) ?_ (by assumption) ?_
  rotate_left
  · (intro w hSw; (try dsimp only at hSw); (try simp only [List.getElem_toArray, List.getElem_cons_zero, List.getElem_cons_succ]); go_simp; try with_reducible rfl)
  try simp only [Act.put, List.setIfInBounds_toArray, List.set_cons_zero, List.set_cons_succ]
  refine tkV (i := 19) (d := some 107) (v := ?_) rfl (by kernel_rfl) (by kernel_rfl) (by kernel_rfl) rfl (fun _ _ _ h => h) (by rfl) ?_ (by assumption) ?_
  rotate_left
  · (intro w hSw; (try dsimp only at hSw); (try simp only [List.getElem_toArray, List.getElem_cons_zero, List.getElem_cons_succ]); go_simp; try with_reducible rfl)
  try simp only [Act.put, List.setIfInBounds_toArray, List.set_cons_zero, List.set_cons_succ]
  refine tkV (i := 20) (d := some 108) (v := ?_) rfl (by kernel_rfl) (by kernel_rfl) (by kernel_rfl) rfl (fun _ _ _ h => h) (by rfl) ?_ (by assumption) ?_
  rotate_left
  · (intro w hSw; (try dsimp only at hSw); (try simp only [List.getElem_toArray, List.getElem_cons_zero, List.getElem_cons_succ]); go_simp; try with_reducible rfl)
  try simp only [Act.put, List.setIfInBounds_toArray, List.set_cons_zero, List.set_cons_succ]
  refine tkV (i := 21) (d := some 109) (v := ?_) rfl (by kernel_rfl) (by kernel_rfl) (by kernel_rfl) rfl (fun _ _ _ h => h) (by rfl) ?_ (by assumption) ?_
  rotate_left
  · (intro w hSw; (try dsimp only at hSw); (try simp only [List.getElem_toArray, List.getElem_cons_zero, List.getElem_cons_succ]); go_simp; try with_reducible rfl)
  try simp only [Act.put, List.setIfInBounds_toArray, List.set_cons_zero, List.set_cons_succ]
  refine tkV (i := 22) (d := some 110) (v := ?_) rfl (by kernel_rfl) (by kernel_rfl) (by kernel_rfl) rfl (fun _ _ _ h => h) (by rfl) ?_ (by assumption) ?_
  rotate_left
  · (intro w hSw; (try dsimp only at hSw); (try simp only [List.getElem_toArray, List.getElem_cons_zero, List.getElem_cons_succ]); go_simp; try with_reducible rfl)
  try simp only [Act.put, List.setIfInBounds_toArray, List.set_cons_zero, List.set_cons_succ]
  refine tkV (i := 23) (d := some 111) (v := ?_) rfl (by kernel_rfl) (by kernel_rfl) (by kernel_rfl) rfl (fun _ _ _ h => h) (by rfl) ?_ (by assumption) ?_
  rotate_left
  · (intro w hSw; (try dsimp only at hSw); (try simp only [List.getElem_toArray, List.getElem_cons_zero, List.getElem_cons_succ]); go_simp; try with_reducible rfl)
  try simp only [Act.put, List.setIfInBounds_toArray, List.set_cons_zero, List.set_cons_succ]
  refine tkV (i := 24) (d := some 112) (v := ?_) rfl (by kernel_rfl) (by kernel_rfl) (by kernel_rfl) rfl (fun _ _ _ h => h) (by rfl) ?_ (by assumption) ?_
  rotate_left
  · (intro w hSw; (try dsimp only at hSw); (try simp only [List.getElem_toArray, List.getElem_cons_zero, List.getElem_cons_succ]); go_simp; try with_reducible rfl)
  try simp only [Act.put, List.setIfInBounds_toArray, List.set_cons_zero, List.set_cons_succ]
  refine tkV (i := 26) (d := some 114) (v := ?_) rfl (by kernel_rfl) (by kernel_rfl) (by kernel_rfl) rfl (fun _ _ _ h => h) (by rfl) ?_ (by assumption) ?_
  rotate_left
  · (intro w hSw; (try dsimp only at hSw); (try simp only [List.getElem_toArray, List.getElem_cons_zero, List.getElem_cons_succ]); go_simp; try with_reducible rfl)
  try simp only [Act.put, List.setIfInBounds_toArray, List.set_cons_zero, List.set_cons_succ]
  refine wpAnyH_ready (rs := [25]) (by kernel_rfl) (by simp) (AllReadyH.cons rfl (fun K hK => ?_) AllReadyH.nil)
  try simp only [List.getElem_toArray, List.getElem_cons_zero, List.getElem_cons_succ]
  go_simp
  refine (HNu.out ok z3 (Hz3.out)).mono ?_
  rintro e z4 ⟨rfl, hz⟩
  have Hz4 : Hid (Below V3.heap.size V3 z4) := hid0 (by rw [hz]; exact Hz3.out)
  have Sz4 : Hid ((fun V => V.cell? ⟨w.heap.size, 0, none⟩ = some (.int .i64 sl) ∧ V.cell? ⟨w.heap.size, 1, none⟩ = some (.slice aN N.length cN) ∧ V.cell? ⟨w.heap.size, 2, none⟩ = some (.slice aO O.length cO) ∧ V.cell? ⟨w.heap.size, 3, none⟩ = some (.int .i64 sr) ∧ V.cell? ⟨w.heap.size, 4, none⟩ = some (.slice aM M.length cM) ∧ V.cell? ⟨w.heap.size, 5, none⟩ = some (.slice aP P.length cP) ∧ V.cell? ⟨w.heap.size, 6, none⟩ = some (.slice aB B.length cB) ∧ V.cell? ⟨w.heap.size, 7, none⟩ = some (.bool el) ∧ V.cell? ⟨w.heap.size, 8, none⟩ = some (.int .i64 sy) ∧ V.cell? ⟨w.heap.size, 9, none⟩ = some (.slice aw l.length cw)) z4) := hid0 (HCl.out z4 Hz4.out).1
  clear hz
  go_wp2_with fail
  refine hK.out _ _ ?_ (fun hHeld25 => ?_)
  · exact Sz4.out
  clear hK K
  (try simp only [Act.put]); (try simp only [List.setIfInBounds_toArray]); (try simp only [List.set_cons_succ]); (try simp only [List.set_cons_zero])
  refine tkV (i := 27) (d := some 115) (v := ?_) rfl (by kernel_rfl) (by kernel_rfl) (by kernel_rfl) rfl (fun _ _ _ h => h) (by rfl) ?_ (by assumption) ?_
  rotate_left
  · (intro w hSw; (try dsimp only at hSw); (try simp only [List.getElem_toArray, List.getElem_cons_zero, List.getElem_cons_succ]); go_simp; try with_reducible rfl)
  try simp only [Act.put, List.setIfInBounds_toArray, List.set_cons_zero, List.set_cons_succ]
  refine tkV (i := 28) (d := some 116) (v := ?_) rfl (by kernel_rfl) (by kernel_rfl) (by kernel_rfl) rfl (fun _ _ _ h => h) (by rfl) ?_ (by assumption) ?_
  rotate_left
  · (intro w hSw; (try dsimp only at hSw); (try simp only [List.getElem_toArray, List.getElem_cons_zero, List.getElem_cons_succ]); go_simp; try with_reducible rfl)
  try simp only [Act.put, List.setIfInBounds_toArray, List.set_cons_zero, List.set_cons_succ]
  refine tkV (i := 29) (d := some 117) (v := ?_) rfl (by kernel_rfl) (by kernel_rfl) (by kernel_rfl) rfl (fun _ _ _ h => h) (by rfl) ?_ (by assumption) ?_
  rotate_left
  · (intro w hSw; (try dsimp only at hSw); (try simp only [List.getElem_toArray, List.getElem_cons_zero, List.getElem_cons_succ]); go_simp; try with_reducible rfl)
  try simp only [Act.put, List.setIfInBounds_toArray, List.set_cons_zero, List.set_cons_succ]
  refine tkV (i := 30) (d := some 118) (v := ?_) rfl (by kernel_rfl) (by kernel_rfl) (by kernel_rfl) rfl (fun _ _ _ h => h) (by rfl) ?_ (by assumption) ?_
  rotate_left
  · (intro w hSw; (try dsimp only at hSw); (try simp only [List.getElem_toArray, List.getElem_cons_zero, List.getElem_cons_succ]); go_simp; try with_reducible rfl)
  try simp only [Act.put, List.setIfInBounds_toArray, List.set_cons_zero, List.set_cons_succ]
  refine tkV (i := 32) (d := some 120) (v := ?_) rfl (by kernel_rfl) (by kernel_rfl) (by kernel_rfl) rfl (fun _ _ _ h => h) (by rfl) ?_ (by assumption) ?_
  rotate_left
  · (intro w hSw; (try dsimp only at hSw); (try simp only [List.getElem_toArray, List.getElem_cons_zero, List.getElem_cons_succ]); go_simp; try with_reducible rfl)
  try simp only [Act.put, List.setIfInBounds_toArray, List.set_cons_zero, List.set_cons_succ]
  refine wpAnyH_ready (rs := [31]) (by kernel_rfl) (by simp) (AllReadyH.cons rfl (fun K hK => ?_) AllReadyH.nil)
  try simp only [List.getElem_toArray, List.getElem_cons_zero, List.getElem_cons_succ]
  go_simp
  refine (HNu.out ok z4 (Hz4.out)).mono ?_
  rintro e z5 ⟨rfl, hz⟩
  have Hz5 : Hid (Below V3.heap.size V3 z5) := hid0 (by rw [hz]; exact Hz4.out)
  have Sz5 : Hid ((fun V => V.cell? ⟨w.heap.size, 0, none⟩ = some (.int .i64 sl) ∧ V.cell? ⟨w.heap.size, 1, none⟩ = some (.slice aN N.length cN) ∧ V.cell? ⟨w.heap.size, 2, none⟩ = some (.slice aO O.length cO) ∧ V.cell? ⟨w.heap.size, 3, none⟩ = some (.int .i64 sr) ∧ V.cell? ⟨w.heap.size, 4, none⟩ = some (.slice aM M.length cM) ∧ V.cell? ⟨w.heap.size, 5, none⟩ = some (.slice aP P.length cP) ∧ V.cell? ⟨w.heap.size, 6, none⟩ = some (.slice aB B.length cB) ∧ V.cell? ⟨w.heap.size, 7, none⟩ = some (.bool el) ∧ V.cell? ⟨w.heap.size, 8, none⟩ = some (.int .i64 sy) ∧ V.cell? ⟨w.heap.size, 9, none⟩ = some (.slice aw l.length cw)) z5) := hid0 (HCl.out z5 Hz5.out).1
  clear hz
  go_wp2_with fail
  refine hK.out _ _ ?_ (fun hHeld31 => ?_)
  · exact Sz5.out
  clear hK K
  (try simp only [Act.put]); (try simp only [List.setIfInBounds_toArray]); (try simp only [List.set_cons_succ]); (try simp only [List.set_cons_zero])
  refine tkV (i := 33) (d := some 121) (v := ?_) rfl (by kernel_rfl) (by kernel_rfl) (by kernel_rfl) rfl (fun _ _ _ h => h) (by rfl) ?_ (by assumption) ?_
  rotate_left
  · (intro w hSw; (try dsimp only at hSw); (try simp only [List.getElem_toArray, List.getElem_cons_zero, List.getElem_cons_succ]); go_simp; try with_reducible rfl)
  try simp only [Act.put, List.setIfInBounds_toArray, List.set_cons_zero, List.set_cons_succ]
  refine tkV (i := 34) (d := some 122) (v := ?_) rfl (by kernel_rfl) (by kernel_rfl) (by kernel_rfl) rfl (fun _ _ _ h => h) (by rfl) ?_ (by assumption) ?_
  rotate_left
  · (intro w hSw; (try dsimp only at hSw); (try simp only [List.getElem_toArray, List.getElem_cons_zero, List.getElem_cons_succ]); go_simp; try with_reducible rfl)
  try simp only [Act.put, List.setIfInBounds_toArray, List.set_cons_zero, List.set_cons_succ]
  refine tkV (i := 35) (d := some 123) (v := ?_) rfl (by kernel_rfl) (by kernel_rfl) (by kernel_rfl) rfl (fun _ _ _ h => h) (by rfl) ?_ (by assumption) ?_
  rotate_left
  · (intro w hSw; (try dsimp only at hSw); (try simp only [List.getElem_toArray, List.getElem_cons_zero, List.getElem_cons_succ]); go_simp; try with_reducible rfl)
  try simp only [Act.put, List.setIfInBounds_toArray, List.set_cons_zero, List.set_cons_succ]
  refine tkV (i := 36) (d := some 124) (v := ?_) rfl (by kernel_rfl) (by kernel_rfl) (by kernel_rfl) rfl (fun _ _ _ h => h) (by rfl) ?_ (by assumption) ?_
  rotate_left
  · (intro w hSw; (try dsimp only at hSw); (try simp only [List.getElem_toArray, List.getElem_cons_zero, List.getElem_cons_succ]); go_simp; try with_reducible rfl)
  try simp only [Act.put, List.setIfInBounds_toArray, List.set_cons_zero, List.set_cons_succ]
  refine tkV (i := 37) (d := some 125) (v := ?_) rfl (by kernel_rfl) (by kernel_rfl) (by kernel_rfl) rfl (fun _ _ _ h => h) (by rfl) ?_ (by assumption) ?_
  rotate_left
  · (intro w hSw; (try dsimp only at hSw); (try simp only [List.getElem_toArray, List.getElem_cons_zero, List.getElem_cons_succ]); go_simp; try with_reducible rfl)
  try simp only [Act.put, List.setIfInBounds_toArray, List.set_cons_zero, List.set_cons_succ]
  refine tkV (i := 38) (d := some 126) (v := ?_) rfl (by kernel_rfl) (by kernel_rfl) (by kernel_rfl) rfl (fun _ _ _ h => h) (by rfl) ?_ (by assumption) ?_
  rotate_left
  · (intro w hSw; (try dsimp only at hSw); (try simp only [List.getElem_toArray, List.getElem_cons_zero, List.getElem_cons_succ]); go_simp; try with_reducible rfl)
  try simp only [Act.put, List.setIfInBounds_toArray, List.set_cons_zero, List.set_cons_succ]
  refine wpAnyH_done (by kernel_rfl) ?_ _
  refine NoPanic.normal ?_
  have HSD : Hid (Sd z5 w A w.heap.size Pb w0.heap.size sy sl sr el G1 G2 G3 G4 g7 d1 d2 d3 d4 c7 N.length O.length M.length P.length B.length g l.length) := hid0 ⟨(HCl.out z5 Hz5.out).1.2.2.2.2.2.2.2.2.1, (Hz5.out.block _ HSz.out).trans HR4.out, HOv.out z5 Hz5.out, (HAl.out z5 Hz5.out).2.2.1, HLw.out, HXl.out, by have := HHi.out; omega, HGs.out, HBz.out.trans ((HBv.out.trans (Hz5.out.mono HBv.out.size)).mono HBz.out.size)⟩
  have HNl : Hid (l.length ≤ 999999000) := hid0 hl
  have HNn : Hid (N.length ≤ 1000000000) := hid0 HS.out.n
  try clear hHeld
  clear hc1 hc2
  clear HCl HAl HX0 HIn HPg HD HK HPc HPd HPb HPz HCk HRz HSd HSk HSw HLl HPl HSp HNu HOv HLw HXl HGs HR4 HSz HHi HKv HLv HBv
  go_upto_if 129 with (fail)
  go_cut [] from 127 (fun wx => Hid (Sd wx w A w.heap.size Pb w0.heap.size sy sl sr el G1 G2 G3 G4 g7 d1 d2 d3 d4 c7 N.length O.length M.length P.length B.length g l.length))
  case first =>
    by_cases hl0 : l.length = 0
    · have hi : ¬ (l.length : Int) > 0 := by omega
      clear hl0
      go_wp2_with fail
      go_meet
      case rel => exact HSD
    · obtain ⟨b, o, e, hd, _, ⟨z, hcz⟩, hf⟩ := HSD.out.ov.xi.at' 0 (by omega)
      injection e with e
      injection e with e1 e2
      subst e1 e2
      rw [Nat.add_zero] at hcz hf
      have HPk : Hid (Calls Tryd.prog 19 #[.int .i64 z, .int .i64 2] z5 fun e w' => ∃ a : Nat, e = .returned (.int .i64 (a : Int)) ∧ a ≤ 2 ∧ w' = z5) := hid0 (pick_any z 2 (by omega) z5)
      have hi : (l.length : Int) > 0 := by omega
      have hI : (0 : Int) < (l.length : Int) := by omega
      clear hl0
      go_wp2_with (go_at_call 19; go_loud ((
        refine HPk.out.mono ?_
        rintro e wp ⟨a, rfl, ha, hw⟩
        have hw := hw.symm
        subst hw
        have hA : (a : Int) ≤ 2 := by omega)))
      go_meet
      case rel => exact hid0 (HSD.out.setI hd hcz _)
  case rest =>
  have HS1 := hcut
  clear hcut HSD
  have x8 := HS1.out.x8
  obtain ⟨y0, y1, y2, y3, y4, y5, y6, y7⟩ := row8q HS1.out.row
  have HCall := hid0 (readsX A sl sr sy el N.length O.length M.length P.length B.length l.length d1 d2 d3 d4 c7 c (some ⟨G1, 0, none⟩) (some ⟨G2, 0, none⟩) (some ⟨G3, 0, none⟩) (some ⟨G4, 0, none⟩) (some ⟨g7, 0, none⟩) (some ⟨g, 0, none⟩) _ wc HS1.out.ov HNn.out HS.out.m HS.out.b HNl.out HS1.out.se)
  go_upto_region 17 with (go_at_call 20; go_loud ((
    refine HCall.out.mono ?_
    rintro e v1 ⟨rfl, hb⟩
    have HS2 : Hid (Sd v1 w A w.heap.size Pb w0.heap.size sy sl sr el G1 G2 G3 G4 g7 d1 d2 d3 d4 c7 N.length O.length M.length P.length B.length g l.length) := hid0 (HS1.out.past hb)
    clear hb HCall HS1; clear x8 y0 y1 y2 y3 y4 y5 y6 y7)))
  have x8 := HS2.out.x8
  obtain ⟨y0, y1, y2, y3, y4, y5, y6, y7⟩ := row8q HS2.out.row
  have HCall := hid0 (over_any sl sr el N.length O.length M.length P.length B.length l.length d1 d2 d3 d4 c7 (some ⟨G1, 0, none⟩) (some ⟨G2, 0, none⟩) (some ⟨G3, 0, none⟩) (some ⟨G4, 0, none⟩) (some ⟨g7, 0, none⟩) (some ⟨g, 0, none⟩) _ v1 (fun k hk => Nat.lt_trans hk.2 HS2.out.plt) HS2.out.ov)
  go_upto_region 18 with (go_at_call 21; go_loud ((
    refine HCall.out.mono ?_
    rintro e v2 ⟨rfl, ho1, hk1⟩
    have HS3 : Hid (Sd v2 w A w.heap.size Pb w0.heap.size sy sl sr el G1 G2 G3 G4 g7 d1 d2 d3 d4 c7 N.length O.length M.length P.length B.length g l.length) := hid0 (HS2.out.kpd hk1 ho1)
    clear ho1 hk1 HCall HS2; clear x8 y0 y1 y2 y3 y4 y5 y6 y7)))
  have x8 := HS3.out.x8
  obtain ⟨y0, y1, y2, y3, y4, y5, y6, y7⟩ := row8q HS3.out.row
  have HCall := hid0 (readsX A sl sr sy el N.length O.length M.length P.length B.length l.length d1 d2 d3 d4 c7 c (some ⟨G1, 0, none⟩) (some ⟨G2, 0, none⟩) (some ⟨G3, 0, none⟩) (some ⟨G4, 0, none⟩) (some ⟨g7, 0, none⟩) (some ⟨g, 0, none⟩) _ v2 HS3.out.ov HNn.out HS.out.m HS.out.b HNl.out HS3.out.se)
  go_upto_region 19 with (go_at_call 20; go_loud ((
    refine HCall.out.mono ?_
    rintro e v3 ⟨rfl, hb⟩
    have HS4 : Hid (Sd v3 w A w.heap.size Pb w0.heap.size sy sl sr el G1 G2 G3 G4 g7 d1 d2 d3 d4 c7 N.length O.length M.length P.length B.length g l.length) := hid0 (HS3.out.past hb)
    clear hb HCall HS3; clear x8 y0 y1 y2 y3 y4 y5 y6 y7)))
  have x8 := HS4.out.x8
  obtain ⟨y0, y1, y2, y3, y4, y5, y6, y7⟩ := row8q HS4.out.row
  go_upto_region 21 with (fail)
  go_cut [162] from 157 (fun c wx => ∃ b : Bool, c = .bool b ∧ Hid (b = true → 1 < N.length ∧ 1 < O.length) ∧ Hid (Sd wx w A w.heap.size Pb w0.heap.size sy sl sr el G1 G2 G3 G4 g7 d1 d2 d3 d4 c7 N.length O.length M.length P.length B.length g l.length))
  case first =>
    by_cases h1 : (N.length : Int) > 1
    · by_cases h2 : (O.length : Int) > 1
      · go_wp2_with fail
        go_meet
        case rel => exact ⟨true, rfl, hid0 (fun _ => by omega), HS4⟩
      · go_wp2_with fail
        go_meet
        case rel => exact ⟨false, rfl, hid0 (fun h => nomatch h), HS4⟩
    · go_wp2_with fail
      go_meet
      case rel => exact ⟨false, rfl, hid0 (fun h => nomatch h), HS4⟩
  case rest =>
  obtain ⟨bq, rfl, HQ, HS5⟩ := hcut
  clear HS4; clear x8 y0 y1 y2 y3 y4 y5 y6 y7
  go_upto_if 162 with (fail)
  go_cut [] from 157 (fun wx => ∃ m1 m2 : Nat, Hid (m1 ≤ 1000000000) ∧ Hid (Sd wx w A w.heap.size Pb w0.heap.size sy sl sr el G1 G2 G3 G4 g7 d1 d2 d3 d4 c7 m1 m2 M.length P.length B.length g l.length))
  case first =>
    cases bq with
    | true =>
      obtain ⟨h1, h2⟩ := HQ.out rfl
      obtain ⟨h3, h4⟩ := HCp.out
      have h5 := HNn.out
      have h6 := HOP.out.1
      have g1 : (1 : Int) ≤ (N.length : Int) := by omega
      have g2 : (1 : Int) ≤ (O.length : Int) := by omega
      have g3 : IntKind.i64.wrap ((N.length : Int) - 1) = (N.length : Int) - 1 := by simp [IntKind.wrap, IntKind.bits, IntKind.signed]; omega
      have g4 : IntKind.i64.wrap ((O.length : Int) - 1) = (O.length : Int) - 1 := by simp [IntKind.wrap, IntKind.bits, IntKind.signed]; omega
      have f1 := frz HS5.out.row 1
      have f2 := frz HS5.out.row 2
      have x8 := HS5.out.x8
      obtain ⟨y0, y1, y2, y3, y4, y5, y6, y7⟩ := row8q HS5.out.row
      go_wp2_with fail
      go_meet
      case rel => exact ⟨N.length - 1, O.length - 1, hid0 (by omega), hid0 (HS5.out.less (by omega) (by omega))⟩
    | false =>
      go_wp2_with fail
      go_meet
      case rel => exact ⟨_, _, HNn, HS5⟩
  case rest =>
  obtain ⟨m1, m2, HM1, HS6⟩ := hcut
  clear HS5 HQ
  have x8 := HS6.out.x8
  obtain ⟨y0, y1, y2, y3, y4, y5, y6, y7⟩ := row8q HS6.out.row
  have HCall := hid0 (readsX A sl sr sy el m1 m2 M.length P.length B.length l.length d1 d2 d3 d4 c7 c (some ⟨G1, 0, none⟩) (some ⟨G2, 0, none⟩) (some ⟨G3, 0, none⟩) (some ⟨G4, 0, none⟩) (some ⟨g7, 0, none⟩) (some ⟨g, 0, none⟩) _ wc HS6.out.ov HM1.out HS.out.m HS.out.b HNl.out HS6.out.se)
  go_upto_region 25 with (go_at_call 20; go_loud ((
    refine HCall.out.mono ?_
    rintro e v4 ⟨rfl, hb⟩
    have HS7 : Hid (Sd v4 w A w.heap.size Pb w0.heap.size sy sl sr el G1 G2 G3 G4 g7 d1 d2 d3 d4 c7 m1 m2 M.length P.length B.length g l.length) := hid0 (HS6.out.past hb)
    clear hb HCall HS6; clear x8 y0 y1 y2 y3 y4 y5 y6 y7)))
  have x8 := HS7.out.x8
  obtain ⟨y0, y1, y2, y3, y4, y5, y6, y7⟩ := row8q HS7.out.row
  go_cut [197] from 184 (fun c wx => ∃ b : Bool, c = .bool b ∧ Hid (b = true → 0 < M.length ∧ ∃ a1 n1 c1, wx.cell? ⟨G3, 0, none⟩ = some (.slice a1 n1 c1) ∧ 0 < n1 ∧ XI wx (fun b => w0.heap.size ≤ b ∧ b < Pb) a1 n1) ∧ Hid (Sd wx w A w.heap.size Pb w0.heap.size sy sl sr el G1 G2 G3 G4 g7 d1 d2 d3 d4 c7 m1 m2 M.length P.length B.length g l.length))
  case first =>
    by_cases h1 : M.length = 0
    · have h2 : ¬ (M.length : Int) > 0 := by omega
      clear h1
      go_wp2_with fail
      go_meet
      case rel => exact ⟨false, rfl, hid0 (fun h => nomatch h), HS7⟩
    · obtain ⟨b, o, e, _, a1, n1, c1, hcz, _, _, hx⟩ := HS7.out.ov.px.m.at' 0 (by omega)
      injection e with e
      injection e with e1 e2
      subst e1 e2
      rw [Nat.add_zero] at hcz
      have h2 : (M.length : Int) > 0 := by omega
      have h3 : (0 : Int) < (M.length : Int) := by omega
      have HX := hid0 hx
      have HM : Hid (0 < M.length) := hid0 (by omega)
      clear h1 hx
      go_wp2_with fail
      go_meet
      case rel => exact ⟨decide (0 < n1), rfl, hid0 (fun h => ⟨HM.out, a1, n1, c1, hcz, of_decide_eq_true h, HX.out⟩), HS7⟩
  case rest =>
  obtain ⟨bq, rfl, HQ, HS8⟩ := hcut
  clear HS7; clear x8 y0 y1 y2 y3 y4 y5 y6 y7
  go_upto_if 197 with (fail)
  go_cut [] from 184 (fun wx => Hid (Sd wx w A w.heap.size Pb w0.heap.size sy sl sr el G1 G2 G3 G4 g7 d1 d2 d3 d4 c7 m1 m2 M.length P.length B.length g l.length))
  case first =>
    cases bq with
    | true =>
      obtain ⟨h1, a1, n1, c1, hcz, h2, hx⟩ := HQ.out rfl
      obtain ⟨b, o, e, hd, _, ⟨z, hcy⟩, hf⟩ := hx.at' 0 h2
      subst e
      rw [Nat.add_zero] at hcy hf
      have h3 : (0 : Int) < (M.length : Int) := by omega
      have h4 : (0 : Int) < (n1 : Int) := by omega
      have HD := hid0 hd
      clear hx hd
      have x8 := HS8.out.x8
      obtain ⟨y0, y1, y2, y3, y4, y5, y6, y7⟩ := row8q HS8.out.row
      go_wp2_with fail
      go_meet
      case rel => exact hid0 (HS8.out.setI HD.out hcy _)
    | false =>
      go_wp2_with fail
      go_meet
      case rel => exact HS8
  case rest =>
  have HS9 := hcut
  clear hcut HS8 HQ
  have x8 := HS9.out.x8
  obtain ⟨y0, y1, y2, y3, y4, y5, y6, y7⟩ := row8q HS9.out.row
  have HCall := hid0 (readsX A sl sr sy el m1 m2 M.length P.length B.length l.length d1 d2 d3 d4 c7 c (some ⟨G1, 0, none⟩) (some ⟨G2, 0, none⟩) (some ⟨G3, 0, none⟩) (some ⟨G4, 0, none⟩) (some ⟨g7, 0, none⟩) (some ⟨g, 0, none⟩) _ wc HS9.out.ov HM1.out HS.out.m HS.out.b HNl.out HS9.out.se)
  go_upto_region 28 with (go_at_call 20; go_loud ((
    refine HCall.out.mono ?_
    rintro e v5 ⟨rfl, hb⟩
    have HT : Hid (Sd v5 w A w.heap.size Pb w0.heap.size sy sl sr el G1 G2 G3 G4 g7 d1 d2 d3 d4 c7 m1 m2 M.length P.length B.length g l.length) := hid0 (HS9.out.past hb)
    clear hb HCall HS9; clear x8 y0 y1 y2 y3 y4 y5 y6 y7)))
  go_wp2
  go_ret
  exact ⟨rfl, HT.out.bl⟩
end Go.Proofs.YtilnanefkbdbkaaDoor
namespace Go.Proofs.YtilnanefkbdbkaaDoor
open Go.ChangeShapes Go.WideShapes Go.ChangeAt Go.RowKit
theorem own : ownKnob Tryd.prog.godebug = none := by kernel_rfl
/-- The settled world, the listed variables holding what their initialisers lay. -/
def laidWorld (hold : World) : World := { hold with heap := ((((((((((((((((((((((hold.heap.modify 0 fun | .cells _ t frozen => .cells #[.iface 71 (.pointer (some ⟨hold.heap.size + 0, 0, none⟩))] t frozen | o => o).modify 1 fun | .cells _ t frozen => .cells #[.iface 71 (.pointer (some ⟨hold.heap.size + 1, 0, none⟩))] t frozen | o => o).modify 2 fun | .cells _ t frozen => .cells #[.iface 71 (.pointer (some ⟨hold.heap.size + 2, 0, none⟩))] t frozen | o => o).modify 3 fun | .cells _ t frozen => .cells #[.iface 71 (.pointer (some ⟨hold.heap.size + 3, 0, none⟩))] t frozen | o => o).modify 4 fun | .cells _ t frozen => .cells #[.iface 71 (.pointer (some ⟨hold.heap.size + 4, 0, none⟩))] t frozen | o => o).modify 5 fun | .cells _ t frozen => .cells #[.iface 71 (.pointer (some ⟨hold.heap.size + 5, 0, none⟩))] t frozen | o => o).modify 6 fun | .cells _ t frozen => .cells #[.iface 71 (.pointer (some ⟨hold.heap.size + 6, 0, none⟩))] t frozen | o => o).modify 7 fun | .cells _ t frozen => .cells #[.iface 71 (.pointer (some ⟨hold.heap.size + 7, 0, none⟩))] t frozen | o => o).modify 8 fun | .cells _ t frozen => .cells #[.iface 71 (.pointer (some ⟨hold.heap.size + 8, 0, none⟩))] t frozen | o => o).modify 9 fun | .cells _ t frozen => .cells #[.iface 71 (.pointer (some ⟨hold.heap.size + 9, 0, none⟩))] t frozen | o => o).modify 10 fun | .cells _ t frozen => .cells #[.iface 71 (.pointer (some ⟨hold.heap.size + 10, 0, none⟩))] t frozen | o => o).push (.cells #[.string ⟨#[97, 32, 110, 117, 109, 98, 101, 114, 32, 111, 114, 32, 97, 110, 32, 97, 114, 103, 117, 109, 101, 110, 116, 32, 105, 115, 32, 111, 117, 116, 32, 111, 102, 32, 105, 116, 115, 32, 112, 108, 97, 99, 101]⟩] 89)).push (.cells #[.string ⟨#[97, 32, 116, 101, 120, 116, 32, 111, 114, 32, 98, 121, 116, 101, 115, 32, 116, 104, 97, 116, 32, 99, 97, 110, 110, 111, 116, 32, 98, 101, 32, 114, 101, 97, 100]⟩] 89)).push (.cells #[.string ⟨#[97, 98, 111, 118, 101, 32, 97, 32, 108, 105, 109, 105, 116]⟩] 89)).push (.cells #[.string ⟨#[115, 111, 109, 101, 116, 104, 105, 110, 103, 32, 105, 115, 32, 109, 105, 115, 115, 105, 110, 103]⟩] 89)).push (.cells #[.string ⟨#[116, 104, 101, 114, 101, 32, 116, 119, 105, 99, 101]⟩] 89)).push (.cells #[.string ⟨#[110, 111, 116, 32, 105, 110, 32, 111, 114, 100, 101, 114]⟩] 89)).push (.cells #[.string ⟨#[110, 111, 116, 32, 116, 104, 101, 114, 101]⟩] 89)).push (.cells #[.string ⟨#[103, 111, 101, 115, 32, 114, 111, 117, 110, 100, 32, 105, 110, 32, 97, 32, 99, 105, 114, 99, 108, 101]⟩] 89)).push (.cells #[.string ⟨#[116, 104, 101, 32, 115, 117, 109, 32, 100, 111, 101, 115, 32, 110, 111, 116, 32, 102, 105, 116]⟩] 89)).push (.cells #[.string ⟨#[110, 111, 116, 32, 116, 104, 101, 32, 111, 110, 101, 32, 102, 111, 114, 109, 32, 116, 104, 97, 116, 32, 105, 115, 32, 119, 114, 105, 116, 116, 101, 110]⟩] 89)).push (.cells #[.string ⟨#[105, 116, 32, 104, 97, 115, 32, 101, 110, 100, 101, 100]⟩] 89)) }
set_option maxRecDepth 100000 in
theorem door_shaped (os : Os) (args : Array Value) : ((laidWorld (World.holding Tryd.prog os ⟨#[], #[], []⟩)).forCall (fun _ _ => 0) ⟨#[], args, []⟩).Shaped Tryd.prog :=
  World.shaped_of_RefB (by kernel_rfl) (by kernel_rfl)
/-- An input that fits, at a world that is written out. -/
theorem witness_row_shaped {H : Type} {enc : TypeId × Value → H} {C : Checked} {os : Os} {f : FuncId} {fn : Func} {s : OpenSpec} {conds : List PathCond} {apart : Bool} {laid : List (String × DataW Unit)} (w0 : World) (args : Array Value) (hos : w0.os = os)
    (hsh : (w0.forCall (fun _ _ => 0) ⟨#[], args, []⟩).Shaped C.prog)
    (hok : Input.okWideB C.prog (w0.forCall (fun _ _ => 0) ⟨#[], args, []⟩) f ⟨#[], args, []⟩ = true)
    (hrow : s.preRow enc C.prog fn conds apart laid (w0.forCall (fun _ _ => 0) ⟨#[], args, []⟩).memory args) :
    ∃ (w : World) (tape : Tape) (i : Input), w.os = os ∧ (w.forCall tape i).Shaped C.prog ∧ i.vars = [] ∧ Input.okWide C.prog (w.forCall tape i) .any w.heap.size f i ∧
      s.preRow enc C.prog fn conds apart laid (w.forCall tape i).memory i.args ∧ ({} : Assume).holds C.prog (lone (Frame.enter C.prog f i.args .normal) [] (w.forCall tape i)) :=
  ⟨w0, fun _ _ => 0, ⟨#[], args, []⟩, hos, hsh, (Input.okWide_of_okWideB (base := 0) hok).1, (Input.okWide_of_okWideB hok).2, hrow, by
    simp only [Assume.holds]
    exact ⟨by simp, by simp, by simp, by simp, by simp⟩⟩
theorem laidOut : laidOutB Tryd.prog = true := by kernel_rfl
set_option maxRecDepth 10000 in
/-- The frame of a law of one parameter that answers true, writes nothing that was there, and lists no variable among its readings. -/
theorem law_contract {H : Type} {enc : TypeId × Value → H} {f : FuncId} {fn : Func} {s : ChangeSpec} {t : TypeId} (hp : fn.params = #[t]) (hrt : fn.resultTypes = #[4]) (hvars : s.vars = [])
    (hfn : ∀ (K : Type) (d : DataW K), s.fn K [d] = { results := [.lit (.bool true)], args := [d] }) (hread : Tryd.prog.readableRec t = true) (hrow : t < Tryd.prog.types.size)
    (W : World) (base : Nat) (args : Array Value) (ds gs : List (DataW H)) (before : List MemPlace)
    (hval : ∀ (j : Nat) t v, fn.params[j]? = some t → args[j]? = some v → Value.okWide Tryd.prog W .any base t v)
    (hW : DataW.Whole enc Tryd.prog fn.params.toList s.vars false W args.toList ds gs before)
    (hsz : (DataW.weightsEach Tryd.prog (fn.params.toList ++ s.plain.varTypes Tryd.prog) (ds ++ gs)).all (· ≤ reachBytes) = true)
    (walk : ∀ (v : Value) (d : DataW H) (p : List MemPlace), Value.okWide Tryd.prog W .any base t v → DataW.Trod enc Tryd.prog W 0 (fun _ => true) true t v d p → (∀ x ∈ p, x.block < W.heap.size) → (∀ x ∈ d.weights Tryd.prog t, x ≤ reachBytes) → ds = [d] → gs = [] →
      Calls Tryd.prog f #[v] W fun e W' => e = .returned (.bool true) ∧ Below W.heap.size W W') :
    Calls Tryd.prog f args W fun e W' => ∃ v, e = .returned v ∧ s.post enc Tryd.prog fn false true false false W args v W' := by
  have hW' := hW
  obtain ⟨p, q, hA0, hV, rfl, hfz, hnd⟩ := hW
  have hA : DataW.TrodAll enc Tryd.prog W 0 (fun _ => true) true fn.params.toList args.toList ds p := hA0
  rw [hp] at hA hval hsz
  obtain ⟨v0, vs0, d0, ds0, p0, q0, hargs, rfl, rfl, h0, r0⟩ := trodAll_cons hA
  obtain ⟨rfl, rfl, rfl⟩ := trodAll_nil r0
  obtain rfl : args = #[v0] := by cases args; simp_all
  rw [hvars] at hV
  obtain ⟨rfl, rfl⟩ := trodVars_none hV
  have hlt : ∀ x ∈ p0, x.block < W.heap.size := fun x hx => by have := hW'.lt x (by simpa using hx); simpa using this
  have hw : ∀ x ∈ d0.weights Tryd.prog t, x ≤ reachBytes := fun x hx => by
    have := List.all_eq_true.1 hsz x (DataW.weights_mem_each (j := 0) (by simp) (by simp) x hx)
    simpa using this
  refine (walk v0 d0 p0 (hval 0 t v0 rfl rfl) h0 hlt hw rfl rfl).mono fun e W' ⟨he, hb⟩ => ?_
  subst he
  refine ⟨_, rfl, [d0], [], _, [], p0 ++ [], [], hW', ?_, ?_, ?_, hb.frame _, fun h => by cases h⟩
  · rw [hrt, show ([d0] ++ ([] : List (DataW H))) = [d0] from rfl, hfn]
    exact trodAll_cons_mk (shut_bool Tryd.underlying4 true) trodAll_mk0
  · rw [hp, show ([d0] ++ ([] : List (DataW H))) = [d0] from rfl, hfn]
    exact trodAll_cons_mk (Below.trod laidOut hread hrow h0 hb hlt) trodAll_mk0
  · rw [hvars, show ([d0] ++ ([] : List (DataW H))) = [d0] from rfl, hfn]
    rfl
set_option maxRecDepth 10000 in
/-- The same frame for a law without parameters. -/
theorem law_contract0 {H : Type} {enc : TypeId × Value → H} {f : FuncId} {fn : Func} {s : ChangeSpec} (hp : fn.params = #[]) (hrt : fn.resultTypes = #[4]) (hvars : s.vars = [])
    (hfn : ∀ (K : Type), s.fn K [] = { results := [.lit (.bool true)], args := [] })
    (W : World) (args : Array Value) (ds gs : List (DataW H)) (before : List MemPlace)
    (hW : DataW.Whole enc Tryd.prog fn.params.toList s.vars false W args.toList ds gs before)
    (walk : Calls Tryd.prog f #[] W fun e W' => e = .returned (.bool true) ∧ Below W.heap.size W W') :
    Calls Tryd.prog f args W fun e W' => ∃ v, e = .returned v ∧ s.post enc Tryd.prog fn false true false false W args v W' := by
  have hW' := hW
  obtain ⟨p, q, hA0, hV, rfl, hfz, hnd⟩ := hW
  have hA : DataW.TrodAll enc Tryd.prog W 0 (fun _ => true) true fn.params.toList args.toList ds p := hA0
  rw [hp] at hA
  obtain ⟨hargs, rfl, rfl⟩ := trodAll_nil hA
  obtain rfl : args = #[] := by cases args; simp_all
  rw [hvars] at hV
  obtain ⟨rfl, rfl⟩ := trodVars_none hV
  refine walk.mono fun e W' ⟨he, hb⟩ => ?_
  subst he
  refine ⟨_, rfl, [], [], _, [], [], [], hW', ?_, ?_, ?_, hb.frame _, fun h => by cases h⟩
  · rw [hrt, show (([] : List (DataW H)) ++ []) = [] from rfl, hfn]
    exact trodAll_cons_mk (shut_bool Tryd.underlying4 true) trodAll_mk0
  · rw [hp, show (([] : List (DataW H)) ++ []) = [] from rfl, hfn]
    exact trodAll_mk0
  · rw [hvars, show (([] : List (DataW H)) ++ []) = [] from rfl, hfn]
    rfl
end Go.Proofs.YtilnanefkbdbkaaDoor
namespace Go.Proofs.YtilnanefkbdbkaaDoor
open Go.ChangeShapes Go.WideShapes Go.ChangeAt Go.RowKit
theorem star : ("*" ++ "errors.errorString" : String) = "*errors.errorString" := by decide
theorem errRow (u : TypeId) (h : Tryd.prog.typeName? 3 u = some "*errors.errorString") : u = 71 :=
  typeName_ptr_named (nm := "errors.errorString") (by rw [star]; kernel_rfl) (by kernel_rfl) (by decide) u (by rw [star]; exact h)
theorem cellsErr : Tryd.prog.cellsOf 89 = 1 := by kernel_rfl
theorem cellsStr : Tryd.prog.cellsOf 9 = 1 := by kernel_rfl
/-- A listed refusal. -/
def sentRow (x : String × List UInt8) : String × DataW Unit := (x.1, .iface "*errors.errorString" (.ptr (.agg [.lit (.string x.2)])))
set_option maxRecDepth 10000 in
theorem sents_list {W : World} (rest : List (String × DataW Unit)) : ∀ (L : List (String × List UInt8)) (ps : List MemPlace),
    DataW.LaidVars Tryd.prog W (L.map sentRow ++ rest) ps → ps.Nodup →
    (∀ b off, MemPlace.cell b off ∈ ps → (∃ c t, W.heap[b]? = some (.cells c t (0, 0))) ∧ ∀ u v, W.cell? ⟨b, off, none⟩ = some (.iface u v) → Value.okWide Tryd.prog W .any 0 u v) →
    (∀ x ∈ L, ∀ g t, Tryd.prog.globalNamed x.1 = some g → (Tryd.prog.globals[g]?).map (·.type) = some t → t = 34) →
    ∃ xs : List Addr, xs.length = L.length ∧ xs.Nodup ∧ (∀ a ∈ xs, MemPlace.cell a.block a.off ∈ ps ∧ ∃ c t, W.heap[a.block]? = some (.cells c t (0, 0))) ∧
      ∀ i (h : i < L.length) g, Tryd.prog.globalNamed (L[i]).1 = some g → W.cell? ⟨g, 0, none⟩ = some (.iface 71 (.pointer (some (xs.getD i ⟨0, 0, none⟩)))) := by
  intro L
  induction L with
  | nil => intro ps _ _ _ _; exact ⟨[], rfl, List.nodup_nil, (fun a h => by cases h), fun i h => absurd h (Nat.not_lt_zero _)⟩
  | cons x L ih =>
    intro ps hl hnd hrows hty
    obtain ⟨g0, t0, cs0, f0, p0, q0, hg0, ht0, hv0, hd0, hl', rfl⟩ := hl
    obtain rfl := hty x List.mem_cons_self g0 t0 hg0 ht0
    obtain ⟨l0⟩ := cs0
    have ok0 : ∀ u v, l0 = [.iface u v] → Value.okWide Tryd.prog W .any 0 u v := fun u v e => by
      subst e
      exact (hrows g0 0 (by simp [MemPlace.row])).2 u v (by simpa using World.var?_cell hg0 hv0 0)
    obtain ⟨a, s, rfl, _, _, _, rfl⟩ := errorString_of_trod Tryd.underlying34 errRow Tryd.underlying71 Tryd.underlying89 rfl rfl Tryd.underlying9 cellsErr cellsStr hd0 ok0
    have hnd1 := List.nodup_append.1 hnd
    obtain ⟨xs, h1, h2, h3, h4⟩ := ih q0 hl' hnd1.2.1 (fun b off hb => hrows b off (List.mem_append_right _ hb)) (fun y hy => hty y (List.mem_cons_of_mem _ hy))
    have hmem : MemPlace.cell a.block a.off ∈ MemPlace.row ⟨g0, 0, none⟩ (#[Value.iface 71 (.pointer (some a))] : Array Value).size ++ MemPlace.row a 1 := by simp [MemPlace.row]
    refine ⟨a :: xs, by simp [h1], List.nodup_cons.2 ⟨fun hin => ?_, h2⟩, fun b hb => ?_, fun i hi g hg => ?_⟩
    · exact (hnd1.2.2 _ hmem _ (h3 a hin).1) rfl
    · rcases List.mem_cons.1 hb with rfl | hb
      · exact ⟨List.mem_append_left _ hmem, (hrows _ _ (List.mem_append_left _ hmem)).1⟩
      · exact ⟨List.mem_append_right _ (h3 b hb).1, (h3 b hb).2⟩
    · cases i with
      | zero =>
        have e : g = g0 := Option.some.inj (hg.symm.trans hg0)
        subst e
        simpa using World.var?_cell hg0 hv0 0
      | succ i => exact h4 i (by simpa using hi) g hg
/-- The text of a listed refusal. -/
def sentText : DataW Unit → List UInt8
  | .iface _ (.ptr (.agg [.lit (.string s)])) => s
  | _ => []
def sentList : List (String × List UInt8) := [("caesura/api.ErrArg", sentText Rows.laid_caesura_api_ErrArg), ("caesura/api.ErrText", sentText Rows.laid_caesura_api_ErrText), ("caesura/api.ErrMany", sentText Rows.laid_caesura_api_ErrMany), ("caesura/api.ErrShort", sentText Rows.laid_caesura_api_ErrShort), ("caesura/api.ErrTwice", sentText Rows.laid_caesura_api_ErrTwice), ("caesura/api.ErrLost", sentText Rows.laid_caesura_api_ErrLost), ("caesura/api.ErrOrder", sentText Rows.laid_caesura_api_ErrOrder), ("caesura/api.ErrCycle", sentText Rows.laid_caesura_api_ErrCycle), ("caesura/api.ErrSum", sentText Rows.laid_caesura_api_ErrSum), ("caesura/api.ErrForm", sentText Rows.laid_caesura_api_ErrForm), ("caesura/api.ErrEnd", sentText Rows.laid_caesura_api_ErrEnd)]
theorem sentTypes : ∀ x ∈ sentList, ∀ g t, Tryd.prog.globalNamed x.1 = some g → (Tryd.prog.globals[g]?).map (·.type) = some t → t = 34 := by
  have h : (sentList.all fun x => match Tryd.prog.globalNamed x.1 with | some g => (Tryd.prog.globals[g]?).map (·.type) == some 34 | none => true) = true := by kernel_rfl
  intro x hx g t hg ht
  have := List.all_eq_true.1 h x hx
  rw [hg] at this
  simp only [ht] at this
  simpa using this
theorem g_ErrArg : Tryd.prog.globalNamed "caesura/api.ErrArg" = some 0 := by kernel_rfl
theorem g_ErrText : Tryd.prog.globalNamed "caesura/api.ErrText" = some 1 := by kernel_rfl
theorem g_ErrMany : Tryd.prog.globalNamed "caesura/api.ErrMany" = some 2 := by kernel_rfl
theorem g_ErrShort : Tryd.prog.globalNamed "caesura/api.ErrShort" = some 3 := by kernel_rfl
theorem g_ErrTwice : Tryd.prog.globalNamed "caesura/api.ErrTwice" = some 4 := by kernel_rfl
theorem g_ErrLost : Tryd.prog.globalNamed "caesura/api.ErrLost" = some 6 := by kernel_rfl
theorem g_ErrOrder : Tryd.prog.globalNamed "caesura/api.ErrOrder" = some 5 := by kernel_rfl
theorem g_ErrCycle : Tryd.prog.globalNamed "caesura/api.ErrCycle" = some 7 := by kernel_rfl
theorem g_ErrSum : Tryd.prog.globalNamed "caesura/api.ErrSum" = some 8 := by kernel_rfl
theorem g_ErrForm : Tryd.prog.globalNamed "caesura/api.ErrForm" = some 9 := by kernel_rfl
theorem g_ErrEnd : Tryd.prog.globalNamed "caesura/api.ErrEnd" = some 10 := by kernel_rfl
theorem sents_of {W : World} {rest : List (String × DataW Unit)} (h : laidMet Tryd.prog (sentList.map sentRow ++ rest) W) : ∃ A, Sents W A := by
  obtain ⟨ps, hl, hnd, hrows⟩ := h
  obtain ⟨xs, h1, h2, h3, h4⟩ := sents_list rest sentList ps hl hnd hrows sentTypes
  have h11 : xs.length = 11 := h1
  refine ⟨fun i => xs.getD i ⟨0, 0, none⟩, h4 0 (by decide) _ g_ErrArg, h4 1 (by decide) _ g_ErrText, h4 2 (by decide) _ g_ErrMany, h4 3 (by decide) _ g_ErrShort, h4 4 (by decide) _ g_ErrTwice, h4 5 (by decide) _ g_ErrLost, h4 6 (by decide) _ g_ErrOrder, h4 7 (by decide) _ g_ErrCycle, h4 8 (by decide) _ g_ErrSum, h4 9 (by decide) _ g_ErrForm, h4 10 (by decide) _ g_ErrEnd, fun i j hi hj hij e => ?_, fun i hi => ?_⟩
  · have hi' : i < xs.length := by omega
    have hj' : j < xs.length := by omega
    simp only [List.getD_eq_getElem?_getD, List.getElem?_eq_getElem hi', List.getElem?_eq_getElem hj', Option.getD_some] at e
    exact hij ((List.getElem_inj h2).1 e)
  · have hi' : i < xs.length := by omega
    simp only [List.getD_eq_getElem?_getD, List.getElem?_eq_getElem hi', Option.getD_some]
    exact (h3 _ (List.getElem_mem hi')).2
end Go.Proofs.YtilnanefkbdbkaaDoor
namespace Go.Proofs.YtilnanefkbdbkaaDoor
open Go.ChangeShapes Go.WideShapes Go.ChangeAt Go.RowKit Go.Joins
theorem cellsInt : Tryd.prog.cellsOf 3 = 1 := by kernel_rfl
theorem cellsInts : Tryd.prog.cellsOf 28 = 1 := by kernel_rfl
theorem cellsRows : Tryd.prog.cellsOf 22 = 1 := by kernel_rfl
theorem cellsMach : Tryd.prog.cellsOf 24 = 3 := by kernel_rfl
theorem cellsBool : Tryd.prog.cellsOf 4 = 1 := by kernel_rfl
theorem cellsBools : Tryd.prog.cellsOf 25 = 1 := by kernel_rfl
theorem cellsPair : Tryd.prog.cellsOf 27 = 8 := by kernel_rfl
theorem cellsRead : Tryd.prog.cellsOf 30 = 10 := by kernel_rfl
theorem bulk_lits {H : Type} (zs : List Int) : zs.length ≤ Rows.uptoBulkAll (H := H) (lits .i64 zs) := by
  induction zs with
  | nil => simp [lits]
  | cons z zs ih =>
    have e : (lits (H := H) .i64 (z :: zs)) = .lit (.int .i64 z) :: lits .i64 zs := rfl
    rw [e, Rows.uptoBulkAll, List.length_cons]
    have h1 : 1 ≤ Rows.uptoBulk (H := H) (.lit (.int .i64 z)) := by simp [Rows.uptoBulk]
    omega
theorem lt_of_cell {W : World} {b o : Nat} {u : Value} (h : W.cell? ⟨b, o, none⟩ = some u) : b < W.heap.size := World.block_lt_of_cell? W _ h
theorem bulk_map {H : Type} (D : Nat → DataW H) (l : List Nat) (h : ∀ i ∈ l, 1 ≤ Rows.uptoBulk (D i)) : l.length ≤ Rows.uptoBulkAll (l.map D) ∧ ∀ i ∈ l, Rows.uptoBulk (D i) ≤ Rows.uptoBulkAll (l.map D) := by
  induction l with
  | nil => simp
  | cons x r ih =>
    rw [List.map_cons, Rows.uptoBulkAll, List.length_cons]
    have h1 := h x (.head _)
    have h2 := ih (fun i hi => h i (.tail _ hi))
    refine ⟨by omega, fun i hi => ?_⟩
    rcases List.mem_cons.1 hi with rfl | hi
    · omega
    · have := h2.2 i hi; omega
theorem no_spot {W : World} {a : Addr} {u : Value} (h : W.cell? (a.add 0) = some u) : a.spot = none := by
  obtain ⟨b, off, spot⟩ := a
  cases spot with
  | none => rfl
  | some sp =>
    exfalso
    rw [show (⟨b, off, some sp⟩ : Addr).add 0 = ⟨b, off, some sp⟩ from rfl] at h
    unfold World.cell? at h
    split at h <;> simp at h
/-- Numbers that are read. -/
theorem open_points {H : Type} {enc : TypeId × Value → H} {W : World} {n : Nat} {c : Value} {x : DataW H × List MemPlace} (hf : DataW.trod enc Tryd.prog W 0 (fun _ => true) true n 28 [c] = some x) :
    ∃ (a : Option Addr) (ps : List Int) (cap : Nat), c = .slice a ps.length cap ∧ IA W a ps ∧ ps.length ≤ Rows.uptoBulk x.1 ∧ (a = none → cap = 0) := by
  rcases open_ints Tryd.underlying28 Tryd.underlying3 cellsInt hf with ⟨h1, h2⟩ | ⟨a, len, cap, zs, h1, h2, h3, h4, h5, h6, h7, h8⟩
  · simp only [List.cons.injEq, and_true] at h1
    exact ⟨none, [], 0, h1, ⟨fun k h => absurd h (Nat.not_lt_zero _)⟩, by simp, fun _ => rfl⟩
  · simp only [List.cons.injEq, and_true] at h1
    simp only [if_true] at h5
    have hl : (zs.take len).length = len := by rw [List.length_take]; omega
    have hb := bulk_lits (H := H) (zs.take len)
    refine ⟨some a, zs.take len, cap, by rw [hl]; exact h1, ⟨fun k hk' => ?_⟩, ?_, fun e => by cases e⟩
    · rw [hl] at hk'
      have h9 := h7 k (by omega)
      have hs := no_spot (h7 0 (by omega))
      obtain ⟨b, off, spot⟩ := a
      simp only at hs
      subst hs
      rw [Addr.add_lit] at h9
      refine ⟨b, off, rfl, lt_of_cell h9, ?_⟩
      rw [h9]
      congr 2
      rw [List.getElem_take, List.getD_eq_getElem?_getD, List.getElem?_eq_getElem (by omega)]
      rfl
    · rw [h6]
      simp only [Rows.uptoBulk]
      omega
/-- Lists of numbers that are read. -/
theorem open_rowsI {H : Type} {enc : TypeId × Value → H} {W : World} {n : Nat} {c : Value} {x : DataW H × List MemPlace} (hf : DataW.trod enc Tryd.prog W 0 (fun _ => true) true n 22 [c] = some x) :
    ∃ (a : Option Addr) (L : List (List Int)) (cap : Nat), c = .slice a L.length cap ∧ RwC W a L ∧ L.length ≤ Rows.uptoBulk x.1 ∧ ∀ r ∈ L, r.length ≤ Rows.uptoBulk x.1 := by
  rcases Deep.open_int_rows Tryd.underlying22 Tryd.underlying28 Tryd.underlying3 cellsInts cellsInt hf with ⟨h1, h2⟩ | ⟨a, len, cap, A, Ln, C, Z, h1, _, h3, _, h5, h6⟩
  · simp only [List.cons.injEq, and_true] at h1
    exact ⟨none, [], 0, h1, ⟨fun k h => absurd h (Nat.not_lt_zero _)⟩, by simp, fun r hr => by cases hr⟩
  · simp only [List.cons.injEq, and_true] at h1
    have hrl : ∀ r, r < len → ((Z r).take (Ln r)).length = Ln r := fun r hr => by
      obtain ⟨_, q1, _, q2, _⟩ := h6 r (by omega)
      rw [List.length_take]
      omega
    have hbk : ∀ r, r < len → Ln r + 1 ≤ Rows.uptoBulk (Deep.intRow (H := H) .i64 (A r) (Ln r) (Z r)) := fun r hr => by
      obtain ⟨_, q1, _, q2, _, q3, _⟩ := h6 r (by omega)
      have hz := hrl r hr
      cases e : A r with
      | none =>
        have := q3 e
        simp only [Deep.intRow, Rows.uptoBulk]
        omega
      | some a' =>
        have hb := bulk_lits (H := H) ((Z r).take (Ln r))
        simp only [Deep.intRow, Rows.uptoBulk]
        omega
    obtain ⟨k1, k2⟩ := bulk_map (H := H) (fun r => Deep.intRow .i64 (A r) (Ln r) (Z r)) (List.range len) (fun i hi => by have := hbk i (List.mem_range.1 hi); omega)
    rw [List.length_range] at k1
    refine ⟨some a, (List.range len).map fun r => (Z r).take (Ln r), cap, by simpa using h1, ⟨fun k hk => ?_⟩, ?_, fun r hr => ?_⟩
    · have hk' : k < len := by simpa using hk
      have hs := no_spot (h6 0 (by omega)).1
      obtain ⟨q0, q1, q2, q3, q4, q5, q6⟩ := h6 k (by omega)
      have hz := hrl k hk'
      obtain ⟨b, off, spot⟩ := a
      simp only at hs
      subst hs
      rw [Addr.add_lit] at q0
      have eg : ((List.range len).map fun r => (Z r).take (Ln r))[k] = (Z k).take (Ln k) := by simp
      refine ⟨b, off, rfl, lt_of_cell q0, A k, C k, ?_, ⟨fun j hj => ?_⟩, by rw [eg, hz]; exact q1⟩
      · rw [eg, hz]; exact q0
      · have hj' : j < Ln k := by rw [eg, hz] at hj; exact hj
        cases e : A k with
        | none => have := q5 e; omega
        | some a' =>
          obtain ⟨_, q7⟩ := q6 a' e
          have hs := no_spot (q7 0 (by omega))
          have h9 := q7 j (by omega)
          obtain ⟨b', off', spot'⟩ := a'
          simp only at hs
          subst hs
          rw [Addr.add_lit] at h9
          refine ⟨b', off', rfl, lt_of_cell h9, ?_⟩
          rw [h9]
          congr 2
          simp only [eg]
          rw [List.getElem_take, List.getD_eq_getElem?_getD, List.getElem?_eq_getElem (by omega)]
          rfl
    · rw [List.length_map, List.length_range, h5]
      simp only [Rows.uptoBulk]
      omega
    · obtain ⟨i, hi, rfl⟩ := List.mem_map.1 hr
      have hi' := List.mem_range.1 hi
      have h7 := k2 i hi
      have h8 := hbk i hi'
      rw [hrl i hi', h5]
      simp only [Rows.uptoBulk]
      omega
/-- A machine that is read. -/
theorem open_mach {H : Type} {enc : TypeId × Value → H} {W : World} {n : Nat} {c0 c1 c2 : Value} {x : DataW H × List MemPlace} (g0 : DataW.trod enc Tryd.prog W 0 (fun _ => true) true n 24 [c0, c1, c2] = some x) :
    ∃ (st : Int) (N O : List (List Int)) (aN aO : Option Addr) (cN cO : Nat), c0 = .int .i64 st ∧ c1 = .slice aN N.length cN ∧ c2 = .slice aO O.length cO ∧ RwC W aN N ∧ RwC W aO O ∧ N.length ≤ Rows.uptoBulk x.1 ∧ O.length ≤ Rows.uptoBulk x.1 ∧ (∀ r ∈ N, r.length ≤ Rows.uptoBulk x.1) ∧ ∀ r ∈ O, r.length ≤ Rows.uptoBulk x.1 := by
  obtain ⟨zs, n2, _, hx2, _, hzl, hgs⟩ := DataW.trod_struct Tryd.underlying24 g0
  obtain ⟨z0, z1, z2, rfl⟩ : ∃ z0 z1 z2, zs = [z0, z1, z2] := by
    match zs, hzl with
    | [z0, z1, z2], _ => exact ⟨z0, z1, z2, rfl⟩
  have e0 := hgs 0 _ rfl
  have e1 := hgs 1 _ rfl
  have e2 := hgs 2 _ rfl
  have k0 : DataW.trod enc Tryd.prog W 0 (fun _ => true) true n2 3 [c0] = some z0 := by simpa [cellsInt] using e0
  have k1 : DataW.trod enc Tryd.prog W 0 (fun _ => true) true n2 22 [c1] = some z1 := by simpa [cellsInt, cellsRows] using e1
  have k2 : DataW.trod enc Tryd.prog W 0 (fun _ => true) true n2 22 [c2] = some z2 := by simpa [cellsInt, cellsRows] using e2
  obtain ⟨st, q0, _, _⟩ := DataW.trod_int Tryd.underlying3 k0
  simp only [List.cons.injEq, and_true] at q0
  obtain ⟨aN, N, cN, r1, rN, bN, rbN⟩ := open_rowsI k1
  obtain ⟨aO, O, cO, r2, rO, bO, rbO⟩ := open_rowsI k2
  have hd0 : Rows.uptoBulk x.1 = Rows.uptoBulk z0.1 + Rows.uptoBulk z1.1 + Rows.uptoBulk z2.1 + 1 := by
    have := congrArg Prod.fst hx2
    simp only at this
    rw [this]
    simp [Rows.uptoBulk, Rows.uptoBulkAll]
    omega
  exact ⟨st, N, O, aN, aO, cN, cO, q0, r1, r2, rN, rO, by omega, by omega, fun r hr => by have := rbN r hr; omega, fun r hr => by have := rbO r hr; omega⟩
/-- Bools that are read. -/
theorem open_bo {H : Type} {enc : TypeId × Value → H} {W : World} {n : Nat} {c : Value} {x : DataW H × List MemPlace} (hf : DataW.trod enc Tryd.prog W 0 (fun _ => true) true n 25 [c] = some x) :
    ∃ (a : Option Addr) (B : List Bool) (cap : Nat), c = .slice a B.length cap ∧ BoA W a B ∧ B.length ≤ Rows.uptoBulk x.1 ∧ (a = none → cap = 0) := by
  rcases Deep.open_bools Tryd.underlying25 Tryd.underlying4 cellsBool hf with ⟨h1, h2⟩ | ⟨a, len, cap, B, h1, h2, h3, h4, h5, h6⟩
  · simp only [List.cons.injEq, and_true] at h1
    exact ⟨none, [], 0, h1, ⟨fun k h => absurd h (Nat.not_lt_zero _)⟩, by simp, fun _ => rfl⟩
  · simp only [List.cons.injEq, and_true] at h1
    refine ⟨some a, (List.range len).map B, cap, by simpa using h1, ⟨fun k hk => ?_⟩, ?_, fun e => by cases e⟩
    · have hk' : k < len := by simpa using hk
      have h9 := h6 k (by omega)
      have hs := no_spot (h6 0 (by omega))
      obtain ⟨b, off, spot⟩ := a
      simp only at hs
      subst hs
      rw [Addr.add_lit] at h9
      refine ⟨b, off, rfl, lt_of_cell h9, ?_⟩
      rw [h9]
      simp
    · rw [List.length_map, List.length_range, h5]
      have hb := bulk_map (H := H) (fun i => .lit (.bool (B i))) (List.range len) (fun i _ => by simp [Rows.uptoBulk])
      rw [List.length_range] at hb
      simp only [Deep.boolRow, Rows.uptoBulk]
      have := hb.1
      omega
/-- What is asked, read. -/
theorem open_read {H : Type} {enc : TypeId × Value → H} {W : World} {base : Nat} {v : Value} {d : DataW H} {p : List MemPlace} (hv : Value.okWide Tryd.prog W .any base 30 v)
    (h0 : DataW.Trod enc Tryd.prog W 0 (fun _ => true) true 30 v d p) :
    ∃ (sl sr sy : Int) (N O M P : List (List Int)) (B : List Bool) (el : Bool) (l : List Int) (aN aO aM aP aB aw : Option Addr) (cN cO cM cP cB cw : Nat), v = .agg #[.int .i64 sl, .slice aN N.length cN, .slice aO O.length cO, .int .i64 sr, .slice aM M.length cM, .slice aP P.length cP, .slice aB B.length cB, .bool el, .int .i64 sy, .slice aw l.length cw] ∧ RwC W aN N ∧ RwC W aO O ∧ RwC W aM M ∧ RwC W aP P ∧ BoA W aB B ∧ IA W aw l ∧ (aB = none → cB = 0) ∧
      (N.length ≤ Rows.uptoBulk d ∧ O.length ≤ Rows.uptoBulk d ∧ M.length ≤ Rows.uptoBulk d ∧ P.length ≤ Rows.uptoBulk d ∧ B.length ≤ Rows.uptoBulk d ∧ l.length ≤ Rows.uptoBulk d) ∧ (∀ r ∈ N, r.length ≤ Rows.uptoBulk d) ∧ (∀ r ∈ O, r.length ≤ Rows.uptoBulk d) ∧ (∀ r ∈ M, r.length ≤ Rows.uptoBulk d) ∧ (∀ r ∈ P, r.length ≤ Rows.uptoBulk d) := by
  obtain ⟨fuel, hf⟩ := h0
  have hcs : ∃ cs, v = .agg cs := by
    simp only [Value.okWide, Tryd.underlying30] at hv
    obtain ⟨cs, h1, _⟩ := hv
    exact ⟨cs, h1⟩
  obtain ⟨cs, rfl⟩ := hcs
  obtain ⟨xs, n, _, hx, hlen, hxl, hfs⟩ := DataW.trod_struct Tryd.underlying30 hf
  rw [cellsRead] at hlen
  obtain ⟨l⟩ := cs
  match l, hlen with
  | [c0, c1, c2, c3, c4, c5, c6, c7, c8, c9], _ =>
    obtain ⟨y0, y1, y2, rfl⟩ : ∃ y0 y1 y2, xs = [y0, y1, y2] := by
      match xs, hxl with
      | [y0, y1, y2], _ => exact ⟨y0, y1, y2, rfl⟩
    have f0 := hfs 0 _ rfl
    have f1 := hfs 1 _ rfl
    have f2 := hfs 2 _ rfl
    have g0 : DataW.trod enc Tryd.prog W 0 (fun _ => true) true n 27 [c0, c1, c2, c3, c4, c5, c6, c7] = some y0 := by simpa [Value.cells, cellsPair] using f0
    have g1 : DataW.trod enc Tryd.prog W 0 (fun _ => true) true n 3 [c8] = some y1 := by simpa [Value.cells, cellsPair, cellsInt] using f1
    have g2 : DataW.trod enc Tryd.prog W 0 (fun _ => true) true n 28 [c9] = some y2 := by simpa [Value.cells, cellsPair, cellsInt, cellsInts] using f2
    obtain ⟨zs, n2, _, hx2, _, hzl, hgs⟩ := DataW.trod_struct Tryd.underlying27 g0
    obtain ⟨z0, z1, z2, z3, rfl⟩ : ∃ z0 z1 z2 z3, zs = [z0, z1, z2, z3] := by
      match zs, hzl with
      | [z0, z1, z2, z3], _ => exact ⟨z0, z1, z2, z3, rfl⟩
    have e0 := hgs 0 _ rfl
    have e1 := hgs 1 _ rfl
    have e2 := hgs 2 _ rfl
    have e3 := hgs 3 _ rfl
    have k0 : DataW.trod enc Tryd.prog W 0 (fun _ => true) true n2 24 [c0, c1, c2] = some z0 := by simpa [cellsMach] using e0
    have k1 : DataW.trod enc Tryd.prog W 0 (fun _ => true) true n2 24 [c3, c4, c5] = some z1 := by simpa [cellsMach] using e1
    have k2 : DataW.trod enc Tryd.prog W 0 (fun _ => true) true n2 25 [c6] = some z2 := by simpa [cellsMach, cellsBools] using e2
    have k3 : DataW.trod enc Tryd.prog W 0 (fun _ => true) true n2 4 [c7] = some z3 := by simpa [cellsMach, cellsBools, cellsBool] using e3
    obtain ⟨sl, N, O, aN, aO, cN, cO, rfl, rfl, rfl, rN, rO, b1, b1', b2, b3⟩ := open_mach k0
    obtain ⟨sr, M, P, aM, aP, cM, cP, rfl, rfl, rfl, rM, rP, b4, b4', b5, b6⟩ := open_mach k1
    obtain ⟨aB, B, cB, rfl, rB, b7, nB⟩ := open_bo k2
    obtain ⟨el, q3, _⟩ := DataW.trod_bool Tryd.underlying4 k3
    simp only [List.cons.injEq, and_true] at q3
    subst q3
    obtain ⟨sy, q1, _, _⟩ := DataW.trod_int Tryd.underlying3 g1
    simp only [List.cons.injEq, and_true] at q1
    subst q1
    obtain ⟨aw, l, cw, rfl, il, b8, _⟩ := open_points g2
    have hd : Rows.uptoBulk d = Rows.uptoBulk y0.1 + Rows.uptoBulk y1.1 + Rows.uptoBulk y2.1 + 1 := by
      have := congrArg Prod.fst hx
      simp only at this
      rw [this]
      simp [Rows.uptoBulk, Rows.uptoBulkAll]
      omega
    have hd2 : Rows.uptoBulk y0.1 = Rows.uptoBulk z0.1 + Rows.uptoBulk z1.1 + Rows.uptoBulk z2.1 + Rows.uptoBulk z3.1 + 1 := by
      have := congrArg Prod.fst hx2
      simp only at this
      rw [this]
      simp [Rows.uptoBulk, Rows.uptoBulkAll]
      omega
    exact ⟨sl, sr, sy, N, O, M, P, B, el, l, aN, aO, aM, aP, aB, aw, cN, cO, cM, cP, cB, cw, rfl, rN, rO, rM, rP, rB, il, nB, ⟨by omega, by omega, by omega, by omega, by omega, by omega⟩, fun r hr => by have := b2 r hr; omega, fun r hr => by have := b3 r hr; omega, fun r hr => by have := b5 r hr; omega, fun r hr => by have := b6 r hr; omega⟩
set_option maxRecDepth 100000 in
theorem pairReads_walk {H : Type} (enc : TypeId × Value → H) (W : World) (base : Nat) (hL : laidMetH Tryd.prog Rows.pairReadsUptoRow.laid W) (v : Value) (d : DataW H) (p : List MemPlace) (hv : Value.okWide Tryd.prog W .any base 30 v)
    (h0 : DataW.Trod enc Tryd.prog W 0 (fun _ => true) true 30 v d p) (_hlt : ∀ x ∈ p, x.block < W.heap.size) (_hw : ∀ x ∈ d.weights Tryd.prog 30, x ≤ reachBytes) (hk : Rows.uptoSmall H ([d] ++ []) = true) :
    Calls Tryd.prog 3 #[v] W fun e W' => e = .returned (.bool true) ∧ Below W.heap.size W W' := by
  obtain ⟨sl, sr, sy, N, O, M, P, B, el, l, aN, aO, aM, aP, aB, aw, cN, cO, cM, cP, cB, cw, rfl, rN, rO, rM, rP, rB, il, nB, ⟨b1, b2, b3, b4, b5, b6⟩, s1, s2, s3, s4⟩ := open_read hv h0
  obtain ⟨A, hA⟩ := sents_of (rest := []) hL
  have hs := of_decide_eq_true hk
  simp only [List.append_nil, Rows.uptoBulkAll] at hs
  exact pairReads_any A sl sr N O M P B el aN aO aM aP aB cN cO cM cP cB sy l aw cw W ⟨by show N.length ≤ _; omega, by show M.length ≤ _; omega, by show B.length ≤ _; omega, fun r hr => by have := s1 r hr; omega, fun r hr => by have := s2 r hr; omega, fun r hr => by have := s3 r hr; omega, fun r hr => by have := s4 r hr; omega⟩ ⟨rN, rO, rM, rP, rB⟩ (by omega) (by omega) nB (by omega) il hA
set_option maxRecDepth 100000 in
theorem pairReads_lifted (os : Os) (started : os.Started) (H : Type) (enc : TypeId × Value → H) (F : Stop.Interp) :
    ReturnsInHanded {} Tryd.checked os 3 .any ((Rows.OpenSpec.upto Rows.pairReadsSpec).preRow enc Tryd.prog Tryd.f3 Rows.pairReadsUptoRow.domain false Rows.pairReadsUptoRow.laid) (((Rows.OpenSpec.upto Rows.pairReadsSpec).at F).post enc Tryd.prog Tryd.f3 false true false false) := by
  refine returnsInHanded_of_row (C := Tryd.checked) (s := Rows.OpenSpec.upto Rows.pairReadsSpec) own started (by kernel_rfl) Tryd.func3
    (witness_row_shaped (enc := enc) (C := Tryd.checked) (World.laidAll Tryd.prog os Rows.pairReadsUptoRow.laid) #[.agg #[.int .i64 0, .slice none 0 0, .slice none 0 0, .int .i64 0, .slice none 0 0, .slice none 0 0, .slice none 0 0, .bool false, .int .i64 0, .slice none 0 0]] (World.laidAll_os _ _ _) (World.shaped_of_ZipB (by kernel_rfl) (by kernel_rfl)) (by kernel_rfl)
      (OpenSpec.preRow_of_cond 8 (x := ([.agg [.agg [.agg [.lit (.int .i64 0), .nil, .nil], .agg [.lit (.int .i64 0), .nil, .nil], .nil, .lit (.bool false)], .lit (.int .i64 0), .nil]], [], [])) (by kernel_rfl) (by kernel_rfl) (fun k hk => by cases hk; kernel_rfl) (by kernel_rfl) (laidMet_laidAll _ (by kernel_rfl) (by kernel_rfl)))) ?_
  intro W base args ds gs before hval hW _ hcond hsz hL _ _
  exact law_contract rfl rfl rfl (fun _ _ => rfl) (by kernel_rfl) (of_decide_eq_true (by kernel_rfl)) W base args ds gs before hval hW hsz (fun v d p hv h0 hlt hw e1 e2 => pairReads_walk enc W base hL v d p hv h0 hlt hw (by have := hcond _ rfl; rw [e1, e2] at this; exact this))
theorem pairReads_said : Rows.PairReadsUptoSaid :=
  OpenClaim.holds_of_cond 3 Tryd.f3 rfl rfl rfl rfl rfl rfl rfl ⟨rfl, rfl, rfl, rfl, rfl⟩ rfl rfl rfl rfl rfl (by kernel_rfl) Tryd.func3 (by kernel_rfl)
    (of_decide_eq_true (by kernel_rfl)) (by unfold Func.isWrapper; first | (rw [if_pos (by decide +kernel)]; kernel_rfl) | (rw [if_neg (by decide +kernel)]; exact ⟨rfl, rfl⟩))
    (fun os started H enc _ F => by rw [OpenClaim.pre_eq_preRow]; exact pairReads_lifted os started H enc F)
theorem pairReads_plain (f : FuncId) (fn : Func) (hf : Tryd.pinned.checked.prog.funcNamed "caesura/caesuralaw14.PairReads" = some f) (hfn : Tryd.pinned.checked.prog.funcs[f]? = some fn) :
    true = Tryd.pinned.checked.prog.looks [] ∧ ∀ (j : Nat) t, fn.params[j]? = some t → Tryd.pinned.checked.prog.wantsStandIn t = false := by
  obtain rfl : f = 3 := Option.some.inj ((show Tryd.prog.funcNamed "caesura/caesuralaw14.PairReads" = some 3 by kernel_rfl).symm.trans hf) |>.symm
  obtain rfl : fn = Tryd.f3 := (Option.some.inj (Tryd.func3.symm.trans hfn)).symm
  refine ⟨by kernel_rfl, fun j t ht => ?_⟩
  rw [Tryd.params3] at ht
  obtain rfl : t = 30 := by simpa using Array.mem_of_getElem? ht
  exact (show Tryd.prog.wantsStandIn 30 = false by kernel_rfl)
theorem pairReads_card : Rows.PairReadsUptoCardSaid :=
  Claim7.holds_tied_plain_at .later [] _ _ _ _ pairReads_said (fun _ h => by cases h) (by kernel_rfl) (fun _ h => by cases h) pairReadsUpto_row_tie rfl ⟨rfl, rfl⟩ (by kernel_rfl) rfl pairReads_plain (by kernel_rfl)
end Go.Proofs.YtilnanefkbdbkaaDoor
