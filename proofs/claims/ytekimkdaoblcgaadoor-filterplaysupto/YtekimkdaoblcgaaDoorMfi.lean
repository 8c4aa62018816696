/-
  FjRW, FjSW, FjLW, FjNW, FjMW, FjOW, FjIW, FjJW.
-/
import Derived.Test.YtekimkdaoblcgaaDoorMfh
import Derived.Test.YtekimkdaoblcgaaDoorMff
import Derived.Test.YtekimkdaoblcgaaDoorMfg
import Derived.Test.YtekimkdaoblcgaaDoorMfc
namespace Go.Proofs.YtekimkdaoblcgaaDoor
open Go.RowKit Go.Shelf Go.Maps
section
variable {w : World} {p p2 : Prg} {q q2 : PrL} {tr : List Int} {E : List (List Int)} {sy bef : Int} {f : FlL} {g : RfL}
set_option maxRecDepth 100000 in
set_option maxHeartbeats 3200000 in
theorem told_any (A : Nat → Addr) (P l : List Int) (lo gP cP gW cW : Nat) (aP aW : Option Addr) (dP dW : Nat) (h : FlA w p q (decide (0 ≤ bef)) tr E bef f) (hs : FlS p tr E) (hr : RfA w p q2 sy bef tr E g) (hl : l.length ≤ 100000000) (hl2 : P.length ≤ 100000000) (hp : MkL w lo gP cP P) (hw : MkL w lo gW cW l) (hpa : IA w aP P) (hwa : IA w aW l) (hI : ∀ c ∈ P, inI c) (hS : Sents w A) :
    Calls Tryd.prog 35 #[.pointer (some ⟨f.X, 0, none⟩), .pointer (some ⟨g.X, 0, none⟩), .slice (some ⟨gP, 0, none⟩) P.length cP, .slice (some ⟨gW, 0, none⟩) l.length cW, .agg #[.slice aP P.length dP, .slice aW l.length dW]] w fun e w' => e = .returned (.bool true) ∧ Below w.heap.size w w' := by
  obtain ⟨w0, hw0⟩ : ∃ w0, w.alloc (.cells #[.slice aP P.length dP, .slice aW l.length dW] 41) = w0 := ⟨_, rfl⟩
  have hB0 : Below w.heap.size w w0 := by rw [← hw0]; exact (Below.refl _ _).alloc (Nat.le_refl _) _
  have hz0 : w0.heap.size = w.heap.size + 1 := by rw [← hw0]; simp
  have hr0 : w0.heap[w.heap.size]? = some (.cells #[.slice aP P.length dP, .slice aW l.length dW] 41 (0, 0)) := by rw [← hw0]; exact heap_alloc_new _ _
  have HC : Hid (∀ V : World, Below w0.heap.size w0 V → V.cell? ⟨w.heap.size, 0, none⟩ = some (.slice aP P.length dP) ∧ V.cell? ⟨w.heap.size, 1, none⟩ = some (.slice aW l.length dW)) := hid0 (fun V hV => by
    have hx := (hV.block w.heap.size (by omega)).trans hr0
    exact ⟨by rw [cell_of_row _ _ _ _ _ _ hx]; rfl, by rw [cell_of_row _ _ _ _ _ _ hx]; rfl⟩)
  have HIn : Hid (∀ V : World, Below w0.heap.size w0 V → FlA V p q (decide (0 ≤ bef)) tr E bef f ∧ RfA V p q2 sy bef tr E g ∧ MkL V lo gP cP P ∧ MkL V lo gW cW l ∧ IA V aP P ∧ IA V aW l ∧ Sents V A ∧ Below w.heap.size w V) := hid0 (fun V hV => by
    have hq := hB0.trans (hV.mono hB0.size)
    exact ⟨h.past hq, hr.past hq, hp.past hq, hw.past hq, hpa.past hq, hwa.past hq, hS.below hq, hq⟩)
  have hHl : (rhL bef E tr P l).length ≤ 100000000 := Nat.le_trans (rhL_len bef E tr P l) hl
  have hDl : (decF p.sl p.N p.O p.sr p.M p.P l).length ≤ 100000000 := by unfold decF; simp; omega
  obtain ⟨ok, hok⟩ : ∃ ok, ok = (decide (P.length = l.length) && okD p.sl p.N p.O p.sr p.M p.P p.B.length l) := ⟨_, rfl⟩
  obtain ⟨LB, hLB⟩ : ∃ LB, LB = (if ok then fbF (decF p.sl p.N p.O p.sr p.M p.P l) p.B p.el bef (hdF (decide (0 ≤ bef)) E tr P l) l.length else []) := ⟨_, rfl⟩
  obtain ⟨LH, hLH⟩ : ∃ LH, LH = rhL bef E tr P l := ⟨_, rfl⟩
  obtain ⟨ev, hev⟩ : ∃ ev, ev = errC A ok := ⟨_, rfl⟩
  obtain ⟨ez, hez⟩ : ∃ ez, ez = numC ok := ⟨_, rfl⟩
  have hLBl : LB.length ≤ 100000002 := by
    rw [hLB]
    split
    · exact Nat.le_trans (fb_len _ _ _ _ _ _) (by omega)
    · simp
  have hLHl : LH.length ≤ 100000002 := by rw [hLH]; omega
  have HH : Hid (∀ V : World, Below w0.heap.size w0 V → Calls Tryd.prog 21 #[.pointer (some ⟨f.X, 0, none⟩), .slice (some ⟨gP, 0, none⟩) P.length cP, .slice (some ⟨gW, 0, none⟩) l.length cW] V fun e w' => ∃ v, e = .returned v ∧ OwnI w' V.heap.size v LH ∧ Below V.heap.size V w') := hid0 (fun V hV => by
    rw [hLH]
    exact hiddenE_any P l _ _ cP cW (HIn.out V hV).1 hs hl (HIn.out V hV).2.2.1.ia (HIn.out V hV).2.2.2.1.ia hI)
  have HK : Hid (∀ V : World, Below w0.heap.size w0 V → Calls Tryd.prog 8 #[.pointer (some ⟨f.X, 0, none⟩), .slice (some ⟨gP, 0, none⟩) P.length cP, .slice (some ⟨gW, 0, none⟩) l.length cW] V fun e w' => ∃ v, e = .returned (.tuple #[v, ev]) ∧ OwnI w' V.heap.size v LB ∧ Below V.heap.size V w') := hid0 (fun V hV => by
    rw [hLB, hev, hok]
    exact fbreaks_any A P l _ _ cP cW (HIn.out V hV).1 hs hl (HIn.out V hV).2.2.1.ia (HIn.out V hV).2.2.2.1.ia hI (HIn.out V hV).2.2.2.2.2.2.1)
  have HRH : Hid (∀ V : World, Below w0.heap.size w0 V → Calls Tryd.prog 53 #[.pointer (some ⟨g.X, 0, none⟩), .slice aP P.length dP, .slice aW l.length dW] V fun e w' => ∃ v, e = .returned v ∧ OwnI w' V.heap.size v LH ∧ Below V.heap.size V w') := hid0 (fun V hV => by
    rw [hLH]
    exact refHidden_any P l aP aW dP dW (HIn.out V hV).2.1 hs.rfs (by omega) (by omega) (HIn.out V hV).2.2.2.2.1 (HIn.out V hV).2.2.2.2.2.1)
  have HRK : Hid (∀ V : World, Below w0.heap.size w0 V → Calls Tryd.prog 54 #[.pointer (some ⟨g.X, 0, none⟩), .slice aP P.length dP, .slice aW l.length dW] V fun e w' => ∃ v, e = .returned (.tuple #[v, .int .i64 ez]) ∧ OwnI w' V.heap.size v LB ∧ Below V.heap.size V w') := hid0 (fun V hV => by
    rw [hLB, hez, hok]
    exact refFBreaks_any P l aP aW dP dW (HIn.out V hV).2.1 hs.rfs hl hl2 (HIn.out V hV).2.2.2.2.1 (HIn.out V hV).2.2.2.2.2.1)
  have HS1 : Hid (∀ V : World, Below w0.heap.size w0 V → Calls Tryd.prog 17 #[.slice (some ⟨gP, 0, none⟩) P.length cP, .slice aP P.length dP] V fun e w' => e = .returned (.bool true) ∧ ∃ m, w' = V.drewN m) := hid0 (fun V hV => by
    have hx := still_any P P lo gP cP aP dP V (by omega) (HIn.out V hV).2.2.1 (HIn.out V hV).2.2.2.2.1
    rw [decide_eq_true rfl] at hx
    exact hx)
  have HS2 : Hid (∀ V : World, Below w0.heap.size w0 V → Calls Tryd.prog 17 #[.slice (some ⟨gW, 0, none⟩) l.length cW, .slice aW l.length dW] V fun e w' => e = .returned (.bool true) ∧ ∃ m, w' = V.drewN m) := hid0 (fun V hV => by
    have hx := still_any l l lo gW cW aW dW V (by omega) (HIn.out V hV).2.2.2.1 (HIn.out V hV).2.2.2.2.2.1
    rw [decide_eq_true rfl] at hx
    exact hx)
  have HNu : Hid (∀ V : World, Below w0.heap.size w0 V → Calls Tryd.prog 9 #[ev] V fun e w' => e = .returned (.int .i64 ez) ∧ w' = V) := hid0 (fun V hV => by
    rw [hev, hez]
    exact num_errC A ok V (HIn.out V hV).2.2.2.2.2.2.1)
  have HBw : Hid (∀ V : World, Below w0.heap.size w0 V → Below w.heap.size w V) := hid0 (fun V hV => (HIn.out V hV).2.2.2.2.2.2.2)
  have HZ := hid0 hz0
  have HLl := hid0 (And.intro hLHl hLBl)
  clear h hs hr hl hl2 hp hw hpa hwa hI hS hB0 hz0 hr0 hHl hDl hLB hLH hev hez hLBl hLHl hok HIn
  go_enter Tryd.func35, Tryd.ntmps35
  go_upto_region 2 with (go_at_call 21; go_loud ((
    refine (HH.out w0 (Below.refl _ _)).mono ?_
    rintro e W1 ⟨v1, rfl, o1, b1⟩
    obtain ⟨a1, c1, e1, _⟩ := o1.ia
    subst e1
    have HO1 := hid0 o1
    have HB1 := hid0 b1
    have HT1 : Hid (Below w0.heap.size w0 W1) := hid0 (b1)
    clear o1 b1)))
  clear hw0
  go_upto_region 3 with (go_at_call 8; go_loud ((
    refine (HK.out W1 HT1.out).mono ?_
    rintro e W2 ⟨v2, rfl, o2, b2⟩
    obtain ⟨a2, c2, e2, _⟩ := o2.ia
    subst e2
    have HO2 := hid0 o2
    have HB2 := hid0 b2
    have HT2 : Hid (Below w0.heap.size w0 W2) := hid0 (HT1.out.trans (b2.mono HT1.out.size))
    clear o2 b2)))
  go_upto_region 4 with (go_at_call 21; go_loud ((
    refine (HH.out W2 HT2.out).mono ?_
    rintro e W3 ⟨v3, rfl, o3, b3⟩
    obtain ⟨a3, c3, e3, _⟩ := o3.ia
    subst e3
    have HO3 := hid0 o3
    have HB3 := hid0 b3
    have HT3 : Hid (Below w0.heap.size w0 W3) := hid0 (HT2.out.trans (b3.mono HT2.out.size))
    clear o3 b3)))
  go_upto_region 5 with (go_at_call 8; go_loud ((
    refine (HK.out W3 HT3.out).mono ?_
    rintro e W4 ⟨v4, rfl, o4, b4⟩
    obtain ⟨a4, c4, e4, _⟩ := o4.ia
    subst e4
    have HO4 := hid0 o4
    have HB4 := hid0 b4
    have HT4 : Hid (Below w0.heap.size w0 W4) := hid0 (HT3.out.trans (b4.mono HT3.out.size))
    clear o4 b4)))
  obtain ⟨x0, x1⟩ := HC.out W4 HT4.out
  go_upto_region 6 with (go_at_call 17; go_loud ((
    refine (HS1.out W4 HT4.out).mono ?_
    rintro e W5 ⟨rfl, m5, rfl⟩
    have HT5 : Hid (Below w0.heap.size w0 (W4.drewN m5)) := hid0 (below_drew' HT4.out m5))))
  go_upto_region 7 with (go_at_call 17; go_loud ((
    refine (HS2.out _ HT5.out).mono ?_
    rintro e W6 ⟨rfl, m6, rfl⟩
    have HT6 : Hid (Below w0.heap.size w0 (W4.drewN (m5 + m6))) := hid0 (below_drew' HT4.out _))))
  go_upto_region 8 with (go_at_call 53; go_loud ((
    refine (HRH.out _ HT6.out).mono ?_
    rintro e W7 ⟨v7, rfl, o7, b7⟩
    obtain ⟨a7, c7, e7, _⟩ := o7.ia
    subst e7
    have HO7 := hid0 o7
    have HB7 : Hid (Below W4.heap.size W4 W7) := hid0 ((below_drew' (Below.refl _ _) _).trans b7)
    have HT7 : Hid (Below w0.heap.size w0 W7) := hid0 (HT6.out.trans (b7.mono HT6.out.size))
    clear o7 b7)))
  clear x0 x1
  obtain ⟨x0, x1⟩ := HC.out W7 HT7.out
  go_upto_region 9 with (go_at_call 54; go_loud ((
    refine (HRK.out _ HT7.out).mono ?_
    rintro e W8 ⟨v8, rfl, o8, b8⟩
    obtain ⟨a8, c8, e8, _⟩ := o8.ia
    subst e8
    have HO8 := hid0 o8
    have HB8 := hid0 b8
    have HT8 : Hid (Below w0.heap.size w0 W8) := hid0 (HT7.out.trans (b8.mono HT7.out.size))
    clear o8 b8)))
  clear x0 x1
  obtain ⟨W9, hw9, b9, z9, g1, g2⟩ := two_rows W8 #[.slice a1 LH.length c1, .slice a2 LB.length c2, .slice a3 LH.length c3, .slice a4 LB.length c4] #[.slice a7 LH.length c7, .slice a8 LB.length c8, .slice a7 LH.length c7, .slice a8 LB.length c8] 28 28
  have HB9 : Hid (Below W4.heap.size W4 W9) := hid0 ((HB7.out.trans (HB8.out.mono HB7.out.size)).trans (b9.mono (Nat.le_trans HB7.out.size HB8.out.size)))
  have HT9 : Hid (Below w0.heap.size w0 W9) := hid0 (HT8.out.trans (b9.mono HT8.out.size))
  have HG1 := hid0 g1
  have HSR : Hid (Calls Tryd.prog 55 #[.slice (some ⟨W8.heap.size, 0, none⟩) 4 4, .slice (some ⟨W8.heap.size + 1, 0, none⟩) 4 4] W9 fun e w' => e = .returned (.bool true) ∧ ∃ n, w' = W9.drewN n) := hid0 (by
    have i1 : IA W9 a1 LH := (((((HO1.out.past HB2.out).past HB3.out).past HB4.out).past HB9.out)).ia'
    have i2 : IA W9 a2 LB := ((((HO2.out.past HB3.out).past HB4.out).past HB9.out)).ia'
    have i3 : IA W9 a3 LH := (((HO3.out.past HB4.out).past HB9.out)).ia'
    have i4 : IA W9 a4 LB := ((HO4.out.past HB9.out)).ia'
    have i7 : IA W9 a7 LH := ((HO7.out.past HB8.out).past b9).ia'
    have i8 : IA W9 a8 LB := (HO8.out.past b9).ia'
    refine sameRows [LH, LB, LH, LB] (some ⟨W8.heap.size, 0, none⟩) (some ⟨W8.heap.size + 1, 0, none⟩) 4 4 W9 (by simp) (fun r hr => ?_) (RwA.four g1 (by omega) i1 i2 i3 i4) (RwA.four g2 (by omega) i7 i8 i7 i8)
    have := HLl.out
    simp only [List.mem_cons, List.not_mem_nil, or_false] at hr
    rcases hr with rfl | rfl | rfl | rfl <;> omega)
  clear b9 z9 g1 g2
  go_upto_region 10 with (go_at_call 55; go_loud ((
    refine HSR.out.mono ?_
    rintro e W10 ⟨rfl, m9, rfl⟩
    clear hw9 HSR)))
  have HAp : Hid (Calls Tryd.prog 56 #[.slice (some ⟨W9.heap.size, 0, none⟩) 4 4] ((W9.drewN m9).alloc (.cells #[.slice a1 LH.length c1, .slice a2 LB.length c2, .slice a3 LH.length c3, .slice a4 LB.length c4] 28)) fun r w' => r = .returned (.bool true) ∧ Below w0.heap.size w0 w') := hid0 (by
    obtain ⟨Wa, hWa⟩ : ∃ Wa, Wa = (W9.drewN m9).alloc (.cells #[.slice a1 LH.length c1, .slice a2 LB.length c2, .slice a3 LH.length c3, .slice a4 LB.length c4] 28) := ⟨_, rfl⟩
    have hra : Wa.heap[W9.heap.size]? = some (.cells #[.slice a1 LH.length c1, .slice a2 LB.length c2, .slice a3 LH.length c3, .slice a4 LB.length c4] 28 (0, 0)) := by rw [hWa]; exact heap_alloc_new (W9.drewN m9) _
    have hba : Below W9.heap.size W9 Wa := by rw [hWa]; exact (below_drew' (Below.refl _ _) m9).alloc (Nat.le_refl _) _
    have hb4 : Below W4.heap.size W4 Wa := HB9.out.trans (hba.mono HB9.out.size)
    have hL := LoI.four HO1.out HO2.out HO3.out HO4.out HT1.out HB2.out HB3.out HB4.out hb4
    rw [← sel4_all] at hL
    have hlt4 : ∀ j, j < 4 → ∀ b, (slI (sel4 a1 a2 a3 a4) (sel4 LH.length LB.length LH.length LB.length) (sel4 c1 c2 c3 c4) j).ownBlock = some b → w0.heap.size ≤ b := fun j hj b hb => (World.ownsRow.lt (hL.own j hj) b hb).1
    rw [← hWa]
    refine (apart_any W9.heap.size w0.heap.size (sel4 a1 a2 a3 a4) (sel4 LH.length LB.length LH.length LB.length) (sel4 c1 c2 c3 c4) (sel4 LH LB LH LB) Wa (fun j hj => ?_) hL (fun j hj => ?_) (fun j hj => ?_) (fun j hj e => ?_) (Nat.le_trans HT9.out.size hba.size)).mono ?_
    · rw [row4c hra hj, sel4_slice _ _ _ _ _ _ _ _ _ _ _ _ _ hj]
    · match j, hj with
      | 0, _ => rfl
      | 1, _ => rfl
      | 2, _ => rfl
      | 3, _ => rfl
    · have := HLl.out
      exact sel4_le (by omega) (by omega) (by omega) (by omega)
    · have h1 : W9.heap.size < W4.heap.size := by
        rw [sel4_all] at e
        have l1 : ∀ b, (Value.slice a1 LH.length c1).ownBlock = some b → b < W4.heap.size := fun b hb => by have := (World.ownsRow.lt HO1.out b hb).2; have := HB2.out.size; have := HB3.out.size; have := HB4.out.size; omega
        have l2 : ∀ b, (Value.slice a2 LB.length c2).ownBlock = some b → b < W4.heap.size := fun b hb => by have := (World.ownsRow.lt HO2.out b hb).2; have := HB3.out.size; have := HB4.out.size; omega
        have l3 : ∀ b, (Value.slice a3 LH.length c3).ownBlock = some b → b < W4.heap.size := fun b hb => by have := (World.ownsRow.lt HO3.out b hb).2; have := HB4.out.size; omega
        have l4 : ∀ b, (Value.slice a4 LB.length c4).ownBlock = some b → b < W4.heap.size := fun b hb => (World.ownsRow.lt HO4.out b hb).2
        match j, hj with
        | 0, _ => exact l1 _ e
        | 1, _ => exact l2 _ e
        | 2, _ => exact l3 _ e
        | 3, _ => exact l4 _ e
      have := HB9.out.size
      omega
    · rintro r w' ⟨hr', ho⟩
      exact ⟨hr', (HT9.out.trans (hba.mono HT9.out.size)).trans (ho.below (Nat.le_trans HT9.out.size hba.size) (fun b hb => by
        obtain ⟨j, hj, e⟩ := hb
        exact hlt4 j hj b e))⟩)
  have HT10 : Hid (Below w0.heap.size w0 (W9.drewN m9)) := hid0 (below_drew' HT9.out m9)
  go_wp2_with (first
    | (go_at_call 9; go_loud ((
        refine (HNu.out _ HT10.out).mono ?_
        rintro e W11 ⟨rfl, rfl⟩)))
    | (go_at_call 56; go_loud ((
        refine HAp.out.mono ?_
        rintro e W12 ⟨rfl, b12⟩
        have HB12 := hid0 b12
        clear b12))))
  go_ret
  exact ⟨rfl, HBw.out W12 HB12.out⟩
end
end Go.Proofs.YtekimkdaoblcgaaDoor
namespace Go.Proofs.YtekimkdaoblcgaaDoor
open Go.RowKit Go.Shelf Go.Maps
/-- Texts in memory; a nil list has no room. -/
structure TxX (w : World) (a : Option Addr) (T : List (List Int × List Int)) : Prop where
  at' : ∀ k (h : k < T.length), ∃ b off, a = some ⟨b, off, none⟩ ∧ b < w.heap.size ∧ ∃ a1 c1 a2 c2, w.cell? ⟨b, off + k * 2, none⟩ = some (.slice a1 (T[k]).1.length c1) ∧ w.cell? ⟨b, off + k * 2 + 1, none⟩ = some (.slice a2 (T[k]).2.length c2) ∧ IA w a1 (T[k]).1 ∧ IA w a2 (T[k]).2 ∧ (a1 = none → c1 = 0) ∧ (a2 = none → c2 = 0)
theorem TxX.past {w w' : World} {a : Option Addr} {T : List (List Int × List Int)} (h : TxX w a T) (hb : Below w.heap.size w w') : TxX w' a T := ⟨fun k hk => by
  obtain ⟨b, off, rfl, h1, a1, c1, a2, c2, h2, h3, h4, h5, h6⟩ := h.at' k hk
  exact ⟨b, off, rfl, Nat.lt_of_lt_of_le h1 hb.size, a1, c1, a2, c2, (hb.cell (p := ⟨b, off + k * 2, none⟩) h1).trans h2, (hb.cell (p := ⟨b, off + k * 2 + 1, none⟩) h1).trans h3, h4.past hb, h5.past hb, h6⟩⟩
theorem MkL.put {w : World} {lo g c : Nat} {L : List Int} (h : MkL w lo g c L) {k : Nat} (hk : k < L.length) (z : Int) : MkL (w.setCell ⟨g, k, none⟩ (.int .i64 z)) lo g c (L.set k z) := by
  have h1 := (World.ownsRow.stored h k (.int .i64 z)).1
  have e : L.set k z ++ List.replicate 64 (-55) = (L ++ List.replicate 64 (-55)).set k z := (List.set_append_left _ _ hk).symm
  unfold MkL OwnI
  rw [e, List.length_set, List.map_set]
  exact h1
theorem MkL.at {w : World} {lo g c : Nat} {L : List Int} (h : MkL w lo g c L) {k : Nat} (hk : k < L.length) : w.cell? ⟨g, k, none⟩ = some (.int .i64 L[k]) ∧ w.frozen? ⟨g, k, none⟩ = false := by
  obtain ⟨b, off, e, _, h2⟩ := h.ia.at' k hk
  cases e
  rw [Nat.zero_add] at h2
  exact ⟨h2, World.ownsRow.frozenAt h _⟩
/-- A text in lists of its own. -/
structure Tq (wr W : World) (g1 c1 g2 c2 n m : Nat) (P l : List Int) : Prop where
  p : MkL W wr.heap.size g1 c1 P
  w : MkL W wr.heap.size g2 c2 l
  ne : g1 ≠ g2
  lp : P.length = n
  ll : l.length = m
  inn : ∀ c ∈ P, inI c
  bel : Below wr.heap.size wr W
section
variable {wr W W' : World} {g1 c1 g2 c2 n m : Nat} {P l : List Int}
theorem Tq.past (h : Tq wr W g1 c1 g2 c2 n m P l) (hb : Below W.heap.size W W') : Tq wr W' g1 c1 g2 c2 n m P l := ⟨h.p.past hb, h.w.past hb, h.ne, h.lp, h.ll, h.inn, h.bel.trans (hb.mono h.bel.size)⟩
theorem Tq.putP (h : Tq wr W g1 c1 g2 c2 n m P l) {k : Nat} (hk : k < n) (z : Int) (hz : inI z) : Tq wr (W.setCell ⟨g1, k, none⟩ (.int .i64 z)) g1 c1 g2 c2 n m (P.set k z) l :=
  ⟨h.p.put (by rw [h.lp]; exact hk) z, h.w.keep (Below.heap_setCell _ _ _ _ (fun e => h.ne e.symm)), h.ne, by rw [List.length_set]; exact h.lp, h.ll, fun c hc => by
    rcases List.mem_or_eq_of_mem_set hc with hc | rfl
    · exact h.inn c hc
    · exact hz, h.bel.setCell (p := ⟨g1, k, none⟩) h.p.ty.1 _⟩
theorem Tq.putW (h : Tq wr W g1 c1 g2 c2 n m P l) {k : Nat} (hk : k < m) (z : Int) : Tq wr (W.setCell ⟨g2, k, none⟩ (.int .i64 z)) g1 c1 g2 c2 n m P (l.set k z) :=
  ⟨h.p.keep (Below.heap_setCell _ _ _ _ h.ne), h.w.put (by rw [h.ll]; exact hk) z, h.ne, h.lp, by rw [List.length_set]; exact h.ll, h.inn, h.bel.setCell (p := ⟨g2, k, none⟩) h.w.ty.1 _⟩
end
section
variable {w : World} {p : Prg} {q q2 : PrL} {tr : List Int} {E : List (List Int)} {sy bef : Int} {f : FlL} {g : RfL}
set_option maxRecDepth 100000 in
set_option maxHeartbeats 3200000 in
theorem texts_any (A : Nat → Addr) (T : List (List Int × List Int)) (aX : Option Addr) (cX : Nat) (h : FlA w p q (decide (0 ≤ bef)) tr E bef f) (hs : FlS p tr E) (hr : RfA w p q2 sy bef tr E g) (hT : TxX w aX T) (hTl : T.length ≤ 1000000000) (hTb : ∀ t ∈ T, t.1.length ≤ 100000000 ∧ t.2.length ≤ 100000000 ∧ ∀ c ∈ t.1, inI c) (hS : Sents w A) :
    Calls Tryd.prog 20 #[.pointer (some ⟨f.X, 0, none⟩), .pointer (some ⟨g.X, 0, none⟩), .slice aX T.length cX] w fun e w' => e = .returned (.bool true) ∧ Below w.heap.size w w' := by
  have HT := hid0 hT
  have HTb := hid0 hTb
  have HTo : Hid (∀ (V : World) (P l : List Int) (lo gP cP gW cW : Nat) (aP aW : Option Addr) (dP dW : Nat), Below w.heap.size w V → l.length ≤ 100000000 → P.length ≤ 100000000 → MkL V lo gP cP P → MkL V lo gW cW l → IA V aP P → IA V aW l → (∀ c ∈ P, inI c) →
      Calls Tryd.prog 35 #[.pointer (some ⟨f.X, 0, none⟩), .pointer (some ⟨g.X, 0, none⟩), .slice (some ⟨gP, 0, none⟩) P.length cP, .slice (some ⟨gW, 0, none⟩) l.length cW, .agg #[.slice aP P.length dP, .slice aW l.length dW]] V fun e w' => e = .returned (.bool true) ∧ Below V.heap.size V w') := hid0 (fun V P l lo gP cP gW cW aP aW dP dW hV h1 h2 h3 h4 h5 h6 h7 => told_any A P l lo gP cP gW cW aP aW dP dW (h.past hV) hs (hr.past hV) h1 h2 h3 h4 h5 h6 h7 (hS.below hV))
  clear h hs hr hT hTb hS
  go_enter Tryd.func20, Tryd.ntmps20
  go_wp2
  go_loopw [7, 8, 9, 10, 11] (fun x _ _ _ _ wr => ∃ i : Nat, i ≤ T.length ∧ x = .int .i64 (i : Int) ∧ Hid (Below w.heap.size w wr)) (fun x _ _ _ _ _ => T.length - (intOf x).toNat)
  case atStart => exact ⟨0, Nat.zero_le _, rfl, hid0 (Below.refl _ _)⟩
  case round =>
    obtain ⟨i, hi, rfl, HB⟩ := hrel
    by_cases hlt : i < T.length
    · have hiI : (i : Int) < (T.length : Int) := by omega
      have hiI0 : (0 : Int) ≤ (i : Int) := by omega
      obtain ⟨b, off, ea, _, a1, e1, a2, e2, d1, d2, ia1, ia2, n1, n2⟩ := (HT.out.past HB.out).at' i hlt
      obtain ⟨hb1, hb2, hb3⟩ := HTb.out _ (List.getElem_mem hlt)
      generalize (T[i]).1 = P at *
      generalize (T[i]).2 = l at *
      rw [ea]
      have HN2 := hid0 n2
      have HI3 := hid0 hb3
      have HM1 := hid0 (marked_any P a1 e1 wr (by omega) ia1 n1)
      have HIA1 := hid0 ia1
      have HIA2 := hid0 ia2
      have HD : Hid (∀ V : World, Below wr.heap.size wr V → V.cell? ⟨b, off + i * 2, none⟩ = some (.slice a1 P.length e1) ∧ V.cell? ⟨b, off + i * 2 + 1, none⟩ = some (.slice a2 l.length e2)) := hid0 (fun V hV => ⟨(hV.cell (p := ⟨b, off + i * 2, none⟩) (World.block_lt_of_cell? wr _ d1)).trans d1, (hV.cell (p := ⟨b, off + i * 2 + 1, none⟩) (World.block_lt_of_cell? wr _ d2)).trans d2⟩)
      clear ia1 ia2 n1 n2 ea hb3
      go_upto_region 5 with (go_at_call 13; go_loud ((
        refine HM1.out.mono ?_
        rintro e W1 ⟨g1, c1, rfl, m1, b1⟩
        have HP1 := hid0 m1
        have HB1 := hid0 b1
        clear HM1 m1 b1)))
      clear d1 d2
      obtain ⟨d1, d2⟩ := HD.out W1 HB1.out
      have HM2 := hid0 (marked_any l a2 e2 W1 (by omega) (HIA2.out.past HB1.out) HN2.out)
      go_upto_region 6 with (go_at_call 13; go_loud ((
        refine HM2.out.mono ?_
        rintro e W2 ⟨g2, c2, rfl, m2, b2⟩
        have HQ : Hid (Tq wr W2 g1 c1 g2 c2 P.length l.length P l) := hid0 ⟨HP1.out.past b2, m2.lower HB1.out.size, (fun e => by have h1 := HP1.out.ty.2.1; have h2 := m2.ty.1; omega), rfl, rfl, HI3.out, HB1.out.trans (b2.mono HB1.out.size)⟩
        clear HM2 m2 b2 HP1)))
      clear d1 d2
      obtain ⟨d1, d2⟩ := HD.out W2 HQ.out.bel
      have HC1 := hid0 (HTo.out W2 P l wr.heap.size g1 c1 g2 c2 a1 a2 e1 e2 (HB.out.trans (HQ.out.bel.mono HB.out.size)) hb2 hb1 HQ.out.p HQ.out.w (HIA1.out.past HQ.out.bel) (HIA2.out.past HQ.out.bel) HI3.out)
      go_upto_region 7 with (go_at_call 35; go_loud ((
        refine HC1.out.mono ?_
        rintro e W3 ⟨rfl, b3⟩
        have HQ3 := hid0 (HQ.out.past b3)
        clear HC1 b3 HQ)))
      clear d1 d2 HIA1 HIA2 HI3 HD HN2 HB1
      obtain ⟨n, hn⟩ : ∃ n, n = P.length := ⟨_, rfl⟩
      obtain ⟨m, hm⟩ : ∃ m, m = l.length := ⟨_, rfl⟩
      rw [← hn] at hb1
      rw [← hm] at hb2
      rw [← hn, ← hm] at HQ3
      rw [← hn, ← hm]
      clear hn hm
      go_wp2
      go_loopw [11] (fun x W => ∃ (k : Nat) (P : List Int), k ≤ n ∧ x = .int .i64 (k : Int) ∧ Hid (Tq wr W g1 c1 g2 c2 n m P l)) (fun x _ => n - (intOf x).toNat)
      case atStart => exact ⟨0, P, Nat.zero_le _, rfl, HQ3⟩
      case round =>
        clear HQ3
        clear P
        obtain ⟨k, P, hk, rfl, HQ⟩ := hrel
        rename World => W
        by_cases hkn : k < n
        · have hkI : (k : Int) < (n : Int) := by omega
          have hkI0 : (0 : Int) ≤ (k : Int) := by omega
          obtain ⟨x0, f0⟩ := HQ.out.p.at (by rw [HQ.out.lp]; exact hkn)
          generalize P[k]'(by rw [HQ.out.lp]; exact hkn) = z0 at *
          go_wp2
          go_roundw
          case rel => exact ⟨k + 1, _, hkn, by go_num, hid0 (HQ.out.putP hkn _ (by first | exact wrap64_wf _ | exact wf_wrap .i64 _))⟩
          case measure => simp [intOf]; omega
        · have hkI : ¬ (k : Int) < (n : Int) := by omega
          by_cases hm1 : 1 < m
          · have hmI : (m : Int) > 1 := by omega
            have hmI0 : (0 : Int) < (m : Int) := by omega
            obtain ⟨x0, f0⟩ := HQ.out.w.at (k := 0) (by rw [HQ.out.ll]; omega)
            obtain ⟨j, hj⟩ : ∃ j, j = m - 1 := ⟨_, rfl⟩
            obtain ⟨x1, _⟩ := HQ.out.w.at (k := j) (by rw [HQ.out.ll]; omega)
            generalize l[0]'(by rw [HQ.out.ll]; omega) = z0 at *
            generalize l[j]'(by rw [HQ.out.ll]; omega) = z1 at *
            have hjI : (m : Int) - 1 = (j : Int) := by omega
            have hjI0 : (0 : Int) ≤ (j : Int) := by omega
            have hjI1 : (j : Int) < (m : Int) := by omega
            have HQ2 := hid0 (HQ.out.putW (k := 0) (by omega) z1)
            clear HQ hj
            go_upto_region 15 with (fail)
            clear x0 x1 f0
            generalize W.setCell ⟨g2, 0, none⟩ (.int .i64 z1) = W' at *
            obtain ⟨L, hL⟩ : ∃ L, L = l.set 0 z1 := ⟨_, rfl⟩
            rw [← hL] at HQ2
            clear hL
            have HI1 : Hid (Calls Tryd.prog 36 #[.slice (some ⟨g1, 0, none⟩) n c1] W' fun e w' => ∃ v, e = .returned v ∧ OwnI w' W'.heap.size v P ∧ Below W'.heap.size W' w') := hid0 (by
              have hx := ints_any P (some ⟨g1, 0, none⟩) c1 W' (by rw [HQ2.out.lp]; omega) HQ2.out.p.ia
              rw [HQ2.out.lp] at hx
              exact hx)
            have HI2 : Hid (∀ V : World, Below W'.heap.size W' V → Calls Tryd.prog 36 #[.slice (some ⟨g2, 0, none⟩) m c2] V fun e w' => ∃ v, e = .returned v ∧ OwnI w' V.heap.size v L ∧ Below V.heap.size V w') := hid0 (fun V hV => by
              have hx := ints_any L (some ⟨g2, 0, none⟩) c2 V (by rw [HQ2.out.ll]; omega) (HQ2.out.past hV).w.ia
              rw [HQ2.out.ll] at hx
              exact hx)
            have HTt : Hid (∀ (V : World) (aP aW : Option Addr) (dP dW : Nat), Below W'.heap.size W' V → IA V aP P → IA V aW L → Calls Tryd.prog 35 #[.pointer (some ⟨f.X, 0, none⟩), .pointer (some ⟨g.X, 0, none⟩), .slice (some ⟨g1, 0, none⟩) n c1, .slice (some ⟨g2, 0, none⟩) m c2, .agg #[.slice aP n dP, .slice aW m dW]] V fun e w' => e = .returned (.bool true) ∧ Below V.heap.size V w') := hid0 (fun V aP aW dP dW hV i1 i2 => by
              have hq := HQ2.out.past hV
              have hx := HTo.out V P L _ g1 c1 g2 c2 aP aW dP dW (HB.out.trans (hq.bel.mono HB.out.size)) (by rw [hq.ll]; exact hb2) (by rw [hq.lp]; exact hb1) hq.p hq.w i1 i2 hq.inn
              rw [hq.lp, hq.ll] at hx
              exact hx)
            have HE : Hid (∀ V : World, Below W'.heap.size W' V → Below w.heap.size w V) := hid0 (fun V hV => HB.out.trans (((HQ2.out.past hV).bel).mono HB.out.size))
            have HLn := hid0 (And.intro HQ2.out.lp HQ2.out.ll)
            clear HQ2
            go_wp2_with (first
              | (go_at_call 36
                 refine HI1.out.mono ?_
                 rintro e W4 ⟨v4, rfl, o4, b4⟩
                 obtain ⟨a4, e4, ev4, i4⟩ := o4.ia
                 rw [HLn.out.1] at ev4
                 subst ev4
                 have HB4 := hid0 b4
                 have HI4 := hid0 i4
                 clear HI1 o4 b4 i4)
              | (go_at_call 36; go_loud ((
                 refine (HI2.out W4 HB4.out).mono ?_
                 rintro e W5 ⟨v5, rfl, o5, b5⟩
                 obtain ⟨a5, e5, ev5, i5⟩ := o5.ia
                 rw [HLn.out.2] at ev5
                 subst ev5
                 have HB5 : Hid (Below W'.heap.size W' W5) := hid0 (HB4.out.trans (b5.mono HB4.out.size))
                 replace HI4 := hid0 (HI4.out.past b5)
                 have HI5 := hid0 i5
                 clear o5 b5 i5)))
              | (go_at_call 35; go_loud ((
                 refine (HTt.out W5 a4 a5 e4 e5 HB5.out HI4.out HI5.out).mono ?_
                 rintro e W6 ⟨rfl, b6⟩
                 have HB6 : Hid (Below w.heap.size w W6) := hid0 (HE.out W6 (HB5.out.trans (b6.mono HB5.out.size)))
                 clear b6))))
            go_roundw
            case rel => exact ⟨i + 1, hlt, by go_num, HB6⟩
            case measure => simp [intOf]; omega
          · have hmI : ¬ (m : Int) > 1 := by omega
            go_upto_region 15 with (fail)
            have HI1 : Hid (Calls Tryd.prog 36 #[.slice (some ⟨g1, 0, none⟩) n c1] W fun e w' => ∃ v, e = .returned v ∧ OwnI w' W.heap.size v P ∧ Below W.heap.size W w') := hid0 (by
              have hx := ints_any P (some ⟨g1, 0, none⟩) c1 W (by rw [HQ.out.lp]; omega) HQ.out.p.ia
              rw [HQ.out.lp] at hx
              exact hx)
            have HI2 : Hid (∀ V : World, Below W.heap.size W V → Calls Tryd.prog 36 #[.slice (some ⟨g2, 0, none⟩) m c2] V fun e w' => ∃ v, e = .returned v ∧ OwnI w' V.heap.size v l ∧ Below V.heap.size V w') := hid0 (fun V hV => by
              have hx := ints_any l (some ⟨g2, 0, none⟩) c2 V (by rw [HQ.out.ll]; omega) (HQ.out.past hV).w.ia
              rw [HQ.out.ll] at hx
              exact hx)
            have HTt : Hid (∀ (V : World) (aP aW : Option Addr) (dP dW : Nat), Below W.heap.size W V → IA V aP P → IA V aW l → Calls Tryd.prog 35 #[.pointer (some ⟨f.X, 0, none⟩), .pointer (some ⟨g.X, 0, none⟩), .slice (some ⟨g1, 0, none⟩) n c1, .slice (some ⟨g2, 0, none⟩) m c2, .agg #[.slice aP n dP, .slice aW m dW]] V fun e w' => e = .returned (.bool true) ∧ Below V.heap.size V w') := hid0 (fun V aP aW dP dW hV i1 i2 => by
              have hq := HQ.out.past hV
              have hx := HTo.out V P l _ g1 c1 g2 c2 aP aW dP dW (HB.out.trans (hq.bel.mono HB.out.size)) (by rw [hq.ll]; exact hb2) (by rw [hq.lp]; exact hb1) hq.p hq.w i1 i2 hq.inn
              rw [hq.lp, hq.ll] at hx
              exact hx)
            have HE : Hid (∀ V : World, Below W.heap.size W V → Below w.heap.size w V) := hid0 (fun V hV => HB.out.trans (((HQ.out.past hV).bel).mono HB.out.size))
            have HLn := hid0 (And.intro HQ.out.lp HQ.out.ll)
            clear HQ
            go_wp2_with (first
              | (go_at_call 36
                 refine HI1.out.mono ?_
                 rintro e W4 ⟨v4, rfl, o4, b4⟩
                 obtain ⟨a4, e4, ev4, i4⟩ := o4.ia
                 rw [HLn.out.1] at ev4
                 subst ev4
                 have HB4 := hid0 b4
                 have HI4 := hid0 i4
                 clear HI1 o4 b4 i4)
              | (go_at_call 36; go_loud ((
                 refine (HI2.out W4 HB4.out).mono ?_
                 rintro e W5 ⟨v5, rfl, o5, b5⟩
                 obtain ⟨a5, e5, ev5, i5⟩ := o5.ia
                 rw [HLn.out.2] at ev5
                 subst ev5
                 have HB5 : Hid (Below W.heap.size W W5) := hid0 (HB4.out.trans (b5.mono HB4.out.size))
                 replace HI4 := hid0 (HI4.out.past b5)
                 have HI5 := hid0 i5
                 clear o5 b5 i5)))
              | (go_at_call 35; go_loud ((
                 refine (HTt.out W5 a4 a5 e4 e5 HB5.out HI4.out HI5.out).mono ?_
                 rintro e W6 ⟨rfl, b6⟩
                 have HB6 : Hid (Below w.heap.size w W6) := hid0 (HE.out W6 (HB5.out.trans (b6.mono HB5.out.size)))
                 clear b6))))
            go_roundw
            case rel => exact ⟨i + 1, hlt, by go_num, HB6⟩
            case measure => simp [intOf]; omega
    · have hiI : ¬ (i : Int) < (T.length : Int) := by omega
      go_wp2
      go_ret
      exact ⟨rfl, HB.out⟩
end
end Go.Proofs.YtekimkdaoblcgaaDoor
namespace Go.Proofs.YtekimkdaoblcgaaDoor
open Go.RowKit Go.Shelf Go.Maps
set_option maxRecDepth 100000 in
set_option maxHeartbeats 1600000 in
theorem rows16_any (L : List (List Int)) (a : Option Addr) (cap : Nat) (w : World) (hl : L.length ≤ 1000000000) (hr : ∀ r ∈ L, r.length ≤ 1000000000) (ha : RwX w a L) :
    Calls Tryd.prog 14 #[.slice a L.length cap] w fun r w' => ∃ g c, r = .returned (.slice (some ⟨g, 0, none⟩) L.length c) ∧ RkL w' w.heap.size g c L ∧ Below w.heap.size w w' := by
  obtain ⟨j0, hj0, hy0, hy1, hy2⟩ := info_parts infoInts
  have HA := hid0 ha
  have HR := hid0 hr
  obtain ⟨B, hB⟩ : ∃ B, B = w.heap.size := ⟨_, rfl⟩
  have HBs := hid0 hB
  rw [← hB]
  clear ha hr hB
  go_enter Tryd.func14, Tryd.ntmps14
  go_wp2
  go_loopw [3, 4, 5] (fun v x _ wr => ∃ (k : Nat) (vs : List Value), k ≤ L.length ∧ x = .int .i64 (k : Int) ∧ Hid (wr.ownsRow B 28 1 v k vs) ∧ Hid (RkI wr B vs L k 0) ∧ Hid (Below B w wr)) (fun _ x _ _ => L.length - (intOf x).toNat)
  case atStart => exact ⟨0, [], Nat.zero_le _, rfl, hid0 (World.ownsRow_nil _ _ _ _), hid0 (RkI.nil L), hid0 (Below.refl _ _)⟩
  case round =>
    obtain ⟨k, vs, hk, rfl, HO, HK, HB⟩ := hrel
    have hsz : B ≤ wr.heap.size := by rw [HBs.out]; exact HB.out.size
    by_cases hlt : k < L.length
    · have hkI : (k : Int) < (L.length : Int) := by omega
      have hkI0 : (0 : Int) ≤ (k : Int) := by omega
      obtain ⟨b, off, ea, _, a1, c1, d1, hia, _, hn1⟩ := (HA.out.past (by rw [← HBs.out]; exact HB.out)).at' k hlt
      rw [ea]
      have HM := hid0 (marked_any L[k] a1 c1 wr (HR.out _ (List.getElem_mem hlt)) hia hn1)
      obtain ⟨n1, hn⟩ : ∃ n1, n1 = (L[k]).length := ⟨_, rfl⟩
      rw [← hn] at d1 HM
      have HN := hid0 hn
      clear hia hn1 ea hn
      obtain ⟨av, cv, ev⟩ : ∃ av cv, u3 = .slice av k cv := by
        rcases HO.out.2 with ⟨e, e2⟩ | ⟨g', cap', cur', e, _⟩
        · exact ⟨none, 0, by rw [e]; simp [e2]⟩
        · exact ⟨_, _, e⟩
      subst ev
      go_wp2_with (first
        | (go_at_call 13; go_loud ((
            refine HM.out.mono ?_
            rintro e w1 ⟨g1, c2, rfl, hm1, hb1⟩
            have HM1 := hid0 hm1
            have HB1 := hid0 hb1
            clear hm1 hb1 HM)))
        | (at_builtin; go_loud ((
            refine wpList_append_own_at _ rfl _ _ 22 rfl B 28 j0 (.slice none 0 0) 1 24 Tryd.underlying22 hj0 hy0 hy1 hy2 rfl (by decide) _ k vs rfl (World.ownsRow.alloc (row_later HO.out HB1.out) _) ⟨w1.heap.size, 0, none⟩ 1 1 [.slice (some ⟨g1, 0, none⟩) n1 c2] rfl rfl (cell_one_new _ _ _) (by simp [Value.oneCell']) (by unfold maxLen; omega) (by omega) (by have := HB1.out.size; simp; omega) ?_
            intro v2 w2 hown2 hgrow2 _ _
            have HO2 := hid0 hown2
            have HK2 : Hid (RkI w2 B (vs ++ [.slice (some ⟨g1, 0, none⟩) n1 c2]) L (k + 1) 0) := hid0 (by
              have h1 := (HK.out.past HB1.out).snocR hlt (HM1.out.lower hsz)
              rw [← HN.out] at h1
              exact (h1.past ((Below.refl _ _).alloc (Nat.le_refl _) _)).grow (World.ownsRow.alloc (row_later HO.out HB1.out) _) hgrow2)
            have HB2 : Hid (Below B w w2) := hid0 (by
              have := HB1.out.size
              exact (((HB.out.trans (HB1.out.mono hsz)).alloc (by omega) _).grown hgrow2 (by simp; omega) (fun q hq => (World.ownsRow.lt HO.out q hq).1)))
            clear hown2 hgrow2))))
      go_roundw
      case rel => exact ⟨k + 1, _, hlt, by go_num, HO2, HK2, HB2⟩
      case measure => simp [intOf]; omega
    · have hkI : ¬ (k : Int) < (L.length : Int) := by omega
      obtain rfl : k = L.length := by omega
      clear HA HR hlt hk
      obtain ⟨n, hn⟩ : ∃ n, n = L.length := ⟨_, rfl⟩
      have HN := hid0 hn
      rw [← hn] at HO HK hl hkI ⊢
      clear hn
      go_wp2
      go_loopw [3, 6] (fun v x wr => ∃ (k : Nat) (vs : List Value), k ≤ 64 ∧ x = .int .i64 (k : Int) ∧ Hid (wr.ownsRow B 28 1 v (n + k) vs) ∧ Hid (RkI wr B vs L n k) ∧ Hid (Below B w wr)) (fun _ x _ => 64 - (intOf x).toNat)
      case atStart => exact ⟨0, vs, Nat.zero_le _, rfl, HO, HK, HB⟩
      case round =>
        clear HO HK HB hsz
        obtain ⟨k, vs, hk, rfl, HO, HK, HB⟩ := hrel
        have hsz : B ≤ wr.heap.size := by rw [HBs.out]; exact HB.out.size
        obtain ⟨N, hN⟩ : ∃ N, N = n + k := ⟨_, rfl⟩
        have HNN := hid0 hN
        rw [← hN] at HO
        have hNl : N ≤ 1000000064 := by omega
        clear hN
        by_cases hlt : k < 64
        · have hkI : (k : Int) < 64 := by omega
          obtain ⟨av, cv, ev⟩ : ∃ av cv, u3 = .slice av N cv := by
            rcases HO.out.2 with ⟨e, e2⟩ | ⟨g', cap', cur', e, _⟩
            · exact ⟨none, 0, by rw [e]; simp [e2]⟩
            · exact ⟨_, _, e⟩
          subst ev
          go_wp2_with (at_builtin; go_loud ((
            refine wpList_append_own_at _ rfl _ _ 22 rfl B 28 j0 (.slice none 0 0) 1 24 Tryd.underlying22 hj0 hy0 hy1 hy2 rfl (by decide) _ N vs rfl (World.ownsRow.alloc (World.ownsRow.alloc HO.out _) _) ⟨wr.heap.size + 1, 0, none⟩ 1 1 [.slice (some ⟨wr.heap.size, 0, none⟩) 1 1] rfl rfl (by
              have h := cell_one_new (wr.alloc (.cells #[.int .i64 (-56)] 3)) (.slice (some ⟨wr.heap.size, 0, none⟩) 1 1) 28
              rw [show (wr.alloc (.cells #[.int .i64 (-56)] 3)).heap.size = wr.heap.size + 1 by simp] at h
              exact h) (by simp [Value.oneCell']) (by unfold maxLen; omega) (by omega) (by simp; omega) ?_
            intro v2 w2 hown2 hgrow2 _ _
            have HO2 : Hid (w2.ownsRow B 28 1 v2 (n + (k + 1)) (vs ++ [.slice (some ⟨wr.heap.size, 0, none⟩) 1 1])) := hid0 (by rw [show n + (k + 1) = N + 1 by rw [HNN.out]; omega]; exact hown2)
            have HK2 : Hid (RkI w2 B (vs ++ [.slice (some ⟨wr.heap.size, 0, none⟩) 1 1]) L n (k + 1)) := hid0 (by
              have h1 := (HK.out.past ((Below.refl _ _).alloc (Nat.le_refl _) (.cells #[.int .i64 (-56)] 3))).snocM (g := wr.heap.size) hsz (heap_alloc_new wr _) (cell_one_new wr (.int .i64 (-56)) 3 0 _ rfl)
              exact (h1.past ((Below.refl _ _).alloc (Nat.le_refl _) _)).grow (World.ownsRow.alloc (World.ownsRow.alloc HO.out _) _) hgrow2)
            have HB2 : Hid (Below B w w2) := hid0 ((((HB.out.alloc hsz _).alloc (by simp; omega) _).grown hgrow2 (by simp; omega) (fun q hq => (World.ownsRow.lt HO.out q hq).1)))
            clear hown2 hgrow2)))
          go_roundw
          case rel => exact ⟨k + 1, _, hlt, by go_num, HO2, HK2, HB2⟩
          case measure => simp [intOf]; omega
        · have hkI : ¬ (k : Int) < 64 := by omega
          obtain rfl : k = 64 := by omega
          obtain ⟨g, c, e, _, _, hc⟩ := own_form HO.out (by have := HNN.out; omega)
          subst e
          have hnc : (n : Int) ≤ (c : Int) := by have := HNN.out; omega
          have HF : Hid (RkL wr B g c L) := hid0 (by
            have h1 := HO.out
            have h2 := HK.out
            rw [HNN.out] at h1
            rw [HN.out] at h1 h2
            exact ⟨vs, h1, h2⟩)
          clear HO HK hc
          go_wp2
          go_ret
          exact ⟨g, c, by first | rfl | (rw [← HN.out]; rfl), HF.out, HB.out⟩
end Go.Proofs.YtekimkdaoblcgaaDoor
namespace Go.Proofs.YtekimkdaoblcgaaDoor
open Go.RowKit Go.Shelf
def PgR (w : World) (p : Prg) (e : Ending) (w' : World) : Prop := ∃ G1 G2 G3 G4 g7 d1 d2 d3 d4 c7, e = .returned (.agg #[.int .i64 p.sl, .slice (some ⟨G1, 0, none⟩) p.N.length d1, .slice (some ⟨G2, 0, none⟩) p.O.length d2, .int .i64 p.sr, .slice (some ⟨G3, 0, none⟩) p.M.length d3, .slice (some ⟨G4, 0, none⟩) p.P.length d4, .slice (some ⟨g7, 0, none⟩) p.B.length c7, .bool p.el]) ∧ PgM w' w.heap.size p G1 G2 G3 G4 g7 d1 d2 d3 d4 c7 ∧ Below w.heap.size w w'
/-- While bools are marked: the boxes, the bools, and what stays. -/
structure Bz (w V3 V5 wr : World) (X R Q : Nat) (p r q : Array Value) (v : Value) (B : List Bool) : Prop where
  bx : Bx3 w wr X R Q p r q
  ow : OwnB wr V5.heap.size v B
  st : ∀ k, V3.heap.size ≤ k → k < V5.heap.size → wr.heap[k]? = V5.heap[k]?
  sz : V5.heap.size ≤ wr.heap.size
set_option maxRecDepth 10000 in
set_option maxHeartbeats 3200000 in
theorem pairing_any (sl sr : Int) (N O M P : List (List Int)) (B : List Bool) (el : Bool) (aN aO aM aP aB : Option Addr) (cN cO cM cP cB : Nat) (w : World) (hs : PrS ⟨sl, N, O, sr, M, P, B, el⟩) (ha : PrX w ⟨sl, N, O, sr, M, P, B, el⟩ ⟨aN, aO, aM, aP, aB, cN, cO, cM, cP, cB⟩) (ho : O.length ≤ 1000000000) (hp : P.length ≤ 1000000000) (hnB : aB = none → cB = 0) :
    Calls Tryd.prog 12 #[.agg #[.int .i64 sl, .slice aN N.length cN, .slice aO O.length cO, .int .i64 sr, .slice aM M.length cM, .slice aP P.length cP, .slice aB B.length cB, .bool el]] w fun e w' => PgR w ⟨sl, N, O, sr, M, P, B, el⟩ e w' := by
  obtain ⟨w0, w1, V3, hw0, hw1, hw2, hz0, hz1, hz2, g1, g2, g3, g4, hB⟩ := three_boxes w #[.int .i64 sl, .slice aN N.length cN, .slice aO O.length cO, .int .i64 sr, .slice aM M.length cM, .slice aP P.length cP, .slice aB B.length cB, .bool el] #[.int .i64 0, .slice none 0 0, .slice none 0 0, .int .i64 0, .slice none 0 0, .slice none 0 0, .slice none 0 0, .bool false] #[.int .i64 0, .slice none 0 0, .slice none 0 0, .int .i64 0, .slice none 0 0, .slice none 0 0, .slice none 0 0, .bool false] 27
  have HX : Hid (Bx3 w V3 w.heap.size w0.heap.size w1.heap.size #[.int .i64 sl, .slice aN N.length cN, .slice aO O.length cO, .int .i64 sr, .slice aM M.length cM, .slice aP P.length cP, .slice aB B.length cB, .bool el] #[.int .i64 0, .slice none 0 0, .slice none 0 0, .int .i64 0, .slice none 0 0, .slice none 0 0, .slice none 0 0, .bool false] #[.int .i64 0, .slice none 0 0, .slice none 0 0, .int .i64 0, .slice none 0 0, .slice none 0 0, .slice none 0 0, .bool false]) := hid0 ⟨g2, g3, g4, by omega, by omega, by omega, hB⟩
  have HRn : Hid (∀ V : World, Below w.heap.size w V → Calls Tryd.prog 14 #[.slice aN N.length cN] V fun e w' => ∃ g c, e = .returned (.slice (some ⟨g, 0, none⟩) N.length c) ∧ RkL w' V.heap.size g c N ∧ Below V.heap.size V w') := hid0 (fun V hV => rows16_any N aN cN V hs.n hs.nr (ha.past hV).n)
  have HRo : Hid (∀ V : World, Below w.heap.size w V → Calls Tryd.prog 14 #[.slice aO O.length cO] V fun e w' => ∃ g c, e = .returned (.slice (some ⟨g, 0, none⟩) O.length c) ∧ RkL w' V.heap.size g c O ∧ Below V.heap.size V w') := hid0 (fun V hV => rows16_any O aO cO V ho hs.or (ha.past hV).o)
  have HRm : Hid (∀ V : World, Below w.heap.size w V → Calls Tryd.prog 14 #[.slice aM M.length cM] V fun e w' => ∃ g c, e = .returned (.slice (some ⟨g, 0, none⟩) M.length c) ∧ RkL w' V.heap.size g c M ∧ Below V.heap.size V w') := hid0 (fun V hV => rows16_any M aM cM V hs.m hs.mr (ha.past hV).m)
  have HRp : Hid (∀ V : World, Below w.heap.size w V → Calls Tryd.prog 14 #[.slice aP P.length cP] V fun e w' => ∃ g c, e = .returned (.slice (some ⟨g, 0, none⟩) P.length c) ∧ RkL w' V.heap.size g c P ∧ Below V.heap.size V w') := hid0 (fun V hV => rows16_any P aP cP V hp hs.pr (ha.past hV).p')
  have HBo : Hid (∀ V : World, Below w.heap.size w V → BoA V aB B) := hid0 (fun V hV => (ha.past hV).b)
  have hBl : B.length ≤ 1000000000 := hs.b
  clear g1 g2 g3 g4 hB ha hs hz0 hz1 hz2
  go_enter Tryd.func12, Tryd.ntmps12
  go_upto_region 2 with (fail)
  clear hw0 hw1 hw2
  generalize w1.heap.size = Q at *
  generalize w0.heap.size = R at *
  have HLo : Hid (Q < V3.heap.size ∧ w.heap.size ≤ V3.heap.size) := hid0 ⟨HX.out.lt.2.2, HX.out.bel.size⟩
  have HLr : Hid (R < V3.heap.size) := hid0 HX.out.lt.2.1
  refine wp_region_noPanic ?_
  refine wp_region_held_drew (S := (fun V => V.cell? ⟨w.heap.size, 0, none⟩ = some (.int .i64 sl) ∧ V.cell? ⟨w.heap.size, 1, none⟩ = some (.slice aN N.length cN) ∧ V.cell? ⟨w.heap.size, 2, none⟩ = some (.slice aO O.length cO))) (by kernel_rfl) ?_ (fun hHeld => ?_)
  · exact (by have h := HX.out.pcells; exact ⟨h.1.1, h.1.2.1, h.1.2.2.1⟩)
  refine tkV (i := 0) (d := some 5) (v := ?_) rfl (by kernel_rfl) (by kernel_rfl) (by kernel_rfl) rfl (fun _ _ _ h => h) (by rfl) ?_ (by assumption) ?_
  rotate_left
  · (intro w hSw; (try dsimp only at hSw); (try simp only [List.getElem_toArray, List.getElem_cons_zero]); go_simp; try with_reducible rfl)
  try simp only [Act.put, List.setIfInBounds_toArray, List.set_cons_zero, List.set_cons_succ]
  refine tkV (i := 1) (d := some 6) (v := ?_) rfl (by kernel_rfl) (by kernel_rfl) (by kernel_rfl) rfl (fun _ _ _ h => h) (by rfl) ?_ (by assumption) ?_
  rotate_left
  · (intro w hSw; (try dsimp only at hSw); (try simp only [List.getElem_toArray, List.getElem_cons_zero, List.getElem_cons_succ]); go_simp; try with_reducible rfl)
  try simp only [Act.put, List.setIfInBounds_toArray, List.set_cons_zero, List.set_cons_succ]
  refine tkV (i := 2) (d := some 7) (v := ?_) rfl (by kernel_rfl) (by kernel_rfl) (by kernel_rfl) rfl (fun _ _ _ h => h) (by rfl) ?_ (by assumption) ?_
  rotate_left
  · (intro w hSw; (try dsimp only at hSw); (try simp only [List.getElem_toArray, List.getElem_cons_zero, List.getElem_cons_succ]); go_simp; try with_reducible rfl)
  try simp only [Act.put, List.setIfInBounds_toArray, List.set_cons_zero, List.set_cons_succ]
  refine tkV (i := 3) (d := some 8) (v := ?_) rfl (by kernel_rfl) (by kernel_rfl) (by kernel_rfl) rfl (fun _ _ _ h => h) (by rfl) ?_ (by assumption) ?_
  rotate_left
  · (intro w hSw; (try dsimp only at hSw); (try simp only [List.getElem_toArray, List.getElem_cons_zero, List.getElem_cons_succ]); go_simp; try with_reducible rfl)
  try simp only [Act.put, List.setIfInBounds_toArray, List.set_cons_zero, List.set_cons_succ]
  refine tkV (i := 4) (d := some 9) (v := ?_) rfl (by kernel_rfl) (by kernel_rfl) (by kernel_rfl) rfl (fun _ _ _ h => h) (by rfl) ?_ (by assumption) ?_
  rotate_left
  · (intro w hSw; (try dsimp only at hSw); (try simp only [List.getElem_toArray, List.getElem_cons_zero, List.getElem_cons_succ]); go_simp; try with_reducible rfl)
  try simp only [Act.put, List.setIfInBounds_toArray, List.set_cons_zero, List.set_cons_succ]
  refine tkV (i := 5) (d := some 10) (v := ?_) rfl (by kernel_rfl) (by kernel_rfl) (by kernel_rfl) rfl (fun _ _ _ h => h) (by rfl) ?_ (by assumption) ?_
  rotate_left
  · (intro w hSw; (try dsimp only at hSw); (try simp only [List.getElem_toArray, List.getElem_cons_zero, List.getElem_cons_succ]); go_simp; try with_reducible rfl)
  try simp only [Act.put, List.setIfInBounds_toArray, List.set_cons_zero, List.set_cons_succ]
  refine tkV (i := 7) (d := some 12) (v := ?_) rfl (by kernel_rfl) (by kernel_rfl) (by kernel_rfl) rfl (fun _ _ _ h => h) (by rfl) ?_ (by assumption) ?_
  rotate_left
  · (intro w hSw; (try dsimp only at hSw); (try simp only [List.getElem_toArray, List.getElem_cons_zero, List.getElem_cons_succ]); go_simp; try with_reducible rfl)
  try simp only [Act.put, List.setIfInBounds_toArray, List.set_cons_zero, List.set_cons_succ]
  refine tkV (i := 8) (d := some 13) (v := ?_) rfl (by kernel_rfl) (by kernel_rfl) (by kernel_rfl) rfl (fun _ _ _ h => h) (by rfl) ?_ (by assumption) ?_
  rotate_left
  · (intro w hSw; (try dsimp only at hSw); (try simp only [List.getElem_toArray, List.getElem_cons_zero, List.getElem_cons_succ]); go_simp; try with_reducible rfl)
  try simp only [Act.put, List.setIfInBounds_toArray, List.set_cons_zero, List.set_cons_succ]
  refine tkV (i := 9) (d := some 14) (v := ?_) rfl (by kernel_rfl) (by kernel_rfl) (by kernel_rfl) rfl (fun _ _ _ h => h) (by rfl) ?_ (by assumption) ?_
  rotate_left
  · (intro w hSw; (try dsimp only at hSw); (try simp only [List.getElem_toArray, List.getElem_cons_zero, List.getElem_cons_succ]); go_simp; try with_reducible rfl)
  try simp only [Act.put, List.setIfInBounds_toArray, List.set_cons_zero, List.set_cons_succ]
  refine wpAnyH_ready (rs := [6]) (by kernel_rfl) (by simp) (AllReadyH.cons rfl (fun K hK => ?_) AllReadyH.nil)
  try simp only [List.getElem_toArray, List.getElem_cons_zero, List.getElem_cons_succ]
  go_simp
  refine (HRn.out V3.drew (HX.out.bel.trans ⟨rfl, rfl, rfl, Nat.le_refl _, fun _ _ => rfl⟩)).mono ?_
  rintro e W1 ⟨G1, d1, rfl, hk1, hb1⟩
  have HBW1 : Hid (Below V3.heap.size V3 W1) := hid0 ((⟨rfl, rfl, rfl, Nat.le_refl _, fun _ _ => rfl⟩ : Below V3.heap.size V3 V3.drew).trans hb1)
  have HXW1 := hid0 (HX.out.past HBW1.out)
  have HKG1 : Hid (RkL W1 V3.heap.size G1 d1 N) := hid0 hk1
  have HSW1 : Hid ((fun V => V.cell? ⟨w.heap.size, 0, none⟩ = some (.int .i64 sl) ∧ V.cell? ⟨w.heap.size, 1, none⟩ = some (.slice aN N.length cN) ∧ V.cell? ⟨w.heap.size, 2, none⟩ = some (.slice aO O.length cO)) W1) := hid0 (by have h := HXW1.out.pcells; exact ⟨h.1.1, h.1.2.1, h.1.2.2.1⟩)
  clear hk1 hb1
  go_wp2_with fail
  refine hK.out _ _ ?_ (fun hHeld6 => ?_)
  · exact HSW1.out
  clear hK K
  (try simp only [Act.put]); (try simp only [List.setIfInBounds_toArray]); (try simp only [List.set_cons_succ]); (try simp only [List.set_cons_zero])
  refine wpAnyH_ready (rs := [10]) (by kernel_rfl) (by simp) (AllReadyH.cons rfl (fun K hK => ?_) AllReadyH.nil)
  try simp only [List.getElem_toArray, List.getElem_cons_zero, List.getElem_cons_succ]
  go_simp
  refine (HRo.out W1 HXW1.out.bel).mono ?_
  rintro e W2 ⟨G2, d2, rfl, hk1, hb1⟩
  have HBW2 : Hid (Below V3.heap.size V3 W2) := hid0 (HBW1.out.trans (hb1.mono HBW1.out.size))
  have HXW2 := hid0 (HXW1.out.past hb1)
  have HKG2 : Hid (RkL W2 V3.heap.size G2 d2 O) := hid0 (hk1.lower HBW1.out.size)
  replace HKG1 := hid0 (HKG1.out.past hb1)
  have HSW2 : Hid ((fun V => V.cell? ⟨w.heap.size, 0, none⟩ = some (.int .i64 sl) ∧ V.cell? ⟨w.heap.size, 1, none⟩ = some (.slice aN N.length cN) ∧ V.cell? ⟨w.heap.size, 2, none⟩ = some (.slice aO O.length cO)) W2) := hid0 (by have h := HXW2.out.pcells; exact ⟨h.1.1, h.1.2.1, h.1.2.2.1⟩)
  have HYW2 : Hid (Bx3 w (((W2.setCell ⟨Q, 0, none⟩ (.int .i64 sl)).setCell ⟨Q, 1, none⟩ (.slice (some ⟨G1, 0, none⟩) N.length d1)).setCell ⟨Q, 2, none⟩ (.slice (some ⟨G2, 0, none⟩) O.length d2)) w.heap.size R Q #[.int .i64 sl, .slice aN N.length cN, .slice aO O.length cO, .int .i64 sr, .slice aM M.length cM, .slice aP P.length cP, .slice aB B.length cB, .bool el] #[.int .i64 0, .slice none 0 0, .slice none 0 0, .int .i64 0, .slice none 0 0, .slice none 0 0, .slice none 0 0, .bool false] #[.int .i64 sl, .slice (some ⟨G1, 0, none⟩) N.length d1, .slice (some ⟨G2, 0, none⟩) O.length d2, .int .i64 0, .slice none 0 0, .slice none 0 0, .slice none 0 0, .bool false]) := hid0 (((HXW2.out.put 0 _).put 1 _).put 2 _)
  have HZW2 : Hid ((fun V => V.cell? ⟨w.heap.size, 0, none⟩ = some (.int .i64 sl) ∧ V.cell? ⟨w.heap.size, 1, none⟩ = some (.slice aN N.length cN) ∧ V.cell? ⟨w.heap.size, 2, none⟩ = some (.slice aO O.length cO)) (((W2.setCell ⟨Q, 0, none⟩ (.int .i64 sl)).setCell ⟨Q, 1, none⟩ (.slice (some ⟨G1, 0, none⟩) N.length d1)).setCell ⟨Q, 2, none⟩ (.slice (some ⟨G2, 0, none⟩) O.length d2))) := hid0 (by have h := HYW2.out.pcells; exact ⟨h.1.1, h.1.2.1, h.1.2.2.1⟩)
  obtain ⟨⟨k0, k1, k2, k3⟩, k4, k5, k6, k7⟩ := HXW2.out.cells
  have f0 := frz HXW2.out.q 0
  have f1 := frz HXW2.out.q 1
  have f2 := frz HXW2.out.q 2
  clear hk1 hb1
  go_wp2_with fail
  refine hK.out _ _ ?_ (fun hHeld10 => ?_)
  · exact HSW2.out
  clear hK K
  (try simp only [Act.put]); (try simp only [List.setIfInBounds_toArray]); (try simp only [List.set_cons_succ]); (try simp only [List.set_cons_zero])
  refine tkV (i := 11) (d := some 16) (v := ?_) rfl (by kernel_rfl) (by kernel_rfl) (by kernel_rfl) rfl (fun _ _ _ h => h) (by rfl) ?_ (by assumption) ?_
  rotate_left
  · (intro w hSw; (try dsimp only at hSw); (try simp only [List.getElem_toArray, List.getElem_cons_zero, List.getElem_cons_succ]); go_simp; try with_reducible rfl)
  try simp only [Act.put, List.setIfInBounds_toArray, List.set_cons_zero, List.set_cons_succ]
  refine tkV (i := 12) (d := some 17) (v := ?_) rfl (by kernel_rfl) (by kernel_rfl) (by kernel_rfl) rfl (fun _ _ _ h => h) (by rfl) ?_ (by assumption) ?_
  rotate_left
  · (intro w hSw; (try dsimp only at hSw); (try simp only [List.getElem_toArray, List.getElem_cons_zero, List.getElem_cons_succ]); go_simp; try with_reducible rfl)
  try simp only [Act.put, List.setIfInBounds_toArray, List.set_cons_zero, List.set_cons_succ]
  refine wpAnyH_ready (rs := [13]) (by kernel_rfl) (by simp) (AllReadyH.cons rfl (fun K hK => ?_) AllReadyH.nil)
  try simp only [List.getElem_toArray, List.getElem_cons_zero, List.getElem_cons_succ]
  go_simp
  refine hK.out _ _ ?_ (fun hHeld13 => ?_)
  · exact HZW2.out
  clear hK K
  (try simp only [Act.put]); (try simp only [List.setIfInBounds_toArray]); (try simp only [List.set_cons_succ]); (try simp only [List.set_cons_zero])
  refine wpAnyH_done (by kernel_rfl) ?_ _
  refine NoPanic.normal ?_
  have HK1 : Hid (RkL (((W2.setCell ⟨Q, 0, none⟩ (.int .i64 sl)).setCell ⟨Q, 1, none⟩ (.slice (some ⟨G1, 0, none⟩) N.length d1)).setCell ⟨Q, 2, none⟩ (.slice (some ⟨G2, 0, none⟩) O.length d2)) V3.heap.size G1 d1 N) := hid0 (((HKG1.out.putQ HLo.out.1 _).putQ HLo.out.1 _).putQ HLo.out.1 _)
  have HK2 : Hid (RkL (((W2.setCell ⟨Q, 0, none⟩ (.int .i64 sl)).setCell ⟨Q, 1, none⟩ (.slice (some ⟨G1, 0, none⟩) N.length d1)).setCell ⟨Q, 2, none⟩ (.slice (some ⟨G2, 0, none⟩) O.length d2)) V3.heap.size G2 d2 O) := hid0 (((HKG2.out.putQ HLo.out.1 _).putQ HLo.out.1 _).putQ HLo.out.1 _)
  have HX4 := HYW2
  have HBz : Hid (V3.heap.size ≤ (((W2.setCell ⟨Q, 0, none⟩ (.int .i64 sl)).setCell ⟨Q, 1, none⟩ (.slice (some ⟨G1, 0, none⟩) N.length d1)).setCell ⟨Q, 2, none⟩ (.slice (some ⟨G2, 0, none⟩) O.length d2)).heap.size) := hid0 (by rw [set_size, set_size, set_size]; exact HBW2.out.size)
  clear hHeld hHeld6 hHeld10 hHeld13 k0 k1 k2 k3 k4 k5 k6 k7 f0 f1 f2 HYW2 HZW2 HSW2 HSW1 HKG1 HKG2 HXW1 HXW2 HX HBW1 HBW2
  generalize (((W2.setCell ⟨Q, 0, none⟩ (.int .i64 sl)).setCell ⟨Q, 1, none⟩ (.slice (some ⟨G1, 0, none⟩) N.length d1)).setCell ⟨Q, 2, none⟩ (.slice (some ⟨G2, 0, none⟩) O.length d2)) = V4 at *
  clear W1 W2
  go_upto_region 3 with (fail)
  refine wp_region_noPanic ?_
  refine wp_region_held_drew (S := (fun V => V.cell? ⟨w.heap.size, 3, none⟩ = some (.int .i64 sr) ∧ V.cell? ⟨w.heap.size, 4, none⟩ = some (.slice aM M.length cM) ∧ V.cell? ⟨w.heap.size, 5, none⟩ = some (.slice aP P.length cP))) (by kernel_rfl) ?_ (fun hHeld => ?_)
  · exact (by have h := HX4.out.pcells; exact ⟨h.1.2.2.2, h.2.1, h.2.2.1⟩)
  refine tkV (i := 0) (d := some 18) (v := ?_) rfl (by kernel_rfl) (by kernel_rfl) (by kernel_rfl) rfl (fun _ _ _ h => h) (by rfl) ?_ (by assumption) ?_
  rotate_left
  · (intro w hSw; (try dsimp only at hSw); (try simp only [List.getElem_toArray, List.getElem_cons_zero]); go_simp; try with_reducible rfl)
  try simp only [Act.put, List.setIfInBounds_toArray, List.set_cons_zero, List.set_cons_succ]
  refine tkV (i := 1) (d := some 19) (v := ?_) rfl (by kernel_rfl) (by kernel_rfl) (by kernel_rfl) rfl (fun _ _ _ h => h) (by rfl) ?_ (by assumption) ?_
  rotate_left
  · (intro w hSw; (try dsimp only at hSw); (try simp only [List.getElem_toArray, List.getElem_cons_zero, List.getElem_cons_succ]); go_simp; try with_reducible rfl)
  try simp only [Act.put, List.setIfInBounds_toArray, List.set_cons_zero, List.set_cons_succ]
  refine tkV (i := 2) (d := some 20) (v := ?_) rfl (by kernel_rfl) (by kernel_rfl) (by kernel_rfl) rfl (fun _ _ _ h => h) (by rfl) ?_ (by assumption) ?_
  rotate_left
  · (intro w hSw; (try dsimp only at hSw); (try simp only [List.getElem_toArray, List.getElem_cons_zero, List.getElem_cons_succ]); go_simp; try with_reducible rfl)
  try simp only [Act.put, List.setIfInBounds_toArray, List.set_cons_zero, List.set_cons_succ]
  refine tkV (i := 3) (d := some 21) (v := ?_) rfl (by kernel_rfl) (by kernel_rfl) (by kernel_rfl) rfl (fun _ _ _ h => h) (by rfl) ?_ (by assumption) ?_
  rotate_left
  · (intro w hSw; (try dsimp only at hSw); (try simp only [List.getElem_toArray, List.getElem_cons_zero, List.getElem_cons_succ]); go_simp; try with_reducible rfl)
  try simp only [Act.put, List.setIfInBounds_toArray, List.set_cons_zero, List.set_cons_succ]
  refine tkV (i := 4) (d := some 22) (v := ?_) rfl (by kernel_rfl) (by kernel_rfl) (by kernel_rfl) rfl (fun _ _ _ h => h) (by rfl) ?_ (by assumption) ?_
  rotate_left
  · (intro w hSw; (try dsimp only at hSw); (try simp only [List.getElem_toArray, List.getElem_cons_zero, List.getElem_cons_succ]); go_simp; try with_reducible rfl)
  try simp only [Act.put, List.setIfInBounds_toArray, List.set_cons_zero, List.set_cons_succ]
  refine tkV (i := 5) (d := some 23) (v := ?_) rfl (by kernel_rfl) (by kernel_rfl) (by kernel_rfl) rfl (fun _ _ _ h => h) (by rfl) ?_ (by assumption) ?_
  rotate_left
  · (intro w hSw; (try dsimp only at hSw); (try simp only [List.getElem_toArray, List.getElem_cons_zero, List.getElem_cons_succ]); go_simp; try with_reducible rfl)
  try simp only [Act.put, List.setIfInBounds_toArray, List.set_cons_zero, List.set_cons_succ]
  refine tkV (i := 7) (d := some 25) (v := ?_) rfl (by kernel_rfl) (by kernel_rfl) (by kernel_rfl) rfl (fun _ _ _ h => h) (by rfl) ?_ (by assumption) ?_
  rotate_left
  · (intro w hSw; (try dsimp only at hSw); (try simp only [List.getElem_toArray, List.getElem_cons_zero, List.getElem_cons_succ]); go_simp; try with_reducible rfl)
  try simp only [Act.put, List.setIfInBounds_toArray, List.set_cons_zero, List.set_cons_succ]
  refine tkV (i := 8) (d := some 26) (v := ?_) rfl (by kernel_rfl) (by kernel_rfl) (by kernel_rfl) rfl (fun _ _ _ h => h) (by rfl) ?_ (by assumption) ?_
  rotate_left
  · (intro w hSw; (try dsimp only at hSw); (try simp only [List.getElem_toArray, List.getElem_cons_zero, List.getElem_cons_succ]); go_simp; try with_reducible rfl)
  try simp only [Act.put, List.setIfInBounds_toArray, List.set_cons_zero, List.set_cons_succ]
  refine tkV (i := 9) (d := some 27) (v := ?_) rfl (by kernel_rfl) (by kernel_rfl) (by kernel_rfl) rfl (fun _ _ _ h => h) (by rfl) ?_ (by assumption) ?_
  rotate_left
  · (intro w hSw; (try dsimp only at hSw); (try simp only [List.getElem_toArray, List.getElem_cons_zero, List.getElem_cons_succ]); go_simp; try with_reducible rfl)
  try simp only [Act.put, List.setIfInBounds_toArray, List.set_cons_zero, List.set_cons_succ]
  refine wpAnyH_ready (rs := [6]) (by kernel_rfl) (by simp) (AllReadyH.cons rfl (fun K hK => ?_) AllReadyH.nil)
  try simp only [List.getElem_toArray, List.getElem_cons_zero, List.getElem_cons_succ]
  go_simp
  refine (HRm.out V4.drew (HX4.out.bel.trans ⟨rfl, rfl, rfl, Nat.le_refl _, fun _ _ => rfl⟩)).mono ?_
  rintro e W3 ⟨G3, d3, rfl, hk1, hb1⟩
  have HBW3 : Hid (Below V4.heap.size V4 W3) := hid0 ((⟨rfl, rfl, rfl, Nat.le_refl _, fun _ _ => rfl⟩ : Below V4.heap.size V4 V4.drew).trans hb1)
  have HXW3 := hid0 (HX4.out.past HBW3.out)
  have HKG3 : Hid (RkL W3 V4.heap.size G3 d3 M) := hid0 hk1
  have HSW3 : Hid ((fun V => V.cell? ⟨w.heap.size, 3, none⟩ = some (.int .i64 sr) ∧ V.cell? ⟨w.heap.size, 4, none⟩ = some (.slice aM M.length cM) ∧ V.cell? ⟨w.heap.size, 5, none⟩ = some (.slice aP P.length cP)) W3) := hid0 (by have h := HXW3.out.pcells; exact ⟨h.1.2.2.2, h.2.1, h.2.2.1⟩)
  clear hk1 hb1
  go_wp2_with fail
  refine hK.out _ _ ?_ (fun hHeld6 => ?_)
  · exact HSW3.out
  clear hK K
  (try simp only [Act.put]); (try simp only [List.setIfInBounds_toArray]); (try simp only [List.set_cons_succ]); (try simp only [List.set_cons_zero])
  refine wpAnyH_ready (rs := [10]) (by kernel_rfl) (by simp) (AllReadyH.cons rfl (fun K hK => ?_) AllReadyH.nil)
  try simp only [List.getElem_toArray, List.getElem_cons_zero, List.getElem_cons_succ]
  go_simp
  refine (HRp.out W3 HXW3.out.bel).mono ?_
  rintro e W4 ⟨G4, d4, rfl, hk1, hb1⟩
  have HBW4 : Hid (Below V4.heap.size V4 W4) := hid0 (HBW3.out.trans (hb1.mono HBW3.out.size))
  have HXW4 := hid0 (HXW3.out.past hb1)
  have HKG4 : Hid (RkL W4 V4.heap.size G4 d4 P) := hid0 (hk1.lower HBW3.out.size)
  replace HKG3 := hid0 (HKG3.out.past hb1)
  have HSW4 : Hid ((fun V => V.cell? ⟨w.heap.size, 3, none⟩ = some (.int .i64 sr) ∧ V.cell? ⟨w.heap.size, 4, none⟩ = some (.slice aM M.length cM) ∧ V.cell? ⟨w.heap.size, 5, none⟩ = some (.slice aP P.length cP)) W4) := hid0 (by have h := HXW4.out.pcells; exact ⟨h.1.2.2.2, h.2.1, h.2.2.1⟩)
  have HYW4 : Hid (Bx3 w (((W4.setCell ⟨Q, 3, none⟩ (.int .i64 sr)).setCell ⟨Q, 4, none⟩ (.slice (some ⟨G3, 0, none⟩) M.length d3)).setCell ⟨Q, 5, none⟩ (.slice (some ⟨G4, 0, none⟩) P.length d4)) w.heap.size R Q #[.int .i64 sl, .slice aN N.length cN, .slice aO O.length cO, .int .i64 sr, .slice aM M.length cM, .slice aP P.length cP, .slice aB B.length cB, .bool el] #[.int .i64 0, .slice none 0 0, .slice none 0 0, .int .i64 0, .slice none 0 0, .slice none 0 0, .slice none 0 0, .bool false] #[.int .i64 sl, .slice (some ⟨G1, 0, none⟩) N.length d1, .slice (some ⟨G2, 0, none⟩) O.length d2, .int .i64 sr, .slice (some ⟨G3, 0, none⟩) M.length d3, .slice (some ⟨G4, 0, none⟩) P.length d4, .slice none 0 0, .bool false]) := hid0 (((HXW4.out.put 3 _).put 4 _).put 5 _)
  have HZW4 : Hid ((fun V => V.cell? ⟨w.heap.size, 3, none⟩ = some (.int .i64 sr) ∧ V.cell? ⟨w.heap.size, 4, none⟩ = some (.slice aM M.length cM) ∧ V.cell? ⟨w.heap.size, 5, none⟩ = some (.slice aP P.length cP)) (((W4.setCell ⟨Q, 3, none⟩ (.int .i64 sr)).setCell ⟨Q, 4, none⟩ (.slice (some ⟨G3, 0, none⟩) M.length d3)).setCell ⟨Q, 5, none⟩ (.slice (some ⟨G4, 0, none⟩) P.length d4))) := hid0 (by have h := HYW4.out.pcells; exact ⟨h.1.2.2.2, h.2.1, h.2.2.1⟩)
  obtain ⟨⟨k0, k1, k2, k3⟩, k4, k5, k6, k7⟩ := HXW4.out.cells
  have f3 := frz HXW4.out.q 3
  have f4 := frz HXW4.out.q 4
  have f5 := frz HXW4.out.q 5
  clear hk1 hb1
  go_wp2_with fail
  refine hK.out _ _ ?_ (fun hHeld10 => ?_)
  · exact HSW4.out
  clear hK K
  (try simp only [Act.put]); (try simp only [List.setIfInBounds_toArray]); (try simp only [List.set_cons_succ]); (try simp only [List.set_cons_zero])
  refine tkV (i := 11) (d := some 29) (v := ?_) rfl (by kernel_rfl) (by kernel_rfl) (by kernel_rfl) rfl (fun _ _ _ h => h) (by rfl) ?_ (by assumption) ?_
  rotate_left
  · (intro w hSw; (try dsimp only at hSw); (try simp only [List.getElem_toArray, List.getElem_cons_zero, List.getElem_cons_succ]); go_simp; try with_reducible rfl)
  try simp only [Act.put, List.setIfInBounds_toArray, List.set_cons_zero, List.set_cons_succ]
  refine tkV (i := 12) (d := some 30) (v := ?_) rfl (by kernel_rfl) (by kernel_rfl) (by kernel_rfl) rfl (fun _ _ _ h => h) (by rfl) ?_ (by assumption) ?_
  rotate_left
  · (intro w hSw; (try dsimp only at hSw); (try simp only [List.getElem_toArray, List.getElem_cons_zero, List.getElem_cons_succ]); go_simp; try with_reducible rfl)
  try simp only [Act.put, List.setIfInBounds_toArray, List.set_cons_zero, List.set_cons_succ]
  refine wpAnyH_ready (rs := [13]) (by kernel_rfl) (by simp) (AllReadyH.cons rfl (fun K hK => ?_) AllReadyH.nil)
  try simp only [List.getElem_toArray, List.getElem_cons_zero, List.getElem_cons_succ]
  go_simp
  refine hK.out _ _ ?_ (fun hHeld13 => ?_)
  · exact HZW4.out
  clear hK K
  (try simp only [Act.put]); (try simp only [List.setIfInBounds_toArray]); (try simp only [List.set_cons_succ]); (try simp only [List.set_cons_zero])
  refine wpAnyH_done (by kernel_rfl) ?_ _
  refine NoPanic.normal ?_
  have HLq := HLo.out.1
  replace HK1 : Hid (RkL (((W4.setCell ⟨Q, 3, none⟩ (.int .i64 sr)).setCell ⟨Q, 4, none⟩ (.slice (some ⟨G3, 0, none⟩) M.length d3)).setCell ⟨Q, 5, none⟩ (.slice (some ⟨G4, 0, none⟩) P.length d4)) V3.heap.size G1 d1 N) := hid0 ((((HK1.out.past HBW4.out).putQ HLq _).putQ HLq _).putQ HLq _)
  replace HK2 : Hid (RkL (((W4.setCell ⟨Q, 3, none⟩ (.int .i64 sr)).setCell ⟨Q, 4, none⟩ (.slice (some ⟨G3, 0, none⟩) M.length d3)).setCell ⟨Q, 5, none⟩ (.slice (some ⟨G4, 0, none⟩) P.length d4)) V3.heap.size G2 d2 O) := hid0 ((((HK2.out.past HBW4.out).putQ HLq _).putQ HLq _).putQ HLq _)
  have HK3 : Hid (RkL (((W4.setCell ⟨Q, 3, none⟩ (.int .i64 sr)).setCell ⟨Q, 4, none⟩ (.slice (some ⟨G3, 0, none⟩) M.length d3)).setCell ⟨Q, 5, none⟩ (.slice (some ⟨G4, 0, none⟩) P.length d4)) V3.heap.size G3 d3 M) := hid0 ((((HKG3.out.lower HBz.out).putQ HLq _).putQ HLq _).putQ HLq _)
  have HK4 : Hid (RkL (((W4.setCell ⟨Q, 3, none⟩ (.int .i64 sr)).setCell ⟨Q, 4, none⟩ (.slice (some ⟨G3, 0, none⟩) M.length d3)).setCell ⟨Q, 5, none⟩ (.slice (some ⟨G4, 0, none⟩) P.length d4)) V3.heap.size G4 d4 P) := hid0 ((((HKG4.out.lower HBz.out).putQ HLq _).putQ HLq _).putQ HLq _)
  have HX5 := HYW4
  replace HBz : Hid (V3.heap.size ≤ (((W4.setCell ⟨Q, 3, none⟩ (.int .i64 sr)).setCell ⟨Q, 4, none⟩ (.slice (some ⟨G3, 0, none⟩) M.length d3)).setCell ⟨Q, 5, none⟩ (.slice (some ⟨G4, 0, none⟩) P.length d4)).heap.size) := hid0 (by rw [set_size, set_size, set_size]; exact Nat.le_trans HBz.out HBW4.out.size)
  clear hHeld hHeld6 hHeld10 hHeld13 k0 k1 k2 k3 k4 k5 k6 k7 f3 f4 f5 HYW4 HZW4 HSW4 HSW3 HKG3 HKG4 HXW3 HXW4 HX4 HBW3 HBW4 HLq
  generalize (((W4.setCell ⟨Q, 3, none⟩ (.int .i64 sr)).setCell ⟨Q, 4, none⟩ (.slice (some ⟨G3, 0, none⟩) M.length d3)).setCell ⟨Q, 5, none⟩ (.slice (some ⟨G4, 0, none⟩) P.length d4)) = V5 at *
  clear W3 W4
  obtain ⟨i0, hi, hy0, hy1, hy2⟩ := info_parts infoBool
  obtain ⟨⟨p0, p1, p2, p3⟩, p4, p5, p6, p7⟩ := HX5.out.pcells
  obtain ⟨⟨k0, k1, k2, k3⟩, k4, k5, k6, k7⟩ := HX5.out.cells
  have hBo5 := HBo.out V5 HX5.out.bel
  have HBo5 := hid0 hBo5
  clear hBo5
  go_upto_region 5 with (at_builtin; go_loud ((
    refine wpList_spreadB rfl _ _ rfl aB B cB V5.heap.size rfl rfl hnB HBo5.out (by omega) (Nat.le_refl _) ?_
    intro v6 W6 hown6 hgrow6
    obtain ⟨av, cv, rfl⟩ := OwnB.form hown6
    have HO6 := hid0 hown6
    have HB6 : Hid (Below V5.heap.size V5 W6) := hid0 ((Below.refl _ _).grown hgrow6 (Nat.le_refl _) (fun k hk => by cases hk))
    have HX6 := hid0 (HX5.out.past HB6.out)
    obtain ⟨_, _, _, j6, _⟩ := HX6.out.cells
    have f6 := frz HX6.out.q 6
    clear hown6 hgrow6 p0 p1 p2 p3 p4 p5 p6 p7 k0 k1 k2 k3 k4 k5 k6 k7)))
  have HL5 : Hid ((w.heap.size < V5.heap.size ∧ R < V5.heap.size ∧ Q < V5.heap.size) ∧ w.heap.size ≤ V5.heap.size) := hid0 ⟨HX5.out.lt, HX5.out.bel.size⟩
  have HLt : Hid (w.heap.size ≤ V5.heap.size ∧ Q < V5.heap.size ∧ Q < V3.heap.size) := hid0 ⟨HL5.out.2, HL5.out.1.2.2, HLo.out.1⟩
  have HZ0 : Hid (Bz w V3 V5 (W6.setCell ⟨Q, 6, none⟩ (.slice av B.length cv)) w.heap.size R Q #[.int .i64 sl, .slice aN N.length cN, .slice aO O.length cO, .int .i64 sr, .slice aM M.length cM, .slice aP P.length cP, .slice aB B.length cB, .bool el] #[.int .i64 0, .slice none 0 0, .slice none 0 0, .int .i64 0, .slice none 0 0, .slice none 0 0, .slice none 0 0, .bool false] #[.int .i64 sl, .slice (some ⟨G1, 0, none⟩) N.length d1, .slice (some ⟨G2, 0, none⟩) O.length d2, .int .i64 sr, .slice (some ⟨G3, 0, none⟩) M.length d3, .slice (some ⟨G4, 0, none⟩) P.length d4, .slice av B.length cv, .bool false] (.slice av B.length cv) B) := hid0 ⟨HX6.out.put 6 _, own_blk HO6.out (fun k hk => Below.heap_setCell _ _ _ _ (by show k ≠ Q; have := (World.ownsRow.lt HO6.out k hk).1; have := HLt.out; omega)), fun k h1 h2 => (Below.heap_setCell _ _ _ _ (by show k ≠ Q; have := HLt.out; omega)).trans (HB6.out.block k h2), by rw [set_size]; exact HB6.out.size⟩
  clear HX6 HO6 HB6 j6 f6 HBo5 HX5
  generalize (W6.setCell ⟨Q, 6, none⟩ (.slice av B.length cv)) = V6 at *
  go_upto_region 6 with (fail)
  go_loopw [4] (fun x wr => ∃ (k : Nat) (av : Option Addr) (cv : Nat), k ≤ 64 ∧ x = .int .i64 (k : Int) ∧ Hid (Bz w V3 V5 wr w.heap.size R Q #[.int .i64 sl, .slice aN N.length cN, .slice aO O.length cO, .int .i64 sr, .slice aM M.length cM, .slice aP P.length cP, .slice aB B.length cB, .bool el] #[.int .i64 0, .slice none 0 0, .slice none 0 0, .int .i64 0, .slice none 0 0, .slice none 0 0, .slice none 0 0, .bool false] #[.int .i64 sl, .slice (some ⟨G1, 0, none⟩) N.length d1, .slice (some ⟨G2, 0, none⟩) O.length d2, .int .i64 sr, .slice (some ⟨G3, 0, none⟩) M.length d3, .slice (some ⟨G4, 0, none⟩) P.length d4, .slice av (B ++ mkB k).length cv, .bool false] (.slice av (B ++ mkB k).length cv) (B ++ mkB k))) (fun x _ => 64 - (intOf x).toNat)
  case atStart => exact ⟨0, av, cv, Nat.zero_le _, rfl, hid0 (by rw [show B ++ mkB 0 = B from List.append_nil _]; exact HZ0.out)⟩
  case round =>
    clear HZ0
    obtain ⟨k, av, cv, hk, rfl, HZ⟩ := hrel
    have hBk : (B ++ mkB k).length = B.length + k := by rw [List.length_append, mkB_len]
    have HBk := hid0 hBk
    by_cases hlt : k < 64
    · have hkI : (k : Int) < 64 := by omega
      have HSu : Hid (B ++ mkB (k + 1) = (B ++ mkB k) ++ [decide (k % 2 = 0)]) := hid0 (by rw [mkB_succ, List.append_assoc])
      obtain ⟨nB, hnB'⟩ : ∃ nB, nB = (B ++ mkB k).length := ⟨_, rfl⟩
      have hnl : nB ≤ 1000000064 := by omega
      rw [← hnB'] at HZ
      have HN := hid0 hnB'
      clear hnB' hBk
      obtain ⟨_, _, _, k6, _⟩ := HZ.out.bx.cells
      have hmod : ((k : Int) % 2 == 0) = decide (k % 2 = 0) := by rw [Bool.eq_iff_iff, beq_iff_eq, decide_eq_true_eq]; omega
      obtain ⟨bb, hbb⟩ : ∃ bb, bb = decide (k % 2 = 0) := ⟨_, rfl⟩
      rw [← hbb] at HSu hmod
      clear hbb
      have hle := HZ.out.sz
      go_wp2_with (at_builtin; go_loud ((
        refine wpList_append_own _ (by rfl) _ _ 25 (by rfl) V5.heap.size 4 i0 (.bool false) 1 1 Tryd.underlying25 hi hy0 hy1 hy2 rfl (by decide) (.slice av nB cv) nB ((B ++ mkB k).map Value.bool) (by rfl) (World.ownsRow.alloc (by have h := HZ.out.ow; unfold OwnB at h; rw [← HN.out] at h; exact h) _) ⟨wr.heap.size, 0, none⟩ 1 1 [.bool bb] (by rfl) (by rfl) (cell_one_new _ _ _) (by simp [Value.oneCell']) (by unfold maxLen; omega) (by omega) (by simp; omega) ?_
        intro v7 W7 hown7 hgrow7 _
        obtain ⟨av2, cv2, rfl⟩ : ∃ a c, v7 = .slice a (nB + 1) c := by
          rcases hown7.2 with ⟨e, e2⟩ | ⟨g', cap', cur', e, _⟩
          · simp at e2
          · exact ⟨_, _, e⟩
        have HO8 := hid0 hown7
        have HB8 : Hid (Below V5.heap.size wr W7) := hid0 (((Below.refl _ _).alloc hle _).grown hgrow7 (by simp; omega) (fun q hq => (World.ownsRow.lt HZ.out.ow q hq).1))
        have HX8 := hid0 (HZ.out.bx.past' HB8.out HL5.out.1 HL5.out.2)
        obtain ⟨_, _, _, j6, _⟩ := HX8.out.cells
        have f6 := frz HX8.out.q 6
        clear hown7 hgrow7 k6)))
      have HZ2 : Hid (Bz w V3 V5 (W7.setCell ⟨Q, 6, none⟩ (.slice av2 (nB + 1) cv2)) w.heap.size R Q #[.int .i64 sl, .slice aN N.length cN, .slice aO O.length cO, .int .i64 sr, .slice aM M.length cM, .slice aP P.length cP, .slice aB B.length cB, .bool el] #[.int .i64 0, .slice none 0 0, .slice none 0 0, .int .i64 0, .slice none 0 0, .slice none 0 0, .slice none 0 0, .bool false] #[.int .i64 sl, .slice (some ⟨G1, 0, none⟩) N.length d1, .slice (some ⟨G2, 0, none⟩) O.length d2, .int .i64 sr, .slice (some ⟨G3, 0, none⟩) M.length d3, .slice (some ⟨G4, 0, none⟩) P.length d4, .slice av2 (nB + 1) cv2, .bool false] (.slice av2 (nB + 1) cv2) ((B ++ mkB k) ++ [bb])) := hid0 ⟨HX8.out.put 6 _, by
        have h : OwnB W7 V5.heap.size (.slice av2 (nB + 1) cv2) ((B ++ mkB k) ++ [bb]) := by
          unfold OwnB
          rw [List.length_append, ← HN.out, List.map_append]
          exact HO8.out
        exact own_blk h (fun k hk => Below.heap_setCell _ _ _ _ (by show k ≠ Q; have := (World.ownsRow.lt h k hk).1; have := HLt.out; omega)), fun k h1 h2 => (Below.heap_setCell _ _ _ _ (by show k ≠ Q; have := HLt.out; omega)).trans ((HB8.out.block k h2).trans (HZ.out.st k h1 h2)), by rw [set_size]; exact Nat.le_trans hle HB8.out.size⟩
      clear HZ HO8 HB8 HX8 j6 f6
      go_roundw
      case rel => exact ⟨k + 1, av2, cv2, hlt, by go_num, hid0 (by
        have e : (B ++ mkB (k + 1)).length = nB + 1 := by rw [HSu.out, List.length_append, ← HN.out]; rfl
        rw [e, HSu.out]
        exact HZ2.out)⟩
      case measure => simp [intOf]; omega
    · have hkI : ¬ (k : Int) < 64 := by omega
      obtain rfl : k = 64 := by omega
      obtain ⟨g7, c7, e7, _⟩ := own_form HZ.out.ow (by omega)
      injection e7 with e71 _ e73
      subst e71 e73
      have HOM : Hid (BoM wr V5.heap.size g7 cv B) := hid0 HZ.out.ow
      have hcap : (B.length : Int) ≤ (cv : Int) := by have := HOM.out.cap; omega
      obtain ⟨NB, hNB⟩ : ∃ NB, NB = (B ++ mkB 64).length := ⟨_, rfl⟩
      rw [← hNB] at HZ
      have hNBl : (B.length : Int) ≤ (NB : Int) := by omega
      clear hNB hBk HBk
      obtain ⟨_, _, _, k6, _⟩ := HZ.out.bx.cells
      obtain ⟨_, _, _, p6, _⟩ := HZ.out.bx.pcells
      have f6 := frz HZ.out.bx.q 6
      go_upto_region 10 with (fail)
      have HXa : Hid (Bx3 w (wr.setCell ⟨Q, 6, none⟩ (.slice (some ⟨g7, 0, none⟩) B.length cv)) w.heap.size R Q #[.int .i64 sl, .slice aN N.length cN, .slice aO O.length cO, .int .i64 sr, .slice aM M.length cM, .slice aP P.length cP, .slice aB B.length cB, .bool el] #[.int .i64 0, .slice none 0 0, .slice none 0 0, .int .i64 0, .slice none 0 0, .slice none 0 0, .slice none 0 0, .bool false] #[.int .i64 sl, .slice (some ⟨G1, 0, none⟩) N.length d1, .slice (some ⟨G2, 0, none⟩) O.length d2, .int .i64 sr, .slice (some ⟨G3, 0, none⟩) M.length d3, .slice (some ⟨G4, 0, none⟩) P.length d4, .slice (some ⟨g7, 0, none⟩) B.length cv, .bool false]) := hid0 (HZ.out.bx.put 6 _)
      have HEa : Hid (∀ k, V3.heap.size ≤ k → k < V5.heap.size → (wr.setCell ⟨Q, 6, none⟩ (.slice (some ⟨g7, 0, none⟩) B.length cv)).heap[k]? = V5.heap[k]?) := hid0 (fun k h1 h2 => (Below.heap_setCell _ _ _ _ (by show k ≠ Q; have := HLt.out; omega)).trans (HZ.out.st k h1 h2))
      have HOa : Hid (BoM (wr.setCell ⟨Q, 6, none⟩ (.slice (some ⟨g7, 0, none⟩) B.length cv)) V5.heap.size g7 cv B) := hid0 (own_blk HOM.out (fun k hk => Below.heap_setCell _ _ _ _ (by show k ≠ Q; have := (World.ownsRow.lt HOM.out k hk).1; have := HLt.out; omega)))
      clear HZ HOM k6 p6 f6
      generalize (wr.setCell ⟨Q, 6, none⟩ (.slice (some ⟨g7, 0, none⟩) B.length cv)) = V7 at *
      obtain ⟨_, _, _, _, k7⟩ := HXa.out.cells
      obtain ⟨_, _, _, _, p7⟩ := HXa.out.pcells
      have f7 := frz HXa.out.q 7
      go_upto_region 11 with (fail)
      have HXc : Hid (Bx3 w (V7.setCell ⟨Q, 7, none⟩ (.bool el)) w.heap.size R Q #[.int .i64 sl, .slice aN N.length cN, .slice aO O.length cO, .int .i64 sr, .slice aM M.length cM, .slice aP P.length cP, .slice aB B.length cB, .bool el] #[.int .i64 0, .slice none 0 0, .slice none 0 0, .int .i64 0, .slice none 0 0, .slice none 0 0, .slice none 0 0, .bool false] #[.int .i64 sl, .slice (some ⟨G1, 0, none⟩) N.length d1, .slice (some ⟨G2, 0, none⟩) O.length d2, .int .i64 sr, .slice (some ⟨G3, 0, none⟩) M.length d3, .slice (some ⟨G4, 0, none⟩) P.length d4, .slice (some ⟨g7, 0, none⟩) B.length cv, .bool el]) := hid0 (HXa.out.put 7 _)
      have HEc : Hid (∀ k, V3.heap.size ≤ k → k < V5.heap.size → (V7.setCell ⟨Q, 7, none⟩ (.bool el)).heap[k]? = V5.heap[k]?) := hid0 (fun k h1 h2 => (Below.heap_setCell _ _ _ _ (by show k ≠ Q; have := HLt.out; omega)).trans (HEa.out k h1 h2))
      have HOc : Hid (BoM (V7.setCell ⟨Q, 7, none⟩ (.bool el)) V5.heap.size g7 cv B) := hid0 (own_blk HOa.out (fun k hk => Below.heap_setCell _ _ _ _ (by show k ≠ Q; have := (World.ownsRow.lt HOa.out k hk).1; have := HLt.out; omega)))
      clear HXa HEa HOa k7 p7 f7
      generalize (V7.setCell ⟨Q, 7, none⟩ (.bool el)) = V8 at *
      obtain ⟨⟨k0, k1, k2, k3⟩, k4, k5, k6, k7⟩ := HXc.out.cells
      obtain ⟨⟨r0, r1, r2, r3⟩, r4, r5, r6, r7⟩ := row8p HXc.out.r
      have f0 := frz HXc.out.r 0
      have f1 := frz HXc.out.r 1
      have f2 := frz HXc.out.r 2
      have f3 := frz HXc.out.r 3
      have f4 := frz HXc.out.r 4
      have f5 := frz HXc.out.r 5
      have f6 := frz HXc.out.r 6
      have f7 := frz HXc.out.r 7
      go_wp2
      have HXb : Bx3 w ((((((((V8.setCell ⟨R, 0, none⟩ (.int .i64 sl)).setCell ⟨R, 1, none⟩ (.slice (some ⟨G1, 0, none⟩) N.length d1)).setCell ⟨R, 2, none⟩ (.slice (some ⟨G2, 0, none⟩) O.length d2)).setCell ⟨R, 3, none⟩ (.int .i64 sr)).setCell ⟨R, 4, none⟩ (.slice (some ⟨G3, 0, none⟩) M.length d3)).setCell ⟨R, 5, none⟩ (.slice (some ⟨G4, 0, none⟩) P.length d4)).setCell ⟨R, 6, none⟩ (.slice (some ⟨g7, 0, none⟩) B.length cv)).setCell ⟨R, 7, none⟩ (.bool el)) w.heap.size R Q #[.int .i64 sl, .slice aN N.length cN, .slice aO O.length cO, .int .i64 sr, .slice aM M.length cM, .slice aP P.length cP, .slice aB B.length cB, .bool el] #[.int .i64 sl, .slice (some ⟨G1, 0, none⟩) N.length d1, .slice (some ⟨G2, 0, none⟩) O.length d2, .int .i64 sr, .slice (some ⟨G3, 0, none⟩) M.length d3, .slice (some ⟨G4, 0, none⟩) P.length d4, .slice (some ⟨g7, 0, none⟩) B.length cv, .bool el] #[.int .i64 sl, .slice (some ⟨G1, 0, none⟩) N.length d1, .slice (some ⟨G2, 0, none⟩) O.length d2, .int .i64 sr, .slice (some ⟨G3, 0, none⟩) M.length d3, .slice (some ⟨G4, 0, none⟩) P.length d4, .slice (some ⟨g7, 0, none⟩) B.length cv, .bool el] := (((((((HXc.out.putR 0 _).putR 1 _).putR 2 _).putR 3 _).putR 4 _).putR 5 _).putR 6 _).putR 7 _
      obtain ⟨⟨z0, z1, z2, z3⟩, z4, z5, z6, z7⟩ := row8p HXb.r
      have HEb : ∀ k, k ≠ R → ((((((((V8.setCell ⟨R, 0, none⟩ (.int .i64 sl)).setCell ⟨R, 1, none⟩ (.slice (some ⟨G1, 0, none⟩) N.length d1)).setCell ⟨R, 2, none⟩ (.slice (some ⟨G2, 0, none⟩) O.length d2)).setCell ⟨R, 3, none⟩ (.int .i64 sr)).setCell ⟨R, 4, none⟩ (.slice (some ⟨G3, 0, none⟩) M.length d3)).setCell ⟨R, 5, none⟩ (.slice (some ⟨G4, 0, none⟩) P.length d4)).setCell ⟨R, 6, none⟩ (.slice (some ⟨g7, 0, none⟩) B.length cv)).setCell ⟨R, 7, none⟩ (.bool el)).heap[k]? = V8.heap[k]? := fun k hk => by
        repeat rw [Below.heap_setCell _ _ _ _ hk]
      refine bodyPost_ret (v := .agg #[.int .i64 sl, .slice (some ⟨G1, 0, none⟩) N.length d1, .slice (some ⟨G2, 0, none⟩) O.length d2, .int .i64 sr, .slice (some ⟨G3, 0, none⟩) M.length d3, .slice (some ⟨G4, 0, none⟩) P.length d4, .slice (some ⟨g7, 0, none⟩) B.length cv, .bool el]) (by simp [results, Tryd.results12, go_sem, z0, z1, z2, z3, z4, z5, z6, z7]) rfl ?_
      have hR := HL5.out.1.2.1
      have hk : ∀ k, V3.heap.size ≤ k → k < V5.heap.size → ((((((((V8.setCell ⟨R, 0, none⟩ (.int .i64 sl)).setCell ⟨R, 1, none⟩ (.slice (some ⟨G1, 0, none⟩) N.length d1)).setCell ⟨R, 2, none⟩ (.slice (some ⟨G2, 0, none⟩) O.length d2)).setCell ⟨R, 3, none⟩ (.int .i64 sr)).setCell ⟨R, 4, none⟩ (.slice (some ⟨G3, 0, none⟩) M.length d3)).setCell ⟨R, 5, none⟩ (.slice (some ⟨G4, 0, none⟩) P.length d4)).setCell ⟨R, 6, none⟩ (.slice (some ⟨g7, 0, none⟩) B.length cv)).setCell ⟨R, 7, none⟩ (.bool el)).heap[k]? = V5.heap[k]? := fun k h1 h2 => (HEb k (by have := HLr.out; omega)).trans (HEc.out k h1 h2)
      exact ⟨G1, G2, G3, G4, g7, d1, d2, d3, d4, cv, rfl, ⟨(HK1.out.keep hk).lower HLo.out.2, (HK2.out.keep hk).lower HLo.out.2, (HK3.out.keep hk).lower HLo.out.2, (HK4.out.keep hk).lower HLo.out.2, BoM.lower (own_blk HOc.out (fun k hk => HEb k (by have := (World.ownsRow.lt HOc.out k hk).1; omega))) HL5.out.2⟩, HXb.bel⟩
end Go.Proofs.YtekimkdaoblcgaaDoor
namespace Go.Proofs.YtekimkdaoblcgaaDoor
open Go.RowKit Go.Shelf Go.Maps
set_option maxRecDepth 100000 in
set_option maxHeartbeats 1600000 in
theorem stay_any (L : List (List Int)) (lo g c : Nat) (b : Option Addr) (cb : Nat) (w : World) (hl : L.length ≤ 1000000000) (hr : ∀ r ∈ L, r.length ≤ 1000000000) (h : RkL w lo g c L) (hb : RwX w b L) :
    Calls Tryd.prog 18 #[.slice (some ⟨g, 0, none⟩) L.length c, .slice b L.length cb] w fun r w' => r = .returned (.bool true) ∧ ∃ n, w' = w.drewN n := by
  have HK : Hid (∀ q, RkL (w.drewN q) lo g c L ∧ RwX (w.drewN q) b L) := hid0 (fun q => ⟨h.past (below_drew' (Below.refl _ _) q), hb.past (below_drew' (Below.refl _ _) q)⟩)
  have HR := hid0 hr
  have hc := h.cap
  obtain ⟨n, hn⟩ : ∃ n, n = L.length := ⟨_, rfl⟩
  have HN := hid0 hn
  obtain ⟨n6, hn6⟩ : ∃ n6, n6 = n + 64 := ⟨_, rfl⟩
  have hn6I : (n : Int) + 64 = (n6 : Int) := by omega
  have hn6c : (n6 : Int) ≤ (c : Int) := by omega
  have hn6l : n6 ≤ 1000000064 := by omega
  have HN6 := hid0 hn6
  rw [← hn]
  rw [← hn] at hl
  clear h hb hr hn hn6 hc
  go_enter Tryd.func18, Tryd.ntmps18
  go_wp2
  go_loopw [5, 6] (fun x _ wr => ∃ (k q : Nat), k ≤ n ∧ x = .int .i64 (k : Int) ∧ wr = w.drewN q) (fun x _ _ => n - (intOf x).toNat)
  case atStart => exact ⟨0, 0, Nat.zero_le _, rfl, rfl⟩
  case round =>
    obtain ⟨k, q, hk, rfl, rfl⟩ := hrel
    by_cases hlt : k < n
    · have hkI : (k : Int) < (n : Int) := by omega
      have hkI0 : (0 : Int) ≤ (k : Int) := by omega
      have hkL : k < L.length := by rw [← HN.out]; exact hlt
      obtain ⟨g1, c1, x1, hm⟩ := (HK.out 0).1.row hkL
      obtain ⟨b1, o1, eb, _, a1, c2, y1, hia, _, _⟩ := (HK.out 0).2.at' k hkL
      have HS : Hid (∀ n, Calls Tryd.prog 17 #[.slice (some ⟨g1, 0, none⟩) (L[k]).length c1, .slice a1 (L[k]).length c2] (w.drewN n) fun e w' => e = .returned (.bool true) ∧ ∃ m, w' = (w.drewN n).drewN m) := hid0 (fun n => by
        have h := still_any L[k] L[k] lo g1 c1 a1 c2 (w.drewN n) (HR.out _ (List.getElem_mem hkL)) (hm.past (below_drew' (Below.refl _ _) n)) (hia.past (below_drew' (Below.refl _ _) n))
        rw [decide_eq_true rfl] at h
        exact h)
      generalize (L[k]).length = n1 at *
      rw [World.drewN_zero] at x1 y1
      subst eb
      clear hm hia
      go_wp2
      go_quiet ((go_at_call 17; exact (HS.out _).mono (fun _ _ h => ⟨h.1, drew_more h.2⟩)))
      go_wp2
      go_roundw
      case rel => exact ⟨k + 1, _, hlt, by go_num, rfl⟩
      case measure => simp [intOf]; omega
    · have hkI : ¬ (k : Int) < (n : Int) := by omega
      go_wp2
      go_loopw [8] (fun x wr => ∃ k : Nat, n ≤ k ∧ k ≤ n6 ∧ x = .int .i64 (k : Int) ∧ wr = w.drewN q) (fun x _ => n6 - (intOf x).toNat)
      case atStart => exact ⟨n, Nat.le_refl _, by have := HN6.out; omega, rfl, rfl⟩
      case round =>
        obtain ⟨k, hk1, hk, rfl, rfl⟩ := hrel
        by_cases hlt : k < n6
        · have hkI : (k : Int) < (n6 : Int) := by omega
          have hkI0 : (0 : Int) ≤ (k : Int) := by omega
          obtain ⟨g1, x1, x2⟩ := (HK.out q).1.mrk (j := k) (by rw [← HN.out]; exact hk1) (by rw [← HN.out, ← HN6.out]; exact hlt)
          go_wp2
          go_roundw
          case rel => exact ⟨k + 1, by omega, hlt, by go_num, trivial⟩
          case measure => simp [intOf]; omega
        · have hkI : ¬ (k : Int) < (n6 : Int) := by omega
          go_wp2
          go_ret
          exact ⟨rfl, q, rfl⟩
end Go.Proofs.YtekimkdaoblcgaaDoor
namespace Go.Proofs.YtekimkdaoblcgaaDoor
open Go.RowKit Go.Shelf Go.Maps
set_option maxRecDepth 100000 in
set_option maxHeartbeats 1600000 in
theorem whole_any (sl sr : Int) (N O M P : List (List Int)) (B : List Bool) (el : Bool) (aN aO aM aP aB : Option Addr) (cN cO cM cP cB : Nat) (lo G1 G2 G3 G4 g7 d1 d2 d3 d4 c7 : Nat) (w : World) (hs : PrS ⟨sl, N, O, sr, M, P, B, el⟩) (hq : PgM w lo ⟨sl, N, O, sr, M, P, B, el⟩ G1 G2 G3 G4 g7 d1 d2 d3 d4 c7) (ha : PrX w ⟨sl, N, O, sr, M, P, B, el⟩ ⟨aN, aO, aM, aP, aB, cN, cO, cM, cP, cB⟩) (ho : O.length ≤ 1000000000) (hp : P.length ≤ 1000000000) :
    Calls Tryd.prog 16 #[.agg #[.int .i64 sl, .slice (some ⟨G1, 0, none⟩) N.length d1, .slice (some ⟨G2, 0, none⟩) O.length d2, .int .i64 sr, .slice (some ⟨G3, 0, none⟩) M.length d3, .slice (some ⟨G4, 0, none⟩) P.length d4, .slice (some ⟨g7, 0, none⟩) B.length c7, .bool el], .agg #[.int .i64 sl, .slice aN N.length cN, .slice aO O.length cO, .int .i64 sr, .slice aM M.length cM, .slice aP P.length cP, .slice aB B.length cB, .bool el]] w fun e w' => e = .returned (.bool true) ∧ Below w.heap.size w w' := by
  obtain ⟨w0, hw0, hB0, hz0, gq, gp⟩ := two_boxes w #[.int .i64 sl, .slice (some ⟨G1, 0, none⟩) N.length d1, .slice (some ⟨G2, 0, none⟩) O.length d2, .int .i64 sr, .slice (some ⟨G3, 0, none⟩) M.length d3, .slice (some ⟨G4, 0, none⟩) P.length d4, .slice (some ⟨g7, 0, none⟩) B.length c7, .bool el] #[.int .i64 sl, .slice aN N.length cN, .slice aO O.length cO, .int .i64 sr, .slice aM M.length cM, .slice aP P.length cP, .slice aB B.length cB, .bool el] 27
  have HC : Hid (∀ V : World, Below w0.heap.size w0 V → ((V.cell? ⟨w.heap.size, 0, none⟩ = some (.int .i64 sl) ∧ V.cell? ⟨w.heap.size, 1, none⟩ = some (.slice (some ⟨G1, 0, none⟩) N.length d1) ∧ V.cell? ⟨w.heap.size, 2, none⟩ = some (.slice (some ⟨G2, 0, none⟩) O.length d2) ∧ V.cell? ⟨w.heap.size, 3, none⟩ = some (.int .i64 sr)) ∧ V.cell? ⟨w.heap.size, 4, none⟩ = some (.slice (some ⟨G3, 0, none⟩) M.length d3) ∧ V.cell? ⟨w.heap.size, 5, none⟩ = some (.slice (some ⟨G4, 0, none⟩) P.length d4) ∧ V.cell? ⟨w.heap.size, 6, none⟩ = some (.slice (some ⟨g7, 0, none⟩) B.length c7) ∧ V.cell? ⟨w.heap.size, 7, none⟩ = some (.bool el)) ∧ ((V.cell? ⟨w.heap.size + 1, 0, none⟩ = some (.int .i64 sl) ∧ V.cell? ⟨w.heap.size + 1, 1, none⟩ = some (.slice aN N.length cN) ∧ V.cell? ⟨w.heap.size + 1, 2, none⟩ = some (.slice aO O.length cO) ∧ V.cell? ⟨w.heap.size + 1, 3, none⟩ = some (.int .i64 sr)) ∧ V.cell? ⟨w.heap.size + 1, 4, none⟩ = some (.slice aM M.length cM) ∧ V.cell? ⟨w.heap.size + 1, 5, none⟩ = some (.slice aP P.length cP) ∧ V.cell? ⟨w.heap.size + 1, 6, none⟩ = some (.slice aB B.length cB) ∧ V.cell? ⟨w.heap.size + 1, 7, none⟩ = some (.bool el)) ∧ BoM V lo g7 c7 B ∧ Below w.heap.size w V) := hid0 (fun V hV => ⟨row8p ((hV.block _ (by omega)).trans gq), row8p ((hV.block _ (by omega)).trans gp), (hq.b.past hB0).past hV, hB0.trans (hV.mono hB0.size)⟩)
  have HS1 : Hid (∀ n, Calls Tryd.prog 18 #[.slice (some ⟨G1, 0, none⟩) N.length d1, .slice aN N.length cN] (w0.drewN n) fun e w' => e = .returned (.bool true) ∧ ∃ m, w' = (w0.drewN n).drewN m) := hid0 (fun n => stay_any N lo G1 d1 aN cN (w0.drewN n) hs.n hs.nr ((hq.past (below_drew' hB0 n)).n) ((ha.past (below_drew' hB0 n)).n))
  have HS2 : Hid (∀ n, Calls Tryd.prog 18 #[.slice (some ⟨G2, 0, none⟩) O.length d2, .slice aO O.length cO] (w0.drewN n) fun e w' => e = .returned (.bool true) ∧ ∃ m, w' = (w0.drewN n).drewN m) := hid0 (fun n => stay_any O lo G2 d2 aO cO (w0.drewN n) ho hs.or ((hq.past (below_drew' hB0 n)).o) ((ha.past (below_drew' hB0 n)).o))
  have HS3 : Hid (∀ n, Calls Tryd.prog 18 #[.slice (some ⟨G3, 0, none⟩) M.length d3, .slice aM M.length cM] (w0.drewN n) fun e w' => e = .returned (.bool true) ∧ ∃ m, w' = (w0.drewN n).drewN m) := hid0 (fun n => stay_any M lo G3 d3 aM cM (w0.drewN n) hs.m hs.mr ((hq.past (below_drew' hB0 n)).m) ((ha.past (below_drew' hB0 n)).m))
  have HS4 : Hid (∀ n, Calls Tryd.prog 18 #[.slice (some ⟨G4, 0, none⟩) P.length d4, .slice aP P.length cP] (w0.drewN n) fun e w' => e = .returned (.bool true) ∧ ∃ m, w' = (w0.drewN n).drewN m) := hid0 (fun n => stay_any P lo G4 d4 aP cP (w0.drewN n) hp hs.pr ((hq.past (below_drew' hB0 n)).p') ((ha.past (below_drew' hB0 n)).p'))
  have HS5 : Hid (∀ n, Calls Tryd.prog 34 #[.agg #[.int .i64 sl, .slice (some ⟨G1, 0, none⟩) N.length d1, .slice (some ⟨G2, 0, none⟩) O.length d2, .int .i64 sr, .slice (some ⟨G3, 0, none⟩) M.length d3, .slice (some ⟨G4, 0, none⟩) P.length d4, .slice (some ⟨g7, 0, none⟩) B.length c7, .bool el], .agg #[.int .i64 sl, .slice aN N.length cN, .slice aO O.length cO, .int .i64 sr, .slice aM M.length cM, .slice aP P.length cP, .slice aB B.length cB, .bool el]] (w0.drewN n) fun e w' => e = .returned (.bool true) ∧ Below w0.heap.size w0 w') := hid0 (fun n => (samePairing sl sr N O M P B el _ _ _ _ _ d1 d2 d3 d4 c7 aN aO aM aP aB cN cO cM cP cB (w0.drewN n) hs (hq.past (below_drew' hB0 n)).prx.pra (ha.past (below_drew' hB0 n)).pra ho hp).mono (fun _ _ h => ⟨h.1, (below_drew' (Below.refl _ _) n).trans h.2⟩))
  have hBl : B.length ≤ 1000000000 := hs.b
  have hcap : B.length + 64 ≤ c7 := hq.b.cap
  obtain ⟨n6, hn6⟩ : ∃ n6, n6 = B.length + 64 := ⟨_, rfl⟩
  have hn6I : (B.length : Int) + 64 = (n6 : Int) := by omega
  have hn6c : (n6 : Int) ≤ (c7 : Int) := by omega
  have HN6 := hid0 hn6
  have HB := hid0 hBl
  obtain ⟨⟨⟨x0, x1, x2, x3⟩, x4, x5, x6, x7⟩, ⟨⟨y0, y1, y2, y3⟩, y4, y5, y6, y7⟩, _⟩ := HC.out w0 (Below.refl _ _)
  obtain ⟨nN, hnN⟩ : ∃ x, x = N.length := ⟨_, rfl⟩
  clear hs hq ha ho hp hB0 hz0 gq gp hcap hn6 hnN nN
  go_enter Tryd.func16, Tryd.ntmps16
  go_upto_region 2 with (go_at_call 18; go_loud ((
    refine (HS1.out 0).mono ?_
    rintro e w' ⟨rfl, m1, rfl⟩
    clear HS1)))
  go_upto_region 3 with (go_at_call 18; go_loud ((
    refine (HS2.out (m1)).mono ?_
    rintro e w' ⟨rfl, m2, rfl⟩
    clear HS2)))
  go_upto_region 4 with (go_at_call 18; go_loud ((
    refine (HS3.out (m1 + m2)).mono ?_
    rintro e w' ⟨rfl, m3, rfl⟩
    clear HS3)))
  go_upto_region 5 with (go_at_call 18; go_loud ((
    refine (HS4.out (m1 + m2 + m3)).mono ?_
    rintro e w' ⟨rfl, m4, rfl⟩
    clear HS4)))
  go_upto_region 6 with (go_at_call 34; go_loud ((
    refine (HS5.out (m1 + m2 + m3 + m4)).mono ?_
    rintro e w1 ⟨rfl, hb1⟩
    obtain ⟨⟨_, _, _, z6, _⟩, ⟨_, _, _, v6, _⟩, hbm, hbw⟩ := HC.out w1 hb1
    have HBm := hid0 hbm
    have HBw := hid0 hbw
    clear HS5 hb1 hbm hbw HC x0 x1 x2 x3 x4 x5 x6 x7 y0 y1 y2 y3 y4 y5 y6 y7)))
  go_wp2
  go_loopw [11] (fun x wr => ∃ k : Nat, k ≤ 64 ∧ x = .int .i64 (k : Int) ∧ wr = w1) (fun x _ => 64 - (intOf x).toNat)
  case atStart => exact ⟨0, Nat.zero_le _, rfl, rfl⟩
  case round =>
    obtain ⟨k, hk, rfl, rfl⟩ := hrel
    by_cases hlt : k < 64
    · have hkI : (k : Int) < 64 := by omega
      have e1 := HBm.out.mark hlt
      obtain ⟨j, hj⟩ : ∃ j, j = B.length + k := ⟨_, rfl⟩
      rw [← hj] at e1
      have hjI : (B.length : Int) + (k : Int) = (j : Int) := by omega
      have hjI0 : (0 : Int) ≤ (j : Int) := by omega
      have hjn : (j : Int) < (n6 : Int) := by omega
      have hmod : ((k : Int) % 2 == 0) = decide (k % 2 = 0) := by rw [Bool.eq_iff_iff, beq_iff_eq, decide_eq_true_eq]; omega
      obtain ⟨bb, hbb⟩ : ∃ bb, bb = decide (k % 2 = 0) := ⟨_, rfl⟩
      rw [← hbb] at e1 hmod
      have hb2 : (bb != bb) = false := by simp
      clear hbb hj
      go_wp2
      go_roundw
      case rel => exact ⟨k + 1, hlt, by go_num, trivial⟩
      case measure => simp [intOf]; omega
    · have hkI : ¬ (k : Int) < 64 := by omega
      go_wp2
      go_ret
      exact ⟨rfl, HBw.out⟩
end Go.Proofs.YtekimkdaoblcgaaDoor
namespace Go.Proofs.YtekimkdaoblcgaaDoor
open Go.RowKit Go.Shelf Go.Maps
/-- The refusal of New, if there is one. -/
def nwE (p : Prg) (sy bef : Int) (tr : List Int) (E : List (List Int)) : Option Nat := if chkP p.sl p.N p.O p.sr p.M p.P p.B.length sy = false then some 0 else if ((decide (-1 ≤ bef) && decide (bef ≤ (p.B.length : Int))) && risK sy (-1) tr) = false then some 0 else newE E
def FNewS (A : Nat → Addr) (w : World) (p : Prg) (sy bef : Int) (tr : List Int) (E : List (List Int)) (e : Ending) (w' : World) : Prop :=
  Below w.heap.size w w' ∧ ((∃ k, nwE p sy bef tr E = some k ∧ e = .returned (.tuple #[.pointer none, .iface 129 (.pointer (some (A k)))])) ∨ (nwE p sy bef tr E = none ∧ FlS p tr E ∧ ∃ (q2 : PrL) (f : FlL), e = .returned (.tuple #[.pointer (some ⟨f.X, 0, none⟩), .nilIface]) ∧ ∀ V : World, Agree w' V w.heap.size → FlA V p q2 (decide (0 ≤ bef)) tr E bef f))
theorem IA.agree {w V : World} {lo : Nat} {a : Option Addr} {L : List Int} (h : IA w a L) (ha : Agree w V lo) (hl : ∀ p, a = some p → lo ≤ p.block) : IA V a L := ⟨fun k hk => by
  obtain ⟨b, off, rfl, h1, h2⟩ := h.at' k hk
  exact ⟨b, off, rfl, Nat.lt_of_lt_of_le h1 ha.size, (World.cell?_of_block (w := w) (a := ⟨b, off + k, Option.none⟩) (ha.block b (hl _ rfl) h1)).trans h2⟩⟩
theorem Agree.cell {w V : World} {lo b o : Nat} {v : Value} (ha : Agree w V lo) (h : w.cell? ⟨b, o, none⟩ = some v) (hl : lo ≤ b) : V.cell? ⟨b, o, none⟩ = some v := (World.cell?_of_block (w := w) (a := ⟨b, o, none⟩) (ha.block b hl (World.block_lt_of_cell? w _ h))).trans h
theorem Agree.up {w W V : World} {lo lo' : Nat} (ha : Agree W V lo) (hb : Below w.heap.size w W) (hl : lo ≤ lo') : Agree w V lo' := ⟨Nat.le_trans hb.size ha.size, fun k h1 h2 => (ha.block k (Nat.le_trans hl h1) (Nat.lt_of_lt_of_le h2 hb.size)).trans (hb.block k h2)⟩
set_option maxRecDepth 100000 in
set_option maxHeartbeats 4000000 in
theorem fnewS_any (A : Nat → Addr) (p : Prg) (q : PrL) (sy bef : Int) (tr : List Int) (aT : Option Addr) (cT : Nat) (E : List (List Int)) (aE : Option Addr) (cE : Nat) (w : World) (hs : PrS p) (h : PrA w p q) (ht : IA w aT tr) (htl : tr.length ≤ 1000000000) (hE : RwA w aE E) (hEl : ∀ e ∈ E, e.length ≤ 1000000000) (hS : Sents w A) :
    Calls Tryd.prog 6 #[.agg #[.int .i64 p.sl, .slice q.aN p.N.length q.cN, .slice q.aO p.O.length q.cO, .int .i64 p.sr, .slice q.aM p.M.length q.cM, .slice q.aP p.P.length q.cP, .slice q.aB p.B.length q.cB, .bool p.el], .int .i64 sy, .int .i64 bef, .slice aT tr.length cT, .slice aE E.length cE] w fun e w' => FNewS A w p sy bef tr E e w' := by
  obtain ⟨w0, hw0, hB0, hz0, hC0⟩ := box_pr w p q
  have HC : Hid (∀ V : World, Below w0.heap.size w0 V → (V.cell? ⟨w.heap.size, 0, none⟩ = some (.int .i64 p.sl) ∧ V.cell? ⟨w.heap.size, 1, none⟩ = some (.slice q.aN p.N.length q.cN) ∧ V.cell? ⟨w.heap.size, 2, none⟩ = some (.slice q.aO p.O.length q.cO) ∧ V.cell? ⟨w.heap.size, 3, none⟩ = some (.int .i64 p.sr)) ∧ V.cell? ⟨w.heap.size, 4, none⟩ = some (.slice q.aM p.M.length q.cM) ∧ V.cell? ⟨w.heap.size, 5, none⟩ = some (.slice q.aP p.P.length q.cP) ∧ V.cell? ⟨w.heap.size, 6, none⟩ = some (.slice q.aB p.B.length q.cB) ∧ V.cell? ⟨w.heap.size, 7, none⟩ = some (.bool p.el)) := hid0 hC0
  replace hw0 : w.alloc (.cells #[.int .i64 p.sl, .slice q.aN p.N.length q.cN, .slice q.aO p.O.length q.cO, .int .i64 p.sr, .slice q.aM p.M.length q.cM, .slice q.aP p.P.length q.cP, .slice q.aB p.B.length q.cB, .bool p.el] 27) = w0 := hw0
  have HIn : Hid (∀ V : World, Below w0.heap.size w0 V → PrA V p q ∧ IA V aT tr ∧ RwA V aE E ∧ Sents V A ∧ Below w.heap.size w V) := hid0 (fun V hV => by
    have hq := hB0.trans (hV.mono hB0.size)
    exact ⟨h.past hq, ht.past hq, hE.past hq, hS.below hq, hq⟩)
  have HPS := hid0 hs
  have HEl := hid0 hEl
  have HCk := hid0 (pairCheck_any A p.sl p.sr p.N p.O p.M p.P p.B p.el q.aN q.aO q.aM q.aP q.aB q.cN q.cO q.cM q.cP q.cB sy w0 hs (HIn.out w0 (Below.refl _ _)).1 (HIn.out w0 (Below.refl _ _)).2.2.2.1)
  obtain ⟨⟨x0, x1, x2, x3⟩, x4, x5, x6, x7⟩ := HC.out w0 (Below.refl _ _)
  clear hC0 h ht hE hEl hS hB0 hz0 hs
  cases hck : chkP p.sl p.N p.O p.sr p.M p.P p.B.length sy with
  | false =>
    rw [hck] at HCk
    have HR : Hid (∀ V : World, Below w0.heap.size w0 V → FNewS A w p sy bef tr E (.returned (.tuple #[.pointer none, .iface 129 (.pointer (some (A 0)))])) V) := hid0 (fun V hV => ⟨(HIn.out V hV).2.2.2.2, .inl ⟨0, by unfold nwE; rw [if_pos hck], rfl⟩⟩)
    rw [show errC A false = .iface 129 (.pointer (some (A 0))) from rfl] at HCk
    clear hck
    go_enter Tryd.func6, Tryd.ntmps6
    go_wp2_with (go_at_call 22; go_loud ((
      refine HCk.out.mono ?_
      rintro e w1 ⟨rfl, hb⟩
      have HB1 := hid0 hb
      clear hb)))
    go_returns
    exact HR.out _ HB1.out
  | true =>
    rw [hck, show errC A true = .nilIface from rfl] at HCk
    have HCK := hid0 hck
    clear hck
    go_enter Tryd.func6, Tryd.ntmps6
    go_upto_region 4 with (go_at_call 22; go_loud ((
      refine HCk.out.mono ?_
      rintro e w1 ⟨rfl, hb⟩
      have HB1 := hid0 hb
      clear hb HCk)))
    clear x0 x1 x2 x3 x4 x5 x6 x7 hw0
    obtain ⟨⟨x0, x1, x2, x3⟩, x4, x5, x6, x7⟩ := HC.out w1 HB1.out
    have HRi := hid0 (fiRises_any tr aT cT sy w1 htl (HIn.out w1 HB1.out).2.1)
    have s0 := (HIn.out w1 HB1.out).2.2.2.1.c0
    have HBad : Hid (((decide (-1 ≤ bef) && decide (bef ≤ (p.B.length : Int))) && risK sy (-1) tr) = false → ∀ n, FNewS A w p sy bef tr E (.returned (.tuple #[.pointer none, .iface 129 (.pointer (some (A 0)))])) (w1.drewN n)) := hid0 (fun hf n => ⟨below_drew' (HIn.out w1 HB1.out).2.2.2.2 n, .inl ⟨0, by
      unfold nwE
      rw [if_neg (by rw [HCK.out]; simp), if_pos hf], rfl⟩⟩)
    by_cases h1 : bef < -1
    · have HR := hid0 (HBad.out (by rw [decide_eq_false (show ¬ -1 ≤ bef by omega)]; rfl))
      clear x0 x1 x2 x3 x4 x5 x6 x7 HRi
      go_wp2
      go_quiet ((fail))
      go_wp2
      go_returns
      exact HR.out _
    by_cases h2 : bef > (p.B.length : Int)
    · have HR := hid0 (HBad.out (by rw [decide_eq_false (show ¬ bef ≤ (p.B.length : Int) by omega), Bool.and_false]; rfl))
      clear HRi
      go_wp2
      clear x0 x1 x2 x3 x4 x5 x6 x7
      go_quiet ((fail))
      go_wp2
      go_returns
      exact HR.out _
    cases hri : risK sy (-1) tr with
    | false =>
      rw [hri] at HRi
      have HR := hid0 (HBad.out (by rw [hri, Bool.and_false]))
      clear hri
      go_wp2_with (go_at_call 23; go_loud ((
        refine HRi.out.mono ?_
        rintro e w2 ⟨rfl, hw⟩
        have hw := hw.symm
        subst hw)))
      clear x0 x1 x2 x3 x4 x5 x6 x7
      go_quiet ((fail))
      go_wp2
      go_returns
      exact HR.out _
    | true =>
      rw [hri] at HRi
      have HRis := hid0 hri
      have HNw := hid0 (new_any A E aE cE w1 (HIn.out w1 HB1.out).2.2.1 (HIn.out w1 HB1.out).2.2.2.1.se3 (fun e he => by have := HEl.out e he; omega))
      clear hri s0 HBad
      go_upto_region 6 with (go_at_call 23; go_loud ((
        refine HRi.out.mono ?_
        rintro e w2 ⟨rfl, hw⟩
        have hw := hw.symm
        subst hw)))
      clear HRi x0 x1 x2 x3 x4 x5 x6 x7
      have HNn : Hid (nwE p sy bef tr E = newE E) := hid0 (by
        unfold nwE
        rw [if_neg (by rw [HCK.out]; simp), if_neg (by rw [HRis.out, decide_eq_true (show -1 ≤ bef by omega), decide_eq_true (show bef ≤ (p.B.length : Int) by omega)]; simp)])
      cases hne : newE E with
      | some j =>
        have HE := hid0 hne
        have HR : Hid (∀ V : World, Below w0.heap.size w0 V → FNewS A w p sy bef tr E (.returned (.tuple #[.pointer none, .iface 129 (.pointer (some (A j)))])) V) := hid0 (fun V hV => ⟨(HIn.out V hV).2.2.2.2, .inl ⟨j, by rw [HNn.out, hne], rfl⟩⟩)
        clear hne
        go_wp2_with (go_at_call 24; go_loud ((
          refine HNw.out.mono ?_
          rintro e w2 ⟨hb, hr⟩
          obtain rfl : e = .returned (.tuple #[.pointer none, .iface 129 (.pointer (some (A j)))]) := by
            rcases hr with ⟨k, hk, h2⟩ | ⟨hk, _⟩
            · rw [HE.out] at hk; injection hk with hk; rw [hk]; exact h2
            · rw [HE.out] at hk; cases hk
          have HB2 : Hid (Below w0.heap.size w0 w2) := hid0 (HB1.out.trans (hb.mono HB1.out.size))
          clear hb hr HNw)))
        go_returns
        exact HR.out _ HB2.out
      | none =>
        have HE := hid0 hne
        have HOk : Hid (nwE p sy bef tr E = none) := hid0 (by rw [HNn.out, hne])
        have hE2 : E.length ≤ 2000 := by
          unfold newE at hne
          split at hne
          · cases hne
          · omega
        have HOP : Hid (p.O.length ≤ 1000000000 ∧ p.P.length ≤ 1000000000) := hid0 (by
          have hc := HCK.out
          unfold chkP at hc
          simp only [Bool.and_eq_true] at hc
          have hl := fine_len hc.1
          have hl2 := fine_len hc.2
          have h3 := HPS.out.n
          have h4 := HPS.out.m
          omega)
        clear hne
        go_upto_region 9 with (go_at_call 24; go_loud ((
          refine HNw.out.mono ?_
          rintro e w2 ⟨hb, hr⟩
          obtain ⟨hG, T, hi, bk, mp, rfl, htr⟩ : Good E ∧ ∃ T hi bk mp, e = .returned (.tuple #[.pointer (some ⟨T, 0, none⟩), .nilIface]) ∧ TrieAt w2 w1.heap.size hi T E bk mp := by
            rcases hr with ⟨k, hk, _⟩ | ⟨_, h1, h2⟩
            · rw [HE.out] at hk; cases hk
            · exact ⟨h1, h2⟩
          have HT := hid0 htr
          have HS2 : Hid (FlS p tr E) := hid0 ⟨HPS.out, (risK_rise HRis.out).2, htl, hG, hE2⟩
          have HB2 : Hid (Below w0.heap.size w0 w2) := hid0 (HB1.out.trans (hb.mono HB1.out.size))
          have HB12 := hid0 hb
          clear hb hr HNw hG htr)))
        obtain ⟨⟨x0, x1, x2, x3⟩, x4, x5, x6, x7⟩ := HC.out w2 HB2.out
        have HCp := hid0 (copyOf_any p q w2 HPS.out HOP.out.1 HOP.out.2 (HIn.out w2 HB2.out).1)
        go_upto_region 10 with (go_at_call 25; go_loud ((
          refine HCp.out.mono ?_
          rintro e w3 ⟨q2, rfl, hpa, hb⟩
          have HPa := hid0 hpa
          have HB23 := hid0 hb
          clear hpa hb HCp)))
        clear x0 x1 x2 x3 x4 x5 x6 x7
        obtain ⟨W4, hW4, hb4, hr4⟩ : ∃ W4, w3.alloc (.cells #[.int .i64 p.sl, .slice q2.aN p.N.length q2.cN, .slice q2.aO p.O.length q2.cO, .int .i64 p.sr, .slice q2.aM p.M.length q2.cM, .slice q2.aP p.P.length q2.cP, .slice q2.aB p.B.length q2.cB, .bool p.el] 27) = W4 ∧ Below w3.heap.size w3 W4 ∧ W4.heap[w3.heap.size]? = some (.cells #[.int .i64 p.sl, .slice q2.aN p.N.length q2.cN, .slice q2.aO p.O.length q2.cO, .int .i64 p.sr, .slice q2.aM p.M.length q2.cM, .slice q2.aP p.P.length q2.cP, .slice q2.aB p.B.length q2.cB, .bool p.el] 27 (0, 0)) := ⟨_, rfl, (Below.refl _ _).alloc (Nat.le_refl _) _, heap_alloc_new _ _⟩
        rw [hW4]
        have HB4 : Hid (Below w0.heap.size w0 W4) := hid0 (HB2.out.trans ((Below.later HB23.out hb4).mono HB2.out.size))
        have HT4 := HT
        have HP4 := HPa
        have HB34 := hid0 hb4
        have HZ2 : Hid (w.heap.size ≤ w1.heap.size ∧ w1.heap.size ≤ w2.heap.size ∧ w2.heap.size ≤ w3.heap.size ∧ w3.heap.size ≤ W4.heap.size) := hid0 ⟨(HIn.out w1 HB1.out).2.2.2.2.size, HB12.out.size, HB23.out.size, hb4.size⟩
        have HSo : Hid (∀ V : World, Below W4.heap.size W4 V → V.cell? ⟨w3.heap.size, 0, none⟩ = some (.int .i64 p.sl) ∧ V.cell? ⟨w3.heap.size, 1, none⟩ = some (.slice q2.aN p.N.length q2.cN) ∧ V.cell? ⟨w3.heap.size, 2, none⟩ = some (.slice q2.aO p.O.length q2.cO) ∧ V.cell? ⟨w3.heap.size, 3, none⟩ = some (.int .i64 p.sr) ∧ V.cell? ⟨w3.heap.size, 4, none⟩ = some (.slice q2.aM p.M.length q2.cM) ∧ V.cell? ⟨w3.heap.size, 5, none⟩ = some (.slice q2.aP p.P.length q2.cP) ∧ V.cell? ⟨w3.heap.size, 6, none⟩ = some (.slice q2.aB p.B.length q2.cB) ∧ V.cell? ⟨w3.heap.size, 7, none⟩ = some (.bool p.el) ∧ Below W4.heap.size W4 V) := hid0 (fun V hV => by
          have hr := (hV.block _ (Array.getElem?_eq_some_iff.1 hr4).1).trans hr4
          refine ⟨?_, ?_, ?_, ?_, ?_, ?_, ?_, ?_, hV⟩ <;> (rw [cell_of_row _ _ _ _ _ _ hr]; rfl))
        have HCl : Hid (∀ V : World, Below W4.heap.size W4 V → Calls Tryd.prog 26 #[.slice aT tr.length cT] V fun e w' => (∃ a c, e = .returned (.slice a tr.length c) ∧ Hid (IA w' a tr ∧ ∀ p, a = some p → W4.heap.size ≤ p.block)) ∧ Below W4.heap.size W4 w') := hid0 (fun V hV => (cloneI_any tr aT cT V htl (HIn.out V (HB4.out.trans (hV.mono HB4.out.size))).2.1).mono (by
          rintro e w' ⟨v, rfl, h2, h3⟩
          obtain ⟨a, c, rfl, hia, _, hbl⟩ := own_slice h2
          exact ⟨⟨a, c, rfl, hid0 ⟨hia, fun p hp => Nat.le_trans hV.size (hbl p hp).1⟩⟩, Below.later hV h3⟩))
        have HDe : Hid (∀ V : World, Below W4.heap.size W4 V → Calls Tryd.prog 27 #[.slice q2.aB p.B.length q2.cB, .bool p.el, .int .i64 bef] V fun e w' => (∃ b1 b2 b3, e = .returned (.func (.func 43) #[] #[.pointer (some ⟨b1, 0, none⟩), .pointer (some ⟨b2, 0, none⟩), .pointer (some ⟨b3, 0, none⟩)]) ∧ Hid (w'.cell? ⟨b1, 0, none⟩ = some (.int .i64 bef) ∧ w'.cell? ⟨b2, 0, none⟩ = some (.bool p.el) ∧ w'.cell? ⟨b3, 0, none⟩ = some (.slice q2.aB p.B.length q2.cB) ∧ W4.heap.size ≤ b1 ∧ W4.heap.size ≤ b2 ∧ W4.heap.size ≤ b3) ∧ Hid (Below V.heap.size V w')) ∧ Below W4.heap.size W4 w') := hid0 (fun V hV => (decider_any q2.aB p.B.length q2.cB p.el bef V).mono (by
          rintro e w' ⟨rfl, rfl⟩
          have hb : Below V.heap.size V (((V.alloc (.cells #[.slice q2.aB p.B.length q2.cB] 25)).alloc (.cells #[.bool p.el] 4)).alloc (.cells #[.int .i64 bef] 3)) := (((Below.refl _ _).alloc (Nat.le_refl _) _).alloc (by simp) _).alloc (by simp; omega) _
          have e1 := cell_one_new ((V.alloc (.cells #[.slice q2.aB p.B.length q2.cB] 25)).alloc (.cells #[.bool p.el] 4)) (.int .i64 bef) 3 0 _ rfl
          have e2 := cell_alloc (cell_one_new (V.alloc (.cells #[.slice q2.aB p.B.length q2.cB] 25)) (.bool p.el) 4 0 _ rfl) (.cells #[.int .i64 bef] 3)
          have e3 := cell_alloc (cell_alloc (cell_one_new V (.slice q2.aB p.B.length q2.cB) 25 0 _ rfl) (.cells #[.bool p.el] 4)) (.cells #[.int .i64 bef] 3)
          simp only [World.size_alloc] at e1 e2
          have hvs := hV.size
          exact ⟨⟨_, _, _, rfl, hid0 ⟨e1, e2, e3, by omega, by omega, by omega⟩, hid0 hb⟩, Below.later hV hb⟩))
        obtain ⟨x0, x1, x2, x3, x4, x5, x6, x7, _⟩ := HSo.out W4 (Below.refl _ _)
        obtain ⟨sb, hsb⟩ : ∃ sb, decide (0 ≤ bef) = sb := ⟨_, rfl⟩
        have hbI : decide (bef ≥ 0) = sb := hsb
        clear hW4 hb4 hr4
        go_region_held3 (fun W => W.cell? ⟨w3.heap.size, 0, none⟩ = some (.int .i64 p.sl) ∧ W.cell? ⟨w3.heap.size, 1, none⟩ = some (.slice q2.aN p.N.length q2.cN) ∧ W.cell? ⟨w3.heap.size, 2, none⟩ = some (.slice q2.aO p.O.length q2.cO) ∧ W.cell? ⟨w3.heap.size, 3, none⟩ = some (.int .i64 p.sr) ∧ W.cell? ⟨w3.heap.size, 4, none⟩ = some (.slice q2.aM p.M.length q2.cM) ∧ W.cell? ⟨w3.heap.size, 5, none⟩ = some (.slice q2.aP p.P.length q2.cP) ∧ W.cell? ⟨w3.heap.size, 6, none⟩ = some (.slice q2.aB p.B.length q2.cB) ∧ W.cell? ⟨w3.heap.size, 7, none⟩ = some (.bool p.el) ∧ Below W4.heap.size W4 W) (first | exact HSo.out _ (by first | (go_grown; done) | (go_grown; omega)) | (go_split_ands; exact HSo.out _ (by first | (go_grown; done) | (go_grown; omega))) | (go_split_ands; exact HSo.out _ (by assumption)))
          (first
            | (go_at_call 26; go_split_ands; refine (HCl.out _ (by go_grown)).mono ?_; rintro e w5 ⟨⟨aT2, cT2, rfl, HI5⟩, hx⟩; have hsx := hx.size)
            | (go_at_call 27; go_split_ands; refine (HDe.out _ (by go_grown)).mono ?_; rintro e w6 ⟨⟨b1, b2, b3, rfl, HK6, HB56⟩, hy⟩; have hsy := hy.size))
        go_split_ands
        obtain ⟨W7, hW7, hb7, hr7⟩ : ∃ W7, w6.alloc (.cells #[.int .i64 p.sl, .slice q2.aN p.N.length q2.cN, .slice q2.aO p.O.length q2.cO, .int .i64 p.sr, .slice q2.aM p.M.length q2.cM, .slice q2.aP p.P.length q2.cP, .slice q2.aB p.B.length q2.cB, .bool p.el, .bool (sb), .slice aT2 tr.length cT2, .pointer (some ⟨T, 0, none⟩), .func (.func 43) #[] #[.pointer (some ⟨b1, 0, none⟩), .pointer (some ⟨b2, 0, none⟩), .pointer (some ⟨b3, 0, none⟩)]] 68) = W7 ∧ Below w6.heap.size w6 W7 ∧ W7.heap[w6.heap.size]? = some (.cells #[.int .i64 p.sl, .slice q2.aN p.N.length q2.cN, .slice q2.aO p.O.length q2.cO, .int .i64 p.sr, .slice q2.aM p.M.length q2.cM, .slice q2.aP p.P.length q2.cP, .slice q2.aB p.B.length q2.cB, .bool p.el, .bool (sb), .slice aT2 tr.length cT2, .pointer (some ⟨T, 0, none⟩), .func (.func 43) #[] #[.pointer (some ⟨b1, 0, none⟩), .pointer (some ⟨b2, 0, none⟩), .pointer (some ⟨b3, 0, none⟩)]] 68 (0, 0)) := ⟨_, rfl, (Below.refl _ _).alloc (Nat.le_refl _) _, heap_alloc_new _ _⟩
        rw [hW7]
        have HR : Hid (FNewS A w p sy bef tr E (.returned (.tuple #[.pointer (some ⟨w6.heap.size, 0, none⟩), .nilIface])) W7) := hid0 (by
          have hb47 : Below W4.heap.size W4 W7 := Below.later hy hb7
          refine ⟨(HIn.out W7 (HB4.out.trans (hb47.mono HB4.out.size))).2.2.2.2, .inr ⟨HOk.out, HS2.out, q2, ⟨w6.heap.size, T, aT2, cT2, b1, b2, b3⟩, rfl, ?_⟩⟩
          rw [hsb]
          intro V hA
          obtain ⟨z1, z2, z3, z4⟩ := HZ2.out
          obtain ⟨k1, k2, k3, k4, k5, k6⟩ := HK6.out
          have b5 : Below w5.heap.size w5 W7 := Below.later (show Below w5.heap.size w5 w6 from ⟨HB56.out.os, HB56.out.tape, HB56.out.output, HB56.out.size, HB56.out.block⟩) hb7
          have b3' : Below w3.heap.size w3 W7 := Below.later HB34.out hb47
          have b2' : Below w2.heap.size w2 W7 := Below.later HB23.out b3'
          have s6 : W4.heap.size ≤ w6.heap.size := hy.size
          refine ⟨?_, HP4.out V (hA.up b3' (by omega)), (IA.agree (w := w5) ⟨HI5.out.1.at'⟩ (hA.up b5 (Nat.le_refl _)) (fun p hp => by have := HI5.out.2 p hp; omega)), ⟨_, _, _, _, Tr.keep HT4.out (Nat.le_trans b2'.size hA.size) (fun k q1 q2 => (hA.block k (by omega) (Nat.lt_of_lt_of_le (Nat.lt_of_lt_of_le q2 HT4.out.hs) b2'.size)).trans (b2'.block k (Nat.lt_of_lt_of_le q2 HT4.out.hs)))⟩, ?_, ?_, ?_⟩
          · exact (hA.block _ (by show w.heap.size ≤ w6.heap.size; omega) (Array.getElem?_eq_some_iff.1 hr7).1).trans hr7
          · exact hA.cell ((hb7.cell (p := ⟨b1, 0, none⟩) (World.block_lt_of_cell? _ _ k1)).trans k1) (by show w.heap.size ≤ b1; omega)
          · exact hA.cell ((hb7.cell (p := ⟨b2, 0, none⟩) (World.block_lt_of_cell? _ _ k2)).trans k2) (by show w.heap.size ≤ b2; omega)
          · exact hA.cell ((hb7.cell (p := ⟨b3, 0, none⟩) (World.block_lt_of_cell? _ _ k3)).trans k3) (by show w.heap.size ≤ b3; omega))
        clear hW7 hb7 hr7 hx hy x0 x1 x2 x3 x4 x5 x6 x7
        go_wp2
        go_returns
        exact HR.out
end Go.Proofs.YtekimkdaoblcgaaDoor
namespace Go.Proofs.YtekimkdaoblcgaaDoor
open Go.RowKit Go.Shelf Go.Maps
def RfN (w : World) (p : Prg) (q : PrL) (sy bef : Int) (tr : List Int) (aT : Option Addr) (cT : Nat) (E : List (List Int)) (aE : Option Addr) (cE : Nat) (e : Ending) (w' : World) : Prop :=
  Below w.heap.size w w' ∧ ((∃ k : Nat, nwE p sy bef tr E = some k ∧ e = .returned (.tuple #[.pointer none, .int .i64 ((k : Int) + 1)])) ∨ (nwE p sy bef tr E = none ∧ ∃ X : Nat, e = .returned (.tuple #[.pointer (some ⟨X, 0, none⟩), .int .i64 0]) ∧ w.heap.size ≤ X ∧ RfA w' p q sy bef tr E ⟨X, aT, cT, aE, cE⟩))
/-- What stands ahead of a place of a list; -1, if nothing does. -/
def pvF (tr : List Int) : Nat → Int
  | 0 => -1
  | k + 1 => tr.getD k 0
theorem risK_bad (sy : Int) (tr : List Int) (k : Nat) (h : k < tr.length) (hb : tr[k] ≤ pvF tr k ∨ tr[k] ≥ sy) : risK sy (pvF tr k) (tr.drop k) = false := by
  rw [List.drop_eq_getElem_cons h, risK, if_pos hb]
theorem risK_go (sy : Int) (tr : List Int) (k : Nat) (h : k < tr.length) (hb : ¬ (tr[k] ≤ pvF tr k ∨ tr[k] ≥ sy)) : risK sy (pvF tr k) (tr.drop k) = risK sy (pvF tr (k + 1)) (tr.drop (k + 1)) := by
  have e : tr.getD k 0 = tr[k] := by rw [List.getD_eq_getElem?_getD, List.getElem?_eq_getElem h]; rfl
  rw [List.drop_eq_getElem_cons h, risK, if_neg hb, pvF, e]
set_option maxRecDepth 100000 in
set_option maxHeartbeats 4000000 in
theorem refFNew_any (p : Prg) (q : PrL) (sy bef : Int) (tr : List Int) (aT : Option Addr) (cT : Nat) (E : List (List Int)) (aE : Option Addr) (cE : Nat) (w : World) (hs : PrS p) (h : PrA w p q) (ht : IA w aT tr) (htl : tr.length ≤ 1000000000) (hE : RwA w aE E) (hEl : ∀ e ∈ E, e.length ≤ 1000000000) :
    Calls Tryd.prog 15 #[.agg #[.int .i64 p.sl, .slice q.aN p.N.length q.cN, .slice q.aO p.O.length q.cO, .int .i64 p.sr, .slice q.aM p.M.length q.cM, .slice q.aP p.P.length q.cP, .slice q.aB p.B.length q.cB, .bool p.el], .int .i64 sy, .int .i64 bef, .slice aT tr.length cT, .slice aE E.length cE] w fun e w' => RfN w p q sy bef tr aT cT E aE cE e w' := by
  obtain ⟨w0, hw0, hB0, hz0, hC0⟩ := box_pr w p q
  have HC : Hid (∀ V : World, Below w0.heap.size w0 V → (V.cell? ⟨w.heap.size, 0, none⟩ = some (.int .i64 p.sl) ∧ V.cell? ⟨w.heap.size, 1, none⟩ = some (.slice q.aN p.N.length q.cN) ∧ V.cell? ⟨w.heap.size, 2, none⟩ = some (.slice q.aO p.O.length q.cO) ∧ V.cell? ⟨w.heap.size, 3, none⟩ = some (.int .i64 p.sr)) ∧ V.cell? ⟨w.heap.size, 4, none⟩ = some (.slice q.aM p.M.length q.cM) ∧ V.cell? ⟨w.heap.size, 5, none⟩ = some (.slice q.aP p.P.length q.cP) ∧ V.cell? ⟨w.heap.size, 6, none⟩ = some (.slice q.aB p.B.length q.cB) ∧ V.cell? ⟨w.heap.size, 7, none⟩ = some (.bool p.el)) := hid0 hC0
  replace hw0 : w.alloc (.cells #[.int .i64 p.sl, .slice q.aN p.N.length q.cN, .slice q.aO p.O.length q.cO, .int .i64 p.sr, .slice q.aM p.M.length q.cM, .slice q.aP p.P.length q.cP, .slice q.aB p.B.length q.cB, .bool p.el] 27) = w0 := hw0
  have HIn : Hid (∀ V : World, Below w0.heap.size w0 V → PrA V p q ∧ IA V aT tr ∧ RwA V aE E ∧ Below w.heap.size w V) := hid0 (fun V hV => by
    have hq := hB0.trans (hV.mono hB0.size)
    exact ⟨h.past hq, ht.past hq, hE.past hq, hq⟩)
  have HEl := hid0 hEl
  have HCk := hid0 (refPairCheck_any p.sl p.sr p.N p.O p.M p.P p.B p.el q.aN q.aO q.aM q.aP q.aB q.cN q.cO q.cM q.cP q.cB sy w0 hs (HIn.out w0 (Below.refl _ _)).1)
  obtain ⟨⟨x0, x1, x2, x3⟩, x4, x5, x6, x7⟩ := HC.out w0 (Below.refl _ _)
  clear hC0 h ht hE hEl hB0 hz0 hs
  cases hck : chkP p.sl p.N p.O p.sr p.M p.P p.B.length sy with
  | false =>
    rw [hck] at HCk
    have HR : Hid (∀ V : World, Below w0.heap.size w0 V → RfN w p q sy bef tr aT cT E aE cE (.returned (.tuple #[.pointer none, .int .i64 1])) V) := hid0 (fun V hV => ⟨(HIn.out V hV).2.2.2, .inl ⟨0, by unfold nwE; rw [if_pos hck], rfl⟩⟩)
    rw [show numC false = 1 from rfl] at HCk
    clear hck
    go_enter Tryd.func15, Tryd.ntmps15
    go_wp2_with (go_at_call 32; go_loud ((
      refine HCk.out.mono ?_
      rintro e w1 ⟨rfl, hb⟩
      have HB1 := hid0 hb
      clear hb)))
    go_returns
    exact HR.out _ HB1.out
  | true =>
    rw [hck, show numC true = 0 from rfl] at HCk
    have HCK := hid0 hck
    clear hck
    go_enter Tryd.func15, Tryd.ntmps15
    go_upto_region 4 with (go_at_call 32; go_loud ((
      refine HCk.out.mono ?_
      rintro e w1 ⟨rfl, hb⟩
      have HB1 := hid0 hb
      clear hb HCk)))
    clear x0 x1 x2 x3 x4 x5 x6 x7 hw0
    obtain ⟨⟨x0, x1, x2, x3⟩, x4, x5, x6, x7⟩ := HC.out w1 HB1.out
    have HBad : Hid (((decide (-1 ≤ bef) && decide (bef ≤ (p.B.length : Int))) && risK sy (-1) tr) = false → ∀ n, RfN w p q sy bef tr aT cT E aE cE (.returned (.tuple #[.pointer none, .int .i64 1])) (w1.drewN n)) := hid0 (fun hf n => ⟨below_drew' (HIn.out w1 HB1.out).2.2.2 n, .inl ⟨0, by
      unfold nwE
      rw [if_neg (by rw [HCK.out]; simp), if_pos hf], rfl⟩⟩)
    by_cases h1 : bef < -1
    · have HR := hid0 (HBad.out (by rw [decide_eq_false (show ¬ -1 ≤ bef by omega)]; rfl) 0)
      have h1d : decide (bef < -1) = true := decide_eq_true h1
      clear x0 x1 x2 x3 x4 x5 x6 x7
      go_wp2
      go_returns
      exact HR.out
    by_cases h2 : bef > (p.B.length : Int)
    · have HR := hid0 (HBad.out (by rw [decide_eq_false (show ¬ bef ≤ (p.B.length : Int) by omega), Bool.and_false]; rfl) 0)
      have h1d : decide (bef < -1) = false := decide_eq_false h1
      have h2d : decide ((p.B.length : Int) < bef) = true := decide_eq_true h2
      go_wp2
      go_returns
      exact HR.out
    have h1d : decide (bef < -1) = false := decide_eq_false h1
    have h2d : decide ((p.B.length : Int) < bef) = false := decide_eq_false h2
    have HNn : Hid (risK sy (-1) tr = true → nwE p sy bef tr E = newE E) := hid0 (fun hr => by
      unfold nwE
      rw [if_neg (by rw [HCK.out]; simp), if_neg (by rw [hr, decide_eq_true (show -1 ≤ bef by omega), decide_eq_true (show bef ≤ (p.B.length : Int) by omega)]; simp)])
    have HBr : Hid (risK sy (-1) tr = false → ∀ n, RfN w p q sy bef tr aT cT E aE cE (.returned (.tuple #[.pointer none, .int .i64 1])) (w1.drewN n)) := hid0 (fun hr => HBad.out (by rw [hr, Bool.and_false]))
    clear HBad
    go_wp2
    clear x0 x1 x2 x3 x4 x5 x6 x7 h1d h2d
    go_loopw [13] (fun i wr => ∃ k : Nat, k ≤ tr.length ∧ i = .int .i64 (k : Int) ∧ Hid (risK sy (-1) tr = risK sy (pvF tr k) (tr.drop k)) ∧ Hid (-1 ≤ pvF tr k ∧ (0 < k → 0 ≤ pvF tr k)) ∧ ∃ n, wr = w1.drewN n) (fun i _ => tr.length - (intOf i).toNat)
    case atStart => exact ⟨0, Nat.zero_le _, rfl, hid0 rfl, hid0 ⟨by simp [pvF], fun h => by omega⟩, 0, rfl⟩
    case round =>
      obtain ⟨k, hk, rfl, HK, HV, nd, rfl⟩ := hrel
      by_cases hlt : k < tr.length
      · have hkI : (k : Int) < (tr.length : Int) := by omega
        have hk0 : (0 : Int) ≤ (k : Int) := by omega
        have hwk : IntKind.i64.wrap ((k : Int) + 1) = (k : Int) + 1 := by simp [IntKind.wrap, IntKind.bits, IntKind.signed]; omega
        have hit := (HIn.out w1 HB1.out).2.1
        obtain ⟨b, off, rfl, _, hc⟩ := hit.at' k hlt
        by_cases q1 : tr[k] < 0
        · have HR := hid0 (HBr.out (by rw [HK.out]; exact risK_bad sy tr k hlt (.inl (by have := HV.out.1; omega))))
          generalize tr[k] = x at *
          have q1d : decide (x < 0) = true := decide_eq_true q1
          go_wp2
          go_quiet ((fail))
          go_wp2
          go_returns
          first | exact HR.out _ | (rw [World.drewN_drewN]; exact HR.out _)
        by_cases q2 : sy ≤ tr[k]
        · have HR := hid0 (HBr.out (by rw [HK.out]; exact risK_bad sy tr k hlt (.inr q2)))
          generalize tr[k] = x at *
          have q1d : decide (x < 0) = false := decide_eq_false q1
          have q2d : decide (sy ≤ x) = true := decide_eq_true q2
          go_wp2
          go_quiet ((fail))
          go_wp2
          go_returns
          first | exact HR.out _ | (rw [World.drewN_drewN]; exact HR.out _)
        have q1d : decide (tr[k] < 0) = false := decide_eq_false q1
        have q2d : decide (sy ≤ tr[k]) = false := decide_eq_false q2
        by_cases q3 : 0 < k
        · obtain ⟨j, hj⟩ : ∃ j, k = j + 1 := ⟨k - 1, by omega⟩
          obtain ⟨b', off', e', _, hc'⟩ := hit.at' j (by omega)
          cases e'
          have hpv : pvF tr k = tr[j]'(by omega) := (congrArg (pvF tr) hj).trans (by rw [pvF, List.getD_eq_getElem?_getD, List.getElem?_eq_getElem (by omega)]; rfl)
          have q3I : (0 : Int) < (k : Int) := by omega
          have q3d : decide ((0 : Int) < (k : Int)) = true := decide_eq_true q3I
          have hkj : (k : Int) - 1 = (j : Int) := by omega
          have hwj : IntKind.i64.wrap ((k : Int) - 1) = (j : Int) := by rw [hkj]; simp [IntKind.wrap, IntKind.bits, IntKind.signed]; omega
          have hjI : (j : Int) < (tr.length : Int) := by omega
          have hj0 : (0 : Int) ≤ (j : Int) := by omega
          by_cases q4 : tr[k] ≤ tr[j]'(by omega)
          · have HR := hid0 (HBr.out (by rw [HK.out]; exact risK_bad sy tr k hlt (.inl (by rw [hpv]; exact q4))))
            generalize tr[k] = x at *
            generalize tr[j]'(by omega) = y at *
            have q4d : decide (x ≤ y) = true := decide_eq_true q4
            clear hj hkj hpv
            go_wp2
            go_quiet ((fail))
            go_wp2
            go_returns
            first | exact HR.out _ | (rw [World.drewN_drewN]; exact HR.out _)
          · have HK2 : Hid (risK sy (-1) tr = risK sy (pvF tr (k + 1)) (tr.drop (k + 1))) := hid0 (by rw [HK.out]; exact risK_go sy tr k hlt (by rw [hpv]; omega))
            have HV2 : Hid (-1 ≤ pvF tr (k + 1) ∧ (0 < k + 1 → 0 ≤ pvF tr (k + 1))) := hid0 (by
              have e : pvF tr (k + 1) = tr[k] := by rw [pvF, List.getD_eq_getElem?_getD, List.getElem?_eq_getElem hlt]; rfl
              rw [e]; omega)
            generalize tr[k] = x at *
            generalize tr[j]'(by omega) = y at *
            have q4d : decide (x ≤ y) = false := decide_eq_false q4
            clear hj hkj hpv
            go_wp2
            go_quiet ((fail))
            go_wp2
            go_roundw
            case rel => exact ⟨k + 1, by omega, by go_num, HK2, HV2, _, rfl⟩
            case measure => simp [intOf]; omega
        · have hk00 : k = 0 := by omega
          have HK2 : Hid (risK sy (-1) tr = risK sy (pvF tr (k + 1)) (tr.drop (k + 1))) := hid0 (by rw [HK.out]; exact risK_go sy tr k hlt (by have e0 : pvF tr k = -1 := (by rw [hk00]; rfl); rw [e0]; omega))
          have HV2 : Hid (-1 ≤ pvF tr (k + 1) ∧ (0 < k + 1 → 0 ≤ pvF tr (k + 1))) := hid0 (by
            have e : pvF tr (k + 1) = tr[k] := by rw [pvF, List.getD_eq_getElem?_getD, List.getElem?_eq_getElem hlt]; rfl
            rw [e]; omega)
          have q3I : ¬ (0 : Int) < (k : Int) := by omega
          have q3d : decide ((0 : Int) < (k : Int)) = false := decide_eq_false q3I
          generalize tr[k] = x at *
          clear hk00
          go_wp2
          go_quiet ((fail))
          go_wp2
          go_roundw
          case rel => exact ⟨k + 1, by omega, by go_num, HK2, HV2, _, rfl⟩
          case measure => simp [intOf]; omega
      · have hkI : ¬ (k : Int) < (tr.length : Int) := by omega
        have HNe : Hid (nwE p sy bef tr E = newE E) := hid0 (HNn.out (by rw [HK.out, List.drop_eq_nil_of_le (by omega)]; rfl))
        have hBd : Below w0.heap.size w0 (w1.drewN nd) := below_drew' HB1.out nd
        have HNw := hid0 (refNew_any E aE cE (w1.drewN nd) (HIn.out _ hBd).2.2.1 HEl.out)
        have HBd := hid0 hBd
        clear hBd HK HV
        cases hne : newE E with
        | some j =>
          have HE := hid0 hne
          have HR : Hid (∀ V : World, Below w0.heap.size w0 V → RfN w p q sy bef tr aT cT E aE cE (.returned (.tuple #[.pointer none, .int .i64 ((j : Int) + 1)])) V) := hid0 (fun V hV => ⟨(HIn.out V hV).2.2.2, .inl ⟨j, by rw [HNe.out, hne], rfl⟩⟩)
          have hj1 : ¬ ((j : Int) + 1 = 0) := by omega
          have hj2 : (((j : Int) + 1) != 0) = true := by simp; omega
          clear hne
          go_wp2_with (go_at_call 33; go_loud ((
            refine HNw.out.mono ?_
            rintro e w2 ⟨hb, hr⟩
            obtain rfl : e = .returned (.tuple #[.pointer none, .int .i64 ((j : Int) + 1)]) := by
              rcases hr with ⟨k, hk, h2⟩ | ⟨hk, _⟩
              · rw [HE.out] at hk; injection hk with hk; rw [hk]; exact h2
              · rw [HE.out] at hk; cases hk
            have HB2 : Hid (Below w0.heap.size w0 w2) := hid0 (Below.later HBd.out hb)
            clear hb hr HNw)))
          go_returns
          exact HR.out _ HB2.out
        | none =>
          have HE := hid0 hne
          clear hne
          go_upto_region 14 with (go_at_call 33; go_loud ((
            refine HNw.out.mono ?_
            rintro e w2 ⟨hb, hr⟩
            obtain ⟨U, rfl⟩ : ∃ U, e = .returned (.tuple #[.pointer (some ⟨U, 0, none⟩), .int .i64 0]) := by
              rcases hr with ⟨k, hk, h2⟩ | ⟨_, U, _, _, h2, _⟩
              · rw [HE.out] at hk; cases hk
              · exact ⟨U, h2⟩
            have HB2 : Hid (Below w0.heap.size w0 w2) := hid0 (Below.later HBd.out hb)
            clear hb hr HNw)))
          obtain ⟨⟨x0, x1, x2, x3⟩, x4, x5, x6, x7⟩ := HC.out w2 HB2.out
          obtain ⟨W7, hW7, hb7, hr7⟩ : ∃ W7, w2.alloc (.cells #[.int .i64 p.sl, .slice q.aN p.N.length q.cN, .slice q.aO p.O.length q.cO, .int .i64 p.sr, .slice q.aM p.M.length q.cM, .slice q.aP p.P.length q.cP, .slice q.aB p.B.length q.cB, .bool p.el, .int .i64 sy, .int .i64 bef, .slice aT tr.length cT, .slice aE E.length cE] 78) = W7 ∧ Below w2.heap.size w2 W7 ∧ W7.heap[w2.heap.size]? = some (.cells #[.int .i64 p.sl, .slice q.aN p.N.length q.cN, .slice q.aO p.O.length q.cO, .int .i64 p.sr, .slice q.aM p.M.length q.cM, .slice q.aP p.P.length q.cP, .slice q.aB p.B.length q.cB, .bool p.el, .int .i64 sy, .int .i64 bef, .slice aT tr.length cT, .slice aE E.length cE] 78 (0, 0)) := ⟨_, rfl, (Below.refl _ _).alloc (Nat.le_refl _) _, heap_alloc_new _ _⟩
          have HR : Hid (RfN w p q sy bef tr aT cT E aE cE (.returned (.tuple #[.pointer (some ⟨w2.heap.size, 0, none⟩), .int .i64 0])) W7) := hid0 (by
            have hq := HIn.out W7 (Below.later HB2.out hb7)
            refine ⟨hq.2.2.2, .inr ⟨by rw [HNe.out, HE.out], w2.heap.size, rfl, (HIn.out w2 HB2.out).2.2.2.size, ?_⟩⟩
            have hc : ∀ (j : Nat) (v : Value), #[.int .i64 p.sl, .slice q.aN p.N.length q.cN, .slice q.aO p.O.length q.cO, .int .i64 p.sr, .slice q.aM p.M.length q.cM, .slice q.aP p.P.length q.cP, .slice q.aB p.B.length q.cB, .bool p.el, .int .i64 sy, .int .i64 bef, .slice aT tr.length cT, .slice aE E.length cE][j]? = some v → W7.cell? ⟨w2.heap.size, j, none⟩ = some v := fun j v hj => by rw [cell_of_row _ _ _ _ _ _ hr7]; exact hj
            exact ⟨(Array.getElem?_eq_some_iff.1 hr7).1, ⟨⟨hc 0 _ rfl, hc 1 _ rfl, hc 2 _ rfl, hc 3 _ rfl⟩, hc 4 _ rfl, hc 5 _ rfl, hc 6 _ rfl, hc 7 _ rfl⟩, hc 8 _ rfl, hc 9 _ rfl, hc 10 _ rfl, hc 11 _ rfl, hq.1, hq.2.1, hq.2.2.1⟩)
          clear hb7 hr7
          go_wp2
          go_returns
          exact HR.out
end Go.Proofs.YtekimkdaoblcgaaDoor
