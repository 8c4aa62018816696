/-
  OwOW, OwSW, OwKW, OwFM, BwM, BwXW, ShelfH, BwHW, IterW.
-/
import Derived.Test.YtpkfcadihgbleaaGreatDoorMpc
import Derived.Laws.StructEq
import Derived.Shelf.Spec.TrailingZeros
import Derived.Ground.Names7Prog
import Derived.Test.YtpkfcadihgbleaaGreatDoorProg
import Derived.RangeFuncNested
import Derived.RangeFuncBound
import Derived.RangeFuncCalls
import Derived.RangeFuncLeaves
import Derived.RangeFuncBox
import Derived.Shelf.Abstract
import Derived.OwnWalkIn
import Derived.TacticsInMore
import Derived.LoopNIn
import Derived.LoopIn
import Derived.Lib.RuneCount
import Derived.Laws.RangeString
import Derived.Laws.RangeAny
namespace Go.Proofs.YtpkfcadihgbleaaGreatDoor
open Go.RowKit Go.Shelf Go.Lib
/-- At a step of a region that draws its order: append of one section. -/
theorem step_appendX {ops : Array Oper} {op : Oper} {a : Act} {w : World} {K : Act → World → Prop} {Q : Exit → Act → World → Prop} {E : Prop} (hgd : op.guard = none) (s x : Operand) (ho : op.op = .call { callee := .builtin .append, args := #[s, x], argTypes := #[22, 22] })
    (base : Nat) (v : Value) (n : Nat) (xs : List Value) (hs : a.eval s = v) (hown : w.ownsRow base 30 3 v n xs) (ad : Addr) (x0 x1 x2 : Value) (hx : a.eval x = .slice (some ad) 1 1) (hnews : ∀ j u, [x0, x1, x2][j]? = some u → w.cell? (ad.add j) = some u) (hone : ∀ u ∈ [x0, x1, x2], u.oneCell' = true) (hn : n ≤ 1000000) (hb : base ≤ w.heap.size)
    (h : ∀ v' w', w'.ownsRow base 30 3 v' (n + 1) (xs ++ [x0, x1, x2]) → w.grownBy w' v.ownBlock → (v'.ownBlock = v.ownBlock ∨ v'.ownBlock = some w.heap.size) → K (a.put op.dst v') w') : if Region.wanted op (yielded ops a.tmps) = true then Oper.wp Tryz.prog op a w K Q else E := by
  have hw : Region.wanted op (yielded ops a.tmps) = true := by simp [Region.wanted, hgd]
  rw [if_pos hw]
  obtain ⟨j0, hj, hy0, hy1, hy2⟩ := info_parts infoSec
  obtain ⟨v', w', hr, h2, h3, _, h5⟩ := run_append_own_at (P := Tryz.prog) w base 22 op.type 30 j0 (.agg #[.string ⟨#[]⟩, .string ⟨#[]⟩, .slice none 0 0]) 3 56 Tryz.underlying22 hj hy0 hy1 hy2 rfl (by decide) v n xs hown ad 1 1 [x0, x1, x2] rfl hnews hone (by unfold maxLen; omega) (by omega) hb
  unfold Oper.wp execOp
  simp only [ho, resolve, invoke, builtin, Sem.run_bind, Sem.run_pure, Result.andThen_ok, List.map_toArray, List.map_cons, List.map_nil, hs, hx, hr]
  exact h _ _ h2 h3 h5
theorem own6_grow {w wo w5 w6 : World} {S : List SecAt} {lo pa : ByteArray} {ed : List (Bool × ByteArray)} {g5 cap5 : Nat} {v v' sv : Value} {o : Obj} (hK : OS wo w.heap.size sv v) (hG : Giv wo (w.heap.size + 3) v S 0) (hB : Below w.heap.size w wo) (hZ : w.heap.size + 3 ≤ wo.heap.size) (hB5 : Below wo.heap.size wo w5)
    (hO5 : OwnE w5 (w.heap.size + 3) (.slice (some ⟨g5, 0, none⟩) (ed.length + 1) cap5) (ed.length + 1) (ed ++ marksE 1)) (hge : wo.heap.size ≤ g5) (hgrow : (w5.drew.alloc o).grownBy w6 v.ownBlock) (hown : w6.ownsRow (w.heap.size + 3) 30 3 v' (S.length + 0 + 1) ((cellsX S ++ markX 0) ++ [.string lo, .string pa, .slice (some ⟨g5, 0, none⟩) ed.length cap5]))
    (hat : v'.ownBlock = v.ownBlock ∨ v'.ownBlock = some (w5.drew.alloc o).heap.size) : OS w6 w.heap.size sv v ∧ Below w.heap.size w w6 ∧ Giv w6 (w.heap.size + 3) v' (S ++ [⟨⟨lo, pa, ed⟩, g5, cap5⟩]) 0 ∧ w.heap.size + 3 ≤ w6.heap.size := by
  have hs5 := hB5.size
  have hG5 : Giv w5 (w.heap.size + 3) v S 0 := hG.keep (fun q _ hq => hB5.block q hq)
  have hG5d : w5.drew.ownsRow (w.heap.size + 3) 30 3 v (S.length + 0) (cellsX S ++ markX 0) := hG5.row
  have hK5 : OS w5.drew w.heap.size sv v := hK.keep (fun q hq => hB5.block q (by omega))
  have hB5d : Below w.heap.size w w5.drew := (Below.later hB hB5).drew
  have hsd : w5.drew.heap.size = w5.heap.size := rfl
  refine ⟨hK5.keep (fun q hq => grown_low hG5d hgrow q hq (by omega)), grown_below hB5d hG5d hgrow (by omega) (Nat.le_refl _), ?_, ?_⟩
  · refine Giv.grown (wa := w5.drew.alloc o) hG (fun q h1 h2 => (Below.heap_alloc w5.drew _ q (by omega)).trans (hB5.block q h2)) hgrow ?_ ?_ ?_ (.inr ⟨_, rfl, hge⟩)
    · rw [cellsX_append, show (S ++ [(⟨⟨lo, pa, ed⟩, g5, cap5⟩ : SecAt)]).length + 0 = S.length + 0 + 1 by simp, show markX 0 = [] from rfl, List.append_nil]
      have h := hown
      rw [show markX 0 = [] from rfl, List.append_nil] at h
      exact h
    · rcases hat with h | h
      · exact .inl h
      · exact .inr ⟨_, h, Nat.le_refl _⟩
    · intro x hx
      rcases List.mem_append.1 hx with h | h
      · exact .inl h
      · right
        rw [List.mem_singleton] at h
        subst h
        have h5d : OwnE w5.drew (w.heap.size + 3) (.slice (some ⟨g5, 0, none⟩) (ed.length + 1) cap5) (ed.length + 1) (ed ++ marksE 1) := hO5
        exact ⟨World.ownsRow.alloc h5d _, hge⟩
  · have h1 := hgrow.size
    have h2 : (w5.drew.alloc o).heap.size = w5.drew.heap.size + 1 := by simp
    omega
set_option maxRecDepth 10000 in
set_option maxHeartbeats 3200000 in
theorem own6_any (L : List Sec) (a : Option Addr) (c : Nat) (w : World) (hl : L.length ≤ 1000000) (hb : ∀ s ∈ L, s.ed.length ≤ 1000000000) (ha : XB w a L) :
    Calls Tryz.prog 9 #[.agg #[.slice a L.length c]] w fun e w' => Owned L w e w' := by
  obtain ⟨i0, hi, hz0, hz1, hz2⟩ := info_parts infoEdit
  obtain ⟨j0, hj, hy0, hy1, hy2⟩ := info_parts infoSec
  obtain ⟨w0, hw0⟩ : ∃ w0, w0 = ((w.alloc (.cells #[.slice a L.length c] 24)).alloc (.cells #[.slice none 0 0] 24)).alloc (.cells #[.slice none 0 0] 24) := ⟨_, rfl⟩
  obtain ⟨X, hX⟩ : ∃ X, X = w.heap.size := ⟨_, rfl⟩
  have hs0 : w0.heap.size = X + 3 := by rw [hw0]; simp [hX]
  have hB0 : Below w.heap.size w w0 := by rw [hw0]; exact (((Below.refl _ _).alloc (Nat.le_refl _) _).alloc (by simp) _).alloc (by simp; omega) _
  have hK0 : OS w0 X (.slice a L.length c) (.slice none 0 0) := by
    obtain ⟨wa, hwa⟩ : ∃ wa, wa = w.alloc (.cells #[.slice a L.length c] 24) := ⟨_, rfl⟩
    obtain ⟨wb, hwb⟩ : ∃ wb, wb = wa.alloc (.cells #[.slice none 0 0] 24) := ⟨_, rfl⟩
    have sa : wa.heap.size = X + 1 := by rw [hwa]; simp [hX]
    have sb : wb.heap.size = X + 2 := by rw [hwb]; simp [sa]
    have r1 : wa.heap[X]? = some (.cells #[.slice a L.length c] 24 (0, 0)) := by rw [hwa, hX]; exact heap_alloc_new w _
    have r2 : wb.heap[X + 1]? = some (.cells #[.slice none 0 0] 24 (0, 0)) := by rw [hwb, ← sa]; exact heap_alloc_new wa _
    rw [hw0, ← hwa, ← hwb]
    refine ⟨?_, ?_, ?_⟩
    · rw [Below.heap_alloc wb _ X (by omega), hwb, Below.heap_alloc wa _ X (by omega)]; exact r1
    · rw [Below.heap_alloc wb _ (X + 1) (by omega)]; exact r2
    · rw [show X + 1 + 1 = wb.heap.size by omega]; exact heap_alloc_new wb _
  have HK0 := hid0 hK0
  have HB0 := hid0 hB0
  have HS0 := hid0 hs0
  have HA := hid0 ha
  have HBD := hid0 hb
  have HF := hid0 hw0.symm
  have hG0 : Hid (Giv w0 (X + 3) (.slice none 0 0) [] 0) := hid0 ⟨World.ownsRow_nil _ _ _ _, (fun x hx => by cases hx), (fun x hx => by cases hx), .nil⟩
  subst hX
  clear ha hb hB0 hw0 hK0 hs0
  go_enter Tryz.func9, Tryz.ntmps9
  go_wp2
  rw [HF.out]
  clear HF
  go_loopw [4] (fun i wr => ∃ (k : Nat) (v : Value) (S : List SecAt), k ≤ L.length ∧ i = .int .i64 (k : Int) ∧ Hid (OS wr w.heap.size (.slice a L.length c) v) ∧ Hid (S.map (·.s) = L.take k) ∧ Hid (Giv wr (w.heap.size + 3) v S 0) ∧ Hid (Below w.heap.size w wr) ∧ Hid (w.heap.size + 3 ≤ wr.heap.size)) (fun i _ => L.length - (intOf i).toNat)
  case atStart => exact ⟨0, _, [], Nat.zero_le _, rfl, HK0, hid0 rfl, hG0, HB0, hid0 (by rw [HS0.out]; exact Nat.le_refl _)⟩
  case round =>
    clear HK0 hG0 HB0 HS0 w0
    obtain ⟨k, v, S, hk, rfl, HK, HSm, HG, HB, HZ⟩ := hrel
    obtain ⟨wo, hwo⟩ : ∃ wo, wo = wr := ⟨_, rfl⟩
    subst hwo
    by_cases hlt : k < L.length
    · obtain ⟨b, off, ae, ce, rfl, hbl, c0, c1, c2, hea, hnl⟩ := (HA.out.later HB.out).at' k hlt
      obtain ⟨x0, x1, x2, x3, x4⟩ := HK.out.cells
      have hkI : (k : Int) < (L.length : Int) := by omega
      have hkI0 : (0 : Int) ≤ (k : Int) := by omega
      have HEA := hid0 hea
      have HNL := hid0 hnl
      have hed := HBD.out L[k] (List.getElem_mem hlt)
      have HSk : Hid (L.take (k + 1) = L.take k ++ [L[k]]) := hid0 (by rw [List.take_add_one, List.getElem?_eq_getElem hlt]; rfl)
      generalize L[k] = sc at *
      obtain ⟨lo, pa, ed⟩ := sc
      simp only at c0 c1 c2 hed HEA
      clear hea hnl hbl
      obtain ⟨w1, hw1⟩ : ∃ w1, w1 = wo.alloc (.cells #[.string lo, .string pa, .slice ae ed.length ce] 30) := ⟨_, rfl⟩
      have hb1 : Below wo.heap.size wo w1 := by rw [hw1]; exact (Below.refl _ _).alloc (Nat.le_refl _) _
      have hr1 : w1.heap[wo.heap.size]? = some (.cells #[.string lo, .string pa, .slice ae ed.length ce] 30 (0, 0)) := by rw [hw1]; exact heap_alloc_new wo _
      have hs1 : w1.heap.size = wo.heap.size + 1 := by rw [hw1]; simp
      obtain ⟨e2, e3, e4, e5⟩ := sec_cells hr1
      have HEA1 := hid0 (HEA.out.later hb1)
      have HR1 := hid0 hr1
      have HB1 := hid0 hb1
      have HS1 := hid0 hs1
      have hf1 := hw1.symm
      have M1 : Hid True := trivial
      clear hw1 hb1 hr1 hs1
      go_wp2_with (first
        | (at_builtin; clear M1; go_loud ((
            refine wpList_spreadE (by rfl) _ _ (by rfl) ae ed ce w1.heap.size (by rfl) (by rfl) HNL.out HEA1.out (by omega) (Nat.le_refl _) ?_
            intro vE w2 hoE hgE
            obtain ⟨aV, cV, rfl⟩ := own_slice hoE
            have hb2 := below_grown hgE
            have hr2 := (hb2.block wo.heap.size (by have := HS1.out; omega)).trans HR1.out
            obtain ⟨f2, f3, f4, f5⟩ := sec_cells hr2
            have HO2 := hid0 hoE
            have HB2 := hid0 (Below.later HB1.out hb2)
            have HR2 := hid0 hr2
            have hsz2 := hb2.size
            have M2 : Hid True := trivial
            clear hoE hgE hb2 hr2 e2 e3 e4 e5 hf1)))
        | (at_builtin; clear M2; go_loud ((
            refine wpList_append_own _ (by rfl) _ _ 28 (by rfl) w1.heap.size 32 i0 (.agg #[.bool false, .string ⟨#[]⟩]) 2 24 Tryz.underlying28 hi hz0 hz1 hz2 rfl (by decide) (.slice aV ed.length cV) ed.length (cellsE ed) (by rfl) (World.ownsRow.alloc HO2.out _) ⟨w2.heap.size, 0, none⟩ 1 1 [.bool false, .string ⟨#[98, 101, 104, 105, 110, 100]⟩] (by rfl) (by rfl) (cell2_new _ _ _ _) (fun u hu => by simp only [List.mem_cons, List.not_mem_nil, or_false] at hu; rcases hu with rfl | rfl <;> rfl) (by unfold maxLen; omega) (by omega) (by simp; omega) ?_
            intro v5 w5 hown5 hgrow5 hiff5
            clear hiff5
            obtain ⟨g5, cap5, rfl, hju1, hju2, hju3⟩ := own_form hown5 (Nat.succ_pos _)
            have hs1 := HS1.out
            have hr5 := (grown_low HO2.out hgrow5 wo.heap.size (by omega) (lt_of_row HR2.out)).trans HR2.out
            have hb5 := grown_below HB2.out HO2.out hgrow5 (by omega) (Nat.le_refl _)
            obtain ⟨f2, f3, f4, f5⟩ := sec_cells hr5
            obtain ⟨x0, x1, x2, x3, x4⟩ := (HK.out.keep (fun q hq => hb5.block q (by have := HZ.out; omega))).cells
            have HO5 : Hid (OwnE w5 (w.heap.size + 3) (.slice (some ⟨g5, 0, none⟩) (ed.length + 1) cap5) (ed.length + 1) (ed ++ marksE 1)) := hid0 (by
              have hz := HZ.out
              have h1 := owns_lower hown5 (base' := w.heap.size + 3) (by omega)
              unfold OwnE
              rw [cellsE_append]
              exact h1)
            have HB5 := hid0 hb5
            have HR5 := hid0 hr5
            have HGE : Hid (wo.heap.size + 1 ≤ g5) := hid0 (by omega)
            clear hown5 hgrow5 hr5 hb5 hju1 hju2 HO2 HB2 HR2)))
        | fail)
      have hs1 := HS1.out
      have q0 : (0 : Int) ≤ (ed.length : Int) := by omega
      have q1 : (ed.length : Int) ≤ (cap5 : Int) := by omega
      have hG5 : Giv w5 (w.heap.size + 3) v S 0 := HG.out.keep (fun q _ hq => HB5.out.block q hq)
      obtain ⟨aS, cS, rfl⟩ := own_slice HG.out.row
      have HSl : Hid (S.length = k) := hid0 (by have h := congrArg List.length HSm.out; rw [List.length_map, List.length_take] at h; omega)
      have hSl : S.length ≤ 1000000 := by have := HSl.out; omega
      have HG5 := hid0 hG5
      have hz5 : w.heap.size + 3 ≤ w5.heap.size := by have h1 := HZ.out; have h2 := HB5.out.size; omega
      have HOD : Hid (∀ (W : World) (o : Obj), W.heap = (w5.alloc o).heap → W.ownsRow (w.heap.size + 3) 30 3 (.slice aS (S.length + 0) cS) (S.length + 0) (cellsX S ++ markX 0)) := hid0 (fun W o hW => own_blk (World.ownsRow.alloc HG5.out.row o) (fun q _ => by rw [hW]))
      have HCN : Hid (∀ W : World, W.heap = (w5.alloc (.cells #[.string lo, .string pa, .slice (some ⟨g5, 0, none⟩) ed.length cap5] 30)).heap → ∀ j u, [Value.string lo, .string pa, .slice (some ⟨g5, 0, none⟩) ed.length cap5][j]? = some u → W.cell? ((⟨w5.heap.size, 0, none⟩ : Addr).add j) = some u) := hid0 (fun W hW j u hu => (World.cell?_of_block (by rw [hW])).trans (cell3_new w5 _ _ _ _ j u hu))
      have HSZ : Hid (∀ (W : World) (o : Obj), W.heap = (w5.alloc o).heap → w.heap.size + 3 ≤ W.heap.size) := hid0 (fun W o hW => by rw [hW]; simp; omega)
      have y1 := cell_al x1 (.cells #[.string lo, .string pa, .slice (some ⟨g5, 0, none⟩) ed.length cap5] 30)
      clear hG5
      apply use_key
      case main =>
        intro key
        go_region_law ((
          go_loud (refine step_appendX (by rfl) _ _ (by rfl) (w.heap.size + 3) (.slice aS (S.length + 0) cS) (S.length + 0) (cellsX S ++ markX 0) (by rfl) (HOD.out _ _ rfl) ⟨w5.heap.size, 0, none⟩ (.string lo) (.string pa) (.slice (some ⟨g5, 0, none⟩) ed.length cap5) (by rfl) (HCN.out _ rfl) (fun u hu => by simp only [List.mem_cons, List.not_mem_nil, or_false] at hu; rcases hu with rfl | rfl | rfl <;> rfl) (by omega) (HSZ.out _ _ rfl) ?_)
          intro v6 w6 hown6 hgrow6 hat6
          have HR6 := hid0 (own6_grow HK.out HG.out HB.out HZ.out HB5.out HO5.out (Nat.le_trans (Nat.le_succ _) HGE.out) hgrow6 hown6 hat6)
          obtain ⟨g6, cap6, rfl, hju1, hju2, hju4⟩ := own_form hown6 (Nat.succ_pos _)
          obtain ⟨t0, t1, t2, t3, t4⟩ := HR6.out.1.cells
          clear hown6 hgrow6 hat6 hju1 hju2 hju4))
        all_goals
          have HKN : Hid (OS (w6.setCell ⟨w.heap.size + 1 + 1, 0, none⟩ (.slice (some ⟨g6, 0, none⟩) (S.length + 0 + 1) cap6)) w.heap.size (.slice (some ⟨b, off, none⟩) L.length c) (.slice (some ⟨g6, 0, none⟩) (S.length + 0 + 1) cap6)) := hid0 (HR6.out.1.set _)
          have HBN : Hid (Below w.heap.size w (w6.setCell ⟨w.heap.size + 1 + 1, 0, none⟩ (.slice (some ⟨g6, 0, none⟩) (S.length + 0 + 1) cap6))) := hid0 (HR6.out.2.1.setCell (by simp; omega) _)
          have HGN : Hid (Giv (w6.setCell ⟨w.heap.size + 1 + 1, 0, none⟩ (.slice (some ⟨g6, 0, none⟩) (S.length + 0 + 1) cap6)) (w.heap.size + 3) (.slice (some ⟨g6, 0, none⟩) (S.length + 0 + 1) cap6) (S ++ [⟨⟨lo, pa, ed⟩, g5, cap5⟩]) 0) := hid0 (HR6.out.2.2.1.keep (fun q h1 _ => Below.heap_setCell w6 _ _ q (by simp; omega)))
          have HZN : Hid (w.heap.size + 3 ≤ (w6.setCell ⟨w.heap.size + 1 + 1, 0, none⟩ (.slice (some ⟨g6, 0, none⟩) (S.length + 0 + 1) cap6)).heap.size) := hid0 (by have := HR6.out.2.2.2; simp [World.setCell]; omega)
          clear HR6 t0 t1 t2 t3 t4
          generalize w6.setCell ⟨w.heap.size + 1 + 1, 0, none⟩ (.slice (some ⟨g6, 0, none⟩) (S.length + 0 + 1) cap6) = W6 at HKN HBN HGN HZN ⊢
          clear w6
          revert g6 cap6 W6
          exact key.out
      case cont =>
        intro g6 cap6 W6 HKN HBN HGN HZN
        have HSN : Hid ((S ++ [(⟨⟨lo, pa, ed⟩, g5, cap5⟩ : SecAt)]).map (·.s) = L.take (k + 1)) := hid0 (by rw [List.map_append, HSm.out, HSk.out]; rfl)
        go_wp2
        go_roundw
        case rel => exact ⟨k + 1, _, _, by omega, by go_num, HKN, HSN, HGN, HBN, HZN⟩
        case measure => simp [intOf]; omega
    · have hkI : ¬ (k : Int) < (L.length : Int) := by omega
      have hSL : S.map (·.s) = L := by have h := HSm.out; rw [List.take_of_length_le (by omega)] at h; exact h
      have hSl : S.length = L.length := by have h := congrArg List.length hSL; rw [List.length_map] at h; exact h
      have HSL := hid0 hSL
      have HSl := hid0 hSl
      obtain ⟨aS, cS, rfl⟩ := own_slice HG.out.row
      have hv : Value.slice aS (S.length + 0) cS = .slice aS L.length cS := by rw [Nat.add_zero, hSl]
      rw [hv] at HK HG
      obtain ⟨x0, x1, x2, x3, x4⟩ := HK.out.cells
      have hz := HZ.out
      clear hSL HSm hSl hv
      go_wp2_with (at_builtin; go_loud ((
        refine wpList_append_own_at _ (by rfl) _ _ 22 (by rfl) (w.heap.size + 3) 30 j0 (.agg #[.string ⟨#[]⟩, .string ⟨#[]⟩, .slice none 0 0]) 3 56 Tryz.underlying22 hj hy0 hy1 hy2 rfl (by decide) (.slice aS L.length cS) (S.length + 0) (cellsX S ++ markX 0) (by rfl) (World.ownsRow.alloc HG.out.row _) ⟨wo.heap.size, 0, none⟩ 1 1 [.string ⟨#[98, 101, 104, 105, 110, 100]⟩, .string ⟨#[]⟩, .slice none 0 0] (by rfl) (by rfl) (cell3_new _ _ _ _ _) (fun u hu => by simp only [List.mem_cons, List.not_mem_nil, or_false] at hu; rcases hu with rfl | rfl | rfl <;> rfl) (by have := HSl.out; unfold maxLen; omega) (by have := HSl.out; omega) (by simp; omega) ?_
        intro v6 w6 hown6 hgrow6 hiff6 hat6
        clear hiff6
        obtain ⟨g6, cap6, hv6, hju1, hju2, hju3⟩ := own_form hown6 (Nat.succ_pos _)
        have hSl := HSl.out
        have hv7 : v6 = .slice (some ⟨g6, 0, none⟩) (L.length + 1) cap6 := by rw [hv6, Nat.add_zero, hSl]
        subst hv7
        have hK6 : OS w6 w.heap.size (.slice a L.length c) (.slice aS L.length cS) := HK.out.keep (fun q hq => grown_low HG.out.row hgrow6 q hq (by omega))
        have hB6 : Below w.heap.size w w6 := grown_below HB.out HG.out.row hgrow6 (by omega) (Nat.le_refl _)
        have hG6 : Giv w6 (w.heap.size + 3) (.slice (some ⟨g6, 0, none⟩) (L.length + 1) cap6) S 1 := by
          refine Giv.grown (wa := wo.alloc (.cells #[.string ⟨#[98, 101, 104, 105, 110, 100]⟩, .string ⟨#[]⟩, .slice none 0 0] 30)) HG.out (fun q _ h2 => Below.heap_alloc wo _ q h2) hgrow6 ?_ ?_ (fun x hx => .inl hx) (.inl rfl)
          · rw [markX, ← List.append_assoc]
            exact hown6
          · rcases hat6 with h | h
            · exact .inl h
            · exact .inr ⟨_, h, Nat.le_refl _⟩
        have HB6 := hid0 hB6
        have HG6 := hid0 hG6
        have HK6 := hid0 hK6
        obtain ⟨t0, t1, t2, t3, t4⟩ := hK6.cells
        clear hown6 hgrow6 hat6 hju1 hju2 hv6 hK6 hB6 hG6 x0 x1 x2 x3 x4 HK HG HB)))
      have hSl := HSl.out
      obtain ⟨w7, hw7⟩ : ∃ w7, w7 = w6.setCell ⟨w.heap.size + 1 + 1, 0, none⟩ (.slice (some ⟨g6, 0, none⟩) (L.length + 1) cap6) := ⟨_, rfl⟩
      obtain ⟨w8, hw8⟩ : ∃ w8, w8 = w7.setCell ⟨w.heap.size + 1 + 1, 0, none⟩ (.slice (some ⟨g6, 0, none⟩) L.length cap6) := ⟨_, rfl⟩
      have hK7 := HK6.out.set (.slice (some ⟨g6, 0, none⟩) (L.length + 1) cap6)
      rw [← hw7] at hK7
      have hK8 := hK7.set (.slice (some ⟨g6, 0, none⟩) L.length cap6)
      rw [← hw8] at hK8
      have hV : Owned L w (.returned (.agg #[.slice (some ⟨g6, 0, none⟩) L.length cap6])) (w8.setCell ⟨w.heap.size + 1, 0, none⟩ (.slice (some ⟨g6, 0, none⟩) L.length cap6)) := by
        refine ⟨g6, cap6, S, rfl, by omega, HSL.out, ?_, ?_⟩
        · have h1 := ((HG6.out.keep (w' := w7) (fun q h1 _ => by rw [hw7]; exact Below.heap_setCell w6 _ _ q (by simp; omega))).keep (w' := w8) (fun q h1 _ => by rw [hw8]; exact Below.heap_setCell w7 _ _ q (by simp; omega))).keep (w' := w8.setCell ⟨w.heap.size + 1, 0, none⟩ (.slice (some ⟨g6, 0, none⟩) L.length cap6)) (fun q h1 _ => Below.heap_setCell w8 _ _ q (by simp; omega))
          exact ⟨owns_lower h1.row (by omega), fun x hx => owns_lower (h1.ed x hx) (by omega), h1.ne, h1.pw⟩
        · rw [hw8, hw7]
          exact ((HB6.out.setCell (by simp; omega) _).setCell (by simp; omega) _).setCell (by simp) _
      have c9 : (w8.setCell ⟨w.heap.size + 1, 0, none⟩ (.slice (some ⟨g6, 0, none⟩) L.length cap6)).cell? ⟨w.heap.size + 1, 0, none⟩ = some (.slice (some ⟨g6, 0, none⟩) L.length cap6) := by
        rw [cell_of_row _ _ _ _ _ _ (heap_setCell_same w8 _ 0 _ _ _ hK8.res)]; rfl
      rw [← hw7, ← hw8]
      refine bodyPost_ret ?_ rfl hV
      simp [results, Tryz.results9, go_sem, c9]
end Go.Proofs.YtpkfcadihgbleaaGreatDoor
namespace Go.Proofs.YtpkfcadihgbleaaGreatDoor
open Go.RowKit Go.Shelf Go.Lib
theorem below_drew6 {B : Nat} {w a : World} (h : Below B w a) (n : Nat) : Below B w (a.drewN n) := ⟨h.os, h.tape, h.output, h.size, h.block⟩
set_option maxRecDepth 10000 in
set_option maxHeartbeats 3200000 in
theorem sameBundle_any (L : List Sec) (a b : Option Addr) (ca cb : Nat) (w : World) (hl : L.length ≤ 1000000) (hb : ∀ s ∈ L, s.ed.length ≤ 1000000000) (ha : XA w a L) (hB : XA w b L) :
    Calls Tryz.prog 15 #[.agg #[.slice a L.length ca], .agg #[.slice b L.length cb]] w fun e w' => e = .returned (.bool true) ∧ Below w.heap.size w w' := by
  obtain ⟨w0, hw0⟩ : ∃ w0, w0 = (w.alloc (.cells #[.slice a L.length ca] 24)).alloc (.cells #[.slice b L.length cb] 24) := ⟨_, rfl⟩
  have hs0 : w0.heap.size = w.heap.size + 2 := by rw [hw0]; simp
  have hB0 : Below w.heap.size w w0 := by rw [hw0]; exact ((Below.refl _ _).alloc (Nat.le_refl _) _).alloc (by simp) _
  have hX0 : w0.heap[w.heap.size]? = some (.cells #[.slice a L.length ca] 24 (0, 0)) := by
    rw [hw0]
    exact (Below.heap_alloc _ _ _ (by simp)).trans (heap_alloc_new w _)
  have hX1 : w0.heap[w.heap.size + 1]? = some (.cells #[.slice b L.length cb] 24 (0, 0)) := by
    rw [hw0]
    have h := heap_alloc_new (w.alloc (.cells #[.slice a L.length ca] 24)) (.cells #[.slice b L.length cb] 24)
    rw [show (w.alloc (.cells #[.slice a L.length ca] 24)).heap.size = w.heap.size + 1 by simp] at h
    exact h
  have HX : Hid (∀ W, Below w0.heap.size w0 W → W.cell? ⟨w.heap.size, 0, none⟩ = some (.slice a L.length ca) ∧ W.cell? ⟨w.heap.size + 1, 0, none⟩ = some (.slice b L.length cb)) := hid0 (fun W hW => by
    have hr := (hW.block w.heap.size (by omega)).trans hX0
    have hq := (hW.block (w.heap.size + 1) (by omega)).trans hX1
    exact ⟨by rw [cell_of_row _ _ _ _ _ _ hr]; rfl, by rw [cell_of_row _ _ _ _ _ _ hq]; rfl⟩)
  have HXA : Hid (∀ W, Below w0.heap.size w0 W → XA W a L ∧ XA W b L) := hid0 (fun W hW => ⟨(ha.later hB0).later hW, (hB.later hB0).later hW⟩)
  have HBD := hid0 hb
  have HB0 := hid0 hB0
  obtain ⟨x0, x1⟩ := HX.out w0 (Below.refl _ _)
  have hfold := hw0.symm
  clear hw0 hs0 hB0 hX0 hX1 ha hB hb
  go_enter Tryz.func15, Tryz.ntmps15
  go_wp2
  clear x0 x1 hfold
  go_loopw [5] (fun i wr => ∃ k : Nat, k ≤ L.length ∧ i = .int .i64 (k : Int) ∧ Hid (Below w0.heap.size w0 wr)) (fun i _ => L.length - (intOf i).toNat)
  case atStart => exact ⟨0, Nat.zero_le _, rfl, hid0 (Below.refl _ _)⟩
  case round =>
    obtain ⟨k, hk, rfl, HB⟩ := hrel
    obtain ⟨wo, hwo⟩ : ∃ wo, wo = wr := ⟨_, rfl⟩
    subst hwo
    obtain ⟨x0, x1⟩ := HX.out wo HB.out
    by_cases hlt : k < L.length
    · have hkI : (k : Int) < (L.length : Int) := by omega
      have hkI0 : (0 : Int) ≤ (k : Int) := by omega
      obtain ⟨b1, o1, ae, ce, rfl, hb1, c0, c1, c2, hea⟩ := (HXA.out wo HB.out).1.at' k hlt
      obtain ⟨b2, o2, be, de, rfl, hb2, d0, d1, d2, heb⟩ := (HXA.out wo HB.out).2.at' k hlt
      have hed := HBD.out L[k] (List.getElem_mem hlt)
      generalize L[k] = sc at *
      obtain ⟨lo, pa, ed⟩ := sc
      simp only at c0 c1 c2 d0 d1 d2 hea heb hed
      obtain ⟨w1, hw1⟩ : ∃ w1, w1 = wo.alloc (.cells #[.string lo, .string pa, .slice ae ed.length ce] 30) := ⟨_, rfl⟩
      have hbw1 : Below wo.heap.size wo w1 := by rw [hw1]; exact (Below.refl _ _).alloc (Nat.le_refl _) _
      have hs1 : w1.heap.size = wo.heap.size + 1 := by rw [hw1]; simp
      have hr1 : w1.heap[wo.heap.size]? = some (.cells #[.string lo, .string pa, .slice ae ed.length ce] 30 (0, 0)) := by rw [hw1]; exact heap_alloc_new wo _
      obtain ⟨w2, hw2⟩ : ∃ w2, w2 = w1.alloc (.cells #[.string lo, .string pa, .slice be ed.length de] 30) := ⟨_, rfl⟩
      have hbw2 : Below w1.heap.size w1 w2 := by rw [hw2]; exact (Below.refl _ _).alloc (Nat.le_refl _) _
      have hr2 : w2.heap[wo.heap.size + 1]? = some (.cells #[.string lo, .string pa, .slice be ed.length de] 30 (0, 0)) := by rw [hw2, ← hs1]; exact heap_alloc_new w1 _
      have hr12 : w2.heap[wo.heap.size]? = some (.cells #[.string lo, .string pa, .slice ae ed.length ce] 30 (0, 0)) := (hbw2.block _ (by omega)).trans hr1
      obtain ⟨y0, y1⟩ := HX.out w1 (Below.later HB.out hbw1)
      have e0 := (hbw1.cell (p := ⟨b2, o2 + k * 3, none⟩) hb2).trans d0
      have e1 := (hbw1.cell (p := ⟨b2, o2 + k * 3 + 1, none⟩) hb2).trans d1
      have e2 := (hbw1.cell (p := ⟨b2, o2 + k * 3 + 2, none⟩) hb2).trans d2
      obtain ⟨p0, p1, p2, p3⟩ := sec_cells hr12
      obtain ⟨q0, q1, q2, q3⟩ := sec_cells hr2
      have HE1 := hid0 ((hea.later hbw1).later hbw2)
      have HE2 := hid0 ((heb.later hbw1).later hbw2)
      have HB2 := hid0 (Below.later (Below.later HB.out hbw1) hbw2)
      have r0 : (lo.toList == lo.toList) = true := by simp
      have r1 : (pa.toList == pa.toList) = true := by simp
      have hf1 := hw1.symm
      have hf2 := hw2.symm
      clear hw1 hw2 hbw1 hbw2 hr1 hr2 hr12 hea heb hb1 hb2
      go_wp2
      clear c0 c1 c2 d0 d1 d2 e0 e1 e2 x0 x1 y0 y1 hf1 hf2
      go_loopw [8] (fun i wi => ∃ j q : Nat, j ≤ ed.length ∧ i = .int .i64 (j : Int) ∧ wi = w2.drewN q) (fun i _ => ed.length - (intOf i).toNat)
      case atStart => exact ⟨0, 0, Nat.zero_le _, rfl, rfl⟩
      case round =>
        obtain ⟨j, q, hj, rfl, rfl⟩ := hrel
        by_cases hjl : j < ed.length
        · obtain ⟨g1, f1, rfl, _, u0, u1⟩ := HE1.out.at' j hjl
          obtain ⟨g2, f2, rfl, _, v0, v1⟩ := HE2.out.at' j hjl
          have hjI : (j : Int) < (ed.length : Int) := by omega
          have hjI0 : (0 : Int) ≤ (j : Int) := by omega
          generalize ed[j] = u at *
          go_wp2
          go_quiet ((fail))
          go_wp2
          go_roundw
          case rel => exact ⟨j + 1, _, hjl, by go_num, rfl⟩
          case measure => simp [intOf]; omega
        · have hjI : ¬ (j : Int) < (ed.length : Int) := by omega
          have HBN := hid0 (below_drew6 HB2.out q)
          go_wp2
          go_roundw
          case rel => exact ⟨k + 1, by omega, by go_num, HBN⟩
          case measure => simp [intOf]; omega
    · have hkI : ¬ (k : Int) < (L.length : Int) := by omega
      have HBN := hid0 (Below.later HB0.out HB.out)
      go_wp2
      go_ret
      exact ⟨rfl, HBN.out⟩
end Go.Proofs.YtpkfcadihgbleaaGreatDoor
namespace Go.Proofs.YtpkfcadihgbleaaGreatDoor
open Go.RowKit Go.Shelf Go.Lib
theorem own_cap {w : World} {lo t s g n m cap : Nat} {xs : List Value} (h : w.ownsRow lo t s (.slice (some ⟨g, 0, none⟩) m cap) n xs) : n ≤ cap := by
  rcases h.2 with ⟨hv, _⟩ | ⟨g', cap', cur, hv, _, _, hc, _⟩
  · cases hv
  · injection hv with _ _ e
    rw [e]
    exact hc
set_option maxRecDepth 10000 in
set_option maxHeartbeats 3200000 in
theorem kept6_any (L : List Sec) (S : List SecAt) (a : Option Addr) (c g cap lo : Nat) (w : World) (hl : L.length ≤ 1000000) (hb : ∀ s ∈ L, s.ed.length ≤ 1000000000) (hcap : L.length + 1 ≤ cap) (hS : S.map (·.s) = L) (hG : Giv w lo (.slice (some ⟨g, 0, none⟩) (L.length + 1) cap) S 1) (ha : XA w a L) :
    Calls Tryz.prog 11 #[.agg #[.slice (some ⟨g, 0, none⟩) L.length cap], .agg #[.slice a L.length c]] w fun e w' => e = .returned (.bool true) ∧ Below w.heap.size w w' := by
  obtain ⟨w0, hw0⟩ : ∃ w0, w0 = (w.alloc (.cells #[.slice (some ⟨g, 0, none⟩) L.length cap] 24)).alloc (.cells #[.slice a L.length c] 24) := ⟨_, rfl⟩
  have hs0 : w0.heap.size = w.heap.size + 2 := by rw [hw0]; simp
  have hB0 : Below w.heap.size w w0 := by rw [hw0]; exact ((Below.refl _ _).alloc (Nat.le_refl _) _).alloc (by simp) _
  have hX0 : w0.heap[w.heap.size]? = some (.cells #[.slice (some ⟨g, 0, none⟩) L.length cap] 24 (0, 0)) := by
    rw [hw0]
    exact (Below.heap_alloc _ _ _ (by simp)).trans (heap_alloc_new w _)
  have hX1 : w0.heap[w.heap.size + 1]? = some (.cells #[.slice a L.length c] 24 (0, 0)) := by
    rw [hw0]
    have h := heap_alloc_new (w.alloc (.cells #[.slice (some ⟨g, 0, none⟩) L.length cap] 24)) (.cells #[.slice a L.length c] 24)
    rw [show (w.alloc (.cells #[.slice (some ⟨g, 0, none⟩) L.length cap] 24)).heap.size = w.heap.size + 1 by simp] at h
    exact h
  have hSl : S.length = L.length := by have h := congrArg List.length hS; rw [List.length_map] at h; exact h
  have hG0 : Giv w0 lo (.slice (some ⟨g, 0, none⟩) (L.length + 1) cap) S 1 := hG.keep (fun q _ hq => hB0.block q hq)
  have HX : Hid (∀ W, Below w0.heap.size w0 W → W.cell? ⟨w.heap.size, 0, none⟩ = some (.slice (some ⟨g, 0, none⟩) L.length cap) ∧ W.cell? ⟨w.heap.size + 1, 0, none⟩ = some (.slice a L.length c)) := hid0 (fun W hW => by
    have hr := (hW.block w.heap.size (by omega)).trans hX0
    have hq := (hW.block (w.heap.size + 1) (by omega)).trans hX1
    exact ⟨by rw [cell_of_row _ _ _ _ _ _ hr]; rfl, by rw [cell_of_row _ _ _ _ _ _ hq]; rfl⟩)
  have HXA : Hid (∀ W, Below w0.heap.size w0 W → XA W a L) := hid0 (fun W hW => (ha.later hB0).later hW)
  have HGW : Hid (∀ W, Below w0.heap.size w0 W → Giv W lo (.slice (some ⟨g, 0, none⟩) (L.length + 1) cap) S 1) := hid0 (fun W hW => hG0.keep (fun q _ hq => hW.block q hq))
  have HSB : Hid (Calls Tryz.prog 15 #[.agg #[.slice (some ⟨g, 0, none⟩) L.length cap], .agg #[.slice a L.length c]] w0 fun e w' => e = .returned (.bool true) ∧ Below w0.heap.size w0 w') := hid0 (by
    have hxa := hG0.xa (by omega)
    rw [hS] at hxa
    exact sameBundle_any L (some ⟨g, 0, none⟩) a cap c w0 hl hb hxa (ha.later hB0))
  have HMk : Hid (∀ W, Below w0.heap.size w0 W → W.cell? ⟨g, L.length * 3, none⟩ = some (.string ⟨#[98, 101, 104, 105, 110, 100]⟩)) := hid0 (fun W hW => by
    have hrow := (hG0.keep (w' := W) (fun q _ hq => hW.block q hq)).row
    rw [hSl] at hrow
    have hlX := cellsX_length S
    rw [World.ownsRow.cellAt hrow _ (by omega), List.getElem?_append_right (by omega), hlX, hSl, Nat.sub_self]
    rfl)
  have HS := hid0 hS
  have HSl := hid0 hSl
  have HBD := hid0 hb
  have HB0 := hid0 hB0
  obtain ⟨x0, x1⟩ := HX.out w0 (Below.refl _ _)
  have n0 : (0 : Int) ≤ (L.length : Int) := by omega
  have n1 : (0 : Int) ≤ (L.length : Int) + 1 := by omega
  have n2 : (L.length : Int) + 1 ≤ (cap : Int) := by omega
  have n3 : IntKind.i64.wrap ((L.length : Int) + 1) = (L.length : Int) + 1 := by simp [IntKind.wrap, IntKind.bits, IntKind.signed]; omega
  have n4 : (L.length : Int) < (L.length : Int) + 1 := by omega
  have hfold := hw0.symm
  clear hw0 hs0 hB0 hX0 hX1 hSl hG0 hG ha hS hb
  go_enter Tryz.func11, Tryz.ntmps11
  go_wp2_with (go_at_call 15; refine HSB.out.mono ?_; rintro e w1 ⟨rfl, hb1⟩; obtain ⟨y0, y1⟩ := HX.out w1 hb1; have m0 := HMk.out w1 hb1; have HB1 := hid0 hb1; clear hb1 x0 x1 hfold)
  clear y0 y1 m0
  go_loopw [6] (fun i wr => ∃ k : Nat, k ≤ L.length ∧ i = .int .i64 (k : Int) ∧ Hid (Below w0.heap.size w0 wr)) (fun i _ => L.length - (intOf i).toNat)
  case atStart => exact ⟨0, Nat.zero_le _, rfl, HB1⟩
  case round =>
    clear HB1
    obtain ⟨k, hk, rfl, HB⟩ := hrel
    obtain ⟨x0, x1⟩ := HX.out wr HB.out
    by_cases hlt : k < L.length
    · obtain ⟨b, off, ae, ce, rfl, hbl, c0, c1, c2, hea⟩ := (HXA.out wr HB.out).at' k hlt
      have hGk := HGW.out wr HB.out
      have hkS : k < S.length := by have := HSl.out; omega
      obtain ⟨s0, s1, s2⟩ := cellsX_at S k hkS
      have hlX := cellsX_length S
      have hLs := HSl.out
      have hrow := hGk.row
      rw [hLs] at hrow
      have g2 : wr.cell? ⟨g, k * 3 + 2, none⟩ = some (.slice (some ⟨S[k].blk, 0, none⟩) S[k].s.ed.length S[k].cap) := by rw [World.ownsRow.cellAt hrow _ (by omega), List.getElem?_append_left (by omega)]; exact s2
      have hLk : L[k] = S[k].s := by have h := HS.out; subst h; simp
      have hEd := hGk.ed S[k] (List.getElem_mem hkS)
      have hEa := hGk.ea S[k] (List.getElem_mem hkS)
      have hcE := own_cap hEd
      have hed := HBD.out L[k] (List.getElem_mem hlt)
      rw [hLk] at c2 hed
      generalize S[k].blk = e at *
      generalize S[k].cap = cE at *
      generalize S[k].s = sc at *
      obtain ⟨lo', pa, ed⟩ := sc
      simp only at c2 g2 hed hEd hEa hcE
      have m1 : wr.cell? ⟨e, ed.length * 2 + 1, none⟩ = some (.string ⟨#[98, 101, 104, 105, 110, 100]⟩) := by
        obtain ⟨b', o', e', _, _, h3⟩ := hEa.at' ed.length (by simp [marksE])
        cases e'
        rw [List.getElem_append_right (Nat.le_refl _)] at h3
        simp only [marksE, List.getElem_replicate, Nat.zero_add, markB] at h3
        exact h3
      have hkI : (k : Int) < (L.length : Int) := by omega
      have hkI0 : (0 : Int) ≤ (k : Int) := by omega
      have q0 : (0 : Int) ≤ (ed.length : Int) := by omega
      have q1 : (ed.length : Int) + 1 ≤ (cE : Int) := by omega
      have q2 : IntKind.i64.wrap ((ed.length : Int) + 1) = (ed.length : Int) + 1 := by simp [IntKind.wrap, IntKind.bits, IntKind.signed]; omega
      have q3 : (0 : Int) ≤ (ed.length : Int) + 1 := by omega
      have q4 : (ed.length : Int) < (ed.length : Int) + 1 := by omega
      clear hLk hGk hrow s0 s1 s2 hEd hea hEa hlX hkS hLs c0 c1 hbl hcE
      go_wp2
      go_roundw
      case rel => exact ⟨k + 1, by omega, by go_num, HB⟩
      case measure => simp [intOf]; omega
    · have hkI : ¬ (k : Int) < (L.length : Int) := by omega
      have HBN := hid0 (Below.later HB0.out HB.out)
      go_wp2
      go_ret
      exact ⟨rfl, HBN.out⟩
end Go.Proofs.YtpkfcadihgbleaaGreatDoor
namespace Go.Proofs.YtpkfcadihgbleaaGreatDoor
open Go.RowKit Go.Shelf Go.Lib
def flE (e : Bool × ByteArray) : Bool × ByteArray := (!e.1, e.2 ++ ⟨#[122]⟩)
def flp (s : Sec) : Sec := ⟨s.loc, s.par, s.ed.map flE⟩
def edA (x : SecAt) (l : List (Bool × ByteArray)) : SecAt := ⟨⟨x.s.loc, x.s.par, l⟩, x.blk, x.cap⟩
theorem cellsE_set (l : List (Bool × ByteArray)) : ∀ (j : Nat) (_ : j < l.length) (b : Bool) (t : ByteArray), ((cellsE l).set (j * 2) (.bool b)).set (j * 2 + 1) (.string t) = cellsE (l.set j (b, t)) := by
  induction l with
  | nil => intro j h; simp at h
  | cons u l ih =>
    intro j h b t
    have e : cellsE (u :: l) = .bool u.1 :: .string u.2 :: cellsE l := rfl
    cases j with
    | zero => rw [e]; rfl
    | succ j =>
      have h2 := ih j (by simpa using h) b t
      rw [e, show (j + 1) * 2 = (j * 2) + 1 + 1 by omega, show j * 2 + 1 + 1 + 1 = (j * 2 + 1) + 1 + 1 by omega]
      simp only [List.set_cons_succ]
      rw [h2]
      rfl
theorem pw_set {S : List SecAt} (h : S.Pairwise fun x y => x.blk ≠ y.blk) (k : Nat) (hk : k < S.length) (y : SecAt) (hy : y.blk = S[k].blk) : (S.set k y).Pairwise fun x y => x.blk ≠ y.blk := by
  rw [← List.pairwise_map (f := SecAt.blk) (R := fun x y => x ≠ y)] at h ⊢
  have e : (S.set k y).map SecAt.blk = S.map SecAt.blk := by
    rw [List.map_set, hy]
    exact List.ext_getElem (by simp) (fun i h1 h2 => by rw [List.getElem_set]; split <;> simp_all)
  rw [e]
  exact h
theorem cellsX_ed (S : List SecAt) : ∀ (k : Nat) (h : k < S.length) (l : List (Bool × ByteArray)), l.length = S[k].s.ed.length → cellsX (S.set k (edA S[k] l)) = cellsX S := by
  induction S with
  | nil => intro k h; simp at h
  | cons u r ih =>
    intro k h l hl
    have e : ∀ (v : SecAt) q, cellsX (v :: q) = .string v.s.loc :: .string v.s.par :: .slice (some ⟨v.blk, 0, none⟩) v.s.ed.length v.cap :: cellsX q := fun _ _ => rfl
    cases k with
    | zero =>
      simp only [List.set_cons_zero, List.getElem_cons_zero] at hl ⊢
      rw [e, e]
      simp only [edA, hl]
    | succ k =>
      have h2 := ih k (by simpa using h) l (by simpa using hl)
      simp only [List.set_cons_succ, List.getElem_cons_succ]
      rw [e, e, h2]
theorem blk_set {S : List SecAt} (k : Nat) (hk : k < S.length) (y : SecAt) (hy : y.blk = S[k].blk) : (S.set k y).map SecAt.blk = S.map SecAt.blk := by
  rw [List.map_set, hy]
  exact List.ext_getElem (by simp) (fun i h1 h2 => by rw [List.getElem_set]; split <;> simp_all)
theorem blk_of {S T : List SecAt} (h : S.map SecAt.blk = T.map SecAt.blk) (k : Nat) (hk : k < S.length) (hk2 : k < T.length) : S[k].blk = T[k].blk := by
  have h1 : (S.map SecAt.blk)[k]? = (T.map SecAt.blk)[k]? := by rw [h]
  simpa [hk, hk2] using h1
theorem Giv.secCell {w : World} {lo g n cap m : Nat} {S : List SecAt} (h : Giv w lo (.slice (some ⟨g, 0, none⟩) n cap) S m) (hn : n = S.length + m) (k : Nat) (hk : k < S.length) : w.cell? ⟨g, k * 3 + 2, none⟩ = some (.slice (some ⟨S[k].blk, 0, none⟩) S[k].s.ed.length S[k].cap) := by
  subst hn
  have hl := cellsX_length S
  rw [World.ownsRow.cellAt h.row _ (by omega), List.getElem?_append_left (by omega)]
  exact (cellsX_at S k hk).2.2
theorem Giv.edCell {w : World} {lo : Nat} {v : Value} {S : List SecAt} {m : Nat} (h : Giv w lo v S m) (k : Nat) (hk : k < S.length) (j : Nat) (hj : j < S[k].s.ed.length) : w.cell? ⟨S[k].blk, j * 2, none⟩ = some (.bool S[k].s.ed[j].1) ∧ w.cell? ⟨S[k].blk, j * 2 + 1, none⟩ = some (.string S[k].s.ed[j].2) ∧ w.frozen? ⟨S[k].blk, j * 2, none⟩ = false ∧ w.frozen? ⟨S[k].blk, j * 2 + 1, none⟩ = false := by
  have h0 := h.ed S[k] (List.getElem_mem hk)
  have hl : (S[k].s.ed ++ marksE 1).length = S[k].s.ed.length + 1 := by rw [List.length_append, marksE, List.length_replicate]
  have c := cellsE_at (S[k].s.ed ++ marksE 1) j (by omega)
  rw [List.getElem_append_left hj] at c
  exact ⟨by rw [World.ownsRow.cellAt h0 _ (by omega)]; exact c.1, by rw [World.ownsRow.cellAt h0 _ (by omega)]; exact c.2, World.ownsRow.frozenAt h0 _, World.ownsRow.frozenAt h0 _⟩
theorem Giv.edSet {w : World} {lo : Nat} {v : Value} {S : List SecAt} {m : Nat} (h : Giv w lo v S m) (k : Nat) (hk : k < S.length) (j : Nat) (hj : j < S[k].s.ed.length) (b : Bool) (t : ByteArray) : Giv ((w.setCell ⟨S[k].blk, j * 2, none⟩ (.bool b)).setCell ⟨S[k].blk, j * 2 + 1, none⟩ (.string t)) lo v (S.set k (edA S[k] (S[k].s.ed.set j (b, t)))) m := by
  have h0 := h.ed S[k] (List.getElem_mem hk)
  have hne := h.ne S[k] (List.getElem_mem hk)
  have hlen : (S[k].s.ed ++ marksE 1).length = S[k].s.ed.length + 1 := by rw [List.length_append, marksE, List.length_replicate]
  have hsame : ∀ q, q ≠ S[k].blk → ((w.setCell ⟨S[k].blk, j * 2, none⟩ (.bool b)).setCell ⟨S[k].blk, j * 2 + 1, none⟩ (.string t)).heap[q]? = w.heap[q]? := fun q hq => (Below.heap_setCell _ _ _ q hq).trans (Below.heap_setCell w _ _ q hq)
  refine ⟨?_, fun x hx => ?_, fun x hx => ?_, pw_set h.pw k hk _ rfl⟩
  · rw [List.length_set, cellsX_ed S k hk _ (by rw [List.length_set])]
    exact own_blk h.row (fun q hq => hsame q (fun e => hne (by rw [← e]; exact hq)))
  · obtain ⟨i, hi, rfl⟩ := List.getElem_of_mem hx
    rw [List.length_set] at hi
    rw [List.getElem_set]
    split
    · have h1 := (World.ownsRow.stored (World.ownsRow.stored h0 (j * 2) (.bool b)).1 (j * 2 + 1) (.string t)).1
      rw [cellsE_set _ j (by omega), List.set_append_left _ _ hj] at h1
      simp only [edA, List.length_set]
      exact h1
    · rename_i hik
      refine own_blk (h.ed S[i] (List.getElem_mem hi)) (fun q hq => ?_)
      cases hq
      refine hsame S[i].blk (fun e => ?_)
      have hp := List.pairwise_iff_getElem.1 h.pw
      rcases Nat.lt_or_gt_of_ne hik with h3 | h3
      · exact hp k i hk hi h3 e.symm
      · exact hp i k hi hk h3 e
  · rcases List.mem_or_eq_of_mem_set hx with h2 | h2
    · exact h.ne x h2
    · rw [h2]; exact hne
/-- The first j of a list turned round. -/
def flN (l : List (Bool × ByteArray)) (j : Nat) : List (Bool × ByteArray) := (l.take j).map flE ++ l.drop j
theorem flN_length (l : List (Bool × ByteArray)) (j : Nat) : (flN l j).length = l.length := by simp [flN]; omega
theorem flN_at (l : List (Bool × ByteArray)) (j : Nat) (h : j < l.length) : (flN l j)[j]'(by rw [flN_length]; exact h) = l[j] := by
  unfold flN
  rw [List.getElem_append_right (by simp; omega)]
  simp only [List.getElem_drop, List.length_map, List.length_take]
  congr 1
  omega
theorem flN_step (l : List (Bool × ByteArray)) (j : Nat) (h : j < l.length) : (flN l j).set j (flE l[j]) = flN l (j + 1) := by
  unfold flN
  rw [List.set_append_right _ _ (by simp; omega)]
  simp only [List.length_map, List.length_take]
  rw [show j - min j l.length = 0 by omega, List.drop_eq_getElem_cons h, List.set_cons_zero, List.take_succ_eq_append_getElem h, List.map_append, List.append_assoc]
  rfl
/-- The first k sections turned round, of the next one j edits. -/
def flS (L : List Sec) (k j : Nat) : List Sec := (L.take k).map flp ++ (match L[k]? with
  | some s => [(⟨s.loc, s.par, flN s.ed j⟩ : Sec)]
  | none => []) ++ L.drop (k + 1)
theorem flS_zero (L : List Sec) (k : Nat) : flS L k 0 = (L.take k).map flp ++ L.drop k := by
  unfold flS
  by_cases h : k < L.length
  · rw [List.getElem?_eq_getElem h, List.drop_eq_getElem_cons h, List.append_assoc]
    rfl
  · rw [List.getElem?_eq_none (by omega), List.drop_eq_nil_of_le (by omega), List.drop_eq_nil_of_le (by omega)]
    simp
theorem flS_length (L : List Sec) (k j : Nat) (h : k < L.length) : (flS L k j).length = L.length := by
  unfold flS
  rw [List.getElem?_eq_getElem h]
  simp
  omega
theorem flS_at (L : List Sec) (k j : Nat) (h : k < L.length) : (flS L k j)[k]? = some ⟨L[k].loc, L[k].par, flN L[k].ed j⟩ := by
  unfold flS
  rw [List.getElem?_eq_getElem h, List.append_assoc, List.getElem?_append_right (by simp; omega)]
  simp only [List.length_map, List.length_take]
  rw [show k - min k L.length = 0 by omega]
  rfl
theorem flS_set (L : List Sec) (k j : Nat) (h : k < L.length) (i : Nat) : (flS L k j).set k ⟨L[k].loc, L[k].par, flN L[k].ed i⟩ = flS L k i := by
  unfold flS
  rw [List.getElem?_eq_getElem h, List.append_assoc, List.set_append_right _ _ (by simp; omega)]
  simp only [List.length_map, List.length_take]
  rw [show k - min k L.length = 0 by omega, List.append_assoc]
  rfl
theorem flS_full (L : List Sec) (k : Nat) (h : k < L.length) : flS L k L[k].ed.length = flS L (k + 1) 0 := by
  rw [flS_zero]
  unfold flS
  rw [List.getElem?_eq_getElem h, List.take_succ_eq_append_getElem h, List.map_append]
  have e : flN L[k].ed L[k].ed.length = L[k].ed.map flE := by unfold flN; rw [List.take_of_length_le (Nat.le_refl _), List.drop_eq_nil_of_le (Nat.le_refl _), List.append_nil]
  simp [e, flp]
theorem flS_ed {L : List Sec} {k j : Nat} (h : k < L.length) {S : List SecAt} (hS : S.map (·.s) = flS L k j) (hk : k < S.length) : S[k].s = ⟨L[k].loc, L[k].par, flN L[k].ed j⟩ := by
  have h2 := flS_at L k j h
  rw [← hS, List.getElem?_map, List.getElem?_eq_getElem hk] at h2
  simpa using h2
theorem flS_step {L : List Sec} {k j : Nat} (h : k < L.length) (hj : j < L[k].ed.length) {S : List SecAt} (hS : S.map (·.s) = flS L k j) (hk : k < S.length) (hj2 : j < S[k].s.ed.length) : (S.set k (edA S[k] (S[k].s.ed.set j (!S[k].s.ed[j].1, S[k].s.ed[j].2 ++ ⟨#[122]⟩)))).map (·.s) = flS L k (j + 1) := by
  have e := flS_ed h hS hk
  have e2 : S[k].s.ed = flN L[k].ed j := by rw [e]
  have e3 : S[k].s.ed[j] = L[k].ed[j] := by
    have := flN_at L[k].ed j hj
    rw [← this]
    congr 1
  have e4 : S[k].s.ed.set j (!S[k].s.ed[j].1, S[k].s.ed[j].2 ++ ⟨#[122]⟩) = flN L[k].ed (j + 1) := by
    rw [e3, e2]
    exact flN_step L[k].ed j hj
  rw [List.map_set, hS, e4]
  have e5 : (edA S[k] (flN L[k].ed (j + 1))).s = ⟨L[k].loc, L[k].par, flN L[k].ed (j + 1)⟩ := by simp only [edA]; rw [e]
  rw [e5]
  exact flS_set L k j h (j + 1)
def clr (s : Sec) : Sec := ⟨s.loc, ⟨#[100, 101]⟩, s.ed⟩
def clrA (x : SecAt) : SecAt := ⟨clr x.s, x.blk, x.cap⟩
theorem cellsX_set (S : List SecAt) : ∀ (k : Nat) (h : k < S.length), (cellsX S).set (k * 3 + 1) (.string ⟨#[100, 101]⟩) = cellsX (S.set k (clrA S[k])) := by
  induction S with
  | nil => intro k h; simp at h
  | cons u l ih =>
    intro k h
    have e : cellsX (u :: l) = .string u.s.loc :: .string u.s.par :: .slice (some ⟨u.blk, 0, none⟩) u.s.ed.length u.cap :: cellsX l := rfl
    cases k with
    | zero => rw [e]; rfl
    | succ k =>
      have h2 := ih k (by simpa using h)
      rw [e, show (k + 1) * 3 + 1 = (k * 3 + 1) + 1 + 1 + 1 by omega]
      simp only [List.set_cons_succ, List.getElem_cons_succ]
      rw [h2]
      rfl
theorem Giv.par {w : World} {lo g n cap m : Nat} {S : List SecAt} (h : Giv w lo (.slice (some ⟨g, 0, none⟩) n cap) S m) (hn : n = S.length + m) (k : Nat) (hk : k < S.length) : Giv (w.setCell ⟨g, k * 3 + 1, none⟩ (.string ⟨#[100, 101]⟩)) lo (.slice (some ⟨g, 0, none⟩) n cap) (S.set k (clrA S[k])) m := by
  subst hn
  have hl := cellsX_length S
  have h1 := (World.ownsRow.stored h.row (k * 3 + 1) (.string ⟨#[100, 101]⟩)).1
  rw [List.set_append_left _ _ (by omega), cellsX_set S k hk] at h1
  have key : ∀ x ∈ S.set k (clrA S[k]), ∃ y ∈ S, x.blk = y.blk ∧ x.cap = y.cap ∧ x.s.ed = y.s.ed := fun x hx => by
    rcases List.mem_or_eq_of_mem_set hx with h2 | h2
    · exact ⟨x, h2, rfl, rfl, rfl⟩
    · exact ⟨S[k], List.getElem_mem hk, by rw [h2]; rfl, by rw [h2]; rfl, by rw [h2]; rfl⟩
  refine ⟨by rw [List.length_set]; exact h1, fun x hx => ?_, fun x hx => ?_, pw_set h.pw k hk _ rfl⟩
  · obtain ⟨y, hy, e1, e2, e3⟩ := key x hx
    rw [e1, e2, e3]
    exact own_blk (h.ed y hy) (fun q hq => by cases hq; exact Below.heap_setCell w _ _ y.blk (fun e => h.ne y hy (by rw [e]; rfl)))
  · obtain ⟨y, hy, e1, _, _⟩ := key x hx
    rw [e1]
    exact h.ne y hy
theorem Giv.parCell {w : World} {lo g n cap m : Nat} {S : List SecAt} (h : Giv w lo (.slice (some ⟨g, 0, none⟩) n cap) S m) (hn : n = S.length + m) (k : Nat) (hk : k < S.length) : w.cell? ⟨g, k * 3 + 1, none⟩ = some (.string S[k].s.par) ∧ w.frozen? ⟨g, k * 3 + 1, none⟩ = false := by
  subst hn
  have hl := cellsX_length S
  exact ⟨by rw [World.ownsRow.cellAt h.row _ (by omega), List.getElem?_append_left (by omega)]; exact (cellsX_at S k hk).2.1, World.ownsRow.frozenAt h.row _⟩
theorem clr_step (L : List Sec) (k : Nat) (h : k < L.length) (S : List SecAt) (hS : S.map (·.s) = (L.take k).map clr ++ L.drop k) (hk : k < S.length) : (S.set k (clrA S[k])).map (·.s) = (L.take (k + 1)).map clr ++ L.drop (k + 1) := by
  have e1 : S[k].s = L[k] := by
    have h1 : (S.map (·.s))[k]'(by simpa using hk) = S[k].s := by simp
    have h2 : (S.map (·.s))[k]? = some L[k] := by
      rw [hS, List.getElem?_append_right (by simp; omega)]
      simp only [List.length_map, List.length_take]
      rw [show k - min k L.length = 0 by omega, List.getElem?_drop]
      simp [h]
    rw [List.getElem?_eq_getElem (by simpa using hk), Option.some.injEq] at h2
    rw [← h1, h2]
  rw [List.map_set, hS, show (clrA S[k]).s = clr L[k] by rw [← e1]; rfl, List.set_append_right _ _ (by simp; omega)]
  simp only [List.length_map, List.length_take]
  rw [show k - min k L.length = 0 by omega, List.drop_eq_getElem_cons h, List.set_cons_zero, List.take_succ_eq_append_getElem h, List.map_append, List.append_assoc]
  rfl
end Go.Proofs.YtpkfcadihgbleaaGreatDoor
namespace Go.Proofs.YtpkfcadihgbleaaGreatDoor
open Go.RowKit Go.Shelf Go.Lib
def hexD (n : Nat) : UInt8 := [48, 49, 50, 51, 52, 53, 54, 55, 56, 57, 97, 98, 99, 100, 101, 102].getD n 0
def hexL (n : Nat) : List UInt8 := if n < 16 then [hexD n] else [hexD (n / 16), hexD (n % 16)]
/-- A unit of an entry, as it is written. -/
def wrU (l : List UInt8) (u : Int × Nat × Nat) : List UInt8 :=
  if u.1 = 92 then [92, 92] else if u.1 = 35 then [92, 35] else if u.1 = 32 ∧ (u.2.1 = 0 ∨ u.2.2 = l.length) then [92, 115]
  else if u.1 < 32 ∨ u.1 = 127 then [92, 117, 123] ++ hexL u.1.toNat ++ [125] else (l.drop u.2.1).take (u.2.2 - u.2.1)
def wrE (l : List UInt8) : List UInt8 := (unitsOf l).flatMap (wrU l)
def wrX (e : Bool × ByteArray) : List UInt8 := (if e.1 = true then [43, 32] else [45, 32]) ++ wrE e.2.data.toList ++ [10]
def secB (s : Sec) : List UInt8 := [91] ++ s.loc.data.toList ++ [93, 10] ++ (if s.par.data.toList = [] then [] else [112, 97, 114, 101, 110, 116, 32] ++ s.par.data.toList ++ [10]) ++ s.ed.flatMap wrX
def prB (L : List Sec) : List UInt8 := L.flatMap secB
theorem hexL_len (n : Nat) : (hexL n).length ≤ 2 := by unfold hexL; split <;> simp
/-- Where the units of a text lie: one behind the other, up to its end. -/
theorem units_spans (l : List UInt8) : ∀ (d k : Nat), l.length - k ≤ d → k ≤ l.length → ∀ u ∈ unitsAt l k, k ≤ u.2.1 ∧ u.2.1 < u.2.2 ∧ u.2.2 ≤ u.2.1 + 4 ∧ u.2.2 ≤ l.length
  | 0, k, h, hk, u, hu => by rw [unitsAt_end l k (by omega)] at hu; cases hu
  | d + 1, k, h, hk, u, hu => by
    by_cases hlt : k < l.length
    · have h1 := drop_size l k hlt
      have h4 : (uniOf (l.drop k)).2 ≤ 4 := by
        rw [List.drop_eq_getElem_cons hlt]
        exact (uni_size _ _).2.2
      rw [unitsAt_step l k hlt] at hu
      rcases List.mem_cons.1 hu with rfl | hu
      · simp only
        omega
      · have := units_spans l d (k + (uniOf (l.drop k)).2) (by omega) (by omega) u hu
        omega
    · rw [unitsAt_end l k (by omega)] at hu; cases hu
theorem units_first (l : List UInt8) : ∀ (d k : Nat), l.length - k ≤ d → k ≤ l.length → ∀ (i : Nat) (h : i < (unitsAt l k).length), (((unitsAt l k)[i]).2.1 = k ↔ i = 0) ∧ (((unitsAt l k)[i]).2.2 = l.length ↔ i + 1 = (unitsAt l k).length)
  | 0, k, h, hk, i, hi => by simp only [unitsAt_end l k (by omega)] at hi; simp at hi
  | d + 1, k, h, hk, i, hi => by
    by_cases hlt : k < l.length
    · have h1 := drop_size l k hlt
      have e := unitsAt_step l k hlt
      have hsp := units_spans l l.length (k + (uniOf (l.drop k)).2) (by omega) (by omega)
      simp only [e, List.length_cons] at hi ⊢
      cases i with
      | zero =>
        simp only [List.getElem_cons_zero]
        refine ⟨by simp, ?_⟩
        constructor
        · intro h2
          rw [unitsAt_end l _ (by omega)]
          simp
        · intro h2
          by_cases h3 : k + (uniOf (l.drop k)).2 < l.length
          · rw [unitsAt_step l _ h3] at h2
            simp at h2
          · omega
      | succ i =>
        have hi2 : i < (unitsAt l (k + (uniOf (l.drop k)).2)).length := by omega
        have ih := units_first l d (k + (uniOf (l.drop k)).2) (by omega) (by omega) i hi2
        have hm := hsp _ (List.getElem_mem hi2)
        simp only [List.getElem_cons_succ]
        refine ⟨⟨fun h2 => by omega, fun h2 => by omega⟩, ?_⟩
        rw [ih.2]
        omega
    · simp only [unitsAt_end l k (by omega)] at hi; simp at hi
theorem units_at (l : List UInt8) (i : Nat) (h : i < (unitsOf l).length) : ((unitsOf l)[i].2.1 = 0 ↔ i = 0) ∧ ((unitsOf l)[i].2.2 = l.length ↔ i + 1 = (unitsOf l).length) := units_first l l.length 0 (by omega) (Nat.zero_le _) i h
theorem units_in (l : List UInt8) (u : Int × Nat × Nat) (h : u ∈ unitsOf l) : u.2.1 < u.2.2 ∧ u.2.2 ≤ u.2.1 + 4 ∧ u.2.2 ≤ l.length := (units_spans l l.length 0 (by omega) (Nat.zero_le _) u h).2
theorem units_pt (l : List UInt8) : ∀ (d k : Nat), l.length - k ≤ d → ∀ u ∈ unitsAt l k, -1 ≤ u.1 ∧ u.1 ≤ 100000000
  | 0, k, h, u, hu => by rw [unitsAt_end l k (by omega)] at hu; cases hu
  | d + 1, k, h, u, hu => by
    by_cases hlt : k < l.length
    · have h1 := drop_size l k hlt
      rw [unitsAt_step l k hlt] at hu
      rcases List.mem_cons.1 hu with rfl | hu
      · simp only
        rw [List.drop_eq_getElem_cons hlt]
        exact uni_bound _ _
      · exact units_pt l d (k + (uniOf (l.drop k)).2) (by omega) u hu
    · rw [unitsAt_end l k (by omega)] at hu; cases hu
theorem wrU_len (l : List UInt8) (u : Int × Nat × Nat) (h : u.2.2 ≤ u.2.1 + 4) : (wrU l u).length ≤ 6 := by
  unfold wrU
  have := hexL_len u.1.toNat
  repeat' split
  all_goals simp
  all_goals omega
theorem flat_len {α : Type} (f : α → List UInt8) (c : Nat) : ∀ (l : List α), (∀ x ∈ l, (f x).length ≤ c) → (l.flatMap f).length ≤ l.length * c
  | [], _ => by simp
  | x :: l, h => by
    rw [List.flatMap_cons, List.length_append, List.length_cons, Nat.succ_mul]
    have h1 := h x (.head _)
    have h2 := flat_len f c l (fun y hy => h y (.tail _ hy))
    omega
/-- Entries that may be. -/
theorem ent_ok {l : List UInt8} (h : entF l = none) : (unitsOf l).length ≤ 32 ∧ ∀ u ∈ unitsOf l, 0 ≤ u.1 ∧ u.1 ≤ 100000000 := by
  unfold entF at h
  split at h
  · cases h
  · rename_i h1
    split at h
    · cases h
    · split at h
      · cases h
      · refine ⟨by omega, fun u hu => ?_⟩
        have h2 := units_pt l l.length 0 (by omega) u hu
        have h3 : u.1 ≠ -1 := fun e => h1 (List.any_eq_true.2 ⟨u, hu, by simp [e]⟩)
        omega
theorem wrE_len {l : List UInt8} (h : entF l = none) : (wrE l).length ≤ 192 := by
  have h1 := flat_len (wrU l) 6 (unitsOf l) (fun u hu => wrU_len l u (units_in l u hu).2.1)
  have h2 := (ent_ok h).1
  unfold wrE
  omega
theorem firstN_of (f : Nat → Option Nat) : ∀ (m i : Nat), firstN f i m = none → ∀ j, i ≤ j → j < i + m → f j = none
  | 0, _, _, _, _, _ => by omega
  | m + 1, i, h, j, h1, h2 => by
    rw [firstN] at h
    cases hi : f i with
    | some x => rw [hi] at h; cases h
    | none =>
      rw [hi] at h
      by_cases e : j = i
      · subst e; exact hi
      · exact firstN_of f m (i + 1) h j (by omega) (by omega)
/-- Sections that may be. -/
structure SecOk (s : Sec) : Prop where
  loc : isTagB s.loc = true
  par : (s.par.toList == []) = false → isTagB s.par = true
  ent : ∀ e ∈ s.ed, entF e.2.data.toList = none
theorem secE_ok {E : ByteArray → Option Nat} {s : Sec} {Ah : List Sec} (hE : ∀ x, E x = entF x.data.toList) (h : secE E s Ah = none) : SecOk s := by
  unfold secE at h
  split at h
  · cases h
  · rename_i h1
    split at h
    · cases h
    · split at h
      · cases h
      · rename_i h3
        split at h
        · cases h
        · refine ⟨by simpa using h1, fun h5 => ?_, fun e he => ?_⟩
          · cases hq : isTagB s.par with
            | true => rfl
            | false => exact absurd ⟨h5, hq⟩ h3
          · obtain ⟨k, hk, rfl⟩ := List.getElem_of_mem he
            have h6 := firstN_of _ _ _ h k (Nat.zero_le _) (by omega)
            rw [fE_at _ _ _ hk] at h6
            rw [← hE]
            exact h6
theorem tag_len {s : ByteArray} (h : isTagB s = true) : s.data.toList.length ≤ 64 := (tagF_le (of_decide_eq_true h)).2.2.1
theorem wrX_len {e : Bool × ByteArray} (h : entF e.2.data.toList = none) : (wrX e).length ≤ 195 := by
  have h1 := wrE_len h
  unfold wrX
  simp only [List.length_append, List.length_cons, List.length_nil]
  split <;> simp <;> omega
theorem par_nil (s : ByteArray) : (s.toList == []) = decide (s.data.toList = []) := by
  rw [ByteArray.toList_eq]
  cases s.data.toList <;> simp
theorem secB_len {s : Sec} (h : SecOk s) : (secB s).length ≤ 139 + s.ed.length * 195 := by
  have h1 := tag_len h.loc
  have h2 := flat_len wrX 195 s.ed (fun e he => wrX_len (h.ent e he))
  have h3 : s.par.data.toList ≠ [] → s.par.data.toList.length ≤ 64 := fun hp => tag_len (h.par (by rw [par_nil]; simpa using hp))
  have h4 : (if s.par.data.toList = [] then [] else [112, 97, 114, 101, 110, 116, 32] ++ s.par.data.toList ++ [10] : List UInt8).length ≤ 72 := by
    split
    · simp only [List.length_nil]; omega
    · rename_i hp
      have := h3 hp
      simp only [List.length_append, List.length_cons, List.length_nil]
      omega
  unfold secB
  simp only [List.length_append, List.length_cons, List.length_nil]
  omega
theorem prB_len : ∀ {L : List Sec}, (∀ s ∈ L, SecOk s) → (prB L).length ≤ L.length * 139 + nEd L * 195
  | [], _ => by simp [prB]
  | s :: L, h => by
    have h1 := secB_len (h s (.head _))
    have h2 := prB_len (fun x hx => h x (.tail _ hx) : ∀ x ∈ L, SecOk x)
    have e : prB (s :: L) = secB s ++ prB L := rfl
    have e2 : nEd (s :: L) = s.ed.length + nEd L := by unfold nEd; simp
    rw [e, e2, List.length_append, List.length_cons]
    omega
theorem nEd_append (L M : List Sec) : nEd (L ++ M) = nEd L + nEd M := by unfold nEd; rw [List.map_append, List.sum_append]
theorem nEd_take (L : List Sec) (k : Nat) : nEd (L.take k) ≤ nEd L := by
  have h := nEd_append (L.take k) (L.drop k)
  rw [List.take_append_drop] at h
  omega
theorem chk_ok {E : ByteArray → Option Nat} {L : List Sec} (hE : ∀ x, E x = entF x.data.toList) (h : chkE E L = none) : L.length ≤ 500 ∧ nEd L ≤ 20000 ∧ ∀ s ∈ L, SecOk s := by
  unfold chkE at h
  split at h
  · cases h
  · rename_i h1
    refine ⟨by omega, by omega, fun s hs => ?_⟩
    obtain ⟨k, hk, rfl⟩ := List.getElem_of_mem hs
    have h6 := firstN_of _ _ _ h k (Nat.zero_le _) (by omega)
    rw [fSec_at _ _ _ hk] at h6
    exact secE_ok hE h6
theorem prB_take {L : List Sec} (h1 : L.length ≤ 500) (h2 : nEd L ≤ 20000) (h : ∀ s ∈ L, SecOk s) (k : Nat) : (prB (L.take k)).length ≤ 4000000 := by
  have h3 := prB_len (L := L.take k) (fun s hs => h s (List.mem_of_mem_take hs))
  have h4 := nEd_take L k
  have h5 : (L.take k).length ≤ 500 := by rw [List.length_take]; omega
  omega
theorem prB_more (L : List Sec) (k : Nat) (h : k < L.length) : prB (L.take (k + 1)) = prB (L.take k) ++ secB L[k] := by
  unfold prB
  rw [List.take_succ_eq_append_getElem h, List.flatMap_append]
  simp only [List.flatMap_cons, List.flatMap_nil, List.append_nil]
theorem ed_le {L : List Sec} {s : Sec} (h : s ∈ L) : s.ed.length ≤ nEd L := by
  obtain ⟨k, hk, rfl⟩ := List.getElem_of_mem h
  have h1 := nEd_more L k hk
  have h2 := nEd_take L (k + 1)
  omega
end Go.Proofs.YtpkfcadihgbleaaGreatDoor
namespace Go.Proofs.YtpkfcadihgbleaaGreatDoor
open Go.RowKit Go.Shelf Go.Lib
theorem conv0 (w : World) (x : UInt8) (t : TypeId) :
    (convert 46 9 (.slice (some ⟨w.heap.size, 0, none⟩) 1 1)).run Tryz.prog (w.alloc (.cells #[.int .u8 (x.toNat : Int)] t)) = .ok (.string ⟨#[x]⟩) (w.alloc (.cells #[.int .u8 (x.toNat : Int)] t)) := by
  refine run_convert_bytes_back (P := Tryz.prog) _ 46 9 5 ⟨w.heap.size, 0, none⟩ 1 [x] Tryz.underlying46 Tryz.underlying5 Tryz.underlying9 (fun j hj => ?_)
  have hj2 : j = 0 := by simp at hj; omega
  rw [Addr.add_lit, cell_of_row _ _ _ _ _ _ (heap_alloc_new w _)]
  subst hj2
  rfl
/-- What Hex answers. -/
def HexR (n : Nat) (w : World) : Prop := Calls Tryz.prog 69 #[.int .i64 (n : Int)] w fun e w' => e = .returned (.string ⟨(hexL n).toArray⟩) ∧ Below w.heap.size w w'
set_option maxRecDepth 10000 in
set_option maxHeartbeats 800000 in
theorem hexR_0 (w : World) : HexR 0 w := by
  unfold HexR
  have HB1 := hid0 (fun o : Obj => (Below.refl w.heap.size w).alloc (Nat.le_refl _) o)
  have HB2 := hid0 (fun o p : Obj => ((Below.refl w.heap.size w).alloc (Nat.le_refl _) o).alloc (by simp) p)
  have k0 := conv0 w
  have k1 := fun o : Obj => conv0 (w.alloc o)
  simp only [World.size_alloc] at k1
  go_enter Tryz.func69, Tryz.ntmps69
  go_wp2
  first | (rw [k0]; go_wp2) | skip
  refine wp_loop_rounds 1 ?_
  rw [rounds_succ]
  go_wp2
  go_ret
  exact ⟨rfl, HB1.out _⟩
set_option maxRecDepth 10000 in
set_option maxHeartbeats 800000 in
theorem hexR_1 (w : World) : HexR 1 w := by
  unfold HexR
  have HB1 := hid0 (fun o : Obj => (Below.refl w.heap.size w).alloc (Nat.le_refl _) o)
  have HB2 := hid0 (fun o p : Obj => ((Below.refl w.heap.size w).alloc (Nat.le_refl _) o).alloc (by simp) p)
  have k0 := conv0 w
  have k1 := fun o : Obj => conv0 (w.alloc o)
  simp only [World.size_alloc] at k1
  go_enter Tryz.func69, Tryz.ntmps69
  go_wp2
  first | (rw [k0]; go_wp2) | skip
  refine wp_loop_rounds 1 ?_
  rw [rounds_succ]
  go_wp2
  go_ret
  exact ⟨rfl, HB1.out _⟩
set_option maxRecDepth 10000 in
set_option maxHeartbeats 800000 in
theorem hexR_2 (w : World) : HexR 2 w := by
  unfold HexR
  have HB1 := hid0 (fun o : Obj => (Below.refl w.heap.size w).alloc (Nat.le_refl _) o)
  have HB2 := hid0 (fun o p : Obj => ((Below.refl w.heap.size w).alloc (Nat.le_refl _) o).alloc (by simp) p)
  have k0 := conv0 w
  have k1 := fun o : Obj => conv0 (w.alloc o)
  simp only [World.size_alloc] at k1
  go_enter Tryz.func69, Tryz.ntmps69
  go_wp2
  first | (rw [k0]; go_wp2) | skip
  refine wp_loop_rounds 1 ?_
  rw [rounds_succ]
  go_wp2
  go_ret
  exact ⟨rfl, HB1.out _⟩
set_option maxRecDepth 10000 in
set_option maxHeartbeats 800000 in
theorem hexR_3 (w : World) : HexR 3 w := by
  unfold HexR
  have HB1 := hid0 (fun o : Obj => (Below.refl w.heap.size w).alloc (Nat.le_refl _) o)
  have HB2 := hid0 (fun o p : Obj => ((Below.refl w.heap.size w).alloc (Nat.le_refl _) o).alloc (by simp) p)
  have k0 := conv0 w
  have k1 := fun o : Obj => conv0 (w.alloc o)
  simp only [World.size_alloc] at k1
  go_enter Tryz.func69, Tryz.ntmps69
  go_wp2
  first | (rw [k0]; go_wp2) | skip
  refine wp_loop_rounds 1 ?_
  rw [rounds_succ]
  go_wp2
  go_ret
  exact ⟨rfl, HB1.out _⟩
set_option maxRecDepth 10000 in
set_option maxHeartbeats 800000 in
theorem hexR_4 (w : World) : HexR 4 w := by
  unfold HexR
  have HB1 := hid0 (fun o : Obj => (Below.refl w.heap.size w).alloc (Nat.le_refl _) o)
  have HB2 := hid0 (fun o p : Obj => ((Below.refl w.heap.size w).alloc (Nat.le_refl _) o).alloc (by simp) p)
  have k0 := conv0 w
  have k1 := fun o : Obj => conv0 (w.alloc o)
  simp only [World.size_alloc] at k1
  go_enter Tryz.func69, Tryz.ntmps69
  go_wp2
  first | (rw [k0]; go_wp2) | skip
  refine wp_loop_rounds 1 ?_
  rw [rounds_succ]
  go_wp2
  go_ret
  exact ⟨rfl, HB1.out _⟩
set_option maxRecDepth 10000 in
set_option maxHeartbeats 800000 in
theorem hexR_5 (w : World) : HexR 5 w := by
  unfold HexR
  have HB1 := hid0 (fun o : Obj => (Below.refl w.heap.size w).alloc (Nat.le_refl _) o)
  have HB2 := hid0 (fun o p : Obj => ((Below.refl w.heap.size w).alloc (Nat.le_refl _) o).alloc (by simp) p)
  have k0 := conv0 w
  have k1 := fun o : Obj => conv0 (w.alloc o)
  simp only [World.size_alloc] at k1
  go_enter Tryz.func69, Tryz.ntmps69
  go_wp2
  first | (rw [k0]; go_wp2) | skip
  refine wp_loop_rounds 1 ?_
  rw [rounds_succ]
  go_wp2
  go_ret
  exact ⟨rfl, HB1.out _⟩
set_option maxRecDepth 10000 in
set_option maxHeartbeats 800000 in
theorem hexR_6 (w : World) : HexR 6 w := by
  unfold HexR
  have HB1 := hid0 (fun o : Obj => (Below.refl w.heap.size w).alloc (Nat.le_refl _) o)
  have HB2 := hid0 (fun o p : Obj => ((Below.refl w.heap.size w).alloc (Nat.le_refl _) o).alloc (by simp) p)
  have k0 := conv0 w
  have k1 := fun o : Obj => conv0 (w.alloc o)
  simp only [World.size_alloc] at k1
  go_enter Tryz.func69, Tryz.ntmps69
  go_wp2
  first | (rw [k0]; go_wp2) | skip
  refine wp_loop_rounds 1 ?_
  rw [rounds_succ]
  go_wp2
  go_ret
  exact ⟨rfl, HB1.out _⟩
set_option maxRecDepth 10000 in
set_option maxHeartbeats 800000 in
theorem hexR_7 (w : World) : HexR 7 w := by
  unfold HexR
  have HB1 := hid0 (fun o : Obj => (Below.refl w.heap.size w).alloc (Nat.le_refl _) o)
  have HB2 := hid0 (fun o p : Obj => ((Below.refl w.heap.size w).alloc (Nat.le_refl _) o).alloc (by simp) p)
  have k0 := conv0 w
  have k1 := fun o : Obj => conv0 (w.alloc o)
  simp only [World.size_alloc] at k1
  go_enter Tryz.func69, Tryz.ntmps69
  go_wp2
  first | (rw [k0]; go_wp2) | skip
  refine wp_loop_rounds 1 ?_
  rw [rounds_succ]
  go_wp2
  go_ret
  exact ⟨rfl, HB1.out _⟩
set_option maxRecDepth 10000 in
set_option maxHeartbeats 800000 in
theorem hexR_8 (w : World) : HexR 8 w := by
  unfold HexR
  have HB1 := hid0 (fun o : Obj => (Below.refl w.heap.size w).alloc (Nat.le_refl _) o)
  have HB2 := hid0 (fun o p : Obj => ((Below.refl w.heap.size w).alloc (Nat.le_refl _) o).alloc (by simp) p)
  have k0 := conv0 w
  have k1 := fun o : Obj => conv0 (w.alloc o)
  simp only [World.size_alloc] at k1
  go_enter Tryz.func69, Tryz.ntmps69
  go_wp2
  first | (rw [k0]; go_wp2) | skip
  refine wp_loop_rounds 1 ?_
  rw [rounds_succ]
  go_wp2
  go_ret
  exact ⟨rfl, HB1.out _⟩
set_option maxRecDepth 10000 in
set_option maxHeartbeats 800000 in
theorem hexR_9 (w : World) : HexR 9 w := by
  unfold HexR
  have HB1 := hid0 (fun o : Obj => (Below.refl w.heap.size w).alloc (Nat.le_refl _) o)
  have HB2 := hid0 (fun o p : Obj => ((Below.refl w.heap.size w).alloc (Nat.le_refl _) o).alloc (by simp) p)
  have k0 := conv0 w
  have k1 := fun o : Obj => conv0 (w.alloc o)
  simp only [World.size_alloc] at k1
  go_enter Tryz.func69, Tryz.ntmps69
  go_wp2
  first | (rw [k0]; go_wp2) | skip
  refine wp_loop_rounds 1 ?_
  rw [rounds_succ]
  go_wp2
  go_ret
  exact ⟨rfl, HB1.out _⟩
set_option maxRecDepth 10000 in
set_option maxHeartbeats 800000 in
theorem hexR_10 (w : World) : HexR 10 w := by
  unfold HexR
  have HB1 := hid0 (fun o : Obj => (Below.refl w.heap.size w).alloc (Nat.le_refl _) o)
  have HB2 := hid0 (fun o p : Obj => ((Below.refl w.heap.size w).alloc (Nat.le_refl _) o).alloc (by simp) p)
  have k0 := conv0 w
  have k1 := fun o : Obj => conv0 (w.alloc o)
  simp only [World.size_alloc] at k1
  go_enter Tryz.func69, Tryz.ntmps69
  go_wp2
  first | (rw [k0]; go_wp2) | skip
  refine wp_loop_rounds 1 ?_
  rw [rounds_succ]
  go_wp2
  go_ret
  exact ⟨rfl, HB1.out _⟩
set_option maxRecDepth 10000 in
set_option maxHeartbeats 800000 in
theorem hexR_11 (w : World) : HexR 11 w := by
  unfold HexR
  have HB1 := hid0 (fun o : Obj => (Below.refl w.heap.size w).alloc (Nat.le_refl _) o)
  have HB2 := hid0 (fun o p : Obj => ((Below.refl w.heap.size w).alloc (Nat.le_refl _) o).alloc (by simp) p)
  have k0 := conv0 w
  have k1 := fun o : Obj => conv0 (w.alloc o)
  simp only [World.size_alloc] at k1
  go_enter Tryz.func69, Tryz.ntmps69
  go_wp2
  first | (rw [k0]; go_wp2) | skip
  refine wp_loop_rounds 1 ?_
  rw [rounds_succ]
  go_wp2
  go_ret
  exact ⟨rfl, HB1.out _⟩
set_option maxRecDepth 10000 in
set_option maxHeartbeats 800000 in
theorem hexR_12 (w : World) : HexR 12 w := by
  unfold HexR
  have HB1 := hid0 (fun o : Obj => (Below.refl w.heap.size w).alloc (Nat.le_refl _) o)
  have HB2 := hid0 (fun o p : Obj => ((Below.refl w.heap.size w).alloc (Nat.le_refl _) o).alloc (by simp) p)
  have k0 := conv0 w
  have k1 := fun o : Obj => conv0 (w.alloc o)
  simp only [World.size_alloc] at k1
  go_enter Tryz.func69, Tryz.ntmps69
  go_wp2
  first | (rw [k0]; go_wp2) | skip
  refine wp_loop_rounds 1 ?_
  rw [rounds_succ]
  go_wp2
  go_ret
  exact ⟨rfl, HB1.out _⟩
set_option maxRecDepth 10000 in
set_option maxHeartbeats 800000 in
theorem hexR_13 (w : World) : HexR 13 w := by
  unfold HexR
  have HB1 := hid0 (fun o : Obj => (Below.refl w.heap.size w).alloc (Nat.le_refl _) o)
  have HB2 := hid0 (fun o p : Obj => ((Below.refl w.heap.size w).alloc (Nat.le_refl _) o).alloc (by simp) p)
  have k0 := conv0 w
  have k1 := fun o : Obj => conv0 (w.alloc o)
  simp only [World.size_alloc] at k1
  go_enter Tryz.func69, Tryz.ntmps69
  go_wp2
  first | (rw [k0]; go_wp2) | skip
  refine wp_loop_rounds 1 ?_
  rw [rounds_succ]
  go_wp2
  go_ret
  exact ⟨rfl, HB1.out _⟩
set_option maxRecDepth 10000 in
set_option maxHeartbeats 800000 in
theorem hexR_14 (w : World) : HexR 14 w := by
  unfold HexR
  have HB1 := hid0 (fun o : Obj => (Below.refl w.heap.size w).alloc (Nat.le_refl _) o)
  have HB2 := hid0 (fun o p : Obj => ((Below.refl w.heap.size w).alloc (Nat.le_refl _) o).alloc (by simp) p)
  have k0 := conv0 w
  have k1 := fun o : Obj => conv0 (w.alloc o)
  simp only [World.size_alloc] at k1
  go_enter Tryz.func69, Tryz.ntmps69
  go_wp2
  first | (rw [k0]; go_wp2) | skip
  refine wp_loop_rounds 1 ?_
  rw [rounds_succ]
  go_wp2
  go_ret
  exact ⟨rfl, HB1.out _⟩
set_option maxRecDepth 10000 in
set_option maxHeartbeats 800000 in
theorem hexR_15 (w : World) : HexR 15 w := by
  unfold HexR
  have HB1 := hid0 (fun o : Obj => (Below.refl w.heap.size w).alloc (Nat.le_refl _) o)
  have HB2 := hid0 (fun o p : Obj => ((Below.refl w.heap.size w).alloc (Nat.le_refl _) o).alloc (by simp) p)
  have k0 := conv0 w
  have k1 := fun o : Obj => conv0 (w.alloc o)
  simp only [World.size_alloc] at k1
  go_enter Tryz.func69, Tryz.ntmps69
  go_wp2
  first | (rw [k0]; go_wp2) | skip
  refine wp_loop_rounds 1 ?_
  rw [rounds_succ]
  go_wp2
  go_ret
  exact ⟨rfl, HB1.out _⟩
set_option maxRecDepth 10000 in
set_option maxHeartbeats 800000 in
theorem hexR_16 (w : World) : HexR 16 w := by
  unfold HexR
  have HB1 := hid0 (fun o : Obj => (Below.refl w.heap.size w).alloc (Nat.le_refl _) o)
  have HB2 := hid0 (fun o p : Obj => ((Below.refl w.heap.size w).alloc (Nat.le_refl _) o).alloc (by simp) p)
  have k0 := conv0 w
  have k1 := fun o : Obj => conv0 (w.alloc o)
  simp only [World.size_alloc] at k1
  go_enter Tryz.func69, Tryz.ntmps69
  go_wp2
  first | (rw [k0]; go_wp2) | skip
  refine wp_loop_rounds 2 ?_
  rw [rounds_succ]
  go_wp2
  first | (rw [k1]; go_wp2) | skip
  rw [rounds_succ]
  go_wp2
  go_ret
  exact ⟨rfl, HB2.out _ _⟩
set_option maxRecDepth 10000 in
set_option maxHeartbeats 800000 in
theorem hexR_17 (w : World) : HexR 17 w := by
  unfold HexR
  have HB1 := hid0 (fun o : Obj => (Below.refl w.heap.size w).alloc (Nat.le_refl _) o)
  have HB2 := hid0 (fun o p : Obj => ((Below.refl w.heap.size w).alloc (Nat.le_refl _) o).alloc (by simp) p)
  have k0 := conv0 w
  have k1 := fun o : Obj => conv0 (w.alloc o)
  simp only [World.size_alloc] at k1
  go_enter Tryz.func69, Tryz.ntmps69
  go_wp2
  first | (rw [k0]; go_wp2) | skip
  refine wp_loop_rounds 2 ?_
  rw [rounds_succ]
  go_wp2
  first | (rw [k1]; go_wp2) | skip
  rw [rounds_succ]
  go_wp2
  go_ret
  exact ⟨rfl, HB2.out _ _⟩
set_option maxRecDepth 10000 in
set_option maxHeartbeats 800000 in
theorem hexR_18 (w : World) : HexR 18 w := by
  unfold HexR
  have HB1 := hid0 (fun o : Obj => (Below.refl w.heap.size w).alloc (Nat.le_refl _) o)
  have HB2 := hid0 (fun o p : Obj => ((Below.refl w.heap.size w).alloc (Nat.le_refl _) o).alloc (by simp) p)
  have k0 := conv0 w
  have k1 := fun o : Obj => conv0 (w.alloc o)
  simp only [World.size_alloc] at k1
  go_enter Tryz.func69, Tryz.ntmps69
  go_wp2
  first | (rw [k0]; go_wp2) | skip
  refine wp_loop_rounds 2 ?_
  rw [rounds_succ]
  go_wp2
  first | (rw [k1]; go_wp2) | skip
  rw [rounds_succ]
  go_wp2
  go_ret
  exact ⟨rfl, HB2.out _ _⟩
set_option maxRecDepth 10000 in
set_option maxHeartbeats 800000 in
theorem hexR_19 (w : World) : HexR 19 w := by
  unfold HexR
  have HB1 := hid0 (fun o : Obj => (Below.refl w.heap.size w).alloc (Nat.le_refl _) o)
  have HB2 := hid0 (fun o p : Obj => ((Below.refl w.heap.size w).alloc (Nat.le_refl _) o).alloc (by simp) p)
  have k0 := conv0 w
  have k1 := fun o : Obj => conv0 (w.alloc o)
  simp only [World.size_alloc] at k1
  go_enter Tryz.func69, Tryz.ntmps69
  go_wp2
  first | (rw [k0]; go_wp2) | skip
  refine wp_loop_rounds 2 ?_
  rw [rounds_succ]
  go_wp2
  first | (rw [k1]; go_wp2) | skip
  rw [rounds_succ]
  go_wp2
  go_ret
  exact ⟨rfl, HB2.out _ _⟩
set_option maxRecDepth 10000 in
set_option maxHeartbeats 800000 in
theorem hexR_20 (w : World) : HexR 20 w := by
  unfold HexR
  have HB1 := hid0 (fun o : Obj => (Below.refl w.heap.size w).alloc (Nat.le_refl _) o)
  have HB2 := hid0 (fun o p : Obj => ((Below.refl w.heap.size w).alloc (Nat.le_refl _) o).alloc (by simp) p)
  have k0 := conv0 w
  have k1 := fun o : Obj => conv0 (w.alloc o)
  simp only [World.size_alloc] at k1
  go_enter Tryz.func69, Tryz.ntmps69
  go_wp2
  first | (rw [k0]; go_wp2) | skip
  refine wp_loop_rounds 2 ?_
  rw [rounds_succ]
  go_wp2
  first | (rw [k1]; go_wp2) | skip
  rw [rounds_succ]
  go_wp2
  go_ret
  exact ⟨rfl, HB2.out _ _⟩
set_option maxRecDepth 10000 in
set_option maxHeartbeats 800000 in
theorem hexR_21 (w : World) : HexR 21 w := by
  unfold HexR
  have HB1 := hid0 (fun o : Obj => (Below.refl w.heap.size w).alloc (Nat.le_refl _) o)
  have HB2 := hid0 (fun o p : Obj => ((Below.refl w.heap.size w).alloc (Nat.le_refl _) o).alloc (by simp) p)
  have k0 := conv0 w
  have k1 := fun o : Obj => conv0 (w.alloc o)
  simp only [World.size_alloc] at k1
  go_enter Tryz.func69, Tryz.ntmps69
  go_wp2
  first | (rw [k0]; go_wp2) | skip
  refine wp_loop_rounds 2 ?_
  rw [rounds_succ]
  go_wp2
  first | (rw [k1]; go_wp2) | skip
  rw [rounds_succ]
  go_wp2
  go_ret
  exact ⟨rfl, HB2.out _ _⟩
set_option maxRecDepth 10000 in
set_option maxHeartbeats 800000 in
theorem hexR_22 (w : World) : HexR 22 w := by
  unfold HexR
  have HB1 := hid0 (fun o : Obj => (Below.refl w.heap.size w).alloc (Nat.le_refl _) o)
  have HB2 := hid0 (fun o p : Obj => ((Below.refl w.heap.size w).alloc (Nat.le_refl _) o).alloc (by simp) p)
  have k0 := conv0 w
  have k1 := fun o : Obj => conv0 (w.alloc o)
  simp only [World.size_alloc] at k1
  go_enter Tryz.func69, Tryz.ntmps69
  go_wp2
  first | (rw [k0]; go_wp2) | skip
  refine wp_loop_rounds 2 ?_
  rw [rounds_succ]
  go_wp2
  first | (rw [k1]; go_wp2) | skip
  rw [rounds_succ]
  go_wp2
  go_ret
  exact ⟨rfl, HB2.out _ _⟩
set_option maxRecDepth 10000 in
set_option maxHeartbeats 800000 in
theorem hexR_23 (w : World) : HexR 23 w := by
  unfold HexR
  have HB1 := hid0 (fun o : Obj => (Below.refl w.heap.size w).alloc (Nat.le_refl _) o)
  have HB2 := hid0 (fun o p : Obj => ((Below.refl w.heap.size w).alloc (Nat.le_refl _) o).alloc (by simp) p)
  have k0 := conv0 w
  have k1 := fun o : Obj => conv0 (w.alloc o)
  simp only [World.size_alloc] at k1
  go_enter Tryz.func69, Tryz.ntmps69
  go_wp2
  first | (rw [k0]; go_wp2) | skip
  refine wp_loop_rounds 2 ?_
  rw [rounds_succ]
  go_wp2
  first | (rw [k1]; go_wp2) | skip
  rw [rounds_succ]
  go_wp2
  go_ret
  exact ⟨rfl, HB2.out _ _⟩
set_option maxRecDepth 10000 in
set_option maxHeartbeats 800000 in
theorem hexR_24 (w : World) : HexR 24 w := by
  unfold HexR
  have HB1 := hid0 (fun o : Obj => (Below.refl w.heap.size w).alloc (Nat.le_refl _) o)
  have HB2 := hid0 (fun o p : Obj => ((Below.refl w.heap.size w).alloc (Nat.le_refl _) o).alloc (by simp) p)
  have k0 := conv0 w
  have k1 := fun o : Obj => conv0 (w.alloc o)
  simp only [World.size_alloc] at k1
  go_enter Tryz.func69, Tryz.ntmps69
  go_wp2
  first | (rw [k0]; go_wp2) | skip
  refine wp_loop_rounds 2 ?_
  rw [rounds_succ]
  go_wp2
  first | (rw [k1]; go_wp2) | skip
  rw [rounds_succ]
  go_wp2
  go_ret
  exact ⟨rfl, HB2.out _ _⟩
set_option maxRecDepth 10000 in
set_option maxHeartbeats 800000 in
theorem hexR_25 (w : World) : HexR 25 w := by
  unfold HexR
  have HB1 := hid0 (fun o : Obj => (Below.refl w.heap.size w).alloc (Nat.le_refl _) o)
  have HB2 := hid0 (fun o p : Obj => ((Below.refl w.heap.size w).alloc (Nat.le_refl _) o).alloc (by simp) p)
  have k0 := conv0 w
  have k1 := fun o : Obj => conv0 (w.alloc o)
  simp only [World.size_alloc] at k1
  go_enter Tryz.func69, Tryz.ntmps69
  go_wp2
  first | (rw [k0]; go_wp2) | skip
  refine wp_loop_rounds 2 ?_
  rw [rounds_succ]
  go_wp2
  first | (rw [k1]; go_wp2) | skip
  rw [rounds_succ]
  go_wp2
  go_ret
  exact ⟨rfl, HB2.out _ _⟩
set_option maxRecDepth 10000 in
set_option maxHeartbeats 800000 in
theorem hexR_26 (w : World) : HexR 26 w := by
  unfold HexR
  have HB1 := hid0 (fun o : Obj => (Below.refl w.heap.size w).alloc (Nat.le_refl _) o)
  have HB2 := hid0 (fun o p : Obj => ((Below.refl w.heap.size w).alloc (Nat.le_refl _) o).alloc (by simp) p)
  have k0 := conv0 w
  have k1 := fun o : Obj => conv0 (w.alloc o)
  simp only [World.size_alloc] at k1
  go_enter Tryz.func69, Tryz.ntmps69
  go_wp2
  first | (rw [k0]; go_wp2) | skip
  refine wp_loop_rounds 2 ?_
  rw [rounds_succ]
  go_wp2
  first | (rw [k1]; go_wp2) | skip
  rw [rounds_succ]
  go_wp2
  go_ret
  exact ⟨rfl, HB2.out _ _⟩
set_option maxRecDepth 10000 in
set_option maxHeartbeats 800000 in
theorem hexR_27 (w : World) : HexR 27 w := by
  unfold HexR
  have HB1 := hid0 (fun o : Obj => (Below.refl w.heap.size w).alloc (Nat.le_refl _) o)
  have HB2 := hid0 (fun o p : Obj => ((Below.refl w.heap.size w).alloc (Nat.le_refl _) o).alloc (by simp) p)
  have k0 := conv0 w
  have k1 := fun o : Obj => conv0 (w.alloc o)
  simp only [World.size_alloc] at k1
  go_enter Tryz.func69, Tryz.ntmps69
  go_wp2
  first | (rw [k0]; go_wp2) | skip
  refine wp_loop_rounds 2 ?_
  rw [rounds_succ]
  go_wp2
  first | (rw [k1]; go_wp2) | skip
  rw [rounds_succ]
  go_wp2
  go_ret
  exact ⟨rfl, HB2.out _ _⟩
set_option maxRecDepth 10000 in
set_option maxHeartbeats 800000 in
theorem hexR_28 (w : World) : HexR 28 w := by
  unfold HexR
  have HB1 := hid0 (fun o : Obj => (Below.refl w.heap.size w).alloc (Nat.le_refl _) o)
  have HB2 := hid0 (fun o p : Obj => ((Below.refl w.heap.size w).alloc (Nat.le_refl _) o).alloc (by simp) p)
  have k0 := conv0 w
  have k1 := fun o : Obj => conv0 (w.alloc o)
  simp only [World.size_alloc] at k1
  go_enter Tryz.func69, Tryz.ntmps69
  go_wp2
  first | (rw [k0]; go_wp2) | skip
  refine wp_loop_rounds 2 ?_
  rw [rounds_succ]
  go_wp2
  first | (rw [k1]; go_wp2) | skip
  rw [rounds_succ]
  go_wp2
  go_ret
  exact ⟨rfl, HB2.out _ _⟩
set_option maxRecDepth 10000 in
set_option maxHeartbeats 800000 in
theorem hexR_29 (w : World) : HexR 29 w := by
  unfold HexR
  have HB1 := hid0 (fun o : Obj => (Below.refl w.heap.size w).alloc (Nat.le_refl _) o)
  have HB2 := hid0 (fun o p : Obj => ((Below.refl w.heap.size w).alloc (Nat.le_refl _) o).alloc (by simp) p)
  have k0 := conv0 w
  have k1 := fun o : Obj => conv0 (w.alloc o)
  simp only [World.size_alloc] at k1
  go_enter Tryz.func69, Tryz.ntmps69
  go_wp2
  first | (rw [k0]; go_wp2) | skip
  refine wp_loop_rounds 2 ?_
  rw [rounds_succ]
  go_wp2
  first | (rw [k1]; go_wp2) | skip
  rw [rounds_succ]
  go_wp2
  go_ret
  exact ⟨rfl, HB2.out _ _⟩
set_option maxRecDepth 10000 in
set_option maxHeartbeats 800000 in
theorem hexR_30 (w : World) : HexR 30 w := by
  unfold HexR
  have HB1 := hid0 (fun o : Obj => (Below.refl w.heap.size w).alloc (Nat.le_refl _) o)
  have HB2 := hid0 (fun o p : Obj => ((Below.refl w.heap.size w).alloc (Nat.le_refl _) o).alloc (by simp) p)
  have k0 := conv0 w
  have k1 := fun o : Obj => conv0 (w.alloc o)
  simp only [World.size_alloc] at k1
  go_enter Tryz.func69, Tryz.ntmps69
  go_wp2
  first | (rw [k0]; go_wp2) | skip
  refine wp_loop_rounds 2 ?_
  rw [rounds_succ]
  go_wp2
  first | (rw [k1]; go_wp2) | skip
  rw [rounds_succ]
  go_wp2
  go_ret
  exact ⟨rfl, HB2.out _ _⟩
set_option maxRecDepth 10000 in
set_option maxHeartbeats 800000 in
theorem hexR_31 (w : World) : HexR 31 w := by
  unfold HexR
  have HB1 := hid0 (fun o : Obj => (Below.refl w.heap.size w).alloc (Nat.le_refl _) o)
  have HB2 := hid0 (fun o p : Obj => ((Below.refl w.heap.size w).alloc (Nat.le_refl _) o).alloc (by simp) p)
  have k0 := conv0 w
  have k1 := fun o : Obj => conv0 (w.alloc o)
  simp only [World.size_alloc] at k1
  go_enter Tryz.func69, Tryz.ntmps69
  go_wp2
  first | (rw [k0]; go_wp2) | skip
  refine wp_loop_rounds 2 ?_
  rw [rounds_succ]
  go_wp2
  first | (rw [k1]; go_wp2) | skip
  rw [rounds_succ]
  go_wp2
  go_ret
  exact ⟨rfl, HB2.out _ _⟩
set_option maxRecDepth 10000 in
set_option maxHeartbeats 800000 in
theorem hexR_127 (w : World) : HexR 127 w := by
  unfold HexR
  have HB1 := hid0 (fun o : Obj => (Below.refl w.heap.size w).alloc (Nat.le_refl _) o)
  have HB2 := hid0 (fun o p : Obj => ((Below.refl w.heap.size w).alloc (Nat.le_refl _) o).alloc (by simp) p)
  have k0 := conv0 w
  have k1 := fun o : Obj => conv0 (w.alloc o)
  simp only [World.size_alloc] at k1
  go_enter Tryz.func69, Tryz.ntmps69
  go_wp2
  first | (rw [k0]; go_wp2) | skip
  refine wp_loop_rounds 2 ?_
  rw [rounds_succ]
  go_wp2
  first | (rw [k1]; go_wp2) | skip
  rw [rounds_succ]
  go_wp2
  go_ret
  exact ⟨rfl, HB2.out _ _⟩
theorem hexR_any (n : Nat) (hn : n < 32 ∨ n = 127) (w : World) : HexR n w := by
  have h : n = 0 ∨ n = 1 ∨ n = 2 ∨ n = 3 ∨ n = 4 ∨ n = 5 ∨ n = 6 ∨ n = 7 ∨ n = 8 ∨ n = 9 ∨ n = 10 ∨ n = 11 ∨ n = 12 ∨ n = 13 ∨ n = 14 ∨ n = 15 ∨ n = 16 ∨ n = 17 ∨ n = 18 ∨ n = 19 ∨ n = 20 ∨ n = 21 ∨ n = 22 ∨ n = 23 ∨ n = 24 ∨ n = 25 ∨ n = 26 ∨ n = 27 ∨ n = 28 ∨ n = 29 ∨ n = 30 ∨ n = 31 ∨ n = 127 := by omega
  rcases h with rfl | rfl | rfl | rfl | rfl | rfl | rfl | rfl | rfl | rfl | rfl | rfl | rfl | rfl | rfl | rfl | rfl | rfl | rfl | rfl | rfl | rfl | rfl | rfl | rfl | rfl | rfl | rfl | rfl | rfl | rfl | rfl | rfl
  · exact hexR_0 w
  · exact hexR_1 w
  · exact hexR_2 w
  · exact hexR_3 w
  · exact hexR_4 w
  · exact hexR_5 w
  · exact hexR_6 w
  · exact hexR_7 w
  · exact hexR_8 w
  · exact hexR_9 w
  · exact hexR_10 w
  · exact hexR_11 w
  · exact hexR_12 w
  · exact hexR_13 w
  · exact hexR_14 w
  · exact hexR_15 w
  · exact hexR_16 w
  · exact hexR_17 w
  · exact hexR_18 w
  · exact hexR_19 w
  · exact hexR_20 w
  · exact hexR_21 w
  · exact hexR_22 w
  · exact hexR_23 w
  · exact hexR_24 w
  · exact hexR_25 w
  · exact hexR_26 w
  · exact hexR_27 w
  · exact hexR_28 w
  · exact hexR_29 w
  · exact hexR_30 w
  · exact hexR_31 w
  · exact hexR_127 w
end Go.Proofs.YtpkfcadihgbleaaGreatDoor
namespace Go.Proofs
open Go.Shelf
def Tryz.lays727_ren : Go.Shelf.Ren := ⟨fun | 27 => 167 | 28 => 184 | 29 => 185 | n => n, fun | 25 => 163 | 3 => 3 | 27 => 178 | 22 => 157 | 4 => 4 | 53 => 201 | 0 => 0 | 5 => 5 | 54 => 202 | n => n, fun | 0 => 16 | 1 => 17 | n => n⟩
theorem Tryz.lays727 : Go.Proofs.Lays7.n27 Tryz.prog Tryz.lays727_ren := {
  mixed := by kernel_rfl
  f27 := Tryz.func167.trans (congrArg some (by kernel_rfl))
  f28 := Tryz.func184.trans (congrArg some (by kernel_rfl))
  f29 := Tryz.func185.trans (congrArg some (by kernel_rfl))
  t0 := Tryz.underlying0
  a0 := Tryz.isAgg0
  z0 := Tryz.sizeOf0
  v0 := Tryz.zeroValue0
  i0 := by kernel_rfl
  t3 := Tryz.underlying3
  a3 := Tryz.isAgg3
  z3 := Tryz.sizeOf3
  v3 := Tryz.zeroValue3
  i3 := by kernel_rfl
  t4 := Tryz.underlying4
  a4 := Tryz.isAgg4
  z4 := Tryz.sizeOf4
  v4 := Tryz.zeroValue4
  i4 := by kernel_rfl
  t5 := Tryz.underlying5
  a5 := Tryz.isAgg5
  z5 := Tryz.sizeOf5
  v5 := Tryz.zeroValue5
  i5 := by kernel_rfl
  t22 := Tryz.underlying157
  a22 := Tryz.isAgg157
  z22 := Tryz.sizeOf157
  v22 := Tryz.zeroValue157
  i22 := by kernel_rfl
  t25 := Tryz.underlying163
  a25 := Tryz.isAgg163
  z25 := Tryz.sizeOf163
  v25 := Tryz.zeroValue163
  i25 := by kernel_rfl
  t27 := Tryz.underlying178
  a27 := Tryz.isAgg178
  z27 := Tryz.sizeOf178
  v27 := Tryz.zeroValue178
  i27 := by kernel_rfl
  t53 := Tryz.underlying201
  a53 := Tryz.isAgg201
  z53 := Tryz.sizeOf201
  v53 := Tryz.zeroValue201
  i53 := by kernel_rfl
  t54 := Tryz.underlying202
  a54 := Tryz.isAgg202
  z54 := Tryz.sizeOf202
  g0 := by kernel_rfl
  g1 := by kernel_rfl }
end Go.Proofs
namespace Go.Proofs.YtpkfcadihgbleaaGreatDoor
open Go.RowKit Go.Shelf Go.Lib
set_option maxRecDepth 10000 in
theorem tz16 (w : World) (hT : TabAt 17 Lib.deBruijn64tab w) : Calls Tryz.prog 167 #[.int .u64 16] w fun e w' => e = .returned (.int .i64 4) ∧ w' = w := by
  have h := Any7.bits_TrailingZeros Tryz.lays727 16 (by omega) w (fun _ => hT)
  exact h
set_option maxRecDepth 10000 in
set_option maxHeartbeats 400000 in
theorem pow16 (w : World) : Calls Tryz.prog 166 #[.int .i64 16] w fun e w' => e = .returned (.bool true) ∧ w' = w := by
  go_enter Tryz.func166, Tryz.ntmps166
  go_wp2
  go_ret
  exact ⟨rfl, rfl⟩
theorem conv2 (w : World) (C : Array Value) (t : TypeId) (x y : UInt8) (h1 : C[63]? = some (.int .u8 (x.toNat : Int))) (h2 : C[64]? = some (.int .u8 (y.toNat : Int))) :
    (convert 46 9 (.slice (some ⟨w.heap.size, 63, none⟩) 2 2)).run Tryz.prog (w.alloc (.cells C t)) = .ok (.string ⟨#[x, y]⟩) (w.alloc (.cells C t)) := by
  refine run_convert_bytes_back (P := Tryz.prog) (w.alloc (.cells C t)) 46 9 5 ⟨w.heap.size, 63, none⟩ 2 [x, y] Tryz.underlying46 Tryz.underlying5 Tryz.underlying9 (fun j hj => ?_)
  have hj2 : j = 0 ∨ j = 1 := by simp at hj; omega
  rw [Addr.add_lit, cell_of_row _ _ _ _ _ _ (heap_alloc_new w _)]
  rcases hj2 with rfl | rfl
  · exact h1
  · exact h2
theorem conv1 (w : World) (C : Array Value) (t : TypeId) (x : UInt8) (h1 : C[64]? = some (.int .u8 (x.toNat : Int))) :
    (convert 46 9 (.slice (some ⟨w.heap.size, 64, none⟩) 1 1)).run Tryz.prog (w.alloc (.cells C t)) = .ok (.string ⟨#[x]⟩) (w.alloc (.cells C t)) := by
  refine run_convert_bytes_back (P := Tryz.prog) (w.alloc (.cells C t)) 46 9 5 ⟨w.heap.size, 64, none⟩ 1 [x] Tryz.underlying46 Tryz.underlying5 Tryz.underlying9 (fun j hj => ?_)
  have hj2 : j = 0 := by simp at hj; omega
  rw [Addr.add_lit, cell_of_row _ _ _ _ _ _ (heap_alloc_new w _)]
  subst hj2
  exact h1
/-- The table that TrailingZeros reads. -/
abbrev DT (w : World) : Prop := TabAt 17 Lib.deBruijn64tab w
theorem dt_later {w w' : World} (h : DT w) (hb : Below w.heap.size w w') : DT w' := fun j hj => (hb.cell (p := ⟨17, j, none⟩) (World.block_lt_of_cell? w _ (h j hj))).trans (h j hj)
/-- What formatBits answers. -/
def Fmt (n : Nat) (w : World) : Prop := Calls Tryz.prog 136 #[.slice none 0 0, .int .u64 (n : Int), .int .i64 16, .bool false, .bool false] w fun e w' => e = .returned (.tuple #[.slice none 0 0, .string ⟨(hexL n).toArray⟩]) ∧ Below w.heap.size w w'
set_option maxRecDepth 10000 in
set_option maxHeartbeats 800000 in
theorem fmt_0 (w : World) (hT : DT w) : Fmt 0 w := by
  unfold Fmt
  have HT := hid0 (fun W (hb : Below w.heap.size w W) => tz16 W (dt_later hT hb))
  have HB := hid0 (fun o : Obj => (Below.refl w.heap.size w).alloc (Nat.le_refl _) o)
  clear hT
  go_enter Tryz.func136, Tryz.ntmps136
  go_wp2_with (first
    | (go_at_call 166; refine (pow16 _).mono ?_; rintro e w1 ⟨rfl, rfl⟩)
    | (go_at_call 167; refine (HT.out _ (HB.out _)).mono ?_; rintro e w1 ⟨rfl, rfl⟩)
    | fail)
  refine wp_loop_rounds 1 ?_
  rw [rounds_succ]
  go_wp2
  rw [conv1 w _ _ 48]
  rotate_left
  · kernel_rfl
  go_wp2
  go_ret2
  exact ⟨rfl, HB.out _⟩
set_option maxRecDepth 10000 in
set_option maxHeartbeats 800000 in
theorem fmt_1 (w : World) (hT : DT w) : Fmt 1 w := by
  unfold Fmt
  have HT := hid0 (fun W (hb : Below w.heap.size w W) => tz16 W (dt_later hT hb))
  have HB := hid0 (fun o : Obj => (Below.refl w.heap.size w).alloc (Nat.le_refl _) o)
  clear hT
  go_enter Tryz.func136, Tryz.ntmps136
  go_wp2_with (first
    | (go_at_call 166; refine (pow16 _).mono ?_; rintro e w1 ⟨rfl, rfl⟩)
    | (go_at_call 167; refine (HT.out _ (HB.out _)).mono ?_; rintro e w1 ⟨rfl, rfl⟩)
    | fail)
  refine wp_loop_rounds 1 ?_
  rw [rounds_succ]
  go_wp2
  rw [conv1 w _ _ 49]
  rotate_left
  · kernel_rfl
  go_wp2
  go_ret2
  exact ⟨rfl, HB.out _⟩
set_option maxRecDepth 10000 in
set_option maxHeartbeats 800000 in
theorem fmt_2 (w : World) (hT : DT w) : Fmt 2 w := by
  unfold Fmt
  have HT := hid0 (fun W (hb : Below w.heap.size w W) => tz16 W (dt_later hT hb))
  have HB := hid0 (fun o : Obj => (Below.refl w.heap.size w).alloc (Nat.le_refl _) o)
  clear hT
  go_enter Tryz.func136, Tryz.ntmps136
  go_wp2_with (first
    | (go_at_call 166; refine (pow16 _).mono ?_; rintro e w1 ⟨rfl, rfl⟩)
    | (go_at_call 167; refine (HT.out _ (HB.out _)).mono ?_; rintro e w1 ⟨rfl, rfl⟩)
    | fail)
  refine wp_loop_rounds 1 ?_
  rw [rounds_succ]
  go_wp2
  rw [conv1 w _ _ 50]
  rotate_left
  · kernel_rfl
  go_wp2
  go_ret2
  exact ⟨rfl, HB.out _⟩
set_option maxRecDepth 10000 in
set_option maxHeartbeats 800000 in
theorem fmt_3 (w : World) (hT : DT w) : Fmt 3 w := by
  unfold Fmt
  have HT := hid0 (fun W (hb : Below w.heap.size w W) => tz16 W (dt_later hT hb))
  have HB := hid0 (fun o : Obj => (Below.refl w.heap.size w).alloc (Nat.le_refl _) o)
  clear hT
  go_enter Tryz.func136, Tryz.ntmps136
  go_wp2_with (first
    | (go_at_call 166; refine (pow16 _).mono ?_; rintro e w1 ⟨rfl, rfl⟩)
    | (go_at_call 167; refine (HT.out _ (HB.out _)).mono ?_; rintro e w1 ⟨rfl, rfl⟩)
    | fail)
  refine wp_loop_rounds 1 ?_
  rw [rounds_succ]
  go_wp2
  rw [conv1 w _ _ 51]
  rotate_left
  · kernel_rfl
  go_wp2
  go_ret2
  exact ⟨rfl, HB.out _⟩
set_option maxRecDepth 10000 in
set_option maxHeartbeats 800000 in
theorem fmt_4 (w : World) (hT : DT w) : Fmt 4 w := by
  unfold Fmt
  have HT := hid0 (fun W (hb : Below w.heap.size w W) => tz16 W (dt_later hT hb))
  have HB := hid0 (fun o : Obj => (Below.refl w.heap.size w).alloc (Nat.le_refl _) o)
  clear hT
  go_enter Tryz.func136, Tryz.ntmps136
  go_wp2_with (first
    | (go_at_call 166; refine (pow16 _).mono ?_; rintro e w1 ⟨rfl, rfl⟩)
    | (go_at_call 167; refine (HT.out _ (HB.out _)).mono ?_; rintro e w1 ⟨rfl, rfl⟩)
    | fail)
  refine wp_loop_rounds 1 ?_
  rw [rounds_succ]
  go_wp2
  rw [conv1 w _ _ 52]
  rotate_left
  · kernel_rfl
  go_wp2
  go_ret2
  exact ⟨rfl, HB.out _⟩
set_option maxRecDepth 10000 in
set_option maxHeartbeats 800000 in
theorem fmt_5 (w : World) (hT : DT w) : Fmt 5 w := by
  unfold Fmt
  have HT := hid0 (fun W (hb : Below w.heap.size w W) => tz16 W (dt_later hT hb))
  have HB := hid0 (fun o : Obj => (Below.refl w.heap.size w).alloc (Nat.le_refl _) o)
  clear hT
  go_enter Tryz.func136, Tryz.ntmps136
  go_wp2_with (first
    | (go_at_call 166; refine (pow16 _).mono ?_; rintro e w1 ⟨rfl, rfl⟩)
    | (go_at_call 167; refine (HT.out _ (HB.out _)).mono ?_; rintro e w1 ⟨rfl, rfl⟩)
    | fail)
  refine wp_loop_rounds 1 ?_
  rw [rounds_succ]
  go_wp2
  rw [conv1 w _ _ 53]
  rotate_left
  · kernel_rfl
  go_wp2
  go_ret2
  exact ⟨rfl, HB.out _⟩
set_option maxRecDepth 10000 in
set_option maxHeartbeats 800000 in
theorem fmt_6 (w : World) (hT : DT w) : Fmt 6 w := by
  unfold Fmt
  have HT := hid0 (fun W (hb : Below w.heap.size w W) => tz16 W (dt_later hT hb))
  have HB := hid0 (fun o : Obj => (Below.refl w.heap.size w).alloc (Nat.le_refl _) o)
  clear hT
  go_enter Tryz.func136, Tryz.ntmps136
  go_wp2_with (first
    | (go_at_call 166; refine (pow16 _).mono ?_; rintro e w1 ⟨rfl, rfl⟩)
    | (go_at_call 167; refine (HT.out _ (HB.out _)).mono ?_; rintro e w1 ⟨rfl, rfl⟩)
    | fail)
  refine wp_loop_rounds 1 ?_
  rw [rounds_succ]
  go_wp2
  rw [conv1 w _ _ 54]
  rotate_left
  · kernel_rfl
  go_wp2
  go_ret2
  exact ⟨rfl, HB.out _⟩
set_option maxRecDepth 10000 in
set_option maxHeartbeats 800000 in
theorem fmt_7 (w : World) (hT : DT w) : Fmt 7 w := by
  unfold Fmt
  have HT := hid0 (fun W (hb : Below w.heap.size w W) => tz16 W (dt_later hT hb))
  have HB := hid0 (fun o : Obj => (Below.refl w.heap.size w).alloc (Nat.le_refl _) o)
  clear hT
  go_enter Tryz.func136, Tryz.ntmps136
  go_wp2_with (first
    | (go_at_call 166; refine (pow16 _).mono ?_; rintro e w1 ⟨rfl, rfl⟩)
    | (go_at_call 167; refine (HT.out _ (HB.out _)).mono ?_; rintro e w1 ⟨rfl, rfl⟩)
    | fail)
  refine wp_loop_rounds 1 ?_
  rw [rounds_succ]
  go_wp2
  rw [conv1 w _ _ 55]
  rotate_left
  · kernel_rfl
  go_wp2
  go_ret2
  exact ⟨rfl, HB.out _⟩
set_option maxRecDepth 10000 in
set_option maxHeartbeats 800000 in
theorem fmt_8 (w : World) (hT : DT w) : Fmt 8 w := by
  unfold Fmt
  have HT := hid0 (fun W (hb : Below w.heap.size w W) => tz16 W (dt_later hT hb))
  have HB := hid0 (fun o : Obj => (Below.refl w.heap.size w).alloc (Nat.le_refl _) o)
  clear hT
  go_enter Tryz.func136, Tryz.ntmps136
  go_wp2_with (first
    | (go_at_call 166; refine (pow16 _).mono ?_; rintro e w1 ⟨rfl, rfl⟩)
    | (go_at_call 167; refine (HT.out _ (HB.out _)).mono ?_; rintro e w1 ⟨rfl, rfl⟩)
    | fail)
  refine wp_loop_rounds 1 ?_
  rw [rounds_succ]
  go_wp2
  rw [conv1 w _ _ 56]
  rotate_left
  · kernel_rfl
  go_wp2
  go_ret2
  exact ⟨rfl, HB.out _⟩
set_option maxRecDepth 10000 in
set_option maxHeartbeats 800000 in
theorem fmt_9 (w : World) (hT : DT w) : Fmt 9 w := by
  unfold Fmt
  have HT := hid0 (fun W (hb : Below w.heap.size w W) => tz16 W (dt_later hT hb))
  have HB := hid0 (fun o : Obj => (Below.refl w.heap.size w).alloc (Nat.le_refl _) o)
  clear hT
  go_enter Tryz.func136, Tryz.ntmps136
  go_wp2_with (first
    | (go_at_call 166; refine (pow16 _).mono ?_; rintro e w1 ⟨rfl, rfl⟩)
    | (go_at_call 167; refine (HT.out _ (HB.out _)).mono ?_; rintro e w1 ⟨rfl, rfl⟩)
    | fail)
  refine wp_loop_rounds 1 ?_
  rw [rounds_succ]
  go_wp2
  rw [conv1 w _ _ 57]
  rotate_left
  · kernel_rfl
  go_wp2
  go_ret2
  exact ⟨rfl, HB.out _⟩
set_option maxRecDepth 10000 in
set_option maxHeartbeats 800000 in
theorem fmt_10 (w : World) (hT : DT w) : Fmt 10 w := by
  unfold Fmt
  have HT := hid0 (fun W (hb : Below w.heap.size w W) => tz16 W (dt_later hT hb))
  have HB := hid0 (fun o : Obj => (Below.refl w.heap.size w).alloc (Nat.le_refl _) o)
  clear hT
  go_enter Tryz.func136, Tryz.ntmps136
  go_wp2_with (first
    | (go_at_call 166; refine (pow16 _).mono ?_; rintro e w1 ⟨rfl, rfl⟩)
    | (go_at_call 167; refine (HT.out _ (HB.out _)).mono ?_; rintro e w1 ⟨rfl, rfl⟩)
    | fail)
  refine wp_loop_rounds 1 ?_
  rw [rounds_succ]
  go_wp2
  rw [conv1 w _ _ 97]
  rotate_left
  · kernel_rfl
  go_wp2
  go_ret2
  exact ⟨rfl, HB.out _⟩
set_option maxRecDepth 10000 in
set_option maxHeartbeats 800000 in
theorem fmt_11 (w : World) (hT : DT w) : Fmt 11 w := by
  unfold Fmt
  have HT := hid0 (fun W (hb : Below w.heap.size w W) => tz16 W (dt_later hT hb))
  have HB := hid0 (fun o : Obj => (Below.refl w.heap.size w).alloc (Nat.le_refl _) o)
  clear hT
  go_enter Tryz.func136, Tryz.ntmps136
  go_wp2_with (first
    | (go_at_call 166; refine (pow16 _).mono ?_; rintro e w1 ⟨rfl, rfl⟩)
    | (go_at_call 167; refine (HT.out _ (HB.out _)).mono ?_; rintro e w1 ⟨rfl, rfl⟩)
    | fail)
  refine wp_loop_rounds 1 ?_
  rw [rounds_succ]
  go_wp2
  rw [conv1 w _ _ 98]
  rotate_left
  · kernel_rfl
  go_wp2
  go_ret2
  exact ⟨rfl, HB.out _⟩
set_option maxRecDepth 10000 in
set_option maxHeartbeats 800000 in
theorem fmt_12 (w : World) (hT : DT w) : Fmt 12 w := by
  unfold Fmt
  have HT := hid0 (fun W (hb : Below w.heap.size w W) => tz16 W (dt_later hT hb))
  have HB := hid0 (fun o : Obj => (Below.refl w.heap.size w).alloc (Nat.le_refl _) o)
  clear hT
  go_enter Tryz.func136, Tryz.ntmps136
  go_wp2_with (first
    | (go_at_call 166; refine (pow16 _).mono ?_; rintro e w1 ⟨rfl, rfl⟩)
    | (go_at_call 167; refine (HT.out _ (HB.out _)).mono ?_; rintro e w1 ⟨rfl, rfl⟩)
    | fail)
  refine wp_loop_rounds 1 ?_
  rw [rounds_succ]
  go_wp2
  rw [conv1 w _ _ 99]
  rotate_left
  · kernel_rfl
  go_wp2
  go_ret2
  exact ⟨rfl, HB.out _⟩
set_option maxRecDepth 10000 in
set_option maxHeartbeats 800000 in
theorem fmt_13 (w : World) (hT : DT w) : Fmt 13 w := by
  unfold Fmt
  have HT := hid0 (fun W (hb : Below w.heap.size w W) => tz16 W (dt_later hT hb))
  have HB := hid0 (fun o : Obj => (Below.refl w.heap.size w).alloc (Nat.le_refl _) o)
  clear hT
  go_enter Tryz.func136, Tryz.ntmps136
  go_wp2_with (first
    | (go_at_call 166; refine (pow16 _).mono ?_; rintro e w1 ⟨rfl, rfl⟩)
    | (go_at_call 167; refine (HT.out _ (HB.out _)).mono ?_; rintro e w1 ⟨rfl, rfl⟩)
    | fail)
  refine wp_loop_rounds 1 ?_
  rw [rounds_succ]
  go_wp2
  rw [conv1 w _ _ 100]
  rotate_left
  · kernel_rfl
  go_wp2
  go_ret2
  exact ⟨rfl, HB.out _⟩
set_option maxRecDepth 10000 in
set_option maxHeartbeats 800000 in
theorem fmt_14 (w : World) (hT : DT w) : Fmt 14 w := by
  unfold Fmt
  have HT := hid0 (fun W (hb : Below w.heap.size w W) => tz16 W (dt_later hT hb))
  have HB := hid0 (fun o : Obj => (Below.refl w.heap.size w).alloc (Nat.le_refl _) o)
  clear hT
  go_enter Tryz.func136, Tryz.ntmps136
  go_wp2_with (first
    | (go_at_call 166; refine (pow16 _).mono ?_; rintro e w1 ⟨rfl, rfl⟩)
    | (go_at_call 167; refine (HT.out _ (HB.out _)).mono ?_; rintro e w1 ⟨rfl, rfl⟩)
    | fail)
  refine wp_loop_rounds 1 ?_
  rw [rounds_succ]
  go_wp2
  rw [conv1 w _ _ 101]
  rotate_left
  · kernel_rfl
  go_wp2
  go_ret2
  exact ⟨rfl, HB.out _⟩
set_option maxRecDepth 10000 in
set_option maxHeartbeats 800000 in
theorem fmt_15 (w : World) (hT : DT w) : Fmt 15 w := by
  unfold Fmt
  have HT := hid0 (fun W (hb : Below w.heap.size w W) => tz16 W (dt_later hT hb))
  have HB := hid0 (fun o : Obj => (Below.refl w.heap.size w).alloc (Nat.le_refl _) o)
  clear hT
  go_enter Tryz.func136, Tryz.ntmps136
  go_wp2_with (first
    | (go_at_call 166; refine (pow16 _).mono ?_; rintro e w1 ⟨rfl, rfl⟩)
    | (go_at_call 167; refine (HT.out _ (HB.out _)).mono ?_; rintro e w1 ⟨rfl, rfl⟩)
    | fail)
  refine wp_loop_rounds 1 ?_
  rw [rounds_succ]
  go_wp2
  rw [conv1 w _ _ 102]
  rotate_left
  · kernel_rfl
  go_wp2
  go_ret2
  exact ⟨rfl, HB.out _⟩
set_option maxRecDepth 10000 in
set_option maxHeartbeats 800000 in
theorem fmt_16 (w : World) (hT : DT w) : Fmt 16 w := by
  unfold Fmt
  have HT := hid0 (fun W (hb : Below w.heap.size w W) => tz16 W (dt_later hT hb))
  have HB := hid0 (fun o : Obj => (Below.refl w.heap.size w).alloc (Nat.le_refl _) o)
  clear hT
  go_enter Tryz.func136, Tryz.ntmps136
  go_wp2_with (first
    | (go_at_call 166; refine (pow16 _).mono ?_; rintro e w1 ⟨rfl, rfl⟩)
    | (go_at_call 167; refine (HT.out _ (HB.out _)).mono ?_; rintro e w1 ⟨rfl, rfl⟩)
    | fail)
  refine wp_loop_rounds 2 ?_
  rw [rounds_succ]
  go_wp2
  rw [rounds_succ]
  go_wp2
  rw [conv2 w _ _ 49 48]
  rotate_left
  · kernel_rfl
  · kernel_rfl
  go_wp2
  go_ret2
  exact ⟨rfl, HB.out _⟩
set_option maxRecDepth 10000 in
set_option maxHeartbeats 800000 in
theorem fmt_17 (w : World) (hT : DT w) : Fmt 17 w := by
  unfold Fmt
  have HT := hid0 (fun W (hb : Below w.heap.size w W) => tz16 W (dt_later hT hb))
  have HB := hid0 (fun o : Obj => (Below.refl w.heap.size w).alloc (Nat.le_refl _) o)
  clear hT
  go_enter Tryz.func136, Tryz.ntmps136
  go_wp2_with (first
    | (go_at_call 166; refine (pow16 _).mono ?_; rintro e w1 ⟨rfl, rfl⟩)
    | (go_at_call 167; refine (HT.out _ (HB.out _)).mono ?_; rintro e w1 ⟨rfl, rfl⟩)
    | fail)
  refine wp_loop_rounds 2 ?_
  rw [rounds_succ]
  go_wp2
  rw [rounds_succ]
  go_wp2
  rw [conv2 w _ _ 49 49]
  rotate_left
  · kernel_rfl
  · kernel_rfl
  go_wp2
  go_ret2
  exact ⟨rfl, HB.out _⟩
set_option maxRecDepth 10000 in
set_option maxHeartbeats 800000 in
theorem fmt_18 (w : World) (hT : DT w) : Fmt 18 w := by
  unfold Fmt
  have HT := hid0 (fun W (hb : Below w.heap.size w W) => tz16 W (dt_later hT hb))
  have HB := hid0 (fun o : Obj => (Below.refl w.heap.size w).alloc (Nat.le_refl _) o)
  clear hT
  go_enter Tryz.func136, Tryz.ntmps136
  go_wp2_with (first
    | (go_at_call 166; refine (pow16 _).mono ?_; rintro e w1 ⟨rfl, rfl⟩)
    | (go_at_call 167; refine (HT.out _ (HB.out _)).mono ?_; rintro e w1 ⟨rfl, rfl⟩)
    | fail)
  refine wp_loop_rounds 2 ?_
  rw [rounds_succ]
  go_wp2
  rw [rounds_succ]
  go_wp2
  rw [conv2 w _ _ 49 50]
  rotate_left
  · kernel_rfl
  · kernel_rfl
  go_wp2
  go_ret2
  exact ⟨rfl, HB.out _⟩
set_option maxRecDepth 10000 in
set_option maxHeartbeats 800000 in
theorem fmt_19 (w : World) (hT : DT w) : Fmt 19 w := by
  unfold Fmt
  have HT := hid0 (fun W (hb : Below w.heap.size w W) => tz16 W (dt_later hT hb))
  have HB := hid0 (fun o : Obj => (Below.refl w.heap.size w).alloc (Nat.le_refl _) o)
  clear hT
  go_enter Tryz.func136, Tryz.ntmps136
  go_wp2_with (first
    | (go_at_call 166; refine (pow16 _).mono ?_; rintro e w1 ⟨rfl, rfl⟩)
    | (go_at_call 167; refine (HT.out _ (HB.out _)).mono ?_; rintro e w1 ⟨rfl, rfl⟩)
    | fail)
  refine wp_loop_rounds 2 ?_
  rw [rounds_succ]
  go_wp2
  rw [rounds_succ]
  go_wp2
  rw [conv2 w _ _ 49 51]
  rotate_left
  · kernel_rfl
  · kernel_rfl
  go_wp2
  go_ret2
  exact ⟨rfl, HB.out _⟩
set_option maxRecDepth 10000 in
set_option maxHeartbeats 800000 in
theorem fmt_20 (w : World) (hT : DT w) : Fmt 20 w := by
  unfold Fmt
  have HT := hid0 (fun W (hb : Below w.heap.size w W) => tz16 W (dt_later hT hb))
  have HB := hid0 (fun o : Obj => (Below.refl w.heap.size w).alloc (Nat.le_refl _) o)
  clear hT
  go_enter Tryz.func136, Tryz.ntmps136
  go_wp2_with (first
    | (go_at_call 166; refine (pow16 _).mono ?_; rintro e w1 ⟨rfl, rfl⟩)
    | (go_at_call 167; refine (HT.out _ (HB.out _)).mono ?_; rintro e w1 ⟨rfl, rfl⟩)
    | fail)
  refine wp_loop_rounds 2 ?_
  rw [rounds_succ]
  go_wp2
  rw [rounds_succ]
  go_wp2
  rw [conv2 w _ _ 49 52]
  rotate_left
  · kernel_rfl
  · kernel_rfl
  go_wp2
  go_ret2
  exact ⟨rfl, HB.out _⟩
set_option maxRecDepth 10000 in
set_option maxHeartbeats 800000 in
theorem fmt_21 (w : World) (hT : DT w) : Fmt 21 w := by
  unfold Fmt
  have HT := hid0 (fun W (hb : Below w.heap.size w W) => tz16 W (dt_later hT hb))
  have HB := hid0 (fun o : Obj => (Below.refl w.heap.size w).alloc (Nat.le_refl _) o)
  clear hT
  go_enter Tryz.func136, Tryz.ntmps136
  go_wp2_with (first
    | (go_at_call 166; refine (pow16 _).mono ?_; rintro e w1 ⟨rfl, rfl⟩)
    | (go_at_call 167; refine (HT.out _ (HB.out _)).mono ?_; rintro e w1 ⟨rfl, rfl⟩)
    | fail)
  refine wp_loop_rounds 2 ?_
  rw [rounds_succ]
  go_wp2
  rw [rounds_succ]
  go_wp2
  rw [conv2 w _ _ 49 53]
  rotate_left
  · kernel_rfl
  · kernel_rfl
  go_wp2
  go_ret2
  exact ⟨rfl, HB.out _⟩
set_option maxRecDepth 10000 in
set_option maxHeartbeats 800000 in
theorem fmt_22 (w : World) (hT : DT w) : Fmt 22 w := by
  unfold Fmt
  have HT := hid0 (fun W (hb : Below w.heap.size w W) => tz16 W (dt_later hT hb))
  have HB := hid0 (fun o : Obj => (Below.refl w.heap.size w).alloc (Nat.le_refl _) o)
  clear hT
  go_enter Tryz.func136, Tryz.ntmps136
  go_wp2_with (first
    | (go_at_call 166; refine (pow16 _).mono ?_; rintro e w1 ⟨rfl, rfl⟩)
    | (go_at_call 167; refine (HT.out _ (HB.out _)).mono ?_; rintro e w1 ⟨rfl, rfl⟩)
    | fail)
  refine wp_loop_rounds 2 ?_
  rw [rounds_succ]
  go_wp2
  rw [rounds_succ]
  go_wp2
  rw [conv2 w _ _ 49 54]
  rotate_left
  · kernel_rfl
  · kernel_rfl
  go_wp2
  go_ret2
  exact ⟨rfl, HB.out _⟩
set_option maxRecDepth 10000 in
set_option maxHeartbeats 800000 in
theorem fmt_23 (w : World) (hT : DT w) : Fmt 23 w := by
  unfold Fmt
  have HT := hid0 (fun W (hb : Below w.heap.size w W) => tz16 W (dt_later hT hb))
  have HB := hid0 (fun o : Obj => (Below.refl w.heap.size w).alloc (Nat.le_refl _) o)
  clear hT
  go_enter Tryz.func136, Tryz.ntmps136
  go_wp2_with (first
    | (go_at_call 166; refine (pow16 _).mono ?_; rintro e w1 ⟨rfl, rfl⟩)
    | (go_at_call 167; refine (HT.out _ (HB.out _)).mono ?_; rintro e w1 ⟨rfl, rfl⟩)
    | fail)
  refine wp_loop_rounds 2 ?_
  rw [rounds_succ]
  go_wp2
  rw [rounds_succ]
  go_wp2
  rw [conv2 w _ _ 49 55]
  rotate_left
  · kernel_rfl
  · kernel_rfl
  go_wp2
  go_ret2
  exact ⟨rfl, HB.out _⟩
set_option maxRecDepth 10000 in
set_option maxHeartbeats 800000 in
theorem fmt_24 (w : World) (hT : DT w) : Fmt 24 w := by
  unfold Fmt
  have HT := hid0 (fun W (hb : Below w.heap.size w W) => tz16 W (dt_later hT hb))
  have HB := hid0 (fun o : Obj => (Below.refl w.heap.size w).alloc (Nat.le_refl _) o)
  clear hT
  go_enter Tryz.func136, Tryz.ntmps136
  go_wp2_with (first
    | (go_at_call 166; refine (pow16 _).mono ?_; rintro e w1 ⟨rfl, rfl⟩)
    | (go_at_call 167; refine (HT.out _ (HB.out _)).mono ?_; rintro e w1 ⟨rfl, rfl⟩)
    | fail)
  refine wp_loop_rounds 2 ?_
  rw [rounds_succ]
  go_wp2
  rw [rounds_succ]
  go_wp2
  rw [conv2 w _ _ 49 56]
  rotate_left
  · kernel_rfl
  · kernel_rfl
  go_wp2
  go_ret2
  exact ⟨rfl, HB.out _⟩
set_option maxRecDepth 10000 in
set_option maxHeartbeats 800000 in
theorem fmt_25 (w : World) (hT : DT w) : Fmt 25 w := by
  unfold Fmt
  have HT := hid0 (fun W (hb : Below w.heap.size w W) => tz16 W (dt_later hT hb))
  have HB := hid0 (fun o : Obj => (Below.refl w.heap.size w).alloc (Nat.le_refl _) o)
  clear hT
  go_enter Tryz.func136, Tryz.ntmps136
  go_wp2_with (first
    | (go_at_call 166; refine (pow16 _).mono ?_; rintro e w1 ⟨rfl, rfl⟩)
    | (go_at_call 167; refine (HT.out _ (HB.out _)).mono ?_; rintro e w1 ⟨rfl, rfl⟩)
    | fail)
  refine wp_loop_rounds 2 ?_
  rw [rounds_succ]
  go_wp2
  rw [rounds_succ]
  go_wp2
  rw [conv2 w _ _ 49 57]
  rotate_left
  · kernel_rfl
  · kernel_rfl
  go_wp2
  go_ret2
  exact ⟨rfl, HB.out _⟩
set_option maxRecDepth 10000 in
set_option maxHeartbeats 800000 in
theorem fmt_26 (w : World) (hT : DT w) : Fmt 26 w := by
  unfold Fmt
  have HT := hid0 (fun W (hb : Below w.heap.size w W) => tz16 W (dt_later hT hb))
  have HB := hid0 (fun o : Obj => (Below.refl w.heap.size w).alloc (Nat.le_refl _) o)
  clear hT
  go_enter Tryz.func136, Tryz.ntmps136
  go_wp2_with (first
    | (go_at_call 166; refine (pow16 _).mono ?_; rintro e w1 ⟨rfl, rfl⟩)
    | (go_at_call 167; refine (HT.out _ (HB.out _)).mono ?_; rintro e w1 ⟨rfl, rfl⟩)
    | fail)
  refine wp_loop_rounds 2 ?_
  rw [rounds_succ]
  go_wp2
  rw [rounds_succ]
  go_wp2
  rw [conv2 w _ _ 49 97]
  rotate_left
  · kernel_rfl
  · kernel_rfl
  go_wp2
  go_ret2
  exact ⟨rfl, HB.out _⟩
set_option maxRecDepth 10000 in
set_option maxHeartbeats 800000 in
theorem fmt_27 (w : World) (hT : DT w) : Fmt 27 w := by
  unfold Fmt
  have HT := hid0 (fun W (hb : Below w.heap.size w W) => tz16 W (dt_later hT hb))
  have HB := hid0 (fun o : Obj => (Below.refl w.heap.size w).alloc (Nat.le_refl _) o)
  clear hT
  go_enter Tryz.func136, Tryz.ntmps136
  go_wp2_with (first
    | (go_at_call 166; refine (pow16 _).mono ?_; rintro e w1 ⟨rfl, rfl⟩)
    | (go_at_call 167; refine (HT.out _ (HB.out _)).mono ?_; rintro e w1 ⟨rfl, rfl⟩)
    | fail)
  refine wp_loop_rounds 2 ?_
  rw [rounds_succ]
  go_wp2
  rw [rounds_succ]
  go_wp2
  rw [conv2 w _ _ 49 98]
  rotate_left
  · kernel_rfl
  · kernel_rfl
  go_wp2
  go_ret2
  exact ⟨rfl, HB.out _⟩
set_option maxRecDepth 10000 in
set_option maxHeartbeats 800000 in
theorem fmt_28 (w : World) (hT : DT w) : Fmt 28 w := by
  unfold Fmt
  have HT := hid0 (fun W (hb : Below w.heap.size w W) => tz16 W (dt_later hT hb))
  have HB := hid0 (fun o : Obj => (Below.refl w.heap.size w).alloc (Nat.le_refl _) o)
  clear hT
  go_enter Tryz.func136, Tryz.ntmps136
  go_wp2_with (first
    | (go_at_call 166; refine (pow16 _).mono ?_; rintro e w1 ⟨rfl, rfl⟩)
    | (go_at_call 167; refine (HT.out _ (HB.out _)).mono ?_; rintro e w1 ⟨rfl, rfl⟩)
    | fail)
  refine wp_loop_rounds 2 ?_
  rw [rounds_succ]
  go_wp2
  rw [rounds_succ]
  go_wp2
  rw [conv2 w _ _ 49 99]
  rotate_left
  · kernel_rfl
  · kernel_rfl
  go_wp2
  go_ret2
  exact ⟨rfl, HB.out _⟩
set_option maxRecDepth 10000 in
set_option maxHeartbeats 800000 in
theorem fmt_29 (w : World) (hT : DT w) : Fmt 29 w := by
  unfold Fmt
  have HT := hid0 (fun W (hb : Below w.heap.size w W) => tz16 W (dt_later hT hb))
  have HB := hid0 (fun o : Obj => (Below.refl w.heap.size w).alloc (Nat.le_refl _) o)
  clear hT
  go_enter Tryz.func136, Tryz.ntmps136
  go_wp2_with (first
    | (go_at_call 166; refine (pow16 _).mono ?_; rintro e w1 ⟨rfl, rfl⟩)
    | (go_at_call 167; refine (HT.out _ (HB.out _)).mono ?_; rintro e w1 ⟨rfl, rfl⟩)
    | fail)
  refine wp_loop_rounds 2 ?_
  rw [rounds_succ]
  go_wp2
  rw [rounds_succ]
  go_wp2
  rw [conv2 w _ _ 49 100]
  rotate_left
  · kernel_rfl
  · kernel_rfl
  go_wp2
  go_ret2
  exact ⟨rfl, HB.out _⟩
set_option maxRecDepth 10000 in
set_option maxHeartbeats 800000 in
theorem fmt_30 (w : World) (hT : DT w) : Fmt 30 w := by
  unfold Fmt
  have HT := hid0 (fun W (hb : Below w.heap.size w W) => tz16 W (dt_later hT hb))
  have HB := hid0 (fun o : Obj => (Below.refl w.heap.size w).alloc (Nat.le_refl _) o)
  clear hT
  go_enter Tryz.func136, Tryz.ntmps136
  go_wp2_with (first
    | (go_at_call 166; refine (pow16 _).mono ?_; rintro e w1 ⟨rfl, rfl⟩)
    | (go_at_call 167; refine (HT.out _ (HB.out _)).mono ?_; rintro e w1 ⟨rfl, rfl⟩)
    | fail)
  refine wp_loop_rounds 2 ?_
  rw [rounds_succ]
  go_wp2
  rw [rounds_succ]
  go_wp2
  rw [conv2 w _ _ 49 101]
  rotate_left
  · kernel_rfl
  · kernel_rfl
  go_wp2
  go_ret2
  exact ⟨rfl, HB.out _⟩
set_option maxRecDepth 10000 in
set_option maxHeartbeats 800000 in
theorem fmt_31 (w : World) (hT : DT w) : Fmt 31 w := by
  unfold Fmt
  have HT := hid0 (fun W (hb : Below w.heap.size w W) => tz16 W (dt_later hT hb))
  have HB := hid0 (fun o : Obj => (Below.refl w.heap.size w).alloc (Nat.le_refl _) o)
  clear hT
  go_enter Tryz.func136, Tryz.ntmps136
  go_wp2_with (first
    | (go_at_call 166; refine (pow16 _).mono ?_; rintro e w1 ⟨rfl, rfl⟩)
    | (go_at_call 167; refine (HT.out _ (HB.out _)).mono ?_; rintro e w1 ⟨rfl, rfl⟩)
    | fail)
  refine wp_loop_rounds 2 ?_
  rw [rounds_succ]
  go_wp2
  rw [rounds_succ]
  go_wp2
  rw [conv2 w _ _ 49 102]
  rotate_left
  · kernel_rfl
  · kernel_rfl
  go_wp2
  go_ret2
  exact ⟨rfl, HB.out _⟩
set_option maxRecDepth 10000 in
set_option maxHeartbeats 800000 in
theorem fmt_127 (w : World) (hT : DT w) : Fmt 127 w := by
  unfold Fmt
  have HT := hid0 (fun W (hb : Below w.heap.size w W) => tz16 W (dt_later hT hb))
  have HB := hid0 (fun o : Obj => (Below.refl w.heap.size w).alloc (Nat.le_refl _) o)
  clear hT
  go_enter Tryz.func136, Tryz.ntmps136
  go_wp2_with (first
    | (go_at_call 166; refine (pow16 _).mono ?_; rintro e w1 ⟨rfl, rfl⟩)
    | (go_at_call 167; refine (HT.out _ (HB.out _)).mono ?_; rintro e w1 ⟨rfl, rfl⟩)
    | fail)
  refine wp_loop_rounds 2 ?_
  rw [rounds_succ]
  go_wp2
  rw [rounds_succ]
  go_wp2
  rw [conv2 w _ _ 55 102]
  rotate_left
  · kernel_rfl
  · kernel_rfl
  go_wp2
  go_ret2
  exact ⟨rfl, HB.out _⟩
theorem fmt_any (n : Nat) (hn : n < 32 ∨ n = 127) (w : World) (hT : DT w) : Fmt n w := by
  have h : n = 0 ∨ n = 1 ∨ n = 2 ∨ n = 3 ∨ n = 4 ∨ n = 5 ∨ n = 6 ∨ n = 7 ∨ n = 8 ∨ n = 9 ∨ n = 10 ∨ n = 11 ∨ n = 12 ∨ n = 13 ∨ n = 14 ∨ n = 15 ∨ n = 16 ∨ n = 17 ∨ n = 18 ∨ n = 19 ∨ n = 20 ∨ n = 21 ∨ n = 22 ∨ n = 23 ∨ n = 24 ∨ n = 25 ∨ n = 26 ∨ n = 27 ∨ n = 28 ∨ n = 29 ∨ n = 30 ∨ n = 31 ∨ n = 127 := by omega
  rcases h with rfl | rfl | rfl | rfl | rfl | rfl | rfl | rfl | rfl | rfl | rfl | rfl | rfl | rfl | rfl | rfl | rfl | rfl | rfl | rfl | rfl | rfl | rfl | rfl | rfl | rfl | rfl | rfl | rfl | rfl | rfl | rfl | rfl
  · exact fmt_0 w hT
  · exact fmt_1 w hT
  · exact fmt_2 w hT
  · exact fmt_3 w hT
  · exact fmt_4 w hT
  · exact fmt_5 w hT
  · exact fmt_6 w hT
  · exact fmt_7 w hT
  · exact fmt_8 w hT
  · exact fmt_9 w hT
  · exact fmt_10 w hT
  · exact fmt_11 w hT
  · exact fmt_12 w hT
  · exact fmt_13 w hT
  · exact fmt_14 w hT
  · exact fmt_15 w hT
  · exact fmt_16 w hT
  · exact fmt_17 w hT
  · exact fmt_18 w hT
  · exact fmt_19 w hT
  · exact fmt_20 w hT
  · exact fmt_21 w hT
  · exact fmt_22 w hT
  · exact fmt_23 w hT
  · exact fmt_24 w hT
  · exact fmt_25 w hT
  · exact fmt_26 w hT
  · exact fmt_27 w hT
  · exact fmt_28 w hT
  · exact fmt_29 w hT
  · exact fmt_30 w hT
  · exact fmt_31 w hT
  · exact fmt_127 w hT
set_option maxRecDepth 10000 in
set_option maxHeartbeats 400000 in
theorem formatInt_any (n : Nat) (hn : n < 32 ∨ n = 127) (w : World) (hT : DT w) : Calls Tryz.prog 72 #[.int .i64 (n : Int), .int .i64 16] w fun e w' => e = .returned (.string ⟨(hexL n).toArray⟩) ∧ Below w.heap.size w w' := by
  have hI : Calls Tryz.prog 98 #[.int .i64 (n : Int), .int .i64 16] w fun e w' => e = .returned (.string ⟨(hexL n).toArray⟩) ∧ Below w.heap.size w w' := by
    have hF := fmt_any n hn w hT
    unfold Fmt at hF
    have hnI : ¬ (n : Int) < 0 := by omega
    have hnu : IntKind.u64.wrap (n : Int) = (n : Int) := by rw [IntKind.wrap_u64]; omega
    have HF := hid0 hF
    generalize (hexL n).toArray = X at *
    clear hF hT hn
    go_enter Tryz.func98, Tryz.ntmps98
    go_wp2_with (go_at_call 136; refine HF.out.mono ?_; rintro e w1 ⟨rfl, hb⟩; have HB := hid0 hb; clear hb)
    go_ret
    exact ⟨rfl, HB.out⟩
  have HI := hid0 hI
  generalize (hexL n).toArray = X at *
  clear hI hT hn
  go_enter Tryz.func72, Tryz.ntmps72
  go_wp2_with (go_at_call 98; refine HI.out.mono ?_; rintro e w1 ⟨rfl, hb⟩; have HB := hid0 hb; clear hb)
  go_ret
  exact ⟨rfl, HB.out⟩
end Go.Proofs.YtpkfcadihgbleaaGreatDoor
namespace Go.Proofs.YtpkfcadihgbleaaGreatDoor
open Go.RowKit Go.Shelf
attribute [local go_sem] Oper.semAt_some
set_option maxRecDepth 100000 in
set_option maxHeartbeats 1000000 in
theorem runeCount_any (s : ByteArray) (w : World) (hs : s.size < 9223372036854775807) :
    Calls Tryz.prog 58 #[.string s] w fun e w' => ∃ c : Nat, c ≤ s.size ∧ e = .returned (.int .i64 (c : Int)) ∧ Below w.heap.size w w' := by
  go_enter Tryz.func58, Tryz.ntmps58
  go_wp2
  go_loopw [2] (fun n w' => ∃ (pos b acc : Nat), w' = w.iter s pos ∧ n = .int .i64 acc ∧ acc + Lib.runeCountFrom s b pos = Lib.runeCount s ∧ s.size ≤ pos + b ∧ acc ≤ pos) (fun _ w' => s.size - w'.iterPos w.heap.size)
  case atStart => exact ⟨0, s.size, 0, rfl, rfl, by simp [Lib.runeCount], by omega, Nat.le_refl _⟩
  case round =>
    obtain ⟨pos, b, acc, rfl, rfl, hc, hb, ha⟩ := hrel
    by_cases hp : pos < s.size
    · have hnx : ∀ ty, (Instr.next (.pointer (some ⟨w.heap.size, 0, none⟩)) true ty).run Tryz.prog (w.iter s pos) = _ := fun ty => run_next_any w s pos ty hp
      have hwd := Lib.decode_width_pos s pos hp
      go_wp2
      go_roundw
      case rel =>
        cases b with
        | zero => omega
        | succ b =>
          refine ⟨pos + (Utf8.decode s pos).2, b, acc + 1, rfl, by go_num, ?_, by omega, by omega⟩
          rw [← hc]
          simp [Lib.runeCountFrom, hp]
          omega
      case measure =>
        simp
        omega
    · have hnx : ∀ ty, (Instr.next (.pointer (some ⟨w.heap.size, 0, none⟩)) true ty).run Tryz.prog (w.iter s pos) = _ := fun ty => run_next_end w s pos ty hp
      go_wp2
      go_ret
      have hle := Lib.runeCount_le s
      exact ⟨acc, by omega, rfl, (Below.refl _ _).alloc (Nat.le_refl _) _⟩
set_option maxRecDepth 100000 in
set_option maxHeartbeats 1000000 in
theorem all_in (n : Nat) (s : ByteArray) (w : World) :
    CallsIn Fence.wide n Tryz.prog 59 #[.string s] w fun e w' => e = .returned (.func (.func 93) #[] #[.pointer (some ⟨w.heap.size, 0, none⟩)]) ∧ w' = w.alloc (.cells #[.string s] 9) := by
  refine callsIn_of_wp Tryz.func59 rfl trivial ?_ rfl
  simp only [Tryz.ntmps59, List.size_toArray, List.length_cons, List.length_nil, Nat.reduceAdd, Nat.reduceSub, Array.replicate_succ, Array.replicate_zero, List.push_toArray, List.append_toArray, List.nil_append, List.cons_append]
  gi_wp2
  go_ret
  exact ⟨rfl, rfl⟩
/-- The block to which the slice in a box points. -/
def rowIn (bF : Nat) (W : World) : Option Nat := match W.heap[bF]? with
  | some (.cells cs _ _) => (cs[0]?).bind Value.ownBlock
  | _ => none
def InR (bF : Nat) (W : World) : Prop := ∀ g, rowIn bF W = some g → g < W.heap.size
/-- What a round keeps: all cells but the box and the row to which it points. -/
structure KeepsBut (bF : Nat) (W W' : World) : Prop where
  size : W.heap.size ≤ W'.heap.size
  row : rowIn bF W' = rowIn bF W ∨ ∀ g, rowIn bF W' = some g → W.heap.size ≤ g
  inR : InR bF W → InR bF W'
  kept : ∀ i c t z, W.heap[i]? = some (.cells c t z) → i ≠ bF → some i ≠ rowIn bF W → W'.heap[i]? = some (.cells c t z)
theorem KeepsBut.trans {bF : Nat} {A B C : World} (h1 : KeepsBut bF A B) (h2 : KeepsBut bF B C) : KeepsBut bF A C where
  size := Nat.le_trans h1.size h2.size
  row := by
    rcases h2.row with h | h
    · rcases h1.row with h' | h'
      · exact .inl (h.trans h')
      · exact .inr (fun g hg => h' g (h ▸ hg))
    · exact .inr (fun g hg => Nat.le_trans h1.size (h g hg))
  inR := fun h => h2.inR (h1.inR h)
  kept := fun i c t z hi hn hr => h2.kept i c t z (h1.kept i c t z hi hn hr) hn (by
    have hlt := (Array.getElem?_eq_some_iff.1 hi).1
    rcases h1.row with h | h
    · rw [h]; exact hr
    · intro e
      have := h i e.symm
      omega)
theorem rowIn_same {bF : Nat} {W W' : World} (h : W'.heap[bF]? = W.heap[bF]?) : rowIn bF W' = rowIn bF W := by rw [rowIn, rowIn, h]
theorem KeepsBut.putObj {bF n : Nat} (hF : bF < n) (W : World) (l : Nat) (o o' : Obj) (hl : n ≤ l) (ho : W.heap[l]? = some o) (hc : o.isCells = false) : KeepsBut bF W (W.putObj l o') := by
  have hrow : rowIn bF (W.putObj l o') = rowIn bF W := rowIn_same (World.putObj_heap_other (by omega))
  refine ⟨by simp, .inl hrow, fun h g hg => ?_, fun i c t z hi _ _ => ?_⟩
  · have := h g (hrow ▸ hg)
    simpa using this
  · rw [World.putObj_heap_other (fun e => by subst e; rw [ho] at hi; simp at hi; subst hi; simp [Obj.isCells] at hc)]
    exact hi
theorem SeqAt.of_block {W W' : World} (h : SeqAt W) (hb : W'.heap[15]? = W.heap[15]?) : SeqAt W' := fun i hi k hk => (World.cell?_of_block (a := ⟨15, _, none⟩) hb).trans (h i hi k hk)
theorem SeqAt.block {W : World} (h : SeqAt W) : ∃ c t z, W.heap[15]? = some (.cells c t z) := by
  have h1 := (h.row 0 (by omega)).1
  unfold World.cell? at h1
  split at h1
  · rename_i c t z he
    exact ⟨c, t, z, he⟩
  · simp at h1
theorem grownBy_of_below {W W' : World} (h : Below W.heap.size W W') : W.grownBy W' none := ⟨h.os, h.tape, h.output, h.size, fun i hi _ => h.block i hi⟩
set_option maxRecDepth 100000 in
set_option maxHeartbeats 2000000 in
theorem all1_in (n : Nat) (hn : 1 ≤ n) (l Bn bF B : Nat) (s : ByteArray) (hs : s.size ≤ 4194400) (J Jx : List (Int × Nat × Nat) → World → Prop) (hJ : AbidesFrom B J)
    (hY : ∀ pre x W, J pre W → pre.length < (unitsOf s.data.toList).length → YieldAt Fence.wide (n - 1) Tryz.prog l #[unitVal x.1 x.2.1 x.2.2] W fun e W' =>
      (e = .returned (.bool true) ∧ J (pre ++ [x]) W' ∧ KeepsBut bF W W') ∨ (e = .returned (.bool false) ∧ Jx (pre ++ [x]) W'))
    (W : World) (hBn : W.heap[Bn]? = some (.cells #[.string s] 9 (0, 0))) (hT : SeqAt W) (hF : bF < W.heap.size) (hBF : Bn ≠ bF) (hgF : 15 ≠ bF) (hIn : InR bF W) (hr1 : rowIn bF W ≠ some Bn) (hr2 : rowIn bF W ≠ some 15) (h0 : J [] W) :
    CallsIn Fence.wide n Tryz.prog 93 #[.func (.yield l) #[] #[], .pointer (some ⟨Bn, 0, none⟩)] W fun e W' => (∃ v, e = .returned v) ∧
      ((∃ ys, ys = unitsOf s.data.toList ∧ J ys W') ∨ (∃ pre, pre <+: unitsOf s.data.toList ∧ Jx pre W')) := by
  refine callsIn_of_wp Tryz.func93 rfl trivial ?_ rfl
  simp only [Tryz.ntmps93, List.size_toArray, List.length_cons, List.length_nil, Nat.reduceAdd, Nat.reduceSub, Array.replicate_succ, Array.replicate_zero, List.push_toArray, List.append_toArray, List.nil_append, List.cons_append]
  gi_wp2
  have hlen : s.data.toList.length = s.size := bsize s
  have HYd := hid hY
  have HJd := hid hJ
  clear hY hJ
  gi_loopw [3] (fun i wr => ∃ (k : Nat) (pre : List (Int × Nat × Nat)), k ≤ s.size ∧ i = .int .i64 (k : Int) ∧ unitsOf s.data.toList = pre ++ unitsAt s.data.toList k ∧ J pre wr ∧
      wr.heap[Bn]? = some (.cells #[.string s] 9 (0, 0)) ∧ SeqAt wr ∧ bF < wr.heap.size ∧ InR bF wr ∧ rowIn bF wr ≠ some Bn ∧ rowIn bF wr ≠ some 15)
    (fun i _ => s.size - (intOf i).toNat)
  case atStart => exact ⟨0, [], Nat.zero_le _, rfl, rfl, h0, hBn, hT, hF, hIn, hr1, hr2⟩
  case round =>
    clear hBn hT hF hIn hr1 hr2 h0
    obtain ⟨k, pre, hk, rfl, hpre, hJs, hBn, hT, hF, hIn, hr1, hr2⟩ := hrel
    have hcell : wr.cell? ⟨Bn, 0, none⟩ = some (.string s) := by rw [cell_of_row wr Bn 0 _ _ _ hBn]; rfl
    have HPre := hid hpre
    have HJs := hid hJs
    have HBn := hid hBn
    have HT := hid hT
    have HIn := hid hIn
    have HR1 := hid hr1
    have HR2 := hid hr2
    clear hpre hJs hBn hT hIn hr1 hr2
    by_cases hlt : k < s.size
    · have hl := drop_cons s k hlt
      have hsz1 := uni_size s[k] (s.data.toList.drop (k + 1))
      have hbd := uni_bound s[k] (s.data.toList.drop (k + 1))
      rw [← hl] at hsz1 hbd
      have hll : (s.data.toList.drop (k + 1)).length = s.size - (k + 1) := by rw [List.length_drop, hlen]
      rw [hll] at hsz1
      have HU : Hid (unitsAt s.data.toList k = ((uniOf (s.data.toList.drop k)).1, k, k + (uniOf (s.data.toList.drop k)).2) :: unitsAt s.data.toList (k + (uniOf (s.data.toList.drop k)).2)) := unitsAt_step _ _ (by omega)
      have HC := hid (unitAt_any s k hlt (by omega) wr HT.out)
      clear hl hll hlen
      generalize (uniOf (s.data.toList.drop k)).1 = p at *
      generalize (uniOf (s.data.toList.drop k)).2 = m at *
      have hpl : pre.length < (unitsOf s.data.toList).length := by rw [HPre.out, HU.out]; simp
      have HPl := hid hpl
      clear hpl
      gi_wp2_with (refine ⟨trivial, ?_⟩; gi_at_call 94; refine (callsIn_wide.2 HC.out).mono ?_; rintro e w2 ⟨rfl, hb⟩; simp only [unitVal]; have hw3 : Below wr.heap.size wr (w2.alloc (.cells #[.int .i64 p, .int .i64 (k : Int), .int .i64 ((k : Int) + (m : Int))] 77)) := (hb.alloc hb.size _); obtain ⟨fn, tmps, assign, body, hy, hR⟩ := HYd.out pre (p, k, k + m) (w2.alloc (.cells #[.int .i64 p, .int .i64 (k : Int), .int .i64 ((k : Int) + (m : Int))] 77)) (HJd.out _ _ _ none HJs.out (grownBy_of_below hw3) (fun r e => by cases e)) HPl.out; dsimp only [unitVal] at hy; simp only [Int.natCast_add] at hy; have HRd := hid hR; clear hR)
      have hu : (w2.alloc (.cells #[.int .i64 p, .int .i64 (k : Int), .int .i64 ((k : Int) + (m : Int))] 77)).heap[w2.heap.size]? = some (.cells #[.int .i64 p, .int .i64 (k : Int), .int .i64 ((k : Int) + (m : Int))] 77 (0, 0)) := heap_alloc_new _ _
      have HU3 := hid hu
      have hrow : rowIn bF (w2.alloc (.cells #[.int .i64 p, .int .i64 (k : Int), .int .i64 ((k : Int) + (m : Int))] 77)) = rowIn bF wr := rowIn_same (hw3.block bF hF)
      have HRow := hid hrow
      have HW3 := hid hw3
      have hin : InR bF (w2.alloc (.cells #[.int .i64 p, .int .i64 (k : Int), .int .i64 ((k : Int) + (m : Int))] 77)) := fun g hg => Nat.lt_of_lt_of_le (HIn.out g (hrow ▸ hg)) hw3.size
      have HIn3 := hid hin
      have hsz2 := hb.size
      clear hu hrow hw3 hin hy hb HC
      refine HRd.out.mono ?_
      rintro e W3 (⟨rfl, hJ3, hk3⟩ | ⟨rfl, hJx3⟩)
      · have hq3 : W3.heap[w2.heap.size]? = _ := hk3.kept w2.heap.size _ _ _ HU3.out (by omega) (by rw [HRow.out]; intro e; have := HIn.out _ e.symm; omega)
        obtain ⟨⟨_, _, c2⟩, _⟩ := row3 hq3
        have hbn3 : W3.heap[Bn]? = _ := hk3.kept Bn _ _ _ ((HW3.out.block Bn (Array.getElem?_eq_some_iff.1 HBn.out).1).trans HBn.out) hBF (by rw [HRow.out]; exact fun e => HR1.out e.symm)
        obtain ⟨ct, tt, zt, htt⟩ := HT.out.block
        have htt3 : W3.heap[15]? = _ := hk3.kept _ _ _ _ ((HW3.out.block _ HT.out.pos).trans htt) hgF (by rw [HRow.out]; exact fun e => HR2.out e.symm)
        have HT3 := hid (HT.out.of_block (W' := W3) (htt3.trans htt.symm))
        have HBn3 := hid hbn3
        have HI3 := hid (hk3.inR HIn3.out)
        have hs3 : wr.heap.size ≤ W3.heap.size := Nat.le_trans HW3.out.size hk3.size
        have hrow3 := hk3.row
        rw [HRow.out] at hrow3
        have HRW : Hid (rowIn bF W3 ≠ some Bn ∧ rowIn bF W3 ≠ some 15) := by
          have hb1 := (Array.getElem?_eq_some_iff.1 HBn.out).1
          have hb2 := HT.out.pos
          rcases hrow3 with h | h
          · rw [h]; exact ⟨HR1.out, HR2.out⟩
          · exact ⟨fun e => by have := h _ e; have := HW3.out.size; omega, fun e => by have := h _ e; have := HW3.out.size; omega⟩
        have HJ3 := hid hJ3
        clear hq3 hbn3 htt htt3 hrow3 hJ3 hk3
        gi_wp2
        go_roundw
        case rel => exact ⟨k + m, pre ++ [(p, k, k + m)], by omega, by go_num, by rw [HPre.out, HU.out]; simp, HJ3.out, HBn3.out, HT3.out, by omega, HI3.out, HRW.out.1, HRW.out.2⟩
        case measure => simp [intOf]; omega
      · gi_wp2
        refine bodyPost_ret (results_none rfl _ _ _) rfl ?_
        exact ⟨⟨_, rfl⟩, .inr ⟨pre ++ [(p, k, k + m)], ⟨unitsAt s.data.toList (k + m), by rw [HPre.out, HU.out]; simp⟩, hJx3⟩⟩
    · gi_wp2
      go_end0
      have hkk : unitsAt s.data.toList k = [] := unitsAt_end _ _ (by omega)
      exact ⟨⟨_, rfl⟩, .inl ⟨pre, by rw [HPre.out, hkk, List.append_nil], HJs.out⟩⟩
end Go.Proofs.YtpkfcadihgbleaaGreatDoor
