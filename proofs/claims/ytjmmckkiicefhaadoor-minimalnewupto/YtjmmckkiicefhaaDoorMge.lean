/-
  MjIW2, MjJW, MjFW, MjGM, ShelfM, MjKW, MjLM, MjGW, MjMW.
-/
import Derived.Test.YtjmmckkiicefhaaDoorMgd
import Derived.Shelf.Sort.Plain
import Derived.Shelf.Slices.CompactI
import Derived.Shelf.Slices.Clone
import Derived.Ground.Names2Prog
import Derived.Test.YtjmmckkiicefhaaDoorProg
import Derived.Sort.OwnSortedInts
import Derived.Lib.OwnBridge
import Derived.Shelf.Slices.In.SortNone
namespace Go.Proofs.YtjmmckkiicefhaaDoor
open Go.RowKit Go.Shelf
theorem Oth1.below2 {W W' : World} {G lo : Nat} (ho : Oth1 W W' G) (hl : lo ≤ G) : Below lo W W' := ⟨ho.os, ho.tape, ho.output, by rw [ho.size]; exact Nat.le_refl _, fun k hk => ho.oth k (by omega)⟩
/-- The cells by their states, in memory. -/
structure InB (W : World) (lo IB CB EB N n1 : Nat) (ce en : Nat → Nat) : Prop where
  blk : W.heap[IB]? = some (.cells #[.slice (some ⟨CB, 0, none⟩) N N, .slice (some ⟨EB, 0, none⟩) n1 n1] 84 (0, 0))
  ce' : Ov W CB N ce
  en' : Ov W EB n1 en
  ne : IB ≠ CB ∧ IB ≠ EB ∧ CB ≠ EB
  lo' : lo ≤ IB ∧ lo ≤ CB ∧ lo ≤ EB
section
variable {W W' : World} {lo IB CB EB N n1 : Nat} {ce en : Nat → Nat}
theorem InB.cell (h : InB W lo IB CB EB N n1 ce en) : W.cell? ⟨IB, 0, none⟩ = some (.slice (some ⟨CB, 0, none⟩) N N) ∧ W.cell? ⟨IB, 1, none⟩ = some (.slice (some ⟨EB, 0, none⟩) n1 n1) := by
  refine ⟨?_, ?_⟩ <;> (rw [cell_of_row _ _ _ _ _ _ h.blk]; rfl)
theorem InB.setE (h : InB W lo IB CB EB N n1 ce en) (t v : Nat) : InB (W.setCell ⟨EB, t, none⟩ (.int .i64 (v : Int))) lo IB CB EB N n1 ce (putF en t v) ∧ Below lo W (W.setCell ⟨EB, t, none⟩ (.int .i64 (v : Int))) := by
  obtain ⟨a, b, c⟩ := h.ne
  have k := Oth1.setCell W EB t (.int .i64 (v : Int))
  exact ⟨⟨(k.oth _ b).trans h.blk, h.ce'.keep (k.oth _ c), h.en'.put v, h.ne, h.lo'⟩, k.below2 h.lo'.2.2⟩
theorem InB.setC (h : InB W lo IB CB EB N n1 ce en) (t v : Nat) : InB (W.setCell ⟨CB, t, none⟩ (.int .i64 (v : Int))) lo IB CB EB N n1 (putF ce t v) en ∧ Below lo W (W.setCell ⟨CB, t, none⟩ (.int .i64 (v : Int))) := by
  obtain ⟨a, b, c⟩ := h.ne
  have k := Oth1.setCell W CB t (.int .i64 (v : Int))
  exact ⟨⟨(k.oth _ a).trans h.blk, h.ce'.put v, h.en'.keep (k.oth _ (Ne.symm c)), h.ne, h.lo'⟩, k.below2 h.lo'.2.1⟩
theorem InB.drewN (h : InB W lo IB CB EB N n1 ce en) (k : Nat) : InB (W.drewN k) lo IB CB EB N n1 ce en := ⟨h.blk, h.ce'.keep rfl, h.en'.keep rfl, h.ne, h.lo'⟩
theorem InB.past (h : InB W lo IB CB EB N n1 ce en) (hb : Below W.heap.size W W') : InB W' lo IB CB EB N n1 ce en := ⟨(hb.block _ (Array.getElem?_eq_some_iff.1 h.blk).1).trans h.blk, h.ce'.keep (hb.block _ h.ce'.lt), h.en'.keep (hb.block _ h.en'.lt), h.ne, h.lo'⟩
theorem InB.congr (h : InB W lo IB CB EB N n1 ce en) {en2 : Nat → Nat} (e : ∀ t, t < n1 → en t = en2 t) : InB W lo IB CB EB N n1 ce en2 := ⟨h.blk, h.ce', h.en'.congr2 e, h.ne, h.lo'⟩
end
/-- Three blocks that were made one behind the other. -/
theorem three_mk (w : World) (o0 o1 o2 : Obj) : (((w.alloc o0).alloc o1).alloc o2).drew.heap[w.heap.size]? = some o0 ∧ (((w.alloc o0).alloc o1).alloc o2).drew.heap[w.heap.size + 1]? = some o1 ∧ (((w.alloc o0).alloc o1).alloc o2).drew.heap[w.heap.size + 1 + 1]? = some o2 ∧ Below w.heap.size w (((w.alloc o0).alloc o1).alloc o2).drew := by
  have s1 : (w.alloc o0).heap.size = w.heap.size + 1 := by simp
  have s2 : ((w.alloc o0).alloc o1).heap.size = w.heap.size + 1 + 1 := by simp
  have n0 := heap_alloc_new w o0
  have n1 := heap_alloc_new (w.alloc o0) o1
  have n2 := heap_alloc_new ((w.alloc o0).alloc o1) o2
  rw [s1] at n1
  rw [s2] at n2
  have b1 := ((Below.refl w.heap.size w).alloc (Nat.le_refl _) o0)
  have b2 := b1.alloc (by omega) o1
  have b3 := b2.alloc (by omega) o2
  exact ⟨((Below.heap_alloc _ _ _ (by omega)).trans (Below.heap_alloc _ _ _ (by omega))).trans n0, (Below.heap_alloc _ _ _ (by omega)).trans n1, n2, ⟨b3.os, b3.tape, b3.output, b3.size, b3.block⟩⟩
set_option maxRecDepth 100000 in
set_option maxHeartbeats 1600000 in
theorem into_any (X m n : Nat) (aN : Option Addr) (cN : Nat) (FN : List Int) (aO : Option Addr) (cO : Nat) (OL : List (List Int)) (F : Nat → Nat) (w : World) (hw : Wh w X m aN cN FN aO cO OL) (hn : OL.length = n) (hnb : n ≤ 2200000) (hNb : FN.length ≤ 2200000) (hF : ∀ c (h : c < FN.length), FN[c] = ((F c : Nat) : Int) ∧ F c < n) :
    Calls Tryd.prog 34 #[.pointer (some ⟨X, 0, none⟩)] w fun e w' => ∃ IB, e = .returned (.pointer (some ⟨IB, 0, none⟩)) ∧ (∃ CB EB ce, InB w' w.heap.size IB CB EB FN.length (n + 1) ce (fun t => if t < n then preC F FN.length (t + 1) else FN.length) ∧ Into F n FN.length FN.length ce) ∧ Below w.heap.size w w' := by
  have HW : Hid (∀ V, Below w.heap.size w V → Wh V X m aN cN FN aO cO OL) := hid0 (fun V hV => hw.past hV)
  have HF := hid0 hF
  obtain ⟨N, hN⟩ : ∃ N, N = FN.length := ⟨_, rfl⟩
  have hNb2 : N ≤ 2200000 := by omega
  have HN := hid0 hN
  have hmk : ∀ V : World, (Instr.makeSlice 25 (.int .i64 (N : Int)) (.int .i64 (N : Int))).run Tryd.prog V = .ok (.slice (some ⟨V.heap.size, 0, none⟩) N N) (V.alloc (zerN N)) := fun V => make_run N V (by omega)
  have hmk2 : ∀ V : World, (Instr.makeSlice 25 (.int .i64 ((n + 1 : Nat) : Int)) (.int .i64 ((n + 1 : Nat) : Int))).run Tryd.prog V = .ok (.slice (some ⟨V.heap.size, 0, none⟩) (n + 1) (n + 1)) (V.alloc (zerN (n + 1))) := fun V => make_run (n + 1) V (by omega)
  obtain ⟨_, x1, x2⟩ := hw.cell
  rw [← hN] at x1
  rw [hn] at x2
  obtain ⟨n1, hn1⟩ : ∃ n1, n1 = n + 1 := ⟨_, rfl⟩
  rw [← hn1] at hmk2
  have hn1I : (n : Int) + 1 = (n1 : Int) := by omega
  have hn1W : IntKind.i64.wrap (n1 : Int) = (n1 : Int) := by simp [IntKind.wrap, IntKind.bits, IntKind.signed]; omega
  have HN1 := hid0 hn1
  have HOl := hid0 hn
  have x1A : ∀ o, (w.alloc o).cell? ⟨X, 1, none⟩ = some (.slice aN N cN) := fun o => cell_alloc x1 o
  have x2A : ∀ o, (w.alloc o).cell? ⟨X, 2, none⟩ = some (.slice aO n cO) := fun o => cell_alloc x2 o
  have hFall : ∀ d, d < N → F d < n := fun d hd => (hF d (by omega)).2
  have HFa := hid0 hFall
  have HPa := hid0 (preC_all N hFall)
  clear hw hF hN hn hn1 hFall
  go_enter Tryd.func34, Tryd.ntmps34
  go_upto_region 1 with (fail)
  go_cut [3] from 9 (fun p3 wx => ∃ IB CB EB : Nat, p3 = .pointer (some ⟨IB, 0, none⟩) ∧ Hid (InB wx w.heap.size IB CB EB N n1 (fun _ => 0) (fun _ => 0)) ∧ Hid (Below w.heap.size w wx))
  case first =>
    go_wp2_with fail
    go_region
    all_goals
      go_wp2_with fail
      go_meet
      case rel =>
        have T := three_mk w
        refine ⟨_, _, _, rfl, hid0 ⟨(T _ _ _).2.2.1, ⟨?_⟩, ⟨?_⟩, by omega, by omega⟩, hid0 (T _ _ _).2.2.2⟩
        all_goals first | exact (T _ _ _).1 | exact (T _ _ _).2.1
  case rest =>
    obtain ⟨IB, CB, EB, rfl, HI, HB⟩ := hcut
    clear hmk hmk2 x1A x2A x1 x2
    have HX : Hid (∀ V, Below w.heap.size w V → V.cell? ⟨X, 1, none⟩ = some (.slice aN N cN) ∧ V.cell? ⟨X, 2, none⟩ = some (.slice aO n cO) ∧ IA V aN FN) := hid0 (fun V hV => by
      obtain ⟨_, y1, y2⟩ := (HW.out V hV).cell
      rw [← HN.out] at y1
      rw [HOl.out] at y2
      exact ⟨y1, y2, (HW.out V hV).nx⟩)
    obtain ⟨x1, x2, _⟩ := HX.out _ HB.out
    have HI0 : Hid (InB wc w.heap.size IB CB EB N n1 (fun _ => 0) (fun t => if t = 0 then 0 else cuF F 0 (t - 1))) := hid0 (HI.out.congr (fun t _ => by split <;> rfl))
    go_wp2
    clear x1 x2
    go_loopw [29] (fun i wr => ∃ k : Nat, k ≤ N ∧ i = .int .i64 (k : Int) ∧ Hid (InB wr w.heap.size IB CB EB N n1 (fun _ => 0) (fun t => if t = 0 then 0 else cuF F k (t - 1))) ∧ Hid (Below w.heap.size w wr)) (fun i _ => N - (intOf i).toNat)
    case atStart => exact ⟨0, Nat.zero_le _, rfl, HI0, HB⟩
    case round =>
      clear HI HI0 HB
      obtain ⟨k, hk, rfl, HI, HB⟩ := hrel
      obtain ⟨x1, x2, xn⟩ := HX.out _ HB.out
      by_cases hlt : k < N
      · have hkI : (k : Int) < (N : Int) := by omega
        have hk0 : (0 : Int) ≤ (k : Int) := by omega
        have hkF : k < FN.length := by rw [← HN.out]; exact hlt
        obtain ⟨b, off, hab, _, d1⟩ := xn.at' k hkF
        subst hab
        rw [(HF.out k hkF).1] at d1
        have hyn := HFa.out k hlt
        obtain ⟨y, hy⟩ : ∃ y, y = F k := ⟨_, rfl⟩
        rw [← hy] at d1 hyn
        obtain ⟨y1, hy1⟩ : ∃ y1, y1 = y + 1 := ⟨_, rfl⟩
        have hyn1 : y1 < n1 := by have := HN1.out; omega
        have hy1I : (y : Int) + 1 = (y1 : Int) := by omega
        have hy1W : IntKind.i64.wrap (y1 : Int) = (y1 : Int) := by simp [IntKind.wrap, IntKind.bits, IntKind.signed]; omega
        have hy1l : (y1 : Int) < (n1 : Int) := by omega
        have hy10 : (0 : Int) ≤ (y1 : Int) := by omega
        obtain ⟨_, e1⟩ := HI.out.cell
        have dv := HI.out.en'.cell hyn1
        have fv := HI.out.en'.frozen y1
        have hcv := cuF_le F y k
        have hv0e : (if y1 = 0 then 0 else cuF F k (y1 - 1)) = cuF F k y := by rw [if_neg (by omega), hy1]; rfl
        simp only [hv0e] at dv
        obtain ⟨v0, hv0⟩ : ∃ v0, v0 = cuF F k y := ⟨_, rfl⟩
        rw [← hv0] at dv hcv
        obtain ⟨v1, hv1⟩ : ∃ v1, v1 = v0 + 1 := ⟨_, rfl⟩
        have hv1I : (v0 : Int) + 1 = (v1 : Int) := by omega
        have hv1W : IntKind.i64.wrap (v1 : Int) = (v1 : Int) := by simp [IntKind.wrap, IntKind.bits, IntKind.signed]; omega
        obtain ⟨x3, hx3⟩ : ∃ x3, x3 = wr.setCell ⟨EB, y1, none⟩ (.int .i64 (v1 : Int)) := ⟨_, rfl⟩
        obtain ⟨hI2, hB2⟩ := HI.out.setE y1 v1
        rw [← hx3] at hI2 hB2
        have HI2 : Hid (InB x3 w.heap.size IB CB EB N n1 (fun _ => 0) (fun t => if t = 0 then 0 else cuF F (k + 1) (t - 1))) := hid0 (hI2.congr (fun t ht => by
          unfold putF
          by_cases e : t = y1
          · subst e
            rw [if_pos rfl, if_neg (by omega), cuF, if_pos (by omega), hv1, hv0, hy1]; rfl
          · rw [if_neg e]
            show (if t = 0 then 0 else cuF F k (t - 1)) = _
            by_cases e0 : t = 0
            · rw [if_pos e0, if_pos e0]
            · rw [if_neg e0, if_neg e0, cuF, if_neg (by omega)]; rfl))
        have HB2 := hid0 (HB.out.trans hB2)
        have g3 := hx3.symm
        clear hx3 hI2 hB2 hv1 hv0 hv0e hy1 hy HI HB xn hkF
        go_wp2
        go_roundw
        case rel => exact ⟨k + 1, by omega, by go_num, HI2, HB2⟩
        case measure => simp [intOf]; omega
      · obtain rfl : k = N := by omega
        have hkI : ¬ (k : Int) < (k : Int) := by omega
        have HJ0 : Hid (InB wr w.heap.size IB CB EB k n1 (fun _ => 0) (fun t => if t ≤ 0 then preC F k t else cuF F k (t - 1))) := hid0 (HI.out.congr (fun t _ => by
          by_cases e : t = 0
          · subst e; rfl
          · rw [if_neg e, if_neg (by omega)]))
        clear HI
        go_wp2
        clear x1 x2
        go_loopw [49] (fun i wr => ∃ j : Nat, j ≤ n ∧ i = .int .i64 (j : Int) ∧ Hid (InB wr w.heap.size IB CB EB k n1 (fun _ => 0) (fun t => if t ≤ j then preC F k t else cuF F k (t - 1))) ∧ Hid (Below w.heap.size w wr)) (fun i _ => n - (intOf i).toNat)
        case atStart => exact ⟨0, Nat.zero_le _, rfl, HJ0, HB⟩
        case round =>
          clear HJ0 HB xn
          obtain ⟨j, hj, rfl, HI, HB⟩ := hrel
          obtain ⟨x1, x2, xn⟩ := HX.out _ HB.out
          by_cases hjl : j < n
          · have hjI : (j : Int) < (n : Int) := by omega
            have hj0 : (0 : Int) ≤ (j : Int) := by omega
            obtain ⟨j1, hj1⟩ : ∃ j1, j1 = j + 1 := ⟨_, rfl⟩
            have hj1n : j1 < n1 := by have := HN1.out; omega
            have hjn1 : j < n1 := by omega
            have hj1I : (j : Int) + 1 = (j1 : Int) := by omega
            have hj1W : IntKind.i64.wrap (j1 : Int) = (j1 : Int) := by simp [IntKind.wrap, IntKind.bits, IntKind.signed]; omega
            have hj1l : (j1 : Int) < (n1 : Int) := by omega
            have hjn1l : (j : Int) < (n1 : Int) := by omega
            have hj10 : (0 : Int) ≤ (j1 : Int) := by omega
            obtain ⟨_, e1⟩ := HI.out.cell
            have dv := HI.out.en'.cell hj1n
            have dw := HI.out.en'.cell hjn1
            have fv := HI.out.en'.frozen j1
            have hv0e : (if j1 ≤ j then preC F k j1 else cuF F k (j1 - 1)) = cuF F k j := by rw [if_neg (by omega), hj1]; rfl
            have hw0e : (if j ≤ j then preC F k j else cuF F k (j - 1)) = preC F k j := if_pos (Nat.le_refl _)
            simp only [hv0e] at dv
            simp only [hw0e] at dw
            have hsum : preC F k j1 = preC F k j + cuF F k j := by rw [hj1]; rfl
            have hle : preC F k j1 ≤ k := by
              have h1 := preC_mono F k (show j1 ≤ n by omega)
              have := HPa.out
              omega
            obtain ⟨v0, hv0⟩ : ∃ v0, v0 = cuF F k j := ⟨_, rfl⟩
            obtain ⟨u0, hu0⟩ : ∃ u0, u0 = preC F k j := ⟨_, rfl⟩
            obtain ⟨v1, hv1⟩ : ∃ v1, v1 = preC F k j1 := ⟨_, rfl⟩
            rw [← hv0] at dv hsum
            rw [← hu0] at dw hsum
            rw [← hv1] at hsum hle
            have hv1I : (v0 : Int) + (u0 : Int) = (v1 : Int) := by omega
            have hv1W : IntKind.i64.wrap (v1 : Int) = (v1 : Int) := by simp [IntKind.wrap, IntKind.bits, IntKind.signed]; omega
            obtain ⟨x3, hx3⟩ : ∃ x3, x3 = wr.setCell ⟨EB, j1, none⟩ (.int .i64 (v1 : Int)) := ⟨_, rfl⟩
            obtain ⟨hI2, hB2⟩ := HI.out.setE j1 v1
            rw [← hx3] at hI2 hB2
            have HI2 : Hid (InB x3.drew w.heap.size IB CB EB k n1 (fun _ => 0) (fun t => if t ≤ j + 1 then preC F k t else cuF F k (t - 1))) := hid0 ((hI2.congr (fun t ht => by
              unfold putF
              by_cases e : t = j1
              · subst e
                rw [if_pos rfl, if_pos (by omega)]
                exact hv1
              · rw [if_neg e]
                show (if t ≤ j then preC F k t else cuF F k (t - 1)) = _
                by_cases e0 : t ≤ j
                · rw [if_pos e0, if_pos (by omega)]
                · rw [if_neg e0, if_neg (by omega)])).drewN 1)
            have HB2 : Hid (Below w.heap.size w x3.drew) := hid0 (below_drew' (HB.out.trans hB2) 1)
            have g3 := hx3.symm
            clear hx3 hI2 hB2 hv1 hv0 hu0 hv0e hw0e hj1 HI HB xn hsum
            go_upto_region 10 with (fail)
            go_wp2_with fail
            go_region
            go_wp2
            go_roundw
            case rel => exact ⟨j + 1, by omega, by go_num, HI2, HB2⟩
            case measure => simp [intOf]; omega
          · obtain rfl : j = n := by omega
            have hjI : ¬ (j : Int) < (j : Int) := by omega
            have HK0 : Hid (InB wr w.heap.size IB CB EB k n1 (fun _ => 0) (fun t => if t < j then preC F k t + cuF F 0 t else k)) := hid0 (HI.out.congr (fun t ht => by
              have h1 := HN1.out
              rw [if_pos (by omega)]
              by_cases e : t < j
              · rw [if_pos e]; rfl
              · rw [if_neg e, show t = j by omega]; exact HPa.out))
            have HT0 := hid0 (into_zero F j k (fun _ => 0))
            clear HI
            go_wp2
            clear x1 x2
            go_loopw [75] (fun i wr => ∃ (c : Nat) (ce : Nat → Nat), c ≤ k ∧ i = .int .i64 (c : Int) ∧ Hid (InB wr w.heap.size IB CB EB k n1 ce (fun t => if t < j then preC F k t + cuF F c t else k)) ∧ Hid (Into F j k c ce) ∧ Hid (Below w.heap.size w wr)) (fun i _ => k - (intOf i).toNat)
            case atStart => exact ⟨0, _, Nat.zero_le _, rfl, HK0, HT0, HB⟩
            case round =>
              clear HK0 HT0 HB xn
              obtain ⟨c, ce, hc, rfl, HI, HT, HB⟩ := hrel
              obtain ⟨x1, x2, xn⟩ := HX.out _ HB.out
              by_cases hcl : c < k
              · have hcI : (c : Int) < (k : Int) := by omega
                have hc0 : (0 : Int) ≤ (c : Int) := by omega
                have hkF : c < FN.length := by rw [← HN.out]; exact hcl
                obtain ⟨b, off, hab, _, d1⟩ := xn.at' c hkF
                subst hab
                rw [(HF.out c hkF).1] at d1
                have hyn := HFa.out c hcl
                have hpos : preC F k (F c) + cuF F c (F c) < k := by
                  have h1 := cuF_lt F hcl
                  have h2 := preC_mono F k (show F c + 1 ≤ j by omega)
                  have h3 := HPa.out
                  rw [preC] at h2
                  omega
                have HT2 := hid0 (HT.out.put hcl (fun d hd => HFa.out d hd))
                have hcuE : cuF F (c + 1) (F c) = cuF F c (F c) + 1 := by rw [cuF, if_pos rfl]
                have hcuO : ∀ t, t ≠ F c → cuF F (c + 1) t = cuF F c t := fun t ht => by rw [cuF, if_neg (Ne.symm ht)]; rfl
                obtain ⟨y, hy⟩ : ∃ y, y = F c := ⟨_, rfl⟩
                rw [← hy] at d1 hyn hpos HT2 hcuE hcuO
                have hyn1 : y < n1 := by have := HN1.out; omega
                have hyI : (y : Int) < (n1 : Int) := by omega
                have hy0 : (0 : Int) ≤ (y : Int) := by omega
                obtain ⟨e0, e1⟩ := HI.out.cell
                have dv := HI.out.en'.cell hyn1
                have hve : (if y < j then preC F k y + cuF F c y else k) = preC F k y + cuF F c y := if_pos hyn
                simp only [hve] at dv
                obtain ⟨v0, hv0⟩ : ∃ v0, v0 = preC F k y + cuF F c y := ⟨_, rfl⟩
                rw [← hv0] at dv hpos HT2
                have dc := HI.out.ce'.cell hpos
                have fc := HI.out.ce'.frozen v0
                have hvI : (v0 : Int) < (k : Int) := by omega
                have hvI0 : (0 : Int) ≤ (v0 : Int) := by omega
                obtain ⟨v1, hv1⟩ : ∃ v1, v1 = v0 + 1 := ⟨_, rfl⟩
                have hv1I : (v0 : Int) + 1 = (v1 : Int) := by omega
                have hv1W : IntKind.i64.wrap (v1 : Int) = (v1 : Int) := by simp [IntKind.wrap, IntKind.bits, IntKind.signed]; omega
                obtain ⟨x3, hx3⟩ : ∃ x3, x3 = wr.setCell ⟨CB, v0, none⟩ (.int .i64 (c : Int)) := ⟨_, rfl⟩
                obtain ⟨hI2, hB2⟩ := HI.out.setC v0 c
                rw [← hx3] at hI2 hB2
                have hI3 : InB x3.drew w.heap.size IB CB EB k n1 (putF ce v0 c) (fun t => if t < j then preC F k t + cuF F c t else k) := hI2.drewN 1
                obtain ⟨x4, hx4⟩ : ∃ x4, x4 = x3.drew.setCell ⟨EB, y, none⟩ (.int .i64 (v1 : Int)) := ⟨_, rfl⟩
                obtain ⟨hI4, hB4⟩ := hI3.setE y v1
                rw [← hx4] at hI4 hB4
                have dv3 := hI3.en'.cell hyn1
                simp only [hve] at dv3
                rw [← hv0] at dv3
                have fv3 := hI3.en'.frozen y
                have e13 := hI3.cell.2
                have HI4 : Hid (InB x4 w.heap.size IB CB EB k n1 (putF ce v0 c) (fun t => if t < j then preC F k t + cuF F (c + 1) t else k)) := hid0 (hI4.congr (fun t ht => by
                  unfold putF
                  by_cases e : t = y
                  · subst e
                    rw [if_pos rfl, if_pos hyn, hcuE, hv1, hv0]; omega
                  · rw [if_neg e]
                    show (if t < j then preC F k t + cuF F c t else k) = _
                    rw [hcuO t e]))
                have HB4 : Hid (Below w.heap.size w x4) := hid0 ((show Below w.heap.size w x3.drew from below_drew' (HB.out.trans hB2) 1).trans hB4)
                have g3 := hx3.symm
                have g4 := hx4.symm
                clear hx3 hx4 hI2 hB2 hI3 hI4 hB4 hv1 hv0 hve hcuE hcuO hy HI HB HT xn hkF
                go_upto_region 15 with (fail)
                go_wp2_with fail
                go_region
                go_wp2
                go_roundw
                case rel => exact ⟨c + 1, _, by omega, by go_num, HI4, HT2, HB4⟩
                case measure => simp [intOf]; omega
              · obtain rfl : c = k := by omega
                have hcI : ¬ (c : Int) < (c : Int) := by omega
                have HFin : Hid ((∃ CB EB ce, InB wr w.heap.size IB CB EB FN.length (j + 1) ce (fun t => if t < j then preC F FN.length (t + 1) else FN.length) ∧ Into F j FN.length FN.length ce) ∧ Below w.heap.size w wr) := hid0 (by
                  rw [← HN.out, ← HN1.out]
                  exact ⟨⟨CB, EB, ce, HI.out.congr (fun t ht => by split <;> rfl), HT.out⟩, HB.out⟩)
                clear HI HT HB xn
                go_wp2
                go_ret
                exact ⟨IB, rfl, HFin.out⟩
end Go.Proofs.YtjmmckkiicefhaaDoor
namespace Go.Proofs.YtjmmckkiicefhaaDoor
open Go.RowKit Go.Shelf
/-- The cells that lead to a state. -/
def sgF (F : Nat → Nat) (N : Nat) (ce : Nat → Nat) (s : Nat) : List Nat := (List.range (cuF F N s)).map fun j => ce (preC F N s + j)
theorem sgF_len (F : Nat → Nat) (N : Nat) (ce : Nat → Nat) (s : Nat) : (sgF F N ce s).length = cuF F N s := by simp [sgF]
theorem sgF_mem {F : Nat → Nat} {n N : Nat} {ce : Nat → Nat} (h : Into F n N N ce) {s : Nat} (hs : s < n) (c : Nat) : c ∈ sgF F N ce s ↔ c < N ∧ F c = s := by
  unfold sgF
  rw [List.mem_map]
  constructor
  · rintro ⟨j, hj, rfl⟩
    exact h.fw s hs j (List.mem_range.1 hj)
  · rintro ⟨h1, h2⟩
    obtain ⟨j, h3, h4⟩ := h.bw c h1
    rw [h2] at h3 h4
    exact ⟨j, List.mem_range.2 h3, h4⟩
theorem sg_ia {W : World} {CB N p l : Nat} {ce : Nat → Nat} (h : Ov W CB N ce) (hp : p + l ≤ N) : IA W (some ⟨CB, p, none⟩) (natI ((List.range l).map fun j => ce (p + j))) := ⟨fun k hk => by
  simp only [natI, List.length_map, List.length_range] at hk
  refine ⟨CB, p, rfl, h.lt, ?_⟩
  rw [h.cell (s := p + k) (by omega)]
  simp [natI]⟩
set_option maxRecDepth 100000 in
set_option maxHeartbeats 800000 in
theorem of_any (lo IB CB EB n N s : Nat) (F ce : Nat → Nat) (w : World) (hi : InB w lo IB CB EB N (n + 1) ce (fun t => if t < n then preC F N (t + 1) else N)) (hs : s < n) (hN : preC F N n = N) (hb : N ≤ 2200000) (hnb : n ≤ 2200000) :
    Calls Tryd.prog 36 #[.pointer (some ⟨IB, 0, none⟩), .int .i64 (s : Int)] w fun e w' => ∃ ad c, e = .returned (.slice (some ad) (cuF F N s) c) ∧ IA w (some ad) (natI (sgF F N ce s)) ∧ ∃ q, w' = w.drewN q := by
  obtain ⟨c0, c1⟩ := hi.cell
  have hle : preC F N (s + 1) ≤ N := by have := preC_mono F N (show s + 1 ≤ n by omega); omega
  have hsum : preC F N (s + 1) = preC F N s + cuF F N s := rfl
  have d1 := hi.en'.cell (s := s) (by omega)
  have e1 : (if s < n then preC F N (s + 1) else N) = preC F N (s + 1) := if_pos hs
  simp only [e1] at d1
  have HIa := hid0 (sg_ia hi.ce' (p := preC F N s) (l := cuF F N s) (by omega))
  have HSg : Hid (natI (sgF F N ce s) = natI ((List.range (cuF F N s)).map fun j => ce (preC F N s + j))) := hid0 rfl
  have HL := hid0 (sgF_len F N ce s)
  obtain ⟨n1, hn1⟩ : ∃ n1, n1 = n + 1 := ⟨_, rfl⟩
  rw [← hn1] at c1
  have hsI : (s : Int) < (n1 : Int) := by omega
  have hs0 : (0 : Int) ≤ (s : Int) := by omega
  have h0I : (0 : Int) < (n1 : Int) := by omega
  obtain ⟨hi2, hhi⟩ : ∃ hi2, hi2 = preC F N (s + 1) := ⟨_, rfl⟩
  rw [← hhi] at d1 hle hsum
  have hhI : (hi2 : Int) ≤ (N : Int) := by omega
  have hhI0 : (0 : Int) ≤ (hi2 : Int) := by omega
  by_cases h0 : s = 0
  · subst h0
    have hp0 : preC F N 0 = 0 := rfl
    have HE : Hid (hi2 = cuF F N 0) := hid0 (by rw [hsum, hp0]; omega)
    have HIb : Hid (IA w (some ⟨CB, 0, none⟩) (natI (sgF F N ce 0))) := hid0 (by rw [HSg.out]; have := HIa.out; rw [hp0] at this; exact this)
    clear hhi hsum hi HIa HSg e1 hn1
    go_enter Tryd.func36, Tryd.ntmps36
    go_wp2
    go_quiet ((fail))
    go_wp2
    go_ret
    exact ⟨_, _, by rw [← HE.out]; rfl, HIb.out, _, rfl⟩
  · obtain ⟨s', hs'⟩ : ∃ s', s' = s - 1 := ⟨_, rfl⟩
    have d0 := hi.en'.cell (s := s') (by omega)
    have e0 : (if s' < n then preC F N (s' + 1) else N) = preC F N s := by rw [if_pos (by omega), show s' + 1 = s by omega]
    simp only [e0] at d0
    obtain ⟨lo2, hlo2⟩ : ∃ lo2, lo2 = preC F N s := ⟨_, rfl⟩
    rw [← hlo2] at d0 hsum HIa
    have hl0 : (0 : Int) ≤ (lo2 : Int) := by omega
    have hlh : (lo2 : Int) ≤ (hi2 : Int) := by omega
    have hs'I : (s : Int) - 1 = (s' : Int) := by omega
    have hs'W : IntKind.i64.wrap (s' : Int) = (s' : Int) := by simp [IntKind.wrap, IntKind.bits, IntKind.signed]; omega
    have hs'1 : (s' : Int) < (n1 : Int) := by omega
    have hs'0 : (0 : Int) ≤ (s' : Int) := by omega
    have hsne : ((s : Int) == 0) = false := by simp; omega
    have hsneI : ¬ (s : Int) = 0 := by omega
    have hdl : hi2 - lo2 = cuF F N s := by omega
    have HE : Hid (hi2 - lo2 = cuF F N s) := hid0 hdl
    have HIb : Hid (IA w (some ⟨CB, lo2, none⟩) (natI (sgF F N ce s))) := hid0 (by unfold sgF; rw [← hlo2]; exact HIa.out)
    have HIe : Hid (N = lo2 → ∀ a, IA w a (natI (sgF F N ce s))) := hid0 (fun e a => ⟨fun k hk => by rw [natI_len, HL.out] at hk; omega⟩)
    clear hhi hsum hi HIa HSg e1 e0 hn1 hlo2 hs' hdl
    by_cases hcap : N = lo2
    · have HIf := hid0 (HIe.out hcap)
      have hcapI : (N : Int) = (lo2 : Int) := by omega
      go_enter Tryd.func36, Tryd.ntmps36
      go_wp2
      go_quiet ((fail))
      go_wp2
      go_ret
      exact ⟨_, _, by rw [← HE.out]; rfl, HIf.out _, _, rfl⟩
    · go_enter Tryd.func36, Tryd.ntmps36
      go_wp2
      go_quiet ((fail))
      go_wp2
      go_ret
      exact ⟨_, _, by rw [← HE.out]; rfl, HIb.out, _, rfl⟩
end Go.Proofs.YtjmmckkiicefhaaDoor
namespace Go.Proofs.YtjmmckkiicefhaaDoor
open Go.RowKit Go.Shelf Go.Lib Go.Maps
def natO (r : List Int) : List Nat := r.map Int.toNat
/-- The texts of what the first states tell. -/
def seqO (OL : List (List Int)) (k : Nat) : List (List UInt8 × Nat) := (List.range k).map fun s => (encL (natO (OL.getD s [])), s)
theorem seqO_succ (OL : List (List Int)) (k : Nat) : seqO OL (k + 1) = seqO OL k ++ [(encL (natO (OL.getD k [])), k)] := by
  unfold seqO
  rw [List.range_succ, List.map_append]
  rfl
theorem seqO_mem {OL : List (List Int)} {k : Nat} {x : List UInt8 × Nat} (h : x ∈ seqO OL k) : x.2 < k ∧ x.1 = encL (natO (OL.getD x.2 [])) := by
  unfold seqO at h
  obtain ⟨s, hs, rfl⟩ := List.mem_map.1 h
  exact ⟨List.mem_range.1 hs, rfl⟩
theorem seqO_len (OL : List (List Int)) (k : Nat) : (seqO OL k).length = k := by simp [seqO]
set_option maxRecDepth 100000 in
set_option maxHeartbeats 1600000 in
theorem byOut_any (X m : Nat) (aN : Option Addr) (cN : Nat) (FN : List Int) (aO : Option Addr) (cO : Nat) (OL : List (List Int)) (w : World) (hw : Wh w X m aN cN FN aO cO OL) (hn : OL.length ≤ 2200000) (hr : ∀ r ∈ OL, r.length ≤ 2200000) (hz : ∀ r ∈ OL, ∀ z ∈ r, 0 ≤ z ∧ z < 9223372036854775808) :
    Calls Tryd.prog 33 #[.pointer (some ⟨X, 0, none⟩)] w fun e w' => ∃ a c ks Ls, e = .returned (.slice a Ls.length c) ∧ GapL w' w.heap.size w'.heap.size a Ls ∧ GI ks Ls (seqO OL OL.length) ∧ Ls.length ≤ OL.length ∧ Below w.heap.size w w' := by
  have HW : Hid (∀ V, Below w.heap.size w V → Wh V X m aN cN FN aO cO OL) := hid0 (fun V hV => hw.past hV)
  have HR := hid0 hr
  have HZ := hid0 hz
  have HNg := hid0 (newGroups_any w)
  clear hw hr hz
  go_enter Tryd.func33, Tryd.ntmps33
  go_upto_region 3 with (go_at_call 44; go_loud ((refine HNg.out.mono ?_; rintro e w1 ⟨GB, MB, rfl, hg1, hb1⟩)))
  have HS0 := hid0 (grS_new hg1 hb1)
  obtain ⟨_, _, x2⟩ := (HW.out _ hb1).cell
  have HGl : Hid (∀ V v tx seq, GrS w V GB MB v tx seq → ∃ vl, V.cell? ⟨GB, 1, none⟩ = some vl ∧ ∃ ks ps Ls, Gp V w.heap.size GB MB vl ks ps Ls ∧ GI ks Ls seq ∧ ks.length ≤ seq.length) := hid0 (fun V v tx seq h => by
    obtain ⟨vl, ks, ps, Ls, h1, h2, h3⟩ := h.gp
    exact ⟨vl, h1.cell.2.1, ks, ps, Ls, h1, h2, h3⟩)
  clear hg1 hb1
  go_wp2
  go_loopw [4, 15] (fun v i wr => ∃ (k : Nat) (tx : List UInt8), k ≤ OL.length ∧ i = .int .i64 (k : Int) ∧ Hid (GrS w wr GB MB v tx (seqO OL k))) (fun _ i _ => OL.length - (intOf i).toNat)
  case atStart => exact ⟨0, [], Nat.zero_le _, rfl, HS0⟩
  case round =>
    obtain ⟨k, tx, hk, rfl, HS⟩ := hrel
    clear x2
    by_cases hlt : k < OL.length
    · have hkI : (k : Int) < (OL.length : Int) := by omega
      have hk0 : (0 : Int) ≤ (k : Int) := by omega
      obtain ⟨b, off, hab, _, a1, c1, d1, i1⟩ := (HW.out _ HS.out.bel).ou.at' k hlt
      subst hab
      obtain ⟨av, cv, hv⟩ := HS.out.form
      subst hv
      have hrl := HR.out _ (List.getElem_mem hlt)
      have HRz := hid0 (HZ.out _ (List.getElem_mem hlt))
      have HOk : Hid (OL.getD k [] = OL[k]) := hid0 (by rw [List.getD_eq_getElem?_getD, List.getElem?_eq_getElem hlt]; rfl)
      have HI1 : Hid (∀ V, Below w.heap.size w V → IA V a1 OL[k]) := hid0 (fun V hV => by
        obtain ⟨b', off', e', hb', a1', c1', d1', i1'⟩ := (HW.out _ hV).ou.at' k hlt
        obtain ⟨b2, off2, e2, hb2, a2, c2, d2, i2⟩ := (HW.out w (Below.refl _ _)).ou.at' k hlt
        cases e'
        cases e2
        have q1 := (hV.cell (p := ⟨b, off + k, none⟩) hb2).trans d2
        have q2 := (HS.out.bel.cell (p := ⟨b, off + k, none⟩) hb2).trans d2
        rw [q1] at d1'
        rw [q2] at d1
        simp only [Option.some.injEq, Value.slice.injEq] at d1 d1'
        rw [← d1.1, d1'.1]
        exact i1')
      have HS1 := hid0 HS.out.cut
      clear i1 HS
      generalize OL[k] = r at *
      go_wp2
      go_loopw [4, 24] (fun v i wr => ∃ (j : Nat) (tx : List UInt8), j ≤ r.length ∧ i = .int .i64 (j : Int) ∧ Hid (tx = encL (natO (r.take j))) ∧ Hid (GrS w wr GB MB v tx (seqO OL k))) (fun _ i _ => r.length - (intOf i).toNat)
      case atStart => exact ⟨0, [], Nat.zero_le _, rfl, hid0 rfl, HS1⟩
      case round =>
        obtain ⟨j, tx2, hj, rfl, HT, HS2⟩ := hrel
        obtain ⟨av2, cv2, hv2⟩ := HS2.out.form
        have hlen : tx2.length ≤ 22000000 := by
          rw [HT.out]
          have := encL_len (natO (r.take j)) (fun x hx => by
            unfold natO at hx
            obtain ⟨z, hz, rfl⟩ := List.mem_map.1 hx
            have := HRz.out z (List.mem_of_mem_take hz)
            omega)
          have h2 : (natO (r.take j)).length ≤ r.length := by simp [natO]; omega
          omega
        by_cases hjl : j < r.length
        · have hjI : (j : Int) < (r.length : Int) := by omega
          have hj0 : (0 : Int) ≤ (j : Int) := by omega
          obtain ⟨b2, off2, hab2, _, d2⟩ := (HI1.out _ HS2.out.bel).at' j hjl
          subst hab2
          have hz := HRz.out _ (List.getElem_mem hjl)
          have HT2 : Hid (tx2 ++ encN (r[j]).toNat = encL (natO (r.take (j + 1)))) := hid0 (by
            rw [HT.out, List.take_succ_eq_append_getElem hjl]
            unfold natO
            rw [List.map_append, List.map_singleton, encL_snoc])
          generalize r[j] = z at *
          obtain ⟨zn, rfl⟩ : ∃ zn : Nat, z = (zn : Int) := ⟨z.toNat, by omega⟩
          rw [Int.toNat_natCast] at HT2
          have HAn := hid0 (addNumber_any w.heap.size zn u4 tx2 wr HS2.out.own (by omega) (by omega) HS2.out.bel.size)
          have HNx : Hid (∀ v' w2, Apd wr w2 w.heap.size u4 v' (tx2 ++ encN zn) → GrS w w2 GB MB v' (tx2 ++ encN zn) (seqO OL k)) := hid0 (fun v' w2 h => HS2.out.more h)
          clear HS2 HT hz
          subst hv2
          go_wp2_with (go_at_call 45; go_loud ((refine HAn.out.mono ?_; rintro e w2 ⟨v', rfl, ha2⟩; have HS3 := hid0 (HNx.out v' w2 ha2); clear ha2)))
          go_roundw
          case rel => exact ⟨j + 1, _, by omega, by go_num, HT2, HS3⟩
          case measure => simp [intOf]; omega
        · obtain rfl : j = r.length := by omega
          have hjI : ¬ (r.length : Int) < (r.length : Int) := by omega
          have HT3 : Hid (tx2 = encL (natO (OL.getD k []))) := hid0 (by rw [HT.out, List.take_length, HOk.out])
          obtain ⟨vl, _, ks, ps, Ls, g1, g2, g3⟩ := HGl.out _ _ _ _ HS2.out
          have hsl := seqO_len OL k
          have HAd := hid0 (gadd_any w.heap.size w.heap.size GB MB vl u4 ks ps Ls tx2 k wr g1 HS2.out.own g2.nd (by omega) (by omega) (fun l hl => by have := g2.small (n := k) (fun x hx => (seqO_mem hx).1) l hl; omega))
          have HNx : Hid (∀ w2, AddR wr w2 w.heap.size GB MB ks Ls tx2 k → GrS w w2 GB MB u4 tx2 (seqO OL (k + 1))) := hid0 (fun w2 h => by
            rw [seqO_succ, ← HT3.out]
            exact HS2.out.add g2 g3 (fun x hx => by have := (seqO_mem hx).1; omega) h)
          clear g1 g2 g3 HS2 HT hsl
          subst hv2
          go_wp2_with (go_at_call 46; go_loud ((refine HAd.out.mono ?_; rintro e w2 ⟨rfl, ha2⟩; have HS3 := hid0 (HNx.out w2 ha2); clear ha2)))
          go_roundw
          case rel => exact ⟨k + 1, _, by omega, by go_num, HS3⟩
          case measure => simp [intOf]; omega
    · obtain rfl : k = OL.length := by omega
      have hkI : ¬ (OL.length : Int) < (OL.length : Int) := by omega
      obtain ⟨vl, hvl, ks, ps, Ls, g1, g2, g3⟩ := HGl.out _ _ _ _ HS.out
      obtain ⟨a, c, hva, hgl⟩ := g1.gapl
      subst hva
      have HFin := hid0 (And.intro hgl (And.intro g2 (And.intro (show Ls.length ≤ OL.length by have h1 := g2.len; rw [seqO_len] at g3; omega) HS.out.bel)))
      clear hgl g1 g2 g3 HS
      go_wp2
      go_ret
      exact ⟨_, _, _, _, rfl, HFin.out⟩
end Go.Proofs.YtjmmckkiicefhaaDoor
namespace Go.Proofs.YtjmmckkiicefhaaDoor
def risesN (l : List Nat) : Prop := l.Pairwise (· < ·)
/-- Two lists that rise and have the same members are one. -/
theorem rise_one : ∀ (a b : List Nat), risesN a → risesN b → (∀ x, x ∈ a ↔ x ∈ b) → a = b
  | [], [], _, _, _ => rfl
  | [], y :: b, _, _, h => absurd ((h y).2 (.head _)) (by simp)
  | x :: a, [], _, _, h => absurd ((h x).1 (.head _)) (by simp)
  | x :: a, y :: b, ha, hb, h => by
    have ha' := List.pairwise_cons.1 ha
    have hb' := List.pairwise_cons.1 hb
    have exy : x = y := by
      have h1 := (h x).1 (.head _)
      have h2 := (h y).2 (.head _)
      rcases List.mem_cons.1 h1 with e | h1
      · exact e
      · rcases List.mem_cons.1 h2 with e | h2
        · exact e.symm
        · have := hb'.1 x h1
          have := ha'.1 y h2
          omega
    subst exy
    rw [rise_one a b ha'.2 hb'.2 (fun z => ?_)]
    constructor
    · intro hz
      have := ha'.1 z hz
      rcases List.mem_cons.1 ((h z).1 (.tail _ hz)) with e | h1
      · omega
      · exact h1
    · intro hz
      have := hb'.1 z hz
      rcases List.mem_cons.1 ((h z).2 (.tail _ hz)) with e | h1
      · omega
      · exact h1
theorem rise_at {l : List Nat} (h : risesN l) {i j : Nat} (hij : i < j) (hj : j < l.length) : l[i]'(by omega) < l[j] := List.pairwise_iff_getElem.1 h i j (by omega) hj hij
/-- The numbers of a row of cells. -/
def celL (m : Nat) (F cl : Nat → Nat) (l : List Nat) : List Nat := l.flatMap fun c => [c % m, cl (F c)]
theorem celL_snoc (m : Nat) (F cl : Nat → Nat) (l : List Nat) (c : Nat) : celL m F cl (l ++ [c]) = celL m F cl l ++ [c % m, cl (F c)] := by
  unfold celL
  rw [List.flatMap_append]
  simp
theorem celL_len (m : Nat) (F cl : Nat → Nat) (l : List Nat) : (celL m F cl l).length = l.length * 2 := by
  induction l with
  | nil => rfl
  | cons x l ih => unfold celL at *; rw [List.flatMap_cons, List.length_append, ih, List.length_cons]; simp; omega
theorem celL_lt {m : Nat} {F cl : Nat → Nat} {l : List Nat} {B : Nat} (hm : 0 < m) (hB : m ≤ B) (h : ∀ c ∈ l, cl (F c) < B) : ∀ x ∈ celL m F cl l, x < B := by
  intro x hx
  unfold celL at hx
  obtain ⟨c, hc, hx⟩ := List.mem_flatMap.1 hx
  rcases List.mem_cons.1 hx with rfl | hx
  · have := Nat.mod_lt c hm; omega
  · rw [List.mem_singleton.1 hx]; exact h c hc
/-- The text of a state: its class, and its cells. -/
def txtS (m : Nat) (F cl : Nat → Nat) (CE : List Nat) (s : Nat) : List UInt8 := encL (cl s :: celL m F cl (CE.filter fun c => decide (c / m = s)))
theorem filter_mid {CE : List Nat} {m s i k : Nat} (hik : i ≤ k) (hk : k ≤ CE.length) (h1 : ∀ j (hj : j < CE.length), j < i → CE[j] / m ≠ s) (h2 : ∀ j (hj : j < CE.length), i ≤ j → j < k → CE[j] / m = s) (h3 : ∀ j (hj : j < CE.length), k ≤ j → CE[j] / m ≠ s) : (CE.filter fun c => decide (c / m = s)) = (CE.drop i).take (k - i) := by
  have e : CE = CE.take i ++ ((CE.drop i).take (k - i) ++ CE.drop k) := by
    have e1 : CE.drop i = (CE.drop i).take (k - i) ++ (CE.drop i).drop (k - i) := (List.take_append_drop _ _).symm
    rw [List.drop_drop, show i + (k - i) = k by omega] at e1
    rw [← e1, List.take_append_drop]
  have f1 : (CE.take i).filter (fun c => decide (c / m = s)) = [] := by
    rw [List.filter_eq_nil_iff]
    intro c hc
    obtain ⟨j, hj, rfl⟩ := List.getElem_of_mem hc
    rw [List.length_take] at hj
    rw [List.getElem_take]
    simpa using h1 j (by omega) (by omega)
  have f2 : ((CE.drop i).take (k - i)).filter (fun c => decide (c / m = s)) = (CE.drop i).take (k - i) := by
    rw [List.filter_eq_self]
    intro c hc
    obtain ⟨j, hj, rfl⟩ := List.getElem_of_mem hc
    rw [List.length_take, List.length_drop] at hj
    rw [List.getElem_take, List.getElem_drop]
    simpa using h2 (i + j) (by omega) (by omega) (by omega)
  have f3 : (CE.drop k).filter (fun c => decide (c / m = s)) = [] := by
    rw [List.filter_eq_nil_iff]
    intro c hc
    obtain ⟨j, hj, rfl⟩ := List.getElem_of_mem hc
    rw [List.length_drop] at hj
    rw [List.getElem_drop]
    simpa using h3 (k + j) (by omega) (by omega)
  conv => lhs; rw [e]
  rw [List.filter_append, List.filter_append, f1, f2, f3, List.nil_append, List.append_nil]
/-- The groups' row so far: the states of the first cells. -/
structure SqI (m : Nat) (F cl : Nat → Nat) (CE : List Nat) (i : Nat) (seq : List (List UInt8 × Nat)) : Prop where
  mem : ∀ k s, (k, s) ∈ seq ↔ (∃ j, ∃ hj : j < CE.length, j < i ∧ CE[j] / m = s) ∧ k = txtS m F cl CE s
  len : seq.length ≤ i
theorem sqI_nil (m : Nat) (F cl : Nat → Nat) (CE : List Nat) : SqI m F cl CE 0 [] := ⟨fun k s => by simp, Nat.le_refl _⟩
/-- At the beginning of a state's cells. -/
def NewS (m : Nat) (CE : List Nat) (i : Nat) : Prop := ∀ j (hj : j < CE.length) (hi : i < CE.length), j < i → CE[j] / m < CE[i] / m
theorem SqI.next {m : Nat} {F cl : Nat → Nat} {CE : List Nat} {i k : Nat} {seq : List (List UInt8 × Nat)} (h : SqI m F cl CE i seq) (hr : risesN CE) (hi : i < CE.length) (hik : i < k) (hk : k ≤ CE.length) (hb : NewS m CE i) (h2 : ∀ j (hj : j < CE.length), i ≤ j → j < k → CE[j] / m = CE[i] / m) (h3 : ∀ hj : k < CE.length, CE[k] / m ≠ CE[i] / m) :
    txtS m F cl CE (CE[i] / m) = encL (cl (CE[i] / m) :: celL m F cl ((CE.drop i).take (k - i))) ∧ SqI m F cl CE k (seq ++ [(txtS m F cl CE (CE[i] / m), CE[i] / m)]) ∧ NewS m CE k ∧ ∀ x ∈ seq, x.2 ≠ CE[i] / m := by
  have h4 : ∀ j (hj : j < CE.length), k ≤ j → CE[i] / m < CE[j] / m := fun j hj hkj => by
    have hk' : k < CE.length := by omega
    have e1 := h3 hk'
    have e2 : CE[i] / m ≤ CE[k] / m := Nat.div_le_div_right (Nat.le_of_lt (rise_at hr hik hk'))
    have e3 : CE[k] / m ≤ CE[j] / m := by
      rcases Nat.eq_or_lt_of_le hkj with e | e
      · subst e; exact Nat.le_refl _
      · exact Nat.div_le_div_right (Nat.le_of_lt (rise_at hr e hj))
    omega
  have hf := filter_mid (m := m) (s := CE[i] / m) (Nat.le_of_lt hik) hk (fun j hj hji => by have := hb j hj hi hji; omega) h2 (fun j hj hkj => by have := h4 j hj hkj; omega)
  refine ⟨by unfold txtS; rw [hf], ⟨fun key s => ?_, ?_⟩, fun j hj hk' hjk => ?_, fun x hx e => ?_⟩
  · rw [List.mem_append, List.mem_singleton, h.mem]
    constructor
    · rintro (⟨⟨j, hj, h5, h6⟩, h7⟩ | e)
      · exact ⟨⟨j, hj, by omega, h6⟩, h7⟩
      · injection e with e1 e2
        subst e2
        exact ⟨⟨i, hi, hik, rfl⟩, e1⟩
    · rintro ⟨⟨j, hj, h5, h6⟩, h7⟩
      by_cases e : j < i
      · exact .inl ⟨⟨j, hj, e, h6⟩, h7⟩
      · have := h2 j hj (by omega) h5
        rw [h6] at this
        subst this
        exact .inr (by rw [h7])
  · rw [List.length_append, List.length_singleton]
    have := h.len
    omega
  · by_cases e : j < i
    · have := hb j hj hi e
      have := h4 k hk' (Nat.le_refl _)
      omega
    · rw [h2 j hj (by omega) hjk]
      exact h4 k hk' (Nat.le_refl _)
  · obtain ⟨⟨j, hj, h5, h6⟩, _⟩ := (h.mem x.1 x.2).1 hx
    have := hb j hj hi h5
    omega
theorem flat_congr {α β : Type} (f g : α → List β) : ∀ (l : List α), (∀ x ∈ l, f x = g x) → l.flatMap f = l.flatMap g
  | [], _ => rfl
  | x :: l, h => by rw [List.flatMap_cons, List.flatMap_cons, h x (.head _), flat_congr f g l (fun y hy => h y (.tail _ hy))]
/-- What cells say of a state is what its successors say. -/
theorem txt_key {m n : Nat} {F cl : Nat → Nat} {q CE : List Nat} (hm : 0 < m) (hr : risesN CE) (hC : ∀ c, c ∈ CE ↔ (c < n * m ∧ F c ∈ q)) {s : Nat} (hs : s < n) : txtS m F cl CE s = encL (keyL m F cl q s) ∧ ((∃ c ∈ CE, c / m = s) ↔ prs m F cl q s ≠ []) := by
  have hcell : ∀ c, c < m → s * m + c < n * m := fun c hc => by
    have := Nat.mul_le_mul_right m (show s + 1 ≤ n by omega)
    rw [Nat.add_mul] at this
    omega
  have he : (CE.filter fun c => decide (c / m = s)) = ((List.range m).filter fun c => decide (F (s * m + c) ∈ q)).map (fun c => s * m + c) := by
    apply rise_one
    · exact List.Pairwise.filter _ hr
    · unfold risesN
      rw [List.pairwise_map]
      refine List.Pairwise.imp (fun {a b} h => ?_) (List.Pairwise.filter _ List.pairwise_lt_range)
      omega
    · intro c
      rw [List.mem_filter, List.mem_map, hC, decide_eq_true_eq]
      constructor
      · rintro ⟨⟨h1, h2⟩, h3⟩
        have h4 := Nat.div_add_mod c m
        have h5 := Nat.mod_lt c hm
        have h6 : s * m + c % m = c := by rw [← h3, Nat.mul_comm]; exact h4
        exact ⟨c % m, List.mem_filter.2 ⟨List.mem_range.2 h5, by rw [h6]; exact decide_eq_true h2⟩, h6⟩
      · rintro ⟨d, hd, rfl⟩
        rw [List.mem_filter, List.mem_range, decide_eq_true_eq] at hd
        exact ⟨⟨hcell d hd.1, hd.2⟩, by rw [Nat.mul_comm, Nat.mul_add_div hm, Nat.div_eq_of_lt hd.1, Nat.add_zero]⟩
  have h2 : celL m F cl (CE.filter fun c => decide (c / m = s)) = (prs m F cl q s).flatMap fun p => [p.1, p.2] := by
    rw [he]
    unfold celL prs
    rw [List.flatMap_map, List.flatMap_map]
    apply flat_congr
    intro c hc
    have hc' := List.mem_range.1 (List.mem_filter.1 hc).1
    rw [Nat.mul_comm s m, Nat.mul_add_mod, Nat.mod_eq_of_lt hc']
  refine ⟨by unfold txtS keyL; rw [h2], ?_⟩
  constructor
  · rintro ⟨c, hc, hcs⟩
    have h3 : c ∈ CE.filter fun c => decide (c / m = s) := List.mem_filter.2 ⟨hc, decide_eq_true hcs⟩
    rw [he] at h3
    obtain ⟨d, hd, _⟩ := List.mem_map.1 h3
    unfold prs
    intro h4
    rw [List.map_eq_nil_iff] at h4
    rw [h4] at hd
    cases hd
  · intro hne
    obtain ⟨⟨c, v⟩, hx⟩ := List.exists_mem_of_ne_nil _ hne
    obtain ⟨h3, h4, _⟩ := prs_mem.1 hx
    exact ⟨s * m + c, (hC _).2 ⟨hcell c h3, h4⟩, by rw [Nat.mul_comm, Nat.mul_add_div hm, Nat.div_eq_of_lt h3, Nat.add_zero]⟩
end Go.Proofs.YtjmmckkiicefhaaDoor
namespace Go.Proofs
open Go.Shelf
def Tryd.lays189_ren : Go.Shelf.Ren := ⟨fun | 189 => 37 | 125 => 48 | 257 => 47 | 128 => 60 | 129 => 61 | 294 => 51 | 295 => 52 | 296 => 53 | 297 => 54 | 298 => 55 | 299 => 56 | 216 => 57 | 300 => 58 | 301 => 59 | 328 => 62 | 329 => 63 | 330 => 64 | 331 => 65 | 332 => 66 | 215 => 67 | 343 => 68 | n => n, fun | 28 => 25 | 3 => 3 | 46 => 87 | 0 => 0 | 51 => 99 | 53 => 101 | 4 => 4 | 183 => 93 | 182 => 92 | 131 => 90 | 5 => 5 | 9 => 9 | 218 => 102 | 222 => 106 | 228 => 109 | 229 => 110 | n => n, fun | n => n⟩
theorem Tryd.lays189 : Go.Proofs.Lays.n189 Tryd.prog Tryd.lays189_ren := {
  mixed := by kernel_rfl
  f125 := Tryd.func48.trans (congrArg some (by kernel_rfl))
  f128 := Tryd.func60.trans (congrArg some (by kernel_rfl))
  f129 := Tryd.func61.trans (congrArg some (by kernel_rfl))
  f189 := Tryd.func37.trans (congrArg some (by kernel_rfl))
  f215 := Tryd.func67.trans (congrArg some (by kernel_rfl))
  f216 := Tryd.func57.trans (congrArg some (by kernel_rfl))
  f257 := Tryd.func47.trans (congrArg some (by kernel_rfl))
  f294 := Tryd.func51.trans (congrArg some (by kernel_rfl))
  f295 := Tryd.func52.trans (congrArg some (by kernel_rfl))
  f296 := Tryd.func53.trans (congrArg some (by kernel_rfl))
  f297 := Tryd.func54.trans (congrArg some (by kernel_rfl))
  f298 := Tryd.func55.trans (congrArg some (by kernel_rfl))
  f299 := Tryd.func56.trans (congrArg some (by kernel_rfl))
  f300 := Tryd.func58.trans (congrArg some (by kernel_rfl))
  f301 := Tryd.func59.trans (congrArg some (by kernel_rfl))
  f328 := Tryd.func62.trans (congrArg some (by kernel_rfl))
  f329 := Tryd.func63.trans (congrArg some (by kernel_rfl))
  f330 := Tryd.func64.trans (congrArg some (by kernel_rfl))
  f331 := Tryd.func65.trans (congrArg some (by kernel_rfl))
  f332 := Tryd.func66.trans (congrArg some (by kernel_rfl))
  f343 := Tryd.func68.trans (congrArg some (by kernel_rfl))
  t0 := Tryd.underlying0
  a0 := Tryd.isAgg0
  z0 := Tryd.sizeOf0
  v0 := Tryd.zeroValue0
  t3 := Tryd.underlying3
  a3 := Tryd.isAgg3
  z3 := Tryd.sizeOf3
  v3 := Tryd.zeroValue3
  t4 := Tryd.underlying4
  a4 := Tryd.isAgg4
  z4 := Tryd.sizeOf4
  v4 := Tryd.zeroValue4
  t5 := Tryd.underlying5
  a5 := Tryd.isAgg5
  z5 := Tryd.sizeOf5
  v5 := Tryd.zeroValue5
  t9 := Tryd.underlying9
  a9 := Tryd.isAgg9
  z9 := Tryd.sizeOf9
  v9 := Tryd.zeroValue9
  t28 := Tryd.underlying25
  a28 := Tryd.isAgg25
  z28 := Tryd.sizeOf25
  v28 := Tryd.zeroValue25
  t46 := Tryd.underlying87
  a46 := Tryd.isAgg87
  z46 := Tryd.sizeOf87
  v46 := Tryd.zeroValue87
  t51 := Tryd.underlying99
  a51 := Tryd.isAgg99
  z51 := Tryd.sizeOf99
  v51 := Tryd.zeroValue99
  t53 := Tryd.underlying101
  a53 := Tryd.isAgg101
  z53 := Tryd.sizeOf101
  v53 := Tryd.zeroValue101
  t131 := Tryd.underlying90
  a131 := Tryd.isAgg90
  z131 := Tryd.sizeOf90
  v131 := Tryd.zeroValue90
  t182 := Tryd.underlying92
  a182 := Tryd.isAgg92
  z182 := Tryd.sizeOf92
  v182 := Tryd.zeroValue92
  t183 := Tryd.underlying93
  a183 := Tryd.isAgg93
  z183 := Tryd.sizeOf93
  v183 := Tryd.zeroValue93
  t218 := Tryd.underlying102
  a218 := Tryd.isAgg102
  z218 := Tryd.sizeOf102
  v218 := Tryd.zeroValue102
  t222 := Tryd.underlying106
  a222 := Tryd.isAgg106
  z222 := Tryd.sizeOf106
  v222 := Tryd.zeroValue106
  t228 := Tryd.underlying109
  a228 := Tryd.isAgg109
  z228 := Tryd.sizeOf109
  v228 := Tryd.zeroValue109
  t229 := Tryd.underlying110
  a229 := Tryd.isAgg110
  z229 := Tryd.sizeOf110
  v229 := Tryd.zeroValue110 }
def Tryd.lays220_ren : Go.Shelf.Ren := ⟨fun | 20 => 39 | n => n, fun | 22 => 25 | 3 => 3 | 4 => 4 | 0 => 0 | n => n, fun | n => n⟩
theorem Tryd.lays220 : Go.Proofs.Lays2.n20 Tryd.prog Tryd.lays220_ren := {
  mixed := by kernel_rfl
  f20 := Tryd.func39.trans (congrArg some (by kernel_rfl))
  t0 := Tryd.underlying0
  a0 := Tryd.isAgg0
  z0 := Tryd.sizeOf0
  v0 := Tryd.zeroValue0
  t3 := Tryd.underlying3
  a3 := Tryd.isAgg3
  z3 := Tryd.sizeOf3
  v3 := Tryd.zeroValue3
  t4 := Tryd.underlying4
  a4 := Tryd.isAgg4
  z4 := Tryd.sizeOf4
  v4 := Tryd.zeroValue4
  t22 := Tryd.underlying25
  a22 := Tryd.isAgg25
  z22 := Tryd.sizeOf25
  v22 := Tryd.zeroValue25
  i3 := by kernel_rfl }
def Tryd.lays215_ren : Go.Shelf.Ren := ⟨fun | 15 => 30 | n => n, fun | 22 => 25 | 3 => 3 | 4 => 4 | n => n, fun | n => n⟩
theorem Tryd.lays215 : Go.Proofs.Lays2.n15 Tryd.prog Tryd.lays215_ren := {
  mixed := by kernel_rfl
  f15 := Tryd.func30.trans (congrArg some (by kernel_rfl))
  t3 := Tryd.underlying3
  a3 := Tryd.isAgg3
  z3 := Tryd.sizeOf3
  v3 := Tryd.zeroValue3
  t4 := Tryd.underlying4
  a4 := Tryd.isAgg4
  z4 := Tryd.sizeOf4
  v4 := Tryd.zeroValue4
  t22 := Tryd.underlying25
  a22 := Tryd.isAgg25
  z22 := Tryd.sizeOf25
  v22 := Tryd.zeroValue25
  i3 := by kernel_rfl }
end Go.Proofs
namespace Go.Proofs.YtjmmckkiicefhaaDoor
open Go.RowKit Go.Shelf Go.Lib Go.Sort
theorem comp_inv (d : Array Int) (hs : ∀ i j, i ≤ j → j < d.size → d[i]! ≤ d[j]!) : ∀ m, m ≤ d.size → (compactUpTo d m).Pairwise (· < ·) ∧ ∀ x, x ∈ compactUpTo d m ↔ ∃ j, j < m ∧ d[j]! = x
  | 0, _ => ⟨by simp [compactUpTo], fun x => by simp [compactUpTo]⟩
  | m + 1, hm => by
    obtain ⟨h1, h2⟩ := comp_inv d hs m (by omega)
    rw [compactUpTo_succ]
    by_cases hk : keeps d m = true
    · rw [if_pos hk]
      refine ⟨?_, fun x => ?_⟩
      · rw [List.pairwise_append]
        refine ⟨h1, List.pairwise_singleton _ _, fun a ha b hb => ?_⟩
        rw [List.mem_singleton.1 hb]
        obtain ⟨j, hj, rfl⟩ := (h2 a).1 ha
        have e1 := hs j (m - 1) (by omega) (by omega)
        have e2 := hs (m - 1) m (by omega) (by omega)
        have e3 : d[m]! ≠ d[m - 1]! := by
          simp only [keeps, decide_eq_true_eq] at hk
          rcases hk with e | e
          · omega
          · exact e
        omega
      · rw [List.mem_append, List.mem_singleton, h2]
        constructor
        · rintro (⟨j, hj, e⟩ | rfl)
          · exact ⟨j, by omega, e⟩
          · exact ⟨m, by omega, rfl⟩
        · rintro ⟨j, hj, e⟩
          by_cases ej : j = m
          · subst ej; exact .inr e.symm
          · exact .inl ⟨j, by omega, e⟩
    · rw [if_neg hk, List.append_nil]
      refine ⟨h1, fun x => ?_⟩
      rw [h2]
      have hk' : ¬ (m = 0 ∨ d[m]! ≠ d[m - 1]!) := by simpa [keeps] using hk
      constructor
      · rintro ⟨j, hj, e⟩; exact ⟨j, by omega, e⟩
      · rintro ⟨j, hj, e⟩
        by_cases ej : j = m
        · subst ej
          refine ⟨j - 1, by omega, ?_⟩
          rw [← e]
          apply Classical.byContradiction
          intro hne
          exact hk' (.inr (fun q => hne q.symm))
        · exact ⟨j, by omega, e⟩
/-- Sorted, each once. -/
theorem sorted_once (l : List Nat) : ∃ CE : List Nat, natI CE = Lib.compact ((natI l).mergeSort fun x y => decide (x ≤ y)) ∧ risesN CE ∧ ∀ c, c ∈ CE ↔ c ∈ l := by
  obtain ⟨Z, hZ⟩ : ∃ Z, Z = (natI l).mergeSort fun x y => decide (x ≤ y) := ⟨_, rfl⟩
  have hp : Z.Perm (natI l) := by rw [hZ]; exact List.mergeSort_perm _ _
  have hs : Z.Pairwise (fun x y => decide (x ≤ y) = true) := by
    rw [hZ]
    exact List.pairwise_mergeSort (fun a b c h1 h2 => by simp at *; omega) (fun a b => by simp; omega) _
  rw [← hZ]
  have hnn : ∀ z ∈ Z, 0 ≤ z := fun z hz => by
    have := hp.mem_iff.1 hz
    unfold natI at this
    obtain ⟨x, _, rfl⟩ := List.mem_map.1 this
    omega
  have hget : ∀ i, i < Z.length → Z.toArray[i]! = Z[i]! := fun i hi => by simp
  have hord : ∀ i j, i ≤ j → j < Z.toArray.size → Z.toArray[i]! ≤ Z.toArray[j]! := fun i j hij hj => by
    have hj' : j < Z.length := by simpa using hj
    rcases Nat.eq_or_lt_of_le hij with e | e
    · subst e; omega
    · have := List.pairwise_iff_getElem.1 hs i j (by omega) hj' e
      rw [decide_eq_true_eq] at this
      rw [getElem!_pos _ i (by simp; omega), getElem!_pos _ j (by simpa using hj')]
      simpa using this
  obtain ⟨h1, h2⟩ := comp_inv Z.toArray hord Z.toArray.size (Nat.le_refl _)
  have hcomp : Lib.compact Z = compactUpTo Z.toArray Z.toArray.size := by unfold Lib.compact; simp
  rw [hcomp]
  have hmem : ∀ x, x ∈ compactUpTo Z.toArray Z.toArray.size ↔ x ∈ Z := fun x => by
    rw [h2]
    constructor
    · rintro ⟨j, hj, e⟩
      have hj' : j < Z.length := by simpa using hj
      rw [← e, getElem!_pos _ j (by simpa using hj')]
      simp
    · intro hx
      obtain ⟨j, hj, e⟩ := List.getElem_of_mem hx
      refine ⟨j, by simpa using hj, ?_⟩
      rw [getElem!_pos _ j (by simpa using hj)]
      simpa using e
  refine ⟨(compactUpTo Z.toArray Z.toArray.size).map Int.toNat, ?_, ?_, fun c => ?_⟩
  · unfold natI
    rw [List.map_map]
    conv => rhs; rw [← List.map_id (compactUpTo Z.toArray Z.toArray.size)]
    apply List.map_congr_left
    intro x hx
    have := hnn x ((hmem x).1 hx)
    simp only [Function.comp, id]
    omega
  · unfold risesN
    rw [List.pairwise_map]
    refine List.Pairwise.imp_of_mem (fun {a b} ha hb h => ?_) h1
    have := hnn a ((hmem a).1 ha)
    have := hnn b ((hmem b).1 hb)
    omega
  · rw [List.mem_map]
    constructor
    · rintro ⟨x, hx, rfl⟩
      have hz := hp.mem_iff.1 ((hmem x).1 hx)
      unfold natI at hz
      obtain ⟨y, hy, rfl⟩ := List.mem_map.1 hz
      simpa using hy
    · intro hc
      refine ⟨(c : Int), (hmem _).2 (hp.mem_iff.2 ?_), by simp⟩
      unfold natI
      exact List.mem_map.2 ⟨c, hc, rfl⟩
theorem sortI_any (lo : Nat) (v : Value) (Z : List Int) (w : World) (h : OwnI w lo v Z) (hl : Z.length ≤ 17592186044416) :
    Calls Tryd.prog 37 #[v] w fun e w' => e = .returned (.tuple #[]) ∧ OwnI w' lo v (Z.mergeSort fun x y => decide (x ≤ y)) ∧ Only w w' (fun k => v.ownBlock = some k) := by
  have hlen : (Z.mergeSort fun x y => decide (x ≤ y)).length = Z.length := List.length_mergeSort _
  rcases h.2 with ⟨rfl, hn⟩ | ⟨g, cap, cur, rfl, hg, hr, hc, hm, hs, ht⟩
  · have hZ : Z = [] := List.eq_nil_of_length_eq_zero hn
    subst hZ
    refine (Any.slices_Sort_int_none Tryd.lays189 none 0 w).mono ?_
    rintro e w' ⟨rfl, rfl⟩
    exact ⟨rfl, by rw [List.mergeSort_nil]; exact World.ownsRow_nil _ _ _ _, Only.refl _ _⟩
  · have hlt := (World.ownsRow.lt h g rfl).2
    have hH : Holds (Value.int .i64) w g 0 Z.toArray := fun j hj => by
      have hj' : j < Z.length := by simpa using hj
      refine ⟨?_, World.ownsRow.frozenAt h _⟩
      rw [Nat.zero_add, World.ownsRow.cellAt h j (by simpa using hj')]
      rw [getElem!_pos _ j (by simpa using hj')]
      simp [hj']
    refine (Any.slices_Sort_int Tryd.lays189 g 0 cap Z w hH hlt (by omega)).mono ?_
    rintro e w' ⟨rfl, nn, os, rfl⟩
    refine ⟨rfl, ?_, ⟨rfl, rfl, rfl, ?_, fun k hk hne => ?_⟩⟩
    · unfold OwnI
      rw [hlen]
      exact ownsRow_sortedI hlen hg hr hc hm (by simpa using hs)
    · simp [grow, putRow, mapBlock, Sort.ahead]
    · have hkg : g ≠ k := fun e => hne (by rw [e]; rfl)
      have : k < (putRow (Value.int .i64) (Sort.ahead w nn) g 0 (Z.mergeSort fun x y => decide (x ≤ y)).toArray).heap.size := by simpa [putRow, mapBlock, Sort.ahead] using hk
      simp only [grow]
      rw [Array.getElem?_append_left this]
      simp [putRow, mapBlock, Sort.ahead, Array.getElem?_modify, hkg]
theorem compactI_any (lo : Nat) (v : Value) (Z : List Int) (w : World) (h : OwnI w lo v Z) (hl : Z.length ≤ 17592186044416) :
    Calls Tryd.prog 39 #[v] w fun e w' => ∃ v', e = .returned v' ∧ OwnI w' lo v' (Lib.compact Z) ∧ Only w w' (fun k => v.ownBlock = some k) ∧ (∀ k, v'.ownBlock = some k → v.ownBlock = some k) := by
  rcases h.2 with ⟨rfl, hn⟩ | ⟨g, cap, cur, rfl, hg, hr, hc, hm, hs, ht⟩
  · have hZ : Z = [] := List.eq_nil_of_length_eq_zero hn
    subst hZ
    refine (Any.slices_Compact_int_empty Tryd.lays220 none 0 w).mono ?_
    rintro e w' ⟨rfl, rfl⟩
    exact ⟨_, rfl, World.ownsRow_nil _ _ _ _, Only.refl _ _, fun k hk => hk⟩
  · have hH : Holds (Value.int .i64) w g 0 Z.toArray := fun j hj => by
      have hj' : j < Z.length := by simpa using hj
      refine ⟨?_, World.ownsRow.frozenAt h _⟩
      rw [Nat.zero_add, World.ownsRow.cellAt h j (by simpa using hj')]
      rw [getElem!_pos _ j (by simpa using hj')]
      simp [hj']
    have hcl : (Lib.compact Z).length ≤ Z.length := by
      unfold Lib.compact compactUpTo
      rw [List.length_map]
      have := List.length_filter_le (keeps Z.toArray) (List.range Z.length)
      simpa using this
    refine (Any.slices_Compact_int Tryd.lays220 g 0 cap Z w hH (by omega) hc).mono ?_
    rintro e w' ⟨rfl, q, rfl⟩
    refine ⟨_, rfl, ?_, ⟨rfl, rfl, rfl, ?_, fun k hk hne => ?_⟩, fun k hk => hk⟩
    · have := ownsRow_putRow (q := q) (k := (Lib.compact Z).length) (ys := Lib.compact Z ++ List.replicate (Z.length - (Lib.compact Z).length) 0) h (by simp; omega) hcl
      unfold OwnI
      rw [List.take_left] at this
      exact this
    · simp [putRow, mapBlock, Sort.ahead]
    · have hkg : g ≠ k := fun e => hne (by rw [e]; rfl)
      simp [putRow, mapBlock, Sort.ahead, Array.getElem?_modify, hkg]
end Go.Proofs.YtjmmckkiicefhaaDoor
namespace Go.Proofs.YtjmmckkiicefhaaDoor
theorem natO_inj : ∀ {a b : List Int}, (∀ z ∈ a, 0 ≤ z) → (∀ z ∈ b, 0 ≤ z) → natO a = natO b → a = b
  | [], [], _, _, _ => rfl
  | [], _ :: _, _, _, h => by simp [natO] at h
  | _ :: _, [], _, _, h => by simp [natO] at h
  | x :: a, y :: b, ha, hb, h => by
    simp only [natO, List.map_cons, List.cons.injEq] at h
    have h1 := ha x (.head _)
    have h2 := hb y (.head _)
    rw [natO_inj (a := a) (b := b) (fun z hz => ha z (.tail _ hz)) (fun z hz => hb z (.tail _ hz)) h.2, show x = y by omega]
theorem getD_mem {Ls : List (List Nat)} {i : Nat} (hi : i < Ls.length) : Ls.getD i [] = Ls[i] := by rw [List.getD_eq_getElem?_getD, List.getElem?_eq_getElem hi]; rfl
/-- Groups whose texts hang on the states. -/
theorem GI.cuts {ks : List (List UInt8)} {Ls : List (List Nat)} {seq : List (List UInt8 × Nat)} (h : GI ks Ls seq) {T : Nat → List UInt8} {A : Nat → Prop} {n : Nat} (hs : ∀ k s, (k, s) ∈ seq ↔ (s < n ∧ A s) ∧ k = T s) :
    (∀ S ∈ Ls, S ≠ [] ∧ S.Nodup ∧ ∀ s ∈ S, s < n ∧ A s ∧ ∀ t, t < n → (t ∈ S ↔ (A t ∧ T t = T s))) ∧ (∀ s, s < n → A s → ∃ S ∈ Ls, s ∈ S) ∧ (∀ i j (hi : i < Ls.length) (hj : j < Ls.length), i ≠ j → ∀ x ∈ Ls[i], x ∉ Ls[j]) := by
  refine ⟨fun S hS => ?_, fun s hsn ha => ?_, h.apart (fun x hx y hy e => ?_)⟩
  · obtain ⟨i, hi, rfl⟩ := List.getElem_of_mem hS
    have hi' : i < ks.length := by rw [h.len]; exact hi
    have hg := getD_mem hi
    refine ⟨by rw [← hg]; exact h.ne i hi', by rw [← hg]; exact h.up i hi', fun s hs' => ?_⟩
    have h1 := (hs _ _).1 ((h.mem i hi' s).1 (by rw [hg]; exact hs'))
    refine ⟨h1.1.1, h1.1.2, fun t ht => ?_⟩
    rw [← hg, h.mem i hi' t, hs]
    constructor
    · rintro ⟨⟨_, a⟩, b⟩; exact ⟨a, by rw [← b, h1.2]⟩
    · rintro ⟨a, b⟩; exact ⟨⟨ht, a⟩, by rw [b, h1.2]⟩
  · have h1 := (hs (T s) s).2 ⟨⟨hsn, ha⟩, rfl⟩
    have h2 := h.all _ h1
    simp only at h2
    obtain ⟨i, hi, e⟩ := List.getElem_of_mem h2
    have hi' : i < Ls.length := by rw [← h.len]; exact hi
    refine ⟨Ls[i], List.getElem_mem hi', ?_⟩
    rw [← getD_mem hi', h.mem i hi s, e]
    exact h1
  · obtain ⟨a, b⟩ := x
    obtain ⟨c, d⟩ := y
    simp only at e
    subst e
    rw [((hs _ _).1 hx).2, ((hs _ _).1 hy).2]
/-- By what the states tell. -/
theorem out_cuts {ks : List (List UInt8)} {Ls : List (List Nat)} {OL : List (List Int)} {n : Nat} (hn : OL.length = n) (h : GI ks Ls (seqO OL OL.length)) (hz : ∀ r ∈ OL, ∀ z ∈ r, 0 ≤ z) :
    Cutlist n (fun _ => 0) Ls ∧ (∀ S ∈ Ls, ∀ s ∈ S, ∀ t, t < n → (t ∈ S ↔ OL.getD t [] = OL.getD s [])) ∧ (∀ s, s < n → ∃ S ∈ Ls, s ∈ S) := by
  have hq : ∀ k s, (k, s) ∈ seqO OL OL.length ↔ (s < n ∧ True) ∧ k = encL (natO (OL.getD s [])) := fun k s => by
    constructor
    · intro hx
      have := seqO_mem hx
      simp only at this
      exact ⟨⟨by omega, trivial⟩, this.2⟩
    · rintro ⟨⟨h1, _⟩, rfl⟩
      unfold seqO
      exact List.mem_map.2 ⟨s, List.mem_range.2 (by omega), rfl⟩
  obtain ⟨a, b, c⟩ := h.cuts hq
  have hnn : ∀ s, s < n → ∀ z ∈ OL.getD s [], 0 ≤ z := fun s hs z hz' => by
    rw [List.getD_eq_getElem?_getD, List.getElem?_eq_getElem (by omega)] at hz'
    exact hz _ (List.getElem_mem _) z hz'
  refine ⟨⟨fun S hS => ⟨(a S hS).1, (a S hS).2.1, fun x hx => ((a S hS).2.2 x hx).1, fun _ _ _ _ => rfl⟩, c⟩, fun S hS s hs t ht => ?_, fun s hs => b s hs trivial⟩
  obtain ⟨h1, _, h2⟩ := (a S hS).2.2 s hs
  rw [h2 t ht]
  constructor
  · rintro ⟨_, e⟩
    exact natO_inj (hnn t ht) (hnn s h1) (encL_inj _ _ e)
  · intro e
    exact ⟨trivial, by rw [e]⟩
/-- By their successors. -/
theorem suc_cuts {ks : List (List UInt8)} {Ls : List (List Nat)} {seq : List (List UInt8 × Nat)} {m n : Nat} {F cl : Nat → Nat} {q CE : List Nat} (h : GI ks Ls seq) (hq : SqI m F cl CE CE.length seq) (hm : 0 < m) (hr : risesN CE) (hC : ∀ c, c ∈ CE ↔ (c < n * m ∧ F c ∈ q)) :
    Cutlist n cl Ls ∧ (∀ S ∈ Ls, ∀ s ∈ S, s < n ∧ prs m F cl q s ≠ [] ∧ ∀ t, t < n → (t ∈ S ↔ (prs m F cl q t ≠ [] ∧ keyL m F cl q t = keyL m F cl q s))) ∧ (∀ s, s < n → prs m F cl q s ≠ [] → ∃ S ∈ Ls, s ∈ S) := by
  have hs : ∀ k s, (k, s) ∈ seq ↔ (s < n ∧ prs m F cl q s ≠ []) ∧ k = encL (keyL m F cl q s) := fun k s => by
    rw [hq.mem]
    constructor
    · rintro ⟨⟨j, hj, _, e⟩, hk⟩
      have hc := (hC CE[j]).1 (List.getElem_mem hj)
      have hsn : s < n := by rw [← e]; exact (Nat.div_lt_iff_lt_mul hm).2 hc.1
      obtain ⟨t1, t2⟩ := txt_key (cl := cl) hm hr hC hsn
      exact ⟨⟨hsn, t2.1 ⟨_, List.getElem_mem hj, e⟩⟩, by rw [hk, t1]⟩
    · rintro ⟨⟨hsn, hp⟩, hk⟩
      obtain ⟨t1, t2⟩ := txt_key (cl := cl) hm hr hC hsn
      obtain ⟨c, hc, e⟩ := t2.2 hp
      obtain ⟨j, hj, rfl⟩ := List.getElem_of_mem hc
      exact ⟨⟨j, hj, hj, e⟩, by rw [hk, t1]⟩
  obtain ⟨a, b, c⟩ := h.cuts hs
  have heq : ∀ S ∈ Ls, ∀ s ∈ S, s < n ∧ prs m F cl q s ≠ [] ∧ ∀ t, t < n → (t ∈ S ↔ (prs m F cl q t ≠ [] ∧ keyL m F cl q t = keyL m F cl q s)) := fun S hS s hs' => by
    obtain ⟨h1, h2, h3⟩ := (a S hS).2.2 s hs'
    refine ⟨h1, h2, fun t ht => ?_⟩
    rw [h3 t ht]
    constructor
    · rintro ⟨x, e⟩; exact ⟨x, encL_inj _ _ e⟩
    · rintro ⟨x, e⟩; exact ⟨x, by rw [e]⟩
  refine ⟨⟨fun S hS => ⟨(a S hS).1, (a S hS).2.1, fun x hx => ((a S hS).2.2 x hx).1, fun x hx y hy => ?_⟩, c⟩, heq, fun s hs' hp => b s hs' hp⟩
  have h1 := heq S hS y hy
  have h2 := (h1.2.2 x (heq S hS x hx).1).1 hx
  exact (keyL_inj h2.2).1
end Go.Proofs.YtjmmckkiicefhaaDoor
namespace Go.Proofs.YtjmmckkiicefhaaDoor
open Go.RowKit Go.Shelf Go.Lib Go.Maps
theorem IA.tail {w : World} {b o : Nat} {z : Int} {l : List Int} (h : IA w (some ⟨b, o, none⟩) (z :: l)) : IA w (some ⟨b, o + 1, none⟩) l := ⟨fun k hk => by
  obtain ⟨b', o', e, h1, h2⟩ := h.at' (k + 1) (by simp; omega)
  cases e
  refine ⟨b, o + 1, rfl, h1, ?_⟩
  rw [show o + 1 + k = o + (k + 1) by omega, h2]
  rfl⟩
theorem natI_drop (l : List Nat) {i : Nat} (h : i < l.length) : natI (l.drop i) = ((l[i] : Nat) : Int) :: natI (l.drop (i + 1)) := by
  rw [List.drop_eq_getElem_cons h]
  rfl
set_option maxRecDepth 100000 in
set_option maxHeartbeats 3200000 in
theorem bySucc_any (X m n C : Nat) (aN : Option Addr) (cN : Nat) (FN : List Int) (aO : Option Addr) (cO : Nat) (OL : List (List Int)) (F cl : Nat → Nat) (CE : List Nat) (aC : Option Addr) (cC : Nat) (w : World) (hw : Wh w X m aN cN FN aO cO OL) (hm : 0 < m) (hmb : m ≤ 2200000) (hn : n ≤ 2200000) (hFl : FN.length = n * m) (hF : ∀ c (h : c < FN.length), FN[c] = ((F c : Nat) : Int) ∧ F c < n) (hC : Ov w C n cl) (hcl : ∀ s, s < n → cl s < 2200000) (hce : IA w aC (natI CE)) (hrise : risesN CE) (hlt : ∀ c ∈ CE, c < n * m) (hcap : CE.length ≤ cC) (hcl2 : CE.length ≤ 2200000) (_hnm : n * m ≤ 2200000) :
    Calls Tryd.prog 38 #[.pointer (some ⟨X, 0, none⟩), .slice (some ⟨C, 0, none⟩) n n, .slice aC CE.length cC] w fun e w' => ∃ a c ks Ls seq, e = .returned (.slice a Ls.length c) ∧ GapL w' w.heap.size w'.heap.size a Ls ∧ GI ks Ls seq ∧ SqI m F cl CE CE.length seq ∧ Ls.length ≤ n ∧ Below w.heap.size w w' := by
  have HW : Hid (∀ V, Below w.heap.size w V → Wh V X m aN cN FN aO cO OL ∧ Ov V C n cl) := hid0 (fun V hV => ⟨hw.past hV, hC.keep (hV.block _ hC.lt)⟩)
  have HNg := hid0 (newGroups_any w)
  have HF := hid0 hF
  have HCl := hid0 hcl
  have HRs := hid0 hrise
  have HLt := hid0 hlt
  have HFl := hid0 hFl
  have HCe := hid0 hce
  clear hw hC hF hcl hrise hlt hFl hce
  have HGl : Hid (∀ GB MB V v tx seq, GrS w V GB MB v tx seq → ∃ vl, V.cell? ⟨GB, 1, none⟩ = some vl ∧ ∃ ks ps Ls, Gp V w.heap.size GB MB vl ks ps Ls ∧ GI ks Ls seq ∧ ks.length ≤ seq.length) := hid0 (fun GB MB V v tx seq h => by
    obtain ⟨vl, ks, ps, Ls, h1, h2, h3⟩ := h.gp
    exact ⟨vl, h1.cell.2.1, ks, ps, Ls, h1, h2, h3⟩)
  have HSt : Hid (∀ i (h : i < CE.length), CE[i] / m < n) := hid0 (fun i h => (Nat.div_lt_iff_lt_mul hm).2 (HLt.out _ (List.getElem_mem h)))
  go_enter Tryd.func38, Tryd.ntmps38
  go_upto_region 2 with (go_at_call 44; go_loud ((refine HNg.out.mono ?_; rintro e w1 ⟨GB, MB, rfl, hg1, hb1⟩)))
  have HS0 := hid0 (grS_new hg1 hb1)
  have HC0 := hid0 (HCe.out.past hb1)
  clear hg1 hb1
  go_wp2
  go_loopw [2, 8, 9] (fun p2 v p9 wr => ∃ (i : Nat) (a2 : Option Addr) (c2 : Nat) (tx : List UInt8) (seq : List (List UInt8 × Nat)), i ≤ CE.length ∧ p2 = .slice a2 (CE.length - i) c2 ∧ CE.length - i ≤ c2 ∧ Hid (IA w a2 (natI (CE.drop i))) ∧ Hid (GrS w wr GB MB v tx seq) ∧ Hid (SqI m F cl CE i seq) ∧ Hid (NewS m CE i)) (fun p2 _ _ _ => match p2 with | .slice _ l _ => l | _ => 0)
  case atStart => exact ⟨0, aC, cC, [], [], Nat.zero_le _, rfl, hcap, HCe, HS0, hid0 (sqI_nil _ _ _ _), hid0 (fun j _ _ h => absurd h (Nat.not_lt_zero _))⟩
  case round =>
    obtain ⟨i, a2, c2, tx, seq, hi, rfl, hc2, HI, HS, HQ, HN⟩ := hrel
    by_cases hlt : i < CE.length
    · obtain ⟨l2, hl2⟩ : ∃ l2, l2 = CE.length - i := ⟨_, rfl⟩
      rw [← hl2] at hc2 ⊢
      have hl2p : 0 < l2 := by omega
      have hl2I : (0 : Int) < (l2 : Int) := by omega
      have hl2g : (l2 : Int) > 0 := by omega
      have HL2 := hid0 hl2
      clear hl2
      have hdr := natI_drop CE hlt
      obtain ⟨b, o, hab, _, d1⟩ := (HI.out.past HS.out.bel).at' 0 (by rw [hdr]; simp)
      subst hab
      simp only [hdr, List.getElem_cons_zero, Nat.add_zero] at d1
      have hcn := HLt.out _ (List.getElem_mem hlt)
      have hsn := HSt.out i hlt
      obtain ⟨c0, hc0⟩ : ∃ c0, c0 = CE[i] := ⟨_, rfl⟩
      rw [← hc0] at d1 hcn hsn
      obtain ⟨st, hst⟩ : ∃ st, st = c0 / m := ⟨_, rfl⟩
      rw [← hst] at hsn
      obtain ⟨x0, x1, _⟩ := (HW.out _ HS.out.bel).1.cell
      have hdiv : Int.tdiv (c0 : Int) (m : Int) = (st : Int) := by rw [hst]; exact (Int.ofNat_tdiv c0 m).symm
      have hdivW : IntKind.i64.wrap (st : Int) = (st : Int) := by simp [IntKind.wrap, IntKind.bits, IntKind.signed]; omega
      have hmI : ¬ (m : Int) = 0 := by omega
      have hmN : ¬ m = 0 := by omega
      have hmI2 : ((m : Int) == 0) = false := by simpa using hmI
      have HSt0 : Hid (st = CE[i] / m) := hid0 (by rw [hst, hc0])
      have HC0 := hid0 hc0
      clear hc0 hst hdr
      obtain ⟨av, cv, hv⟩ := HS.out.form
      subst hv
      go_wp2
      go_quiet ((fail))
      have hSq : GrS w (wr.drewN nq).drew GB MB (.slice av 0 cv) [] seq := (HS.out.cut.drewN nq).drew1
      have hclb := HCl.out st hsn
      have HAn := hid0 (addNumber_any w.heap.size (cl st) (.slice av 0 cv) [] (wr.drewN nq).drew hSq.own (by simp) (by omega) hSq.bel.size)
      have HNx : Hid (∀ v' w2, Apd (wr.drewN nq).drew w2 w.heap.size (.slice av 0 cv) v' ([] ++ encN (cl st)) → GrS w w2 GB MB v' (encN (cl st)) seq) := hid0 (fun v' w2 h => hSq.more (by simpa using h))
      have HSo : Hid (∀ V : World, Below w.heap.size w V → V.cell? ⟨C, st, none⟩ = some (.int .i64 (cl st : Int)) ∧ Below w.heap.size w V) := hid0 (fun V hV => ⟨(HW.out V hV).2.cell hsn, hV⟩)
      have hBq : Below w.heap.size w (wr.drewN nq) := (HS.out.drewN nq).bel
      have hsI : (st : Int) < (n : Int) := by omega
      have hs0 : (0 : Int) ≤ (st : Int) := by omega
      clear hSq HS d1 x0 x1
      generalize wr.drewN nq = wq at *
      go_upto_region 5 with (fail)
      go_region_held3 (fun W => W.cell? ⟨C, st, none⟩ = some (.int .i64 (cl st : Int)) ∧ Below w.heap.size w W) (first | exact HSo.out _ (by go_grown) | (go_split_ands; exact HSo.out _ (by go_grown)) | (go_split_ands; exact HSo.out _ (by assumption)) | exact HSo.out _ (by assumption) | exact HSo.out _ ⟨hBq.os, hBq.tape, hBq.output, hBq.size, hBq.block⟩)
        (first
          | (go_at_call 45; go_split_ands; refine HAn.out.mono ?_; rintro e w2 ⟨v', rfl, ha2⟩; have HS3 := hid0 (HNx.out v' w2 ha2); have hb3 := HS3.out.bel; clear ha2))
      have HT0 : Hid (encN (cl st) = encL (cl st :: celL m F cl ((CE.drop i).take (i - i)))) := hid0 (by rw [Nat.sub_self, List.take_zero]; simp [celL, encL])
      clear HAn HNx HSo
      go_wp2
      go_loopw [2, 8] (fun p2 v wr => ∃ (k : Nat) (a3 : Option Addr) (c3 : Nat) (tx3 : List UInt8), i ≤ k ∧ k ≤ CE.length ∧ p2 = .slice a3 (CE.length - k) c3 ∧ CE.length - k ≤ c3 ∧ Hid (IA w a3 (natI (CE.drop k))) ∧ Hid (GrS w wr GB MB v tx3 seq) ∧ Hid (tx3 = encL (cl st :: celL m F cl ((CE.drop i).take (k - i)))) ∧ Hid (∀ j (hj : j < CE.length), i ≤ j → j < k → CE[j] / m = st)) (fun p2 _ _ => match p2 with | .slice _ l _ => l | _ => 0)
      case atStart => exact ⟨i, _, _, _, Nat.le_refl _, hi, by rw [← HL2.out], by rw [← HL2.out]; exact hc2, HI, HS3, HT0, hid0 (fun j _ h1 h2 => absurd h2 (Nat.not_lt.2 h1))⟩
      case round =>
        obtain ⟨k, a3, c3, tx3, hik0, hk, rfl, hc3, HI3, HS2, HT, HE⟩ := hrel
        obtain ⟨av3, cv3, hv3⟩ := HS2.out.form
        subst hv3
        have hlen : tx3.length ≤ 60000000 := by
          rw [HT.out]
          have h1 := encL_len (cl st :: celL m F cl ((CE.drop i).take (k - i))) (fun x hx => by
            rcases List.mem_cons.1 hx with rfl | hx
            · omega
            · have := celL_lt (B := 2200000) hm hmb (fun c hc => by
                have hc' := HLt.out c (List.mem_of_mem_drop (List.mem_of_mem_take hc))
                exact HCl.out _ (HF.out c (by rw [HFl.out]; exact hc')).2) x hx
              omega)
          rw [List.length_cons, celL_len, List.length_take, List.length_drop] at h1
          omega
        obtain ⟨x0, x1, _⟩ := (HW.out _ HS2.out.bel).1.cell
        by_cases hkl : k < CE.length
        · obtain ⟨l3, hl3⟩ : ∃ l3, l3 = CE.length - k := ⟨_, rfl⟩
          have hdr := natI_drop CE hkl
          obtain ⟨b3, o3, hab3, _, d3⟩ := (HI3.out.past HS2.out.bel).at' 0 (by rw [hdr]; simp)
          subst hab3
          simp only [hdr, List.getElem_cons_zero, Nat.add_zero] at d3
          have hcn3 := HLt.out _ (List.getElem_mem hkl)
          obtain ⟨c1, hc1⟩ : ∃ c1, c1 = CE[k] := ⟨_, rfl⟩
          rw [← hc1] at d3 hcn3
          obtain ⟨st1, hst1⟩ : ∃ st1, st1 = c1 / m := ⟨_, rfl⟩
          have hdiv1 : Int.tdiv (c1 : Int) (m : Int) = (st1 : Int) := by rw [hst1]; exact (Int.ofNat_tdiv c1 m).symm
          have hst1n : st1 < n := by rw [hst1, hc1]; exact HSt.out k hkl
          have hdivW1 : IntKind.i64.wrap (st1 : Int) = (st1 : Int) := by simp [IntKind.wrap, IntKind.bits, IntKind.signed]; omega
          have hl3p : 0 < l3 := by omega
          have hl3I : (0 : Int) < (l3 : Int) := by omega
          have hl3g : (l3 : Int) > 0 := by omega
          have hdl : decide ((l3 : Int) > 0) = true := by simpa using hl3I
          have hdl2 : decide (0 < (l3 : Int)) = true := by simpa using hl3I
          have hdl3 : decide (0 < l3) = true := by simpa using hl3p
          by_cases he : st1 = st
          · subst he
            have hne : ((st1 : Int) == (st1 : Int)) = true := by simp
            have HE2 : Hid (∀ j (hj : j < CE.length), i ≤ j → j < k + 1 → CE[j] / m = st1) := hid0 (fun j hj h1 h2 => by
              by_cases e : j = k
              · subst e; rw [← hc1, ← hst1]
              · exact HE.out j hj h1 (by omega))
            have hF3 := HF.out c1 (by rw [HFl.out]; exact hcn3)
            have hcF : c1 < FN.length := by rw [HFl.out]; exact hcn3
            have hclF := HCl.out _ hF3.2
            obtain ⟨bN, oN, habN, _, dN⟩ := (HW.out _ HS2.out.bel).1.nx.at' c1 hcF
            subst habN
            have HT2 : Hid ((tx3 ++ encN (c1 % m)) ++ encN (cl (F c1)) = encL (cl st1 :: celL m F cl ((CE.drop i).take (k + 1 - i)))) := hid0 (by
              have e : (CE.drop i).take (k + 1 - i) = (CE.drop i).take (k - i) ++ [c1] := by
                rw [show k + 1 - i = (k - i) + 1 by omega, List.take_succ_eq_append_getElem (by rw [List.length_drop]; omega), List.getElem_drop]
                simp only [show i + (k - i) = k by omega, hc1]
              rw [e, celL_snoc, HT.out, ← encL_snoc, ← encL_snoc]
              simp)
            have hF3n := hF3.2
            rw [hF3.1] at dN
            obtain ⟨y, hy⟩ : ∃ y, y = F c1 := ⟨_, rfl⟩
            rw [← hy] at dN hclF HT2 hF3n
            obtain ⟨ky, hky⟩ : ∃ ky, ky = cl y := ⟨_, rfl⟩
            rw [← hky] at hclF HT2
            obtain ⟨rm, hrm⟩ : ∃ rm, rm = c1 % m := ⟨_, rfl⟩
            rw [← hrm] at HT2
            have hrmI : Int.tmod (c1 : Int) (m : Int) = (rm : Int) := by rw [hrm]; exact (Int.ofNat_tmod c1 m).symm
            have hrm2 : (c1 : Int) % (m : Int) = (rm : Int) := by rw [hrm]; omega
            have hrm3 : c1 % m = rm := hrm.symm
            have hrml : rm < m := by rw [hrm]; exact Nat.mod_lt _ hm
            have hrmW : IntKind.i64.wrap (rm : Int) = (rm : Int) := by simp [IntKind.wrap, IntKind.bits, IntKind.signed]; omega
            have HSo : Hid (∀ V : World, Below w.heap.size w V → V.cell? ⟨b3, o3, none⟩ = some (.int .i64 (c1 : Int)) ∧ V.cell? ⟨X, 0, none⟩ = some (.int .i64 (m : Int)) ∧ V.cell? ⟨X, 1, none⟩ = some (.slice (some ⟨bN, oN, none⟩) FN.length cN) ∧ V.cell? ⟨bN, oN + c1, none⟩ = some (.int .i64 (y : Int)) ∧ V.cell? ⟨C, y, none⟩ = some (.int .i64 (ky : Int)) ∧ Below w.heap.size w V) := hid0 (fun V hV => by
              obtain ⟨b4, o4, e4, _, d4⟩ := (HI3.out.past hV).at' 0 (by rw [hdr]; simp)
              cases e4
              simp only [hdr, List.getElem_cons_zero, Nat.add_zero] at d4
              obtain ⟨b5, o5, e5, _, d5⟩ := (HW.out _ hV).1.nx.at' c1 hcF
              cases e5
              rw [hF3.1, ← hy] at d5
              rw [← hc1] at d4
              exact ⟨d4, (HW.out _ hV).1.cell.1, (HW.out _ hV).1.cell.2.1, d5, by rw [hky]; exact (HW.out _ hV).2.cell hF3n, hV⟩)
            have hcI : (c1 : Int) < (FN.length : Int) := by omega
            have hcI0 : (0 : Int) ≤ (c1 : Int) := by omega
            have hyI : (y : Int) < (n : Int) := by omega
            have hyI0 : (0 : Int) ≤ (y : Int) := by omega
            have HTl := hid0 (natI_drop CE hkl)
            rw [← hl3] at hc3 ⊢
            have HL3 := hid0 hl3
            have HHc1 := hid0 hc1
            clear hl3 hdr hc1 hst1 hy hky hrm hF3 hcF dN HE
            go_wp2
            go_quiet ((fail))
            have hBq : Below w.heap.size w (wr.drewN nq) := (HS2.out.drewN nq).bel
            have hSq : GrS w (wr.drewN nq).drew GB MB (.slice av3 tx3.length cv3) tx3 seq := (HS2.out.drewN nq).drew1
            have HAn := hid0 (addNumber_any w.heap.size rm (.slice av3 tx3.length cv3) tx3 (wr.drewN nq).drew hSq.own (by omega) (by omega) hSq.bel.size)
            have HNx : Hid (∀ v' w2, Apd (wr.drewN nq).drew w2 w.heap.size (.slice av3 tx3.length cv3) v' (tx3 ++ encN rm) → GrS w w2 GB MB v' (tx3 ++ encN rm) seq) := hid0 (fun v' w2 h => hSq.more h)
            clear hSq HS2 x0 x1 d3
            generalize wr.drewN nq = wq at *
            go_upto_region 7 with (fail)
            go_region_held3 (fun W => W.cell? ⟨b3, o3, none⟩ = some (.int .i64 (c1 : Int)) ∧ W.cell? ⟨X, 0, none⟩ = some (.int .i64 (m : Int)) ∧ W.cell? ⟨X, 1, none⟩ = some (.slice (some ⟨bN, oN, none⟩) FN.length cN) ∧ W.cell? ⟨bN, oN + c1, none⟩ = some (.int .i64 (y : Int)) ∧ W.cell? ⟨C, y, none⟩ = some (.int .i64 (ky : Int)) ∧ Below w.heap.size w W) (first | exact HSo.out _ (by go_grown) | (go_split_ands; exact HSo.out _ (by go_grown)) | (go_split_ands; exact HSo.out _ (by assumption)) | exact HSo.out _ (by assumption) | exact HSo.out _ ⟨hBq.os, hBq.tape, hBq.output, hBq.size, hBq.block⟩)
              (first
                | (go_at_call 45; go_split_ands; refine HAn.out.mono ?_; rintro e w3 ⟨v3, rfl, ha3⟩; have HS4 := hid0 (HNx.out v3 w3 ha3); have hb4 := HS4.out.bel; clear ha3))
            obtain ⟨av4, cv4, hv4⟩ := HS4.out.form
            subst hv4
            have htl : (tx3 ++ encN rm).length ≤ 80000000 := by
              have := encN_ten (n := rm) (by omega)
              rw [List.length_append]
              omega
            have hSq2 : GrS w w3.drew GB MB (.slice av4 (tx3 ++ encN rm).length cv4) (tx3 ++ encN rm) seq := HS4.out.drew1
            have HAn2 := hid0 (addNumber_any w.heap.size ky (.slice av4 (tx3 ++ encN rm).length cv4) (tx3 ++ encN rm) w3.drew hSq2.own (by omega) (by omega) hSq2.bel.size)
            have HNx2 : Hid (∀ v' w2, Apd w3.drew w2 w.heap.size (.slice av4 (tx3 ++ encN rm).length cv4) v' ((tx3 ++ encN rm) ++ encN ky) → GrS w w2 GB MB v' ((tx3 ++ encN rm) ++ encN ky) seq) := hid0 (fun v' w2 h => hSq2.more h)
            clear hSq2 HAn HNx HT
            generalize tx3 ++ encN rm = tx4 at *
            go_upto_region 8 with (fail)
            go_region_held3 (fun W => W.cell? ⟨b3, o3, none⟩ = some (.int .i64 (c1 : Int)) ∧ W.cell? ⟨X, 0, none⟩ = some (.int .i64 (m : Int)) ∧ W.cell? ⟨X, 1, none⟩ = some (.slice (some ⟨bN, oN, none⟩) FN.length cN) ∧ W.cell? ⟨bN, oN + c1, none⟩ = some (.int .i64 (y : Int)) ∧ W.cell? ⟨C, y, none⟩ = some (.int .i64 (ky : Int)) ∧ Below w.heap.size w W) (first | exact HSo.out _ (by go_grown) | (go_split_ands; exact HSo.out _ (by go_grown)) | (go_split_ands; exact HSo.out _ (by assumption)) | exact HSo.out _ (by assumption) | exact HSo.out _ ⟨hb4.os, hb4.tape, hb4.output, hb4.size, hb4.block⟩)
              (first
                | (go_at_call 45; go_split_ands; refine HAn2.out.mono ?_; rintro e w5 ⟨v5, rfl, ha5⟩; have HS6 := hid0 (HNx2.out v5 w5 ha5); have hb6 := HS6.out.bel; clear ha5))
            have hl31 : (1 : Int) ≤ (l3 : Int) := by omega
            have hc31 : (l3 : Int) ≤ (c3 : Int) := by omega
            clear HSo HAn2 HNx2
            have HLn : Hid (l3 - 1 = CE.length - (k + 1)) := hid0 (by have := HL3.out; omega)
            have HIn : Hid (¬ c3 = 1 → IA w (some ⟨b3, o3 + 1, none⟩) (natI (CE.drop (k + 1)))) := hid0 (fun _ => by have h := HI3.out; rw [HTl.out] at h; exact h.tail)
            have HIe : Hid (c3 = 1 → ∀ a, IA w a (natI (CE.drop (k + 1)))) := hid0 (fun e a => ⟨fun j hj => by
              rw [natI_len, List.length_drop] at hj
              have := HL3.out
              omega⟩)
            by_cases hc3e : c3 = 1
            · have hIa := HIe.out hc3e
              have HIa := hid0 hIa
              have HL0 : Hid (CE.length - (k + 1) = 0) := hid0 (by have := HL3.out; omega)
              subst hc3e
              clear hIa HIe HIn
              go_wp2
              go_roundw
              case rel => exact ⟨k + 1, _, _, _, by omega, by omega, by rw [HL0.out], by rw [HL0.out]; exact Nat.zero_le _, hid0 (HIa.out _), HS6, HT2, HE2⟩
              case measure => have e1 := HL3.out; simp; omega
            · have HIa := hid0 (HIn.out hc3e)
              clear HIe HIn
              go_wp2
              go_roundw
              case rel => exact ⟨k + 1, _, _, _, by omega, by omega, by rw [← HLn.out], by rw [← HLn.out]; omega, HIa, HS6, HT2, HE2⟩
              case measure => have e1 := HL3.out; simp; omega
          · have hne : ((st1 : Int) == (st : Int)) = false := by simp; omega
            have HEx : Hid (∀ hj : k < CE.length, CE[k] / m ≠ st) := hid0 (fun _ => by rw [← hc1, ← hst1]; exact he)
            rw [← hl3] at hc3 ⊢
            have HL3 := hid0 hl3
            clear hl3 hdr hc1 hst1
            go_wp2
            go_quiet ((fail))
            have hik : i < k := by
              rcases Nat.lt_or_ge i k with h | h
              · exact h
              · exfalso
                obtain rfl : i = k := by omega
                exact HEx.out hlt HSt0.out.symm
            have hnx := HQ.out.next HRs.out hlt hik hk HN.out (fun j hj h1 h2 => by rw [← HSt0.out]; exact HE.out j hj h1 h2) (fun hj => by rw [← HSt0.out]; exact HEx.out hj)
            rw [← HSt0.out] at hnx
            obtain ⟨n1, n2, n3, n4⟩ := hnx
            rw [← HT.out] at n1
            obtain ⟨vl, _, ks, ps, Ls, g1, g2, g3⟩ := HGl.out _ _ _ _ _ _ (HS2.out.drewN nq)
            have hsl := HQ.out.len
            have HAd := hid0 (gadd_any w.heap.size w.heap.size GB MB vl (.slice av3 tx3.length cv3) ks ps Ls tx3 st (wr.drewN nq) g1 (HS2.out.drewN nq).own g2.nd (by omega) (by omega) (fun l hl => by have := g2.small (n := n) (fun x hx => by obtain ⟨⟨j, hj, _, e⟩, _⟩ := (HQ.out.mem x.1 x.2).1 hx; rw [← e]; exact HSt.out j hj) l hl; omega))
            have HNx : Hid (∀ w2, AddR (wr.drewN nq) w2 w.heap.size GB MB ks Ls tx3 st → GrS w w2 GB MB (.slice av3 tx3.length cv3) tx3 (seq ++ [(txtS m F cl CE st, st)])) := hid0 (fun w2 h => by
              rw [n1]
              exact (HS2.out.drewN nq).add g2 g3 n4 h)
            have HQ2 := hid0 n2
            have HN2 := hid0 n3
            clear g1 g2 g3 HS2 HT hsl n1 n2 n3 n4
            go_wp2_with (go_at_call 46; go_loud ((refine HAd.out.mono ?_; rintro e w2 ⟨rfl, ha2⟩; have HS3 := hid0 (HNx.out w2 ha2); clear ha2)))
            go_roundw
            case rel => exact ⟨k, _, _, _, _, hk, by rw [← HL3.out], by rw [← HL3.out]; exact hc3, HI3, HS3, HQ2, HN2⟩
            case measure => have e1 := HL2.out; have e2 := HL3.out; simp; omega
        · have HEx : Hid (∀ hj : k < CE.length, CE[k] / m ≠ st) := hid0 (fun hj => absurd hj hkl)
          have hl0 : CE.length - k = 0 := by omega
          have hd0 : decide (((0 : Nat) : Int) > 0) = false := by decide
          have hd1 : decide ((0 : Int) > 0) = false := by decide
          have hd2 : decide ((0 : Int) < 0) = false := by decide
          have HL3 : Hid (0 = CE.length - k) := hid0 (by omega)
          rw [hl0]
          rw [hl0] at hc3
          clear hl0
          go_wp2
          go_quiet ((fail))
          have hik : i < k := by
            rcases Nat.lt_or_ge i k with h | h
            · exact h
            · exfalso
              obtain rfl : i = k := by omega
              exact HEx.out hlt HSt0.out.symm
          have hnx := HQ.out.next HRs.out hlt hik hk HN.out (fun j hj h1 h2 => by rw [← HSt0.out]; exact HE.out j hj h1 h2) (fun hj => by rw [← HSt0.out]; exact HEx.out hj)
          rw [← HSt0.out] at hnx
          obtain ⟨n1, n2, n3, n4⟩ := hnx
          rw [← HT.out] at n1
          obtain ⟨vl, _, ks, ps, Ls, g1, g2, g3⟩ := HGl.out _ _ _ _ _ _ (HS2.out.drewN nq)
          have hsl := HQ.out.len
          have HAd := hid0 (gadd_any w.heap.size w.heap.size GB MB vl (.slice av3 tx3.length cv3) ks ps Ls tx3 st (wr.drewN nq) g1 (HS2.out.drewN nq).own g2.nd (by omega) (by omega) (fun l hl => by have := g2.small (n := n) (fun x hx => by obtain ⟨⟨j, hj, _, e⟩, _⟩ := (HQ.out.mem x.1 x.2).1 hx; rw [← e]; exact HSt.out j hj) l hl; omega))
          have HNx : Hid (∀ w2, AddR (wr.drewN nq) w2 w.heap.size GB MB ks Ls tx3 st → GrS w w2 GB MB (.slice av3 tx3.length cv3) tx3 (seq ++ [(txtS m F cl CE st, st)])) := hid0 (fun w2 h => by
            rw [n1]
            exact (HS2.out.drewN nq).add g2 g3 n4 h)
          have HQ2 := hid0 n2
          have HN2 := hid0 n3
          clear g1 g2 g3 HS2 HT hsl n1 n2 n3 n4
          go_wp2_with (go_at_call 46; go_loud ((refine HAd.out.mono ?_; rintro e w2 ⟨rfl, ha2⟩; have HS3 := hid0 (HNx.out w2 ha2); clear ha2)))
          go_roundw
          case rel => exact ⟨k, _, _, _, _, hk, by rw [← HL3.out], by rw [← HL3.out]; exact hc3, HI3, HS3, HQ2, HN2⟩
          case measure => have e1 := HL2.out; have e2 := HL3.out; simp; omega
    · obtain rfl : i = CE.length := by omega
      obtain ⟨vl, hvl, ks, ps, Ls, g1, g2, g3⟩ := HGl.out _ _ _ _ _ _ HS.out
      obtain ⟨a, c, hva, hgl⟩ := g1.gapl
      subst hva
      have HFin := hid0 (And.intro hgl (And.intro g2 (And.intro HQ.out (And.intro (show Ls.length ≤ n by
        have h1 := g2.len
        have h2 := nodup_le n (Ls.map fun l => l.headD 0) (by
          rw [List.nodup_iff_pairwise_ne, List.pairwise_map, List.pairwise_iff_getElem]
          intro x y hx hy hxy e
          have hx' : x < ks.length := by omega
          have hy' : y < ks.length := by omega
          have gx : Ls.getD x [] = Ls[x] := by rw [List.getD_eq_getElem?_getD, List.getElem?_eq_getElem hx]; rfl
          have gy : Ls.getD y [] = Ls[y] := by rw [List.getD_eq_getElem?_getD, List.getElem?_eq_getElem hy]; rfl
          have nx := g2.ne x hx'
          have ny := g2.ne y hy'
          rw [gx] at nx
          rw [gy] at ny
          have mx : Ls[x].headD 0 ∈ Ls[x] := by
            cases hq : Ls[x] with
            | nil => exact absurd hq nx
            | cons z l => simp
          have my : Ls[y].headD 0 ∈ Ls[y] := by
            cases hq : Ls[y] with
            | nil => exact absurd hq ny
            | cons z l => simp
          rw [← e] at my
          exact g2.apart (fun u hu v hv euv => by
            have e1 := ((HQ.out.mem u.1 u.2).1 hu).2
            have e2 := ((HQ.out.mem v.1 v.2).1 hv).2
            rw [e1, e2, euv]) x y hx hy (by omega) _ mx my) (fun z hz => by
          obtain ⟨l, hl, rfl⟩ := List.mem_map.1 hz
          obtain ⟨x, hx, rfl⟩ := List.getElem_of_mem hl
          have hx' : x < ks.length := by omega
          have gx : Ls.getD x [] = Ls[x] := by rw [List.getD_eq_getElem?_getD, List.getElem?_eq_getElem hx]; rfl
          have nx := g2.ne x hx'
          rw [gx] at nx
          have mx : Ls[x].headD 0 ∈ Ls[x] := by
            cases hq : Ls[x] with
            | nil => exact absurd hq nx
            | cons z l => simp
          have h5 := (g2.mem x hx' (Ls[x].headD 0)).1 (by rw [gx]; exact mx)
          obtain ⟨⟨j, hj, _, e⟩, _⟩ := (HQ.out.mem _ _).1 h5
          rw [← e]
          exact HSt.out j hj)
        rw [List.length_map] at h2
        exact h2) HS.out.bel))))
      have hl0 : CE.length - CE.length = 0 := Nat.sub_self _
      rw [hl0] at hc2 ⊢
      clear hgl g1 g2 g3 HS hl0
      go_wp2
      go_ret
      exact ⟨_, _, _, _, _, rfl, HFin.out⟩
end Go.Proofs.YtjmmckkiicefhaaDoor
namespace Go.Proofs.YtjmmckkiicefhaaDoor
open Go.RowKit Go.Shelf
def lenAt (W : World) (a : Addr) : Nat := match W.cell? a with | some (.slice _ l _) => l | _ => 0
def meaP (n P : Nat) (W : World) : Nat := 2 * (n - lenAt W ⟨P, 3, none⟩) + (if lenAt W ⟨P, 4, none⟩ = 0 then 0 else 1)
/-- What parted's loop keeps. -/
structure PdI (w W : World) (j0 j1 P R L C IB CB EB n m N : Nat) (F ce : Nat → Nat) (out : Nat → List Int) (vs vq : Value) (K : Nat) (q : List Nat) : Prop where
  at' : ∃ l0 h0 ro pl cl old K0 sp, Pt W w.heap.size l0 h0 j0 j1 P R L C n ro pl cl vs sp vq q ∧ Prt n ro pl cl sp ∧ Ref m n F out cl old K0 q ∧ sp.length = K
  inb : InB W j0 IB CB EB N (n + 1) ce (fun t => if t < n then preC F N (t + 1) else N)
  j : IB < j1 ∧ CB < j1 ∧ EB < j1 ∧ w.heap.size ≤ j0
  ql : q.length ≤ n * n
  qs : (q.map (cuF F N)).sum ≤ n * N
  bel : Below w.heap.size w W
theorem gap_below {w W : World} {lo l0 h0 j0 j1 : Nat} (h : Only w W (gapF lo l0 h0 j0 j1)) (hl : lo ≤ w.heap.size) : Below lo w W := h.below hl (fun _ hi => hi.1)
theorem InB.only {W W' : World} {lo l0 h0 j0 j1 IB CB EB N n1 : Nat} {ce en : Nat → Nat} (h : InB W j0 IB CB EB N n1 ce en) (ho : Only W W' (gapF lo l0 h0 j0 j1)) (hj : IB < j1 ∧ CB < j1 ∧ EB < j1) : InB W' j0 IB CB EB N n1 ce en := by
  obtain ⟨a, b, c⟩ := h.lo'
  have key : ∀ k, j0 ≤ k → k < j1 → k < W.heap.size → W'.heap[k]? = W.heap[k]? := fun k h1 h2 h3 => ho.block k h3 (fun g => by have := g.2.2; omega)
  exact ⟨(key _ a hj.1 (Array.getElem?_eq_some_iff.1 h.blk).1).trans h.blk, h.ce'.keep (key _ b hj.2.1 h.ce'.lt), h.en'.keep (key _ c hj.2.2 h.en'.lt), h.ne, h.lo'⟩
theorem pt_len {W : World} {lo l0 h0 j0 j1 P R L C n : Nat} {ro pl cl : Nat → Nat} {vs vq : Value} {sp : List (Nat × Nat)} {q : List Nat} (h : Pt W lo l0 h0 j0 j1 P R L C n ro pl cl vs sp vq q) : lenAt W ⟨P, 3, none⟩ = sp.length ∧ lenAt W ⟨P, 4, none⟩ = q.length := by
  obtain ⟨_, _, _, c3, c4⟩ := h.cell
  have f3 : ∃ a c, vs = .slice a sp.length c := by
    rcases h.spans.2 with ⟨e, hn⟩ | ⟨g, cap, cur, e, _⟩
    · exact ⟨none, 0, by rw [e, hn]⟩
    · exact ⟨_, _, e⟩
  obtain ⟨a, c, e⟩ := f3
  obtain ⟨a4, c4', e4, _⟩ := h.queue.ia
  rw [natI_len] at e4
  unfold lenAt
  rw [c3, c4, e, e4]
  exact ⟨rfl, rfl⟩
/-- The cells that lead to the queue's first states. -/
def catF (F : Nat → Nat) (N : Nat) (ce : Nat → Nat) (q : List Nat) : List Nat := q.flatMap (sgF F N ce)
theorem catF_len (F : Nat → Nat) (N : Nat) (ce : Nat → Nat) (q : List Nat) : (catF F N ce q).length = (q.map (cuF F N)).sum := by
  induction q with
  | nil => rfl
  | cons x q ih => unfold catF at *; rw [List.flatMap_cons, List.length_append, ih, sgF_len, List.map_cons, List.sum_cons]
theorem sum_take_le (f : Nat → Nat) (q : List Nat) (k : Nat) : ((q.take k).map f).sum ≤ (q.map f).sum := by
  conv => rhs; rw [← List.take_append_drop k q, List.map_append, List.sum_append]
  omega
theorem catF_mem {F : Nat → Nat} {n N : Nat} {ce : Nat → Nat} (h : Into F n N N ce) {q : List Nat} (hq : ∀ x ∈ q, x < n) (c : Nat) : c ∈ catF F N ce q ↔ c < N ∧ F c ∈ q := by
  unfold catF
  rw [List.mem_flatMap]
  constructor
  · rintro ⟨x, hx, hc⟩
    obtain ⟨h1, h2⟩ := (sgF_mem h (hq x hx) c).1 hc
    exact ⟨h1, by rw [h2]; exact hx⟩
  · rintro ⟨h1, h2⟩
    exact ⟨F c, h2, (sgF_mem h (hq _ h2) c).2 ⟨h1, rfl⟩⟩
theorem news_ia {w : World} {ad : Addr} {l : List Int} (h : IA w (some ad) l) (qd : Nat) : ∀ j u, (l.map (Value.int .i64))[j]? = some u → (w.drewN qd).cell? (ad.add j) = some u := fun j u hj => by
  have hjl : j < l.length := by have := (List.getElem?_eq_some_iff.1 hj).1; simpa using this
  obtain ⟨b9, o9, e9, _, d9⟩ := h.at' j hjl
  cases e9
  rw [Addr.add_lit]
  have e : (l.map (Value.int .i64))[j]? = some (.int .i64 l[j]) := by simp [hjl]
  rw [e] at hj
  cases hj
  exact d9
theorem one_ints (l : List Int) : ∀ u ∈ l.map (Value.int .i64), u.oneCell' = true := fun u hu => by
  obtain ⟨x, _, rfl⟩ := List.mem_map.1 hu
  rfl
set_option maxRecDepth 100000 in
set_option maxHeartbeats 3200000 in
theorem parted_any (X m n : Nat) (aN : Option Addr) (cN : Nat) (FN : List Int) (aO : Option Addr) (cO : Nat) (OL : List (List Int)) (F : Nat → Nat) (w : World) (hw : Wh w X m aN cN FN aO cO OL) (hOL : OL.length = n) (hn0 : 0 < n) (hnb : n ≤ 2200000) (hmb : m ≤ 2200000) (hFl : FN.length = n * m) (hNb : n * m ≤ 2200000) (hF : ∀ c (h : c < FN.length), FN[c] = ((F c : Nat) : Int) ∧ F c < n) (h2m : 1 < n → 0 < m) (hr : ∀ r ∈ OL, r.length ≤ 2200000) (hz : ∀ r ∈ OL, ∀ z ∈ r, 0 ≤ z ∧ z < 9223372036854775808) :
    Calls Tryd.prog 20 #[.pointer (some ⟨X, 0, none⟩)] w fun e w' => ∃ C, e = .returned (.slice (some ⟨C, 0, none⟩) n n) ∧ (∃ cl, Ov w' C n cl ∧ Cls m n F (fun s => OL.getD s []) cl ∧ ∀ s, s < n → cl s < n) ∧ w.heap.size ≤ C ∧ Below w.heap.size w w' := by
  have HW : Hid (∀ V, Below w.heap.size w V → Wh V X m aN cN FN aO cO OL) := hid0 (fun V hV => hw.past hV)
  obtain ⟨_, x1, x2⟩ := hw.cell
  rw [hOL] at x2
  obtain ⟨N, hN⟩ : ∃ N, N = n * m := ⟨_, rfl⟩
  have hNN : FN.length = N := by rw [hFl, hN]
  have hNb2 : N ≤ 2200000 := by omega
  have hFr : ∀ i c, i < n → c < m → F (i * m + c) < n := fun i c hi hc => (hF _ (by
    rw [hFl]
    have := Nat.mul_le_mul_right m (show i + 1 ≤ n by omega)
    rw [Nat.add_mul] at this
    omega)).2
  have hpre : preC F N n = N := preC_all N (fun d hd => (hF d (by omega)).2)
  have HNp := hid0 (newParts_any n w hn0 (by omega))
  have HF := hid0 hF
  have HFr := hid0 hFr
  have HPre := hid0 hpre
  have HR := hid0 hr
  have HZ := hid0 hz
  have HOL := hid0 hOL
  have HNN := hid0 hNN
  have HNe := hid0 hN
  have H2m := hid0 h2m
  clear hw hF hr hz hFr hOL hNN hN hFl hpre h2m hNb
  go_enter Tryd.func20, Tryd.ntmps20
  go_upto_region 2 with (go_at_call 31; go_loud ((refine HNp.out.mono ?_; rintro e w1 ⟨P, rfl, ⟨R, L, C, vs1, hp1⟩, hb1⟩)))
  clear x1 x2
  have HB1 := hid0 hb1
  have HP1 := hid0 hp1
  have HBo := hid0 (byOut_any X m aN cN FN aO cO OL w1 (HW.out _ hb1) (by rw [HOL.out]; exact hnb) HR.out HZ.out)
  clear hp1 hb1
  have M1 : Hid True := trivial
  go_upto_region 3 with (first
    | (go_at_call 33; go_loud ((
        refine HBo.out.mono ?_
        rintro e w2 ⟨aL, cL, ks, Ls, rfl, hgl, hgi, hll, hb2⟩
        obtain ⟨ct1, ct2, ct3⟩ := out_cuts HOL.out hgi (fun r hr z hz => (HZ.out r hr z hz).1)
        have HCt := hid0 (cutAll_any w.heap.size w1.heap.size w2.heap.size 0 0 P R L C n (fun s => s) (fun s => s) (fun _ => 0) vs1 [(0, n)] (.slice none 0 0) Ls aL cL (cuF F N) N w2 (HP1.out.gap hb2) (prt_new n hn0) ct1 hgl hnb (by rw [← HOL.out]; exact hll) (fun l hl _ => cnt_all F l hl N))
        have HC2 := hid0 ct2
        have HC3 := hid0 ct3
        have HB2 := hid0 hb2
        have hll2 : Ls.length ≤ n := by rw [← HOL.out]; exact hll
        clear ct1 ct2 ct3 hgl hgi hll hb2)))
    | (go_at_call 32; go_loud ((
        refine HCt.out.mono ?_
        rintro e w3 ⟨rfl, hcw⟩
        have HCW := hid0 hcw
        clear hcw))))
  obtain ⟨ro3, pl3, cl3, vs3, sp3, vq3, q3, hp3, hr3, hc3, ho3⟩ := HCW.out
  have hb12 : Below w.heap.size w w2 := HB1.out.trans (HB2.out.mono HB1.out.size)
  have hb3 : Below w.heap.size w w3 := hb12.trans (gap_below ho3 hb12.size)
  have href := ref_begin (m := m) (F := F) hc3 HC2.out HC3.out
  have HIn := hid0 (into_any X m n aN cN FN aO cO OL F w3 (HW.out _ hb3) HOL.out hnb (by rw [HNN.out]; exact hNb2) HF.out)
  have hq3l : q3.length ≤ n * n := Nat.le_trans hc3.len (Nat.mul_le_mul_right n hll2)
  have hq3s : (q3.map (cuF F N)).sum ≤ n * N := Nat.le_trans hc3.wgt (Nat.mul_le_mul_right N hll2)
  have HNx : Hid (∀ w4 IB CB EB ce, Below w3.heap.size w3 w4 → InB w4 w3.heap.size IB CB EB FN.length (n + 1) ce (fun t => if t < n then preC F FN.length (t + 1) else FN.length) → PdI w w4 w3.heap.size w4.heap.size P R L C IB CB EB n m N F ce (fun s => OL.getD s []) vs3 vq3 sp3.length q3) := hid0 (fun w4 IB CB EB ce hb4 hi4 => by
    rw [HNN.out] at hi4
    exact ⟨⟨_, _, _, _, _, _, _, _, hp3.setJ hb4, hr3, href, rfl⟩, hi4, ⟨(Array.getElem?_eq_some_iff.1 hi4.blk).1, hi4.ce'.lt, hi4.en'.lt, hb3.size⟩, hq3l, hq3s, hb3.trans (hb4.mono hb3.size)⟩)
  clear HCW hp3 hr3 hc3 ho3 hb12 hb3 href hq3l hq3s HC2 HC3 HB1 HB2 HP1
  go_upto_region 4 with (go_at_call 34; go_loud ((refine HIn.out.mono ?_; rintro e w4 ⟨IB, rfl, ⟨CB, EB, ce, hi4, hto4⟩, hb4⟩; have HD4 := hid0 (HNx.out w4 IB CB EB ce hb4 hi4); have HTo : Hid (Into F n N N ce) := hid0 (by rw [HNN.out] at hto4; exact hto4); clear hi4 hto4 hb4)))
  clear HIn HNx
  generalize w3.heap.size = j0 at *
  generalize w4.heap.size = j1 at *
  go_loopw [5, 6, 7] (fun _ _ _ wr => ∃ (vs vq : Value) (K : Nat) (q : List Nat), Hid (PdI w wr j0 j1 P R L C IB CB EB n m N F ce (fun s => OL.getD s []) vs vq K q)) (fun _ _ _ wr => meaP n P wr)
  case atStart => exact ⟨_, _, _, _, HD4⟩
  case round =>
    clear HD4
    obtain ⟨vs, vq, K, q, HD⟩ := hrel
    obtain ⟨l0, h0, ro, pl, cl, old, K0, sp, hp, hr, href, hK⟩ := HD.out.at'
    obtain ⟨aq, cq, hvq, hqia⟩ := hp.queue.ia
    rw [natI_len] at hvq
    subst hvq
    obtain ⟨_, _, _, _, c4⟩ := hp.cell
    have c2 := hp.cell.2.2.1
    by_cases hq : q = []
    · subst hq
      have HFin : Hid ((∃ cl, Ov wr C n cl ∧ Cls m n F (fun s => OL.getD s []) cl ∧ ∀ s, s < n → cl s < n) ∧ w.heap.size ≤ C ∧ Below w.heap.size w wr) := hid0 ⟨⟨cl, hp.class', href.cls HFr.out, fun s hs => by have := (hr.cs s hs).1; have := hr.few; omega⟩, hp.g4.2.2.2.1, HD.out.bel⟩
      have hl0 : ([] : List Nat).length = 0 := rfl
      rw [hl0] at c4
      clear hp hr href HD hqia
      go_wp2
      go_ret
      exact ⟨C, rfl, HFin.out⟩
    · have hql : 0 < q.length := List.length_pos_iff.2 hq
      have hqI : (0 : Int) < (q.length : Int) := by omega
      have hqg : (q.length : Int) > 0 := by omega
      have hm : 0 < m := H2m.out (by
        obtain ⟨x, hx⟩ := List.exists_mem_of_ne_nil _ hq
        obtain ⟨a1, a2⟩ := href.new x hx
        have a3 := (hr.cs x a1).1
        have a4 := hr.few
        have a5 := href.ol x a1
        omega)
      have hqn : ∀ x ∈ q, x < n := fun x hx => (href.new x hx).1
      have HQn := hid0 hqn
      have HTk := hid0 (take_any w.heap.size l0 h0 j0 j1 P R L C n ro pl cl vs sp _ q wr hp)
      have hmea := pt_len hp
      have HMe : Hid (meaP n P wr = 2 * (n - K) + 1) := hid0 (by unfold meaP; rw [hmea.1, hmea.2, hK, if_neg (by omega)])
      have HRf := hid0 href
      have HPr := hid0 hr
      have HPq := hid0 hp
      have HKe := hid0 hK
      clear hp hr href hK hqn hmea hq hqia
      go_upto_region 6 with (go_at_call 35; go_loud ((refine HTk.out.mono ?_; rintro e w1 ⟨rfl, hp1, hq1, ho1, hz1⟩)))
      clear c4 c2
      have hO1 : Only wr w1 (gapF w.heap.size l0 h0 j0 j1) := ho1.mono (fun b hb => by rw [hb]; exact HPq.out.g4.1)
      have hbw1 : Below w.heap.size w w1 := HD.out.bel.trans (gap_below hO1 HD.out.bel.size)
      have hin1 := HD.out.inb.only hO1 ⟨HD.out.j.1, HD.out.j.2.1, HD.out.j.2.2.1⟩
      have HJ := hid0 HD.out.j
      have HQs := hid0 HD.out.qs
      have HP1 := hid0 hp1
      have HQ1 := hid0 hq1.ia
      have HI1 := hid0 hin1
      have HB1 := hid0 hbw1
      have hlow1 : w.heap.size ≤ w1.heap.size := hbw1.size
      have hqlb : q.length ≤ 4840000000000 := Nat.le_trans HD.out.ql (Nat.le_trans (Nat.mul_le_mul hnb hnb) (by omega))
      have hnN : n * N ≤ 4840000000000 := Nat.le_trans (Nat.mul_le_mul hnb hNb2) (by omega)
      obtain ⟨i0, hi, hz0, hz1', hz2⟩ := info_parts infoInt
      have HV0 : Hid (OwnI w1 w1.heap.size (.slice none 0 0) (natI (catF F N ce (q.take 0)))) := hid0 (by rw [List.take_zero]; exact World.ownsRow_nil _ _ _ _)
      have HB0 : Hid (Below w1.heap.size w1 w1) := hid0 (Below.refl _ _)
      clear hO1 hbw1 hin1 hp1 hq1 ho1 hz1 HD HTk
      go_wp2
      go_loopw [6, 7, 30] (fun v6 _ i wr => ∃ k : Nat, k ≤ q.length ∧ i = .int .i64 (k : Int) ∧ Hid (OwnI wr w1.heap.size v6 (natI (catF F N ce (q.take k)))) ∧ Hid (Below w1.heap.size w1 wr)) (fun _ _ i _ => q.length - (intOf i).toNat)
      case atStart => exact ⟨0, Nat.zero_le _, rfl, HV0, HB0⟩
      case round =>
        clear HV0 HB0
        obtain ⟨k, hk, rfl, HV, HB⟩ := hrel
        by_cases hlt : k < q.length
        · have hkI : (k : Int) < (q.length : Int) := by omega
          have hk0 : (0 : Int) ≤ (k : Int) := by omega
          obtain ⟨a', c', e', hia'⟩ := HQ1.out
          rw [natI_len] at e'
          cases e'
          obtain ⟨b, off, hab, _, d1⟩ := (hia'.past HB.out).at' k (by rw [natI_len]; exact hlt)
          subst hab
          have hxn := HQn.out _ (List.getElem_mem hlt)
          have d1' : wr.cell? ⟨b, off + k, none⟩ = some (.int .i64 (q[k] : Int)) := by simpa [natI] using d1
          have HTk : Hid (catF F N ce (q.take (k + 1)) = catF F N ce (q.take k) ++ sgF F N ce q[k]) := hid0 (by
            rw [List.take_succ_eq_append_getElem hlt]
            unfold catF
            rw [List.flatMap_append]
            simp)
          have hlen1 : (catF F N ce (q.take (k + 1))).length ≤ 4840000000000 := by
            rw [catF_len]
            exact Nat.le_trans (sum_take_le _ _ _) (Nat.le_trans HQs.out hnN)
          rw [HTk.out, List.length_append] at hlen1
          have HOf := hid0 (of_any j0 IB CB EB n N q[k] F ce wr (HI1.out.past HB.out) hxn HPre.out hNb2 hnb)
          have hsl := sgF_len F N ce q[k]
          generalize q[k] = x at *
          obtain ⟨T, hT⟩ : ∃ T, T = catF F N ce (q.take k) := ⟨_, rfl⟩
          rw [← hT] at HV hlen1 HTk
          obtain ⟨Sg, hSg⟩ : ∃ Sg, Sg = sgF F N ce x := ⟨_, rfl⟩
          rw [← hSg] at HOf hlen1 HTk hsl
          rw [← hsl] at HOf
          obtain ⟨a6, c6, hv6, _⟩ := HV.out.ia
          rw [natI_len] at hv6
          subst hv6
          have HNx : Hid (∀ (qd : Nat) (v' : Value) (w2 : World), w2.ownsRow w1.heap.size 3 1 v' (T.length + Sg.length) ((natI T).map (Value.int .i64) ++ (natI Sg).map (Value.int .i64)) → (wr.drewN qd).grownBy w2 (Value.slice a6 T.length c6).ownBlock → OwnI w2 w1.heap.size v' (natI (catF F N ce (q.take (k + 1)))) ∧ Below w1.heap.size w1 w2) := hid0 (fun qd v' w2 h1 h2 => by
            refine ⟨?_, ?_⟩
            · rw [HTk.out]
              unfold OwnI
              rw [natI_len, List.length_append]
              have e : natI (T ++ Sg) = natI T ++ natI Sg := by simp [natI]
              rw [e, List.map_append]
              exact h1
            · exact (below_drew' HB.out qd).grown h2 HB.out.size (fun k hk => (World.ownsRow.lt HV.out k hk).1))
          have HOw : Hid (∀ qd, (wr.drewN qd).ownsRow w1.heap.size 3 1 (.slice a6 T.length c6) T.length ((natI T).map (Value.int .i64))) := hid0 (fun qd => by
            have h := HV.out
            unfold OwnI at h
            rw [natI_len] at h
            exact own_blk h (fun _ _ => rfl))
          have HBs : Hid (w1.heap.size ≤ wr.heap.size) := hid0 HB.out.size
          clear hT hSg hsl d1 hia'
          have hSl : (natI Sg).length = Sg.length := natI_len Sg
          have hSl2 : ((natI Sg).map (Value.int .i64)).length = Sg.length * 1 := by rw [List.length_map, hSl, Nat.mul_one]
          have HSl2 := hid0 hSl2
          have hb63 : T.length + Sg.length ≤ maxLen := by unfold maxLen; omega
          have hbby : (T.length + Sg.length) * 8 ≤ 140737488355328 := by omega
          clear hSl hSl2
          go_wp2_with (first
            | (go_at_call 36; go_loud ((refine HOf.out.mono ?_; rintro e w2 ⟨ad, cd, rfl, hia2, qd, rfl⟩; have HNw := hid0 (news_ia hia2 qd); have HOw2 := hid0 (HOw.out qd); clear hia2)))
            | (at_builtin; go_loud ((refine wpList_append_own_at _ rfl _ _ 25 rfl w1.heap.size 3 i0 (.int .i64 0) 1 8 Tryd.underlying25 hi hz0 hz1' hz2 rfl (by decide) (.slice a6 T.length c6) T.length ((natI T).map (Value.int .i64)) rfl HOw2.out ad Sg.length cd ((natI Sg).map (Value.int .i64)) rfl HSl2.out HNw.out (one_ints _) hb63 hbby HBs.out ?_; intro v' w2 hown hgrow _ _; have HN2 := hid0 (HNx.out qd v' w2 hown hgrow); clear hown hgrow))))
          go_roundw
          case rel => exact ⟨k + 1, by omega, by go_num, hid0 HN2.out.1, hid0 HN2.out.2⟩
          case measure => simp [intOf]; omega
        · obtain rfl : k = q.length := by omega
          have hkI : ¬ (q.length : Int) < (q.length : Int) := by omega
          have hown0 : OwnI wr w1.heap.size u6 (natI (catF F N ce q)) := by have := HV.out; rw [List.take_length] at this; exact this
          have hcl : (natI (catF F N ce q)).length ≤ 4840000000000 := by
            rw [natI_len, catF_len]
            exact Nat.le_trans HQs.out hnN
          obtain ⟨CE, hCE, hrise, hmem⟩ := sorted_once (catF F N ce q)
          have HSo := hid0 (sortI_any w1.heap.size u6 _ wr hown0 (by omega))
          have hmem2 : ∀ c, c ∈ CE ↔ (c < n * m ∧ F c ∈ q) := fun c => by rw [hmem, catF_mem HTo.out HQn.out, ← HNe.out]
          have HCE := hid0 hCE
          have HRi := hid0 hrise
          have HMm := hid0 hmem2
          have HU6 : Hid (∀ k, u6.ownBlock = some k → w1.heap.size ≤ k) := hid0 (fun k hk => (World.ownsRow.lt hown0 k hk).1)
          obtain ⟨a6, c6, hv6, _⟩ := hown0.ia
          subst hv6
          clear hown0 hCE hrise hmem hmem2 HV
          go_upto_region 13 with (go_at_call 37; go_loud ((refine HSo.out.mono ?_; rintro e w5 ⟨rfl, ho5, hon5⟩)))
          have hb5 : Below w1.heap.size w1 w5 := HB.out.trans (hon5.below HB.out.size (fun k hk => HU6.out k hk))
          have HB5 := hid0 hb5
          have ho5d : OwnI w5.drew w1.heap.size (.slice a6 (natI (catF F N ce q)).length c6) ((natI (catF F N ce q)).mergeSort fun x y => decide (x ≤ y)) := own_blk ho5 (fun _ _ => rfl)
          have HCo := hid0 (compactI_any w1.heap.size _ _ w5.drew ho5d (by rw [List.length_mergeSort]; omega))
          have HPt5 := hid0 (HP1.out.past hb5)
          have HSt : Hid (∀ V : World, Below w1.heap.size w1 V → V.cell? ⟨P, 2, none⟩ = some (.slice (some ⟨C, 0, none⟩) n n)) := hid0 (fun V hV => (HP1.out.past hV).cell.2.2.1)
          have M2 : Hid True := trivial
          clear ho5 hon5 ho5d hb5
          go_region_held3 (fun W => W.cell? ⟨P, 2, none⟩ = some (.slice (some ⟨C, 0, none⟩) n n)) (first | exact HSt.out _ HB5.out | exact HSt.out _ ⟨HB5.out.os, HB5.out.tape, HB5.out.output, HB5.out.size, HB5.out.block⟩ | assumption | exact HS6.out | exact HS7.out | exact HS8.out)
            (first
              | (go_at_call 39; go_loud ((
                  refine HCo.out.mono ?_
                  rintro e w6 ⟨v6', rfl, ho6, hon6, hbl6⟩
                  have hb6 : Below w1.heap.size w1 w6 := (show Below w1.heap.size w1 w5.drew from ⟨HB5.out.os, HB5.out.tape, HB5.out.output, HB5.out.size, HB5.out.block⟩).trans (hon6.below HB5.out.size (fun k hk => HU6.out k hk))
                  have HS6 := hid0 (HSt.out _ hb6)
                  rw [← HCE.out] at ho6
                  obtain ⟨aC, cC, hvC, hiaC⟩ := ho6.ia
                  rw [natI_len] at hvC
                  have hcap : CE.length ≤ cC := by
                    rcases ho6.2 with ⟨e, hn'⟩ | ⟨g, cap, cur, e, _, _, hc', _⟩
                    · rw [natI_len] at hn'; omega
                    · rw [hvC] at e
                      injection e with _ e2 e3
                      rw [natI_len] at hc'
                      omega
                  subst hvC
                  have hbw6 : Below w.heap.size w w6 := HB1.out.trans (hb6.mono hlow1)
                  have HBs := hid0 (bySucc_any X m n C aN cN FN aO cO OL F cl CE aC cC w6 (HW.out _ hbw6) hm hmb hnb (by rw [HNN.out, HNe.out]) HF.out (HP1.out.past hb6).class' (fun s hs => by have := (HPr.out.cs s hs).1; have := HPr.out.few; omega) hiaC HRi.out (fun c hc => ((HMm.out c).1 hc).1) hcap (by have h3 := nodup_le N CE (List.Pairwise.imp (fun {a b} h => Nat.ne_of_lt h) HRi.out) (fun c hc => by rw [HNe.out]; exact ((HMm.out c).1 hc).1); omega) (by rw [← HNe.out]; omega))
                  have HB6 := hid0 hb6
                  have HBw6 := hid0 hbw6
                  clear ho6 hon6 hbl6 hb6 hiaC hbw6 M2)))
              | (go_at_call 38; go_loud ((
                  refine HBs.out.mono ?_
                  rintro e w7 ⟨aL7, cL7, ks7, Ls7, seq7, rfl, hgl7, hgi7, hsq7, hll7, hb7⟩
                  have HS7 := hid0 (HSt.out _ (HB6.out.trans (hb7.mono HB6.out.size)))
                  obtain ⟨ct1, ct2, ct3⟩ := suc_cuts hgi7 hsq7 hm HRi.out HMm.out
                  have hpt7 := (HP1.out.past HB6.out).gap hb7
                  have HCt := hid0 (cutAll_any w.heap.size w6.heap.size w7.heap.size j0 j1 P R L C n ro pl cl vs sp (.slice none 0 0) Ls7 aL7 cL7 (cuF F N) N w7 hpt7 HPr.out ct1 hgl7 hnb hll7 (fun l hl _ => cnt_all F l hl N))
                  have HC2 := hid0 ct2
                  have HC3 := hid0 ct3
                  have HB7 := hid0 hb7
                  have HLl := hid0 hll7
                  clear ct1 ct2 ct3 hgl7 hgi7 hsq7 hll7 hb7 hpt7)))
              | (go_at_call 32; go_loud ((
                  refine HCt.out.mono ?_
                  rintro e w8 ⟨rfl, hcw⟩
                  obtain ⟨ro8, pl8, cl8, vs8, sp8, vq8, q8, hp8, hr8, hc8, ho8⟩ := hcw
                  have HS8 := hid0 hp8.cell.2.2.1
                  have hb17 : Below w1.heap.size w1 w7 := HB6.out.trans (HB7.out.mono HB6.out.size)
                  have hbw7 : Below w.heap.size w w7 := HB1.out.trans (hb17.mono hlow1)
                  have HD8 : Hid (PdI w w8 j0 j1 P R L C IB CB EB n m N F ce (fun s => OL.getD s []) vs8 vq8 sp8.length q8) := hid0 ⟨⟨_, _, _, _, _, _, _, _, hp8, hr8, HRf.out.round HFr.out (fun x hx => (HPr.out.cs x hx).1) hc8 HC2.out HC3.out, rfl⟩, (HI1.out.past hb17).only ho8 ⟨HJ.out.1, HJ.out.2.1, HJ.out.2.2.1⟩, HJ.out, Nat.le_trans hc8.len (Nat.mul_le_mul_right n HLl.out), Nat.le_trans hc8.wgt (Nat.mul_le_mul_right N HLl.out), hbw7.trans (gap_below ho8 hbw7.size)⟩
                  have HM8 : Hid (meaP n P w8 < 2 * (n - K) + 1) := hid0 (by
                    obtain ⟨e3, e4⟩ := pt_len hp8
                    unfold meaP
                    rw [e3, e4]
                    have h1 := hc8.cnt
                    have h2 := hr8.few
                    have h3 := HKe.out
                    by_cases e : sp8.length = sp.length
                    · rw [h1.2 e, List.length_nil, if_pos rfl]; omega
                    · split <;> omega)
                  clear hp8 hr8 hc8 ho8 hb17 hbw7))))
          all_goals
            go_wp2
            go_roundw
            case rel => exact ⟨_, _, _, _, HD8⟩
            case measure => have e1 := HM8.out; have e2 := HMe.out; omega
end Go.Proofs.YtjmmckkiicefhaaDoor
