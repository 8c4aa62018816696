/-
  The walk of block.paint.
-/
import Derived.Test.YtpimameogmkpcaaDoorPbBW
import Derived.Deep.LoopGhost
namespace Go.Proofs.YtpimameogmkpcaaDoor
open Go.RowKit
theorem PA.only {w w' : World} {a : Option Addr} {l : List Sp} {S : Nat → Prop} (h : PA w a l) (ho : Only w w' S) (hs : ∀ p, a = some p → ¬ S p.block) : PA w' a l := ⟨fun k hk => by
  obtain ⟨b, off, rfl, hlt, h0, h1, h2⟩ := h.at' k hk
  have hn := hs _ rfl
  exact ⟨b, off, rfl, Nat.lt_of_lt_of_le hlt ho.size, (ho.cell (p := ⟨b, off + k * 3, none⟩) hlt hn).trans h0, (ho.cell (p := ⟨b, off + k * 3 + 1, none⟩) hlt hn).trans h1, (ho.cell (p := ⟨b, off + k * 3 + 2, none⟩) hlt hn).trans h2⟩⟩
theorem Only.drew {w w' : World} {S : Nat → Prop} (h : Only w w' S) : Only w w'.drew S := ⟨h.os, h.tape, h.output, h.size, h.block⟩
theorem PA.next {w : World} {b off : Nat} {l : List Sp} {k : Nat} (h : PA w (some ⟨b, off, none⟩) (l.drop k)) : PA w (some ⟨b, off + 3, none⟩) (l.drop (k + 1)) := ⟨fun j hj => by
  rw [List.length_drop] at hj
  obtain ⟨b', off', e, h0, h1, h2, h3⟩ := h.at' (j + 1) (by rw [List.length_drop]; omega)
  simp only [Option.some.injEq, Addr.mk.injEq, and_true] at e
  obtain ⟨rfl, rfl⟩ := e
  refine ⟨b, off + 3, rfl, h0, ?_⟩
  have e1 : off + (j + 1) * 3 = off + 3 + j * 3 := by omega
  rw [e1] at h1 h2 h3
  simp only [List.getElem_drop] at h1 h2 h3 ⊢
  have e2 : k + (j + 1) = k + 1 + j := by omega
  simp only [e2] at h1 h2 h3
  exact ⟨h1, h2, h3⟩⟩
theorem PA.nil (w : World) (a : Option Addr) : PA w a [] := ⟨fun k hk => by simp at hk⟩
/-- What paint leaves: the block's classes, and the spans that reach beyond it. -/
def Painted (R : List Sp) (a : Option Addr) (cap i bb : Nat) (w : World) (e : Ending) (w' : World) : Prop := ∃ k a' cap', k ≤ R.length ∧ e = .returned (.slice a' (R.length - k) cap') ∧ PA w' a' (R.drop k) ∧ (∀ p, a' = some p → ∃ q, a = some q ∧ q.block = p.block) ∧ (R.length - k ≤ cap' ∧ cap' ≤ cap) ∧ (∀ s ∈ R.take k, s.2.1 ≤ 128 * (i : Int) + 127) ∧ w'.heap[bb]? = some (.cells (cellsB (blkOf (cls R) i)) 70 (0, 0)) ∧ Only w w' (fun k => k = bb)
set_option maxRecDepth 10000 in
set_option maxHeartbeats 800000 in
theorem paint_any (N : Int) (R : List Sp) (a : Option Addr) (cap i bb : Nat) (w : World) (hR : Rise N R) (hN : N ≤ 254) (hi : i < 8704) (hl : R.length ≤ cap) (ha : PA w a R) (hab : ∀ p, a = some p → p.block ≠ bb) (hbl : bb < w.heap.size)
    (hb : w.heap[bb]? = some (.cells (cellsB (blkOf (fun _ => 0) i)) 70 (0, 0))) :
    Calls Tryd.prog 43 #[.pointer (some ⟨bb, 0, none⟩), .int .i64 (128 * (i : Int)), .slice a R.length cap] w fun e w' => Painted R a cap i bb w e w' := by
  have HR := hid0 hR
  have HA := hid0 ha
  have HAB := hid0 hab
  have HB := hid0 hb
  obtain ⟨F, hF⟩ : ∃ F : Int, F = 128 * (i : Int) := ⟨_, rfl⟩
  have HF := hid0 hF
  have hF0 : 0 ≤ F := by omega
  have hF1 : F ≤ 1114112 := by omega
  rw [← hF]
  clear hR ha hab hb hF
  go_enter Tryd.func43, Tryd.ntmps43
  go_wp2
  go_loopg [2] R.length (fun g s2 wr => ∃ (k : Nat) (a' : Option Addr) (cap' : Nat), k + g = R.length ∧ s2 = .slice a' g cap' ∧ g ≤ cap' ∧ cap' ≤ cap ∧ Hid (PA wr a' (R.drop k)) ∧ Hid (∀ p, a' = some p → ∃ q, a = some q ∧ q.block = p.block) ∧ Hid (∀ s ∈ R.take k, s.2.1 ≤ F + 127) ∧ Hid (wr.heap[bb]? = some (.cells (cellsB (blkOf (cls (R.take k)) i)) 70 (0, 0))) ∧ Hid (Only w wr (fun k => k = bb)))
  case atStart => exact ⟨0, a, cap, by omega, rfl, hl, Nat.le_refl _, HA, hid0 (fun p hp => ⟨p, hp, rfl⟩), hid0 (fun s hs => by simp at hs), HB, hid0 (Only.refl _ _)⟩
  case round =>
    obtain ⟨wo, rfl⟩ : ∃ wo, wo = wr := ⟨wr, rfl⟩
    obtain ⟨k, a', cap', hkg, rfl, hc1, hc2, HP, HQ, HT, HH, HO⟩ := hrel
    have hF := HF.out
    cases gk with
    | zero =>
      have HE : Hid (Painted R a cap i bb w (.returned (.slice a' 0 cap')) wo) := hid0 (by
        have e : k = R.length := by omega
        have e2 : R.take k = R := List.take_of_length_le (by omega)
        have e3 := HH.out
        rw [e2] at e3
        exact ⟨k, a', cap', by omega, by rw [show R.length - k = 0 by omega], HP.out, HQ.out, by omega, fun s hs => by have := HT.out s hs; omega, e3, HO.out⟩)
      clear HP HQ HT HH HO hF
      go_wp2
      go_ret
      exact HE.out
    | succ g =>
      have hk : k < R.length := by omega
      obtain ⟨b, off, rfl, hbw, c0, c1, c2⟩ := HP.out.at' 0 (by rw [List.length_drop]; omega)
      have hd0 : (R.drop k)[0]'(by rw [List.length_drop]; omega) = R[k] := by simp
      rw [hd0] at c0 c1 c2
      obtain ⟨⟨lo, hi', nm⟩, hs⟩ : ∃ s : Sp, R[k] = s := ⟨_, rfl⟩
      rw [hs] at c0 c1 c2
      simp only [Nat.zero_mul, Nat.add_zero] at c0 c1 c2
      have hone := HR.out.one _ (List.getElem_mem hk)
      rw [hs] at hone
      simp only at hone
      obtain ⟨o1, o2, o3, o4, o5⟩ := hone
      have HS := hid0 hs
      have hbb : b ≠ bb := by obtain ⟨q, hq, e⟩ := HQ.out _ rfl; have := HAB.out q hq; rw [e] at this; exact this
      have HBB := hid0 hbb
      clear hd0 hs
      by_cases hlo : lo ≤ F + 128 - 1
      · have hlo' : decide (lo ≤ F + 128 - 1) = true := by simpa using hlo
        obtain ⟨q0, hq0⟩ : ∃ q0 : Int, q0 = if lo ≤ F then F else lo := ⟨_, rfl⟩
        obtain ⟨q1, hq1⟩ : ∃ q1 : Int, q1 = if hi' ≤ F + 128 - 1 then hi' else F + 128 - 1 := ⟨_, rfl⟩
        have hmax : ∀ ts t w, (Builtin.max_ ts t #[.int .i64 lo, .int .i64 F]).run Tryd.prog w = .ok (.int .i64 q0) w := fun ts t w => by rw [run_max_int2, hq0]; (repeat' split) <;> first | rfl | omega | (congr 2; omega)
        have hmin : ∀ ts t w, (Builtin.min_ ts t #[.int .i64 hi', .int .i64 (F + 128 - 1)]).run Tryd.prog w = .ok (.int .i64 q1) w := fun ts t w => by rw [run_min_int2, hq1]; (repeat' split) <;> first | rfl | omega | (congr 2; omega)
        have b0 : F ≤ q0 ∧ lo ≤ q0 ∧ q0 ≤ F + 127 := by rw [hq0]; split <;> omega
        have b1 : q1 ≤ F + 127 ∧ q1 ≤ hi' := by rw [hq1]; split <;> omega
        have HQ0 := hid0 hq0
        have HQ1 := hid0 hq1
        clear hq0 hq1
        clear hF hbb hlo
        have hnb : ¬ bb = wo.heap.size := by have := HO.out.size; omega
        have HH0 : Hid ((wo.alloc (.cells #[.int .i64 lo, .int .i64 hi', .int .i64 nm] 38)).heap[bb]? = some (.cells (cellsB (blkOf (fun q => if q0 ≤ q ∧ q < q0 then nm + 1 else cls (R.take k) q) i)) 70 (0, 0))) := hid0 (by
          rw [Below.heap_alloc wo _ bb (by have := HO.out.size; omega), blkOf_congr (f := fun q => if q0 ≤ q ∧ q < q0 then nm + 1 else cls (R.take k) q) (g := cls (R.take k)) (fun p _ _ => if_neg (by omega))]
          exact HH.out)
        have HS1 : Hid ((wo.alloc (.cells #[.int .i64 lo, .int .i64 hi', .int .i64 nm] 38)).heap[wo.heap.size]? = some (.cells #[.int .i64 lo, .int .i64 hi', .int .i64 nm] 38 (0, 0))) := hid0 (heap_alloc_new wo _)
        have HO1 : Hid (Only wo (wo.alloc (.cells #[.int .i64 lo, .int .i64 hi', .int .i64 nm] 38)) (fun k => k = bb)) := hid0 (Only.alloc _ _ _)
        obtain ⟨j0, hj0⟩ : ∃ j0 : Nat, q0 = F + (j0 : Int) := ⟨(q0 - F).toNat, by omega⟩
        subst hj0
        go_wp2
        go_loopw [9] (fun v wx => ∃ j : Nat, j0 ≤ j ∧ j ≤ 128 ∧ (j0 < j → F + (j : Int) ≤ q1 + 1) ∧ v = .int .i64 (F + (j : Int)) ∧ Hid (wx.heap[bb]? = some (.cells (cellsB (blkOf (fun q => if F + (j0 : Int) ≤ q ∧ q < F + (j : Int) then nm + 1 else cls (R.take k) q) i)) 70 (0, 0))) ∧ Hid (wx.heap[wo.heap.size]? = some (.cells #[.int .i64 lo, .int .i64 hi', .int .i64 nm] 38 (0, 0))) ∧ Hid (Only wo wx (fun k => k = bb))) (fun v _ => (q1 + 1 - intOf v).toNat)
        case atStart => exact ⟨j0, Nat.le_refl _, by omega, fun h => absurd h (Nat.lt_irrefl _), rfl, HH0, HS1, HO1⟩
        case round =>
          obtain ⟨j, hj1, hj2, hj3, rfl, HX, HY, HZ⟩ := hrel
          have x1 : wr.cell? ⟨wo.heap.size, 1, none⟩ = some (.int .i64 hi') := by rw [cell_of_row _ _ _ _ _ _ HY.out]; rfl
          have x2 : wr.cell? ⟨wo.heap.size, 2, none⟩ = some (.int .i64 nm) := by rw [cell_of_row _ _ _ _ _ _ HY.out]; rfl
          have hnx : ¬ wo.heap.size = bb := fun e => hnb e.symm
          by_cases hp : F + (j : Int) ≤ q1
          · have hp' : decide (F + (j : Int) ≤ q1) = true := by simpa using hp
            have hj128 : j < 128 := by omega
            have hjI : (j : Int) < 128 := by omega
            have hjI0 : (0 : Int) ≤ (j : Int) := by omega
            have hsub : F + (j : Int) - F = (j : Int) := by omega
            have c3 : ∃ u, wr.cell? ⟨bb, j, none⟩ = some u := by
              rw [cell_of_row _ _ _ _ _ _ HX.out]
              exact ⟨_, cellsB_at _ _ (by rw [blkOf_len]; exact hj128)⟩
            obtain ⟨u, c3⟩ := c3
            have f3 : wr.frozen? ⟨bb, j, none⟩ = false := by simp [World.frozen?, HX.out]
            have hcv : IntKind.u8.wrap (nm + 1) = nm + 1 := by simp [IntKind.wrap, IntKind.bits, IntKind.signed]; omega
            have hwn : IntKind.i64.wrap (nm + 1) = nm + 1 := by simp [IntKind.wrap, IntKind.bits, IntKind.signed]; omega
            have HX2 : Hid ((wr.setCell ⟨bb, j, none⟩ (.int .u8 (nm + 1))).heap[bb]? = some (.cells (cellsB (blkOf (fun q => if F + (j0 : Int) ≤ q ∧ q < F + ((j + 1 : Nat) : Int) then nm + 1 else cls (R.take k) q) i)) 70 (0, 0))) := hid0 (by
              rw [heap_setCell_same wr bb j _ _ (.int .u8 (nm + 1)) HX.out, cellsB_set]
              have e := blkOf_set (fun q => if F + (j0 : Int) ≤ q ∧ q < F + (j : Int) then nm + 1 else cls (R.take k) q) i (F + (j : Int)) (nm + 1) (by rw [← HF.out]; omega) (by rw [← HF.out]; omega)
              rw [← HF.out, hsub, Int.toNat_natCast] at e
              rw [e]
              congr 3
              refine blkOf_congr (fun q _ _ => ?_)
              by_cases e1 : q = F + (j : Int)
              · rw [if_pos e1, if_pos (by omega)]
              · rw [if_neg e1]
                by_cases e2 : F + (j0 : Int) ≤ q ∧ q < F + (j : Int)
                · rw [if_pos e2, if_pos (by omega)]
                · rw [if_neg e2, if_neg (by omega)])
            have HY2 : Hid ((wr.setCell ⟨bb, j, none⟩ (.int .u8 (nm + 1))).heap[wo.heap.size]? = some (.cells #[.int .i64 lo, .int .i64 hi', .int .i64 nm] 38 (0, 0))) := hid0 ((Below.heap_setCell wr ⟨bb, j, none⟩ _ _ hnx).trans HY.out)
            have HZ2 : Hid (Only wo (wr.setCell ⟨bb, j, none⟩ (.int .u8 (nm + 1))).drew (fun k => k = bb)) := hid0 (HZ.out.trans (Only.setCell wr bb j _) (fun i hi => .inl hi)).drew
            clear HX HY HZ HH0 HS1 HO1
            go_wp2
            go_region
            go_wp2
            go_roundw
            case rel => exact ⟨j + 1, by omega, by omega, fun _ => by omega, by go_num, HX2, HY2, HZ2⟩
            case measure => simp [intOf]; omega
          · have hp' : decide (F + (j : Int) ≤ q1) = false := by simpa using hp
            have hj4 : j ≤ 128 := hj2
            have HX1 : Hid (wr.heap[bb]? = some (.cells (cellsB (blkOf (cls (R.take (k + 1))) i)) 70 (0, 0))) := hid0 (by
              rw [HX.out]
              congr 3
              refine blkOf_congr (fun q h1 h2 => ?_)
              rw [take_succ_snoc hk, HS.out, cls_snoc (by have := HR.out.before hk; rw [HS.out] at this; exact this)]
              have g0 := HQ0.out
              have g1 := HQ1.out
              have gF := HF.out
              by_cases e1 : F + (j0 : Int) ≤ q ∧ q < F + (j : Int)
              · rw [if_pos e1, if_pos (by show lo ≤ q ∧ q ≤ hi'; split at g0 <;> split at g1 <;> omega)]
              · rw [if_neg e1, if_neg (by show ¬ (lo ≤ q ∧ q ≤ hi'); split at g0 <;> split at g1 <;> omega)])
            have HO2 : Hid (Only w wr (fun k => k = bb)) := hid0 (HO.out.trans HZ.out (fun i hi => .inl hi))
            have HP2 : Hid (PA wr (some ⟨b, off, none⟩) (R.drop k)) := hid0 (HP.out.only HZ.out (fun p hp => by cases hp; exact HBB.out))
            clear HX HZ HY HP HO HH HH0 HS1 HO1 hp
            by_cases hhi : hi' > F + 128 - 1
            · have hhi' : decide (hi' > F + 128 - 1) = true := by simpa using hhi
              have HE : Hid (Painted R a cap i bb w (.returned (.slice (some ⟨b, off, none⟩) (g + 1) cap')) wr) := hid0 (by
                have gF := HF.out
                have e3 := HX1.out
                rw [blkOf_congr (f := cls (R.take (k + 1))) (g := cls R) (fun p h1 h2 => (cls_take HR.out (fun q => by have h5 := HR.out.behind hk _ (by rw [List.drop_eq_getElem_cons q]; exact List.mem_cons_self); rw [HS.out] at h5; simp only at h5; omega)).symm)] at e3
                exact ⟨k, _, cap', by omega, by rw [show R.length - k = g + 1 by omega], HP2.out, HQ.out, by omega, fun s hs => by have := HT.out s hs; omega, e3, HO2.out⟩)
              clear HP2 HQ HT HX1 HO2 hhi
              go_wp2
              go_ret
              exact HE.out
            · have hhi' : decide (hi' > F + 128 - 1) = false := by simpa using hhi
              have hge : (1 : Int) ≤ (g : Int) + 1 := by omega
              have hce : (g : Int) + 1 ≤ (cap' : Int) := by omega
              have hk1 : k + 1 + g = R.length := by omega
              have HT2 : Hid (∀ s ∈ R.take (k + 1), s.2.1 ≤ F + 127) := hid0 (fun s hs => by
                rw [take_succ_snoc hk, HS.out] at hs
                rcases List.mem_append.1 hs with hs | hs
                · exact HT.out s hs
                · rw [List.mem_singleton.1 hs]; show hi' ≤ F + 127; omega)
              by_cases hc : cap' = 1
              · subst hc
                have HP3 : Hid (PA wr (some ⟨b, off, none⟩) (R.drop (k + 1))) := hid0 (by rw [List.drop_of_length_le (by omega)]; exact PA.nil _ _)
                have hg0 : g = 0 := by omega
                subst hg0
                clear HP2 HT hhi HS hk hkg
                go_wp2
                go_roundg 0
                case measure => omega
                case rel => exact ⟨k + 1, _, 0, by omega, rfl, by omega, by omega, HP3, HQ, HT2, HX1, HO2⟩
              · have HP3 : Hid (PA wr (some ⟨b, off + 3, none⟩) (R.drop (k + 1))) := hid0 HP2.out.next
                have HQ3 : Hid (∀ p, some (⟨b, off + 3, none⟩ : Addr) = some p → ∃ q, a = some q ∧ q.block = p.block) := hid0 (fun p hp => by cases hp; obtain ⟨q, h1, h2⟩ := HQ.out _ rfl; exact ⟨q, h1, h2⟩)
                clear HP2 HT hhi HS hk hkg HQ
                go_wp2
                go_roundg g
                case measure => omega
                case rel => exact ⟨k + 1, _, cap' - 1, by omega, rfl, by omega, by omega, HP3, HQ3, HT2, HX1, HO2⟩
      · have hlo' : decide (lo ≤ F + 128 - 1) = false := by simpa using hlo
        have HE : Hid (Painted R a cap i bb w (.returned (.slice (some ⟨b, off, none⟩) (g + 1) cap')) wo) := hid0 (by
          have e3 := HH.out
          rw [blkOf_congr (f := cls (R.take k)) (g := cls R) (fun p h1 h2 => (cls_take HR.out (fun q => by rw [HS.out]; show p < lo; omega)).symm)] at e3
          exact ⟨k, _, cap', by omega, by rw [show R.length - k = g + 1 by omega], HP.out, HQ.out, by omega, fun s hs => by have := HT.out s hs; omega, e3, HO.out⟩)
        clear HP HQ HT HH HO hF hbb
        go_wp2
        go_ret
        exact HE.out
end Go.Proofs.YtpimameogmkpcaaDoor
