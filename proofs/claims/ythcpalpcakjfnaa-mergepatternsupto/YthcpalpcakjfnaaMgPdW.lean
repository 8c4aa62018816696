/-
  caesuraref17.Patterns; caesuralaw17.patterns.
-/
import Derived.Test.YthcpalpcakjfnaaMgPcW
import Derived.ChangeKeysEq
import Derived.BigRegion
namespace Go.Proofs.Ythcpalpcakjfnaa
open Go.RowKit Go.Shelf Go.Lib Go.Maps
theorem own3_snoc {w wr w1 : World} {base : Nat} {v v' : Value} {L : List P3} {x : P3} {o : Obj} {n : Nat} (hn : n = L.length) (hown : Own3 wr base v L) (hown' : w1.ownsRow base 54 3 v' (n + 1) (cells3 L ++ c3 x)) (hgrow : (wr.alloc o).grownBy w1 v.ownBlock) (hb : Below base w wr) (hbase : base ≤ w.heap.size) : Own3 w1 base v' (L ++ [x]) ∧ Below base w w1 := by
  subst hn
  refine ⟨?_, ?_⟩
  · unfold Own3
    rw [List.length_append, List.length_singleton, cells3_snoc]
    exact hown'
  · have hs := hb.size
    exact (hb.alloc (by omega) o).grown hgrow (by simp; omega) (fun k hk => (World.ownsRow.lt hown k hk).1)
set_option maxRecDepth 10000 in
set_option maxHeartbeats 1600000 in
theorem refPatterns_any (n : Nat) (s : Int) (a : Option Addr) (Ls : List Nat) (cc : Nat) (vr v2 v3 v4 v5 : Value) (w : World) (hn : n ≤ 100000000) (hvr : ∃ ar cr, vr = .slice ar n cr) (hL : LenA w a Ls) (hl : Ls.length ≤ 100000000) (hm : ∀ m ∈ Ls, m ≤ 100000000) (hbd : (cutX Ls Ls.length).length ≤ 1999000000000) :
    Calls Try.prog 14 #[.agg #[vr, .int .i64 s, v2, v3, v4, v5], .slice a Ls.length cc] w fun e w' => PatR w (patF n s Ls) e w' := by
  obtain ⟨i0, hi, hz0, hz1, hz2⟩ := info_parts info3
  obtain ⟨ar, cr, rfl⟩ := hvr
  obtain ⟨W, hW⟩ : ∃ W, w.alloc (.cells #[.slice ar n cr, .int .i64 s, v2, v3, v4, v5] 31) = W := ⟨_, rfl⟩
  obtain ⟨hb, hr, _⟩ := laid1 hW
  have HSk : Hid (∀ V, Below w.heap.size w V → V.heap[w.heap.size]? = W.heap[w.heap.size]? → V.cell? ⟨w.heap.size, 0, none⟩ = some (.slice ar n cr) ∧ V.cell? ⟨w.heap.size, 1, none⟩ = some (.int .i64 s)) := hid0 (fun V _ h => by
    have h' := h.trans hr
    exact ⟨by rw [cell_of_row _ _ _ _ _ _ h']; rfl, by rw [cell_of_row _ _ _ _ _ _ h']; rfl⟩)
  have HL := hid0 hL
  have HM := hid0 hm
  have HB := hid0 hb
  have HWs : Hid (W.heap.size = w.heap.size + 1) := hid0 (by rw [← hW]; simp)
  have hpk : ∀ i, i ≤ n + 1 → (patK n s Ls i).length ≤ 1999100000000 := fun i hi => by
    have h1 := patK_le n s Ls i hi
    have h2 := patF_len n s Ls
    omega
  have HPk := hid0 hpk
  clear hL hm hb hr hbd hpk
  go_enter Try.func14, Try.ntmps14
  go_wp2
  go_loopw [5, 6, 7, 8] (fun v i _ _ wr => ∃ k : Nat, k ≤ n + 1 ∧ i = .int .i64 (k : Int) ∧ Hid (Own3 wr W.heap.size v (patK n s Ls k)) ∧ Hid (Below W.heap.size W wr)) (fun _ i _ _ _ => n + 1 - (intOf i).toNat)
  case atStart => exact ⟨0, Nat.zero_le _, rfl, hid0 (World.ownsRow_nil _ _ _ _), hid0 (Below.refl _ _)⟩
  case round =>
    obtain ⟨k, hk, rfl, HO, HBr⟩ := hrel
    clear hW
    obtain ⟨e0, e1⟩ := HSk.out wr (Below.later HB.out HBr.out) (HBr.out.block _ (by have := HWs.out; omega))
    by_cases hkn : k ≤ n
    · have hkI : (k : Int) ≤ (n : Int) := by omega
      have hwk : IntKind.i64.wrap ((k : Int) + 1) = (k : Int) + 1 := by simp [IntKind.wrap, IntKind.bits, IntKind.signed]; omega
      have HNx : Hid (patK n s Ls (k + 1) = patK n s Ls k ++ ((if (k : Int) = s then cutX Ls Ls.length else []) ++ (if k < n then [((k : Int), -1, 0)] else []))) := hid0 rfl
      have hP0 := HPk.out k hk
      have hP1 := HPk.out (k + 1) (by omega)
      rw [HNx.out, List.length_append, List.length_append] at hP1
      generalize hPN : patK n s Ls (k + 1) = PN at *
      have HPN := hid0 hPN
      clear hPN
      generalize patK n s Ls k = P0 at *
      by_cases hs : (k : Int) = s
      · rw [if_pos hs] at HNx hP1
        have hsb : ((k : Int) == s) = true := by rw [hs]; simp
        have HHs := hid0 hs
        clear hs
        go_wp2
        go_loopw [5, 7, 8] (fun v j _ wq => ∃ q : Nat, q ≤ Ls.length ∧ j = .int .i64 (q : Int) ∧ Hid (Own3 wq W.heap.size v (P0 ++ cutX Ls q)) ∧ Hid (Below W.heap.size W wq)) (fun _ j _ _ => Ls.length - (intOf j).toNat)
        case atStart => exact ⟨0, Nat.zero_le _, rfl, hid0 (by rw [cutX, List.append_nil]; exact HO.out), HBr⟩
        case round =>
          clear HO HBr e0 e1
          obtain ⟨q, hq, rfl, HO, HBr⟩ := hrel
          obtain ⟨wy, hwy⟩ : ∃ wy, wy = wr := ⟨_, rfl⟩
          subst hwy
          obtain ⟨e0, e1⟩ := HSk.out wy (Below.later HB.out HBr.out) (HBr.out.block _ (by have := HWs.out; omega))
          by_cases hql : q < Ls.length
          · have hqI : (q : Int) < (Ls.length : Int) := by omega
            have hq0 : (0 : Int) ≤ (q : Int) := by omega
            have hqd : decide ((q : Int) < (Ls.length : Int)) = true := decide_eq_true hqI
            have hwq : IntKind.i64.wrap ((q : Int) + 1) = (q : Int) + 1 := by simp [IntKind.wrap, IntKind.bits, IntKind.signed]; omega
            obtain ⟨b, off, a1, c1, rfl, hc⟩ := (HL.out.past (Below.later HB.out HBr.out)).at' q hql
            have hml := HM.out _ (List.getElem_mem hql)
            have HCx : Hid (cutX Ls (q + 1) = cutX Ls q ++ cutR q Ls[q]) := hid0 (by rw [cutX, List.getD_eq_getElem?_getD, List.getElem?_eq_getElem hql]; rfl)
            have hcl : (cutX Ls (q + 1)).length ≤ (cutX Ls Ls.length).length := by
              have h := cutX_mono Ls (q + 1) (Ls.length - (q + 1))
              rwa [show q + 1 + (Ls.length - (q + 1)) = Ls.length by omega] at h
            rw [HCx.out, List.length_append, cutR_len] at hcl
            have HCc : Hid (∀ V, Below W.heap.size W V → V.cell? ⟨b, off + q, none⟩ = some (.slice a1 Ls[q] c1)) := hid0 (fun V hV => by
              obtain ⟨b', off', a1', c1', e, hc'⟩ := HL.out.at' q hql
              cases e
              have h1 := ((Below.later HB.out HBr.out).cell (World.block_lt_of_cell? w _ hc')).trans hc'
              rw [hc] at h1
              injection h1 with h1
              rw [h1]
              exact ((Below.later HB.out hV).cell (World.block_lt_of_cell? w _ hc')).trans hc')
            generalize Ls[q] = m at *
            generalize hCN : cutX Ls (q + 1) = CN at *
            have HCN := hid0 hCN
            clear hCN
            generalize cutX Ls q = C0 at *
            go_wp2
            clear hc
            go_loopw [5, 8] (fun v c wq => ∃ j : Nat, j ≤ m ∧ c = .int .i64 ((j : Int) + 1) ∧ Hid (Own3 wq W.heap.size v (P0 ++ C0 ++ (cutR q m).take j)) ∧ Hid (Below W.heap.size W wq)) (fun _ c _ => m + 1 - (intOf c).toNat)
            case atStart => exact ⟨0, Nat.zero_le _, rfl, hid0 (by rw [List.take_zero, List.append_nil]; exact HO.out), HBr⟩
            case round =>
              clear HO HBr e0 e1
              obtain ⟨j, hj, rfl, HO, HBr⟩ := hrel
              obtain ⟨wz, hwz⟩ : ∃ wz, wz = wr := ⟨_, rfl⟩
              subst hwz
              have hc := HCc.out wz HBr.out
              by_cases hjl : j < m
              · have hjI : (j : Int) + 1 ≤ (m : Int) := by omega
                have hwj : IntKind.i64.wrap ((j : Int) + 1 + 1) = (j : Int) + 1 + 1 := by simp [IntKind.wrap, IntKind.bits, IntKind.signed]; omega
                have HTk : Hid ((cutR q m).take (j + 1) = (cutR q m).take j ++ [(-1, (q : Int), (j : Int) + 1)]) := hid0 (by
                  rw [List.take_add_one]
                  congr 1
                  simp [cutR, hjl])
                have hLb : (P0 ++ C0 ++ (cutR q m).take j).length ≤ 1999100000000 := by
                  rw [List.length_append, List.length_append, List.length_take, cutR_len]
                  omega
                generalize hL7 : P0 ++ C0 ++ (cutR q m).take j = L7 at *
                have HL7 := hid0 hL7
                clear hL7
                obtain ⟨ap, cp, hvf⟩ := HO.out.form
                subst hvf
                go_wp2_with (at_builtin; go_loud ((refine wpList_append_own _ rfl _ _ 52 rfl W.heap.size 54 i0 (.agg #[.int .i64 0, .int .i64 0, .int .i64 0]) 3 24 Try.underlying52 hi hz0 hz1 hz2 rfl (by decide) _ L7.length (cells3 L7) rfl (World.ownsRow.alloc HO.out _) ⟨wz.heap.size, 0, none⟩ 1 1 (c3 (-1, (q : Int), (j : Int) + 1)) rfl rfl (cellC3_new wz (-1, (q : Int), (j : Int) + 1) _) (c3_one (-1, (q : Int), (j : Int) + 1)) (by unfold maxLen; omega) (by omega) (by have := HBr.out.size; simp; omega) ?_; intro v7 w7 hown7 hgrow7 _; have HSn := hid0 (own3_snoc (w := W) rfl HO.out hown7 hgrow7 HBr.out (Nat.le_refl _)); clear hown7 hgrow7)))
                go_roundw
                case rel => exact ⟨j + 1, by omega, by congr 1, hid0 (by rw [HTk.out, ← List.append_assoc, HL7.out]; exact HSn.out.1), hid0 HSn.out.2⟩
                case measure => simp [intOf]; omega
              · have hjI : ¬ (j : Int) + 1 ≤ (m : Int) := by omega
                have hjm : j = m := by omega
                subst hjm
                have HOe : Hid (Own3 wz W.heap.size u5 (P0 ++ CN)) := hid0 (by have h := HO.out; rw [List.take_of_length_le (by rw [cutR_len]; exact Nat.le_refl _), List.append_assoc, ← HCx.out] at h; exact h)
                go_wp2
                go_roundw
                case rel => exact ⟨q + 1, by omega, by congr 1, hid0 (by rw [HCN.out]; exact HOe.out), HBr⟩
                case measure => simp [intOf]; omega
          · have hqI : ¬ (q : Int) < (Ls.length : Int) := by omega
            have hqd : decide ((q : Int) < (Ls.length : Int)) = false := decide_eq_false hqI
            have hqe : q = Ls.length := by omega
            subst hqe
            have HNl : Hid ((P0 ++ cutX Ls Ls.length).length ≤ 1999100000000) := hid0 (by rw [List.length_append]; omega)
            have HNx2 : Hid (PN = (P0 ++ cutX Ls Ls.length) ++ (if k < n then [((k : Int), -1, 0)] else [])) := hid0 (by rw [HNx.out, List.append_assoc])
            clear HNx
            have HNx := HNx2
            clear HNx2
            generalize P0 ++ cutX Ls Ls.length = PC at *
            have hPC := HNl.out
            by_cases hkl : k < n
            · have hklI : (k : Int) < (n : Int) := by omega
              obtain ⟨ap, cp, hvf⟩ := HO.out.form
              subst hvf
              go_wp2_with (at_builtin; go_loud ((refine wpList_append_own _ rfl _ _ 52 rfl W.heap.size 54 i0 (.agg #[.int .i64 0, .int .i64 0, .int .i64 0]) 3 24 Try.underlying52 hi hz0 hz1 hz2 rfl (by decide) _ PC.length (cells3 PC) rfl (World.ownsRow.alloc HO.out _) ⟨wy.heap.size, 0, none⟩ 1 1 (c3 ((k : Int), -1, 0)) rfl rfl (cellC3_new wy ((k : Int), -1, 0) _) (c3_one ((k : Int), -1, 0)) (by unfold maxLen; omega) (by omega) (by have := HBr.out.size; simp; omega) ?_; intro v7 w7 hown7 hgrow7 _; have HSn := hid0 (own3_snoc (w := W) rfl HO.out hown7 hgrow7 HBr.out (Nat.le_refl _)); clear hown7 hgrow7)))
              go_roundw
              case rel => exact ⟨k + 1, by omega, by congr 1, hid0 (by rw [HPN.out, HNx.out, if_pos hkl]; exact HSn.out.1), hid0 HSn.out.2⟩
              case measure => simp [intOf]; omega
            · have hklI : ¬ (k : Int) < (n : Int) := by omega
              go_wp2
              go_roundw
              case rel => exact ⟨k + 1, by omega, by congr 1, hid0 (by rw [HPN.out, HNx.out, if_neg hkl, List.append_nil]; exact HO.out), HBr⟩
              case measure => simp [intOf]; omega
      · rw [if_neg hs] at HNx hP1
        have hsb : ((k : Int) == s) = false := by simpa using hs
        clear hs
        go_wp2
        go_loopw [5, 7, 8] (fun v j _ wq => j = .int .i64 0 ∧ v = u5 ∧ wq = wr) (fun _ _ _ _ => 0)
        case atStart => exact ⟨rfl, rfl, rfl⟩
        case round =>
          obtain ⟨rfl, rfl, rfl⟩ := hrel
          rw [List.nil_append] at HNx
          by_cases hkl : k < n
          · have hklI : (k : Int) < (n : Int) := by omega
            obtain ⟨ap, cp, hvf⟩ := HO.out.form
            subst hvf
            go_wp2_with (at_builtin; go_loud ((refine wpList_append_own _ rfl _ _ 52 rfl W.heap.size 54 i0 (.agg #[.int .i64 0, .int .i64 0, .int .i64 0]) 3 24 Try.underlying52 hi hz0 hz1 hz2 rfl (by decide) _ P0.length (cells3 P0) rfl (World.ownsRow.alloc HO.out _) ⟨wr.heap.size, 0, none⟩ 1 1 (c3 ((k : Int), -1, 0)) rfl rfl (cellC3_new wr ((k : Int), -1, 0) _) (c3_one ((k : Int), -1, 0)) (by unfold maxLen; omega) (by omega) (by have := HBr.out.size; simp; omega) ?_; intro v7 w7 hown7 hgrow7 _; have HSn := hid0 (own3_snoc (w := W) rfl HO.out hown7 hgrow7 HBr.out (Nat.le_refl _)); clear hown7 hgrow7)))
            go_roundw
            case rel => exact ⟨k + 1, by omega, by congr 1, hid0 (by rw [HPN.out, HNx.out, if_pos hkl]; exact HSn.out.1), hid0 HSn.out.2⟩
            case measure => simp [intOf]; omega
          · have hklI : ¬ (k : Int) < (n : Int) := by omega
            go_wp2
            go_roundw
            case rel => exact ⟨k + 1, by omega, by congr 1, hid0 (by rw [HPN.out, HNx.out, if_neg hkl, List.append_nil]; exact HO.out), HBr⟩
            case measure => simp [intOf]; omega
    · have hkI : ¬ (k : Int) ≤ (n : Int) := by omega
      have hke : k = n + 1 := by omega
      have HE : Hid (Own3 wr W.heap.size u5 (patF n s Ls)) := hid0 (by have h := HO.out; rw [hke] at h; exact h)
      clear hke
      go_wp2
      go_ret
      exact ⟨u5, rfl, owns_lower HE.out (by have := HWs.out; omega), Below.later HB.out HBr.out⟩
end Go.Proofs.Ythcpalpcakjfnaa
