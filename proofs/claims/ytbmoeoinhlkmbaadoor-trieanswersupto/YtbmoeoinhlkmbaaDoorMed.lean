/-
  TwIW, TwJW, TwKW, TwLM, TwLW, TwMW.
-/
import Derived.Test.YtbmoeoinhlkmbaaDoorMec
import Derived.HandedShaped
import Derived.BigRegion
import Derived.Deep.RegionHeld3
namespace Go.Proofs.YtbmoeoinhlkmbaaDoor
open Go.RowKit Go.Shelf Go.Lib Go.Maps
set_option maxRecDepth 10000 in
set_option maxHeartbeats 1600000 in
theorem refSize_any {w : World} {U : Nat} {E : List (List Int)} {aE : Option Addr} {cE : Nat} (hT : RTr w U E aE cE) (hG : Good E) (hE2 : E.length ≤ 2000) :
    Calls Tryd.prog 30 #[.pointer (some ⟨U, 0, none⟩)] w fun r w' => r = .returned (.int .i64 ((szK E E.length : Int) + 1)) ∧ Below w.heap.size w w' := by
  have HT := hid0 hT
  have HG := hid0 hG
  have HX : Hid (∀ V : World, Below w.heap.size w V → V.cell? ⟨U, 0, none⟩ = some (.slice aE E.length cE)) := hid0 (fun V hV => (hT.past hV).at')
  clear hT hG
  go_enter Tryd.func30, Tryd.ntmps30
  go_wp2
  go_loopw [3, 4] (fun x y wr => ∃ i nn : Nat, i ≤ E.length ∧ y = .int .i64 (i : Int) ∧ x = .int .i64 (nn : Int) ∧ Hid (nn = szK E i + 1) ∧ nn ≤ 70000 ∧ Hid (Below w.heap.size w wr)) (fun _ y _ => E.length - (intOf y).toNat)
  case atStart => exact ⟨0, 1, Nat.zero_le _, rfl, rfl, hid0 rfl, by omega, hid0 (Below.refl _ _)⟩
  case round =>
    obtain ⟨i, nn, hi, rfl, rfl, HN, hnn, HB⟩ := hrel
    have x0 := HX.out wr HB.out
    by_cases hlt : i < E.length
    · have hiI : (i : Int) < (E.length : Int) := by omega
      have hiI0 : (0 : Int) ≤ (i : Int) := by omega
      have HRw : Hid (∀ V : World, Below w.heap.size w V → ∃ b off, aE = some ⟨b, off, none⟩ ∧ ∃ a1 c1, V.cell? ⟨b, off + i, none⟩ = some (.slice a1 (E[i]).length c1) ∧ IA V a1 E[i]) := hid0 (fun V hV => by
        obtain ⟨b, off, e1, _, r⟩ := (HT.out.row.past hV).at' i hlt
        exact ⟨b, off, e1, r⟩)
      have HSz := hid0 (szK_take hlt)
      have hel : E[i].length ≤ 32 := HG.out.len _ (List.getElem_mem hlt)
      have HSb : Hid (szK E i ≤ 64000) := hid0 (by have := szK_le HG.out.len i; omega)
      have HNl : Hid (∀ j, newC (E.take i) E[i] j ≤ j) := hid0 (fun j => newC_le _ _ _)
      generalize E[i] = e at *
      go_wp2
      clear x0
      go_loopw [3, 5] (fun x y wr => ∃ j mm nn : Nat, j ≤ e.length ∧ Hid (mm = j + 1) ∧ mm ≤ 33 ∧ y = .int .i64 (mm : Int) ∧ x = .int .i64 (nn : Int) ∧ Hid (nn = szK E i + newC (E.take i) e j + 1) ∧ nn ≤ 70000 ∧ Hid (Below w.heap.size w wr)) (fun _ y _ => e.length + 1 - (intOf y).toNat)
      case atStart => exact ⟨0, 1, nn, Nat.zero_le _, hid0 rfl, by omega, rfl, rfl, HN, hnn, HB⟩
      case round =>
        clear HN HB hnn
        obtain ⟨j, mm, nn, hj, HM, hmm, rfl, rfl, HN, hnn, HB⟩ := hrel
        have x0 := HX.out wr HB.out
        by_cases hje : j < e.length
        · have hmI : (mm : Int) ≤ (e.length : Int) := by have := HM.out; omega
          obtain ⟨bE, oE, haE, a1, c1, hc1, hia⟩ := HRw.out wr HB.out
          have HBg : Hid (begB (E.take i) (e.take mm) = bgK E e mm i) := hid0 (bgK_beg (by have := HM.out; omega) (by have := HM.out; omega))
          have HNc : Hid (newC (E.take i) e (j + 1) = newC (E.take i) e j + if begB (E.take i) (e.take mm) = true then 0 else 1) := hid0 (by rw [HM.out]; rfl)
          subst haE
          clear hia
          go_wp2
          clear x0 hc1
          go_loopw [6, 7] (fun x y wr => ∃ k : Nat, k ≤ i ∧ y = .int .i64 (k : Int) ∧ x = .bool (!bgK E e mm k) ∧ Hid (Below w.heap.size w wr)) (fun _ y _ => i - (intOf y).toNat)
          case atStart => exact ⟨0, Nat.zero_le _, rfl, rfl, HB⟩
          case round =>
            clear HB
            obtain ⟨k, hk, rfl, rfl, HB⟩ := hrel
            have x0 := HX.out wr HB.out
            by_cases hki : k < i
            · have hkI : (k : Int) < (i : Int) := by omega
              have hkI0 : (0 : Int) ≤ (k : Int) := by omega
              have hkE : (k : Int) < (E.length : Int) := by omega
              obtain ⟨bE', oE', haE', a1, c1, hc1, hia⟩ := HRw.out wr HB.out
              injection haE' with haE'
              injection haE' with q1 q2
              subst q1 q2
              obtain ⟨b2, o2, e2, _, a2, c2, hc2, hia2⟩ := (HT.out.row.past HB.out).at' k (by omega)
              injection e2 with e2
              injection e2 with q1 q2
              subst q1 q2
              have hel2 : (E[k]'(by omega)).length ≤ 32 := HG.out.len _ (List.getElem_mem (by omega))
              have HSt := hid0 (bgK_step (E := E) (e := e) (m := mm) (k := k) (by omega))
              have HBe : Hid (∀ q, Calls Tryd.prog 35 #[.slice a2 (E[k]'(by omega)).length c2, .slice a1 e.length c1, .int .i64 (mm : Int)] (wr.drewN q) fun r w' => r = .returned (.bool (decide ((E[k]'(by omega)).take mm = e.take mm))) ∧ ∃ m, w' = (wr.drewN q).drewN m) := hid0 (fun q => begins_any _ e a2 a1 c2 c1 mm (wr.drewN q) ⟨hia2.at'⟩ ⟨hia.at'⟩ (by omega) (by have := HM.out; omega) (by omega))
              generalize E[k]'(by omega) = e2 at *
              obtain ⟨bb, hbb⟩ : ∃ bb, decide (e2.take mm = e.take mm) = bb := ⟨_, rfl⟩
              rw [hbb] at HBe HSt
              clear hia hia2 hbb
              go_wp2
              go_quiet ((go_at_call 35; exact Calls.quiet_of (HBe.out _)))
              cases bb with
              | true =>
                go_wp2
                go_roundw
                case rel => exact ⟨k + 1, hki, by go_num, by rw [HSt.out, Bool.or_true]; rfl, hid0 (below_drewN HB.out _)⟩
                case measure => simp [intOf]; omega
              | false =>
                go_wp2
                go_roundw
                case rel => exact ⟨k + 1, hki, by go_num, by rw [HSt.out, Bool.or_false], hid0 (below_drewN HB.out _)⟩
                case measure => simp [intOf]; omega
            · have hkI : ¬ (k : Int) < (i : Int) := by omega
              obtain rfl : k = i := by omega
              have hmk : mm = j + 1 := HM.out
              cases hb : bgK E e mm k with
              | true =>
                have HN2 : Hid (nn = szK E k + newC (E.take k) e (j + 1) + 1) := hid0 (by rw [HNc.out, HBg.out, if_pos hb, Nat.add_zero]; exact HN.out)
                clear hb
                go_wp2
                go_roundw
                case rel => exact ⟨j + 1, mm + 1, nn, hje, hid0 (by omega), by omega, by go_num, rfl, HN2, hnn, HB⟩
                case measure => simp [intOf]; omega
              | false =>
                have HN2 : Hid (nn + 1 = szK E k + newC (E.take k) e (j + 1) + 1) := hid0 (by rw [HNc.out, HBg.out, if_neg (by rw [hb]; simp), HN.out]; omega)
                have hn2 : nn + 1 ≤ 70000 := by have h1 := HN2.out; have h2 := HSb.out; have h3 := HNl.out (j + 1); omega
                clear hb
                go_wp2
                go_roundw
                case rel => exact ⟨j + 1, mm + 1, nn + 1, hje, hid0 (by omega), by omega, by go_num, by go_num, HN2, hn2, HB⟩
                case measure => simp [intOf]; omega
        · have hmI : ¬ (mm : Int) ≤ (e.length : Int) := by have := HM.out; omega
          obtain ⟨bE, oE, haE, a1, c1, hc1, hia⟩ := HRw.out wr HB.out
          have HN2 : Hid (nn = szK E (i + 1) + 1) := hid0 (by rw [HSz.out, HN.out, show j = e.length by omega])
          subst haE
          clear hia
          go_wp2
          go_roundw
          case rel => exact ⟨i + 1, nn, hlt, by go_num, rfl, HN2, hnn, HB⟩
          case measure => simp [intOf]; omega
    · have hiI : ¬ (i : Int) < (E.length : Int) := by omega
      have hN : (nn : Int) = (szK E E.length : Int) + 1 := by have h := HN.out; rw [show i = E.length by omega] at h; omega
      have HR : Hid (Ending.returned (.int .i64 (nn : Int)) = .returned (.int .i64 ((szK E E.length : Int) + 1))) := hid0 (by rw [hN])
      clear hN HN
      go_wp2
      go_ret
      exact ⟨HR.out, HB.out⟩
def bvO : Option Nat → Value
  | none => .int .i64 (-1)
  | some j => .int .i64 (j : Int)
set_option maxRecDepth 10000 in
set_option maxHeartbeats 2000000 in
theorem refLongest_any {w : World} {U : Nat} {E : List (List Int)} {aE : Option Addr} {cE : Nat} (l : List Int) (aW : Option Addr) (cW : Nat) (t : Int) (hT : RTr w U E aE cE) (hG : Good E) (hE2 : E.length ≤ 2000) (hl : IA w aW l) (hll : l.length ≤ 1000000000) (hcl : l.length ≤ cW) :
    Calls Tryd.prog 25 #[.pointer (some ⟨U, 0, none⟩), .slice aW l.length cW, .int .i64 t] w fun r w' => r = .returned (.tuple #[.int .i64 (onN E (lngO E l t)), .bool (lngO E l t).isSome]) ∧ Below w.heap.size w w' := by
  have HT := hid0 hT
  have HG := hid0 hG
  have HL := hid0 hl
  have HX : Hid (∀ V : World, Below w.heap.size w V → V.cell? ⟨U, 0, none⟩ = some (.slice aE E.length cE)) := hid0 (fun V hV => (hT.past hV).at')
  have HRS : Hid (∀ o, bstK E (fun e => stI e l t) E.length = o → onK o = onN E (lngO E l t) ∧ o.isSome = (lngO E l t).isSome) := hid0 (fun o ho => by
    rw [← ho, bst_lng hG]
    exact onK_num E _)
  obtain ⟨P, hP⟩ : ∃ P : List Int → Bool, P = fun e => stI e l t := ⟨_, rfl⟩
  rw [← hP] at HRS
  have HP : Hid (∀ e, stI e l t = P e) := hid0 (fun e => by rw [hP])
  generalize onN E (lngO E l t) = rN at *
  generalize (lngO E l t).isSome = rB at *
  clear hT hG hl hP
  go_enter Tryd.func25, Tryd.ntmps25
  go_wp2
  go_loopw [8, 9] (fun x y wr => ∃ (i : Nat) (o : Option Nat), i ≤ E.length ∧ y = .int .i64 (i : Int) ∧ x = bvO o ∧ Hid (bstK E P i = o) ∧ Hid (Below w.heap.size w wr)) (fun _ y _ => E.length - (intOf y).toNat)
  case atStart => exact ⟨0, none, Nat.zero_le _, rfl, rfl, hid0 rfl, hid0 (Below.refl _ _)⟩
  case round =>
    obtain ⟨i, o, hi, rfl, rfl, HO, HB⟩ := hrel
    have x0 := HX.out wr HB.out
    by_cases hlt : i < E.length
    · have hiI : (i : Int) < (E.length : Int) := by omega
      have hiI0 : (0 : Int) ≤ (i : Int) := by omega
      obtain ⟨bE, oE, haE, hbE, a1, c1, hc1, hia⟩ := (HT.out.row.past HB.out).at' i hlt
      subst haE
      have hel : E[i].length ≤ 32 := HG.out.len _ (List.getElem_mem hlt)
      have HNe : Hid (E[i] ≠ []) := hid0 (fun e0 => HG.out.ne (by rw [← e0]; exact List.getElem_mem hlt))
      have HSt0 := hid0 (refStands_any E[i] l a1 aW c1 cW t wr hia (HL.out.past HB.out) (by omega) (by omega) hcl HNe.out)
      have HSt : Hid (Calls Tryd.prog 21 #[.slice a1 (E[i]).length c1, .slice aW l.length cW, .int .i64 t] wr fun r w' => r = .returned (.bool (P E[i])) ∧ Below wr.heap.size wr w') := hid0 (HSt0.out.mono (by
        rintro r w1 ⟨rfl, m1, rfl⟩
        exact ⟨by rw [HP.out], below_drew' (Below.refl _ _) m1⟩))
      have HK : Hid (bstK E P (i + 1) = if (P E[i] && btB E o i) = true then some i else o) := hid0 (by rw [bstK, getD_at hlt, HO.out])
      have HJ : Hid (∀ j, o = some j → j < i) := hid0 (fun j hj => bst_lt (by rw [HO.out]; exact hj))
      have HLn : Hid ((E.getD i []).length = E[i].length) := hid0 (by rw [getD_at hlt])
      clear HSt0 hia
      generalize E[i] = e at *
      cases hp : P e with
      | false =>
        rw [hp] at HSt HK
        have HK2 : Hid (bstK E P (i + 1) = o) := hid0 (by rw [HK.out, Bool.false_and]; exact if_neg (by simp))
        clear hp HK HJ
        go_upto_region 6 with (go_at_call 21; go_loud ((
          refine HSt.out.mono ?_
          rintro r w1 ⟨rfl, hb1⟩
          have HB1 : Hid (Below w.heap.size w w1) := hid0 (Below.later HB.out hb1)
          clear hb1)))
        clear x0 hc1
        go_quiet ((fail))
        go_wp2
        go_roundw
        case rel => exact ⟨i + 1, o, hlt, by go_num, rfl, HK2, hid0 (below_drewN HB1.out _)⟩
        case measure => simp [intOf]; omega
      | true =>
        rw [hp] at HSt HK
        have HC1 : Hid (∀ V : World, Below wr.heap.size wr V → V.cell? ⟨bE, oE + i, none⟩ = some (.slice a1 e.length c1)) := hid0 (fun V hV => (hV.cell (p := ⟨bE, oE + i, none⟩) hbE).trans hc1)
        cases o with
        | none =>
          have HK2 : Hid (bstK E P (i + 1) = some i) := hid0 (by rw [HK.out]; exact if_pos rfl)
          clear hp HK HJ
          unfold bvO
          go_upto_region 6 with (go_at_call 21; go_loud ((
            refine HSt.out.mono ?_
            rintro r w1 ⟨rfl, hb1⟩
            have HB1 : Hid (Below w.heap.size w w1) := hid0 (Below.later HB.out hb1)
            clear hb1)))
          clear x0 hc1
          go_quiet ((fail))
          go_wp2
          go_roundw
          case rel => exact ⟨i + 1, some i, hlt, by go_num, rfl, HK2, hid0 (below_drewN HB1.out _)⟩
          case measure => simp [intOf]; omega
        | some j =>
          have hji : j < i := HJ.out j rfl
          have hjI : (j : Int) < (E.length : Int) := by omega
          have hjI0 : (0 : Int) ≤ (j : Int) := by omega
          have hjn : ¬ (j : Int) < 0 := by omega
          obtain ⟨b2, o2, e2, hb2, a2, c2, hc2, hia2⟩ := (HT.out.row.past HB.out).at' j (by omega)
          injection e2 with e2
          injection e2 with q1 q2
          subst q1 q2
          have HC2 : Hid (∀ V : World, Below wr.heap.size wr V → V.cell? ⟨bE, oE + j, none⟩ = some (.slice a2 (E[j]'(by omega)).length c2)) := hid0 (fun V hV => (hV.cell (p := ⟨bE, oE + j, none⟩) hb2).trans hc2)
          have hej : (E[j]'(by omega)).length ≤ 32 := HG.out.len _ (List.getElem_mem (by omega))
          have HK3 : Hid (bstK E P (i + 1) = if (E[j]'(by omega)).length < e.length then some i else some j) := hid0 (by
            rw [HK.out]
            simp only [btB, Bool.true_and, decide_eq_true_eq, getD_at (show j < E.length by omega), HLn.out])
          generalize E[j]'(by omega) = ej at *
          clear hp HK HJ hia2 hc2
          unfold bvO
          by_cases hle : ej.length < e.length
          · have HK2 : Hid (bstK E P (i + 1) = some i) := hid0 (by rw [HK3.out]; exact if_pos hle)
            have g1 : (e.length : Int) > (ej.length : Int) := by omega
            have g2 : decide (ej.length < e.length) = true := decide_eq_true hle
            have g3 : decide ((ej.length : Int) < (e.length : Int)) = true := decide_eq_true (by omega)
            go_upto_region 6 with (go_at_call 21; go_loud ((
              refine HSt.out.mono ?_
              rintro r w1 ⟨rfl, hb1⟩
              have HB1 : Hid (Below w.heap.size w w1) := hid0 (Below.later HB.out hb1)
              have y1 := HC1.out w1 hb1
              have y2 := HC2.out w1 hb1
              have y0 := HX.out w1 HB1.out
              clear hb1)))
            clear x0 hc1
            go_quiet ((fail))
            go_wp2
            go_roundw
            case rel => exact ⟨i + 1, some i, hlt, by go_num, rfl, HK2, hid0 (below_drewN HB1.out _)⟩
            case measure => simp [intOf]; omega
          · have HK2 : Hid (bstK E P (i + 1) = some j) := hid0 (by rw [HK3.out]; exact if_neg hle)
            have g1 : ¬ (e.length : Int) > (ej.length : Int) := by omega
            have g2 : decide (ej.length < e.length) = false := decide_eq_false hle
            have g3 : decide ((ej.length : Int) < (e.length : Int)) = false := decide_eq_false (by omega)
            go_upto_region 6 with (go_at_call 21; go_loud ((
              refine HSt.out.mono ?_
              rintro r w1 ⟨rfl, hb1⟩
              have HB1 : Hid (Below w.heap.size w w1) := hid0 (Below.later HB.out hb1)
              have y1 := HC1.out w1 hb1
              have y2 := HC2.out w1 hb1
              have y0 := HX.out w1 HB1.out
              clear hb1)))
            clear x0 hc1
            go_quiet ((fail))
            go_wp2
            go_roundw
            case rel => exact ⟨i + 1, some j, hlt, by go_num, rfl, HK2, hid0 (below_drewN HB1.out _)⟩
            case measure => simp [intOf]; omega
    · have hiI : ¬ (i : Int) < (E.length : Int) := by omega
      obtain ⟨h1, h2⟩ := HRS.out o (by rw [← show i = E.length by omega]; exact HO.out)
      have HJ : Hid (∀ j, o = some j → j < i) := hid0 (fun j hj => bst_lt (by rw [HO.out]; exact hj))
      cases o with
      | none =>
        have HR : Hid (Ending.returned (.tuple #[.int .i64 0, .bool false]) = .returned (.tuple #[.int .i64 rN, .bool rB])) := hid0 (by rw [← h1, ← h2]; rfl)
        clear h1 h2 HJ
        unfold bvO
        go_wp2
        go_returns
        exact ⟨HR.out, HB.out⟩
      | some j =>
        have HR : Hid (Ending.returned (.tuple #[.int .i64 (j : Int), .bool true]) = .returned (.tuple #[.int .i64 rN, .bool rB])) := hid0 (by rw [← h1, ← h2]; rfl)
        have hjn : ¬ (j : Int) < 0 := by omega
        clear h1 h2 HJ
        unfold bvO
        go_wp2
        go_returns
        exact ⟨HR.out, HB.out⟩
end Go.Proofs.YtbmoeoinhlkmbaaDoor
namespace Go.Proofs.YtbmoeoinhlkmbaaDoor
open Go.RowKit Go.Shelf Go.Lib Go.Maps
set_option maxRecDepth 10000 in
set_option maxHeartbeats 4000000 in
theorem refEnding_any {w : World} {U : Nat} {E : List (List Int)} {aE : Option Addr} {cE : Nat} (l : List Int) (aW : Option Addr) (cW : Nat) (t : Int) (hT : RTr w U E aE cE) (hG : Good E) (hE2 : E.length ≤ 2000) (hl : IA w aW l) (hll : l.length ≤ 1000000000) (hcl : l.length ≤ cW) :
    Calls Tryd.prog 26 #[.pointer (some ⟨U, 0, none⟩), .slice aW l.length cW, .int .i64 t] w fun r w' => r = .returned (.tuple #[.int .i64 (onN E (endO E l t)), .bool (endO E l t).isSome]) ∧ Below w.heap.size w w' := by
  by_cases hgt : t > (l.length : Int)
  · have HR : Hid (endO E l t = none) := hid0 (by unfold endO; rw [if_pos (.inr hgt)])
    rw [HR.out]
    clear HR hT hG hl
    go_enter Tryd.func26, Tryd.ntmps26
    go_wp2
    go_returns
    exact ⟨rfl, Below.refl _ _⟩
  · by_cases hng : t < 0
    · have HR : Hid (endO E l t = none) := hid0 (by unfold endO; rw [if_pos (.inl (by omega))])
      rw [HR.out]
      clear HR hT hG hl
      go_enter Tryd.func26, Tryd.ntmps26
      go_wp2
      go_returns
      exact ⟨rfl, Below.refl _ _⟩
    · obtain ⟨n, rfl⟩ : ∃ n : Nat, t = (n : Int) := ⟨t.toNat, by omega⟩
      have hnl : n ≤ l.length := by omega
      have HT := hid0 hT
      have HG := hid0 hG
      have HL := hid0 hl
      have HX : Hid (∀ V : World, Below w.heap.size w V → V.cell? ⟨U, 0, none⟩ = some (.slice aE E.length cE)) := hid0 (fun V hV => (hT.past hV).at')
      have HRS : Hid (∀ o, bstK E (enP l (n : Int)) E.length = o → onK o = onN E (endO E l (n : Int)) ∧ o.isSome = (endO E l (n : Int)).isSome) := hid0 (fun o ho => by
        rw [← ho, bst_end hG l _ (by omega)]
        exact onK_num E _)
      obtain ⟨P, hP⟩ : ∃ P : List Int → Bool, P = enP l (n : Int) := ⟨_, rfl⟩
      rw [← hP] at HRS
      have HP : Hid (∀ e, P e = (stI e l ((n : Int) - (e.length : Int)) && decide ((n : Int) ≥ (e.length : Int)))) := hid0 (fun e => by rw [hP]; rfl)
      generalize onN E (endO E l (n : Int)) = rN at *
      generalize (endO E l (n : Int)).isSome = rB at *
      clear hT hG hl hP
      go_enter Tryd.func26, Tryd.ntmps26
      go_wp2
      go_loopw [8, 9] (fun x y wr => ∃ (i : Nat) (o : Option Nat), i ≤ E.length ∧ y = .int .i64 (i : Int) ∧ x = bvO o ∧ Hid (bstK E P i = o) ∧ Hid (Below w.heap.size w wr)) (fun _ y _ => E.length - (intOf y).toNat)
      case atStart => exact ⟨0, none, Nat.zero_le _, rfl, rfl, hid0 rfl, hid0 (Below.refl _ _)⟩
      case round =>
        obtain ⟨i, o, hi, rfl, rfl, HO, HB⟩ := hrel
        have x0 := HX.out wr HB.out
        by_cases hlt : i < E.length
        · have hiI : (i : Int) < (E.length : Int) := by omega
          have hiI0 : (0 : Int) ≤ (i : Int) := by omega
          obtain ⟨bE, oE, haE, hbE, a1, c1, hc1, hia⟩ := (HT.out.row.past HB.out).at' i hlt
          subst haE
          have hel : E[i].length ≤ 32 := HG.out.len _ (List.getElem_mem hlt)
          have HNe : Hid (E[i] ≠ []) := hid0 (fun e0 => HG.out.ne (by rw [← e0]; exact List.getElem_mem hlt))
          obtain ⟨s, hs⟩ : ∃ s : Int, (n : Int) - (E[i].length : Int) = s := ⟨_, rfl⟩
          have hws : IntKind.i64.wrap ((n : Int) - (E[i].length : Int)) = s := by rw [← hs]; simp [IntKind.wrap, IntKind.bits, IntKind.signed]; omega
          have HSt : Hid (∀ q, Calls Tryd.prog 21 #[.slice a1 (E[i]).length c1, .slice aW l.length cW, .int .i64 s] (wr.drewN q) fun r w' => r = .returned (.bool (stI E[i] l s)) ∧ ∃ m, w' = (wr.drewN q).drewN m) := hid0 (fun q => refStands_any E[i] l a1 aW c1 cW s (wr.drewN q) ⟨hia.at'⟩ ⟨(HL.out.past HB.out).at'⟩ (by omega) (by omega) hcl HNe.out)
          have HPe : Hid (P E[i] = (stI E[i] l s && decide ((n : Int) ≥ (E[i].length : Int)))) := hid0 (by rw [HP.out, hs])
          have HS0 : Hid (stI E[i] l s = true → E[i].length ≤ n) := hid0 (fun h => by have := (stI_iff.1 h).1; omega)
          have HK : Hid (bstK E P (i + 1) = if (P E[i] && btB E o i) = true then some i else o) := hid0 (by rw [bstK, getD_at hlt, HO.out])
          have HJ : Hid (∀ j, o = some j → j < i) := hid0 (fun j hj => bst_lt (by rw [HO.out]; exact hj))
          have HLn : Hid ((E.getD i []).length = E[i].length) := hid0 (by rw [getD_at hlt])
          clear hia hs
          generalize E[i] = e at *
          cases hp : stI e l s with
          | false =>
            rw [hp] at HSt HPe
            have HK2 : Hid (bstK E P (i + 1) = o) := hid0 (by rw [HK.out, HPe.out, Bool.false_and, Bool.false_and]; exact if_neg (by simp))
            clear hp HK HJ HPe HS0
            go_upto_region 7 with (fail)
            go_quiet ((go_at_call 21; exact Calls.quiet_of (HSt.out _)))
            have HBq : Hid (∀ q, Below w.heap.size w (wr.drewN q)) := hid0 (fun q => below_drewN HB.out q)
            clear x0 hc1 hws
            go_upto_region 8 with (fail)
            go_quiet ((fail))
            go_wp2
            go_roundw
            case rel => exact ⟨i + 1, o, hlt, by go_num, rfl, HK2, hid0 (HBq.out _)⟩
            case measure => simp [intOf]; omega
          | true =>
            have hen : e.length ≤ n := HS0.out hp
            have f1 : (n : Int) ≥ (e.length : Int) := by omega
            have f2 : decide (e.length ≤ n) = true := decide_eq_true hen
            have f3 : decide ((e.length : Int) ≤ (n : Int)) = true := decide_eq_true (by omega)
            rw [hp] at HSt HPe
            have HP1 : Hid (P e = true) := hid0 (by rw [HPe.out, decide_eq_true f1]; rfl)
            cases o with
            | none =>
              have HK2 : Hid (bstK E P (i + 1) = some i) := hid0 (by rw [HK.out, HP1.out]; exact if_pos rfl)
              clear hp HK HJ HPe HS0
              unfold bvO
              go_upto_region 7 with (fail)
              go_quiet ((go_at_call 21; exact Calls.quiet_of (HSt.out _)))
              have HBq : Hid (∀ q, Below w.heap.size w (wr.drewN q)) := hid0 (fun q => below_drewN HB.out q)
              clear x0 hc1 hws
              go_upto_region 8 with (fail)
              go_quiet ((fail))
              go_wp2
              go_roundw
              case rel => exact ⟨i + 1, some i, hlt, by go_num, rfl, HK2, hid0 (HBq.out _)⟩
              case measure => simp [intOf]; omega
            | some j =>
              have hji : j < i := HJ.out j rfl
              have hjI : (j : Int) < (E.length : Int) := by omega
              have hjI0 : (0 : Int) ≤ (j : Int) := by omega
              have hjn : ¬ (j : Int) < 0 := by omega
              obtain ⟨b2, o2, e2, hb2, a2, c2, hc2, hia2⟩ := (HT.out.row.past HB.out).at' j (by omega)
              injection e2 with e2
              injection e2 with q1 q2
              subst q1 q2
              have hej : (E[j]'(by omega)).length ≤ 32 := HG.out.len _ (List.getElem_mem (by omega))
              have HK3 : Hid (bstK E P (i + 1) = if (E[j]'(by omega)).length < e.length then some i else some j) := hid0 (by
                rw [HK.out, HP1.out]
                simp only [btB, Bool.true_and, decide_eq_true_eq, getD_at (show j < E.length by omega), HLn.out])
              generalize E[j]'(by omega) = ej at *
              clear hp HK HJ hia2 HPe HS0
              unfold bvO
              by_cases hle : ej.length < e.length
              · have HK2 : Hid (bstK E P (i + 1) = some i) := hid0 (by rw [HK3.out]; exact if_pos hle)
                have g1 : (e.length : Int) > (ej.length : Int) := by omega
                have g2 : decide (ej.length < e.length) = true := decide_eq_true hle
                have g3 : decide ((ej.length : Int) < (e.length : Int)) = true := decide_eq_true (by omega)
                go_upto_region 7 with (fail)
                go_quiet ((go_at_call 21; exact Calls.quiet_of (HSt.out _)))
                have HBq : Hid (∀ q, Below w.heap.size w (wr.drewN q)) := hid0 (fun q => below_drewN HB.out q)
                clear hws
                go_upto_region 8 with (fail)
                go_quiet ((fail))
                go_wp2
                go_roundw
                case rel => exact ⟨i + 1, some i, hlt, by go_num, rfl, HK2, hid0 (HBq.out _)⟩
                case measure => simp [intOf]; omega
              · have HK2 : Hid (bstK E P (i + 1) = some j) := hid0 (by rw [HK3.out]; exact if_neg hle)
                have g1 : ¬ (e.length : Int) > (ej.length : Int) := by omega
                have g2 : decide (ej.length < e.length) = false := decide_eq_false hle
                have g3 : decide ((ej.length : Int) < (e.length : Int)) = false := decide_eq_false (by omega)
                go_upto_region 7 with (fail)
                go_quiet ((go_at_call 21; exact Calls.quiet_of (HSt.out _)))
                have HBq : Hid (∀ q, Below w.heap.size w (wr.drewN q)) := hid0 (fun q => below_drewN HB.out q)
                clear hws
                go_upto_region 8 with (fail)
                go_quiet ((fail))
                go_wp2
                go_roundw
                case rel => exact ⟨i + 1, some j, hlt, by go_num, rfl, HK2, hid0 (HBq.out _)⟩
                case measure => simp [intOf]; omega
        · have hiI : ¬ (i : Int) < (E.length : Int) := by omega
          obtain ⟨h1, h2⟩ := HRS.out o (by rw [← show i = E.length by omega]; exact HO.out)
          cases o with
          | none =>
            have HR : Hid (Ending.returned (.tuple #[.int .i64 0, .bool false]) = .returned (.tuple #[.int .i64 rN, .bool rB])) := hid0 (by rw [← h1, ← h2]; rfl)
            clear h1 h2
            unfold bvO
            go_wp2
            go_returns
            exact ⟨HR.out, HB.out⟩
          | some j =>
            have HR : Hid (Ending.returned (.tuple #[.int .i64 (j : Int), .bool true]) = .returned (.tuple #[.int .i64 rN, .bool rB])) := hid0 (by rw [← h1, ← h2]; rfl)
            have hjn : ¬ (j : Int) < 0 := by omega
            clear h1 h2
            unfold bvO
            go_wp2
            go_returns
            exact ⟨HR.out, HB.out⟩
end Go.Proofs.YtbmoeoinhlkmbaaDoor
namespace Go.Proofs.YtbmoeoinhlkmbaaDoor
open Go.RowKit Go.Shelf Go.Lib Go.Maps
set_option maxRecDepth 10000 in
set_option maxHeartbeats 1600000 in
theorem asked_any {w : World} {lo hi T U : Nat} {E : List (List Int)} {bk : List Int → Nat} {mp : List Int → Option Nat} {aE : Option Addr} {cE : Nat} (l : List Int) (aW : Option Addr) (cW : Nat) (t : Int) (hT : TrieAt w lo hi T E bk mp) (hR : RTr w U E aE cE) (hG : Good E) (hE2 : E.length ≤ 2000) (hl : IA w aW l) (hI : ∀ c ∈ l, inI c) (hll : l.length ≤ 100000000) (hcl : l.length ≤ cW) (ht : inI t) :
    Calls Tryd.prog 14 #[.pointer (some ⟨T, 0, none⟩), .pointer (some ⟨U, 0, none⟩), .slice aW l.length cW, .int .i64 t] w fun r w' => r = .returned (.bool true) ∧ Below w.heap.size w w' := by
  have HRl := hid0 (fun (V : World) (hV : Below w.heap.size w V) => refLongest_any l aW cW t (hR.past hV) hG hE2 (hl.past hV) (by omega) hcl)
  have HRe := hid0 (fun (V : World) (hV : Below w.heap.size w V) => refEnding_any l aW cW t (hR.past hV) hG hE2 (hl.past hV) (by omega) hcl)
  have HRa := hid0 (fun (V : World) (hV : Below w.heap.size w V) => refAll_any l aW cW (hR.past hV) hG hE2 (hl.past hV) (by omega) hcl)
  have HRs := hid0 (fun (V : World) (hV : Below w.heap.size w V) => refSize_any (hR.past hV) hG hE2)
  have HTl := hid0 (fun (V : World) (hV : Below w.heap.size w V) => longest_any l aW cW t (Tr.past hT hV) (hl.past hV) hI (by omega) hcl ht)
  have HTe := hid0 (fun (V : World) (hV : Below w.heap.size w V) => ending_any l aW cW t (Tr.past hT hV) hG (hl.past hV) hI (by omega) hcl ht)
  have HTa := hid0 (fun (V : World) (hV : Below w.heap.size w V) => all_any l aW cW (Tr.past hT hV) hG (hl.past hV) hI (by omega) (Nat.le_trans hT.hs hV.size) (by omega))
  have HTs := hid0 (fun (V : World) (hV : Below w.heap.size w V) => size_any (Tr.past hT hV) (by have := szK_le hG.len E.length; omega))
  have HLn := hid0 (allK_len hG.len l l.length)
  clear hT hR hG hl hI ht
  generalize onN E (lngO E l t) = r1 at *
  generalize (lngO E l t).isSome = q1 at *
  generalize onN E (endO E l t) = r2 at *
  generalize (endO E l t).isSome = q2 at *
  generalize allK E l l.length = LA at *
  generalize ((szK E E.length : Int) + 1) = r3 at *
  have e1 : (r1 == r1) = true := by simp
  have e2 : (r2 == r2) = true := by simp
  have e3 : (r3 == r3) = true := by simp
  have e4 : (q1 == q1) = true := by simp
  have e5 : (q2 == q2) = true := by simp
  have HB : Hid (Below w.heap.size w w) := hid0 (Below.refl _ _)
  have hla : LA.length ≤ 3200000000 := by have := HLn.out; omega
  clear HLn
  go_enter Tryd.func14, Tryd.ntmps14
  go_upto_region 2 with (go_at_call 25; go_loud ((
    refine (HRl.out w HB.out).mono ?_
    rintro r w1 ⟨rfl, hb⟩
    have HB1 : Hid (Below w.heap.size w w1) := hid0 hb
    clear hb)))
  go_upto_region 3 with (go_at_call 26; go_loud ((
    refine (HRe.out w1 HB1.out).mono ?_
    rintro r w2 ⟨rfl, hb⟩
    have HB2 : Hid (Below w.heap.size w w2) := hid0 (Below.later HB1.out hb)
    clear hb)))
  go_upto_region 4 with (go_at_call 7; go_loud ((
    refine (HRa.out w2 HB2.out).mono ?_
    rintro r w3 ⟨v, rfl, ho, hb⟩
    obtain ⟨a3, c3, rfl, hfa⟩ := ho.fa
    have HF3 := hid0 hfa
    have HB3 : Hid (Below w.heap.size w w3) := hid0 (Below.later HB2.out hb)
    clear hb ho hfa)))
  go_upto_region 5 with (go_at_call 27; go_loud ((
    refine (HTl.out w3 HB3.out).mono ?_
    rintro r w4 ⟨rfl, hw⟩
    have hw := hw.symm
    subst hw)))
  go_upto_region 6 with (go_at_call 28; go_loud ((
    refine (HTe.out w3 HB3.out).mono ?_
    rintro r w4 ⟨rfl, hb⟩
    have HF4 := hid0 (HF3.out.past hb)
    have HB4 : Hid (Below w.heap.size w w4) := hid0 (Below.later HB3.out hb)
    clear hb)))
  go_upto_region 7 with (go_at_call 8; go_loud ((
    refine (HTa.out w4 HB4.out).mono ?_
    rintro r w5 ⟨v, rfl, ho, hb⟩
    obtain ⟨a5, c5, rfl, hfa⟩ := ho.fa
    have HF5 := hid0 hfa
    have HF6 := hid0 (HF4.out.past hb)
    have HB5 : Hid (Below w.heap.size w w5) := hid0 (Below.later HB4.out hb)
    clear hb ho hfa)))
  go_wp2_with (first
    | (go_at_call 29; go_loud ((
        refine (HTs.out w5 HB5.out).mono ?_
        rintro r w6 ⟨rfl, hw⟩
        have hw := hw.symm
        subst hw)))
    | (go_at_call 30; go_loud ((
        refine (HRs.out w5 HB5.out).mono ?_
        rintro r w6 ⟨rfl, hb⟩
        have HSf := hid0 (same_fa LA a5 a3 c5 c3 w6 (by omega) (HF5.out.past hb) (HF6.out.past hb))
        have HB6 : Hid (Below w.heap.size w w6) := hid0 (Below.later HB5.out hb)
        clear hb)))
    | (go_at_call 9; go_loud ((
        refine HSf.out.mono ?_
        rintro r w7 ⟨rfl, n7, rfl⟩)))
    | fail)
  go_ret
  exact ⟨rfl, below_drew' HB6.out _⟩
end Go.Proofs.YtbmoeoinhlkmbaaDoor
namespace Go.Proofs.YtbmoeoinhlkmbaaDoor
open Go.RowKit Go.Shelf Go.Lib Go.Maps
/-- Lists that are handed in: those without memory have no room. -/
structure RwN (w : World) (a : Option Addr) (L : List (List Int)) : Prop where
  at' : ∀ k (h : k < L.length), ∃ b off, a = some ⟨b, off, none⟩ ∧ b < w.heap.size ∧ ∃ a1 c1, w.cell? ⟨b, off + k, none⟩ = some (.slice a1 (L[k]).length c1) ∧ IA w a1 L[k] ∧ (a1 = none → c1 = 0)
theorem RwN.rwa {w : World} {a : Option Addr} {L : List (List Int)} (h : RwN w a L) : RwA w a L := ⟨fun k hk => by
  obtain ⟨b, off, e, h1, a1, c1, h2, h3, _⟩ := h.at' k hk
  exact ⟨b, off, e, h1, a1, c1, h2, h3⟩⟩
theorem RwN.past {w w' : World} {a : Option Addr} {L : List (List Int)} (h : RwN w a L) (hb : Below w.heap.size w w') : RwN w' a L := ⟨fun k hk => by
  obtain ⟨b, off, rfl, h1, a1, c1, h2, h3, h4⟩ := h.at' k hk
  exact ⟨b, off, rfl, Nat.lt_of_lt_of_le h1 hb.size, a1, c1, (hb.cell (p := ⟨b, off + k, none⟩) h1).trans h2, h3.past hb, h4⟩⟩
/-- A list that ints made: a mark behind it. -/
def LM (w : World) (lo g c : Nat) (L : List Int) : Prop := w.ownsRow lo 3 1 (.slice (some ⟨g, 0, none⟩) (L.length + 1) c) (L.length + 1) (L.map (Value.int .i64) ++ [.int .i64 (-99)])
section
variable {w w' : World} {lo g c : Nat} {L : List Int}
theorem LM.past (h : LM w lo g c L) (hb : Below w.heap.size w w') : LM w' lo g c L := own_blk h (fun k hk => hb.block k (World.ownsRow.lt h k hk).2)
theorem LM.lower (h : LM w lo g c L) {b : Nat} (hb : b ≤ lo) : LM w b g c L := owns_lower h hb
theorem LM.lt (h : LM w lo g c L) : lo ≤ g ∧ g < w.heap.size := World.ownsRow.lt h g rfl
theorem LM.frozen (h : LM w lo g c L) (k : Nat) : w.frozen? ⟨g, k, none⟩ = false := World.ownsRow.frozenAt h k
theorem LM.cap (h : LM w lo g c L) : L.length + 1 ≤ c := by
  rcases h.2 with ⟨e, _⟩ | ⟨g', cap, cur, e, _, _, h1, h2, _⟩
  · cases e
  · cases e; omega
theorem LM.ia (h : LM w lo g c L) : IA w (some ⟨g, 0, none⟩) L := ⟨fun k hk => ⟨g, 0, rfl, h.lt.2, by
  have := World.ownsRow.cellAt h k (by omega)
  rw [Nat.zero_add, this, List.getElem?_append_left (by simpa using hk)]
  simp [hk]⟩⟩
theorem LM.mark (h : LM w lo g c L) : w.cell? ⟨g, L.length, none⟩ = some (.int .i64 (-99)) := by
  rw [World.ownsRow.cellAt h L.length (by omega), List.getElem?_append_right (by simp)]; simp
theorem LM.row (h : LM w lo g c L) : ∃ cur, w.heap[g]? = some (.cells cur 3 (0, 0)) := by
  rcases h.2 with ⟨e, _⟩ | ⟨g', cap, cur, e, _, h1, _⟩
  · cases e
  · cases e; exact ⟨cur, h1⟩
end
theorem own_row {w : World} {lo n : Nat} {v : Value} {xs : List Value} {t : TypeId} (h : w.ownsRow lo t 1 v n xs) {g : Nat} (hg : v.ownBlock = some g) : ∃ cur, w.heap[g]? = some (.cells cur t (0, 0)) := by
  rcases h.2 with ⟨rfl, _⟩ | ⟨g', cap, cur, rfl, _, h1, _⟩
  · cases hg
  · injection hg with hg
    subst hg
    exact ⟨cur, h1⟩
theorem LM.unlike {w : World} {lo lo' g c n : Nat} {L : List Int} {v : Value} {xs : List Value} (h : LM w lo g c L) (hv : w.ownsRow lo' 23 1 v n xs) : v.ownBlock ≠ some g := fun e => by
  obtain ⟨c1, h1⟩ := h.row
  obtain ⟨c2, h2⟩ := own_row hv e
  rw [h1] at h2
  injection h2 with h2
  injection h2 with _ h3
  exact absurd h3 (by decide)
/-- Such lists, while they are put together. -/
structure Rst (w : World) (lo : Nat) (v : Value) (E : List (List Int)) (vs : List Value) : Prop where
  own : w.ownsRow lo 23 1 v E.length vs
  row : ∀ k (h : k < E.length), ∃ g c, vs[k]? = some (.slice (some ⟨g, 0, none⟩) (E[k]).length c) ∧ LM w lo g c E[k]
theorem Rst.nil (w : World) (lo : Nat) : Rst w lo (.slice none 0 0) [] [] := ⟨World.ownsRow_nil _ _ _ _, fun _k h => absurd h (Nat.not_lt_zero _)⟩
theorem Rst.past {w w' : World} {lo : Nat} {v : Value} {E : List (List Int)} {vs : List Value} (h : Rst w lo v E vs) (hb : Below w.heap.size w w') : Rst w' lo v E vs :=
  ⟨own_blk h.own (fun k e => hb.block k (World.ownsRow.lt h.own k e).2), fun k hk => by
    obtain ⟨g, c, h1, h2⟩ := h.row k hk
    exact ⟨g, c, h1, h2.past hb⟩⟩
theorem LM.grown {w w2 : World} {lo lo' g c n : Nat} {L : List Int} {v : Value} {xs : List Value} {o : Obj} (h : LM w lo g c L) (hv : w.ownsRow lo' 23 1 v n xs) (hg : (w.alloc o).grownBy w2 v.ownBlock) : LM w2 lo g c L :=
  own_blk h (fun k hk => by
    have hk2 := (World.ownsRow.lt h k hk).2
    obtain rfl : g = k := by simpa [Value.ownBlock] using hk
    exact (hg.block _ (by simp; omega) (fun e => h.unlike hv e.symm)).trans (Below.heap_alloc w o _ hk2))
theorem Rst.snoc {w w2 : World} {lo g c : Nat} {v v2 : Value} {E : List (List Int)} {vs : List Value} {e : List Int} {o : Obj} {n : Nat} (hn : n = E.length) (h : Rst w lo v E vs) (hx : LM w lo g c e)
    (hown : w2.ownsRow lo 23 1 v2 (n + 1) (vs ++ [.slice (some ⟨g, 0, none⟩) e.length c])) (hg : (w.alloc o).grownBy w2 v.ownBlock) :
    Rst w2 lo v2 (E ++ [e]) (vs ++ [.slice (some ⟨g, 0, none⟩) e.length c]) := by
  subst hn
  have hvs : vs.length = E.length := by have := h.own.1; omega
  refine ⟨by rw [List.length_append]; exact hown, fun k hk => ?_⟩
  by_cases hlt : k < E.length
  · obtain ⟨g1, c1, h1, h2⟩ := h.row k hlt
    rw [List.getElem_append_left hlt]
    exact ⟨g1, c1, by rw [List.getElem?_append_left (by omega)]; exact h1, h2.grown h.own hg⟩
  · have hke : k = E.length := by simp at hk; omega
    subst hke
    rw [List.getElem_append_right (Nat.le_refl _)]
    simp only [Nat.sub_self, List.getElem_cons_zero]
    exact ⟨g, c, by rw [List.getElem?_append_right (by omega)]; simp [hvs], hx.grown h.own hg⟩
/-- What rows answers. -/
structure Ful (w : World) (lo G C gm : Nat) (L : List (List Int)) : Prop where
  lt : lo ≤ G ∧ G < w.heap.size
  cap : L.length + 1 ≤ C
  row : ∀ k (h : k < L.length), ∃ g c, w.cell? ⟨G, k, none⟩ = some (.slice (some ⟨g, 0, none⟩) (L[k]).length c) ∧ LM w lo g c L[k] ∧ g ≠ G
  last : w.cell? ⟨G, L.length, none⟩ = some (.slice (some ⟨gm, 0, none⟩) 1 1)
  mark : w.cell? ⟨gm, 0, none⟩ = some (.int .i64 (-98))
  fr : ∀ k, w.frozen? ⟨G, k, none⟩ = false
theorem frozen_past' {w w' : World} (hb : Below w.heap.size w w') {b o : Nat} (h : b < w.heap.size) : w'.frozen? ⟨b, o, none⟩ = w.frozen? ⟨b, o, none⟩ := by
  unfold World.frozen?
  rw [show w'.heap[(⟨b, o, none⟩ : Addr).block]? = w.heap[(⟨b, o, none⟩ : Addr).block]? from hb.block b h]
section
variable {w w' : World} {lo G C gm : Nat} {L : List (List Int)}
theorem Ful.past (h : Ful w lo G C gm L) (hb : Below w.heap.size w w') : Ful w' lo G C gm L where
  lt := ⟨h.lt.1, Nat.lt_of_lt_of_le h.lt.2 hb.size⟩
  cap := h.cap
  row := fun k hk => by
    obtain ⟨g, c, h1, h2, h3⟩ := h.row k hk
    exact ⟨g, c, (hb.cell (p := ⟨G, k, none⟩) h.lt.2).trans h1, h2.past hb, h3⟩
  last := (hb.cell (p := ⟨G, L.length, none⟩) h.lt.2).trans h.last
  mark := (hb.cell (p := ⟨gm, 0, none⟩) (World.block_lt_of_cell? _ _ h.mark)).trans h.mark
  fr := fun k => by rw [frozen_past' hb h.lt.2]; exact h.fr k
theorem Ful.rwa (h : Ful w lo G C gm L) : RwA w (some ⟨G, 0, none⟩) L := ⟨fun k hk => by
  obtain ⟨g, c, h1, h2, _⟩ := h.row k hk
  exact ⟨G, 0, rfl, h.lt.2, _, c, by rw [Nat.zero_add]; exact h1, h2.ia⟩⟩
end
/-- One list more behind them: that is what rows answers. -/
theorem Rst.full {w w1 w2 : World} {lo G C gm n : Nat} {v : Value} {E : List (List Int)} {vs : List Value} {o : Obj} (hn : n = E.length) (h : Rst w lo v E vs) (hb : Below w.heap.size w w1) (hgm : w1.cell? ⟨gm, 0, none⟩ = some (.int .i64 (-98))) (hgl : w.heap.size ≤ gm)
    (hown : w2.ownsRow lo 23 1 (.slice (some ⟨G, 0, none⟩) (n + 1) C) (n + 1) (vs ++ [.slice (some ⟨gm, 0, none⟩) 1 1])) (hg : (w1.alloc o).grownBy w2 v.ownBlock) : Ful w2 lo G C gm E := by
  subst hn
  have h1 := h.past hb
  have hvs : vs.length = E.length := by have := h.own.1; omega
  have hgr : ∀ {g c : Nat} {L : List Int}, LM w1 lo g c L → LM w2 lo g c L := fun hx => hx.grown h1.own hg
  refine ⟨World.ownsRow.lt hown G rfl, ?_, fun k hk => ?_, ?_, ?_, fun k => World.ownsRow.frozenAt hown k⟩
  · rcases hown.2 with ⟨e, _⟩ | ⟨g', cap, cur, e, _, _, q1, _⟩
    · cases e
    · cases e; exact q1
  · obtain ⟨g, c, q1, q2⟩ := h1.row k hk
    refine ⟨g, c, ?_, hgr q2, fun e => (hgr q2).unlike hown (by rw [e]; rfl)⟩
    rw [World.ownsRow.cellAt hown k (by omega), List.getElem?_append_left (by omega)]
    exact q1
  · rw [World.ownsRow.cellAt hown E.length (by omega), List.getElem?_append_right (by omega)]
    simp [hvs]
  · have q1 : (w1.alloc o).cell? ⟨gm, 0, none⟩ = some (.int .i64 (-98)) := cell_alloc hgm o
    exact hg.cell q1 (fun e => by have := (World.ownsRow.lt h.own gm e.symm).2; omega)
/-- Lists that may be written over: those from i on still stand there. -/
structure Xw (w : World) (lo hi G : Nat) (n : Nat → Nat) (N i : Nat) : Prop where
  lt : lo ≤ G ∧ G < hi ∧ hi ≤ w.heap.size
  row : ∀ k, i ≤ k → k < N → ∃ g c, w.cell? ⟨G, k, none⟩ = some (.slice (some ⟨g, 0, none⟩) (n k) c) ∧ n k ≤ c ∧ lo ≤ g ∧ g < hi ∧ g ≠ G ∧ ∀ j, j < n k → (∃ z, w.cell? ⟨g, j, none⟩ = some (.int .i64 z)) ∧ w.frozen? ⟨g, j, none⟩ = false
  fr : ∀ k, w.frozen? ⟨G, k, none⟩ = false
theorem Ful.xw {w : World} {lo G C gm : Nat} {L : List (List Int)} (h : Ful w lo G C gm L) : Xw w lo w.heap.size G (fun k => (L.getD k []).length) L.length 0 where
  lt := ⟨h.lt.1, h.lt.2, Nat.le_refl _⟩
  row := fun k _ hk => by
    obtain ⟨g, c, h1, h2, h3⟩ := h.row k hk
    have e : (L.getD k []).length = (L[k]).length := by rw [List.getD_eq_getElem?_getD, List.getElem?_eq_getElem hk]; rfl
    refine ⟨g, c, by rw [e]; exact h1, by have := h2.cap; omega, h2.lt.1, h2.lt.2, h3, fun j hj => ⟨?_, h2.frozen j⟩⟩
    obtain ⟨b, off, e1, _, q⟩ := h2.ia.at' j (by omega)
    injection e1 with e1
    injection e1 with e2 e3
    subst e2 e3
    rw [Nat.zero_add] at q
    exact ⟨_, q⟩
  fr := h.fr
section
variable {w w' : World} {lo hi G : Nat} {n : Nat → Nat} {N i : Nat}
theorem Xw.past (h : Xw w lo hi G n N i) (hb : Below w.heap.size w w') : Xw w' lo hi G n N i where
  lt := ⟨h.lt.1, h.lt.2.1, Nat.le_trans h.lt.2.2 hb.size⟩
  row := fun k hk hN => by
    obtain ⟨g, c, h1, h2, h3, h4, h5, h6⟩ := h.row k hk hN
    have hl := h.lt
    refine ⟨g, c, (hb.cell (p := ⟨G, k, none⟩) (show G < w.heap.size by omega)).trans h1, h2, h3, h4, h5, fun j hj => ?_⟩
    obtain ⟨⟨z, q1⟩, q2⟩ := h6 j hj
    have hgl : g < w.heap.size := by omega
    exact ⟨⟨z, (hb.cell (p := ⟨g, j, none⟩) hgl).trans q1⟩, by rw [frozen_past' hb hgl]; exact q2⟩
  fr := fun k => by rw [frozen_past' hb (show G < w.heap.size by have := h.lt; omega)]; exact h.fr k
theorem Xw.setI (h : Xw w lo hi G n N i) {g j : Nat} (hg : g ≠ G) (z : Int) : Xw (w.setCell ⟨g, j, none⟩ (.int .i64 z)) lo hi G n N i where
  lt := ⟨h.lt.1, h.lt.2.1, by rw [show (w.setCell ⟨g, j, none⟩ (.int .i64 z)).heap.size = w.heap.size by simp [World.setCell]]; exact h.lt.2.2⟩
  row := fun k hk hN => by
    obtain ⟨g1, c, h1, h2, h3, h4, h5, h6⟩ := h.row k hk hN
    refine ⟨g1, c, (World.cell?_setCell_other _ _ _ _ (fun e => hg (by injection e))).trans h1, h2, h3, h4, h5, fun q hq => ?_⟩
    obtain ⟨q1, q2⟩ := h6 q hq
    exact ⟨someInt_setCell q1 _ z, by rw [World.frozen?_setCell]; exact q2⟩
  fr := fun k => by rw [World.frozen?_setCell]; exact h.fr k
theorem Xw.setN (h : Xw w lo hi G n N i) (v : Value) : Xw (w.setCell ⟨G, i, none⟩ v) lo hi G n N (i + 1) where
  lt := ⟨h.lt.1, h.lt.2.1, by rw [show (w.setCell ⟨G, i, none⟩ v).heap.size = w.heap.size by simp [World.setCell]]; exact h.lt.2.2⟩
  row := fun k hk hN => by
    obtain ⟨g1, c, h1, h2, h3, h4, h5, h6⟩ := h.row k (by omega) hN
    refine ⟨g1, c, (World.cell?_setCell_other _ _ _ _ (fun e => by injection e; omega)).trans h1, h2, h3, h4, h5, fun q hq => ?_⟩
    obtain ⟨⟨z, q1⟩, q2⟩ := h6 q hq
    exact ⟨⟨z, (World.cell?_setCell_other _ _ _ _ (fun e => h5 (by injection e with e; exact e.symm))).trans q1⟩, by rw [World.frozen?_setCell]; exact q2⟩
  fr := fun k => by rw [World.frozen?_setCell]; exact h.fr k
theorem chooseL {α : Type} {n : Nat} (d : α) {P : Nat → α → Prop} (h : ∀ j, j < n → ∃ z, P j z) : ∃ l : List α, l.length = n ∧ ∀ j (hj : j < l.length), P j l[j] := by
  have h2 : ∀ j, ∃ z, j < n → P j z := fun j => by
    by_cases hj : j < n
    · obtain ⟨z, hz⟩ := h j hj; exact ⟨z, fun _ => hz⟩
    · exact ⟨d, fun q => absurd q hj⟩
  obtain ⟨f, hf⟩ := Classical.axiomOfChoice h2
  refine ⟨(List.range n).map f, by simp, fun j hj => ?_⟩
  have : j < n := by simpa using hj
  simpa using hf j this
/-- What stands in them now. -/
theorem Xw.read (h : Xw w lo hi G n N 0) : ∃ L : List (List Int), L.length = N ∧ RwA w (some ⟨G, 0, none⟩) L ∧ ∀ k (hk : k < L.length), L[k].length = n k := by
  have hl := h.lt
  obtain ⟨L, h1, h2⟩ := chooseL (n := N) ([] : List Int) (P := fun k r => r.length = n k ∧ ∃ g c, w.cell? ⟨G, k, none⟩ = some (.slice (some ⟨g, 0, none⟩) (n k) c) ∧ IA w (some ⟨g, 0, none⟩) r) (fun k hk => by
    obtain ⟨g, c, q1, q2, q3, q4, q5, q6⟩ := h.row k (Nat.zero_le _) hk
    obtain ⟨r, r1, r2⟩ := chooseL (n := n k) (0 : Int) (P := fun j z => w.cell? ⟨g, j, none⟩ = some (.int .i64 z)) (fun j hj => (q6 j hj).1)
    exact ⟨r, r1, g, c, q1, ⟨fun j hj => ⟨g, 0, rfl, by omega, by rw [Nat.zero_add]; exact r2 j hj⟩⟩⟩)
  refine ⟨L, h1, ⟨fun k hk => ?_⟩, fun k hk => (h2 k hk).1⟩
  obtain ⟨q1, g, c, q2, q3⟩ := h2 k hk
  exact ⟨G, 0, rfl, by omega, _, c, by rw [Nat.zero_add, q1]; exact q2, q3⟩
end
end Go.Proofs.YtbmoeoinhlkmbaaDoor
namespace Go.Proofs.YtbmoeoinhlkmbaaDoor
open Go.RowKit Go.Shelf Go.Lib Go.Maps
set_option maxRecDepth 10000 in
set_option maxHeartbeats 800000 in
theorem ints15_any (L : List Int) (a : Option Addr) (ca : Nat) (w : World) (hl : L.length ≤ 1000000000) (ha : IA w a L) (hnil : a = none → ca = 0) :
    Calls Tryd.prog 15 #[.slice a L.length ca] w fun r w' => ∃ g c, r = .returned (.slice (some ⟨g, 0, none⟩) (L.length + 1) c) ∧ LM w' w.heap.size g c L ∧ Below w.heap.size w w' := by
  obtain ⟨i0, hi, hz0, hz1, hz2⟩ := info_parts infoInt
  have HA := hid0 ha
  have HN := hid0 hnil
  clear ha hnil
  go_enter Tryd.func15, Tryd.ntmps15
  go_wp2_with (first
    | (have hq := HO1.out; at_builtin; go_loud ((
        refine wpList_append_own_at _ rfl _ _ 23 rfl w.heap.size 3 i0 (.int .i64 0) 1 8 Tryd.underlying23 hi hz0 hz1 hz2 rfl (by decide) _ L.length (L.map (Value.int .i64)) rfl (World.ownsRow.alloc hq _) ⟨w1.heap.size, 0, none⟩ 1 1 [.int .i64 (-99)] rfl rfl (cell_one_new _ _ _) (by simp [Value.oneCell']) (by unfold maxLen; omega) (by omega) (by simp; omega) ?_
        intro v2 w2 hown2 hgrow2 _ hat2
        obtain ⟨g, c, rfl, _⟩ := own_form hown2 (by omega)
        have HX : Hid (LM w2 w.heap.size g c L) := hid0 hown2
        have HB2 : Hid (Below w.heap.size w w2) := hid0 ((HB1.out.alloc (by omega) _).grown hgrow2 (by simp; omega) (fun q hq' => (World.ownsRow.lt hq q hq').1))
        clear hown2 hgrow2 hat2 hq)))
    | (at_builtin; go_loud ((
        refine wpList_spreadI rfl _ _ rfl a L ca w.heap.size rfl rfl HN.out HA.out (by omega) (Nat.le_refl _) ?_
        intro v1 w1 hown1 hgrow1
        have HO1 : Hid (w1.ownsRow w.heap.size 3 1 v1 L.length (L.map (Value.int .i64))) := hid0 hown1
        have hb1 := (Below.refl w.heap.size w).grown hgrow1 (Nat.le_refl _) (fun k hk => by cases hk)
        have hs1 := hb1.size
        have HB1 := hid0 hb1
        clear hown1 hgrow1 hb1)))
    | fail)
  go_ret
  exact ⟨g, c, rfl, HX.out, HB2.out⟩
set_option maxRecDepth 10000 in
set_option maxHeartbeats 1600000 in
theorem rows15_any (L : List (List Int)) (a : Option Addr) (ca : Nat) (w : World) (hl : L.length ≤ 1000000000) (hr : ∀ r ∈ L, r.length ≤ 1000000000) (ha : RwN w a L) :
    Calls Tryd.prog 11 #[.slice a L.length ca] w fun r w' => ∃ G C, r = .returned (.slice (some ⟨G, 0, none⟩) (L.length + 1) C) ∧ (∃ gm, Ful w' w.heap.size G C gm L) ∧ Below w.heap.size w w' := by
  obtain ⟨i0, hi, hz0, hz1, hz2⟩ := info_parts infoInts
  have HA := hid0 ha
  have HR := hid0 hr
  clear ha hr
  go_enter Tryd.func11, Tryd.ntmps11
  go_wp2
  go_loopw [3, 4] (fun v i wr => ∃ (k : Nat) (vs : List Value), k ≤ L.length ∧ i = .int .i64 (k : Int) ∧ Hid (Rst wr w.heap.size v (L.take k) vs) ∧ Hid (Below w.heap.size w wr)) (fun _ i _ => L.length - (intOf i).toNat)
  case atStart => exact ⟨0, [], Nat.zero_le _, rfl, hid0 (Rst.nil _ _), hid0 (Below.refl _ _)⟩
  case round =>
    obtain ⟨k, vs, hk, rfl, HP, HB⟩ := hrel
    have hbs := HB.out.size
    have HLe : Hid ((L.take k).length = k) := hid0 (by rw [List.length_take]; omega)
    have HOO : Hid (wr.ownsRow w.heap.size 23 1 u3 k vs) := hid0 (by have h := HP.out.own; rw [HLe.out] at h; exact h)
    by_cases hlt : k < L.length
    · obtain ⟨b, off, rfl, hbl, a1, c1, d1, i1, n1⟩ := (HA.out.past HB.out).at' k hlt
      have hkI : (k : Int) < (L.length : Int) := by omega
      have hkI0 : (0 : Int) ≤ (k : Int) := by omega
      have HTK : Hid (L.take (k + 1) = L.take k ++ [L[k]]) := hid0 (by rw [List.take_add_one, List.getElem?_eq_getElem hlt]; rfl)
      have hsl := HR.out _ (List.getElem_mem hlt)
      have HLI := hid0 (ints15_any L[k] a1 c1 wr hsl i1 n1)
      clear i1 n1
      generalize L[k] = s at *
      have hs0 : (0 : Int) ≤ (s.length : Int) := by omega
      go_wp2_with (first
        | (go_at_call 15; go_loud ((
            refine HLI.out.mono ?_
            rintro e w1 ⟨g, c, rfl, hx, hb1⟩
            have hs1 := hb1.size
            have hcap := hx.cap
            have hcI : (s.length : Int) ≤ (c : Int) := by omega
            have HX := hid0 (hx.lower hbs)
            have HB1 := hid0 hb1
            have HP1 := hid0 (HP.out.past hb1)
            have HO1 : Hid (w1.ownsRow w.heap.size 23 1 u3 k vs) := hid0 (own_blk HOO.out (fun q hq => hb1.block q (World.ownsRow.lt HOO.out q hq).2))
            clear hx hb1)))
        | (at_builtin; go_loud ((
            refine wpList_append_own_at _ rfl _ _ 22 rfl w.heap.size 23 i0 (.slice none 0 0) 1 24 Tryd.underlying22 hi hz0 hz1 hz2 rfl (by decide) _ k vs rfl (World.ownsRow.alloc HO1.out _) ⟨w1.heap.size, 0, none⟩ 1 1 [.slice (some ⟨g, 0, none⟩) s.length c] rfl rfl (cell_one_new _ _ _) (by simp [Value.oneCell']) (by unfold maxLen; omega) (by omega) (by simp; omega) ?_
            intro v2 w2 hown2 hgrow2 _ hat2
            have HP2 := hid0 (Rst.snoc HLe.out.symm HP1.out HX.out hown2 hgrow2)
            have HB2 : Hid (Below w.heap.size w w2) := hid0 (((Below.later HB.out HB1.out).alloc (by omega) _).grown hgrow2 (by simp; omega) (fun q hq' => (World.ownsRow.lt HO1.out q hq').1))
            clear hown2 hgrow2 hat2)))
        | fail)
      go_roundw
      case rel => exact ⟨k + 1, _, by omega, by go_num, by rw [HTK.out]; exact HP2, HB2⟩
      case measure => simp [intOf]; omega
    · have hkI : ¬ (k : Int) < (L.length : Int) := by omega
      have hkn : k = L.length := by omega
      have HP3 : Hid (Rst wr w.heap.size u3 L vs) := hid0 (by have h := HP.out; rw [List.take_of_length_le (by omega)] at h; exact h)
      subst hkn
      obtain ⟨w1, hw1⟩ : ∃ w1, w1 = wr.alloc (.cells #[.int .i64 (-98)] 3) := ⟨_, rfl⟩
      have hb1 : Below wr.heap.size wr w1 := by rw [hw1]; exact (Below.refl _ _).alloc (Nat.le_refl _) _
      have hr1 : w1.heap[wr.heap.size]? = some (.cells #[.int .i64 (-98)] 3 (0, 0)) := by rw [hw1]; exact heap_alloc_new wr _
      have HS1 : Hid (w1.heap.size = wr.heap.size + 1) := hid0 (by rw [hw1]; simp)
      have HB1 := hid0 hb1
      have HR1 := hid0 hr1
      have hfold := hw1.symm
      have HO1 : Hid (w1.ownsRow w.heap.size 23 1 u3 L.length vs) := hid0 (own_blk HOO.out (fun q hq => hb1.block q (World.ownsRow.lt HOO.out q hq).2))
      clear hw1 hb1 hr1 HP HLe
      go_wp2_with (at_builtin; go_loud ((
        refine wpList_append_own_at _ rfl _ _ 22 rfl w.heap.size 23 i0 (.slice none 0 0) 1 24 Tryd.underlying22 hi hz0 hz1 hz2 rfl (by decide) _ L.length vs rfl (World.ownsRow.alloc HO1.out _) ⟨w1.heap.size, 0, none⟩ 1 1 [.slice (some ⟨wr.heap.size, 0, none⟩) 1 1] rfl rfl (cell_one_new _ _ _) (by simp [Value.oneCell']) (by unfold maxLen; omega) (by omega) (by have := HS1.out; simp; omega) ?_
        intro v2 w2 hown2 hgrow2 _ hat2
        obtain ⟨g, c, rfl, _⟩ := own_form hown2 (by omega)
        have HF : Hid (Ful w2 w.heap.size g c wr.heap.size L) := hid0 (Rst.full rfl HP3.out HB1.out (by rw [cell_of_row _ _ _ _ _ _ HR1.out]; rfl) (Nat.le_refl _) hown2 hgrow2)
        have HB2 : Hid (Below w.heap.size w w2) := hid0 (((Below.later HB.out HB1.out).alloc (by have := HS1.out; omega) _).grown hgrow2 (by have := HS1.out; simp; omega) (fun q hq' => (World.ownsRow.lt HO1.out q hq').1))
        clear hown2 hgrow2 hat2)))
      go_ret
      exact ⟨g, c, rfl, ⟨wr.heap.size, HF.out⟩, HB2.out⟩
set_option maxRecDepth 10000 in
set_option maxHeartbeats 1600000 in
theorem kept15_any {w : World} {lo G C gm : Nat} (L : List (List Int)) (a : Option Addr) (ca : Nat) (hF : Ful w lo G C gm L) (ha : RwA w a L) (hl : L.length ≤ 1000000000) (hr : ∀ r ∈ L, r.length ≤ 1000000000) :
    Calls Tryd.prog 13 #[.slice (some ⟨G, 0, none⟩) (L.length + 1) C, .slice a L.length ca] w fun r w' => r = .returned (.bool true) ∧ Below w.heap.size w w' := by
  have HF := hid0 hF
  have HA := hid0 ha
  have HR := hid0 hr
  have y1 := hF.last
  have y2 := hF.mark
  clear ha hF hr
  obtain ⟨N, hN⟩ : ∃ N, N = L.length + 1 := ⟨_, rfl⟩
  have hNI : (L.length : Int) + 1 = (N : Int) := by omega
  have hNb : (L.length : Int) < (N : Int) := by omega
  have hN0 : (0 : Int) ≤ (L.length : Int) := by omega
  rw [← hN]
  clear hN
  go_enter Tryd.func13, Tryd.ntmps13
  go_wp2
  clear y1 y2
  go_loopw [6] (fun i wr => ∃ k : Nat, k ≤ L.length ∧ i = .int .i64 (k : Int) ∧ Hid (Below w.heap.size w wr)) (fun i _ => L.length - (intOf i).toNat)
  case atStart => exact ⟨0, Nat.zero_le _, rfl, hid0 (Below.refl _ _)⟩
  case round =>
    obtain ⟨k, hk, rfl, HB⟩ := hrel
    by_cases hlt : k < L.length
    · have hkI : (k : Int) < (L.length : Int) := by omega
      have hkI0 : (0 : Int) ≤ (k : Int) := by omega
      have hkN : (k : Int) < (N : Int) := by omega
      obtain ⟨b, off, e0, hbl, a1, c1, d1, i1⟩ := (HA.out.past HB.out).at' k hlt
      subst e0
      obtain ⟨g, c, q1, q2, _⟩ := (HF.out.past HB.out).row k hlt
      have hcap := q2.cap
      have q3 := q2.mark
      have hel := HR.out _ (List.getElem_mem hlt)
      have HSa : Hid (∀ q, Calls Tryd.prog 16 #[.slice (some ⟨g, 0, none⟩) (L[k]).length c, .slice a1 (L[k]).length c1] (wr.drewN q) fun r w' => r = .returned (.bool true) ∧ ∃ m, w' = (wr.drewN q).drewN m) := hid0 (fun q => by
        have h := sameInts_any L[k] L[k] (some ⟨g, 0, none⟩) a1 c c1 (wr.drewN q) (by omega) ⟨q2.ia.at'⟩ ⟨i1.at'⟩
        rw [decide_eq_true rfl] at h
        exact h)
      generalize L[k] = s at *
      obtain ⟨s1, hs1⟩ : ∃ s1, s1 = s.length + 1 := ⟨_, rfl⟩
      have hsI : (s.length : Int) + 1 = (s1 : Int) := by omega
      have hsc : (s1 : Int) ≤ (c : Int) := by omega
      have hsl : (s.length : Int) < (s1 : Int) := by omega
      have hsc2 : (s.length : Int) ≤ (c : Int) := by omega
      have hs0 : (0 : Int) ≤ (s.length : Int) := by omega
      have hs00 : (0 : Int) ≤ (s1 : Int) := by omega
      clear q2 i1 hs1 hbl
      go_wp2
      go_quiet ((go_at_call 16; exact Calls.quiet_of (HSa.out _)))
      go_wp2
      go_roundw
      case rel => exact ⟨k + 1, hlt, by go_num, hid0 (below_drewN HB.out _)⟩
      case measure => simp [intOf]; omega
    · have hkI : ¬ (k : Int) < (L.length : Int) := by omega
      go_wp2
      go_ret
      exact ⟨rfl, HB.out⟩
end Go.Proofs.YtbmoeoinhlkmbaaDoor
namespace Go.Proofs.YtbmoeoinhlkmbaaDoor
open Go.RowKit Go.Shelf Go.Lib Go.Maps
structure LkN (w : World) (L : List (List Int)) (l : List Int) (at' : Int) (aE aW : Option Addr) (cW : Nat) : Prop where
  e : RwN w aE L
  w' : IA w aW l
  cap : l.length ≤ cW
  wn : aW = none → cW = 0
  el : ∀ r ∈ L, r.length ≤ 1000000000
  ln : L.length ≤ 1000000000
  ll : l.length ≤ 100000000
  li : ∀ c ∈ l, inI c
  ai : inI at'
theorem chkN_num {e : List Int} {k : Nat} (h : chkN e = some k) : k = 0 ∨ k = 2 := by
  unfold chkN at h
  split at h
  · injection h with h; omega
  · split at h
    · injection h with h; omega
    · cases h
theorem nwK_num : ∀ (L dn : List (List Int)) {k : Nat}, nwK dn L = some k → k = 0 ∨ k = 2 ∨ k = 4
  | [], _, _, h => by cases h
  | e :: r, dn, k, h => by
    rw [nwK] at h
    cases hc : chkN e with
    | some j =>
      rw [hc] at h
      simp only at h
      injection h with h
      have := chkN_num hc
      omega
    | none =>
      rw [hc] at h
      simp only at h
      split at h
      · injection h with h; omega
      · exact nwK_num r _ h
theorem newE_num {L : List (List Int)} {k : Nat} (h : newE L = some k) : k < 11 ∧ refNo k = (k : Int) + 1 := by
  have hk : k = 0 ∨ k = 2 ∨ k = 4 := by
    unfold newE at h
    split at h
    · injection h with h; omega
    · exact nwK_num _ _ h
  rcases hk with rfl | rfl | rfl <;> exact ⟨by omega, rfl⟩
/-- What the two News answer, in one form each. -/
def PN (w' : World) (M : List (List Int)) (pv : Value) (hv : Int) : Prop := (∃ k : Nat, newE M = some k ∧ pv = .pointer none ∧ hv = (k : Int) + 1) ∨ (newE M = none ∧ hv = 0 ∧ ∃ U a c, pv = .pointer (some ⟨U, 0, none⟩) ∧ RTr w' U M a c)
def ON (w' : World) (M : List (List Int)) (A : Nat → Addr) (ov gv : Value) : Prop := (∃ k, newE M = some k ∧ ov = .pointer none ∧ gv = .iface 70 (.pointer (some (A k)))) ∨ (newE M = none ∧ Good M ∧ gv = .nilIface ∧ ∃ T lo hi bk mp, ov = .pointer (some ⟨T, 0, none⟩) ∧ TrieAt w' lo hi T M bk mp)
/-- A word that may be written over. -/
structure Wd (w : World) (g m : Nat) : Prop where
  lt : g < w.heap.size
  at' : ∀ j, j < m → (∃ z, inI z ∧ w.cell? ⟨g, j, none⟩ = some (.int .i64 z)) ∧ w.frozen? ⟨g, j, none⟩ = false
theorem Wd.set {w : World} {g m : Nat} (h : Wd w g m) {k : Nat} (hk : k < m) {z : Int} (hz : inI z) : Wd (w.setCell ⟨g, k, none⟩ (.int .i64 z)) g m where
  lt := by rw [show (w.setCell ⟨g, k, none⟩ (.int .i64 z)).heap.size = w.heap.size by simp [World.setCell]]; exact h.lt
  at' := fun j hj => by
    obtain ⟨⟨y, h1, h2⟩, h3⟩ := h.at' j hj
    refine ⟨?_, by rw [World.frozen?_setCell]; exact h3⟩
    by_cases e : j = k
    · subst e
      exact ⟨z, hz, World.cell?_setCell_same _ _ _ h2⟩
    · exact ⟨y, h1, (World.cell?_setCell_other _ _ _ _ (fun e1 => e (by injection e1 with _ e2; exact e2.symm))).trans h2⟩
theorem Wd.read {w : World} {g m : Nat} (h : Wd w g m) : ∃ l : List Int, l.length = m ∧ IA w (some ⟨g, 0, none⟩) l ∧ ∀ c ∈ l, inI c := by
  obtain ⟨l, h1, h2⟩ := chooseL (n := m) (0 : Int) (P := fun j z => inI z ∧ w.cell? ⟨g, j, none⟩ = some (.int .i64 z)) (fun j hj => (h.at' j hj).1)
  refine ⟨l, h1, ⟨fun j hj => ⟨g, 0, rfl, h.lt, by rw [Nat.zero_add]; exact (h2 j hj).2⟩⟩, fun c hc => ?_⟩
  obtain ⟨k, hk, rfl⟩ := List.getElem_of_mem hc
  exact (h2 k hk).1
theorem LM.wd {w : World} {lo g c : Nat} {L : List Int} (h : LM w lo g c L) (hI : ∀ c ∈ L, inI c) : Wd w g L.length := ⟨h.lt.2, fun j hj => ⟨by
  obtain ⟨b, off, e1, _, q⟩ := h.ia.at' j hj
  injection e1 with e1
  injection e1 with e2 e3
  subst e2 e3
  rw [Nat.zero_add] at q
  exact ⟨_, hI _ (List.getElem_mem hj), q⟩, h.frozen j⟩⟩
/-- Where the law is: what it was handed is as it was, and so is what was made behind the lists. -/
structure Cx (w0 w2 wf V : World) : Prop where
  b : Below w0.heap.size w0 V
  a : Agree w2 V wf.heap.size
theorem Cx.past {w0 w2 wf V V' : World} (h : Cx w0 w2 wf V) (hb : Below V.heap.size V V') : Cx w0 w2 wf V' := ⟨Below.later h.b hb, h.a.below hb⟩
theorem Cx.set {w0 w2 wf V : World} (h : Cx w0 w2 wf V) {g j : Nat} (u : Value) (h1 : w0.heap.size ≤ g) (h2 : g < wf.heap.size ∨ w2.heap.size ≤ g) : Cx w0 w2 wf (V.setCell ⟨g, j, none⟩ u) :=
  ⟨h.b.trans ((Only.setCell V g j u).below (B := w0.heap.size) h.b.size (fun i hi => by omega)), h.a.only (Only.setCell V g j u) (fun k hk => by omega)⟩
theorem Cx.drewN {w0 w2 wf V : World} (h : Cx w0 w2 wf V) (q : Nat) : Cx w0 w2 wf (V.drewN q) := h.past (below_drew' (Below.refl _ _) q)
set_option maxRecDepth 10000 in
set_option maxHeartbeats 4000000 in
theorem trieAnswers_any (A : Nat → Addr) (L : List (List Int)) (l : List Int) (at' : Int) (aE aW : Option Addr) (cE cW : Nat) (w : World) (h : LkN w L l at' aE aW cW) (hs : Sents w A) :
    Calls Tryd.prog 4 #[.agg #[.slice aE L.length cE, .slice aW l.length cW, .int .i64 at']] w fun e w' => e = .returned (.bool true) ∧ Below w.heap.size w w' := by
  obtain ⟨w0, hw0, hb0, h0⟩ : ∃ w0, w.alloc (.cells #[.slice aE L.length cE, .slice aW l.length cW, .int .i64 at'] 25) = w0 ∧ Below w.heap.size w w0 ∧ w0.heap[w.heap.size]? = some (.cells #[.slice aE L.length cE, .slice aW l.length cW, .int .i64 at'] 25 (0, 0)) := ⟨_, rfl, (Below.refl _ _).alloc (Nat.le_refl _) _, heap_alloc_new _ _⟩
  have hz0 : w0.heap.size = w.heap.size + 1 := by rw [← hw0]; simp
  have HC : Hid (∀ V : World, Below w0.heap.size w0 V → V.cell? ⟨w.heap.size, 0, none⟩ = some (.slice aE L.length cE) ∧ V.cell? ⟨w.heap.size, 1, none⟩ = some (.slice aW l.length cW) ∧ V.cell? ⟨w.heap.size, 2, none⟩ = some (.int .i64 at')) := hid0 (fun V hV => by
    have hr := (hV.block w.heap.size (by omega)).trans h0
    exact ⟨by rw [cell_of_row _ _ _ _ _ _ hr]; rfl, by rw [cell_of_row _ _ _ _ _ _ hr]; rfl, by rw [cell_of_row _ _ _ _ _ _ hr]; rfl⟩)
  have HIn : Hid (∀ V : World, Below w0.heap.size w0 V → RwN V aE L ∧ IA V aW l ∧ Sents V A ∧ Below w.heap.size w V) := hid0 (fun V hV => by
    have hq := hb0.trans (hV.mono (by omega))
    exact ⟨h.e.past hq, h.w'.past hq, hs.below hq, hq⟩)
  have HH := hid0 h
  have hpn := @run_eql_pointer_nil Tryd.prog
  have hll := h.ll
  have hln := h.ln
  have hcap := h.cap
  have HRo := hid0 (rows15_any L aE cE w0 h.ln h.el (HIn.out w0 (Below.refl _ _)).1)
  have HNwR : Hid (∀ V : World, Sents V A → ∀ (M : List (List Int)) (a : Option Addr) (c : Nat), RwA V a M → (∀ e ∈ M, e.length ≤ 1000000000) → Calls Tryd.prog 5 #[.slice a M.length c] V fun r w' => RNewR V M r w') := hid0 (fun V _ M a c ha hm => refNew_any M a c V ha hm)
  have HNwT : Hid (∀ V : World, Sents V A → ∀ (M : List (List Int)) (a : Option Addr) (c : Nat), RwA V a M → (∀ e ∈ M, e.length ≤ 1000000000) → Calls Tryd.prog 6 #[.slice a M.length c] V fun r w' => NewR V M A r w') := hid0 (fun V hS M a c ha hm => new_any A M a c V ha hS.se3 (fun e he => by have := hm e he; omega))
  obtain ⟨x0, x1, x2⟩ := HC.out w0 (Below.refl _ _)
  clear h hs hb0 h0 hz0
  go_enter Tryd.func4, Tryd.ntmps4
  obtain ⟨N, hN⟩ : ∃ N, N = L.length + 1 := ⟨_, rfl⟩
  have HN := hid0 hN
  have HRo2 : Hid (Calls Tryd.prog 11 #[.slice aE L.length cE] w0 fun r w' => ∃ G C, r = .returned (.slice (some ⟨G, 0, none⟩) N C) ∧ (∃ gm, Ful w' w0.heap.size G C gm L) ∧ Below w0.heap.size w0 w') := hid0 (by rw [hN]; exact HRo.out)
  have hNL : L.length ≤ N := by omega
  clear hN HRo
  go_upto_region 2 with (go_at_call 11; go_loud ((
    refine HRo2.out.mono ?_
    rintro r wf ⟨G, C, rfl, ⟨gm, hf⟩, hb⟩
    have HFu := hid0 hf
    have hC := hf.cap
    have HBf := hid0 hb
    clear hf hb HRo2)))
  clear x0 x1 x2 hw0
  obtain ⟨x0, x1, x2⟩ := HC.out wf HBf.out
  have HNr := hid0 (HNwR.out wf (HIn.out wf HBf.out).2.2.1 L aE cE (HIn.out wf HBf.out).1.rwa HH.out.el)
  have HKe : Hid (∀ V : World, Below wf.heap.size wf V → Calls Tryd.prog 13 #[.slice (some ⟨G, 0, none⟩) N C, .slice aE L.length cE] V fun r w' => r = .returned (.bool true) ∧ Below V.heap.size V w') := hid0 (fun V hV => by
    rw [HN.out]
    exact kept15_any L aE cE (HFu.out.past hV) (HIn.out V (Below.later HBf.out hV)).1.rwa (by omega) HH.out.el)
  cases hne : newE L with
  | some j =>
    have HE := hid0 hne
    obtain ⟨hj11, hjr⟩ := newE_num hne
    have HJ := hid0 hjr
    clear hne hjr
    go_upto_region 4 with (go_at_call 5; go_loud ((
      refine HNr.out.mono ?_
      rintro r w1 ⟨hb, hr⟩
      obtain rfl : r = .returned (.tuple #[.pointer none, .int .i64 ((j : Int) + 1)]) := by
        rcases hr with ⟨k, hk, h2⟩ | ⟨hk, _⟩
        · rw [HE.out] at hk; injection hk with hk; rw [hk]; exact h2
        · rw [HE.out] at hk; cases hk
      have HB1 := hid0 hb
      clear hb hr HNr)))
    clear x0 x1 x2
    have HB1' := hid0 (Below.later HBf.out HB1.out)
    have HNt := hid0 (HNwT.out w1 (HIn.out w1 HB1'.out).2.2.1 L (some ⟨G, 0, none⟩) C (HFu.out.past HB1.out).rwa HH.out.el)
    have hCI : (L.length : Int) ≤ (C : Int) := by omega
    have hL0 : (0 : Int) ≤ (L.length : Int) := by omega
    go_upto_region 5 with (go_at_call 6; go_loud ((
      refine HNt.out.mono ?_
      rintro r w2 ⟨hb, hr⟩
      obtain rfl : r = .returned (.tuple #[.pointer none, .iface 70 (.pointer (some (A j)))]) := by
        rcases hr with ⟨k, hk, h2⟩ | ⟨hk, _⟩
        · rw [HE.out] at hk; injection hk with hk; rw [hk]; exact h2
        · rw [HE.out] at hk; cases hk
      have HB2 := hid0 (Below.later HB1.out hb)
      clear hb hr HNt)))
    have HB2' := hid0 (Below.later HBf.out HB2.out)
    have HNu : Hid (Calls Tryd.prog 12 #[.iface 70 (.pointer (some (A j)))] w2 fun e w' => e = .returned (.int .i64 ((j : Int) + 1)) ∧ w' = w2) := hid0 (by rw [← HJ.out]; exact kitNum_at w2 A (HIn.out w2 HB2'.out).2.2.1 j hj11)
    obtain ⟨x0, x1, x2⟩ := HC.out w2 HB2'.out
    have hself : (((j : Int) + 1) != ((j : Int) + 1)) = false := by simp
    go_wp2_with (first
      | (go_at_call 12; go_loud ((
          refine HNu.out.mono ?_
          rintro r w3 ⟨rfl, hw⟩
          have hw := hw.symm
          subst hw)))
      | (go_at_call 13; go_loud ((
          refine (HKe.out w2 HB2.out).mono ?_
          rintro r w3 ⟨rfl, hb⟩
          have HB3 := hid0 (Below.later HB2'.out hb)
          clear hb)))
      | fail)
    go_ret
    exact ⟨rfl, (HIn.out _ HB3.out).2.2.2⟩
  | none =>
    have HE := hid0 hne
    have hL2 : L.length ≤ 2000 := by
      unfold newE at hne
      split at hne
      · cases hne
      · omega
    clear hne
    go_upto_region 4 with (go_at_call 5; go_loud ((
      refine HNr.out.mono ?_
      rintro r w1 ⟨hb, hr⟩
      obtain ⟨U, aU, cU, rfl, hRT, hRK⟩ : ∃ U a c, r = .returned (.tuple #[.pointer (some ⟨U, 0, none⟩), .int .i64 0]) ∧ RTr w1 U L a c ∧ ∀ V : World, Agree w1 V wf.heap.size → RTr V U L a c := by
        rcases hr with ⟨k, hk, h2⟩ | ⟨_, h2⟩
        · rw [HE.out] at hk; cases hk
        · exact h2
      have HB1 := hid0 hb
      have HRK := hid0 hRK
      clear hb hr HNr hRT hRK)))
    clear x0 x1 x2
    have HB1' := hid0 (Below.later HBf.out HB1.out)
    have HNt := hid0 (HNwT.out w1 (HIn.out w1 HB1'.out).2.2.1 L (some ⟨G, 0, none⟩) C (HFu.out.past HB1.out).rwa HH.out.el)
    have hCI : (L.length : Int) ≤ (C : Int) := by omega
    have hL0 : (0 : Int) ≤ (L.length : Int) := by omega
    go_upto_region 5 with (go_at_call 6; go_loud ((
      refine HNt.out.mono ?_
      rintro r w2 ⟨hb, hr⟩
      obtain ⟨hG, T, hi, bk, mp, rfl, ht⟩ : Good L ∧ ∃ T hi bk mp, r = .returned (.tuple #[.pointer (some ⟨T, 0, none⟩), .nilIface]) ∧ TrieAt w2 w1.heap.size hi T L bk mp := by
        rcases hr with ⟨k, hk, _⟩ | ⟨_, h1, h2⟩
        · rw [HE.out] at hk; cases hk
        · exact ⟨h1, h2⟩
      have HT := hid0 ht
      have HG := hid0 hG
      have HB12 := hid0 hb
      have HB2 := hid0 (Below.later HB1.out hb)
      clear hb hr HNt ht hG)))
    have HB2' := hid0 (Below.later HBf.out HB2.out)
    have HAsk : Hid (∀ V : World, Cx w0 w2 wf V → ∀ (l' : List Int) (a' : Option Addr) (c' : Nat), IA V a' l' → (∀ c ∈ l', inI c) → l'.length ≤ 100000000 → l'.length ≤ c' → Calls Tryd.prog 14 #[.pointer (some ⟨T, 0, none⟩), .pointer (some ⟨U, 0, none⟩), .slice a' l'.length c', .int .i64 at'] V fun r w' => r = .returned (.bool true) ∧ Below V.heap.size V w') := hid0 (fun V hV l' a' c' q1 q2 q3 q4 => by
      have hsz := HB1.out.size
      have hsz2 := HB12.out.size
      refine asked_any (lo := w1.heap.size) l' a' c' at' (Tr.keep HT.out hV.a.size (fun k hk1 hk2 => hV.a.block k (by omega) (Nat.lt_of_lt_of_le hk2 HT.out.hs))) (HRK.out V ⟨Nat.le_trans hsz2 hV.a.size, fun k hk1 hk2 => (hV.a.block k hk1 (by omega)).trans (HB12.out.block k hk2)⟩) HG.out hL2 q1 q2 q3 q4 HH.out.ai)
    obtain ⟨x0, x1, x2⟩ := HC.out w2 HB2'.out
    have HNu := hid0 (kitNum_nil w2)
    go_upto_region 9 with (first
      | (go_at_call 12; go_loud ((
          refine HNu.out.mono ?_
          rintro r w3 ⟨rfl, hw⟩
          have hw := hw.symm
          subst hw)))
      | (go_at_call 13; go_loud ((
          refine (HKe.out w2 HB2.out).mono ?_
          rintro r w3 ⟨rfl, hb⟩
          have HX3 : Hid (Cx w0 w2 wf w3) := hid0 (Cx.past ⟨HB2'.out, Agree.refl _ _⟩ hb)
          have HB23 := hid0 hb
          clear hb)))
      | fail)
    clear x0 x1 x2 HNu HKe
    obtain ⟨n, hn⟩ : ∃ n : Nat → Nat, n = fun k => (L.getD k []).length := ⟨_, rfl⟩
    have HXw : Hid (Xw w3 w0.heap.size wf.heap.size G n L.length 0) := hid0 (by rw [hn]; exact HFu.out.xw.past (Below.later HB2.out HB23.out))
    have HNk : Hid (∀ k, n k ≤ 32) := hid0 (fun k => by
      rw [hn]
      by_cases hk : k < L.length
      · show (L.getD k []).length ≤ 32
        rw [List.getD_eq_getElem?_getD, List.getElem?_eq_getElem hk]
        exact HG.out.len _ (List.getElem_mem hk)
      · show (L.getD k []).length ≤ 32
        rw [List.getD_eq_getElem?_getD, List.getElem?_eq_none (by omega)]
        simp)
    have HWb : Hid (w0.heap.size ≤ wf.heap.size ∧ wf.heap.size ≤ w2.heap.size) := hid0 ⟨HBf.out.size, HB2.out.size⟩
    clear hn HFu HT HG HB12 HB1 HB1' HB23 HRK HE
    go_wp2
    go_loopw [9] (fun x wr => ∃ i : Nat, i ≤ L.length ∧ x = .int .i64 (i : Int) ∧ Hid (Xw wr w0.heap.size wf.heap.size G n L.length 0) ∧ Hid (Cx w0 w2 wf wr)) (fun x _ => L.length - (intOf x).toNat)
    case atStart => exact ⟨0, Nat.zero_le _, rfl, HXw, HX3⟩
    case round =>
      clear HXw HX3
      obtain ⟨i, hi', rfl, HXw, HX⟩ := hrel
      by_cases hlt : i < L.length
      · have hiI : (i : Int) < (L.length : Int) := by omega
        have hiI0 : (0 : Int) ≤ (i : Int) := by omega
        have hiN : (i : Int) < (N : Int) := by omega
        have hni := HNk.out i
        go_wp2
        go_loopw [10] (fun x wr => ∃ k : Nat, k ≤ n i ∧ x = .int .i64 (k : Int) ∧ Hid (Xw wr w0.heap.size wf.heap.size G n L.length 0) ∧ Hid (Cx w0 w2 wf wr)) (fun x _ => n i - (intOf x).toNat)
        case atStart => exact ⟨0, Nat.zero_le _, rfl, HXw, HX⟩
        case round =>
          clear HXw HX
          obtain ⟨k, hk, rfl, HXw, HX⟩ := hrel
          obtain ⟨g, c, y0, hnc, hg1, hg2, hg3, hcs⟩ := HXw.out.row i (Nat.zero_le _) hlt
          by_cases hkn : k < n i
          · have hkI : (k : Int) < (n i : Int) := by omega
            have hkI0 : (0 : Int) ≤ (k : Int) := by omega
            obtain ⟨⟨z, y1⟩, y2⟩ := hcs k hkn
            obtain ⟨z2, hz2⟩ : ∃ z2, IntKind.i64.wrap (z + 1) = z2 := ⟨_, rfl⟩
            have HXs : Hid (∀ q, Xw ((wr.drewN q).setCell ⟨g, k, none⟩ (.int .i64 z2)) w0.heap.size wf.heap.size G n L.length 0) := hid0 (fun q => (HXw.out.past (below_drew' (Below.refl _ _) q)).setI hg3 z2)
            have HXt : Hid (∀ q, Cx w0 w2 wf ((wr.drewN q).setCell ⟨g, k, none⟩ (.int .i64 z2))) := hid0 (fun q => (HX.out.drewN q).set _ hg1 (.inl hg2))
            clear hcs hg1 hg2 hg3 hnc HXw HX
            go_wp2
            go_region
            go_wp2
            go_roundw
            case rel => exact ⟨k + 1, hkn, by go_num, hid0 (HXs.out _), hid0 (HXt.out _)⟩
            case measure => simp [intOf]; omega
          · have hkI : ¬ (k : Int) < (n i : Int) := by omega
            clear hcs
            go_wp2
            go_roundw
            case rel => exact ⟨i + 1, hlt, by go_num, HXw, HX⟩
            case measure => simp [intOf]; omega
      · have hiI : ¬ (i : Int) < (L.length : Int) := by omega
        obtain ⟨M, hM, hRM, hMl⟩ := HXw.out.read
        have HRM := hid0 hRM
        have HMe : Hid (∀ e ∈ M, e.length ≤ 1000000000) := hid0 (fun e he => by
          obtain ⟨k, hk, rfl⟩ := List.getElem_of_mem he
          have := HNk.out k
          rw [hMl k hk]
          omega)
        have HM2 : Hid (newE M = none → M.length ≤ 2000) := hid0 (fun _ => by omega)
        have HNr2 : Hid (Calls Tryd.prog 5 #[.slice (some ⟨G, 0, none⟩) L.length C] wr fun r w' => ∃ (pv : Value) (hv : Int), r = .returned (.tuple #[pv, .int .i64 hv]) ∧ Below wr.heap.size wr w' ∧ PN w' M pv hv) := hid0 (by
          have h := HNwR.out wr (HIn.out wr HX.out.b).2.2.1 M _ C hRM HMe.out
          rw [hM] at h
          refine h.mono ?_
          rintro r w' ⟨hb, hr⟩
          rcases hr with ⟨k, hk, rfl⟩ | ⟨hk, U', a', c', rfl, h3, _⟩
          · exact ⟨_, _, rfl, hb, .inl ⟨k, hk, rfl, rfl⟩⟩
          · exact ⟨_, _, rfl, hb, .inr ⟨hk, rfl, U', a', c', rfl, h3⟩⟩)
        have HNt2 : Hid (∀ V : World, Below wr.heap.size wr V → Calls Tryd.prog 6 #[.slice (some ⟨G, 0, none⟩) L.length C] V fun r w' => ∃ (ov gv : Value), r = .returned (.tuple #[ov, gv]) ∧ Below V.heap.size V w' ∧ ON w' M A ov gv) := hid0 (fun V hV => by
          have h := HNwT.out V (HIn.out V (HX.out.past hV).b).2.2.1 M _ C (hRM.past hV) HMe.out
          rw [hM] at h
          refine h.mono ?_
          rintro r w' ⟨hb, hr⟩
          rcases hr with ⟨k, hk, rfl⟩ | ⟨hk, hG, T', hi', bk', mp', rfl, h3⟩
          · exact ⟨_, _, rfl, hb, .inl ⟨k, hk, rfl, rfl⟩⟩
          · exact ⟨_, _, rfl, hb, .inr ⟨hk, hG, rfl, T', _, hi', bk', mp', rfl, h3⟩⟩)
        clear hM hRM hMl HRM HNwR HNwT
        go_upto_region 16 with (fail)
        go_upto_region 17 with (go_at_call 5; go_loud ((
          refine HNr2.out.mono ?_
          rintro r v1 ⟨pv, hv, rfl, hb, hp⟩
          have HV1 := hid0 hb
          have HP1 := hid0 hp
          clear hb hp HNr2)))
        go_upto_region 18 with (go_at_call 6; go_loud ((
          refine (HNt2.out v1 HV1.out).mono ?_
          rintro r v2 ⟨ov, gv, rfl, hb, hp⟩
          have HV12 := hid0 hb
          have HV2 := hid0 (Below.later HV1.out hb)
          have HO2 := hid0 hp
          clear hb hp HNt2)))
        have HXv := hid0 (HX.out.past HV2.out)
        have HXx := hid0 (HXw.out.past HV2.out)
        clear HX HXw
        go_cut [125] from 101 (fun c wx => c = .bool false ∧ Hid (Cx w0 w2 wf wx) ∧ Hid (Xw wx w0.heap.size wf.heap.size G n L.length 0))
        case first =>
          obtain ⟨x0, x1, x2⟩ := HC.out v2 HXv.out.b
          rcases HP1.out with ⟨k, hk, rfl, rfl⟩ | ⟨hk, rfl, U', a', c', rfl, hrt⟩
          · obtain ⟨hk11, hkr⟩ := newE_num hk
            obtain ⟨rfl, rfl⟩ : ov = .pointer none ∧ gv = .iface 70 (.pointer (some (A k))) := by
              rcases HO2.out with ⟨k', hk', h1, h2⟩ | ⟨hk', _⟩
              · rw [hk] at hk'
                injection hk' with hk'
                subst hk'
                exact ⟨h1, h2⟩
              · rw [hk] at hk'; cases hk'
            have HNu : Hid (Calls Tryd.prog 12 #[.iface 70 (.pointer (some (A k)))] v2 fun e w' => e = .returned (.int .i64 ((k : Int) + 1)) ∧ w' = v2) := hid0 (by rw [← hkr]; exact kitNum_at v2 A (HIn.out v2 HXv.out.b).2.2.1 k hk11)
            have hself : (((k : Int) + 1) != ((k : Int) + 1)) = false := by simp
            clear hk hkr hk11
            go_wp2_with (go_at_call 12; go_loud ((
              refine HNu.out.mono ?_
              rintro r w3 ⟨rfl, hw⟩
              have hw := hw.symm
              subst hw)))
            go_meet
            case rel => exact ⟨rfl, HXv, HXx⟩
          · obtain ⟨hG, rfl, T', lo', hi', bk', mp', rfl, htr⟩ : Good M ∧ gv = .nilIface ∧ ∃ T lo hi bk mp, ov = .pointer (some ⟨T, 0, none⟩) ∧ TrieAt v2 lo hi T M bk mp := by
              rcases HO2.out with ⟨k', hk', h1, h2⟩ | ⟨_, h1, h2, h3⟩
              · rw [hk] at hk'; cases hk'
              · exact ⟨h1, h2, h3⟩
            have HAs := hid0 (asked_any l aW cW at' htr (hrt.past HV12.out) hG (HM2.out hk) (HIn.out v2 HXv.out.b).2.1 HH.out.li hll hcap HH.out.ai)
            have HNu := hid0 (kitNum_nil v2)
            clear hk htr hrt hG
            go_wp2_with (first
              | (go_at_call 12; go_loud ((
                  refine HNu.out.mono ?_
                  rintro r w3 ⟨rfl, hw⟩
                  have hw := hw.symm
                  subst hw)))
              | (go_at_call 14; go_loud ((
                  refine HAs.out.mono ?_
                  rintro r w3 ⟨rfl, hb⟩
                  have HX3 := hid0 (HXv.out.past hb)
                  have HX4 := hid0 (HXx.out.past hb)
                  clear hb)))
              | fail)
            go_meet
            case rel => exact ⟨rfl, HX3, HX4⟩
        case rest =>
        obtain ⟨rfl, HX, HXw⟩ := hcut
        clear HXv HXx HP1 HO2 HV1 HV2 HV12 HMe HM2
        go_wp2
        go_loopw [15] (fun x wr => ∃ i : Nat, i ≤ L.length ∧ x = .int .i64 (i : Int) ∧ Hid (Xw wr w0.heap.size wf.heap.size G n L.length i) ∧ Hid (Cx w0 w2 wf wr)) (fun x _ => L.length - (intOf x).toNat)
        case atStart => exact ⟨0, Nat.zero_le _, rfl, HXw, HX⟩
        case round =>
          clear HXw HX
          obtain ⟨i, hi', rfl, HXw, HX⟩ := hrel
          by_cases hlt : i < L.length
          · have hiI : (i : Int) < (L.length : Int) := by omega
            have hiI0 : (0 : Int) ≤ (i : Int) := by omega
            have hiN : (i : Int) < (N : Int) := by omega
            have hni := HNk.out i
            go_wp2
            go_loopw [16] (fun x wr => ∃ k : Nat, k ≤ n i ∧ x = .int .i64 (k : Int) ∧ Hid (Xw wr w0.heap.size wf.heap.size G n L.length i) ∧ Hid (Cx w0 w2 wf wr)) (fun x _ => n i - (intOf x).toNat)
            case atStart => exact ⟨0, Nat.zero_le _, rfl, HXw, HX⟩
            case round =>
              clear HXw HX
              obtain ⟨k, hk, rfl, HXw, HX⟩ := hrel
              obtain ⟨g, c, y0, hnc, hg1, hg2, hg3, hcs⟩ := HXw.out.row i (Nat.le_refl _) hlt
              by_cases hkn : k < n i
              · have hkI : (k : Int) < (n i : Int) := by omega
                have hkI0 : (0 : Int) ≤ (k : Int) := by omega
                obtain ⟨⟨z, y1⟩, y2⟩ := hcs k hkn
                have HXs : Hid (Xw (wr.setCell ⟨g, k, none⟩ (.int .i64 9)) w0.heap.size wf.heap.size G n L.length i) := hid0 (HXw.out.setI hg3 9)
                have HXt : Hid (Cx w0 w2 wf (wr.setCell ⟨g, k, none⟩ (.int .i64 9))) := hid0 (HX.out.set _ hg1 (.inl hg2))
                clear hcs hg1 hg2 hg3 hnc HXw HX
                go_wp2
                go_roundw
                case rel => exact ⟨k + 1, hkn, by go_num, HXs, HXt⟩
                case measure => simp [intOf]; omega
              · have hkI : ¬ (k : Int) < (n i : Int) := by omega
                have y3 := HXw.out.fr i
                have HXs : Hid (Xw (wr.setCell ⟨G, i, none⟩ (.slice none 0 0)) w0.heap.size wf.heap.size G n L.length (i + 1)) := hid0 (HXw.out.setN _)
                have HXt : Hid (Cx w0 w2 wf (wr.setCell ⟨G, i, none⟩ (.slice none 0 0))) := hid0 (HX.out.set _ HXw.out.lt.1 (.inl HXw.out.lt.2.1))
                clear hcs hg1 hg2 hg3 hnc HXw HX
                go_wp2
                go_roundw
                case rel => exact ⟨i + 1, hlt, by go_num, HXs, HXt⟩
                case measure => simp [intOf]; omega
          · have hiI : ¬ (i : Int) < (L.length : Int) := by omega
            obtain ⟨x0, x1, x2⟩ := HC.out wr HX.out.b
            obtain ⟨N2, hN2⟩ : ∃ N2, N2 = l.length + 1 := ⟨_, rfl⟩
            have HNi : Hid (Calls Tryd.prog 15 #[.slice aW l.length cW] wr fun r w' => ∃ g c, r = .returned (.slice (some ⟨g, 0, none⟩) N2 c) ∧ LM w' wr.heap.size g c l ∧ Below wr.heap.size wr w') := hid0 (by rw [hN2]; exact ints15_any l aW cW wr (by omega) (HIn.out wr HX.out.b).2.1 HH.out.wn)
            have hlN : (l.length : Int) < (N2 : Int) := by omega
            clear hN2 HXw
            go_upto_region 28 with (fail)
            go_upto_region 29 with (go_at_call 15; go_loud ((
              refine HNi.out.mono ?_
              rintro r wv ⟨gw, cw, rfl, hlm, hb⟩
              have HLm := hid0 hlm
              have hcw := hlm.cap
              have HXv := hid0 (HX.out.past hb)
              have HGw : Hid (w0.heap.size ≤ gw ∧ w2.heap.size ≤ gw) := hid0 ⟨Nat.le_trans HX.out.b.size hlm.lt.1, Nat.le_trans HX.out.a.size hlm.lt.1⟩
              clear hb hlm HNi)))
            clear x0 x1 x2
            obtain ⟨x0, x1, x2⟩ := HC.out wv HXv.out.b
            go_upto_region 30 with (fail)
            clear x0 x1 x2
            have hcwI : (l.length : Int) ≤ (cw : Int) := by omega
            have hl00 : (0 : Int) ≤ (l.length : Int) := by omega
            have HSo : Hid (∀ W : World, Below wv.heap.size wv W → W.cell? ⟨w.heap.size, 1, none⟩ = some (.slice aW l.length cW) ∧ W.cell? ⟨w.heap.size, 2, none⟩ = some (.int .i64 at') ∧ W.cell? ⟨gw, l.length, none⟩ = some (.int .i64 (-99)) ∧ Below wv.heap.size wv W) := hid0 (fun W hW => by
              obtain ⟨_, q1, q2⟩ := HC.out W (HXv.out.past hW).b
              exact ⟨q1, q2, (HLm.out.past hW).mark, hW⟩)
            have HA1 : Hid (∀ W : World, Below wv.heap.size wv W → Calls Tryd.prog 14 #[.pointer (some ⟨T, 0, none⟩), .pointer (some ⟨U, 0, none⟩), .slice (some ⟨gw, 0, none⟩) l.length cw, .int .i64 at'] W fun r w' => r = .returned (.bool true) ∧ Below wv.heap.size wv w') := hid0 (fun W hW => (HAsk.out W (HXv.out.past hW) l _ cw (HLm.out.past hW).ia HH.out.li hll (by omega)).mono (by
              rintro r w' ⟨rfl, hb⟩
              exact ⟨rfl, Below.later hW hb⟩))
            have HS1 : Hid (∀ W : World, Below wv.heap.size wv W → Calls Tryd.prog 16 #[.slice (some ⟨gw, 0, none⟩) l.length cw, .slice aW l.length cW] W fun r w' => r = .returned (.bool true) ∧ Below wv.heap.size wv w') := hid0 (fun W hW => by
              have h := sameInts_any l l (some ⟨gw, 0, none⟩) aW cw cW W (by omega) (HLm.out.past hW).ia (HIn.out W (HXv.out.past hW).b).2.1
              rw [decide_eq_true rfl] at h
              refine h.mono ?_
              rintro r w' ⟨rfl, m1, rfl⟩
              exact ⟨rfl, below_drew' hW m1⟩)
            go_cut [179] from 155 (fun c wx => c = .bool false ∧ Hid (Below wv.heap.size wv wx))
            case first =>
              obtain ⟨x1, x2, x3, _⟩ := HSo.out wv (Below.refl _ _)
              go_region_held3 (fun W => W.cell? ⟨w.heap.size, 1, none⟩ = some (.slice aW l.length cW) ∧ W.cell? ⟨w.heap.size, 2, none⟩ = some (.int .i64 at') ∧ W.cell? ⟨gw, l.length, none⟩ = some (.int .i64 (-99)) ∧ Below wv.heap.size wv W) (first | exact HSo.out _ (by go_grown) | (go_split_ands; exact HSo.out _ (by go_grown)) | (go_split_ands; exact HSo.out _ (by assumption)))
                (first
                  | (go_at_call 14; go_split_ands; refine (HA1.out _ (by go_grown)).mono ?_; rintro e wx ⟨rfl, hx⟩)
                  | (go_at_call 16; go_split_ands; refine (HS1.out _ (by go_grown)).mono ?_; rintro e wy ⟨rfl, hy⟩))
              all_goals
                go_wp2_with fail
                go_meet
                case rel => go_split_ands; exact ⟨rfl, hid0 (by assumption)⟩
            case rest =>
            obtain ⟨rfl, HBc⟩ := hcut
            have HWd : Hid (Wd wc gw l.length) := hid0 ((HLm.out.past HBc.out).wd HH.out.li)
            have HXc := hid0 (HXv.out.past HBc.out)
            clear HSo HA1 HS1 HLm HXv HX HBc
            go_wp2
            go_loopw [19] (fun x wr => ∃ k : Nat, k ≤ l.length ∧ x = .int .i64 (k : Int) ∧ Hid (Wd wr gw l.length) ∧ Hid (Cx w0 w2 wf wr)) (fun x _ => l.length - (intOf x).toNat)
            case atStart => exact ⟨0, Nat.zero_le _, rfl, HWd, HXc⟩
            case round =>
              clear HWd HXc
              obtain ⟨k, hk, rfl, HWd, HX⟩ := hrel
              by_cases hkl : k < l.length
              · have hkI : (k : Int) < (l.length : Int) := by omega
                have hkI0 : (0 : Int) ≤ (k : Int) := by omega
                have hkN : (k : Int) < (N2 : Int) := by omega
                obtain ⟨q, hq⟩ : ∃ q : Nat, (l.length : Int) - 1 - (k : Int) = (q : Int) := ⟨l.length - 1 - k, by omega⟩
                have hql : q < l.length := by omega
                have hqI0 : (0 : Int) ≤ (q : Int) := by omega
                have hqN : (q : Int) < (N2 : Int) := by omega
                have hw1 : IntKind.i64.wrap ((l.length : Int) - 1) = (l.length : Int) - 1 := by simp [IntKind.wrap, IntKind.bits, IntKind.signed]; omega
                have hw2 : IntKind.i64.wrap ((l.length : Int) - 1 - (k : Int)) = (q : Int) := by rw [hq]; simp [IntKind.wrap, IntKind.bits, IntKind.signed]; omega
                obtain ⟨⟨z, hz, y1⟩, _⟩ := HWd.out.at' q hql
                obtain ⟨⟨z', _, y2⟩, y3⟩ := HWd.out.at' k hkl
                have HWs : Hid (Wd (wr.setCell ⟨gw, k, none⟩ (.int .i64 z)) gw l.length) := hid0 (HWd.out.set hkl hz)
                have HXs : Hid (Cx w0 w2 wf (wr.setCell ⟨gw, k, none⟩ (.int .i64 z))) := hid0 (HX.out.set _ HGw.out.1 (.inr HGw.out.2))
                clear hz HWd HX
                go_wp2
                go_roundw
                case rel => exact ⟨k + 1, hkl, by go_num, HWs, HXs⟩
                case measure => simp [intOf]; omega
              · have hkI : ¬ (k : Int) < (l.length : Int) := by omega
                obtain ⟨l2, hl2, hil, hin⟩ := HWd.out.read
                have HSo : Hid (∀ W : World, Below wr.heap.size wr W → W.cell? ⟨w.heap.size, 2, none⟩ = some (.int .i64 at') ∧ Below wr.heap.size wr W) := hid0 (fun W hW => ⟨(HC.out W (HX.out.past hW).b).2.2, hW⟩)
                have HA1 : Hid (∀ W : World, Below wr.heap.size wr W → Calls Tryd.prog 14 #[.pointer (some ⟨T, 0, none⟩), .pointer (some ⟨U, 0, none⟩), .slice (some ⟨gw, 0, none⟩) l.length cw, .int .i64 at'] W fun r w' => r = .returned (.bool true) ∧ Below wr.heap.size wr w') := hid0 (fun W hW => by
                  have h := HAsk.out W (HX.out.past hW) l2 _ cw (hil.past hW) hin (by omega) (by omega)
                  rw [hl2] at h
                  refine h.mono ?_
                  rintro r w' ⟨rfl, hb⟩
                  exact ⟨rfl, Below.later hW hb⟩)
                have HEnd : Hid (∀ W : World, Below wr.heap.size wr W → Below w.heap.size w W) := hid0 (fun W hW => (HIn.out W (HX.out.past hW).b).2.2.2)
                obtain ⟨x2, _⟩ := HSo.out wr (Below.refl _ _)
                clear hl2 hil hin
                go_wp2
                go_region_held3 (fun W => W.cell? ⟨w.heap.size, 2, none⟩ = some (.int .i64 at') ∧ Below wr.heap.size wr W) (first | exact HSo.out _ (by go_grown) | (go_split_ands; exact HSo.out _ (by go_grown)) | (go_split_ands; exact HSo.out _ (by assumption)))
                  (first
                    | (go_at_call 14; go_split_ands; refine (HA1.out _ (by go_grown)).mono ?_; rintro e wx ⟨rfl, hx⟩))
                all_goals
                  go_wp2
                  go_ret
                  go_split_ands
                  exact ⟨rfl, HEnd.out _ (by assumption)⟩
end Go.Proofs.YtbmoeoinhlkmbaaDoor
