/-
  TrIW, TrJW, TrKW, TrLW, TrMW, TrOW, RdM, ExTk, TrPM, TrPW, TrQW, TrRM, TrSM, TrUM.
-/
import Derived.Test.YtekimkdaoblcgaaDoorMfa
import Derived.Deep.Cut
import Derived.RangeFuncNested
import Derived.RangeFuncBound
import Derived.RangeFuncCalls
import Derived.RangeFuncLeaves
import Derived.RangeFuncBox
import Derived.OwnWalkIn
import Derived.TacticsInMore
import Derived.LoopNIn
import Derived.LoopIn
import Derived.Sort.LoopGhostIn
import Derived.Test.YtekimkdaoblcgaaDoorProg
import Derived.WalkKit
import Derived.Deep.RegionHeld3
namespace Go.Proofs.YtekimkdaoblcgaaDoor
open Go.RowKit Go.Shelf Go.Lib Go.Maps
set_option maxRecDepth 10000 in
set_option maxHeartbeats 1600000 in
theorem new_any (A : Nat → Addr) (L : List (List Int)) (a : Option Addr) (ca : Nat) (w : World) (ha : RwA w a L) (hs : Se3 w A) (hl : ∀ e ∈ L, e.length ≤ 1125899906842624) :
    Calls Tryd.prog 24 #[.slice a L.length ca] w fun r w' => NewR w L A r w' := by
  by_cases h2 : (L.length : Int) > 2000
  · have s2 := hs.c2
    have HR : Hid (∀ n, NewR w L A (.returned (.tuple #[.pointer none, .iface 129 (.pointer (some (A 2)))])) (w.drewN n)) := hid0 (fun n => ⟨⟨rfl, rfl, rfl, Nat.le_refl _, fun _ _ => rfl⟩, .inl ⟨2, by unfold newE; rw [if_pos (by omega)], rfl⟩⟩)
    clear ha hs hl
    go_enter Tryd.func24, Tryd.ntmps24
    go_upto_region 2 with (fail)
    go_quiet (fail)
    go_wp2
    go_returns
    exact HR.out _
  · have HA := hid0 ha
    have HS := hid0 hs
    have HL := hid0 hl
    have hL2 : L.length ≤ 2000 := by omega
    have HB0 := hid0 (bt_new w)
    have HNE : Hid (nwK [] L = newE L) := hid0 (by unfold newE; rw [if_neg (by omega)])
    clear ha hs hl
    go_enter Tryd.func24, Tryd.ntmps24
    go_wp2
    go_loopw [17] (fun i wr => ∃ (k hi : Nat) (bk : List Int → Nat) (mp : List Int → Option Nat), k ≤ L.length ∧ i = .int .i64 (k : Int) ∧ Hid (Bt wr w.heap.size hi w.heap.size (szK L k) (begB (L.take k)) (L.take k) bk mp) ∧ Hid (Good (L.take k)) ∧ Hid (nwK (L.take k) (L.drop k) = newE L) ∧ Hid (Below w.heap.size w wr)) (fun i _ => L.length - (intOf i).toNat)
    case atStart => exact ⟨0, _, _, _, Nat.zero_le _, rfl, HB0, hid0 good_nil, HNE, hid0 ((Below.refl _ _).alloc (Nat.le_refl _) _)⟩
    case round =>
      obtain ⟨k, hi, bk, mp, hk, rfl, HB, HG, HE, HW⟩ := hrel
      clear HB0 HNE
      by_cases hlt : k < L.length
      · obtain ⟨b, off, rfl, hbl, a1, c1, hc1, hia⟩ := (HA.out.past HW.out).at' k hlt
        have hkI : (k : Int) < (L.length : Int) := by omega
        have hkI0 : (0 : Int) ≤ (k : Int) := by omega
        have HSt := hid0 (nwK_step hlt)
        have HTk : Hid (L.take (k + 1) = L.take k ++ [L[k]]) := hid0 (by rw [List.take_add_one, List.getElem?_eq_getElem hlt]; rfl)
        have HZ := hid0 (szK_take hlt)
        have HC := hid0 (checkEntry_any A L[k] a1 c1 wr (HL.out _ (List.getElem_mem hlt)) hia (HS.out.past HW.out))
        have HI := hid0 hia
        have HN : Hid (szK L k ≤ 900000) := hid0 (by
          have h1 := szK_le HG.out.len k
          rw [szK_front L k k (Nat.le_refl _)] at h1
          omega)
        have HIw : Hid (∀ V : World, Below w.heap.size wr V → IA V a1 L[k]) := hid0 (fun V hV => by
          obtain ⟨b', off', e', _, a1', c1', hc1', hia'⟩ := (HA.out.past (HW.out.trans hV)).at' k hlt
          injection e' with e'
          injection e' with e1 e2
          subst e1 e2
          obtain ⟨b2, off2, e2, hb2, a2, c2, hc2, hia2⟩ := HA.out.at' k hlt
          injection e2 with e2
          injection e2 with e1 e2
          subst e1 e2
          have hx1 := ((HW.out.trans hV).cell (p := ⟨b, off + k, none⟩) hb2).trans hc2
          have hx2 := (HW.out.cell (p := ⟨b, off + k, none⟩) hb2).trans hc2
          rw [hc1'] at hx1
          rw [hc1] at hx2
          injection hx1 with hx1
          injection hx2 with hx2
          injection hx1 with hx1
          injection hx2 with hx2
          rw [hx2, ← hx1]
          exact hia')
        clear hia
        have HLe : Hid ((L.take k).length = k) := hid0 (by rw [List.length_take]; omega)
        generalize L[k] = e at *
        cases hq : chkN e with
        | some j =>
          rw [hq, show erO A (some j) = .iface 129 (.pointer (some (A j))) from rfl] at HC
          have HR : Hid (NewR w L A (.returned (.tuple #[.pointer none, .iface 129 (.pointer (some (A j)))])) wr) := hid0 ⟨HW.out, .inl ⟨j, by rw [← HE.out, HSt.out, hq], rfl⟩⟩
          clear hq HB HI HIw HTk HZ HN HLe HG HSt HE
          go_wp2_with (first
            | (go_at_call 38; go_loud ((
                refine HC.out.mono ?_
                rintro r w1 ⟨rfl, hw⟩
                have hw := hw.symm
                subst hw)))
            | fail)
          go_returns
          exact HR.out
        | none =>
          rw [hq, show erO A none = .nilIface from rfl] at HC
          have HAd : Hid (Calls Tryd.prog 39 #[.pointer (some ⟨w.heap.size, 0, none⟩), .int .i64 (k : Int), .slice a1 e.length c1] wr fun r w' => AddR wr w.heap.size w.heap.size (szK L k) (L.take k) e A r w') := hid0 (by
            have h := add_any (E := L.take k) A e a1 c1 HB.out HIw.out (fun V hV => HS.out.past (HW.out.trans hV)) (chkN_none hq).2.2 (chkN_none hq).2.1 HN.out
            rw [HLe.out] at h
            exact h)
          by_cases he : e ∈ L.take k
          · have HR : Hid (∀ V : World, Below w.heap.size wr V → NewR w L A (.returned (.tuple #[.pointer none, .iface 129 (.pointer (some (A 4)))])) V) := hid0 (fun V hV => ⟨HW.out.trans hV, .inl ⟨4, by rw [← HE.out, HSt.out, hq]; simp only [if_pos he], rfl⟩⟩)
            have HEe := hid0 he
            clear hq HB HI HIw HTk HZ HN HLe HG HSt HE he
            go_wp2_with (first
              | (go_at_call 38; go_loud ((
                  refine HC.out.mono ?_
                  rintro r w1 ⟨rfl, hw⟩
                  have hw := hw.symm
                  subst hw)))
              | (go_at_call 39; go_loud ((
                  refine HAd.out.mono ?_
                  rintro r w1 ⟨hb1, hr1⟩
                  have HB1 := hid0 hb1
                  have hr2 : r = .returned (.iface 129 (.pointer (some (A 4)))) := by
                    rcases hr1 with ⟨_, h⟩ | ⟨h, _⟩
                    · exact h
                    · exact absurd HEe.out h
                  subst hr2
                  clear hb1 hr1)))
              | fail)
            go_returns
            exact HR.out _ HB1.out
          · have HEe := hid0 he
            have HG2 : Hid (Good (L.take (k + 1))) := hid0 (by rw [HTk.out]; exact HG.out.snoc hq he)
            have HE2 : Hid (nwK (L.take (k + 1)) (L.drop (k + 1)) = newE L) := hid0 (by
              have h := HSt.out
              rw [hq] at h
              simp only [if_neg he] at h
              rw [← h]
              exact HE.out)
            clear hq HB HI HIw HN HLe HG HSt HE he
            go_wp2_with (first
              | (go_at_call 38; go_loud ((
                  refine HC.out.mono ?_
                  rintro r w1 ⟨rfl, hw⟩
                  have hw := hw.symm
                  subst hw)))
              | (go_at_call 39; go_loud ((
                  refine HAd.out.mono ?_
                  rintro r w1 ⟨hb1, hr1⟩
                  have HB1 := hid0 hb1
                  obtain ⟨hr2, bk2, mp2, hbt⟩ : r = .returned .nilIface ∧ ∃ bk mp, Bt w1 w.heap.size w1.heap.size w.heap.size (szK L k + newC (L.take k) e e.length) (begB (L.take k ++ [e])) (L.take k ++ [e]) bk mp := by
                    rcases hr1 with ⟨h, _⟩ | ⟨_, h⟩
                    · exact absurd h HEe.out
                    · exact h
                  have HBt := hid0 hbt
                  subst hr2
                  clear hb1 hr1 hbt)))
              | fail)
            go_roundw
            case rel => exact ⟨k + 1, _, bk2, mp2, hlt, by go_num, hid0 (by rw [HTk.out, HZ.out]; exact HBt.out), HG2, HE2, hid0 (HW.out.trans HB1.out)⟩
            case measure => simp [intOf]; omega
      · have hkI : ¬ (k : Int) < (L.length : Int) := by omega
        have hke : k = L.length := by omega
        have HG3 : Hid (Good L) := hid0 (by have h := HG.out; rw [hke, List.take_length] at h; exact h)
        have HB3 : Hid (Bt wr w.heap.size hi w.heap.size (szK L L.length) (begB L) L bk mp) := hid0 (by have h := HB.out; rw [hke, List.take_length] at h; exact h)
        have HE3 : Hid (newE L = none) := hid0 (by rw [← HE.out, hke, List.drop_length]; rfl)
        have HLk := hid0 (link_any HB3.out HG3.out.ne HG3.out.len HG3.out.inI hL2 (by have := szK_le HG3.out.len L.length; omega))
        have HLo : Hid (w.heap.size ≤ wr.heap.size) := hid0 HW.out.size
        clear hke HB HG HE
        go_wp2_with (first
          | (go_at_call 40; go_loud ((
              refine HLk.out.mono ?_
              rintro r w1 ⟨⟨v1, rfl⟩, ht1, ho1⟩
              have HT1 := hid0 ht1
              have HO1 := hid0 ho1
              clear ht1 ho1)))
          | fail)
        go_returns
        exact ⟨HW.out.trans (HO1.out.below HLo.out (fun i hi => hi.1)), .inr ⟨HE3.out, HG3.out, w.heap.size, hi, bk, mp, rfl, HT1.out⟩⟩
end Go.Proofs.YtekimkdaoblcgaaDoor
namespace Go.Proofs.YtekimkdaoblcgaaDoor
open Go.RowKit Go.Shelf Go.Lib Go.Maps
attribute [local go_sem] Oper.semAt_some
/-- What the links lead through, from a node or none on. -/
def endsO (E : List (List Int)) : Option (List Int) → List (List Int)
  | none => []
  | some q => q :: endsF E q.tail
theorem endsO_in {E : List (List Int)} (p : List Int) : endsO E (inF E p) = endsF E p.tail := by
  unfold inF
  cases h : endsF E p.tail with
  | nil => rfl
  | cons e r =>
    show e :: endsF E e.tail = e :: r
    rw [ends_cons h]
theorem inF_mem {E : List (List Int)} {p q : List Int} (h : inF E p = some q) : q ∈ E := (ends_head_mem h).1
theorem endsF_in {E : List (List Int)} (hn : [] ∉ E) (p : List Int) : endsF E p = endsO E (if p ∈ E then some p else inF E p) := by
  rw [ends_self hn]
  split
  · rfl
  · rw [endsO_in]
set_option maxRecDepth 100000 in
theorem ptrNe_some (a : Addr) (w : World) : (binOp .neq 83 (.pointer (some a)) (.pointer none)).run Tryd.prog w = .ok (.bool true) w := by
  first
    | rfl
    | kernel_rfl
    | (go_simp; done)
    | simp [go_sem]
set_option maxRecDepth 100000 in
theorem ptrNe_none (w : World) : (binOp .neq 83 (.pointer none) (.pointer none)).run Tryd.prog w = .ok (.bool false) w := by
  first
    | rfl
    | kernel_rfl
    | (go_simp; done)
    | simp [go_sem]
theorem in_less (E : List (List Int)) {q : List Int} (hq : q ≠ []) : hiO (inF E q) < hiO (some q) := by
  cases h : inF E q with
  | none => simp [hiO]
  | some r =>
    have := suffix_tail_len (ends_head_mem h).2.1 hq
    simp only [hiO]
    omega
set_option maxRecDepth 100000 in
set_option maxHeartbeats 1000000 in
theorem ending_in {lo hi T : Nat} {E : List (List Int)} {bk : List Int → Nat} {mp : List Int → Option Nat} (n : Nat) (_hn : 1 ≤ n) (l : Nat) (p : List Int) (hp : begB E p = true) (hE : [] ∉ E) (J : List (List Int) → World → Prop) (w : World)
    (hJs : ∀ pre A, J pre A → TrieAt A lo hi T E bk mp)
    (hY : ∀ pre x A, J pre A → x ∈ E → (∃ r, pre ++ x :: r = endsF E p) → YieldAt Fence.wide (n - 1) Tryd.prog l #[.pointer (some ⟨bk x, 0, none⟩)] A fun e A' => e = .returned (.bool true) ∧ J (pre ++ [x]) A')
    (h0 : J [] w) :
    CallsIn Fence.wide n Tryd.prog 76 #[.pointer (some ⟨bk p, 0, none⟩), .func (.yield l) #[] #[]] w fun e w' => (∃ v, e = .returned v) ∧ J (endsF E p) w' := by
  have HJs := hid0 hJs
  have HY := hid0 hY
  have H0 := hid0 h0
  have HP := hid0 hp
  have HE := hid0 (endsF_in hE p)
  have hT := (Tr.nd (hJs _ _ h0) p hp).cells
  have c2 := hT.2.2.1
  have c5 := hT.2.2.2.2.2
  have HNE : Hid (∀ q, q ∈ E → q ≠ []) := hid0 (fun q hq e => hE (by rw [← e]; exact hq))
  clear hJs hY h0 hp hT hE
  obtain ⟨o0, ho0⟩ : ∃ o0 : Option (List Int), o0 = if p ∈ E then some p else inF E p := ⟨_, rfl⟩
  have HO0 := hid0 ho0
  refine callsIn_of_wp Tryd.func76 rfl trivial ?_ rfl
  simp only [Tryd.ntmps76, List.size_toArray, List.length_cons, List.length_nil, Nat.reduceAdd, Nat.reduceSub, Array.replicate_succ, Array.replicate_zero, List.push_toArray, List.append_toArray, List.nil_append, List.cons_append]
  cases hw : whE E p with
  | true =>
    rw [hw] at c2
    have hpe : p ∈ E := of_decide_eq_true hw
    rw [if_pos hpe] at ho0
    have HS : Hid (ptr (o0.map bk) = .pointer (some ⟨bk p, 0, none⟩)) := hid0 (by rw [ho0]; rfl)
    have HM0 : Hid (∀ q, o0 = some q → q ∈ E) := hid0 (fun q hq => by rw [ho0] at hq; injection hq with hq; rw [← hq]; exact hpe)
    clear hw hpe ho0
    have q1 := ptrNe_some
    have q2 := ptrNe_none
    gi_wp2
    gi_loopg [0] (hiO o0) (fun k v wr => ∃ (o : Option (List Int)) (pre : List (List Int)), v = ptr (o.map bk) ∧ Hid (hiO o = k) ∧ Hid (∀ q, o = some q → q ∈ E) ∧ Hid (pre ++ endsO E o = endsF E p) ∧ Hid (J pre wr))
    case atStart => exact ⟨o0, [], HS.out.symm, hid0 rfl, HM0, hid0 (by rw [List.nil_append, HE.out, HO0.out]), H0⟩
    case round =>
      obtain ⟨o, pre, hv, HK, HM, HQ, HJ⟩ := hrel
      cases o with
      | none =>
        replace hv : u0 = .pointer none := hv
        subst hv
        have HF : Hid (J (endsF E p) wr) := hid0 (by rw [← HQ.out]; simpa [endsO] using HJ.out)
        gi_wp2
        go_end0
        exact ⟨⟨_, rfl⟩, HF.out⟩
      | some q =>
        replace hv : u0 = .pointer (some ⟨bk q, 0, none⟩) := hv
        subst hv
        have hqE := HM.out q rfl
        obtain ⟨fn, tmps, assign, body, hy, hR⟩ := HY.out pre q wr HJ.out hqE ⟨_, HQ.out⟩
        have HRd := hid0 hR
        clear hR hqE
        gi_wp2
        refine HRd.out.mono ?_
        rintro e W3 ⟨rfl, hJ3⟩
        have HJ3 := hid0 hJ3
        have d5 := (Tr.nd (HJs.out _ _ hJ3) q (begB_mem (HM.out q rfl))).cells.2.2.2.2.2
        obtain ⟨v5, hv5⟩ : ∃ v5, ptr (Option.map bk (inF E q)) = v5 := ⟨_, rfl⟩
        rw [hv5] at d5
        have HV5 := hid0 hv5
        clear hJ3 hv5 hy HRd
        gi_wp2
        go_roundg (hiO (inF E q))
        case measure => rw [← HK.out]; exact in_less E (HNE.out q (HM.out q rfl))
        case rel => exact ⟨inF E q, pre ++ [q], HV5.out.symm, hid0 rfl, hid0 (fun r hr => inF_mem hr), hid0 (by rw [endsO_in, List.append_assoc]; exact HQ.out), HJ3⟩
  | false =>
    rw [hw] at c2
    have hpe : p ∉ E := of_decide_eq_false hw
    rw [if_neg hpe] at ho0
    obtain ⟨v0, hv0⟩ : ∃ v0, ptr (Option.map bk (inF E p)) = v0 := ⟨_, rfl⟩
    rw [hv0] at c5
    have HS : Hid (ptr (o0.map bk) = v0) := hid0 (by rw [ho0, hv0])
    have HM0 : Hid (∀ q, o0 = some q → q ∈ E) := hid0 (fun q hq => by rw [ho0] at hq; exact inF_mem hq)
    clear hw hpe ho0 hv0
    have q1 := ptrNe_some
    have q2 := ptrNe_none
    gi_wp2
    gi_loopg [0] (hiO o0) (fun k v wr => ∃ (o : Option (List Int)) (pre : List (List Int)), v = ptr (o.map bk) ∧ Hid (hiO o = k) ∧ Hid (∀ q, o = some q → q ∈ E) ∧ Hid (pre ++ endsO E o = endsF E p) ∧ Hid (J pre wr))
    case atStart => exact ⟨o0, [], HS.out.symm, hid0 rfl, HM0, hid0 (by rw [List.nil_append, HE.out, HO0.out]), H0⟩
    case round =>
      obtain ⟨o, pre, hv, HK, HM, HQ, HJ⟩ := hrel
      cases o with
      | none =>
        replace hv : u0 = .pointer none := hv
        subst hv
        have HF : Hid (J (endsF E p) wr) := hid0 (by rw [← HQ.out]; simpa [endsO] using HJ.out)
        gi_wp2
        go_end0
        exact ⟨⟨_, rfl⟩, HF.out⟩
      | some q =>
        replace hv : u0 = .pointer (some ⟨bk q, 0, none⟩) := hv
        subst hv
        have hqE := HM.out q rfl
        obtain ⟨fn, tmps, assign, body, hy, hR⟩ := HY.out pre q wr HJ.out hqE ⟨_, HQ.out⟩
        have HRd := hid0 hR
        clear hR hqE
        gi_wp2
        refine HRd.out.mono ?_
        rintro e W3 ⟨rfl, hJ3⟩
        have HJ3 := hid0 hJ3
        have d5 := (Tr.nd (HJs.out _ _ hJ3) q (begB_mem (HM.out q rfl))).cells.2.2.2.2.2
        obtain ⟨v5, hv5⟩ : ∃ v5, ptr (Option.map bk (inF E q)) = v5 := ⟨_, rfl⟩
        rw [hv5] at d5
        have HV5 := hid0 hv5
        clear hJ3 hv5 hy HRd
        gi_wp2
        go_roundg (hiO (inF E q))
        case measure => rw [← HK.out]; exact in_less E (HNE.out q (HM.out q rfl))
        case rel => exact ⟨inF E q, pre ++ [q], HV5.out.symm, hid0 rfl, hid0 (fun r hr => inF_mem hr), hid0 (by rw [endsO_in, List.append_assoc]; exact HQ.out), HJ3⟩
end Go.Proofs.YtekimkdaoblcgaaDoor
namespace Go.Proofs.YtekimkdaoblcgaaDoor
open Go.RowKit Go.Shelf Go.Lib Go.Maps
attribute [local go_sem] Oper.semAt_some
theorem Only.putObj (w : World) (l : Nat) (o : Obj) (S : Nat → Prop) (hl : S l) : Only w (w.putObj l o) S :=
  ⟨rfl, rfl, rfl, by simp, fun k _ hs => World.putObj_heap_other (fun e => hs (e ▸ hl))⟩
theorem Only.ofNew {w w' : World} (h : Below w.heap.size w w') (S : Nat → Prop) : Only w w' S := Only.ofBelow h S (fun i h1 h2 => by omega)
abbrev markD (d : Nat) : Deferred := { target := .collected d, args := #[] }
theorem wpIn_rangeEnds {lo hi T : Nat} {E : List (List Int)} {bk : List Int → Nat} {mp : List Int → Option Nat} {gop : Operand} {ps : Array Tmp} {assign body : Code} {Q : Exit → Act → World → Prop} {a : Act} {w : World} (n : Nat) (hn : 2 ≤ n) (p : List Int) (hp : begB E p = true) (hE : [] ∉ E)
    (hg : a.eval gop = .func (.func 76) #[.pointer (some ⟨bk p, 0, none⟩)] #[]) (hps : ps.size = 1)
    (J : List (List Int) → World → Prop) (hJk : ∀ pre A B, J pre A → Only A B (fun k => k = w.heap.size ∨ k = w.heap.size + 1) → J pre B) (hJs : ∀ pre A, J pre A → TrieAt A lo hi T E bk mp) (h0 : J [] w) (act : List Int → Act)
    (hassign : ∀ (l : Nat) (x : List Int) (W : World) (K : Act → World → Prop), K (act x) W → assign.wpIn (Fence.wide.inRound l) (n - 1 - 1) Tryd.prog (Exit.then K (fun _ _ _ => False)) { tmps := (ps.zip #[Value.pointer (some ⟨bk x, 0, none⟩)]).foldl (fun t (p, v) => t.setIfInBounds p v) a.tmps, defers := [] } W)
    (hbody : ∀ (l : Nat) (pre : List (List Int)) (x : List Int) (W : World), J pre W → x ∈ E → (∃ r, pre ++ x :: r = endsF E p) → w.heap.size + 2 ≤ W.heap.size → (W.heap[w.heap.size]? = some (.deferred (some [])) ∧ ∃ rc, W.heap[w.heap.size + 1]? = some (.loop rc)) → body.wpIn (Fence.wide.inRound l) (n - 1 - 1) Tryd.prog (fun e _ W' => e = .normal ∧ J (pre ++ [x]) W' ∧ Only W W' (fun k => k ≠ w.heap.size ∧ k ≠ w.heap.size + 1)) (act x) W)
    (hdone : ∀ W, J (endsF E p) W → W.heap[w.heap.size]? = some (.deferred (some [])) → Q .normal { a with defers := markD w.heap.size :: a.defers } W) :
    (Code.rangeFunc gop ps assign body).wpIn Fence.wide n Tryd.prog Q a w := by
  refine wpIn_rangeFunc ?_
  intro fn hfn
  obtain ⟨rec, hrec⟩ : ∃ rec : LoopState → Loop, rec = fun st => { state := st, pending := none, fn, tmps := a.tmps, params := ps, assign, body, defers := w.heap.size } := ⟨_, rfl⟩
  obtain ⟨W1, hW1⟩ : ∃ W1, (w.alloc (.deferred (some []))).alloc (.loop (rec .ready)) = W1 := ⟨_, rfl⟩
  have hs1 : W1.heap.size = w.heap.size + 2 := by rw [← hW1]; simp
  have hL1 : W1.heap[w.heap.size + 1]? = some (.loop (rec .ready)) := by
    rw [← hW1]; have := World.alloc_heap_new (w.alloc (.deferred (some []))) (.loop (rec .ready)); rwa [World.size_alloc] at this
  have hD1 : W1.heap[w.heap.size]? = some (.deferred (some [])) := by
    rw [← hW1]; exact (Below.heap_alloc _ _ _ (by simp)).trans (World.alloc_heap_new w _)
  have hb1 : Below w.heap.size w W1 := by rw [← hW1]; exact ((Below.refl _ w).alloc (Nat.le_refl _) _).alloc (by simp) _
  have hJ1 : J [] W1 := hJk _ _ _ h0 (Only.ofNew hb1 _)
  refine ⟨w.heap.size + 1, [{ target := .collected w.heap.size, args := #[] }], W1, { target := .fn (.func 76) #[], args := #[.pointer (some ⟨bk p, 0, none⟩), .func (.yield (w.heap.size + 1)) #[] #[]] }, W1, 76,
    #[.pointer (some ⟨bk p, 0, none⟩), .func (.yield (w.heap.size + 1)) #[] #[]], W1, ?_, ?_, ?_, ?_, fun _ => by omega, ?_⟩
  · rw [← hW1, hrec]; exact run_enterLoop_outer _ _ _ _ _
  · simp only [resolve, hg]
    simp [go_sem]
  · intro f' hf'; simp [Target.leads] at hf'; subst hf'; trivial
  · simp [invoke, go_sem]
  · refine (ending_in (n - 1) (by omega) (w.heap.size + 1) p hp hE
      (fun pre W => J pre W ∧ W.heap[w.heap.size + 1]? = some (.loop (rec .ready)) ∧ W.heap[w.heap.size]? = some (.deferred (some [])))
      W1 (fun pre A h => hJs pre A h.1) ?_ ⟨hJ1, hL1, hD1⟩).mono ?_
    · rintro pre x W ⟨hi, hl, hk⟩ hx hnx
      have hlt : w.heap.size + 1 < W.heap.size := (Array.getElem?_eq_some_iff.1 hl).1
      have hy := run_yield (P := Tryd.prog) (args := #[Value.pointer (some ⟨bk x, 0, none⟩)]) hl (by rw [hrec]; simp [hps])
      rw [hrec] at hy
      refine ⟨fn, _, assign, body, hy, roundIn_of_wpIn hfn (hassign _ x W _ ?_)⟩
      refine ⟨_, run_beginRound hl (by rw [hrec]), ?_⟩
      have hl2 : (W.putObj (w.heap.size + 1) (.loop { rec .ready with state := .busy })).heap[w.heap.size + 1]? = some (.loop { rec .ready with state := .busy }) := World.putObj_heap_same hlt
      have hk2 : (W.putObj (w.heap.size + 1) (.loop { rec .ready with state := .busy })).heap[w.heap.size]? = some (.deferred (some [])) := (World.putObj_heap_other (by omega)).trans hk
      refine wpIn_mono (hbody _ pre x _ (hJk _ _ _ hi (Only.putObj _ _ _ _ (.inr rfl))) hx hnx (by simp; omega) ⟨hk2, _, hl2⟩) ?_
      rintro e a3 W3 ⟨rfl, hj3, ho3⟩
      have hl3 := (ho3.block (w.heap.size + 1) (Array.getElem?_eq_some_iff.1 hl2).1 (fun q => q.2 rfl)).trans hl2
      have hk3 := (ho3.block w.heap.size (Array.getElem?_eq_some_iff.1 hk2).1 (fun q => q.1 rfl)).trans hk2
      have hr := run_endRound (P := Tryd.prog) none hl3
      rw [hrec] at hr
      refine ⟨_, _, hr, rfl, hJk _ _ _ hj3 (Only.putObj _ _ _ _ (.inr rfl)), ?_, (World.putObj_heap_other (by omega)).trans hk3⟩
      rw [hrec]
      exact World.putObj_heap_same (Array.getElem?_eq_some_iff.1 hl3).1
    · rintro e W2 ⟨⟨v, rfl⟩, hj, hl, hk⟩
      have hr := run_endLoop (P := Tryd.prog) hl (by rw [hrec]; simp)
      rw [hrec] at hr
      exact ⟨none, _, hr, hdone _ (hJk _ _ _ hj (Only.putObj _ _ _ _ (.inr rfl))) ((World.putObj_heap_other (by omega)).trans hk)⟩
set_option maxRecDepth 100000 in
set_option maxHeartbeats 1000000 in
theorem ending_first {lo hi T : Nat} {E : List (List Int)} {bk : List Int → Nat} {mp : List Int → Option Nat} (n : Nat) (_hn : 1 ≤ n) (l : Nat) (p x : List Int) (r : List (List Int)) (hp : begB E p = true) (hE : [] ∉ E) (hx : endsF E p = x :: r) (F : World → Prop) (w : World)
    (hT : TrieAt w lo hi T E bk mp) (hY : YieldAt Fence.wide (n - 1) Tryd.prog l #[.pointer (some ⟨bk x, 0, none⟩)] w fun e A' => e = .returned (.bool false) ∧ F A') :
    CallsIn Fence.wide n Tryd.prog 76 #[.pointer (some ⟨bk p, 0, none⟩), .func (.yield l) #[] #[]] w fun e w' => (∃ v, e = .returned v) ∧ F w' := by
  have HY := hid0 hY
  have hc := (Tr.nd hT p hp).cells
  have c2 := hc.2.2.1
  have c5 := hc.2.2.2.2.2
  rw [endsF_in hE p] at hx
  have q1 := ptrNe_some
  clear hT hY hc hp
  refine callsIn_of_wp Tryd.func76 rfl trivial ?_ rfl
  simp only [Tryd.ntmps76, List.size_toArray, List.length_cons, List.length_nil, Nat.reduceAdd, Nat.reduceSub, Array.replicate_succ, Array.replicate_zero, List.push_toArray, List.append_toArray, List.nil_append, List.cons_append]
  cases hw : whE E p with
  | true =>
    rw [hw] at c2
    have hpe : p ∈ E := of_decide_eq_true hw
    rw [if_pos hpe] at hx
    injection hx with hx _
    subst hx
    clear hw hpe
    gi_wp2
    gi_loopg [0] 1 (fun _ v wr => v = .pointer (some ⟨bk p, 0, none⟩) ∧ wr = w)
    case atStart => exact ⟨rfl, rfl⟩
    case round =>
      obtain ⟨rfl, rfl⟩ := hrel
      obtain ⟨fn, tmps, assign, body, hy, hR⟩ := HY.out
      have HRd := hid0 hR
      clear hR HY
      gi_wp2
      refine HRd.out.mono ?_
      rintro e W3 ⟨rfl, hF3⟩
      have HF := hid0 hF3
      clear hF3 hy HRd
      gi_wp2
      refine bodyPost_ret (results_none rfl _ _ _) rfl ?_
      exact ⟨⟨_, rfl⟩, HF.out⟩
  | false =>
    rw [hw] at c2
    have hpe : p ∉ E := of_decide_eq_false hw
    rw [if_neg hpe] at hx
    have hin : inF E p = some x := by
      cases h : inF E p with
      | none => rw [h] at hx; cases hx
      | some q =>
        rw [h] at hx
        injection hx with hx _
        rw [hx]
    rw [hin, show ptr (Option.map bk (some x)) = .pointer (some ⟨bk x, 0, none⟩) from rfl] at c5
    clear hw hpe hx hin
    gi_wp2
    gi_loopg [0] 1 (fun _ v wr => v = .pointer (some ⟨bk x, 0, none⟩) ∧ wr = w)
    case atStart => exact ⟨rfl, rfl⟩
    case round =>
      obtain ⟨rfl, rfl⟩ := hrel
      obtain ⟨fn, tmps, assign, body, hy, hR⟩ := HY.out
      have HRd := hid0 hR
      clear hR HY
      gi_wp2
      refine HRd.out.mono ?_
      rintro e W3 ⟨rfl, hF3⟩
      have HF := hid0 hF3
      clear hF3 hy HRd
      gi_wp2
      refine bodyPost_ret (results_none rfl _ _ _) rfl ?_
      exact ⟨⟨_, rfl⟩, HF.out⟩
end Go.Proofs.YtekimkdaoblcgaaDoor
namespace Go.Proofs.YtekimkdaoblcgaaDoor
open Go.RowKit Go.Shelf Go.Lib Go.Maps
attribute [local go_sem] Oper.semAt_some
theorem wpIn_rangeFirst {lo hi T : Nat} {E : List (List Int)} {bk : List Int → Nat} {mp : List Int → Option Nat} {gop : Operand} {ps : Array Tmp} {assign body : Code} {Q : Exit → Act → World → Prop} {a : Act} {w : World} (n : Nat) (hn : 2 ≤ n) (p x : List Int) (r : List (List Int)) (hx : endsF E p = x :: r) (hp : begB E p = true) (hE : [] ∉ E)
    (hg : a.eval gop = .func (.func 76) #[.pointer (some ⟨bk p, 0, none⟩)] #[]) (hps : ps.size = 1)
    (F : World → Prop) (hFk : ∀ A B, F A → Only A B (fun k => k = w.heap.size ∨ k = w.heap.size + 1) → F B) (hT : TrieAt w lo hi T E bk mp) (act : Act)
    (hassign : ∀ (l : Nat) (W : World) (K : Act → World → Prop), K act W → assign.wpIn (Fence.wide.inRound l) (n - 1 - 1) Tryd.prog (Exit.then K (fun _ _ _ => False)) { tmps := (ps.zip #[Value.pointer (some ⟨bk x, 0, none⟩)]).foldl (fun t (p, v) => t.setIfInBounds p v) a.tmps, defers := [] } W)
    (hbody : ∀ (l : Nat) (W : World), Only w W (fun k => k = w.heap.size ∨ k = w.heap.size + 1) → w.heap.size + 2 ≤ W.heap.size → body.wpIn (Fence.wide.inRound l) (n - 1 - 1) Tryd.prog (fun e _ W' => e = .ret ∧ F W' ∧ Only W W' (fun k => k ≠ w.heap.size ∧ k ≠ w.heap.size + 1)) act W)
    (hdone : ∀ W, F W → W.heap[w.heap.size]? = some (.deferred (some [])) → Q .ret { a with defers := markD w.heap.size :: a.defers } W) :
    (Code.rangeFunc gop ps assign body).wpIn Fence.wide n Tryd.prog Q a w := by
  refine wpIn_rangeFunc ?_
  intro fn hfn
  obtain ⟨rec, hrec⟩ : ∃ rec : LoopState → Loop, rec = fun st => { state := st, pending := none, fn, tmps := a.tmps, params := ps, assign, body, defers := w.heap.size } := ⟨_, rfl⟩
  obtain ⟨W1, hW1⟩ : ∃ W1, (w.alloc (.deferred (some []))).alloc (.loop (rec .ready)) = W1 := ⟨_, rfl⟩
  have hs1 : W1.heap.size = w.heap.size + 2 := by rw [← hW1]; simp
  have hL1 : W1.heap[w.heap.size + 1]? = some (.loop (rec .ready)) := by
    rw [← hW1]; have := World.alloc_heap_new (w.alloc (.deferred (some []))) (.loop (rec .ready)); rwa [World.size_alloc] at this
  have hD1 : W1.heap[w.heap.size]? = some (.deferred (some [])) := by
    rw [← hW1]; exact (Below.heap_alloc _ _ _ (by simp)).trans (World.alloc_heap_new w _)
  have hb1 : Below w.heap.size w W1 := by rw [← hW1]; exact ((Below.refl _ w).alloc (Nat.le_refl _) _).alloc (by simp) _
  have ho1 : Only w W1 (fun k => k = w.heap.size ∨ k = w.heap.size + 1) := Only.ofNew hb1 _
  refine ⟨w.heap.size + 1, [{ target := .collected w.heap.size, args := #[] }], W1, { target := .fn (.func 76) #[], args := #[.pointer (some ⟨bk p, 0, none⟩), .func (.yield (w.heap.size + 1)) #[] #[]] }, W1, 76,
    #[.pointer (some ⟨bk p, 0, none⟩), .func (.yield (w.heap.size + 1)) #[] #[]], W1, ?_, ?_, ?_, ?_, fun _ => by omega, ?_⟩
  · rw [← hW1, hrec]; exact run_enterLoop_outer _ _ _ _ _
  · simp only [resolve, hg]
    simp [go_sem]
  · intro f' hf'; simp [Target.leads] at hf'; subst hf'; trivial
  · simp [invoke, go_sem]
  · refine (ending_first (n - 1) (by omega) (w.heap.size + 1) p x r hp hE hx
      (fun W => F W ∧ (∃ rc, W.heap[w.heap.size + 1]? = some (.loop rc) ∧ rc.state = .done ∧ rc.pending = some .ret) ∧ W.heap[w.heap.size]? = some (.deferred (some [])))
      W1 (Tr.past hT hb1) ?_).mono ?_
    · have hlt : w.heap.size + 1 < W1.heap.size := by omega
      have hy := run_yield (P := Tryd.prog) (args := #[Value.pointer (some ⟨bk x, 0, none⟩)]) hL1 (by rw [hrec]; simp [hps])
      rw [hrec] at hy
      refine ⟨fn, _, assign, body, hy, roundIn_of_wpIn hfn (hassign _ W1 _ ?_)⟩
      refine ⟨_, run_beginRound hL1 (by rw [hrec]), ?_⟩
      have hl2 : (W1.putObj (w.heap.size + 1) (.loop { rec .ready with state := .busy })).heap[w.heap.size + 1]? = some (.loop { rec .ready with state := .busy }) := World.putObj_heap_same hlt
      have hk2 : (W1.putObj (w.heap.size + 1) (.loop { rec .ready with state := .busy })).heap[w.heap.size]? = some (.deferred (some [])) := (World.putObj_heap_other (by omega)).trans hD1
      refine wpIn_mono (hbody _ _ (ho1.trans (Only.putObj _ _ _ (fun k => k = w.heap.size ∨ k = w.heap.size + 1) (.inr rfl)) (fun i hi => .inl hi)) (by simp; omega)) ?_
      rintro e a3 W3 ⟨rfl, hj3, ho3⟩
      have hl3 := (ho3.block (w.heap.size + 1) (Array.getElem?_eq_some_iff.1 hl2).1 (fun q => q.2 rfl)).trans hl2
      have hk3 := (ho3.block w.heap.size (Array.getElem?_eq_some_iff.1 hk2).1 (fun q => q.1 rfl)).trans hk2
      have hr := run_endRound (P := Tryd.prog) (some .ret) hl3
      refine ⟨_, _, hr, rfl, hFk _ _ hj3 (Only.putObj _ _ _ _ (.inr rfl)), ⟨_, World.putObj_heap_same (Array.getElem?_eq_some_iff.1 hl3).1, rfl, rfl⟩, (World.putObj_heap_other (by omega)).trans hk3⟩
    · rintro e W2 ⟨⟨v, rfl⟩, hj, ⟨rc, hl, hst, hpd⟩, hk⟩
      have hr := run_endLoop (P := Tryd.prog) hl (by rw [hst]; simp)
      rw [hpd] at hr
      exact ⟨some .ret, _, hr, wpIn_ret (hdone _ (hFk _ _ hj (Only.putObj _ _ _ _ (.inr rfl))) ((World.putObj_heap_other (by omega)).trans hk))⟩
/-- An activation in whose slots p and q a node is put. -/
def actP (a : Act) (p q b : Nat) : Act := { tmps := (a.tmps.setIfInBounds p (.pointer (some ⟨b, 0, none⟩))).setIfInBounds q (.pointer (some ⟨b, 0, none⟩)), defers := [] }
theorem wpIn_rangeEnds' {lo hi T : Nat} {E : List (List Int)} {bk : List Int → Nat} {mp : List Int → Option Nat} {gop : Operand} {s : Tmp} {assign body : Code} {Q : Exit → Act → World → Prop} {a : Act} {w : World} (q n : Nat) (hn : 2 ≤ n) (p : List Int) (hp : begB E p = true) (hE : [] ∉ E)
    (hg : a.eval gop = .func (.func 76) #[.pointer (some ⟨bk p, 0, none⟩)] #[])
    (J : List (List Int) → World → Prop) (hJk : ∀ pre A B, J pre A → Only A B (fun k => k = w.heap.size ∨ k = w.heap.size + 1) → J pre B) (hJs : ∀ pre A, J pre A → TrieAt A lo hi T E bk mp) (h0 : J [] w)
    (hassign : ∀ (l b : Nat) (W : World) (K : Act → World → Prop), K (actP a s q b) W → assign.wpIn (Fence.wide.inRound l) (n - 1 - 1) Tryd.prog (Exit.then K (fun _ _ _ => False)) { tmps := a.tmps.setIfInBounds s (.pointer (some ⟨b, 0, none⟩)), defers := [] } W)
    (hbody : ∀ (l : Nat) (pre : List (List Int)) (x : List Int) (W : World), J pre W → x ∈ E → (∃ r, pre ++ x :: r = endsF E p) → w.heap.size + 2 ≤ W.heap.size → (W.heap[w.heap.size]? = some (.deferred (some [])) ∧ ∃ rc, W.heap[w.heap.size + 1]? = some (.loop rc)) → body.wpIn (Fence.wide.inRound l) (n - 1 - 1) Tryd.prog (fun e _ W' => e = .normal ∧ J (pre ++ [x]) W' ∧ Only W W' (fun k => k ≠ w.heap.size ∧ k ≠ w.heap.size + 1)) (actP a s q (bk x)) W)
    (hdone : ∀ W, J (endsF E p) W → W.heap[w.heap.size]? = some (.deferred (some [])) → Q .normal { a with defers := markD w.heap.size :: a.defers } W) :
    (Code.rangeFunc gop #[s] assign body).wpIn Fence.wide n Tryd.prog Q a w :=
  wpIn_rangeEnds n hn p hp hE hg rfl J hJk hJs h0 (fun x => actP a s q (bk x)) (fun l x W K hK => by simpa using hassign l (bk x) W K hK) hbody hdone
theorem wpIn_rangeFirst' {lo hi T : Nat} {E : List (List Int)} {bk : List Int → Nat} {mp : List Int → Option Nat} {gop : Operand} {s : Tmp} {assign body : Code} {Q : Exit → Act → World → Prop} {a : Act} {w : World} (q n : Nat) (hn : 2 ≤ n) (p x : List Int) (r : List (List Int)) (hx : endsF E p = x :: r) (hp : begB E p = true) (hE : [] ∉ E)
    (hg : a.eval gop = .func (.func 76) #[.pointer (some ⟨bk p, 0, none⟩)] #[])
    (F : World → Prop) (hFk : ∀ A B, F A → Only A B (fun k => k = w.heap.size ∨ k = w.heap.size + 1) → F B) (hT : TrieAt w lo hi T E bk mp)
    (hassign : ∀ (l b : Nat) (W : World) (K : Act → World → Prop), K (actP a s q b) W → assign.wpIn (Fence.wide.inRound l) (n - 1 - 1) Tryd.prog (Exit.then K (fun _ _ _ => False)) { tmps := a.tmps.setIfInBounds s (.pointer (some ⟨b, 0, none⟩)), defers := [] } W)
    (hbody : ∀ (l : Nat) (W : World), Only w W (fun k => k = w.heap.size ∨ k = w.heap.size + 1) → w.heap.size + 2 ≤ W.heap.size → body.wpIn (Fence.wide.inRound l) (n - 1 - 1) Tryd.prog (fun e _ W' => e = .ret ∧ F W' ∧ Only W W' (fun k => k ≠ w.heap.size ∧ k ≠ w.heap.size + 1)) (actP a s q (bk x)) W)
    (hdone : ∀ W, F W → W.heap[w.heap.size]? = some (.deferred (some [])) → Q .ret { a with defers := markD w.heap.size :: a.defers } W) :
    (Code.rangeFunc gop #[s] assign body).wpIn Fence.wide n Tryd.prog Q a w :=
  wpIn_rangeFirst n hn p x r hx hp hE hg rfl F hFk hT (actP a s q (bk x)) (fun l W K hK => by simpa using hassign l (bk x) W K hK) hbody hdone
/-- A frame that leaves with marks of loops: their blocks are shut. -/
theorem leaves_marks {n : Nat} {fn : Func} {tmps : Array Value} {R : Ending → World → Prop} (B : Nat) : ∀ (ds : List Nat) (w : World), (∀ d ∈ ds, B ≤ d ∧ w.heap[d]? = some (.deferred (some []))) → ds.Nodup →
    (∀ W, Only w W (fun k => k ∈ ds) → LeavesInM Fence.wide n Tryd.prog fn tmps R [] .returning W) → LeavesInM Fence.wide n Tryd.prog fn tmps R (ds.map markD) .returning w
  | [], w, _, _, h => h w (Only.refl _ _)
  | d :: ds, w, hd, hn, h => by
    obtain ⟨hdn, hn'⟩ := List.nodup_cons.1 hn
    refine ⟨by simp, .inl ⟨d, _, rfl, run_takeDeferred (hd d (.head _)).2, ?_⟩⟩
    refine leaves_marks B ds _ (fun x hx => ⟨(hd x (.tail _ hx)).1, (World.putObj_heap_other (fun e => hdn (by rw [← e]; exact hx))).trans (hd x (.tail _ hx)).2⟩) hn' (fun W hW => h W ?_)
    exact (Only.putObj w d _ (fun k => k ∈ d :: ds) (.head _)).trans hW (fun i hi => .inl (.tail _ hi))
end Go.Proofs.YtekimkdaoblcgaaDoor
namespace Go.Proofs.YtekimkdaoblcgaaDoor
open Go.RowKit Go.Shelf Go.Lib Go.Maps
/-- The longest beginning of a list, of up to so many numbers, that is an entry. -/
def lpK (E : List (List Int)) (l : List Int) : Nat → Option (List Int)
  | 0 => none
  | k + 1 => if l.take (k + 1) ∈ E then some (l.take (k + 1)) else lpK E l k
def onN (E : List (List Int)) : Option (List Int) → Int
  | none => 0
  | some e => (numF E e : Int)
theorem lpK_stop {E : List (List Int)} {l : List Int} {k : Nat} (h : begB E (l.take (k + 1)) = false) : ∀ d, lpK E l (k + d) = lpK E l k
  | 0 => rfl
  | d + 1 => by
    have hn : l.take (k + d + 1) ∉ E := fun hm => by
      have : begB E (l.take (k + 1)) = true := begB_iff.2 (.inr ⟨_, hm, by rw [show l.take (k + 1) = (l.take (k + d + 1)).take (k + 1) by rw [List.take_take, Nat.min_eq_left (by omega)]]; exact List.take_prefix _ _⟩)
      rw [this] at h
      cases h
    rw [show k + (d + 1) = (k + d) + 1 by omega, lpK, if_neg hn]
    exact lpK_stop h d
/-- What Longest says. -/
def lngO (E : List (List Int)) (l : List Int) (at' : Int) : Option (List Int) := if at' < 0 ∨ at' ≥ (l.length : Int) then none else lpK E (l.drop at'.toNat) (l.length - at'.toNat)
end Go.Proofs.YtekimkdaoblcgaaDoor
namespace Go.Proofs.YtekimkdaoblcgaaDoor
open Go.RowKit Go.Shelf Go.Lib Go.Maps
attribute [local go_sem] Oper.semAt_some
theorem ends_drop {E : List (List Int)} (h : ∀ e ∈ E, e.length ≤ 32) (l : List Int) : endsF E (l.drop (l.length - 32)) = endsF E l := by
  induction l with
  | nil => rfl
  | cons x xs ih =>
    by_cases hl : (x :: xs).length ≤ 32
    · rw [show (x :: xs).length - 32 = 0 by omega]; rfl
    · have hn : (x :: xs) ∉ E := fun hm => hl (h _ hm)
      have e1 : (x :: xs).length - 32 = (xs.length - 32) + 1 := by simp only [List.length_cons] at *; omega
      rw [e1, List.drop_succ_cons, ih]
      simp [endsF, hn]
/-- What Ending says. -/
def endO (E : List (List Int)) (l : List Int) (at' : Int) : Option (List Int) := if at' ≤ 0 ∨ at' > (l.length : Int) then none else (endsF E (l.take at'.toNat)).head?
theorem setCell_self {w : World} {g i : Nat} {cs : Array Value} {t : TypeId} {v : Value} (hg : w.heap[g]? = some (.cells cs t (0, 0))) (h : cs.setIfInBounds i v = cs) : w.setCell ⟨g, i, none⟩ v = w := by
  have h1 : (w.setCell ⟨g, i, none⟩ v).heap = w.heap := by
    apply Array.ext_getElem?
    intro k
    by_cases e : k = g
    · subst e
      rw [heap_setCell_same _ _ _ _ _ _ hg, h, hg]
    · exact setCell_block_ne e
  show { w with heap := (w.setCell ⟨g, i, none⟩ v).heap } = w
  rw [h1]
end Go.Proofs.YtekimkdaoblcgaaDoor
namespace Go.Proofs.YtekimkdaoblcgaaDoor
open Go.RowKit
/-- The post Q at an ordinary end, and at no other. -/
def NormO (Q : Exit → Act → World → Prop) : Exit → Act → World → Prop
  | .normal, a, w => Q .normal a w
  | _, _, _ => False
theorem NormO.normal {Q : Exit → Act → World → Prop} {a : Act} {w : World} (h : Q .normal a w) : NormO Q .normal a w := h
theorem NormO.imp {Q : Exit → Act → World → Prop} : ∀ (e : Exit) (a : Act) (w : World), NormO Q e a w → Q e a w := fun e a w h => by
  cases e <;> first | exact h | exact (h : False).elim
theorem NormO.shut {Q : Exit → Act → World → Prop} : ¬ LetsOut (NormO Q) := fun ⟨_, _, h⟩ => h
def noDefer (ops : Array Oper) : Bool := ops.toList.all fun o => match o.op with
  | .defer _ => false
  | _ => true
theorem noDefer_at {ops : Array Oper} (h : noDefer ops = true) {i : Nat} {o : Oper} (ho : ops[i]? = some o) : ∀ c, o.op ≠ .defer c := fun c e => by
  have h1 := List.all_eq_true.1 h o (by rw [← Array.getElem?_toList] at ho; exact List.mem_of_getElem? ho)
  rw [e] at h1
  cases h1
theorem wpOpIn_of {P : Program} {ops : Array Oper} {Q : Exit → Act → World → Prop} {i n l : Nat} {K K' : Act → World → Prop} {a : Act} {w : World} (hno : ¬ LetsOut Q) (hd : noDefer ops = true)
    (hK : ∀ a w, K a w → K' a w) (h : wpOp P ops Q i K a w) : wpOpIn (Fence.wide.inRound l) n P ops Q i K' a w := by
  unfold wpOp at h
  unfold wpOpIn
  cases ho : ops[i]? with
  | none =>
    simp only [ho] at h ⊢
    exact hK _ _ h
  | some o =>
    simp only [ho] at h ⊢
    by_cases hw : Region.wanted o (yielded ops a.tmps) = true
    · simp only [hw, if_true] at h ⊢
      rcases h with h | ⟨_, h⟩
      · refine ⟨fun _ _ => trivial, ?_⟩
        rw [Fence.inRound_round, Oper.semAt_some l _ o (noDefer_at hd ho)]
        unfold Oper.wp at h
        generalize (execOp a.eval o).run P w = r at *
        cases r with
        | ok x w' =>
          cases x <;> simp only [Oper.upon, Oper.uponIn] at h ⊢
          case value => exact hK _ _ h
          case skip => exact hK _ _ h
          case defer => exact hK _ _ h
          case enter f args =>
            refine ⟨fun e => (by cases e), CallsIn.inRound l (callsIn_wide.2 (Calls.mono h fun e w'' he => ?_))⟩
            cases e with
            | returned v => exact hK _ _ he
            | panicked c => exact he
            | outgrown => exact he
          case row row args => exact ⟨fun e => (by cases e), fun c cs _ => let ⟨v, w'', r, s⟩ := h c cs; ⟨v, w'', hK _ _ r, stepsIn_wide.2 s⟩⟩
        | halt x w' => cases x <;> simp only [Oper.upon, Oper.uponIn] at h ⊢ <;> exact h
      · exact (hno h).elim
    · simp only [hw] at h ⊢
      exact ⟨fun _ _ => trivial, hK _ _ h⟩
theorem wpAnyIn_of {P : Program} {ops : Array Oper} {Q : Exit → Act → World → Prop} {S : World → Prop} {n l : Nat} {md : Region.Mode} (hno : ¬ LetsOut Q) (hd : noDefer ops = true) : ∀ (fuel : Nat) (listed : Array Bool) (a : Act) (w : World),
    wpAnyH P md ops Q S fuel listed a w → wpAnyIn (Fence.wide.inRound l) n P md ops Q fuel listed a w
  | 0, _, _, _, h => h
  | fuel + 1, _, _, _, h => ⟨h.1, fun i hi => wpOpIn_of hno hd (fun a' w' h' => wpAnyIn_of hno hd fuel _ a' w' h'.2) (h.2 i hi)⟩
/-- The beginning, inside a round. -/
theorem wpIn_region_round {P : Program} {id : Nat} {ops : Array Oper} {Q : Exit → Act → World → Prop} {S : World → Prop} {n l : Nat} {a : Act} {w : World} (hm : P.follows .mixedOrders = true) (hd : noDefer ops = true) (hS : S w.drew)
    (h : S w.drew → wpAnyH P .any ops (NormO Q) S ops.size (Array.replicate ops.size false) a w.drew) : (Code.region id ops true).wpIn (Fence.wide.inRound l) n P Q a w :=
  wpIn_mono (wpIn_region_any hm (wpAnyIn_of NormO.shut hd _ _ _ _ (h hS))) NormO.imp
end Go.Proofs.YtekimkdaoblcgaaDoor
namespace Go.Proofs.YtekimkdaoblcgaaDoor
open Go.RowKit
section
variable {P : Program} {ops : Array Oper} {Q : Exit → Act → World → Prop} {md : Region.Mode} {S : World → Prop}
/-- An operation that yields a value is taken first. -/
theorem tkV {i : Nat} {oi : Oper} {d : Option Tmp} {v : Value} {fuel : Nat} {listed : Array Bool} {a : Act} {w : World} (hi : ops[i]? = some oi)
    (hs : Region.noSelect ops = true) (hf : Region.free md ops listed i = true) (hr : (Region.ready md ops listed).contains i = true) (hd : oi.dst = d)
    (hQ : ∀ c a w, Q (.panic c) (a.put d v) w → Q (.panic c) a w) (hw : Region.wanted oi (yielded ops a.tmps) = true) (hv : ∀ w, S w → (execOp a.eval oi).run P w = .ok (.value v) w) (hS : S w)
    (h : wpAnyH P md ops Q S fuel (listed.setIfInBounds i true) (a.put d v) w) : wpAnyH P md ops Q S (fuel + 1) listed a w := by
  subst hd
  exact wpAnyH_take hi hs hf hr hQ (.inl ⟨hw, hv⟩) hS h
/-- One that is not wanted. -/
theorem tkU {i : Nat} {oi : Oper} {d : Option Tmp} {fuel : Nat} {listed : Array Bool} {a : Act} {w : World} (hi : ops[i]? = some oi)
    (hs : Region.noSelect ops = true) (hf : Region.free md ops listed i = true) (hr : (Region.ready md ops listed).contains i = true) (hd : oi.dst = d)
    (hQ : ∀ c a w, Q (.panic c) (a.put d undef) w → Q (.panic c) a w) (hw : Region.wanted oi (yielded ops a.tmps) = false) (hS : S w)
    (h : wpAnyH P md ops Q S fuel (listed.setIfInBounds i true) (a.put d undef) w) : wpAnyH P md ops Q S (fuel + 1) listed a w := by
  subst hd
  exact wpAnyH_take hi hs hf hr hQ (.inr ⟨hw, rfl⟩) hS h
end
end Go.Proofs.YtekimkdaoblcgaaDoor
namespace Go.Proofs.YtekimkdaoblcgaaDoor
open Go.RowKit Go.Shelf Go.Lib Go.Maps
abbrev Fd := Int × Int × Int
def fdF (E : List (List Int)) (i : Nat) (e : List Int) : Fd := ((numF E e : Int), (i : Int) + 1 - (e.length : Int), (i : Int) + 1)
/-- What All tells of the first k ends. -/
def allK (E : List (List Int)) (l : List Int) : Nat → List Fd
  | 0 => []
  | k + 1 => allK E l k ++ (endsF E (l.take (k + 1))).map (fdF E k)
def cellsF (L : List Fd) : List Value := L.flatMap fun f => [.int .i64 f.1, .int .i64 f.2.1, .int .i64 f.2.2]
theorem cellsF_snoc (L : List Fd) (f : Fd) : cellsF (L ++ [f]) = cellsF L ++ [.int .i64 f.1, .int .i64 f.2.1, .int .i64 f.2.2] := by simp [cellsF]
def OwnF (w : World) (base : Nat) (v : Value) (L : List Fd) : Prop := w.ownsRow base 116 3 v L.length (cellsF L)
theorem infoF : (Tryd.prog.info? 116).map (fun i => (i.zero, i.size, i.bytes)) = some (some (.agg #[.int .i64 0, .int .i64 0, .int .i64 0]), 3, 24) := by kernel_rfl
theorem ends_le (E : List (List Int)) (q : List Int) : (endsF E q).length ≤ q.length := by
  induction q with
  | nil => exact Nat.le_refl _
  | cons x xs ih =>
    unfold endsF
    split <;> simp only [List.length_cons] <;> omega
theorem ends_32 {E : List (List Int)} (h : ∀ e ∈ E, e.length ≤ 32) (q : List Int) : (endsF E q).length ≤ 32 := by
  rw [← ends_drop h]
  have := ends_le E (q.drop (q.length - 32))
  rw [List.length_drop] at this
  omega
theorem allK_len {E : List (List Int)} (h : ∀ e ∈ E, e.length ≤ 32) (l : List Int) : ∀ k, (allK E l k).length ≤ 32 * k
  | 0 => Nat.le_refl _
  | k + 1 => by
    have h1 := allK_len h l k
    have h2 := ends_32 h (l.take (k + 1))
    rw [allK, List.length_append, List.length_map]
    omega
/-- What All holds: the box of what was found, the box of the place. -/
structure AJ (w W : World) (lo hi T : Nat) (E : List (List Int)) (bk : List Int → Nat) (mp : List Int → Option Nat) (v : Value) (L : List Fd) : Prop where
  box : W.heap[w.heap.size]? = some (.cells #[v] 113 (0, 0))
  own : OwnF W (w.heap.size + 1) v L
  tr : TrieAt W lo hi T E bk mp
  bel : Below w.heap.size w W
  hi' : hi ≤ w.heap.size
section
variable {w W W' : World} {lo hi T : Nat} {E : List (List Int)} {bk : List Int → Nat} {mp : List Int → Option Nat} {v : Value} {L : List Fd}
theorem AJ.lt (h : AJ w W lo hi T E bk mp v L) : w.heap.size < W.heap.size := (Array.getElem?_eq_some_iff.1 h.box).1
theorem AJ.only (h : AJ w W lo hi T E bk mp v L) {S : Nat → Prop} (ho : Only W W' S) (hs : ∀ k, S k → w.heap.size < k) (hv : ∀ g, v.ownBlock = some g → ¬ S g) : AJ w W' lo hi T E bk mp v L where
  box := (ho.block _ h.lt (fun q => by have := hs _ q; omega)).trans h.box
  own := own_blk h.own (fun k e => ho.block k (World.ownsRow.lt h.own k e).2 (hv k e))
  tr := Tr.keep h.tr ho.size (fun k _ hk => ho.block k (Nat.lt_of_lt_of_le hk h.tr.hs) (fun q => by have := hs _ q; have := h.hi'; omega))
  bel := h.bel.trans (ho.below (Nat.le_of_lt h.lt) (fun i hi => Nat.le_of_lt (hs i hi)))
  hi' := h.hi'
theorem AJ.past (h : AJ w W lo hi T E bk mp v L) (hb : Below W.heap.size W W') : AJ w W' lo hi T E bk mp v L := h.only (S := fun _ => False) ⟨hb.os, hb.tape, hb.output, hb.size, fun k hk _ => hb.block k hk⟩ (fun _ q => nomatch q) (fun _ _ q => q)
theorem AJ.form (h : AJ w W lo hi T E bk mp v L) : ∃ a cap, v = .slice a L.length cap := by
  rcases h.own.2 with ⟨h1, h2⟩ | ⟨g, cap, cur, rfl, _⟩
  · exact ⟨none, 0, by rw [h1, h2]⟩
  · exact ⟨_, cap, rfl⟩
/-- A row's block holds founds. -/
theorem AJ.row (h : AJ w W lo hi T E bk mp v L) {g : Nat} (hg : v.ownBlock = some g) : ∃ cur fr, W.heap[g]? = some (.cells cur 116 fr) := by
  rcases h.own.2 with ⟨rfl, _⟩ | ⟨g', cap, cur, rfl, _, hr, _⟩
  · cases hg
  · injection hg with hg
    subst hg
    exact ⟨cur, _, hr⟩
/-- One more is put behind. -/
theorem AJ.snoc (h : AJ w W lo hi T E bk mp v L) {W1 W2 : World} {v2 : Value} {f : Fd} (hb : Below W.heap.size W W1) (hg : W1.grownBy W2 v.ownBlock) (hown : W2.ownsRow (w.heap.size + 1) 116 3 v2 (L.length + 1) (cellsF L ++ [.int .i64 f.1, .int .i64 f.2.1, .int .i64 f.2.2])) : AJ w (W2.setCell ⟨w.heap.size, 0, none⟩ v2) lo hi T E bk mp v2 (L ++ [f]) ∧ Only W (W2.setCell ⟨w.heap.size, 0, none⟩ v2) (fun k => k = w.heap.size ∨ v.ownBlock = some k) ∧ W2.cell? ⟨w.heap.size, 0, none⟩ = some v ∧ W2.frozen? ⟨w.heap.size, 0, none⟩ = false := by
  have hbase : ∀ g, v.ownBlock = some g → w.heap.size + 1 ≤ g := fun g e => (World.ownsRow.lt h.own g e).1
  have hlt := h.lt
  have ho1 : Only W W2 (fun k => v.ownBlock = some k) := (Only.ofNew hb (fun k => v.ownBlock = some k)).trans (T := fun k => v.ownBlock = some k) ⟨hg.os, hg.tape, hg.output, hg.size, fun k hk hn => hg.block k hk (fun e => hn e.symm)⟩ (fun i hi => .inl hi)
  have hbox : W2.heap[w.heap.size]? = some (.cells #[v] 113 (0, 0)) := (ho1.block _ hlt (fun e => by have := hbase _ e; omega)).trans h.box
  have ho2 : Only W (W2.setCell ⟨w.heap.size, 0, none⟩ v2) (fun k => k = w.heap.size ∨ v.ownBlock = some k) := (ho1.mono (fun i hi => .inr hi)).trans ((Only.setCell _ _ _ _).mono (fun i hi => .inl hi)) (fun i hi => .inl hi)
  refine ⟨⟨?_, ?_, ?_, ?_, h.hi'⟩, ho2, by rw [cell_of_row _ _ _ _ _ _ hbox]; rfl, by simp [World.frozen?, hbox]⟩
  · exact (heap_setCell_same _ _ 0 _ _ _ hbox).trans (by simp)
  · unfold OwnF
    rw [cellsF_snoc, List.length_append]
    exact own_blk hown (fun k e => setCell_block_ne (by have := (World.ownsRow.lt hown k e).1; omega))
  · exact Tr.keep h.tr ho2.size (fun k _ hk => ho2.block k (Nat.lt_of_lt_of_le hk h.tr.hs) (by
      have := h.hi'
      rintro (e | e)
      · omega
      · have := hbase _ e; omega))
  · exact h.bel.trans (ho2.below (Nat.le_of_lt hlt) (by
      rintro i (e | e)
      · omega
      · have := hbase _ e; omega))
end
end Go.Proofs.YtekimkdaoblcgaaDoor
namespace Go.Proofs.YtekimkdaoblcgaaDoor
open Go.RowKit Go.Shelf Go.Lib Go.Maps
attribute [local go_sem] Oper.semAt_some
/-- What All answers. -/
def AllR (w : World) (L : List Fd) (r : Ending) (w' : World) : Prop := ∃ v, r = .returned v ∧ OwnF w' w.heap.size v L ∧ Below w.heap.size w w'
set_option maxRecDepth 100000 in
set_option maxHeartbeats 2000000 in
theorem all_any {w : World} {lo hi T : Nat} {E : List (List Int)} {bk : List Int → Nat} {mp : List Int → Option Nat} (l : List Int) (a : Option Addr) (ca : Nat) (h : TrieAt w lo hi T E bk mp) (hG : Good E) (ha : IA w a l) (hI : ∀ c ∈ l, inI c) (hl : l.length ≤ 1000000000) (hh : hi ≤ w.heap.size) (_hE : E.length ≤ 1000000) :
    Calls Tryd.prog 67 #[.pointer (some ⟨T, 0, none⟩), .slice a l.length ca] w fun e w' => AllR w (allK E l l.length) e w' := by
  obtain ⟨i0, hi0, hz0, hz1, hz2⟩ := info_parts infoF
  obtain ⟨w0, hw0⟩ : ∃ w0, w0 = w.alloc (.cells #[.slice none 0 0] 113) := ⟨_, rfl⟩
  have hb0 : Below w.heap.size w w0 := by rw [hw0]; exact (Below.refl _ _).alloc (Nat.le_refl _) _
  have HJ0 : Hid (AJ w w0 lo hi T E bk mp (.slice none 0 0) []) := hid0 ⟨by rw [hw0]; exact heap_alloc_new _ _, World.ownsRow_nil _ _ _ _, Tr.past h hb0, hb0, hh⟩
  have HA : Hid (∀ V : World, Below w.heap.size w V → IA V a l) := hid0 (fun V hV => ha.past hV)
  have HI := hid0 hI
  have HG := hid0 hG
  have HRb := hid0 h.rb
  have hfold := hw0.symm
  clear h hG ha hI hw0 hb0
  refine (callsIn_wide (n := 8)).1 ?_
  refine callsIn_of_wp_marks Tryd.func67 rfl trivial ?_ rfl
  simp only [Tryd.ntmps67, List.size_toArray, List.length_cons, List.length_nil, Nat.reduceAdd, Nat.reduceSub, Array.replicate_succ, Array.replicate_zero, List.push_toArray, List.append_toArray, List.nil_append, List.cons_append]
  gi_wp2
  refine wpIn_loop (fun a' W => ∃ (k bq : Nat) (v : Value) (ds : List Nat) (u7 u8 u9 u16 u17 u18 u19 u20 u21 u22 u23 u24 u25 u26 u27 u28 u29 u30 u31 u32 u33 u34 u35 u36 u37 u38 u39 u40 u41 u42 u43 u44 : Value), k ≤ l.length ∧ Hid (bq = bk (lsf (begB E) (l.take k))) ∧ Hid (AJ w W lo hi T E bk mp v (allK E l k)) ∧ Hid ((∀ d ∈ ds, w.heap.size ≤ d ∧ W.heap[d]? = some (.deferred (some []))) ∧ ds.Nodup) ∧ a' = { tmps := #[.pointer (some ⟨T, 0, none⟩), .slice a l.length ca, undef, undef, .slice none 0 0, .pointer (some ⟨w.heap.size, 0, none⟩), .pointer (some ⟨bq, 0, none⟩), u7, u8, u9, .pointer (some ⟨T, 0, none⟩), .pointer (some ⟨T, 0, none⟩), .pointer (some ⟨T, 0, none⟩), .slice a l.length ca, .int .i64 (l.length : Int), .int .i64 (k : Int), u16, u17, u18, u19, u20, u21, u22, u23, u24, u25, u26, u27, u28, u29, u30, u31, u32, u33, u34, u35, u36, u37, u38, u39, u40, u41, u42, u43, u44, undef], defers := ds.map markD }) (fun a' _ => l.length - (intOf (a'.tmps.getD 15 undef)).toNat) ?_ ?_
  · exact ⟨0, T, .slice none 0 0, [], _, _, _, _, _, _, _, _, _, _, _, _, _, _, _, _, _, _, _, _, _, _, _, _, _, _, _, _, _, _, _, _, Nat.zero_le _, hid0 (by rw [List.take_zero]; exact HRb.out.symm), HJ0, hid0 ⟨(fun _ hd => nomatch hd), List.nodup_nil⟩, rfl⟩
  rintro a' wr ⟨k, bq, v, ds, u7, u8, u9, u16, u17, u18, u19, u20, u21, u22, u23, u24, u25, u26, u27, u28, u29, u30, u31, u32, u33, u34, u35, u36, u37, u38, u39, u40, u41, u42, u43, u44, hk, HBq, HJ, HM, rfl⟩
  clear hfold HJ0
  by_cases hlt : k < l.length
  · obtain ⟨b, off, rfl, hbl, hce⟩ := (HA.out wr HJ.out.bel).at' k hlt
    have hkI : (k : Int) < (l.length : Int) := by omega
    have hkI0 : (0 : Int) ≤ (k : Int) := by omega
    have HTs := hid0 (take_snoc hlt)
    obtain ⟨w1, hw1⟩ : ∃ w1, w1 = wr.alloc (.cells #[.int .i64 (k : Int)] 3) := ⟨_, rfl⟩
    have hb1 : Below wr.heap.size wr w1 := by rw [hw1]; exact (Below.refl _ _).alloc (Nat.le_refl _) _
    have hs1 : w1.heap.size = wr.heap.size + 1 := by rw [hw1]; simp
    have HR1 : Hid (w1.heap[wr.heap.size]? = some (.cells #[.int .i64 (k : Int)] 3 (0, 0))) := hid0 (by rw [hw1]; exact heap_alloc_new _ _)
    have HJ1 := hid0 (HJ.out.past hb1)
    have HM1 : Hid (∀ d ∈ ds, w1.heap[d]? = some (.deferred (some []))) := hid0 (fun d hd => (hb1.block d (Array.getElem?_eq_some_iff.1 (HM.out.1 d hd).2).1).trans (HM.out.1 d hd).2)
    have HLt : Hid (w.heap.size < wr.heap.size ∧ w1.heap.size = wr.heap.size + 1 ∧ (∀ d ∈ ds, d < wr.heap.size) ∧ (∀ g, v.ownBlock = some g → g < wr.heap.size)) := hid0 ⟨HJ.out.lt, hs1, fun d hd => (Array.getElem?_eq_some_iff.1 (HM.out.1 d hd).2).1, fun g hg => (World.ownsRow.lt HJ.out.own g hg).2⟩
    have HST : Hid (Calls Tryd.prog 63 #[.pointer (some ⟨T, 0, none⟩), .pointer (some ⟨bq, 0, none⟩), .int .i64 l[k]] w1 fun e w' => e = .returned (.pointer (some ⟨bk (lsf (begB E) (l.take (k + 1))), 0, none⟩)) ∧ w' = w1) := hid0 (by
      have h := step_any (some (lsf (begB E) (l.take k))) l[k] (lsf (begB E) (l.take k)).length HJ1.out.tr (HI.out _ (List.getElem_mem hlt)) (fun _ _ _ => rfl) (fun p hp => by injection hp with hp; rw [← hp]; exact ⟨lsf_ok (begB_nil E) _, Nat.le_refl _⟩)
      rw [show ptr (Option.map bk (some (lsf (begB E) (l.take k)))) = .pointer (some ⟨bk (lsf (begB E) (l.take k)), 0, none⟩) from rfl, ← HBq.out] at h
      rw [HTs.out, lsf_snoc (fun _ _ => begB_front)]
      exact h)
    have HEn := hid0 (ends_lsf (P := begB E) (fun _ he => begB_mem he) (l.take (k + 1)))
    have hfold := hw1.symm
    clear hw1 hb1 hs1
    generalize l[k] = c at *
    gi_wp2_with (refine ⟨trivial, ?_⟩; gi_at_call 63; refine (callsIn_wide.2 HST.out).mono ?_; rintro e w2 ⟨rfl, hw⟩; have hw := hw.symm; subst hw)
    clear hfold
    refine wpIn_rangeEnds' 9 8 (by omega) (lsf (begB E) (l.take (k + 1))) (lsf_ok (begB_nil E) _) HG.out.ne rfl (fun pre W => ∃ v : Value, AJ w W lo hi T E bk mp v (allK E l k ++ pre.map (fdF E k)) ∧ W.heap[wr.heap.size]? = some (.cells #[.int .i64 (k : Int)] 3 (0, 0)) ∧ (∀ d ∈ ds, W.heap[d]? = some (.deferred (some []))) ∧ (∀ g, v.ownBlock = some g → g ≠ w1.heap.size ∧ g ≠ w1.heap.size + 1)) ?keep (fun pre A h => h.choose_spec.1.tr) ⟨v, by simpa using HJ1.out, HR1.out, HM1.out, fun g hg => by have := HLt.out; have := this.2.2.2 g hg; omega⟩ ?assign ?body ?done
    case keep =>
      rintro pre A B ⟨v, h1, h2, h3, h4⟩ ho
      have hl := HLt.out
      exact ⟨v, h1.only ho (fun k hk => by omega) (fun g hg q => by have := h4 g hg; omega), (ho.block _ (Array.getElem?_eq_some_iff.1 h2).1 (by omega)).trans h2, fun d hd => (ho.block _ (Array.getElem?_eq_some_iff.1 (h3 d hd)).1 (by have := hl.2.2.1 d hd; omega)).trans (h3 d hd), h4⟩
    case assign =>
      intro q b' W K hK
      simp only [actP, List.setIfInBounds_toArray, List.set_cons_succ, List.set_cons_zero] at hK ⊢
      gi_wp2
      exact hK
    case body =>
      rintro q pre x W ⟨v2, h1, h2, h3, h4⟩ hx ⟨r, hr⟩ hsz ⟨hd1, rc, hd2⟩
      simp only [actP, List.setIfInBounds_toArray, List.set_cons_succ, List.set_cons_zero]
      have hxl := (chkN_none (HG.out.chk x hx)).2.1
      have n1 := (Tr.nd h1.tr x (begB_mem hx)).cells.2.1
      have n3 := (Tr.nd h1.tr x (begB_mem hx)).cells.2.2.2.1
      rw [show enE E x = (numF E x : Int) from if_pos hx] at n3
      have c7 : W.cell? ⟨wr.heap.size, 0, none⟩ = some (.int .i64 (k : Int)) := by rw [cell_of_row _ _ _ _ _ _ h2]; rfl
      have c5 : W.cell? ⟨w.heap.size, 0, none⟩ = some v2 := by rw [cell_of_row _ _ _ _ _ _ h1.box]; rfl
      have hne : v2.ownBlock ≠ some wr.heap.size := fun e => by
        obtain ⟨cur, fr, hr2⟩ := h1.row e
        rw [h2] at hr2
        injection hr2 with hr2
        injection hr2 with _ hr2
        cases hr2
      have hbx := Tr.lh h1.tr x (begB_mem hx)
      have HLn : Hid ((allK E l k ++ pre.map (fdF E k)).length ≤ 32 * 1000000000 + 32) := hid0 (by
        have q1 := allK_len HG.out.len l k
        have q2 := ends_32 HG.out.len (lsf (begB E) (l.take (k + 1)))
        rw [← hr] at q2
        simp only [List.length_append, List.length_cons] at q2
        rw [List.length_append, List.length_map]
        omega)
      have HSv : Hid (∀ V : World, Only W V (fun k => k = w.heap.size ∨ v2.ownBlock = some k) → (fun V => V.cell? ⟨bk x, 3, none⟩ = some (.int .i64 (numF E x : Int)) ∧ V.cell? ⟨bk x, 1, none⟩ = some (.int .i64 (x.length : Int)) ∧ V.cell? ⟨wr.heap.size, 0, none⟩ = some (.int .i64 (k : Int))) V) := hid0 (fun V hV => by
        have hl := HLt.out
        have hb : ¬ (bk x = w.heap.size ∨ v2.ownBlock = some (bk x)) := by
          rintro (e | e)
          · omega
          · have := (World.ownsRow.lt h1.own _ e).1; omega
        exact ⟨(hV.cell (p := ⟨bk x, 3, none⟩) (World.block_lt_of_cell? _ _ n3) hb).trans n3, (hV.cell (p := ⟨bk x, 1, none⟩) (World.block_lt_of_cell? _ _ n1) hb).trans n1, (hV.cell (p := ⟨wr.heap.size, 0, none⟩) (World.block_lt_of_cell? _ _ c7) (by rintro (e | e); (· show False; simp only at e; omega); exact hne e)).trans c7⟩)
      have HBa : Hid (Below W.heap.size W (W.drew.alloc (.cells #[.int .i64 (numF E x : Int), .int .i64 ((k : Int) + 1 - (x.length : Int)), .int .i64 ((k : Int) + 1)] 116))) := hid0 ((show Below W.heap.size W W.drew from ⟨rfl, rfl, rfl, Nat.le_refl _, fun _ _ => rfl⟩).alloc (Nat.le_refl _) _)
      have HOa : Hid (Only W (W.drew.alloc (.cells #[.int .i64 (numF E x : Int), .int .i64 ((k : Int) + 1 - (x.length : Int)), .int .i64 ((k : Int) + 1)] 116)) (fun k => k = w.heap.size ∨ v2.ownBlock = some k)) := hid0 (Only.ofNew HBa.out _)
      have c5' : W.drew.cell? ⟨w.heap.size, 0, none⟩ = some v2 := c5
      have c5a : (W.drew.alloc (.cells #[.int .i64 (numF E x : Int), .int .i64 ((k : Int) + 1 - (x.length : Int)), .int .i64 ((k : Int) + 1)] 116)).cell? ⟨w.heap.size, 0, none⟩ = some v2 := (HBa.out.cell (p := ⟨w.heap.size, 0, none⟩) (World.block_lt_of_cell? _ _ c5)).trans c5
      have c5b : (W.alloc (.cells #[.int .i64 (numF E x : Int), .int .i64 ((k : Int) + 1 - (x.length : Int)), .int .i64 ((k : Int) + 1)] 116)).cell? ⟨w.heap.size, 0, none⟩ = some v2 := c5a
      have hw1 : IntKind.i64.wrap ((k : Int) + 1) = (k : Int) + 1 := by simp [IntKind.wrap, IntKind.bits, IntKind.signed]; omega
      have hw2 : IntKind.i64.wrap ((k : Int) + 1 - (x.length : Int)) = (k : Int) + 1 - (x.length : Int) := by simp [IntKind.wrap, IntKind.bits, IntKind.signed]; omega
      have HFin : Hid (∀ (v3 : Value) (V : World), AJ w V lo hi T E bk mp v3 (allK E l k ++ pre.map (fdF E k) ++ [fdF E k x]) → Only W V (fun k => k = w.heap.size ∨ v2.ownBlock = some k) → (∃ v : Value, AJ w V lo hi T E bk mp v (allK E l k ++ (pre ++ [x]).map (fdF E k)) ∧ V.heap[wr.heap.size]? = some (.cells #[.int .i64 (k : Int)] 3 (0, 0)) ∧ (∀ d ∈ ds, V.heap[d]? = some (.deferred (some []))) ∧ (∀ g, v.ownBlock = some g → g ≠ w1.heap.size ∧ g ≠ w1.heap.size + 1)) ∧ Only W V (fun k => k ≠ w1.heap.size ∧ k ≠ w1.heap.size + 1)) := hid0 (fun v3 V hj ho => by
        have hl := HLt.out
        have hS : ∀ k, (k = w.heap.size ∨ v2.ownBlock = some k) → k ≠ w1.heap.size ∧ k ≠ w1.heap.size + 1 := by
          rintro k (e | e)
          · omega
          · exact h4 k e
        have hk1 := (ho.block w1.heap.size (by omega) (fun q => (hS _ q).1 rfl)).trans hd1
        have hk2 := (ho.block (w1.heap.size + 1) (by omega) (fun q => (hS _ q).2 rfl)).trans hd2
        refine ⟨⟨v3, by rw [List.map_append, ← List.append_assoc]; exact hj, (ho.block _ (Array.getElem?_eq_some_iff.1 h2).1 (by rintro (e | e); (· omega); exact hne e)).trans h2, fun d hd => (ho.block _ (Array.getElem?_eq_some_iff.1 (h3 d hd)).1 (by
          rintro (e | e)
          · have := hl.2.2.1 d hd; have := HM.out.1 d hd; subst e; have hq := h3 _ hd; rw [h1.box] at hq; cases hq
          · obtain ⟨cur, fr, hr2⟩ := h1.row e; rw [h3 d hd] at hr2; cases hr2)).trans (h3 d hd), fun g hg => ?_⟩, ho.mono hS⟩
        obtain ⟨cur, fr, hr2⟩ := hj.row hg
        refine ⟨fun e => ?_, fun e => ?_⟩
        · rw [e, hk1] at hr2; cases hr2
        · rw [e, hk2] at hr2; cases hr2)
      obtain ⟨av, cv, hvf⟩ := h1.form
      subst hvf
      have HJx := hid0 h1
      generalize hL2 : allK E l k ++ pre.map (fdF E k) = L2 at *
      have HOk : Hid (W.drew.ownsRow (w.heap.size + 1) 116 3 (.slice av L2.length cv) L2.length (cellsF L2)) := hid0 (own_blk HJx.out.own (fun _ _ => rfl))
      have HL2 := hid0 hL2
      clear hL2 h1 h2 h3 h4 hd1 hd2 hr hne hbx n1 n3 c7 hx
      generalize hn2 : L2.length = n2 at *
      have HN2 := hid0 hn2
      clear hn2
      gi_wp2
      refine wpIn_region_round (S := (fun V => V.cell? ⟨bk x, 3, none⟩ = some (.int .i64 (numF E x : Int)) ∧ V.cell? ⟨bk x, 1, none⟩ = some (.int .i64 (x.length : Int)) ∧ V.cell? ⟨wr.heap.size, 0, none⟩ = some (.int .i64 (k : Int)))) (by kernel_rfl) (by kernel_rfl) ?_ (fun hHeld => ?_)
      · exact HSv.out W.drew (Only.drewN W 1 _)
      refine tkV (i := 1) (d := some 28) (v := ?_) rfl (by kernel_rfl) (by kernel_rfl) (by kernel_rfl) rfl (fun _ _ _ h => h) (by rfl) ?_ (by assumption) ?_
      rotate_left
      · (intro w hSw; (try dsimp only at hSw); (try simp only [List.getElem_toArray, List.getElem_cons_zero, List.getElem_cons_succ]); go_simp; try with_reducible rfl)
      try simp only [Act.put, List.setIfInBounds_toArray, List.set_cons_zero, List.set_cons_succ]
      refine tkV (i := 2) (d := some 29) (v := ?_) rfl (by kernel_rfl) (by kernel_rfl) (by kernel_rfl) rfl (fun _ _ _ h => h) (by rfl) ?_ (by assumption) ?_
      rotate_left
      · (intro w hSw; (try dsimp only at hSw); (try simp only [List.getElem_toArray, List.getElem_cons_zero, List.getElem_cons_succ]); go_simp; try with_reducible rfl)
      try simp only [Act.put, List.setIfInBounds_toArray, List.set_cons_zero, List.set_cons_succ]
      refine tkV (i := 3) (d := some 30) (v := ?_) rfl (by kernel_rfl) (by kernel_rfl) (by kernel_rfl) rfl (fun _ _ _ h => h) (by rfl) ?_ (by assumption) ?_
      rotate_left
      · (intro w hSw; (try dsimp only at hSw); (try simp only [List.getElem_toArray, List.getElem_cons_zero, List.getElem_cons_succ]); go_simp; try with_reducible rfl)
      try simp only [Act.put, List.setIfInBounds_toArray, List.set_cons_zero, List.set_cons_succ]
      refine tkV (i := 4) (d := some 31) (v := ?_) rfl (by kernel_rfl) (by kernel_rfl) (by kernel_rfl) rfl (fun _ _ _ h => h) (by rfl) ?_ (by assumption) ?_
      rotate_left
      · (intro w hSw; (try dsimp only at hSw); (try simp only [List.getElem_toArray, List.getElem_cons_zero, List.getElem_cons_succ]); go_simp; try with_reducible rfl)
      try simp only [Act.put, List.setIfInBounds_toArray, List.set_cons_zero, List.set_cons_succ]
      refine tkV (i := 5) (d := some 32) (v := ?_) rfl (by kernel_rfl) (by kernel_rfl) (by kernel_rfl) rfl (fun _ _ _ h => h) (by rfl) ?_ (by assumption) ?_
      rotate_left
      · (intro w hSw; (try dsimp only at hSw); (try simp only [List.getElem_toArray, List.getElem_cons_zero, List.getElem_cons_succ]); go_simp; try with_reducible rfl)
      try simp only [Act.put, List.setIfInBounds_toArray, List.set_cons_zero, List.set_cons_succ]
      refine tkV (i := 6) (d := some 33) (v := ?_) rfl (by kernel_rfl) (by kernel_rfl) (by kernel_rfl) rfl (fun _ _ _ h => h) (by rfl) ?_ (by assumption) ?_
      rotate_left
      · (intro w hSw; (try dsimp only at hSw); (try simp only [List.getElem_toArray, List.getElem_cons_zero, List.getElem_cons_succ]); go_simp; try with_reducible rfl)
      try simp only [Act.put, List.setIfInBounds_toArray, List.set_cons_zero, List.set_cons_succ]
      refine tkV (i := 7) (d := some 34) (v := ?_) rfl (by kernel_rfl) (by kernel_rfl) (by kernel_rfl) rfl (fun _ _ _ h => h) (by rfl) ?_ (by assumption) ?_
      rotate_left
      · (intro w hSw; (try dsimp only at hSw); (try simp only [List.getElem_toArray, List.getElem_cons_zero, List.getElem_cons_succ]); go_simp; try with_reducible rfl)
      try simp only [Act.put, List.setIfInBounds_toArray, List.set_cons_zero, List.set_cons_succ]
      refine tkV (i := 8) (d := some 35) (v := ?_) rfl (by kernel_rfl) (by kernel_rfl) (by kernel_rfl) rfl (fun _ _ _ h => h) (by rfl) ?_ (by assumption) ?_
      rotate_left
      · (intro w hSw; (try dsimp only at hSw); (try simp only [List.getElem_toArray, List.getElem_cons_zero, List.getElem_cons_succ]); go_simp; try with_reducible rfl)
      try simp only [Act.put, List.setIfInBounds_toArray, List.set_cons_zero, List.set_cons_succ]
      refine tkV (i := 9) (d := some 36) (v := ?_) rfl (by kernel_rfl) (by kernel_rfl) (by kernel_rfl) rfl (fun _ _ _ h => h) (by rfl) ?_ (by assumption) ?_
      rotate_left
      · (intro w hSw; (try dsimp only at hSw); (try simp only [List.getElem_toArray, List.getElem_cons_zero, List.getElem_cons_succ]); go_simp; try with_reducible rfl)
      try simp only [Act.put, List.setIfInBounds_toArray, List.set_cons_zero, List.set_cons_succ]
      refine tkV (i := 10) (d := some 37) (v := ?_) rfl (by kernel_rfl) (by kernel_rfl) (by kernel_rfl) rfl (fun _ _ _ h => h) (by rfl) ?_ (by assumption) ?_
      rotate_left
      · (intro w hSw; (try dsimp only at hSw); (try simp only [List.getElem_toArray, List.getElem_cons_zero, List.getElem_cons_succ]); go_simp; try with_reducible rfl)
      try simp only [Act.put, List.setIfInBounds_toArray, List.set_cons_zero, List.set_cons_succ]
      refine tkV (i := 11) (d := some 38) (v := ?_) rfl (by kernel_rfl) (by kernel_rfl) (by kernel_rfl) rfl (fun _ _ _ h => h) (by rfl) ?_ (by assumption) ?_
      rotate_left
      · (intro w hSw; (try dsimp only at hSw); (try simp only [List.getElem_toArray, List.getElem_cons_zero, List.getElem_cons_succ]); go_simp; try with_reducible rfl)
      try simp only [Act.put, List.setIfInBounds_toArray, List.set_cons_zero, List.set_cons_succ]
      refine tkV (i := 12) (d := some 39) (v := ?_) rfl (by kernel_rfl) (by kernel_rfl) (by kernel_rfl) rfl (fun _ _ _ h => h) (by rfl) ?_ (by assumption) ?_
      rotate_left
      · (intro w hSw; (try dsimp only at hSw); (try simp only [List.getElem_toArray, List.getElem_cons_zero, List.getElem_cons_succ]); go_simp; try with_reducible rfl)
      try simp only [Act.put, List.setIfInBounds_toArray, List.set_cons_zero, List.set_cons_succ]
      refine tkV (i := 13) (d := some 40) (v := ?_) rfl (by kernel_rfl) (by kernel_rfl) (by kernel_rfl) rfl (fun _ _ _ h => h) (by rfl) ?_ (by assumption) ?_
      rotate_left
      · (intro w hSw; (try dsimp only at hSw); (try simp only [List.getElem_toArray, List.getElem_cons_zero, List.getElem_cons_succ]); go_simp; try with_reducible rfl)
      try simp only [Act.put, List.setIfInBounds_toArray, List.set_cons_zero, List.set_cons_succ]
      refine tkV (i := 14) (d := some 41) (v := ?_) rfl (by kernel_rfl) (by kernel_rfl) (by kernel_rfl) rfl (fun _ _ _ h => h) (by rfl) ?_ (by assumption) ?_
      rotate_left
      · (intro w hSw; (try dsimp only at hSw); (try simp only [List.getElem_toArray, List.getElem_cons_zero, List.getElem_cons_succ]); go_simp; try with_reducible rfl)
      try simp only [Act.put, List.setIfInBounds_toArray, List.set_cons_zero, List.set_cons_succ]
      refine wpAnyH_ready (rs := [0, 15]) (by kernel_rfl) (by simp) (AllReadyH.cons rfl (fun K hK => ?_) (AllReadyH.cons rfl (fun K hK => ?_) AllReadyH.nil))
      · try simp only [List.getElem_toArray, List.getElem_cons_zero]
        go_simp
        refine hK.out _ _ ?_ (fun hHeld0 => ?_)
        · exact HSv.out W.drew (Only.drewN W 1 _)
        clear hK K
        (try simp only [Act.put]); (try simp only [List.setIfInBounds_toArray]); (try simp only [List.set_cons_succ]); (try simp only [List.set_cons_zero])
        refine wpAnyH_ready (rs := [15]) (by kernel_rfl) (by simp) (AllReadyH.cons rfl (fun K hK => ?_) AllReadyH.nil)
        try simp only [List.getElem_toArray, List.getElem_cons_zero, List.getElem_cons_succ]
        go_simp
        refine hK.out _ _ ?_ (fun hHeld15 => ?_)
        · exact HSv.out _ HOa.out
        clear hK K
        (try simp only [Act.put]); (try simp only [List.setIfInBounds_toArray]); (try simp only [List.set_cons_succ]); (try simp only [List.set_cons_zero])
        refine wpAnyH_ready (rs := [16]) (by kernel_rfl) (by simp) (AllReadyH.cons rfl (fun K hK => ?_) AllReadyH.nil)
        refine step_append_lies _ (by rfl) _ _ _ (by rfl) (w.heap.size + 1) 116 i0 (.agg #[.int .i64 0, .int .i64 0, .int .i64 0]) 3 24 Tryd.underlying113 hi0 hz0 hz1 hz2 rfl (by decide) (.slice av n2 cv) n2 (cellsF L2) (by rfl) (World.ownsRow.alloc HOk.out _) ⟨W.heap.size, 0, none⟩ 1 1 [.int .i64 (numF E x : Int), .int .i64 ((k : Int) + 1 - (x.length : Int)), .int .i64 ((k : Int) + 1)] (by rfl) (by rfl) (World.news_of_block (cs := #[.int .i64 (numF E x : Int), .int .i64 ((k : Int) + 1 - (x.length : Int)), .int .i64 ((k : Int) + 1)]) (t := 116) (fr := (0, 0)) (heap_alloc_new W.drew _)) (by simp [Value.oneCell']) (by omega) (by unfold maxLen; have := HLn.out; omega) (by have := HLn.out; omega) (by have := HLt.out; simp; omega) (W.heap.size + 1) (by simp) ?_
        intro g2 cap2 w2 hown2 hgrow2 _ _
        have HN := hid0 (HJx.out.snoc (f := fdF E k x) HBa.out hgrow2 (by rw [HN2.out]; exact hown2))
        have c2 := HN.out.2.2.1
        have f2 := HN.out.2.2.2
        have HO2 : Hid (Only W w2 (fun k => k = w.heap.size ∨ Value.ownBlock (.slice av n2 cv) = some k)) := hid0 ((Only.ofNew HBa.out (fun k => k = w.heap.size ∨ Value.ownBlock (.slice av n2 cv) = some k)).trans (T := fun k => Value.ownBlock (.slice av n2 cv) = some k) ⟨hgrow2.os, hgrow2.tape, hgrow2.output, hgrow2.size, fun k hk hn => hgrow2.block k hk (fun e => hn e.symm)⟩ (fun i hi => .inl (.inr hi)))
        clear hown2 hgrow2
        refine hK.out _ _ ?_ (fun hHeld16 => ?_)
        · exact HSv.out _ HO2.out
        clear hK K
        (try simp only [Act.put]); (try simp only [List.setIfInBounds_toArray]); (try simp only [List.set_cons_succ]); (try simp only [List.set_cons_zero])
        refine wpAnyH_ready (rs := [17]) (by kernel_rfl) (by simp) (AllReadyH.cons rfl (fun K hK => ?_) AllReadyH.nil)
        try simp only [List.getElem_toArray, List.getElem_cons_zero, List.getElem_cons_succ]
        go_simp
        refine hK.out _ _ ?_ (fun hHeld17 => ?_)
        · exact HSv.out _ HN.out.2.1
        clear hK K
        (try simp only [Act.put]); (try simp only [List.setIfInBounds_toArray]); (try simp only [List.set_cons_succ]); (try simp only [List.set_cons_zero])
        refine wpAnyH_done (by kernel_rfl) ?_ _
        refine NormO.normal ?_
        exact ⟨rfl, HFin.out _ _ HN.out.1 HN.out.2.1⟩
      · try simp only [List.getElem_toArray, List.getElem_cons_zero, List.getElem_cons_succ]
        go_simp
        refine hK.out _ _ ?_ (fun hHeld15 => ?_)
        · exact HSv.out _ HOa.out
        clear hK K
        (try simp only [Act.put]); (try simp only [List.setIfInBounds_toArray]); (try simp only [List.set_cons_succ]); (try simp only [List.set_cons_zero])
        refine wpAnyH_ready (rs := [0]) (by kernel_rfl) (by simp) (AllReadyH.cons rfl (fun K hK => ?_) AllReadyH.nil)
        try simp only [List.getElem_toArray, List.getElem_cons_zero]
        go_simp
        refine hK.out _ _ ?_ (fun hHeld0 => ?_)
        · exact HSv.out _ HOa.out
        clear hK K
        (try simp only [Act.put]); (try simp only [List.setIfInBounds_toArray]); (try simp only [List.set_cons_succ]); (try simp only [List.set_cons_zero])
        refine wpAnyH_ready (rs := [16]) (by kernel_rfl) (by simp) (AllReadyH.cons rfl (fun K hK => ?_) AllReadyH.nil)
        refine step_append_lies _ (by rfl) _ _ _ (by rfl) (w.heap.size + 1) 116 i0 (.agg #[.int .i64 0, .int .i64 0, .int .i64 0]) 3 24 Tryd.underlying113 hi0 hz0 hz1 hz2 rfl (by decide) (.slice av n2 cv) n2 (cellsF L2) (by rfl) (World.ownsRow.alloc HOk.out _) ⟨W.heap.size, 0, none⟩ 1 1 [.int .i64 (numF E x : Int), .int .i64 ((k : Int) + 1 - (x.length : Int)), .int .i64 ((k : Int) + 1)] (by rfl) (by rfl) (World.news_of_block (cs := #[.int .i64 (numF E x : Int), .int .i64 ((k : Int) + 1 - (x.length : Int)), .int .i64 ((k : Int) + 1)]) (t := 116) (fr := (0, 0)) (heap_alloc_new W.drew _)) (by simp [Value.oneCell']) (by omega) (by unfold maxLen; have := HLn.out; omega) (by have := HLn.out; omega) (by have := HLt.out; simp; omega) (W.heap.size + 1) (by simp) ?_
        intro g2 cap2 w2 hown2 hgrow2 _ _
        have HN := hid0 (HJx.out.snoc (f := fdF E k x) HBa.out hgrow2 (by rw [HN2.out]; exact hown2))
        have c2 := HN.out.2.2.1
        have f2 := HN.out.2.2.2
        have HO2 : Hid (Only W w2 (fun k => k = w.heap.size ∨ Value.ownBlock (.slice av n2 cv) = some k)) := hid0 ((Only.ofNew HBa.out (fun k => k = w.heap.size ∨ Value.ownBlock (.slice av n2 cv) = some k)).trans (T := fun k => Value.ownBlock (.slice av n2 cv) = some k) ⟨hgrow2.os, hgrow2.tape, hgrow2.output, hgrow2.size, fun k hk hn => hgrow2.block k hk (fun e => hn e.symm)⟩ (fun i hi => .inl (.inr hi)))
        clear hown2 hgrow2
        refine hK.out _ _ ?_ (fun hHeld16 => ?_)
        · exact HSv.out _ HO2.out
        clear hK K
        (try simp only [Act.put]); (try simp only [List.setIfInBounds_toArray]); (try simp only [List.set_cons_succ]); (try simp only [List.set_cons_zero])
        refine wpAnyH_ready (rs := [17]) (by kernel_rfl) (by simp) (AllReadyH.cons rfl (fun K hK => ?_) AllReadyH.nil)
        try simp only [List.getElem_toArray, List.getElem_cons_zero, List.getElem_cons_succ]
        go_simp
        refine hK.out _ _ ?_ (fun hHeld17 => ?_)
        · exact HSv.out _ HN.out.2.1
        clear hK K
        (try simp only [Act.put]); (try simp only [List.setIfInBounds_toArray]); (try simp only [List.set_cons_succ]); (try simp only [List.set_cons_zero])
        refine wpAnyH_done (by kernel_rfl) ?_ _
        refine NormO.normal ?_
        exact ⟨rfl, HFin.out _ _ HN.out.1 HN.out.2.1⟩
    case done =>
      rintro W ⟨v2, h1, h2, h3, h4⟩ hk2
      have HJ3 : Hid (AJ w W lo hi T E bk mp v2 (allK E l (k + 1))) := hid0 (by rw [HEn.out] at h1; exact h1)
      have HM3 : Hid ((∀ d ∈ w1.heap.size :: ds, w.heap.size ≤ d ∧ W.heap[d]? = some (.deferred (some []))) ∧ (w1.heap.size :: ds).Nodup) := hid0 (by
        have hl := HLt.out
        refine ⟨fun d hd => ?_, List.nodup_cons.2 ⟨fun hd => by have := hl.2.2.1 _ hd; omega, HM.out.2⟩⟩
        rcases List.mem_cons.1 hd with rfl | hd
        · exact ⟨by omega, hk2⟩
        · exact ⟨(HM.out.1 d hd).1, h3 d hd⟩)
      clear h1 h2 h3 h4 hk2
      gi_wp2
      exact ⟨⟨k + 1, _, v2, w1.heap.size :: ds, _, _, _, _, _, _, _, _, _, _, _, _, _, _, _, _, _, _, _, _, _, _, _, _, _, _, _, _, _, _, _, _, hlt, hid0 rfl, HJ3, HM3, rfl⟩, by simp [intOf]; omega⟩
  · have hkI : ¬ (k : Int) < (l.length : Int) := by omega
    have hke : k = l.length := by omega
    have HJe : Hid (AJ w wr lo hi T E bk mp v (allK E l l.length)) := hid0 (by have h := HJ.out; rw [hke] at h; exact h)
    have c5 : wr.cell? ⟨w.heap.size, 0, none⟩ = some v := by rw [cell_of_row _ _ _ _ _ _ HJe.out.box]; rfl
    obtain ⟨av, cv, rfl⟩ := HJe.out.form
    clear hke HJ
    gi_wp2
    refine leaves_marks w.heap.size ds wr HM.out.1 HM.out.2 (fun W hW => ?_)
    refine ⟨_, results_tmp rfl _ _ _, ?_⟩
    have hj := HJe.out.only hW (fun d hd => by
      have h1 := HM.out.1 d hd
      rcases Nat.lt_or_ge w.heap.size d with h2 | h2
      · exact h2
      · have h3 := HJe.out.box
        rw [show w.heap.size = d by omega, h1.2] at h3
        cases h3) (fun g hg hd => by
      obtain ⟨cur, fr, hr⟩ := HJe.out.row hg
      rw [(HM.out.1 g hd).2] at hr
      cases hr)
    exact ⟨_, rfl, owns_lower hj.own (Nat.le_succ _), hj.bel⟩
end Go.Proofs.YtekimkdaoblcgaaDoor
namespace Go.Proofs.YtekimkdaoblcgaaDoor
open Go.RowKit Go.Shelf Go.Lib Go.Maps
/-- Founds in memory, each where it is asked. -/
structure FA (w : World) (a : Option Addr) (L : List Fd) : Prop where
  at' : ∀ k (h : k < L.length), ∃ b off, a = some ⟨b, off, none⟩ ∧ b < w.heap.size ∧
    w.cell? ⟨b, off + k * 3, none⟩ = some (.int .i64 L[k].1) ∧ w.cell? ⟨b, off + k * 3 + 1, none⟩ = some (.int .i64 L[k].2.1) ∧ w.cell? ⟨b, off + k * 3 + 2, none⟩ = some (.int .i64 L[k].2.2)
theorem FA.past {w w' : World} {a : Option Addr} {L : List Fd} (h : FA w a L) (hb : Below w.heap.size w w') : FA w' a L := ⟨fun k hk => by
  obtain ⟨b, off, rfl, h1, c0, c1, c2⟩ := h.at' k hk
  exact ⟨b, off, rfl, Nat.lt_of_lt_of_le h1 hb.size, (hb.cell (p := ⟨b, off + k * 3, none⟩) h1).trans c0, (hb.cell (p := ⟨b, off + k * 3 + 1, none⟩) h1).trans c1, (hb.cell (p := ⟨b, off + k * 3 + 2, none⟩) h1).trans c2⟩⟩
theorem cellsF_at (L : List Fd) : ∀ (k : Nat) (h : k < L.length), (cellsF L)[k * 3]? = some (.int .i64 L[k].1) ∧ (cellsF L)[k * 3 + 1]? = some (.int .i64 L[k].2.1) ∧ (cellsF L)[k * 3 + 2]? = some (.int .i64 L[k].2.2) := by
  induction L with
  | nil => intro k h; simp at h
  | cons u us ih =>
    intro k h
    have e : cellsF (u :: us) = .int .i64 u.1 :: .int .i64 u.2.1 :: .int .i64 u.2.2 :: cellsF us := rfl
    cases k with
    | zero => rw [e]; simp
    | succ k =>
      have := ih k (by simpa using h)
      rw [e, show (k + 1) * 3 = k * 3 + 1 + 1 + 1 by omega, show k * 3 + 1 + 1 + 1 + 1 = (k * 3 + 1) + 1 + 1 + 1 by omega, show k * 3 + 1 + 1 + 1 + 2 = (k * 3 + 2) + 1 + 1 + 1 by omega]
      simpa using this
theorem OwnF.fa {w : World} {base : Nat} {v : Value} {L : List Fd} (h : OwnF w base v L) : ∃ a cap, v = .slice a L.length cap ∧ FA w a L := by
  have h0 := h
  rcases h.2 with ⟨rfl, hn⟩ | ⟨g, cap, cur, rfl, _⟩
  · exact ⟨none, 0, by rw [hn], ⟨fun k hk => by omega⟩⟩
  · refine ⟨_, cap, rfl, ⟨fun k hk => ⟨g, 0, rfl, (World.ownsRow.lt h0 g rfl).2, ?_⟩⟩⟩
    obtain ⟨a, b, c⟩ := cellsF_at L k hk
    rw [Nat.zero_add, World.ownsRow.cellAt h0 _ (by omega), World.ownsRow.cellAt h0 _ (by omega), World.ownsRow.cellAt h0 _ (by omega)]
    exact ⟨a, b, c⟩
theorem OwnF.past {w w' : World} {base : Nat} {v : Value} {L : List Fd} (h : OwnF w base v L) (hb : Below w.heap.size w w') : OwnF w' base v L := own_blk h (fun k e => hb.block k (World.ownsRow.lt h k e).2)
/-- Numbers that were just laid. -/
theorem ia_new (w : World) (vs : List Int) (o : Obj) (ho : o = .cells (vs.map (Value.int .i64)).toArray 3 (0, 0)) : IA (w.alloc o) (some ⟨w.heap.size, 0, none⟩) vs := ⟨fun k hk => by
  subst ho
  exact ⟨w.heap.size, 0, rfl, by simp, by rw [cell_of_row _ _ _ _ _ _ (heap_alloc_new w _), Nat.zero_add]; simp [hk]⟩⟩
def E0 : List (List Int) := [[97, 98], [98], [97, 98, 99], [99, 97]]
theorem new0 : newE E0 = none := by decide
theorem siz0 : szK E0 E0.length = 6 := by decide
theorem lng0 : lngO E0 [120, 97, 98, 99] 1 = some [97, 98, 99] := by decide
theorem end0 : endO E0 [120, 97, 98, 99] 3 = some [97, 98] := by decide
theorem all0 : allK E0 [97, 98, 99, 97] ([97, 98, 99, 97] : List Int).length = [(0, 0, 2), (1, 1, 2), (2, 0, 3), (3, 2, 4)] := by decide
/-- The four entries, laid. -/
theorem rows0 (w : World) : ∃ w5, ((((w.alloc (.cells #[.int .i64 97, .int .i64 98] 3)).alloc (.cells #[.int .i64 98] 3)).alloc (.cells #[.int .i64 97, .int .i64 98, .int .i64 99] 3)).alloc (.cells #[.int .i64 99, .int .i64 97] 3)).alloc (.cells #[.slice (some ⟨w.heap.size, 0, none⟩) 2 2, .slice (some ⟨w.heap.size + 1, 0, none⟩) 1 1, .slice (some ⟨w.heap.size + 1 + 1, 0, none⟩) 3 3, .slice (some ⟨w.heap.size + 1 + 1 + 1, 0, none⟩) 2 2] 28) = w5 ∧ Below w.heap.size w w5 ∧ RwA w5 (some ⟨w.heap.size + 1 + 1 + 1 + 1, 0, none⟩) E0 := by
  obtain ⟨w1, h1⟩ : ∃ w1, w.alloc (.cells #[.int .i64 97, .int .i64 98] 3) = w1 := ⟨_, rfl⟩
  obtain ⟨w2, h2⟩ : ∃ w2, w1.alloc (.cells #[.int .i64 98] 3) = w2 := ⟨_, rfl⟩
  obtain ⟨w3, h3⟩ : ∃ w3, w2.alloc (.cells #[.int .i64 97, .int .i64 98, .int .i64 99] 3) = w3 := ⟨_, rfl⟩
  obtain ⟨w4, h4⟩ : ∃ w4, w3.alloc (.cells #[.int .i64 99, .int .i64 97] 3) = w4 := ⟨_, rfl⟩
  rw [h1, h2, h3, h4]
  have s1 : w1.heap.size = w.heap.size + 1 := by rw [← h1]; simp
  have s2 : w2.heap.size = w.heap.size + 1 + 1 := by rw [← h2]; simp [s1]
  have s3 : w3.heap.size = w.heap.size + 1 + 1 + 1 := by rw [← h3]; simp [s2]
  have s4 : w4.heap.size = w.heap.size + 1 + 1 + 1 + 1 := by rw [← h4]; simp [s3]
  have b1 : Below w.heap.size w w1 := by rw [← h1]; exact (Below.refl _ _).alloc (Nat.le_refl _) _
  have b2 : Below w1.heap.size w1 w2 := by rw [← h2]; exact (Below.refl _ _).alloc (Nat.le_refl _) _
  have b3 : Below w2.heap.size w2 w3 := by rw [← h3]; exact (Below.refl _ _).alloc (Nat.le_refl _) _
  have b4 : Below w3.heap.size w3 w4 := by rw [← h4]; exact (Below.refl _ _).alloc (Nat.le_refl _) _
  refine ⟨_, rfl, ?_, ?_⟩
  · exact (b1.trans ((b2.trans ((b3.trans (b4.mono (by omega))).mono (by omega))).mono (by omega))).alloc (by omega) _
  · generalize hw5 : w4.alloc (.cells #[.slice (some ⟨w.heap.size, 0, none⟩) 2 2, .slice (some ⟨w.heap.size + 1, 0, none⟩) 1 1, .slice (some ⟨w.heap.size + 1 + 1, 0, none⟩) 3 3, .slice (some ⟨w.heap.size + 1 + 1 + 1, 0, none⟩) 2 2] 28) = w5
    have b5 : Below w4.heap.size w4 w5 := by rw [← hw5]; exact (Below.refl _ _).alloc (Nat.le_refl _) _
    have i1 : IA w5 (some ⟨w.heap.size, 0, none⟩) [97, 98] := ((((by rw [← h1]; exact ia_new w [97, 98] _ rfl : IA w1 (some ⟨w.heap.size, 0, none⟩) [97, 98]).past b2).past b3).past b4).past b5
    have i2 : IA w5 (some ⟨w.heap.size + 1, 0, none⟩) [98] := (((by rw [← h2, ← s1]; exact ia_new w1 [98] _ rfl : IA w2 (some ⟨w.heap.size + 1, 0, none⟩) [98]).past b3).past b4).past b5
    have i3 : IA w5 (some ⟨w.heap.size + 1 + 1, 0, none⟩) [97, 98, 99] := ((by rw [← h3, ← s2]; exact ia_new w2 [97, 98, 99] _ rfl : IA w3 (some ⟨w.heap.size + 1 + 1, 0, none⟩) [97, 98, 99]).past b4).past b5
    have i4 : IA w5 (some ⟨w.heap.size + 1 + 1 + 1, 0, none⟩) [99, 97] := (by rw [← h4, ← s3]; exact ia_new w3 [99, 97] _ rfl : IA w4 (some ⟨w.heap.size + 1 + 1 + 1, 0, none⟩) [99, 97]).past b5
    have hr : w5.heap[w.heap.size + 1 + 1 + 1 + 1]? = some (.cells #[.slice (some ⟨w.heap.size, 0, none⟩) 2 2, .slice (some ⟨w.heap.size + 1, 0, none⟩) 1 1, .slice (some ⟨w.heap.size + 1 + 1, 0, none⟩) 3 3, .slice (some ⟨w.heap.size + 1 + 1 + 1, 0, none⟩) 2 2] 28 (0, 0)) := by
      rw [← hw5, ← s4]
      exact heap_alloc_new _ _
    have hlt := (Array.getElem?_eq_some_iff.1 hr).1
    refine ⟨fun k hk => ⟨_, 0, rfl, hlt, ?_⟩⟩
    rw [cell_of_row _ _ _ _ _ _ hr, Nat.zero_add]
    have hk4 : k < 4 := hk
    rcases (show k = 0 ∨ k = 1 ∨ k = 2 ∨ k = 3 by omega) with rfl | rfl | rfl | rfl
    · exact ⟨_, 2, rfl, i1⟩
    · exact ⟨_, 1, rfl, i2⟩
    · exact ⟨_, 3, rfl, i3⟩
    · exact ⟨_, 2, rfl, i4⟩
theorem fa0 (w : World) : FA (w.alloc (.cells #[.int .i64 0, .int .i64 0, .int .i64 2, .int .i64 1, .int .i64 1, .int .i64 2, .int .i64 2, .int .i64 0, .int .i64 3, .int .i64 3, .int .i64 2, .int .i64 4] 116)) (some ⟨w.heap.size, 0, none⟩) [(0, 0, 2), (1, 1, 2), (2, 0, 3), (3, 2, 4)] := ⟨fun k hk => by
  have hr := heap_alloc_new w (.cells #[.int .i64 0, .int .i64 0, .int .i64 2, .int .i64 1, .int .i64 1, .int .i64 2, .int .i64 2, .int .i64 0, .int .i64 3, .int .i64 3, .int .i64 2, .int .i64 4] 116)
  refine ⟨_, 0, rfl, by simp, ?_⟩
  rw [cell_of_row _ _ _ _ _ _ hr, cell_of_row _ _ _ _ _ _ hr, cell_of_row _ _ _ _ _ _ hr]
  have hk4 : k < 4 := hk
  rcases (show k = 0 ∨ k = 1 ∨ k = 2 ∨ k = 3 by omega) with rfl | rfl | rfl | rfl <;> exact ⟨rfl, rfl, rfl⟩⟩
theorem inI_small {c : Int} (h : 0 ≤ c ∧ c ≤ 1000000) : inI c := by
  simp [inI, Lit.wf, IntKind.min, IntKind.max, IntKind.bits, IntKind.signed]
  omega
end Go.Proofs.YtekimkdaoblcgaaDoor
namespace Go.Proofs.YtekimkdaoblcgaaDoor
def movF (f : Nat) (x : Fd) : Fd := (x.1, x.2.1 - (f : Int), x.2.2 - (f : Int))
def keepB (f t : Nat) (x : Fd) : Bool := decide ((f : Int) ≤ x.2.1) && decide (x.2.2 ≤ (t : Int))
theorem keepB_iff {f t : Nat} {x : Fd} : keepB f t x = true ↔ (f : Int) ≤ x.2.1 ∧ x.2.2 ≤ (t : Int) := by simp [keepB]
theorem ends_filter (E : List (List Int)) (m : Nat) (q : List Int) : (endsF E q).filter (fun e => decide (e.length ≤ m)) = endsF E (q.drop (q.length - m)) := by
  induction q with
  | nil => simp [endsF]
  | cons x xs ih =>
    by_cases h : (x :: xs).length ≤ m
    · rw [show (x :: xs).length - m = 0 by omega, List.drop_zero, List.filter_eq_self]
      intro e he
      have := (ends_mem he).2.1.length_le
      exact decide_eq_true (by omega)
    · have e1 : (x :: xs).length - m = (xs.length - m) + 1 := by simp only [List.length_cons] at *; omega
      rw [e1, List.drop_succ_cons, ← ih]
      have e2 : endsF E (x :: xs) = if (x :: xs) ∈ E then (x :: xs) :: endsF E xs else endsF E xs := rfl
      rw [e2]
      split
      · rw [List.filter_cons_of_neg (by simp only [decide_eq_true_eq]; exact h)]
      · rfl
theorem part_low {E : List (List Int)} {l : List Int} {k f t : Nat} (h : k < f ∨ t ≤ k) : ((endsF E (l.take (k + 1))).map (fdF E k)).filter (keepB f t) = [] := by
  rw [List.filter_eq_nil_iff]
  intro y hy
  obtain ⟨e, he, rfl⟩ := List.mem_map.1 hy
  have hne := (ends_mem he).2.2
  have hpos : 0 < e.length := List.length_pos_iff.2 hne
  intro h1
  have h2 := keepB_iff.1 h1
  have h3 : (fdF E k e).2.1 = (k : Int) + 1 - (e.length : Int) := rfl
  have h4 : (fdF E k e).2.2 = (k : Int) + 1 := rfl
  omega
theorem part_mid {E : List (List Int)} {l : List Int} {k f t : Nat} (hf : f ≤ k) (ht : k < t) (hk : k < l.length) : (((endsF E (l.take (k + 1))).map (fdF E k)).filter (keepB f t)).map (movF f) = (endsF E (((l.take t).drop f).take (k - f + 1))).map (fdF E (k - f)) := by
  rw [List.filter_map, List.map_map]
  have h1 : (endsF E (l.take (k + 1))).filter (keepB f t ∘ fdF E k) = endsF E ((l.take (k + 1)).drop f) := by
    have h2 := ends_filter E (k + 1 - f) (l.take (k + 1))
    rw [List.length_take, Nat.min_eq_left (by omega), show k + 1 - (k + 1 - f) = f by omega] at h2
    rw [← h2]
    apply List.filter_congr
    intro e he
    have h3 : (fdF E k e).2.1 = (k : Int) + 1 - (e.length : Int) := rfl
    have h4 : (fdF E k e).2.2 = (k : Int) + 1 := rfl
    apply Bool.eq_iff_iff.2
    rw [Function.comp, keepB_iff, decide_eq_true_eq]
    omega
  rw [h1, show ((l.take t).drop f).take (k - f + 1) = (l.take (k + 1)).drop f by
    rw [List.take_drop, List.take_take, show min (f + (k - f + 1)) t = k + 1 by omega]]
  apply List.map_congr_left
  intro e _
  simp only [Function.comp, movF, fdF]
  refine Prod.ext rfl (Prod.ext ?_ ?_)
  · show (k : Int) + 1 - (e.length : Int) - (f : Int) = ((k - f : Nat) : Int) + 1 - (e.length : Int)
    omega
  · show (k : Int) + 1 - (f : Int) = ((k - f : Nat) : Int) + 1
    omega
theorem pieces_upto (E : List (List Int)) (l : List Int) (f t : Nat) (ht : t ≤ l.length) : ∀ k, k ≤ l.length → ((allK E l k).filter (keepB f t)).map (movF f) = allK E ((l.take t).drop f) (min k t - f)
  | 0, _ => by rw [Nat.zero_min, Nat.zero_sub]; rfl
  | k + 1, hk => by
    rw [allK, List.filter_append, List.map_append, pieces_upto E l f t ht k (by omega)]
    by_cases h : k < f ∨ t ≤ k
    · rw [part_low h, List.map_nil, List.append_nil]
      congr 1
      omega
    · rw [part_mid (by omega) (by omega) (by omega), show min (k + 1) t - f = (k - f) + 1 by omega, show min k t - f = k - f by omega]
      rfl
theorem pieces_all (E : List (List Int)) (l : List Int) (f t : Nat) (ht : t ≤ l.length) : ((allK E l l.length).filter (keepB f t)).map (movF f) = allK E ((l.take t).drop f) ((l.take t).drop f).length := by
  rw [pieces_upto E l f t ht l.length (Nat.le_refl _), List.length_drop, List.length_take, Nat.min_comm]
/-- What is wanted of the first k. -/
def wantK (f t : Nat) (L : List Fd) (k : Nat) : List Fd := ((L.take k).filter (keepB f t)).map (movF f)
theorem wantK_yes {f t : Nat} {L : List Fd} {k : Nat} (hk : k < L.length) (h : keepB f t L[k] = true) : wantK f t L (k + 1) = wantK f t L k ++ [movF f L[k]] := by
  unfold wantK
  rw [List.take_add_one, List.getElem?_eq_getElem hk, Option.toList_some, List.filter_append, List.filter_cons_of_pos h, List.map_append]
  rfl
theorem wantK_no {f t : Nat} {L : List Fd} {k : Nat} (hk : k < L.length) (h : keepB f t L[k] = false) : wantK f t L (k + 1) = wantK f t L k := by
  unfold wantK
  rw [List.take_add_one, List.getElem?_eq_getElem hk, Option.toList_some, List.filter_append, List.filter_cons_of_neg (by simp [h]), List.filter_nil, List.append_nil]
theorem wantK_len (f t : Nat) (L : List Fd) (k : Nat) : (wantK f t L k).length ≤ L.length := by
  unfold wantK
  rw [List.length_map]
  exact Nat.le_trans (List.length_filter_le _ _) (by rw [List.length_take]; omega)
/-- How small the numbers of what All tells are. -/
theorem allK_small {E : List (List Int)} {l : List Int} (hl : ∀ e ∈ E, e.length ≤ 32) (hE : E.length ≤ 1000000) : ∀ k, ∀ x ∈ allK E l k, (0 ≤ x.1 ∧ x.1 ≤ 1000000) ∧ (-32 ≤ x.2.1 ∧ x.2.1 ≤ k) ∧ (1 ≤ x.2.2 ∧ x.2.2 ≤ k)
  | 0, x, h => by cases h
  | k + 1, x, h => by
    rcases List.mem_append.1 h with h | h
    · have := allK_small hl hE k x h
      omega
    · obtain ⟨e, he, rfl⟩ := List.mem_map.1 h
      have h1 := hl e (ends_mem he).1
      have h2 := numF_lt (ends_mem he).1
      have h3 : 0 < e.length := List.length_pos_iff.2 (ends_mem he).2.2
      simp only [fdF]
      omega
end Go.Proofs.YtekimkdaoblcgaaDoor
namespace Go.Proofs.YtekimkdaoblcgaaDoor
/-- Does an entry stand at a place? -/
def stdB (e l : List Int) (a : Nat) : Bool := decide ((l.drop a).take e.length = e)
theorem std_len {e l : List Int} {a : Nat} (h : stdB e l a = true) (he : e ≠ []) : a + e.length ≤ l.length := by
  have h1 := congrArg List.length (of_decide_eq_true h)
  rw [List.length_take, List.length_drop] at h1
  have : 0 < e.length := List.length_pos_iff.2 he
  omega
theorem std_suffix {e l : List Int} {k : Nat} (hk : k < l.length) (hle : e.length ≤ k + 1) : stdB e l (k + 1 - e.length) = true ↔ e <:+ l.take (k + 1) := by
  rw [stdB, decide_eq_true_eq, List.suffix_iff_eq_drop, List.length_take, Nat.min_eq_left (by omega)]
  have h1 : (l.drop (k + 1 - e.length)).take e.length = (l.take (k + 1)).drop (k + 1 - e.length) := by
    rw [List.take_drop, show k + 1 - e.length + e.length = k + 1 by omega]
  rw [h1]
  exact ⟨fun h => h.symm, fun h => h.symm⟩
def cntS (e l : List Int) : Nat → Nat
  | 0 => 0
  | m + 1 => cntS e l m + if stdB e l m = true then 1 else 0
def cntC (e l : List Int) : Nat → Nat
  | 0 => 0
  | k + 1 => cntC e l k + if e <:+ l.take (k + 1) then 1 else 0
def sumE (f : List Int → Nat) : List (List Int) → Nat
  | [] => 0
  | e :: r => f e + sumE f r
theorem sumE_add (f g : List Int → Nat) (E : List (List Int)) : sumE (fun e => f e + g e) E = sumE f E + sumE g E := by
  induction E with
  | nil => rfl
  | cons e r ih => simp only [sumE, ih]; omega
theorem sumE_congr {f g : List Int → Nat} {E : List (List Int)} (h : ∀ e ∈ E, f e = g e) : sumE f E = sumE g E := by
  induction E with
  | nil => rfl
  | cons e r ih =>
    simp only [sumE]
    rw [h e (.head _), ih (fun x hx => h x (.tail _ hx))]
theorem sumE_snoc (f : List Int → Nat) (E : List (List Int)) (e : List Int) : sumE f (E ++ [e]) = sumE f E + f e := by
  induction E with
  | nil => simp [sumE]
  | cons x r ih => simp only [List.cons_append, sumE, ih]; omega
theorem sumE_one (p : List Int → Prop) [DecidablePred p] (E : List (List Int)) : (E.filter fun e => decide (p e)).length = sumE (fun e => if p e then 1 else 0) E := by
  induction E with
  | nil => rfl
  | cons e r ih =>
    by_cases h : p e
    · rw [List.filter_cons_of_pos (by simpa using h), List.length_cons, ih]
      simp only [sumE, if_pos h]
      omega
    · rw [List.filter_cons_of_neg (by simpa using h), ih]
      simp only [sumE, if_neg h]
      omega
theorem ends_dec (E : List (List Int)) (q : List Int) : (endsF E q).Pairwise fun x y => y.length < x.length := by
  induction q with
  | nil => exact List.Pairwise.nil
  | cons x xs ih =>
    unfold endsF
    split
    · refine List.Pairwise.cons (fun y hy => ?_) ih
      have := (ends_mem hy).2.1.length_le
      simp only [List.length_cons]
      omega
    · exact ih
theorem ends_count {E : List (List Int)} (hn : E.Nodup) (h0 : [] ∉ E) (q : List Int) : (endsF E q).length = (E.filter fun e => decide (e <:+ q)).length := by
  have h1 : (endsF E q).Nodup := (ends_dec E q).imp (fun {a b} h e => by rw [e] at h; omega)
  have h2 : (E.filter fun e => decide (e <:+ q)).Nodup := hn.filter _
  refine Nat.le_antisymm (nodup_len h1 (fun e he => ?_)) (nodup_len h2 (fun e he => ?_))
  · rw [List.mem_filter]
    exact ⟨(ends_mem he).1, decide_eq_true (ends_mem he).2.1⟩
  · obtain ⟨h3, h4⟩ := List.mem_filter.1 he
    exact ends_of h3 (of_decide_eq_true h4) (fun e0 => h0 (by rw [← e0]; exact h3))
theorem all_sum {E : List (List Int)} (hn : E.Nodup) (h0 : [] ∉ E) (l : List Int) : ∀ k, (allK E l k).length = sumE (fun e => cntC e l k) E
  | 0 => by
    have : ∀ E : List (List Int), sumE (fun _ => 0) E = 0 := fun E => by
      induction E with
      | nil => rfl
      | cons e r ih => simp only [sumE, ih]
    exact (this E).symm
  | k + 1 => by
    rw [allK, List.length_append, List.length_map, all_sum hn h0 l k, ends_count hn h0, sumE_one, ← sumE_add]
    rfl
theorem cnt_shift {e l : List Int} (he : e ≠ []) : ∀ k, k ≤ l.length → cntC e l k = cntS e l (k + 1 - e.length)
  | 0, _ => by
    have : 0 < e.length := List.length_pos_iff.2 he
    rw [show 0 + 1 - e.length = 0 by omega]
    rfl
  | k + 1, hk => by
    rw [cntC, cnt_shift he k (by omega)]
    by_cases h : e.length ≤ k + 1
    · rw [show k + 1 + 1 - e.length = (k + 1 - e.length) + 1 by omega, cntS]
      congr 1
      by_cases hs : e <:+ l.take (k + 1)
      · rw [if_pos hs, if_pos ((std_suffix (by omega) h).2 hs)]
      · rw [if_neg hs, if_neg (fun q => hs ((std_suffix (by omega) h).1 q))]
    · have hs : ¬ e <:+ l.take (k + 1) := fun q => by
        have := q.length_le
        rw [List.length_take] at this
        omega
      rw [if_neg hs, show k + 1 - e.length = 0 by omega, show k + 1 + 1 - e.length = 0 by omega, Nat.add_zero]
theorem cnt_rest {e l : List Int} (he : e ≠ []) : ∀ d, cntS e l (l.length + 1 - e.length + d) = cntS e l (l.length + 1 - e.length)
  | 0 => rfl
  | d + 1 => by
    have : ¬ stdB e l (l.length + 1 - e.length + d) = true := fun h => by
      have := std_len h he
      have : 0 < e.length := List.length_pos_iff.2 he
      omega
    rw [← Nat.add_assoc, cntS, if_neg this, cnt_rest he d, Nat.add_zero]
theorem cnt_all {E : List (List Int)} (hn : E.Nodup) (h0 : [] ∉ E) (l : List Int) : (allK E l l.length).length = sumE (fun e => cntS e l l.length) E := by
  rw [all_sum hn h0]
  refine sumE_congr (fun e he => ?_)
  have hne : e ≠ [] := fun e0 => h0 (by rw [← e0]; exact he)
  have hp : 0 < e.length := List.length_pos_iff.2 hne
  rw [cnt_shift hne l.length (Nat.le_refl _)]
  by_cases h : e.length ≤ l.length
  · have := cnt_rest (l := l) hne (e.length - 1)
    rw [show l.length + 1 - e.length + (e.length - 1) = l.length by omega] at this
    exact this.symm
  · have := cnt_rest (l := l) hne l.length
    rw [show l.length + 1 - e.length + l.length = l.length by omega] at this
    exact this.symm
/-- What is found is an entry that stands there. -/
theorem all_mem {E : List (List Int)} {l : List Int} : ∀ k, k ≤ l.length → ∀ x ∈ allK E l k, ∃ (j s : Nat) (hj : j < E.length), x = ((j : Int), (s : Int), (s : Int) + ((E[j]).length : Int)) ∧ stdB E[j] l s = true ∧ s < l.length
  | 0, _, x, h => by cases h
  | k + 1, hk, x, h => by
    rcases List.mem_append.1 h with h | h
    · exact all_mem k (by omega) x h
    · obtain ⟨e, he, rfl⟩ := List.mem_map.1 h
      have h1 := (ends_mem he).2.1.length_le
      rw [List.length_take] at h1
      have h2 : 0 < e.length := List.length_pos_iff.2 (ends_mem he).2.2
      refine ⟨numF E e, k + 1 - e.length, numF_lt (ends_mem he).1, ?_, ?_, by omega⟩
      · rw [numF_at (ends_mem he).1]
        refine Prod.ext rfl (Prod.ext ?_ ?_)
        · show (k : Int) + 1 - (e.length : Int) = ((k + 1 - e.length : Nat) : Int)
          omega
        · show (k : Int) + 1 = ((k + 1 - e.length : Nat) : Int) + (e.length : Int)
          omega
      · rw [numF_at (ends_mem he).1]
        exact (std_suffix (by omega) (by omega)).2 (ends_mem he).2.1
theorem all_ord (E : List (List Int)) (l : List Int) : ∀ k, (allK E l k).Pairwise fun x y => x.2.2 < y.2.2 ∨ x.2.2 = y.2.2 ∧ x.2.1 < y.2.1
  | 0 => List.Pairwise.nil
  | k + 1 => by
    rw [allK, List.pairwise_append]
    refine ⟨all_ord E l k, ?_, fun x hx y hy => ?_⟩
    · rw [List.pairwise_map]
      refine (ends_dec E _).imp (fun {a b} h => .inr ⟨rfl, ?_⟩)
      show (k : Int) + 1 - (a.length : Int) < (k : Int) + 1 - (b.length : Int)
      omega
    · obtain ⟨e, he, rfl⟩ := List.mem_map.1 hy
      left
      have : ∀ k, ∀ x ∈ allK E l k, x.2.2 ≤ (k : Int) := fun k => by
        induction k with
        | zero => intro x h; cases h
        | succ k ih =>
          intro x h
          rcases List.mem_append.1 h with h | h
          · have := ih x h; omega
          · obtain ⟨e, _, rfl⟩ := List.mem_map.1 h
            show (k : Int) + 1 ≤ ((k + 1 : Nat) : Int)
            omega
      have h1 := this k x hx
      show x.2.2 < (k : Int) + 1
      omega
end Go.Proofs.YtekimkdaoblcgaaDoor
namespace Go.Proofs.YtekimkdaoblcgaaDoor
open Go.RowKit Go.Shelf Go.Lib Go.Maps
/-- Stands the entry there? At any place. -/
def stI (e l : List Int) (t : Int) : Bool := decide (0 ≤ t) && stdB e l t.toNat
theorem stI_iff {e l : List Int} {t : Int} : stI e l t = true ↔ 0 ≤ t ∧ stdB e l t.toNat = true := by simp [stI]
theorem lpK_none {E : List (List Int)} {l : List Int} : ∀ {k : Nat}, lpK E l k = none → ∀ m, m < k → l.take (m + 1) ∉ E
  | 0, _, m, h => absurd h (Nat.not_lt_zero m)
  | k + 1, h, m, hm => by
    rw [lpK] at h
    split at h
    · cases h
    · rename_i hn
      by_cases e : m = k
      · rw [e]; exact hn
      · exact lpK_none h m (by omega)
theorem lpK_some {E : List (List Int)} {l e : List Int} : ∀ {k : Nat}, lpK E l k = some e → e ∈ E ∧ ∃ m, m < k ∧ e = l.take (m + 1) ∧ ∀ m', m < m' → m' < k → l.take (m' + 1) ∉ E
  | 0, h => by cases h
  | k + 1, h => by
    rw [lpK] at h
    split at h
    · rename_i hn
      injection h with h
      subst h
      exact ⟨hn, k, by omega, rfl, fun m' h1 h2 => by omega⟩
    · rename_i hn
      obtain ⟨h1, m, h2, h3, h4⟩ := lpK_some h
      refine ⟨h1, m, by omega, h3, fun m' h5 h6 => ?_⟩
      by_cases e : m' = k
      · rw [e]; exact hn
      · exact h4 m' h5 (by omega)
/-- The longest entry that stands there. -/
def LonS (E : List (List Int)) (l : List Int) (t : Int) : Option (List Int) → Prop
  | none => ∀ e ∈ E, stI e l t = false
  | some e => e ∈ E ∧ stI e l t = true ∧ ∀ e' ∈ E, stI e' l t = true → e'.length ≤ e.length
theorem lng_lon {E : List (List Int)} (h0 : [] ∉ E) (l : List Int) (t : Int) : LonS E l t (lngO E l t) := by
  have hf : ∀ e ∈ E, stI e l t = true → 0 ≤ t ∧ t < (l.length : Int) ∧ ∃ m, e.length = m + 1 ∧ m < l.length - t.toNat ∧ (l.drop t.toNat).take (m + 1) = e := fun e he hs => by
    obtain ⟨h1, h2⟩ := stI_iff.1 hs
    have hne : e ≠ [] := fun e0 => h0 (by rw [← e0]; exact he)
    have h3 := std_len h2 hne
    have h4 : 0 < e.length := List.length_pos_iff.2 hne
    have h5 := of_decide_eq_true h2
    refine ⟨h1, by omega, e.length - 1, by omega, by omega, ?_⟩
    rw [show e.length - 1 + 1 = e.length by omega]
    exact h5
  unfold lngO
  split
  · intro e he
    cases hs : stI e l t with
    | false => rfl
    | true => have := hf e he hs; omega
  · cases hl : lpK E (l.drop t.toNat) (l.length - t.toNat) with
    | none =>
      intro e he
      cases hs : stI e l t with
      | false => rfl
      | true =>
        obtain ⟨_, _, m, _, h3, h4⟩ := hf e he hs
        exact absurd (by rw [h4]; exact he) (lpK_none hl m h3)
    | some e =>
      obtain ⟨h1, m, h2, h3, h4⟩ := lpK_some hl
      have hle : e.length = m + 1 := by rw [h3, List.length_take, List.length_drop]; omega
      refine ⟨h1, stI_iff.2 ⟨by omega, decide_eq_true (by rw [hle]; exact h3.symm)⟩, fun e' he' hs' => ?_⟩
      obtain ⟨_, _, m', h5, h6, h7⟩ := hf e' he' hs'
      by_cases hq : m < m'
      · exact absurd (by rw [h7]; exact he') (h4 m' hq h6)
      · omega
/-- The longest entry that ends there. -/
def EndS (E : List (List Int)) (l : List Int) (t : Int) : Option (List Int) → Prop
  | none => ∀ e ∈ E, (e.length : Int) ≤ t → t ≤ (l.length : Int) → stI e l (t - (e.length : Int)) = false
  | some e => e ∈ E ∧ (e.length : Int) ≤ t ∧ t ≤ (l.length : Int) ∧ stI e l (t - (e.length : Int)) = true ∧ ∀ e' ∈ E, (e'.length : Int) ≤ t → stI e' l (t - (e'.length : Int)) = true → e'.length ≤ e.length
theorem end_end {E : List (List Int)} (h0 : [] ∉ E) (l : List Int) (t : Int) : EndS E l t (endO E l t) := by
  have hp : ∀ e ∈ E, 0 < e.length := fun e he => List.length_pos_iff.2 (fun e0 => h0 (by rw [← e0]; exact he))
  unfold endO
  split
  · intro e he h1 h2
    have := hp e he
    omega
  · rename_i hn
    obtain ⟨k, hk, hkl⟩ : ∃ k : Nat, t = (k : Int) + 1 ∧ k < l.length := ⟨t.toNat - 1, by omega, by omega⟩
    have htn : t.toNat = k + 1 := by omega
    rw [htn]
    have hi : ∀ e ∈ E, (e.length : Int) ≤ t → (stI e l (t - (e.length : Int)) = true ↔ e <:+ l.take (k + 1)) := fun e he hle => by
      rw [stI_iff, show (t - (e.length : Int)).toNat = k + 1 - e.length by omega, std_suffix hkl (by omega)]
      exact ⟨fun h => h.2, fun h => ⟨by omega, h⟩⟩
    cases hh : (endsF E (l.take (k + 1))).head? with
    | none =>
      intro e he h1 h2
      cases hs : stI e l (t - (e.length : Int)) with
      | false => rfl
      | true =>
        have := ends_of he ((hi e he h1).1 hs) (List.length_pos_iff.1 (hp e he))
        rw [List.head?_eq_none_iff.1 hh] at this
        cases this
    | some e =>
      obtain ⟨h1, h2, h3⟩ := ends_head_mem hh
      have h4 := h2.length_le
      rw [List.length_take] at h4
      refine ⟨h1, by omega, by omega, (hi e h1 (by omega)).2 h2, fun e' he' h5 h6 => ?_⟩
      have h7 := ends_of he' ((hi e' he' h5).1 h6) (List.length_pos_iff.1 (hp e' he'))
      have h8 := ends_dec E (l.take (k + 1))
      cases hq : endsF E (l.take (k + 1)) with
      | nil => rw [hq] at h7; cases h7
      | cons y r =>
        rw [hq] at hh h7 h8
        injection hh with hh
        subst hh
        rcases List.mem_cons.1 h7 with h9 | h9
        · rw [h9]; exact Nat.le_refl _
        · exact Nat.le_of_lt (List.rel_of_pairwise_cons h8 h9)
theorem all_grow {E : List (List Int)} {l : List Int} {k : Nat} : ∀ K, k < K → ∀ x ∈ (endsF E (l.take (k + 1))).map (fdF E k), x ∈ allK E l K
  | 0, h, _, _ => absurd h (Nat.not_lt_zero k)
  | K + 1, h, x, hx => by
    rw [allK]
    by_cases e : k = K
    · subst e; exact List.mem_append.2 (.inr hx)
    · exact List.mem_append.2 (.inl (all_grow K (by omega) x hx))
theorem all_has {E : List (List Int)} {l e : List Int} {s : Nat} (he : e ∈ E) (hne : e ≠ []) (hs : stdB e l s = true) : ((numF E e : Int), (s : Int), (s : Int) + (e.length : Int)) ∈ allK E l l.length := by
  have h1 := std_len hs hne
  have h2 : 0 < e.length := List.length_pos_iff.2 hne
  obtain ⟨k, hk⟩ : ∃ k, k + 1 = s + e.length := ⟨s + e.length - 1, by omega⟩
  refine all_grow (k := k) _ (by omega) _ (List.mem_map.2 ⟨e, ends_of he ((std_suffix (by omega) (by omega)).1 (by rw [show k + 1 - e.length = s by omega]; exact hs)) hne, ?_⟩)
  refine Prod.ext rfl (Prod.ext ?_ ?_)
  · show (k : Int) + 1 - (e.length : Int) = (s : Int)
    omega
  · show (k : Int) + 1 = (s : Int) + (e.length : Int)
    omega
/-- The last of the first k that begins at t. -/
def LastI (LA : List Fd) (t : Int) (k : Nat) (n : Int) : Prop :=
  (n = -1 ∧ ∀ i (_ : i < LA.length), i < k → LA[i].2.1 ≠ t) ∨ ∃ i, ∃ _ : i < LA.length, i < k ∧ LA[i].2.1 = t ∧ n = LA[i].1 ∧ ∀ i' (_ : i' < LA.length), i < i' → i' < k → LA[i'].2.1 ≠ t
/-- The first of the first k that ends at t. -/
def FirstI (LA : List Fd) (t : Int) (k : Nat) (n : Int) : Prop :=
  (n = -1 ∧ ∀ i (_ : i < LA.length), i < k → LA[i].2.2 ≠ t) ∨ ∃ i, ∃ _ : i < LA.length, i < k ∧ LA[i].2.2 = t ∧ n = LA[i].1 ∧ ∀ i' (_ : i' < LA.length), i' < i → LA[i'].2.2 ≠ t
theorem LastI.zero (LA : List Fd) (t : Int) : LastI LA t 0 (-1) := .inl ⟨rfl, fun _ _ h => absurd h (Nat.not_lt_zero _)⟩
theorem FirstI.zero (LA : List Fd) (t : Int) : FirstI LA t 0 (-1) := .inl ⟨rfl, fun _ _ h => absurd h (Nat.not_lt_zero _)⟩
theorem LastI.hit {LA : List Fd} {t : Int} {k : Nat} (hk : k < LA.length) (h : LA[k].2.1 = t) : LastI LA t (k + 1) LA[k].1 :=
  .inr ⟨k, hk, by omega, h, rfl, fun i' _ h1 h2 => by omega⟩
theorem LastI.miss {LA : List Fd} {t : Int} {k : Nat} {n : Int} (hk : k < LA.length) (hi : LastI LA t k n) (h : LA[k].2.1 ≠ t) : LastI LA t (k + 1) n := by
  have hq : ∀ i (_ : i < LA.length), ¬ i < k → i < k + 1 → LA[i].2.1 ≠ t := fun i h1 h2 h3 => by
    have e : i = k := by omega
    subst e
    exact h
  rcases hi with ⟨h1, h2⟩ | ⟨i, h1, h2, h3, h4, h5⟩
  · exact .inl ⟨h1, fun i h3 h4 => if h5 : i < k then h2 i h3 h5 else hq i h3 h5 h4⟩
  · exact .inr ⟨i, h1, by omega, h3, h4, fun i' h6 h7 h8 => if h9 : i' < k then h5 i' h6 h7 h9 else hq i' h6 h9 h8⟩
theorem FirstI.hit {LA : List Fd} {t : Int} {k : Nat} {n : Int} (hp : ∀ x ∈ LA, 0 ≤ x.1) (hk : k < LA.length) (hi : FirstI LA t k n) (hn : n < 0) (h : LA[k].2.2 = t) : FirstI LA t (k + 1) LA[k].1 := by
  rcases hi with ⟨_, h2⟩ | ⟨i, h1, _, _, h4, _⟩
  · exact .inr ⟨k, hk, by omega, h, rfl, fun i' h3 h4 => h2 i' h3 h4⟩
  · have := hp _ (List.getElem_mem h1)
    omega
theorem FirstI.miss {LA : List Fd} {t : Int} {k : Nat} {n : Int} (hi : FirstI LA t k n) (h : ¬ n < 0 ∨ ∀ hk : k < LA.length, LA[k].2.2 ≠ t) : FirstI LA t (k + 1) n := by
  rcases hi with ⟨h1, h2⟩ | ⟨i, h1, h2, h3, h4, h5⟩
  · refine .inl ⟨h1, fun i h3 h4 => ?_⟩
    by_cases h5 : i < k
    · exact h2 i h3 h5
    · have e : i = k := by omega
      subst e
      rcases h with h | h
      · omega
      · exact h h3
  · exact .inr ⟨i, h1, by omega, h3, h4, h5⟩
/-- What an answer says, -1 for none. -/
def orM (E : List (List Int)) : Option (List Int) → Int
  | none => -1
  | some e => (numF E e : Int)
theorem last_end {E : List (List Int)} (h0 : [] ∉ E) (l : List Int) (t : Int) {n : Int} (h : LastI (allK E l l.length) t (allK E l l.length).length n) : n = orM E (lngO E l t) := by
  have hL := lng_lon h0 l t
  have hM := all_mem (E := E) (l := l) l.length (Nat.le_refl _)
  have hO := all_ord E l l.length
  have hH := fun e s (he : e ∈ E) => all_has (l := l) (s := s) he (fun e0 => h0 (by rw [← e0]; exact he))
  generalize allK E l l.length = LA at *
  have hx : ∀ i (hi : i < LA.length), LA[i].2.1 = t → ∃ e ∈ E, stI e l t = true ∧ LA[i].2.2 = t + (e.length : Int) := fun i hi ht => by
    obtain ⟨j, s, hj, h1, h2, _⟩ := hM _ (List.getElem_mem hi)
    rw [h1] at ht ⊢
    dsimp only at ht ⊢
    subst ht
    exact ⟨E[j], List.getElem_mem hj, stI_iff.2 ⟨by omega, h2⟩, rfl⟩
  cases ho : lngO E l t with
  | none =>
    rw [ho] at hL
    rcases h with ⟨h1, _⟩ | ⟨i, h1, _, h3, _, _⟩
    · exact h1
    · obtain ⟨e, he, hs, _⟩ := hx i h1 h3
      rw [hL e he] at hs
      cases hs
  | some e =>
    rw [ho] at hL
    obtain ⟨he, hs, hm⟩ := hL
    obtain ⟨ht0, hs'⟩ := stI_iff.1 hs
    obtain ⟨i0, hi0, hq⟩ := List.mem_iff_getElem.1 (hH e t.toNat he hs')
    have e1 : LA[i0].1 = (numF E e : Int) := by rw [hq]
    have e2 : LA[i0].2.1 = t := by rw [hq]; show ((t.toNat : Nat) : Int) = t; omega
    have e3 : LA[i0].2.2 = t + (e.length : Int) := by rw [hq]; show ((t.toNat : Nat) : Int) + _ = _; omega
    rcases h with ⟨_, h2⟩ | ⟨i, h1, _, h3, h4, h5⟩
    · exact absurd e2 (h2 i0 hi0 hi0)
    · rcases Nat.lt_trichotomy i i0 with hlt | heq | hgt
      · exact absurd e2 (h5 i0 hi0 hlt hi0)
      · subst heq; rw [h4, e1]; rfl
      · obtain ⟨e', he', hs2, h6⟩ := hx i h1 h3
        have h7 := hm e' he' hs2
        have h8 := List.pairwise_iff_getElem.1 hO i0 i hi0 h1 hgt
        omega
theorem first_end {E : List (List Int)} (h0 : [] ∉ E) (l : List Int) (t : Int) {n : Int} (h : FirstI (allK E l l.length) t (allK E l l.length).length n) : n = orM E (endO E l t) := by
  have hL := end_end h0 l t
  have hM := all_mem (E := E) (l := l) l.length (Nat.le_refl _)
  have hO := all_ord E l l.length
  have hH := fun e s (he : e ∈ E) => all_has (l := l) (s := s) he (fun e0 => h0 (by rw [← e0]; exact he))
  generalize allK E l l.length = LA at *
  have hx : ∀ i (hi : i < LA.length), LA[i].2.2 = t → ∃ e ∈ E, (e.length : Int) ≤ t ∧ t ≤ (l.length : Int) ∧ stI e l (t - (e.length : Int)) = true ∧ LA[i].2.1 = t - (e.length : Int) := fun i hi ht => by
    obtain ⟨j, s, hj, h1, h2, _⟩ := hM _ (List.getElem_mem hi)
    rw [h1] at ht ⊢
    dsimp only at ht ⊢
    have hne : E[j] ≠ [] := fun e0 => h0 (by rw [← e0]; exact List.getElem_mem hj)
    have h3 := std_len h2 hne
    exact ⟨E[j], List.getElem_mem hj, by omega, by omega, stI_iff.2 ⟨by omega, by rw [show (t - (E[j].length : Int)).toNat = s by omega]; exact h2⟩, by omega⟩
  cases ho : endO E l t with
  | none =>
    rw [ho] at hL
    rcases h with ⟨h1, _⟩ | ⟨i, h1, _, h3, _, _⟩
    · exact h1
    · obtain ⟨e, he, hl, hl2, hs, _⟩ := hx i h1 h3
      rw [hL e he hl hl2] at hs
      cases hs
  | some e =>
    rw [ho] at hL
    obtain ⟨he, hl, hl2, hs, hm⟩ := hL
    obtain ⟨ht0, hs'⟩ := stI_iff.1 hs
    obtain ⟨i0, hi0, hq⟩ := List.mem_iff_getElem.1 (hH e (t - (e.length : Int)).toNat he hs')
    have e1 : LA[i0].1 = (numF E e : Int) := by rw [hq]
    have e2 : LA[i0].2.1 = t - (e.length : Int) := by rw [hq]; show (((t - (e.length : Int)).toNat : Nat) : Int) = _; omega
    have e3 : LA[i0].2.2 = t := by rw [hq]; show (((t - (e.length : Int)).toNat : Nat) : Int) + _ = _; omega
    rcases h with ⟨_, h2⟩ | ⟨i, h1, _, h3, h4, h5⟩
    · exact absurd e3 (h2 i0 hi0 hi0)
    · rcases Nat.lt_trichotomy i i0 with hlt | heq | hgt
      · obtain ⟨e', he', hl', _, hs2, h6⟩ := hx i h1 h3
        have h7 := hm e' he' hl' hs2
        have h8 := List.pairwise_iff_getElem.1 hO i i0 h1 hi0 hlt
        omega
      · subst heq; rw [h4, e1]; rfl
      · exact absurd e3 (h5 i0 hi0 hgt)
end Go.Proofs.YtekimkdaoblcgaaDoor
