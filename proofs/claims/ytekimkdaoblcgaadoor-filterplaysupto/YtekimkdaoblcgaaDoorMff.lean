/-
  PrIW, FiIW, FiJW, FiKW, FiLM, FiLW, FiNW, FiOW, FiPM, FiPW, FiQM.
-/
import Derived.Test.YtekimkdaoblcgaaDoorMfe
import Derived.Test.YtekimkdaoblcgaaDoorMfd
import Derived.Test.YtekimkdaoblcgaaDoorMfb
import Derived.RangeFuncNested
import Derived.RangeFuncBound
import Derived.RangeFuncCalls
import Derived.RangeFuncLeaves
import Derived.RangeFuncBox
import Derived.OwnWalkIn
import Derived.TacticsInMore
import Derived.LoopNIn
import Derived.LoopIn
import Derived.Sort.QuietIn
import Derived.Sort.QuietTacIn
import Derived.Maps.OwnIn
namespace Go.Proofs.YtekimkdaoblcgaaDoor
open Go.RowKit Go.Shelf
theorem dec_lt {sl sr : Int} {N O M P : List (List Int)} {nb : Nat} {l : List Int} (h : okD sl N O sr M P nb l = true) : ∀ d ∈ decF sl N O sr M P l, d < (nb : Int) ∨ d = -1 := by
  intro d hd
  unfold okD at h
  simp only [Bool.and_eq_true] at h
  have h1 := h.1
  unfold chkP at h1
  simp only [Bool.and_eq_true] at h1
  have hf1 := fine_of h1.1
  have hsy : ∀ z ∈ l, 0 ≤ z ∧ z < (symF N : Int) := fun z hz => (oneOf_iff _ _).1 (List.all_eq_true.1 h.2 z hz)
  unfold decF at hd
  obtain ⟨k, hk, rfl⟩ := List.mem_map.1 hd
  rw [List.mem_range] at hk
  by_cases e : decK sl N O sr M P l k = -1
  · exact .inr e
  · left
    have hm : decK sl N O sr M P l k ∈ O.getD (stK N sl.toNat l (k + 1)) [] := lstF_mem e
    have hs := hf1.st hsy (k + 1) (by omega)
    have := (hf1.rise _ hs).2 _ hm
    exact this.2
set_option maxRecDepth 10000 in
set_option maxHeartbeats 1600000 in
theorem breaks_any (A : Nat → Addr) (sl sr : Int) (N O M P : List (List Int)) (B : List Bool) (el : Bool) (aN aO aM aP aB : Option Addr) (cN cO cM cP cB : Nat) (l : List Int) (aw : Option Addr) (cw : Nat) (w : World) (hs : PrS ⟨sl, N, O, sr, M, P, B, el⟩) (ha : PrA w ⟨sl, N, O, sr, M, P, B, el⟩ ⟨aN, aO, aM, aP, aB, cN, cO, cM, cP, cB⟩) (hl : l.length ≤ 1000000000) (hw : IA w aw l) (he : Sents w A) :
    Calls Tryd.prog 7 #[.agg #[.int .i64 sl, .slice aN N.length cN, .slice aO O.length cO, .int .i64 sr, .slice aM M.length cM, .slice aP P.length cP, .slice aB B.length cB, .bool el], .slice aw l.length cw] w fun e w' => DecR A w (okD sl N O sr M P B.length l) (brkF (decF sl N O sr M P l) B el l.length) e w' := by
  obtain ⟨w0, hw0, hB0, hz0, hC0⟩ := box_pr w ⟨sl, N, O, sr, M, P, B, el⟩ ⟨aN, aO, aM, aP, aB, cN, cO, cM, cP, cB⟩
  have HC : Hid (∀ V : World, Below w0.heap.size w0 V → (V.cell? ⟨w.heap.size, 0, none⟩ = some (.int .i64 sl) ∧ V.cell? ⟨w.heap.size, 1, none⟩ = some (.slice aN N.length cN) ∧ V.cell? ⟨w.heap.size, 2, none⟩ = some (.slice aO O.length cO) ∧ V.cell? ⟨w.heap.size, 3, none⟩ = some (.int .i64 sr)) ∧ V.cell? ⟨w.heap.size, 4, none⟩ = some (.slice aM M.length cM) ∧ V.cell? ⟨w.heap.size, 5, none⟩ = some (.slice aP P.length cP) ∧ V.cell? ⟨w.heap.size, 6, none⟩ = some (.slice aB B.length cB) ∧ V.cell? ⟨w.heap.size, 7, none⟩ = some (.bool el)) := hid0 hC0
  replace hw0 : w.alloc (.cells #[.int .i64 sl, .slice aN N.length cN, .slice aO O.length cO, .int .i64 sr, .slice aM M.length cM, .slice aP P.length cP, .slice aB B.length cB, .bool el] 27) = w0 := hw0
  obtain ⟨i0, hi, hy0, hy1, hy2⟩ := info_parts infoInt
  have HAl : Hid (∀ V : World, Below w0.heap.size w0 V → PrA V ⟨sl, N, O, sr, M, P, B, el⟩ ⟨aN, aO, aM, aP, aB, cN, cO, cM, cP, cB⟩ ∧ IA V aw l ∧ Sents V A ∧ Below w.heap.size w V) := hid0 (fun V hV => by
    have h := hB0.trans (hV.mono (by omega))
    exact ⟨ha.past h, hw.past h, he.below h, h⟩)
  have HDe := hid0 (decide_any A sl sr N O M P B el aN aO aM aP aB cN cO cM cP cB l aw cw w0 hs (HAl.out w0 (Below.refl _ _)).1 hl (HAl.out w0 (Below.refl _ _)).2.1 (HAl.out w0 (Below.refl _ _)).2.2.1)
  obtain ⟨⟨x0, x1, x2, x3⟩, x4, x5, x6, x7⟩ := HC.out w0 (Below.refl _ _)
  have HS := hid0 hs
  have hB : B.length ≤ 1000000000 := hs.b
  clear hB0 hC0 hz0 ha hw he hs
  cases hok : okD sl N O sr M P B.length l with
  | false =>
    rw [hok] at HDe
    unfold DecR at HDe
    rw [errC_false] at HDe
    clear hok
    go_enter Tryd.func7, Tryd.ntmps7
    go_wp2_with (go_at_call 28; go_loud ((
      refine HDe.out.mono ?_
      rintro e w1 ⟨v, rfl, _, hb1⟩
      have HB1 := hid0 hb1
      clear hb1)))
    go_returns
    exact ⟨_, rfl, World.ownsRow_nil _ _ _ _, (HAl.out w1 HB1.out).2.2.2⟩
  | true =>
    have HLt := hid0 (dec_lt hok)
    have HLn : Hid ((decF sl N O sr M P l).length = l.length - 1) := hid0 (by unfold decF; simp)
    rw [hok] at HDe
    unfold DecR at HDe
    simp only [if_true] at HDe
    rw [errC_true] at HDe
    clear hok
    generalize decF sl N O sr M P l = D at *
    have hDl : D.length ≤ 1000000000 := by have := HLn.out; omega
    by_cases h0 : l.length = 0
    · have h0I : (l.length : Int) = 0 := by omega
      have h0b : ((l.length : Int) == 0) = true := by rw [beq_iff_eq]; omega
      have HV : Hid (brkF D B el l.length = []) := hid0 (by unfold brkF; rw [if_pos h0])
      clear h0
      go_enter Tryd.func7, Tryd.ntmps7
      go_wp2_with (go_at_call 28; go_loud ((
        refine HDe.out.mono ?_
        rintro e w1 ⟨v, rfl, _, hb1⟩
        have HB1 := hid0 hb1
        clear hb1)))
      go_returns
      exact ⟨_, rfl, by rw [if_pos rfl, HV.out]; exact World.ownsRow_nil _ _ _ _, (HAl.out w1 HB1.out).2.2.2⟩
    · have h0I : ¬ (l.length : Int) = 0 := by omega
      have h0b : ((l.length : Int) == 0) = false := by rw [beq_eq_false_iff_ne]; exact h0I
      have h0n : ¬ l = [] := fun e => h0 (by rw [e]; rfl)
      have HV : Hid (brkF D B el l.length = (0 :: brkK D B el D.length) ++ [(l.length : Int)]) := hid0 (by unfold brkF; rw [if_neg h0]; rfl)
      clear h0
      go_enter Tryd.func7, Tryd.ntmps7
      go_upto_region 4 with (go_at_call 28; go_loud ((
        refine HDe.out.mono ?_
        rintro e w1 ⟨v, rfl, ho1, hb1⟩
        obtain ⟨av, cv, rfl, iv⟩ := ho1.ia
        have HIv := hid0 iv
        have HB1 := hid0 hb1
        clear ho1 hb1 iv; clear x0 x1 x2 x3 x4 x5 x6 x7)))
      go_wp2
      go_loopw [8, 28] (fun pv kv wr => ∃ k : Nat, k ≤ D.length ∧ kv = .int .i64 (k : Int) ∧ Hid (OwnI wr w1.heap.size pv (0 :: brkK D B el k)) ∧ Hid (Below w1.heap.size w1 wr)) (fun _ kv _ => D.length - (intOf kv).toNat)
      case atStart => exact ⟨0, Nat.zero_le _, rfl, hid0 (own_one w1 _ 0 (Nat.le_refl _)), hid0 ((Below.refl _ _).alloc (Nat.le_refl _) _)⟩
      case round =>
        obtain ⟨k, hk, rfl, HO, HB⟩ := hrel
        have hbw : Below w0.heap.size w0 wr := HB1.out.trans (HB.out.mono HB1.out.size)
        have HBw := hid0 hbw
        have hsz := HB.out.size
        obtain ⟨pa, pc, ep, _⟩ := HO.out.ia
        subst ep
        have hbl := brkK_len D B el k
        by_cases hkl : k < D.length
        · have hkI : (k : Int) < (D.length : Int) := by omega
          have hkI0 : (0 : Int) ≤ (k : Int) := by omega
          obtain ⟨b1, o1, rfl, _, d1⟩ := (HIv.out.past HB.out).at' k hkl
          have hdm := HLt.out _ (List.getElem_mem hkl)
          have HG : Hid (D.getD k 0 = D[k]) := hid0 (by rw [List.getD_eq_getElem?_getD, List.getElem?_eq_getElem hkl]; rfl)
          have HSt := hid0 (brkK_step D B el k)
          rw [HG.out] at HSt
          have HSa := hid0 (saysBreak_any sl sr N O M P B el aN aO aM aP aB cN cO cM cP cB D[k] wr (by rcases hdm with h | h <;> omega) HS.out (HAl.out wr hbw).1)
          generalize D[k] = d at *
          obtain ⟨⟨x0, x1, x2, x3⟩, x4, x5, x6, x7⟩ := HC.out wr hbw
          clear hdm hbw
          cases hsy : sayF B el d with
          | false =>
            rw [hsy] at HSa HSt
            have HE : Hid (brkK D B el (k + 1) = brkK D B el k) := hid0 (by rw [HSt.out]; simp)
            clear hsy HSt
            go_wp2_with (go_at_call 29; refine HSa.out.mono ?_; rintro e w2 ⟨rfl, hb2⟩; have HB2 := hid0 hb2; clear hb2)
            go_roundw
            case rel => exact ⟨k + 1, by omega, by go_num, hid0 (by rw [HE.out]; exact HO.out.past HB2.out), hid0 (HB.out.trans (HB2.out.mono HB.out.size))⟩
            case measure => simp [intOf]; omega
          | true =>
            rw [hsy] at HSa HSt
            have HE : Hid (0 :: brkK D B el (k + 1) = (0 :: brkK D B el k) ++ [(k : Int) + 1]) := hid0 (by rw [HSt.out]; simp)
            have hadd : IntKind.i64.wrap ((k : Int) + 1) = (k : Int) + 1 := by simp [IntKind.wrap, IntKind.bits, IntKind.signed]; omega
            have hXl : (0 :: brkK D B el k).length ≤ 1000000001 := by rw [List.length_cons]; omega
            clear hsy HSt
            generalize (0 :: brkK D B el k) = X at *
            go_wp2_with (first
              | (go_at_call 29; refine HSa.out.mono ?_; rintro e w2 ⟨rfl, hb2⟩; have HB2 := hid0 hb2; have hs2 := hb2.size; clear hb2)
              | (at_builtin; go_loud ((
                  refine wpList_append_own_at _ rfl _ _ 28 rfl w1.heap.size 3 i0 (.int .i64 0) 1 8 Tryd.underlying28 hi hy0 hy1 hy2 rfl (by decide) _ X.length (X.map (Value.int .i64)) rfl (World.ownsRow.alloc (HO.out.past HB2.out) _) ⟨w2.heap.size, 0, none⟩ 1 1 [.int .i64 ((k : Int) + 1)] rfl rfl (cell_one_new _ _ _) (by simp [Value.oneCell']) (by unfold maxLen; omega) (by omega) (by simp; omega) ?_
                  intro v3 w3 hown3 hgrow3 _ _
                  have R := ownI_snoc rfl (HO.out.past HB2.out) hown3 hgrow3 (HB.out.trans (HB2.out.mono HB.out.size)) (Nat.le_refl _)
                  have HO3 := hid0 R.1
                  have HB3 := hid0 R.2
                  obtain ⟨av3, cv3, ev3, _⟩ := R.1.ia
                  rw [List.length_append, List.length_singleton] at ev3
                  subst ev3
                  clear R hown3 hgrow3))))
            go_roundw
            case rel => exact ⟨k + 1, by omega, by go_num, hid0 (by rw [HE.out]; exact HO3.out), HB3⟩
            case measure => simp [intOf]; omega
        · have hkI : ¬ (k : Int) < (D.length : Int) := by omega
          obtain rfl : k = D.length := by omega
          have hXl : (0 :: brkK D B el D.length).length ≤ 1000000001 := by rw [List.length_cons]; omega
          generalize (0 :: brkK D B el D.length) = X at *
          clear hbw
          go_wp2_with (at_builtin; go_loud ((
            refine wpList_append_own_at _ rfl _ _ 28 rfl w1.heap.size 3 i0 (.int .i64 0) 1 8 Tryd.underlying28 hi hy0 hy1 hy2 rfl (by decide) _ X.length (X.map (Value.int .i64)) rfl (World.ownsRow.alloc HO.out _) ⟨wr.heap.size, 0, none⟩ 1 1 [.int .i64 (l.length : Int)] rfl rfl (cell_one_new _ _ _) (by simp [Value.oneCell']) (by unfold maxLen; omega) (by omega) (by simp; omega) ?_
            intro v3 w3 hown3 hgrow3 _ _
            have R := ownI_snoc rfl HO.out hown3 hgrow3 HB.out (Nat.le_refl _)
            have HO3 := hid0 R.1
            have HB3 := hid0 R.2
            clear R hown3 hgrow3)))
          go_returns
          have hfin := (HAl.out w1 HB1.out).2.2.2
          exact ⟨_, rfl, by rw [if_pos rfl, HV.out]; exact owns_lower HO3.out hfin.size, hfin.trans (HB3.out.mono hfin.size)⟩
end Go.Proofs.YtekimkdaoblcgaaDoor
namespace Go.Proofs.YtekimkdaoblcgaaDoor
open Go.RowKit Go.Shelf Go.Maps
def okN (p : Prg) (sy bef : Int) (tr : List Int) (E : List (List Int)) : Bool := chkP p.sl p.N p.O p.sr p.M p.P p.B.length sy && ((decide (-1 ≤ bef) && decide (bef ≤ (p.B.length : Int))) && (risK sy (-1) tr && (newE E).isNone))
def FNewR (A : Nat → Addr) (w : World) (p : Prg) (sy bef : Int) (tr : List Int) (E : List (List Int)) (e : Ending) (w' : World) : Prop :=
  Below w.heap.size w w' ∧ ((okN p sy bef tr E = false ∧ ∃ k, e = .returned (.tuple #[.pointer none, .iface 129 (.pointer (some (A k)))])) ∨ (okN p sy bef tr E = true ∧ FlS p tr E ∧ ∃ (q2 : PrL) (f : FlL), e = .returned (.tuple #[.pointer (some ⟨f.X, 0, none⟩), .nilIface]) ∧ FlA w' p q2 (decide (0 ≤ bef)) tr E bef f))
set_option maxRecDepth 100000 in
set_option maxHeartbeats 4000000 in
theorem fnew_any (A : Nat → Addr) (p : Prg) (q : PrL) (sy bef : Int) (tr : List Int) (aT : Option Addr) (cT : Nat) (E : List (List Int)) (aE : Option Addr) (cE : Nat) (w : World) (hs : PrS p) (h : PrA w p q) (ht : IA w aT tr) (htl : tr.length ≤ 1000000000) (hE : RwA w aE E) (hEl : ∀ e ∈ E, e.length ≤ 1000000000) (hS : Sents w A) :
    Calls Tryd.prog 6 #[.agg #[.int .i64 p.sl, .slice q.aN p.N.length q.cN, .slice q.aO p.O.length q.cO, .int .i64 p.sr, .slice q.aM p.M.length q.cM, .slice q.aP p.P.length q.cP, .slice q.aB p.B.length q.cB, .bool p.el], .int .i64 sy, .int .i64 bef, .slice aT tr.length cT, .slice aE E.length cE] w fun e w' => FNewR A w p sy bef tr E e w' := by
  obtain ⟨w0, hw0, hB0, hz0, hC0⟩ := box_pr w p q
  have HC : Hid (∀ V : World, Below w0.heap.size w0 V → (V.cell? ⟨w.heap.size, 0, none⟩ = some (.int .i64 p.sl) ∧ V.cell? ⟨w.heap.size, 1, none⟩ = some (.slice q.aN p.N.length q.cN) ∧ V.cell? ⟨w.heap.size, 2, none⟩ = some (.slice q.aO p.O.length q.cO) ∧ V.cell? ⟨w.heap.size, 3, none⟩ = some (.int .i64 p.sr)) ∧ V.cell? ⟨w.heap.size, 4, none⟩ = some (.slice q.aM p.M.length q.cM) ∧ V.cell? ⟨w.heap.size, 5, none⟩ = some (.slice q.aP p.P.length q.cP) ∧ V.cell? ⟨w.heap.size, 6, none⟩ = some (.slice q.aB p.B.length q.cB) ∧ V.cell? ⟨w.heap.size, 7, none⟩ = some (.bool p.el)) := hid0 hC0
  replace hw0 : w.alloc (.cells #[.int .i64 p.sl, .slice q.aN p.N.length q.cN, .slice q.aO p.O.length q.cO, .int .i64 p.sr, .slice q.aM p.M.length q.cM, .slice q.aP p.P.length q.cP, .slice q.aB p.B.length q.cB, .bool p.el] 27) = w0 := hw0
  have HIn : Hid (∀ V : World, Below w0.heap.size w0 V → PrA V p q ∧ IA V aT tr ∧ RwA V aE E ∧ Sents V A ∧ Below w.heap.size w V) := hid0 (fun V hV => by
    have hq := hB0.trans (hV.mono hB0.size)
    exact ⟨h.past hq, ht.past hq, hE.past hq, hS.below hq, hq⟩)
  have HPS := hid0 hs
  have HEl := hid0 hEl
  have HCk := hid0 (pairCheck_any A p.sl p.sr p.N p.O p.M p.P p.B p.el q.aN q.aO q.aM q.aP q.aB q.cN q.cO q.cM q.cP q.cB sy w0 hs (HIn.out w0 (Below.refl _ _)).1 (HIn.out w0 (Below.refl _ _)).2.2.2.1)
  obtain ⟨⟨x0, x1, x2, x3⟩, x4, x5, x6, x7⟩ := HC.out w0 (Below.refl _ _)
  clear hC0 h ht hE hEl hS hB0 hz0 hs
  cases hck : chkP p.sl p.N p.O p.sr p.M p.P p.B.length sy with
  | false =>
    rw [hck] at HCk
    have HR : Hid (∀ V : World, Below w0.heap.size w0 V → FNewR A w p sy bef tr E (.returned (.tuple #[.pointer none, .iface 129 (.pointer (some (A 0)))])) V) := hid0 (fun V hV => ⟨(HIn.out V hV).2.2.2.2, .inl ⟨by unfold okN; rw [hck]; rfl, 0, rfl⟩⟩)
    rw [show errC A false = .iface 129 (.pointer (some (A 0))) from rfl] at HCk
    clear hck
    go_enter Tryd.func6, Tryd.ntmps6
    go_wp2_with (go_at_call 22; go_loud ((
      refine HCk.out.mono ?_
      rintro e w1 ⟨rfl, hb⟩
      have HB1 := hid0 hb
      clear hb)))
    go_returns
    exact HR.out _ HB1.out
  | true =>
    rw [hck, show errC A true = .nilIface from rfl] at HCk
    have HCK := hid0 hck
    clear hck
    go_enter Tryd.func6, Tryd.ntmps6
    go_upto_region 4 with (go_at_call 22; go_loud ((
      refine HCk.out.mono ?_
      rintro e w1 ⟨rfl, hb⟩
      have HB1 := hid0 hb
      clear hb HCk)))
    clear x0 x1 x2 x3 x4 x5 x6 x7 hw0
    obtain ⟨⟨x0, x1, x2, x3⟩, x4, x5, x6, x7⟩ := HC.out w1 HB1.out
    have HRi := hid0 (fiRises_any tr aT cT sy w1 htl (HIn.out w1 HB1.out).2.1)
    have s0 := (HIn.out w1 HB1.out).2.2.2.1.c0
    have HBad : Hid (((decide (-1 ≤ bef) && decide (bef ≤ (p.B.length : Int))) && risK sy (-1) tr) = false → ∀ n, FNewR A w p sy bef tr E (.returned (.tuple #[.pointer none, .iface 129 (.pointer (some (A 0)))])) (w1.drewN n)) := hid0 (fun hf n => ⟨below_drew' (HIn.out w1 HB1.out).2.2.2.2 n, .inl ⟨by
      unfold okN
      rw [← Bool.and_assoc (decide (-1 ≤ bef) && decide (bef ≤ (p.B.length : Int))), hf, Bool.false_and, Bool.and_false], 0, rfl⟩⟩)
    by_cases h1 : bef < -1
    · have HR := hid0 (HBad.out (by rw [decide_eq_false (show ¬ -1 ≤ bef by omega)]; rfl))
      clear x0 x1 x2 x3 x4 x5 x6 x7 HRi
      go_wp2
      go_quiet ((fail))
      go_wp2
      go_returns
      exact HR.out _
    by_cases h2 : bef > (p.B.length : Int)
    · have HR := hid0 (HBad.out (by rw [decide_eq_false (show ¬ bef ≤ (p.B.length : Int) by omega), Bool.and_false]; rfl))
      clear HRi
      go_wp2
      clear x0 x1 x2 x3 x4 x5 x6 x7
      go_quiet ((fail))
      go_wp2
      go_returns
      exact HR.out _
    cases hri : risK sy (-1) tr with
    | false =>
      rw [hri] at HRi
      have HR := hid0 (HBad.out (by rw [hri, Bool.and_false]))
      clear hri
      go_wp2_with (go_at_call 23; go_loud ((
        refine HRi.out.mono ?_
        rintro e w2 ⟨rfl, hw⟩
        have hw := hw.symm
        subst hw)))
      clear x0 x1 x2 x3 x4 x5 x6 x7
      go_quiet ((fail))
      go_wp2
      go_returns
      exact HR.out _
    | true =>
      rw [hri] at HRi
      have HRis := hid0 hri
      have HNw := hid0 (new_any A E aE cE w1 (HIn.out w1 HB1.out).2.2.1 (HIn.out w1 HB1.out).2.2.2.1.se3 (fun e he => by have := HEl.out e he; omega))
      clear hri s0 HBad
      go_upto_region 6 with (go_at_call 23; go_loud ((
        refine HRi.out.mono ?_
        rintro e w2 ⟨rfl, hw⟩
        have hw := hw.symm
        subst hw)))
      clear HRi x0 x1 x2 x3 x4 x5 x6 x7
      cases hne : newE E with
      | some j =>
        have HE := hid0 hne
        have HR : Hid (∀ V : World, Below w0.heap.size w0 V → FNewR A w p sy bef tr E (.returned (.tuple #[.pointer none, .iface 129 (.pointer (some (A j)))])) V) := hid0 (fun V hV => ⟨(HIn.out V hV).2.2.2.2, .inl ⟨by unfold okN; rw [hne]; simp, j, rfl⟩⟩)
        clear hne
        go_wp2_with (go_at_call 24; go_loud ((
          refine HNw.out.mono ?_
          rintro e w2 ⟨hb, hr⟩
          obtain rfl : e = .returned (.tuple #[.pointer none, .iface 129 (.pointer (some (A j)))]) := by
            rcases hr with ⟨k, hk, h2⟩ | ⟨hk, _⟩
            · rw [HE.out] at hk; injection hk with hk; rw [hk]; exact h2
            · rw [HE.out] at hk; cases hk
          have HB2 : Hid (Below w0.heap.size w0 w2) := hid0 (HB1.out.trans (hb.mono HB1.out.size))
          clear hb hr HNw)))
        go_returns
        exact HR.out _ HB2.out
      | none =>
        have HE := hid0 hne
        have HOk : Hid (okN p sy bef tr E = true) := hid0 (by
          unfold okN
          rw [HCK.out, HRis.out, hne, decide_eq_true (show -1 ≤ bef by omega), decide_eq_true (show bef ≤ (p.B.length : Int) by omega)]
          rfl)
        have hE2 : E.length ≤ 2000 := by
          unfold newE at hne
          split at hne
          · cases hne
          · omega
        have HOP : Hid (p.O.length ≤ 1000000000 ∧ p.P.length ≤ 1000000000) := hid0 (by
          have hc := HCK.out
          unfold chkP at hc
          simp only [Bool.and_eq_true] at hc
          have hl := fine_len hc.1
          have hl2 := fine_len hc.2
          have h3 := HPS.out.n
          have h4 := HPS.out.m
          omega)
        clear hne
        go_upto_region 9 with (go_at_call 24; go_loud ((
          refine HNw.out.mono ?_
          rintro e w2 ⟨hb, hr⟩
          obtain ⟨hG, T, hi, bk, mp, rfl, htr⟩ : Good E ∧ ∃ T hi bk mp, e = .returned (.tuple #[.pointer (some ⟨T, 0, none⟩), .nilIface]) ∧ TrieAt w2 w1.heap.size hi T E bk mp := by
            rcases hr with ⟨k, hk, _⟩ | ⟨_, h1, h2⟩
            · rw [HE.out] at hk; cases hk
            · exact ⟨h1, h2⟩
          have HT := hid0 htr
          have HS2 : Hid (FlS p tr E) := hid0 ⟨HPS.out, (risK_rise HRis.out).2, htl, hG, hE2⟩
          have HB2 : Hid (Below w0.heap.size w0 w2) := hid0 (HB1.out.trans (hb.mono HB1.out.size))
          clear hb hr HNw hG htr)))
        obtain ⟨⟨x0, x1, x2, x3⟩, x4, x5, x6, x7⟩ := HC.out w2 HB2.out
        have HCp := hid0 (copyOf_any p q w2 HPS.out HOP.out.1 HOP.out.2 (HIn.out w2 HB2.out).1)
        go_upto_region 10 with (go_at_call 25; go_loud ((
          refine HCp.out.mono ?_
          rintro e w3 ⟨q2, rfl, hpa, hb⟩
          have HPa := hid0 (hpa w3 (Agree.refl _ _))
          have HB23 := hid0 hb
          clear hpa hb HCp)))
        clear x0 x1 x2 x3 x4 x5 x6 x7
        obtain ⟨W4, hW4, hb4, hr4⟩ : ∃ W4, w3.alloc (.cells #[.int .i64 p.sl, .slice q2.aN p.N.length q2.cN, .slice q2.aO p.O.length q2.cO, .int .i64 p.sr, .slice q2.aM p.M.length q2.cM, .slice q2.aP p.P.length q2.cP, .slice q2.aB p.B.length q2.cB, .bool p.el] 27) = W4 ∧ Below w3.heap.size w3 W4 ∧ W4.heap[w3.heap.size]? = some (.cells #[.int .i64 p.sl, .slice q2.aN p.N.length q2.cN, .slice q2.aO p.O.length q2.cO, .int .i64 p.sr, .slice q2.aM p.M.length q2.cM, .slice q2.aP p.P.length q2.cP, .slice q2.aB p.B.length q2.cB, .bool p.el] 27 (0, 0)) := ⟨_, rfl, (Below.refl _ _).alloc (Nat.le_refl _) _, heap_alloc_new _ _⟩
        rw [hW4]
        have HB4 : Hid (Below w0.heap.size w0 W4) := hid0 (HB2.out.trans ((Below.later HB23.out hb4).mono HB2.out.size))
        have HT4 := hid0 (Tr.past HT.out (Below.later HB23.out hb4))
        have HP4 := hid0 (HPa.out.past hb4)
        have HSo : Hid (∀ V : World, Below W4.heap.size W4 V → V.cell? ⟨w3.heap.size, 0, none⟩ = some (.int .i64 p.sl) ∧ V.cell? ⟨w3.heap.size, 1, none⟩ = some (.slice q2.aN p.N.length q2.cN) ∧ V.cell? ⟨w3.heap.size, 2, none⟩ = some (.slice q2.aO p.O.length q2.cO) ∧ V.cell? ⟨w3.heap.size, 3, none⟩ = some (.int .i64 p.sr) ∧ V.cell? ⟨w3.heap.size, 4, none⟩ = some (.slice q2.aM p.M.length q2.cM) ∧ V.cell? ⟨w3.heap.size, 5, none⟩ = some (.slice q2.aP p.P.length q2.cP) ∧ V.cell? ⟨w3.heap.size, 6, none⟩ = some (.slice q2.aB p.B.length q2.cB) ∧ V.cell? ⟨w3.heap.size, 7, none⟩ = some (.bool p.el) ∧ Below W4.heap.size W4 V) := hid0 (fun V hV => by
          have hr := (hV.block _ (Array.getElem?_eq_some_iff.1 hr4).1).trans hr4
          refine ⟨?_, ?_, ?_, ?_, ?_, ?_, ?_, ?_, hV⟩ <;> (rw [cell_of_row _ _ _ _ _ _ hr]; rfl))
        have HCl : Hid (∀ V : World, Below W4.heap.size W4 V → Calls Tryd.prog 26 #[.slice aT tr.length cT] V fun e w' => (∃ a c, e = .returned (.slice a tr.length c) ∧ Hid (IA w' a tr)) ∧ Below W4.heap.size W4 w') := hid0 (fun V hV => (cloneI_any tr aT cT V htl (HIn.out V (HB4.out.trans (hV.mono HB4.out.size))).2.1).mono (by
          rintro e w' ⟨v, rfl, h2, h3⟩
          obtain ⟨a, c, rfl, hia, _⟩ := own_slice h2
          exact ⟨⟨a, c, rfl, hid0 hia⟩, Below.later hV h3⟩))
        have HDe : Hid (∀ V : World, Below W4.heap.size W4 V → Calls Tryd.prog 27 #[.slice q2.aB p.B.length q2.cB, .bool p.el, .int .i64 bef] V fun e w' => (∃ b1 b2 b3, e = .returned (.func (.func 43) #[] #[.pointer (some ⟨b1, 0, none⟩), .pointer (some ⟨b2, 0, none⟩), .pointer (some ⟨b3, 0, none⟩)]) ∧ Hid (w'.cell? ⟨b1, 0, none⟩ = some (.int .i64 bef) ∧ w'.cell? ⟨b2, 0, none⟩ = some (.bool p.el) ∧ w'.cell? ⟨b3, 0, none⟩ = some (.slice q2.aB p.B.length q2.cB)) ∧ Hid (Below V.heap.size V w')) ∧ Below W4.heap.size W4 w') := hid0 (fun V hV => (decider_any q2.aB p.B.length q2.cB p.el bef V).mono (by
          rintro e w' ⟨rfl, rfl⟩
          have hb : Below V.heap.size V (((V.alloc (.cells #[.slice q2.aB p.B.length q2.cB] 25)).alloc (.cells #[.bool p.el] 4)).alloc (.cells #[.int .i64 bef] 3)) := (((Below.refl _ _).alloc (Nat.le_refl _) _).alloc (by simp) _).alloc (by simp; omega) _
          have e1 := cell_one_new ((V.alloc (.cells #[.slice q2.aB p.B.length q2.cB] 25)).alloc (.cells #[.bool p.el] 4)) (.int .i64 bef) 3 0 _ rfl
          have e2 := cell_alloc (cell_one_new (V.alloc (.cells #[.slice q2.aB p.B.length q2.cB] 25)) (.bool p.el) 4 0 _ rfl) (.cells #[.int .i64 bef] 3)
          have e3 := cell_alloc (cell_alloc (cell_one_new V (.slice q2.aB p.B.length q2.cB) 25 0 _ rfl) (.cells #[.bool p.el] 4)) (.cells #[.int .i64 bef] 3)
          simp only [World.size_alloc] at e1 e2
          exact ⟨⟨_, _, _, rfl, hid0 ⟨e1, e2, e3⟩, hid0 hb⟩, Below.later hV hb⟩))
        obtain ⟨x0, x1, x2, x3, x4, x5, x6, x7, _⟩ := HSo.out W4 (Below.refl _ _)
        obtain ⟨sb, hsb⟩ : ∃ sb, decide (0 ≤ bef) = sb := ⟨_, rfl⟩
        have hbI : decide (bef ≥ 0) = sb := hsb
        clear hW4 hb4 hr4 HB23 HT HPa
        go_region_held3 (fun W => W.cell? ⟨w3.heap.size, 0, none⟩ = some (.int .i64 p.sl) ∧ W.cell? ⟨w3.heap.size, 1, none⟩ = some (.slice q2.aN p.N.length q2.cN) ∧ W.cell? ⟨w3.heap.size, 2, none⟩ = some (.slice q2.aO p.O.length q2.cO) ∧ W.cell? ⟨w3.heap.size, 3, none⟩ = some (.int .i64 p.sr) ∧ W.cell? ⟨w3.heap.size, 4, none⟩ = some (.slice q2.aM p.M.length q2.cM) ∧ W.cell? ⟨w3.heap.size, 5, none⟩ = some (.slice q2.aP p.P.length q2.cP) ∧ W.cell? ⟨w3.heap.size, 6, none⟩ = some (.slice q2.aB p.B.length q2.cB) ∧ W.cell? ⟨w3.heap.size, 7, none⟩ = some (.bool p.el) ∧ Below W4.heap.size W4 W) (first | exact HSo.out _ (by first | (go_grown; done) | (go_grown; omega)) | (go_split_ands; exact HSo.out _ (by first | (go_grown; done) | (go_grown; omega))) | (go_split_ands; exact HSo.out _ (by assumption)))
          (first
            | (go_at_call 26; go_split_ands; refine (HCl.out _ (by go_grown)).mono ?_; rintro e w5 ⟨⟨aT2, cT2, rfl, HI5⟩, hx⟩; have hsx := hx.size)
            | (go_at_call 27; go_split_ands; refine (HDe.out _ (by go_grown)).mono ?_; rintro e w6 ⟨⟨b1, b2, b3, rfl, HK6, HB56⟩, hy⟩; have hsy := hy.size))
        go_split_ands
        obtain ⟨W7, hW7, hb7, hr7⟩ : ∃ W7, w6.alloc (.cells #[.int .i64 p.sl, .slice q2.aN p.N.length q2.cN, .slice q2.aO p.O.length q2.cO, .int .i64 p.sr, .slice q2.aM p.M.length q2.cM, .slice q2.aP p.P.length q2.cP, .slice q2.aB p.B.length q2.cB, .bool p.el, .bool (sb), .slice aT2 tr.length cT2, .pointer (some ⟨T, 0, none⟩), .func (.func 43) #[] #[.pointer (some ⟨b1, 0, none⟩), .pointer (some ⟨b2, 0, none⟩), .pointer (some ⟨b3, 0, none⟩)]] 68) = W7 ∧ Below w6.heap.size w6 W7 ∧ W7.heap[w6.heap.size]? = some (.cells #[.int .i64 p.sl, .slice q2.aN p.N.length q2.cN, .slice q2.aO p.O.length q2.cO, .int .i64 p.sr, .slice q2.aM p.M.length q2.cM, .slice q2.aP p.P.length q2.cP, .slice q2.aB p.B.length q2.cB, .bool p.el, .bool (sb), .slice aT2 tr.length cT2, .pointer (some ⟨T, 0, none⟩), .func (.func 43) #[] #[.pointer (some ⟨b1, 0, none⟩), .pointer (some ⟨b2, 0, none⟩), .pointer (some ⟨b3, 0, none⟩)]] 68 (0, 0)) := ⟨_, rfl, (Below.refl _ _).alloc (Nat.le_refl _) _, heap_alloc_new _ _⟩
        rw [hW7]
        have HR : Hid (FNewR A w p sy bef tr E (.returned (.tuple #[.pointer (some ⟨w6.heap.size, 0, none⟩), .nilIface])) W7) := hid0 (by
          have hb47 : Below W4.heap.size W4 W7 := Below.later hy hb7
          refine ⟨(HIn.out W7 (HB4.out.trans (hb47.mono HB4.out.size))).2.2.2.2, .inr ⟨HOk.out, HS2.out, q2, ⟨w6.heap.size, T, aT2, cT2, b1, b2, b3⟩, rfl, ?_⟩⟩
          rw [hsb]
          refine ⟨hr7, HP4.out.past hb47, ((show IA _ aT2 tr from ⟨HI5.out.at'⟩ : IA w5 aT2 tr).past (Below.later (show Below w5.heap.size w5 w6 from ⟨HB56.out.os, HB56.out.tape, HB56.out.output, HB56.out.size, HB56.out.block⟩) hb7)), ⟨_, _, _, _, Tr.past HT4.out hb47⟩, ?_, ?_, ?_⟩
          · exact (hb7.cell (p := ⟨b1, 0, none⟩) (World.block_lt_of_cell? _ _ HK6.out.1)).trans HK6.out.1
          · exact (hb7.cell (p := ⟨b2, 0, none⟩) (World.block_lt_of_cell? _ _ HK6.out.2.1)).trans HK6.out.2.1
          · exact (hb7.cell (p := ⟨b3, 0, none⟩) (World.block_lt_of_cell? _ _ HK6.out.2.2)).trans HK6.out.2.2)
        clear hW7 hb7 hr7 hx hy x0 x1 x2 x3 x4 x5 x6 x7
        go_wp2
        go_returns
        exact HR.out
end Go.Proofs.YtekimkdaoblcgaaDoor
namespace Go.Proofs.YtekimkdaoblcgaaDoor
open Go.RowKit Go.Shelf Go.Maps
attribute [local go_sem] Oper.semAt_some
set_option maxRecDepth 10000 in
set_option maxHeartbeats 800000 in
theorem between_any (f : FlL) (ap aw : Option Addr) (n m cp cw : Nat) (w : World) :
    Calls Tryd.prog 30 #[.pointer (some ⟨f.X, 0, none⟩), .slice ap n cp, .slice aw m cw] w fun e w' => e = .returned (.func (.func 48) #[] #[.pointer (some ⟨w.heap.size, 0, none⟩), .pointer (some ⟨w.heap.size + 1, 0, none⟩), .pointer (some ⟨w.heap.size + 2, 0, none⟩)]) ∧ w' = ((w.alloc (.cells #[.pointer (some ⟨f.X, 0, none⟩)] 35)).alloc (.cells #[.slice ap n cp] 28)).alloc (.cells #[.slice aw m cw] 28) := by
  go_enter Tryd.func30, Tryd.ntmps30
  go_wp2
  go_ret
  exact ⟨rfl, rfl⟩
/-- What a round keeps: all blocks but those of Own; and it makes none of the elder blocks one of Own. -/
structure Kpt (Own : World → Nat → Prop) (A A' : World) : Prop where
  size : A.heap.size ≤ A'.heap.size
  block : ∀ b, b < A.heap.size → ¬ Own A b → A'.heap[b]? = A.heap[b]?
  own : ∀ b, Own A' b → Own A b ∨ A.heap.size ≤ b
def wayF (sup : Bool) (E : List (List Int)) (tr P l : List Int) : List Sp := if sup then (allK E P P.length).map (spF tr l) else []
section
variable {w : World} {p : Prg} {q : PrL} {sup : Bool} {tr : List Int} {E : List (List Int)} {bef : Int} {f : FlL}
set_option maxRecDepth 100000 in
set_option maxHeartbeats 2000000 in
theorem between_in (n : Nat) (_hn : 1 ≤ n) (lp : Nat) (b1 b2 b3 : Nat) (P l : List Int) (ap aw : Option Addr) (cp cw : Nat) (hs : FlS p tr E) (hl : l.length ≤ 100000000) (hP : P.length = l.length) (hI : ∀ c ∈ P, inI c)
    (Own : World → Nat → Prop) (J : Nat → World → Prop) (w : World)
    (hJb : ∀ k A B, J k A → Below A.heap.size A B → J k B)
    (hOb : ∀ k A B b, J k A → Below A.heap.size A B → Own B b → Own A b)
    (hO0 : ∀ b, Own w b → b < w.heap.size)
    (hJs : ∀ k A, J k A → FlA A p q sup tr E bef f ∧ IA A ap P ∧ IA A aw l ∧ A.cell? ⟨b1, 0, none⟩ = some (.pointer (some ⟨f.X, 0, none⟩)) ∧ A.cell? ⟨b2, 0, none⟩ = some (.slice ap l.length cp) ∧ A.cell? ⟨b3, 0, none⟩ = some (.slice aw l.length cw))
    (hY : ∀ k A, J k A → k + 1 < l.length → YieldAt Fence.wide (n - 1) Tryd.prog lp #[.int .i64 ((k + 1 : Nat) : Int), .bool (decide (0 < cntW (wayF sup E tr P l) (k + 1)))] A fun e A' => e = .returned (.bool true) ∧ J (k + 1) A' ∧ Kpt Own A A')
    (h0 : J 0 w) :
    CallsIn Fence.wide n Tryd.prog 48 #[.func (.yield lp) #[] #[], .pointer (some ⟨b1, 0, none⟩), .pointer (some ⟨b2, 0, none⟩), .pointer (some ⟨b3, 0, none⟩)] w fun e w' => (∃ v, e = .returned v) ∧ J (l.length - 1) w' := by
  obtain ⟨F, hF⟩ : ∃ F, wayF sup E tr P l = F := ⟨_, rfl⟩
  have HFs : Hid (F.length ≤ 3200000000 ∧ ∀ x ∈ F, x.1 < x.2) := hid0 (by
    rw [← hF]
    unfold wayF
    split
    · refine ⟨by rw [List.length_map]; have := allK_len hs.good.len P P.length; omega, fun x hx => ?_⟩
      obtain ⟨y, hy, rfl⟩ := List.mem_map.1 hx
      obtain ⟨j, s, hj, rfl, hst, _⟩ := all_mem P.length (Nat.le_refl _) y hy
      have hne : E[j] ≠ [] := fun e0 => hs.good.ne (by rw [← e0]; exact List.getElem_mem hj)
      have h1 := List.length_pos_iff.2 hne
      have h2 := trl_ge tr l ((s : Int) + (E[j].length : Int)).toNat
      show (s : Int).toNat < trl tr l ((s : Int) + (E[j].length : Int)).toNat
      omega
    · exact ⟨by simp, fun x hx => nomatch hx⟩)
  rw [hF] at hY
  have HF := hid0 hF
  obtain ⟨m, hm⟩ : ∃ m, m = l.length + 2 := ⟨_, rfl⟩
  have HCh : Hid (Calls Tryd.prog 49 #[.pointer (some ⟨f.X, 0, none⟩), .slice ap l.length cp, .slice aw l.length cw] w fun e w' => ChR w m F e w') := hid0 (by
    have h := changes_any P l ap aw cp cw (hJs 0 w h0).1 hs hl hP (hJs 0 w h0).2.1 (hJs 0 w h0).2.2.1 hI
    rw [hm, ← hF]
    exact h)
  have HY := hid0 hY
  have HJs := hid0 hJs
  have HJb := hid0 hJb
  have HOb := hid0 hOb
  have HO0 := hid0 hO0
  have HJ0 := hid0 h0
  obtain ⟨_, _, _, x1, x2, x3⟩ := hJs 0 w h0
  have hlm : (l.length : Int) ≤ (m : Int) := by omega
  clear hJb hOb hO0 hJs hY h0 hF hm hs hI
  refine callsIn_of_wp Tryd.func48 rfl trivial ?_ rfl
  simp only [Tryd.ntmps48, List.size_toArray, List.length_cons, List.length_nil, Nat.reduceAdd, Nat.reduceSub, Array.replicate_succ, Array.replicate_zero, List.push_toArray, List.append_toArray, List.nil_append, List.cons_append]
  gi_wp2_with (refine ⟨trivial, ?_⟩; gi_at_call 49; refine (callsIn_wide.2 HCh.out).mono ?_; rintro e w1 ⟨g, rfl, hco, hb1⟩; have HC1 := hid0 hco; have HB1 := hid0 hb1; clear hco hb1 HCh)
  have HJ1 := hid0 (HJb.out _ _ _ HJ0.out HB1.out)
  have HG1 : Hid (¬ Own w1 g) := hid0 (fun ho => by
    have hg := (World.ownsRow.lt HC1.out g rfl).1
    have := HO0.out g (HOb.out _ w w1 g HJ0.out HB1.out ho)
    omega)
  have HZ0 : Hid (cntW F 0 = 0) := hid0 (cntW_zero F)
  clear x1 x2 x3 HJ0 HO0 HB1
  gi_loopw [6, 7] (fun x y wr => ∃ k pl c : Nat, k < l.length + 1 ∧ Hid (pl = k + 1 ∧ (k = 0 ∨ k < l.length)) ∧ pl ≤ 100000001 ∧ y = .int .i64 (pl : Int) ∧ x = .int .i64 (c : Int) ∧ c ≤ 3200000000 ∧ Hid (c = cntW F k) ∧ Hid (J k wr) ∧ Hid (ChO wr w.heap.size g m F) ∧ Hid (¬ Own wr g)) (fun _ y _ => l.length - (intOf y).toNat)
  case atStart => exact ⟨0, 1, 0, by omega, hid0 ⟨rfl, .inl rfl⟩, by omega, rfl, rfl, by omega, hid0 HZ0.out.symm, HJ1, HC1, HG1⟩
  case round =>
    clear HJ1 HC1 HG1 HZ0
    obtain ⟨k, pl, c, hk, HK, hpl, rfl, rfl, hc, HCn, HJ, HC, HG⟩ := hrel
    obtain ⟨_, _, _, x1, x2, x3⟩ := HJs.out k wr HJ.out
    by_cases hlt : k + 1 < l.length
    · have hplI : (pl : Int) < (l.length : Int) := by have := HK.out; omega
      have hplm : (pl : Int) < (m : Int) := by omega
      have hpl0 : (0 : Int) ≤ (pl : Int) := by omega
      have hpm : pl < m := by omega
      obtain ⟨y1, _⟩ := HC.out.cell hpm
      have HSt : Hid ((cntW F (k + 1) : Int) = (c : Int) + chW F pl) := hid0 (by rw [HCn.out, HK.out.1]; exact cntW_step F HFs.out.2 k)
      obtain ⟨c2, hc2⟩ : ∃ c2, cntW F (k + 1) = c2 := ⟨_, rfl⟩
      have hc2l : c2 ≤ 3200000000 := by rw [← hc2]; exact Nat.le_trans (cntW_le _ _) HFs.out.1
      have HYk := hid0 (HY.out k wr HJ.out hlt)
      have HPl : Hid (((k + 1 : Nat) : Int) = (pl : Int)) := hid0 (by rw [HK.out.1])
      rw [hc2] at HSt HYk
      rw [HPl.out] at HYk
      have hsum : (c : Int) + chW F pl = (c2 : Int) := HSt.out.symm
      have HC2 := hid0 hc2
      generalize chW F pl = cc at *
      clear hc2 HSt
      have HAf : Hid (∀ A' : World, Kpt Own wr A' → ChO A' w.heap.size g m F ∧ ¬ Own A' g) := hid0 (fun A' hk' => by
        have hgl := (World.ownsRow.lt HC.out g rfl).2
        refine ⟨own_blk HC.out (fun b hb => ?_), fun ho => ?_⟩
        · have e : g = b := by injection hb
          subst e
          exact hk'.block _ hgl HG.out
        · rcases hk'.own g ho with h | h
          · exact HG.out h
          · omega)
      obtain ⟨fn, tmps, assign, body, hy, hR⟩ := HYk.out
      have HRd := hid0 hR
      clear hR HYk
      by_cases hgt : 0 < c2
      · have hgI : (c2 : Int) > 0 := by omega
        rw [decide_eq_true hgt] at hy
        gi_wp2
        refine HRd.out.mono ?_
        rintro e W3 ⟨rfl, hj3, hk3⟩
        have HJ3 := hid0 hj3
        have HA3 := hid0 (HAf.out W3 hk3)
        clear hj3 hk3 hy HRd
        gi_wp2
        go_roundw
        case rel => exact ⟨k + 1, pl + 1, c2, by omega, hid0 ⟨by have := HK.out.1; omega, .inr hlt⟩, by omega, by go_num, rfl, hc2l, hid0 HC2.out.symm, HJ3, hid0 HA3.out.1, hid0 HA3.out.2⟩
        case measure => simp [intOf]; omega
      · have hgI : ¬ (c2 : Int) > 0 := by omega
        rw [decide_eq_false hgt] at hy
        gi_wp2
        refine HRd.out.mono ?_
        rintro e W3 ⟨rfl, hj3, hk3⟩
        have HJ3 := hid0 hj3
        have HA3 := hid0 (HAf.out W3 hk3)
        clear hj3 hk3 hy HRd
        gi_wp2
        go_roundw
        case rel => exact ⟨k + 1, pl + 1, c2, by omega, hid0 ⟨by have := HK.out.1; omega, .inr hlt⟩, by omega, by go_num, rfl, hc2l, hid0 HC2.out.symm, HJ3, hid0 HA3.out.1, hid0 HA3.out.2⟩
        case measure => simp [intOf]; omega
    · have hplI : ¬ (pl : Int) < (l.length : Int) := by have := HK.out; omega
      have HE : Hid (J (l.length - 1) wr) := hid0 (by have h := HJ.out; have hk2 := HK.out.2; rw [show k = l.length - 1 by omega] at h; exact h)
      gi_wp2
      go_end0
      exact ⟨⟨_, rfl⟩, HE.out⟩
end
end Go.Proofs.YtekimkdaoblcgaaDoor
namespace Go.Proofs.YtekimkdaoblcgaaDoor
open Go.RowKit Go.Shelf Go.Maps
attribute [local go_sem] Oper.semAt_some
section
variable {p : Prg} {q : PrL} {sup : Bool} {tr : List Int} {E : List (List Int)} {bef : Int} {f : FlL}
theorem wpIn_rangeBetween {gop : Operand} {ps : Array Tmp} {assign body : Code} {Q : Exit → Act → World → Prop} {a : Act} {w : World} (n : Nat) (hn : 2 ≤ n) (b1 b2 b3 : Nat) (P l : List Int) (ap aw : Option Addr) (cp cw : Nat) (hs : FlS p tr E) (hl : l.length ≤ 100000000) (hP : P.length = l.length) (hI : ∀ c ∈ P, inI c)
    (hg : a.eval gop = .func (.func 48) #[] #[.pointer (some ⟨b1, 0, none⟩), .pointer (some ⟨b2, 0, none⟩), .pointer (some ⟨b3, 0, none⟩)]) (hps : ps.size = 2)
    (Own : World → Nat → Prop) (J : Nat → World → Prop)
    (hJk : ∀ k A B, J k A → Only A B (fun b => b = w.heap.size ∨ b = w.heap.size + 1) → J k B)
    (hOk : ∀ k A B b, J k A → Only A B (fun b => b = w.heap.size ∨ b = w.heap.size + 1) → Own B b → Own A b)
    (hOn : ∀ k A, J k A → ¬ Own A w.heap.size ∧ ¬ Own A (w.heap.size + 1))
    (hO0 : ∀ b, Own w b → b < w.heap.size)
    (hJs : ∀ k A, J k A → FlA A p q sup tr E bef f ∧ IA A ap P ∧ IA A aw l ∧ A.cell? ⟨b1, 0, none⟩ = some (.pointer (some ⟨f.X, 0, none⟩)) ∧ A.cell? ⟨b2, 0, none⟩ = some (.slice ap l.length cp) ∧ A.cell? ⟨b3, 0, none⟩ = some (.slice aw l.length cw))
    (h0 : J 0 w) (act : Int → Bool → Act)
    (hassign : ∀ (lp : Nat) (x : Int) (hb : Bool) (W : World) (K : Act → World → Prop), K (act x hb) W → assign.wpIn (Fence.wide.inRound lp) (n - 1 - 1) Tryd.prog (Exit.then K (fun _ _ _ => False)) { tmps := (ps.zip #[Value.int .i64 x, Value.bool hb]).foldl (fun t (p, v) => t.setIfInBounds p v) a.tmps, defers := [] } W)
    (hbody : ∀ (lp k : Nat) (W : World), J k W → k + 1 < l.length → w.heap.size + 2 ≤ W.heap.size → body.wpIn (Fence.wide.inRound lp) (n - 1 - 1) Tryd.prog (fun e _ W' => e = .normal ∧ J (k + 1) W' ∧ Kpt Own W W') (act ((k + 1 : Nat) : Int) (decide (0 < cntW (wayF sup E tr P l) (k + 1)))) W)
    (hdone : ∀ W, J (l.length - 1) W → W.heap[w.heap.size]? = some (.deferred (some [])) → Q .normal { a with defers := markD w.heap.size :: a.defers } W) :
    (Code.rangeFunc gop ps assign body).wpIn Fence.wide n Tryd.prog Q a w := by
  refine wpIn_rangeFunc ?_
  intro fn hfn
  obtain ⟨rec, hrec⟩ : ∃ rec : LoopState → Loop, rec = fun st => { state := st, pending := none, fn, tmps := a.tmps, params := ps, assign, body, defers := w.heap.size } := ⟨_, rfl⟩
  obtain ⟨W1, hW1⟩ : ∃ W1, (w.alloc (.deferred (some []))).alloc (.loop (rec .ready)) = W1 := ⟨_, rfl⟩
  have hs1 : W1.heap.size = w.heap.size + 2 := by rw [← hW1]; simp
  have hL1 : W1.heap[w.heap.size + 1]? = some (.loop (rec .ready)) := by
    rw [← hW1]; have := World.alloc_heap_new (w.alloc (.deferred (some []))) (.loop (rec .ready)); rwa [World.size_alloc] at this
  have hD1 : W1.heap[w.heap.size]? = some (.deferred (some [])) := by
    rw [← hW1]; exact (Below.heap_alloc _ _ _ (by simp)).trans (World.alloc_heap_new w _)
  have hb1 : Below w.heap.size w W1 := by rw [← hW1]; exact ((Below.refl _ w).alloc (Nat.le_refl _) _).alloc (by simp) _
  have hJ1 : J 0 W1 := hJk _ _ _ h0 (Only.ofNew hb1 _)
  refine ⟨w.heap.size + 1, [{ target := .collected w.heap.size, args := #[] }], W1, { target := .fn (.func 48) #[.pointer (some ⟨b1, 0, none⟩), .pointer (some ⟨b2, 0, none⟩), .pointer (some ⟨b3, 0, none⟩)], args := #[.func (.yield (w.heap.size + 1)) #[] #[]] }, W1, 48,
    #[.func (.yield (w.heap.size + 1)) #[] #[], .pointer (some ⟨b1, 0, none⟩), .pointer (some ⟨b2, 0, none⟩), .pointer (some ⟨b3, 0, none⟩)], W1, ?_, ?_, ?_, ?_, fun _ => by omega, ?_⟩
  · rw [← hW1, hrec]; exact run_enterLoop_outer _ _ _ _ _
  · simp only [resolve, hg]
    simp [go_sem]
  · intro f' hf'; simp [Target.leads] at hf'; subst hf'; trivial
  · simp [invoke, go_sem]
  · refine (between_in (n - 1) (by omega) (w.heap.size + 1) b1 b2 b3 P l ap aw cp cw hs hl hP hI (fun A b => Own A b ∨ b = w.heap.size + 1)
      (fun k W => J k W ∧ W.heap[w.heap.size + 1]? = some (.loop (rec .ready)) ∧ W.heap[w.heap.size]? = some (.deferred (some [])))
      W1 ?_ ?_ ?_ (fun k A h => hJs k A h.1) ?_ ⟨hJ1, hL1, hD1⟩).mono ?_
    · rintro k A B ⟨h1, h2, h3⟩ hb
      exact ⟨hJk _ _ _ h1 (Only.ofNew hb _), (hb.block _ (Array.getElem?_eq_some_iff.1 h2).1).trans h2, (hb.block _ (Array.getElem?_eq_some_iff.1 h3).1).trans h3⟩
    · rintro k A B b ⟨h1, _, _⟩ hb (ho | ho)
      · exact .inl (hOk k A B b h1 (Only.ofNew hb _) ho)
      · exact .inr ho
    · rintro b (ho | ho)
      · have := hO0 b (hOk 0 w W1 b h0 (Only.ofNew hb1 _) ho); omega
      · omega
    · rintro k W ⟨hi, hlo, hk⟩ hx
      have hlt : w.heap.size + 1 < W.heap.size := (Array.getElem?_eq_some_iff.1 hlo).1
      have hy := run_yield (P := Tryd.prog) (args := #[Value.int .i64 ((k + 1 : Nat) : Int), Value.bool (decide (0 < cntW (wayF sup E tr P l) (k + 1)))]) hlo (by rw [hrec]; simp [hps])
      rw [hrec] at hy
      refine ⟨fn, _, assign, body, hy, roundIn_of_wpIn hfn (hassign _ _ _ W _ ?_)⟩
      refine ⟨_, run_beginRound hlo (by rw [hrec]), ?_⟩
      have hl2 : (W.putObj (w.heap.size + 1) (.loop { rec .ready with state := .busy })).heap[w.heap.size + 1]? = some (.loop { rec .ready with state := .busy }) := World.putObj_heap_same hlt
      have hk2 : (W.putObj (w.heap.size + 1) (.loop { rec .ready with state := .busy })).heap[w.heap.size]? = some (.deferred (some [])) := (World.putObj_heap_other (by omega)).trans hk
      have hoA := Only.putObj W (w.heap.size + 1) (.loop { rec .ready with state := .busy }) (fun b => b = w.heap.size ∨ b = w.heap.size + 1) (.inr rfl)
      have hjA := hJk _ _ _ hi hoA
      refine wpIn_mono (hbody _ k _ hjA hx (by simp; omega)) ?_
      rintro e a3 W3 ⟨rfl, hj3, ho3⟩
      have hnA := hOn k _ hjA
      have hl3 := (ho3.block (w.heap.size + 1) (Array.getElem?_eq_some_iff.1 hl2).1 hnA.2).trans hl2
      have hk3 := (ho3.block w.heap.size (Array.getElem?_eq_some_iff.1 hk2).1 hnA.1).trans hk2
      have hr := run_endRound (P := Tryd.prog) none hl3
      rw [hrec] at hr
      have hoB := Only.putObj W3 (w.heap.size + 1) (.loop { state := .ready, pending := none, fn, tmps := a.tmps, params := ps, assign, body, defers := w.heap.size }) (fun b => b = w.heap.size ∨ b = w.heap.size + 1) (.inr rfl)
      refine ⟨_, _, hr, rfl, ⟨hJk _ _ _ hj3 hoB, ?_, (World.putObj_heap_other (by omega)).trans hk3⟩, ?_⟩
      · rw [hrec]
        exact World.putObj_heap_same (Array.getElem?_eq_some_iff.1 hl3).1
      · refine ⟨Nat.le_trans hoA.size (Nat.le_trans ho3.size hoB.size), fun b hb hno => ?_, fun b ho => ?_⟩
        · have hne : b ≠ w.heap.size + 1 := fun e => hno (.inr e)
          refine ((World.putObj_heap_other (by omega)).trans (ho3.block b (Nat.lt_of_lt_of_le hb hoA.size) (fun h => hno (.inl (hOk k W _ b hi hoA h))))).trans (World.putObj_heap_other (by omega))
        · rcases ho with ho | ho
          · rcases ho3.own b (hOk (k + 1) W3 _ b hj3 hoB ho) with h | h
            · exact .inl (.inl (hOk k W _ b hi hoA h))
            · exact .inr (Nat.le_trans hoA.size h)
          · exact .inl (.inr ho)
    · rintro e W2 ⟨⟨v, rfl⟩, hj, hlo, hk⟩
      have hr := run_endLoop (P := Tryd.prog) hlo (by rw [hrec]; simp)
      rw [hrec] at hr
      exact ⟨none, _, hr, hdone _ (hJk _ _ _ hj (Only.putObj _ _ _ _ (.inr rfl))) ((World.putObj_heap_other (by omega)).trans hk)⟩
end
end Go.Proofs.YtekimkdaoblcgaaDoor
namespace Go.Proofs.YtekimkdaoblcgaaDoor
open Go.RowKit Go.Shelf Go.Maps
def actB (a : Act) (s1 s2 q1 q2 : Nat) (x : Int) (hb : Bool) : Act := { tmps := (((a.tmps.setIfInBounds s1 (.int .i64 x)).setIfInBounds s2 (.bool hb)).setIfInBounds q1 (.int .i64 x)).setIfInBounds q2 (.bool hb), defers := [] }
/-- The box's block and the row to which it points. -/
def OwnX (bF : Nat) (A : World) (b : Nat) : Prop := b = bF ∨ ∃ v, A.heap[bF]? = some (.cells #[v] 28 (0, 0)) ∧ v.ownBlock = some b
/-- The list in the box: w4 is the world ahead of it, R the range's first block. -/
structure Gw (w4 : World) (bF R r0 : Nat) (L : List Int) (W : World) : Prop where
  ex : ∃ v, W.heap[bF]? = some (.cells #[v] 28 (0, 0)) ∧ OwnI W w4.heap.size v L ∧ ∀ g, v.ownBlock = some g → g = r0 ∨ R + 2 ≤ g
  bel : Below w4.heap.size w4 W
  box : ∃ v1 v2 v3 t1 t2 t3, W.heap[bF + 1]? = some (.cells #[v1] t1 (0, 0)) ∧ W.heap[bF + 2]? = some (.cells #[v2] t2 (0, 0)) ∧ W.heap[bF + 3]? = some (.cells #[v3] t3 (0, 0))
section
variable {w4 A B : World} {bF R r0 : Nat} {L : List Int}
theorem Gw.keep (hR : R = bF + 4) (hb : w4.heap.size ≤ bF) (hr : r0 < bF ∨ R + 2 ≤ r0) (h : Gw w4 bF R r0 L A) (ho : Only A B (fun b => b = R ∨ b = R + 1)) : Gw w4 bF R r0 L B ∧ B.heap[bF]? = A.heap[bF]? ∧ (∀ k, k ≤ 3 → B.heap[bF + k]? = A.heap[bF + k]?) := by
  obtain ⟨v, h1, h2, h3⟩ := h.ex
  obtain ⟨v1, v2, v3, t1, t2, t3, q1, q2, q3⟩ := h.box
  have hl := (Array.getElem?_eq_some_iff.1 q3).1
  have e : ∀ k, k ≤ 3 → B.heap[bF + k]? = A.heap[bF + k]? := fun k hk => ho.block _ (by omega) (by omega)
  have e0 : B.heap[bF]? = A.heap[bF]? := e 0 (by omega)
  refine ⟨⟨⟨v, e0.trans h1, own_blk h2 (fun g hg => ho.block g (World.ownsRow.lt h2 g hg).2 (by have := h3 g hg; omega)), h3⟩, h.bel.trans (ho.below h.bel.size (fun i hi => by omega)), ⟨v1, v2, v3, t1, t2, t3, (e 1 (by omega)).trans q1, (e 2 (by omega)).trans q2, (e 3 (by omega)).trans q3⟩⟩, e0, e⟩
theorem Gw.own (hR : R = bF + 4) (hb : w4.heap.size ≤ bF) (hr : r0 < bF ∨ R + 2 ≤ r0) (h : Gw w4 bF R r0 L A) (ho : Only A B (fun b => b = R ∨ b = R + 1)) {b : Nat} (hq : OwnX bF B b) : OwnX bF A b := by
  have e := (h.keep hR hb hr ho).2.1
  rcases hq with hq | ⟨v, h1, h2⟩
  · exact .inl hq
  · exact .inr ⟨v, by rw [← e]; exact h1, h2⟩
theorem Gw.off (hR : R = bF + 4) (_hb : w4.heap.size ≤ bF) (hr : r0 < bF ∨ R + 2 ≤ r0) (h : Gw w4 bF R r0 L A) : ¬ OwnX bF A R ∧ ¬ OwnX bF A (R + 1) := by
  obtain ⟨v, h1, h2, h3⟩ := h.ex
  have key : ∀ b, OwnX bF A b → b = bF ∨ b = r0 ∨ R + 2 ≤ b := fun b hq => by
    rcases hq with hq | ⟨v', h4, h5⟩
    · exact .inl hq
    · rw [h1] at h4
      injection h4 with h4
      injection h4 with h4
      injection h4 with h4
      injection h4 with h4
      subst h4
      exact .inr (h3 b h5)
  exact ⟨fun hq => by have := key _ hq; omega, fun hq => by have := key _ hq; omega⟩
/-- Draws leave it. -/
theorem Gw.drewN (h : Gw w4 bF R r0 L A) (n : Nat) : Gw w4 bF R r0 L (A.drewN n) := ⟨by
  obtain ⟨v, h1, h2, h3⟩ := h.ex
  exact ⟨v, h1, own_blk h2 (fun _ _ => rfl), h3⟩, below_drew' h.bel n, h.box⟩
theorem kpt_drewN (bF : Nat) (A : World) (n : Nat) : Kpt (OwnX bF) A (A.drewN n) := ⟨Nat.le_refl _, fun _ _ _ => rfl, fun _ h => .inl h⟩
theorem Kpt.trans {Own : World → Nat → Prop} {A B C : World} (h1 : Kpt Own A B) (h2 : Kpt Own B C) : Kpt Own A C := ⟨Nat.le_trans h1.size h2.size, fun b hb hn => (h2.block b (Nat.lt_of_lt_of_le hb h1.size) (fun h => (h1.own b h).elim hn (fun q => by omega))).trans (h1.block b hb hn), fun b h => by
  rcases h2.own b h with h | h
  · exact h1.own b h
  · exact .inr (Nat.le_trans h1.size h)⟩
/-- One more number behind. -/
theorem Gw.snoc (hR : R = bF + 4) (hb : w4.heap.size ≤ bF) (hr : r0 < bF ∨ R + 2 ≤ r0) (h : Gw w4 bF R r0 L A) (hA : R + 2 ≤ A.heap.size) {v : Value} (hv : A.heap[bF]? = some (.cells #[v] 28 (0, 0))) {v2 : Value} {w2 : World} {o : Obj} {c : Int} {n : Nat} (hn : n = L.length)
    (hown : w2.ownsRow w4.heap.size 3 1 v2 (n + 1) (L.map (Value.int .i64) ++ [.int .i64 c])) (hg : (A.alloc o).grownBy w2 v.ownBlock) (hat : v2.ownBlock = v.ownBlock ∨ v2.ownBlock = some (A.alloc o).heap.size) :
    Gw w4 bF R r0 (L ++ [c]) (w2.setCell ⟨bF, 0, none⟩ v2) ∧ Kpt (OwnX bF) A (w2.setCell ⟨bF, 0, none⟩ v2) ∧ w2.cell? ⟨bF, 0, none⟩ = some v ∧ w2.frozen? ⟨bF, 0, none⟩ = false := by
  subst hn
  obtain ⟨v', h1, h2, h3⟩ := h.ex
  rw [hv] at h1
  injection h1 with h1
  injection h1 with h1
  injection h1 with h1
  injection h1 with h1
  subst h1
  have ho1 : Only A w2 (fun k => v.ownBlock = some k) := ((Only.alloc A o (fun k => v.ownBlock = some k))).trans (T := fun k => v.ownBlock = some k) ⟨hg.os, hg.tape, hg.output, hg.size, fun k hk hn => hg.block k hk (fun e => hn e.symm)⟩ (fun i hi => .inl hi)
  have hne : ∀ k, k ≤ 3 → v.ownBlock ≠ some (bF + k) := fun k hk e => by have := h3 _ e; omega
  have hbF : w2.heap[bF]? = some (.cells #[v] 28 (0, 0)) := (ho1.block bF (by omega) (hne 0 (by omega))).trans hv
  have ho2 : Only A (w2.setCell ⟨bF, 0, none⟩ v2) (fun k => k = bF ∨ v.ownBlock = some k) := (ho1.mono (fun i hi => .inr hi)).trans ((Only.setCell _ _ _ _).mono (fun i hi => .inl hi)) (fun i hi => .inl hi)
  have hv2 : ∀ g, v2.ownBlock = some g → g = r0 ∨ R + 2 ≤ g := fun g e => by
    rcases hat with q | q
    · rw [q] at e; exact h3 g e
    · rw [q] at e; simp at e; omega
  have hrow : (w2.setCell ⟨bF, 0, none⟩ v2).heap[bF]? = some (.cells #[v2] 28 (0, 0)) := (heap_setCell_same _ _ 0 _ _ _ hbF).trans (by simp)
  obtain ⟨z1, z2, z3, t1, t2, t3, q1, q2, q3⟩ := h.box
  have e : ∀ k, 1 ≤ k → k ≤ 3 → (w2.setCell ⟨bF, 0, none⟩ v2).heap[bF + k]? = A.heap[bF + k]? := fun k hk1 hk => ho2.block _ (by omega) (by
    rintro (q | q)
    · omega
    · exact hne k hk q)
  refine ⟨⟨⟨v2, hrow, ?_, hv2⟩, h.bel.trans (ho2.below h.bel.size ?_), ⟨z1, z2, z3, t1, t2, t3, (e 1 (by omega) (by omega)).trans q1, (e 2 (by omega) (by omega)).trans q2, (e 3 (by omega) (by omega)).trans q3⟩⟩, ⟨ho2.size, fun b hb1 hn => ho2.block b hb1 ?_, ?_⟩, by rw [cell_of_row _ _ _ _ _ _ hbF]; rfl, by simp [World.frozen?, hbF]⟩
  · unfold OwnI
    rw [List.length_append, List.map_append]
    exact own_blk hown (fun k e => setCell_block_ne (by have := hv2 k e; omega))
  · rintro i (e | e)
    · omega
    · exact (World.ownsRow.lt h2 i e).1
  · rintro (e | e)
    · exact hn (.inl e)
    · exact hn (.inr ⟨v, hv, e⟩)
  · rintro b (e | ⟨v', e1, e2⟩)
    · exact .inl (.inl e)
    · rw [hrow] at e1
      injection e1 with e1
      injection e1 with e1
      injection e1 with e1
      injection e1 with e1
      subst e1
      rcases hat with q | q
      · rw [q] at e2; exact .inl (.inr ⟨v, hv, e2⟩)
      · rw [q] at e2; simp at e2; exact .inr (by omega)
end
end Go.Proofs.YtekimkdaoblcgaaDoor
namespace Go.Proofs.YtekimkdaoblcgaaDoor
open Go.RowKit Go.Shelf Go.Maps
attribute [local go_sem] Oper.semAt_some
def hdF (sup : Bool) (E : List (List Int)) (tr P l : List Int) (i : Nat) : Bool := decide (0 < cntW (wayF sup E tr P l) i)
section
variable {w : World} {p : Prg} {q : PrL} {sup : Bool} {tr : List Int} {E : List (List Int)} {bef : Int} {f : FlL}
theorem wpIn_rangeBetween' {gop : Operand} {s1 s2 : Tmp} {assign body : Code} {Q : Exit → Act → World → Prop} {a : Act} {w : World} (q1 q2 n : Nat) (hn : 2 ≤ n) (b1 b2 b3 : Nat) (P l : List Int) (ap aw : Option Addr) (cp cw : Nat) (hs : FlS p tr E) (hl : l.length ≤ 100000000) (hP : P.length = l.length) (hI : ∀ c ∈ P, inI c)
    (hg : a.eval gop = .func (.func 48) #[] #[.pointer (some ⟨b1, 0, none⟩), .pointer (some ⟨b2, 0, none⟩), .pointer (some ⟨b3, 0, none⟩)])
    (Own : World → Nat → Prop) (J : Nat → World → Prop)
    (hJk : ∀ k A B, J k A → Only A B (fun b => b = w.heap.size ∨ b = w.heap.size + 1) → J k B)
    (hOk : ∀ k A B b, J k A → Only A B (fun b => b = w.heap.size ∨ b = w.heap.size + 1) → Own B b → Own A b)
    (hOn : ∀ k A, J k A → ¬ Own A w.heap.size ∧ ¬ Own A (w.heap.size + 1))
    (hO0 : ∀ b, Own w b → b < w.heap.size)
    (hJs : ∀ k A, J k A → FlA A p q sup tr E bef f ∧ IA A ap P ∧ IA A aw l ∧ A.cell? ⟨b1, 0, none⟩ = some (.pointer (some ⟨f.X, 0, none⟩)) ∧ A.cell? ⟨b2, 0, none⟩ = some (.slice ap l.length cp) ∧ A.cell? ⟨b3, 0, none⟩ = some (.slice aw l.length cw))
    (h0 : J 0 w)
    (hassign : ∀ (lp : Nat) (x : Int) (hb : Bool) (W : World) (K : Act → World → Prop), K (actB a s1 s2 q1 q2 x hb) W → assign.wpIn (Fence.wide.inRound lp) (n - 1 - 1) Tryd.prog (Exit.then K (fun _ _ _ => False)) { tmps := (a.tmps.setIfInBounds s1 (.int .i64 x)).setIfInBounds s2 (.bool hb), defers := [] } W)
    (hbody : ∀ (lp k : Nat) (W : World), J k W → k + 1 < l.length → w.heap.size + 2 ≤ W.heap.size → body.wpIn (Fence.wide.inRound lp) (n - 1 - 1) Tryd.prog (fun e _ W' => e = .normal ∧ J (k + 1) W' ∧ Kpt Own W W') (actB a s1 s2 q1 q2 ((k + 1 : Nat) : Int) (hdF sup E tr P l (k + 1))) W)
    (hdone : ∀ W, J (l.length - 1) W → W.heap[w.heap.size]? = some (.deferred (some [])) → Q .normal { a with defers := markD w.heap.size :: a.defers } W) :
    (Code.rangeFunc gop #[s1, s2] assign body).wpIn Fence.wide n Tryd.prog Q a w :=
  wpIn_rangeBetween n hn b1 b2 b3 P l ap aw cp cw hs hl hP hI hg rfl Own J hJk hOk hOn hO0 hJs h0 (fun x hb => actB a s1 s2 q1 q2 x hb) (fun lp x hb W K hK => by simpa using hassign lp x hb W K hK) hbody hdone
set_option maxRecDepth 100000 in
set_option maxHeartbeats 2000000 in
theorem hidden_any (P l : List Int) (ap aw : Option Addr) (cp cw : Nat) (h : FlA w p q sup tr E bef f) (hs : FlS p tr E) (hl : l.length ≤ 100000000) (hP : P.length = l.length) (hp : IA w ap P) (ha : IA w aw l) (hI : ∀ c ∈ P, inI c) :
    Calls Tryd.prog 21 #[.pointer (some ⟨f.X, 0, none⟩), .slice ap l.length cp, .slice aw l.length cw] w fun e w' => ∃ v, e = .returned v ∧ OwnI w' w.heap.size v (hpK (hdF sup E tr P l) (l.length - 1)) ∧ Below w.heap.size w w' := by
  have HF := hid0 h
  have HS := hid0 hs
  have HP := hid0 hp
  have HA := hid0 ha
  have HI := hid0 hI
  have HPl := hid0 hP
  obtain ⟨i0, hi, hz0, hz1, hz2⟩ := info_parts infoInt
  obtain ⟨w0, hw0⟩ : ∃ w0, w0 = w.alloc (.cells #[.slice none 0 0] 28) := ⟨_, rfl⟩
  have b0 : Below w.heap.size w w0 := by rw [hw0]; exact (Below.refl _ _).alloc (Nat.le_refl _) _
  have s0 : w0.heap.size = w.heap.size + 1 := by rw [hw0]; simp
  have r0 : w0.heap[w.heap.size]? = some (.cells #[.slice none 0 0] 28 (0, 0)) := by rw [hw0]; exact heap_alloc_new _ _
  have HBt : Hid (Calls Tryd.prog 30 #[.pointer (some ⟨f.X, 0, none⟩), .slice ap l.length cp, .slice aw l.length cw] w0 fun e w' => e = .returned (.func (.func 48) #[] #[.pointer (some ⟨w.heap.size + 1, 0, none⟩), .pointer (some ⟨w.heap.size + 2, 0, none⟩), .pointer (some ⟨w.heap.size + 3, 0, none⟩)]) ∧ w' = ((w0.alloc (.cells #[.pointer (some ⟨f.X, 0, none⟩)] 35)).alloc (.cells #[.slice ap l.length cp] 28)).alloc (.cells #[.slice aw l.length cw] 28)) := hid0 (by
    have h := between_any f ap aw l.length l.length cp cw w0
    rw [s0] at h
    exact h)
  have fold := hw0.symm
  clear h hs hp ha hI hw0
  refine (callsIn_wide (n := 8)).1 ?_
  refine callsIn_of_wp_marks Tryd.func21 rfl trivial ?_ rfl
  simp only [Tryd.ntmps21, List.size_toArray, List.length_cons, List.length_nil, Nat.reduceAdd, Nat.reduceSub, Array.replicate_succ, Array.replicate_zero, List.push_toArray, List.append_toArray, List.nil_append, List.cons_append]
  gi_wp2_with (refine ⟨trivial, ?_⟩; gi_at_call 30; refine (callsIn_wide.2 HBt.out).mono ?_; rintro e w1 ⟨rfl, hw1⟩; have HW1 := hid0 hw1; clear hw1 HBt)
  clear fold
  have hw1 := HW1.out
  have s1 : w1.heap.size = w.heap.size + 4 := by rw [hw1]; simp [s0]
  have b1 : Below w0.heap.size w0 w1 := by rw [hw1]; exact (((Below.refl _ _).alloc (Nat.le_refl _) _).alloc (by simp) _).alloc (by simp; omega) _
  have q1 : w1.heap[w.heap.size + 1]? = some (.cells #[.pointer (some ⟨f.X, 0, none⟩)] 35 (0, 0)) := by
    rw [hw1, ← s0]
    exact (Below.heap_alloc _ _ _ (by simp; omega)).trans ((Below.heap_alloc _ _ _ (by simp)).trans (heap_alloc_new _ _))
  have q2 : w1.heap[w.heap.size + 2]? = some (.cells #[.slice ap l.length cp] 28 (0, 0)) := by
    rw [hw1, show w.heap.size + 2 = (w0.alloc (.cells #[.pointer (some ⟨f.X, 0, none⟩)] 35)).heap.size by simp [s0]]
    exact (Below.heap_alloc _ _ _ (by simp)).trans (heap_alloc_new _ _)
  have q3 : w1.heap[w.heap.size + 3]? = some (.cells #[.slice aw l.length cw] 28 (0, 0)) := by
    rw [hw1, show w.heap.size + 3 = ((w0.alloc (.cells #[.pointer (some ⟨f.X, 0, none⟩)] 35)).alloc (.cells #[.slice ap l.length cp] 28)).heap.size by simp [s0]]
    exact heap_alloc_new _ _
  have r1 : w1.heap[w.heap.size]? = some (.cells #[.slice none 0 0] 28 (0, 0)) := (b1.block _ (by omega)).trans r0
  have bw1 : Below w.heap.size w w1 := b0.trans (b1.mono (by omega))
  have HG0 : Hid (Gw w w.heap.size w1.heap.size (w1.heap.size + 2) [] w1) := hid0 ⟨⟨_, r1, World.ownsRow_nil _ _ _ _, fun g hg => by cases hg⟩, bw1, ⟨_, _, _, _, _, _, q1, q2, q3⟩⟩
  have HX : Hid (∀ V : World, V.heap[w.heap.size + 1]? = w1.heap[w.heap.size + 1]? → V.heap[w.heap.size + 2]? = w1.heap[w.heap.size + 2]? → V.heap[w.heap.size + 3]? = w1.heap[w.heap.size + 3]? → Below w.heap.size w V → FlA V p q sup tr E bef f ∧ IA V ap P ∧ IA V aw l ∧ V.cell? ⟨w.heap.size + 1, 0, none⟩ = some (.pointer (some ⟨f.X, 0, none⟩)) ∧ V.cell? ⟨w.heap.size + 2, 0, none⟩ = some (.slice ap l.length cp) ∧ V.cell? ⟨w.heap.size + 3, 0, none⟩ = some (.slice aw l.length cw)) := hid0 (fun V h1 h2 h3 hb => ⟨HF.out.past hb, HP.out.past hb, HA.out.past hb, by rw [cell_of_row _ _ _ _ _ _ (h1.trans q1)]; rfl, by rw [cell_of_row _ _ _ _ _ _ (h2.trans q2)]; rfl, by rw [cell_of_row _ _ _ _ _ _ (h3.trans q3)]; rfl⟩)
  have HS1 := hid0 s1
  clear HW1 hw1 q1 q2 q3 r0 r1 b0 b1 bw1 s0
  clear s1
  refine wpIn_rangeBetween' (q := q) (sup := sup) (bef := bef) (f := f) 8 9 8 (by omega) (w.heap.size + 1) (w.heap.size + 2) (w.heap.size + 3) P l ap aw cp cw HS.out hl hP HI.out rfl (OwnX w.heap.size) (fun k W => Gw w w.heap.size w1.heap.size (w1.heap.size + 2) (hpK (hdF sup E tr P l) k) W ∧ W.heap[w.heap.size + 1]? = w1.heap[w.heap.size + 1]? ∧ W.heap[w.heap.size + 2]? = w1.heap[w.heap.size + 2]? ∧ W.heap[w.heap.size + 3]? = w1.heap[w.heap.size + 3]?) ?keep ?own ?off ?own0 ?js ⟨HG0.out, rfl, rfl, rfl⟩ ?assign ?body ?done
  case keep =>
    rintro k A B ⟨h1, h2, h3, h4⟩ ho
    obtain ⟨g1, _, g3⟩ := h1.keep HS1.out (Nat.le_refl _) (.inr (Nat.le_refl _)) ho
    exact ⟨g1, (g3 1 (by omega)).trans h2, (g3 2 (by omega)).trans h3, (g3 3 (by omega)).trans h4⟩
  case own => exact fun k A B b h1 ho hq => h1.1.own HS1.out (Nat.le_refl _) (.inr (Nat.le_refl _)) ho hq
  case off => exact fun k A h1 => h1.1.off HS1.out (Nat.le_refl _) (.inr (Nat.le_refl _))
  case own0 =>
    rintro b (e | ⟨v, e1, e2⟩)
    · have := HS1.out; omega
    · obtain ⟨v', g1, g2, _⟩ := HG0.out.ex
      rw [e1] at g1
      injection g1 with g1
      injection g1 with g1
      injection g1 with g1
      injection g1 with g1
      subst g1
      exact (World.ownsRow.lt g2 b e2).2
  case js => exact fun k A h1 => HX.out A h1.2.1 h1.2.2.1 h1.2.2.2 h1.1.bel
  case assign =>
    intro lp x hb W K hK
    simp only [actB, List.setIfInBounds_toArray, List.set_cons_succ, List.set_cons_zero] at hK ⊢
    gi_wp2
    exact hK
  case body =>
    rintro lp k W ⟨h1, h2, h3, h4⟩ hlt hsz
    simp only [actB, List.setIfInBounds_toArray, List.set_cons_succ, List.set_cons_zero]
    have HSt := hid0 (hpK_step (hdF sup E tr P l) k)
    have HHl := hid0 (hpK_len (hdF sup E tr P l) k)
    generalize hdF sup E tr P l (k + 1) = hb at *
    generalize hpK (hdF sup E tr P l) (k + 1) = L2 at *
    generalize hpK (hdF sup E tr P l) k = L1 at *
    cases hb with
    | false =>
      have HL : Hid (L2 = L1) := hid0 (by rw [HSt.out]; simp)
      have HG := hid0 h1
      have H2 := hid0 h2
      have H3 := hid0 h3
      have H4 := hid0 h4
      clear h1 h2 h3 h4 HSt HHl
      gi_wp2
      exact ⟨⟨by rw [HL.out]; exact HG.out, H2.out, H3.out, H4.out⟩, ⟨Nat.le_refl _, fun _ _ _ => rfl, fun _ h => .inl h⟩⟩
    | true =>
      have HL : Hid (L2 = L1 ++ [(k : Int) + 1]) := hid0 (by rw [HSt.out]; simp)
      obtain ⟨v, g1, g2, g3⟩ := h1.ex
      have c7 : W.cell? ⟨w.heap.size, 0, none⟩ = some v := by rw [cell_of_row _ _ _ _ _ _ g1]; rfl
      obtain ⟨av, cv, hv, _⟩ := own_slice g2
      subst hv
      have HG := hid0 h1
      have HR := hid0 g1
      have HO := hid0 g2
      have H2 := hid0 h2
      have H3 := hid0 h3
      have H4 := hid0 h4
      have hL1 := HHl.out
      obtain ⟨kk, hkk⟩ : ∃ kk : Int, kk = ((k + 1 : Nat) : Int) := ⟨_, rfl⟩
      have HKk : Hid (kk = (k : Int) + 1) := hid0 (by rw [hkk]; omega)
      rw [← hkk]
      have hbs : w.heap.size ≤ W.heap.size := h1.bel.size
      clear h1 h2 h3 h4 g1 g2 g3 HSt HHl hkk
      gi_wp2_with (gi_at_builtin; go_loud ((
        refine wpListIn_append_own_at _ rfl _ _ 28 rfl w.heap.size 3 i0 (.int .i64 0) 1 8 Tryd.underlying28 hi hz0 hz1 hz2 rfl (by decide) _ L1.length (L1.map (Value.int .i64)) rfl (World.ownsRow.alloc HO.out _) ⟨W.heap.size, 0, none⟩ 1 1 [.int .i64 kk] rfl rfl (cell_one_new _ _ _) (by simp [Value.oneCell']) (by unfold maxLen; omega) (by omega) (by simp; omega) ?_
        intro v2 w2 hown2 hgrow2 _ hat2
        obtain ⟨g2, c2, rfl, _⟩ := own_form hown2 (by omega)
        obtain ⟨n1, n2, n3, n4⟩ := HG.out.snoc HS1.out (Nat.le_refl _) (.inr (Nat.le_refl _)) hsz HR.out rfl hown2 hgrow2 hat2
        have HN1 := hid0 n1
        have HN2 := hid0 n2
        clear hown2 hgrow2 hat2 n1 n2)))
      have hno : ∀ b, w.heap.size + 1 ≤ b → b ≤ w.heap.size + 3 → ¬ OwnX w.heap.size W b := fun b hb1 hb2 hq => by
        rcases hq with hq | ⟨v', e1, e2⟩
        · omega
        · obtain ⟨v3, r1, r2, r3⟩ := HG.out.ex
          rw [e1] at r1
          injection r1 with r1
          injection r1 with r1
          injection r1 with r1
          injection r1 with r1
          subst r1
          have := r3 b e2
          have := HS1.out
          omega
      have hsz2 := HS1.out
      refine ⟨⟨by rw [HL.out, ← HKk.out]; exact HN1.out, (HN2.out.block _ (by omega) (hno _ (by omega) (by omega))).trans H2.out, (HN2.out.block _ (by omega) (hno _ (by omega) (by omega))).trans H3.out, (HN2.out.block _ (by omega) (hno _ (by omega) (by omega))).trans H4.out⟩, HN2.out⟩
  case done =>
    rintro W ⟨h1, h2, h3, h4⟩ hk
    obtain ⟨v, g1, g2, g3⟩ := h1.ex
    have c7 : W.cell? ⟨w.heap.size, 0, none⟩ = some v := by rw [cell_of_row _ _ _ _ _ _ g1]; rfl
    have HK := hid0 hk
    have HE : Hid (OwnI (W.putObj w1.heap.size (.deferred none)) w.heap.size v (hpK (hdF sup E tr P l) (l.length - 1)) ∧ Below w.heap.size w (W.putObj w1.heap.size (.deferred none))) := hid0 (by
      have ho := Only.putObj W w1.heap.size (.deferred none) (fun b => b = w1.heap.size) rfl
      refine ⟨own_blk g2 (fun g hg => ho.block g (World.ownsRow.lt g2 g hg).2 (fun e => by have := g3 g hg; omega)), h1.bel.trans (ho.below h1.bel.size (fun i hi => by have := HS1.out; omega))⟩)
    obtain ⟨av, cv, hv, _⟩ := own_slice g2
    subst hv
    clear h1 h2 h3 h4 g1 g2 g3 hk
    gi_wp2
    refine ⟨by simp, .inl ⟨_, _, rfl, run_takeDeferred HK.out, ?_⟩⟩
    refine ⟨_, results_tmp rfl _ _ _, ?_⟩
    exact ⟨_, rfl, HE.out.1, HE.out.2⟩
end
end Go.Proofs.YtekimkdaoblcgaaDoor
namespace Go.Proofs.YtekimkdaoblcgaaDoor
open Go.RowKit Go.Shelf Go.Maps
attribute [local go_sem] Oper.semAt_some
section
variable {w : World} {p : Prg} {q : PrL} {sup : Bool} {tr : List Int} {E : List (List Int)} {bef : Int} {f : FlL}
set_option maxRecDepth 100000 in
set_option maxHeartbeats 1600000 in
theorem fbreaks_any (A : Nat → Addr) (P l : List Int) (ap aw : Option Addr) (cp cw : Nat) (h : FlA w p q sup tr E bef f) (hs : FlS p tr E) (hl : l.length ≤ 100000000) (hp : IA w ap P) (ha : IA w aw l) (hI : ∀ c ∈ P, inI c) (hS : Sents w A) :
    Calls Tryd.prog 8 #[.pointer (some ⟨f.X, 0, none⟩), .slice ap P.length cp, .slice aw l.length cw] w fun e w' => DecR A w (decide (P.length = l.length) && okD p.sl p.N p.O p.sr p.M p.P p.B.length l) (fbF (decF p.sl p.N p.O p.sr p.M p.P l) p.B p.el bef (hdF sup E tr P l) l.length) e w' := by
  obtain ⟨w0, hw0⟩ : ∃ w0, w0 = w.alloc (.cells #[.pointer (some ⟨f.X, 0, none⟩)] 35) := ⟨_, rfl⟩
  have b0 : Below w.heap.size w w0 := by rw [hw0]; exact (Below.refl _ _).alloc (Nat.le_refl _) _
  have s0 : w0.heap.size = w.heap.size + 1 := by rw [hw0]; simp
  have r0 : w0.heap[w.heap.size]? = some (.cells #[.pointer (some ⟨f.X, 0, none⟩)] 35 (0, 0)) := by rw [hw0]; exact heap_alloc_new _ _
  have HX0 : Hid (∀ V : World, Below w0.heap.size w0 V → V.cell? ⟨w.heap.size, 0, none⟩ = some (.pointer (some ⟨f.X, 0, none⟩))) := hid0 (fun V hV => by rw [cell_of_row _ _ _ _ _ _ ((hV.block _ (by omega)).trans r0)]; rfl)
  have HIn : Hid (∀ V : World, Below w0.heap.size w0 V → FlA V p q sup tr E bef f ∧ IA V ap P ∧ IA V aw l ∧ Sents V A ∧ Below w.heap.size w V) := hid0 (fun V hV => by
    have hq := b0.trans (hV.mono (by omega))
    exact ⟨h.past hq, hp.past hq, ha.past hq, hS.below hq, hq⟩)
  have HS := hid0 hs
  have HI := hid0 hI
  have fold := hw0.symm
  clear h hs hp ha hI hS hw0 b0 r0
  have x := HX0.out w0 (Below.refl _ _)
  by_cases hP : P.length = l.length
  · rw [decide_eq_true hP, Bool.true_and, hP]
    have HPl := hid0 hP
    have hPb : ((l.length : Int) != (l.length : Int)) = false := by simp
    have HDe := hid0 (decide_any A p.sl p.sr p.N p.O p.M p.P p.B p.el q.aN q.aO q.aM q.aP q.aB q.cN q.cO q.cM q.cP q.cB l aw cw w0 HS.out.ps (HIn.out w0 (Below.refl _ _)).1.pr (by omega) (HIn.out w0 (Below.refl _ _)).2.2.1 (HIn.out w0 (Below.refl _ _)).2.2.2.1)
    have HLn : Hid ((decF p.sl p.N p.O p.sr p.M p.P l).length = l.length - 1) := hid0 (by unfold decF; simp)
    obtain ⟨⟨x0, x1, x2, x3⟩, x4, x5, x6, x7⟩ := (HIn.out w0 (Below.refl _ _)).1.cp
    cases hok : okD p.sl p.N p.O p.sr p.M p.P p.B.length l with
    | false =>
      unfold DecR at HDe
      rw [hok] at HDe
      rw [show errC A false = .iface 129 (.pointer (some (A 0))) from rfl] at HDe
      clear hok hP
      go_enter Tryd.func8, Tryd.ntmps8
      go_wp2_with (go_at_call 28; go_loud ((
        refine HDe.out.mono ?_
        rintro e w1 ⟨v, rfl, ho, hb⟩
        obtain ⟨av, cv, hv, _⟩ := own_slice ho
        subst hv
        have HB1 := hid0 hb
        clear hb ho)))
      go_returns
      exact ⟨_, rfl, World.ownsRow_nil _ _ _ _, (HIn.out _ (HB1.out.alloc HB1.out.size _)).2.2.2.2⟩
    | true =>
      unfold DecR at HDe
      rw [hok] at HDe
      simp only [if_true] at HDe
      rw [errC_true] at HDe
      have HLt := hid0 (dec_lt hok)
      clear hok
      generalize decF p.sl p.N p.O p.sr p.M p.P l = D at *
      by_cases h0 : l.length = 0
      · have h0I : (l.length : Int) = 0 := by omega
        have h0b : ((l.length : Int) == 0) = true := by rw [beq_iff_eq]; omega
        have HV : Hid (fbF D p.B p.el bef (hdF sup E tr P l) l.length = []) := hid0 (by unfold fbF; rw [if_pos h0])
        clear h0 hP
        go_enter Tryd.func8, Tryd.ntmps8
        go_wp2_with (go_at_call 28; go_loud ((
          refine HDe.out.mono ?_
          rintro e w1 ⟨v, rfl, ho, hb⟩
          obtain ⟨av, cv, hv, _⟩ := own_slice ho
          subst hv
          have HB1 := hid0 hb
          clear hb ho)))
        go_returns
        exact ⟨_, rfl, by rw [if_pos rfl, HV.out]; exact World.ownsRow_nil _ _ _ _, (HIn.out _ (HB1.out.alloc HB1.out.size _)).2.2.2.2⟩
      · have h0I : ¬ (l.length : Int) = 0 := by omega
        have h0b : ((l.length : Int) == 0) = false := by rw [beq_eq_false_iff_ne]; exact h0I
        have h0n : ¬ l = [] := fun e => h0 (by rw [e]; rfl)
        have hDl : D.length ≤ 100000000 := by have := HLn.out; omega
        have HV : Hid (fbF D p.B p.el bef (hdF sup E tr P l) l.length = (0 :: fbK D p.B p.el bef (hdF sup E tr P l) (l.length - 1)) ++ [(l.length : Int)]) := hid0 (by unfold fbF; rw [if_neg h0, HLn.out]; rfl)
        obtain ⟨i0, hi, hz0, hz1, hz2⟩ := info_parts infoInt
        clear h0
        refine (callsIn_wide (n := 8)).1 ?_
        refine callsIn_of_wp_marks Tryd.func8 rfl trivial ?_ rfl
        simp only [Tryd.ntmps8, List.size_toArray, List.length_cons, List.length_nil, Nat.reduceAdd, Nat.reduceSub, Array.replicate_succ, Array.replicate_zero, List.push_toArray, List.append_toArray, List.nil_append, List.cons_append]
        have HBt : Hid (∀ (V : World) (bF : Nat), V.heap.size = bF + 1 → Calls Tryd.prog 30 #[.pointer (some ⟨f.X, 0, none⟩), .slice ap l.length cp, .slice aw l.length cw] V fun e w' => e = .returned (.func (.func 48) #[] #[.pointer (some ⟨bF + 1, 0, none⟩), .pointer (some ⟨bF + 2, 0, none⟩), .pointer (some ⟨bF + 3, 0, none⟩)]) ∧ w' = ((V.alloc (.cells #[.pointer (some ⟨f.X, 0, none⟩)] 35)).alloc (.cells #[.slice ap l.length cp] 28)).alloc (.cells #[.slice aw l.length cw] 28)) := hid0 (fun V bF hV => by
          have h := between_any f ap aw l.length l.length cp cw V
          rw [hV] at h
          exact h)
        gi_wp2_with (first
          | (refine ⟨trivial, ?_⟩; gi_at_call 28; go_loud ((
              refine (callsIn_wide.2 HDe.out).mono ?_
              rintro e w2 ⟨v, rfl, ho, hb⟩
              obtain ⟨aD, cD, hv, hiD, hcD, _⟩ := own_slice ho
              subst hv
              have HB2 := hid0 hb
              have HID := hid0 hiD
              obtain ⟨w3, hw3⟩ : ∃ w3, w3 = w2.alloc (.cells #[.slice aD D.length cD] 28) := ⟨_, rfl⟩
              obtain ⟨w4, hw4⟩ : ∃ w4, w4 = ((w2.alloc (.cells #[.slice aD D.length cD] 28)).alloc (.cells #[.int .i64 0] 3)).alloc (.cells #[.slice (some ⟨w2.heap.size + 1, 0, none⟩) 1 1] 28) := ⟨_, rfl⟩
              have s3 : w3.heap.size = w2.heap.size + 1 := by rw [hw3]; simp
              have s4 : w4.heap.size = (w2.heap.size + 1 + 1) + 1 := by rw [hw4]; simp
              have b3 : Below w2.heap.size w2 w3 := by rw [hw3]; exact (Below.refl _ _).alloc (Nat.le_refl _) _
              have b4 : Below w3.heap.size w3 w4 := by rw [hw4, ← hw3]; exact ((Below.refl _ _).alloc (Nat.le_refl _) _).alloc (by simp) _
              have r3 : w3.heap[w2.heap.size]? = some (.cells #[.slice aD D.length cD] 28 (0, 0)) := by rw [hw3]; exact heap_alloc_new _ _
              have r4 : w4.heap[w3.heap.size]? = some (.cells #[.int .i64 0] 3 (0, 0)) := by rw [hw4, ← hw3]; exact (Below.heap_alloc _ _ _ (by simp)).trans (heap_alloc_new _ _)
              have r5 : w4.heap[(w2.heap.size + 1 + 1)]? = some (.cells #[.slice (some ⟨w2.heap.size + 1, 0, none⟩) 1 1] 28 (0, 0)) := by
                rw [hw4, ← hw3, ← s3, show w3.heap.size + 1 = (w3.alloc (.cells #[.int .i64 0] 3)).heap.size by simp]
                exact heap_alloc_new _ _
              have o4 : OwnI w4 w3.heap.size (.slice (some ⟨w2.heap.size + 1, 0, none⟩) 1 1) [0] := by
                rw [← s3, hw4, ← hw3]
                exact (own_one w3 _ 0 (Nat.le_refl _)).past ((Below.refl _ _).alloc (Nat.le_refl _) _)
              have HO4 := hid0 o4
              have H4 : Hid (w3.heap.size = w2.heap.size + 1 ∧ w4.heap.size = (w2.heap.size + 1 + 1) + 1 ∧ w2.heap.size + 1 + 1 = w3.heap.size + 1 ∧ Below w2.heap.size w2 w3 ∧ Below w3.heap.size w3 w4 ∧ w3.heap[w2.heap.size]? = some (.cells #[.slice aD D.length cD] 28 (0, 0)) ∧ w4.heap[w3.heap.size]? = some (.cells #[.int .i64 0] 3 (0, 0)) ∧ w4.heap[(w2.heap.size + 1 + 1)]? = some (.cells #[.slice (some ⟨w2.heap.size + 1, 0, none⟩) 1 1] 28 (0, 0))) := hid0 ⟨s3, s4, by omega, b3, b4, r3, r4, r5⟩
              have HB4 : Hid (Below w0.heap.size w0 w4) := hid0 (hb.trans ((Below.later b3 b4).mono hb.size))
              have xq4 := HX0.out w4 HB4.out
              have HB5 := hid0 (HBt.out w4 (w2.heap.size + 1 + 1) s4)
              have f4 := hw4.symm
              clear hb ho hiD HDe hw3 hw4 s3 s4 b3 b4 r3 r4 r5 HBt o4)))
          | (refine ⟨trivial, ?_⟩; gi_at_call 30; go_loud ((
              refine (callsIn_wide.2 HB5.out).mono ?_
              rintro e w5 ⟨rfl, hw5⟩
              have HW5 := hid0 hw5
              clear hw5 HB5)))
          | fail)
        clear f4 xq4 x x0 x1 x2 x3 x4 x5 x6 x7
        generalize w2.heap.size + 1 + 1 = bF at H4 ⊢
        obtain ⟨s3, s4, hbF, b3, b4, r3, r4, r5⟩ := H4.out
        have hw5 := HW5.out
        have s5 : w5.heap.size = bF + 4 := by rw [hw5]; simp [s4]
        have b5 : Below w4.heap.size w4 w5 := by rw [hw5]; exact (((Below.refl _ _).alloc (Nat.le_refl _) _).alloc (by simp) _).alloc (by simp; omega) _
        have q1 : w5.heap[bF + 1]? = some (.cells #[.pointer (some ⟨f.X, 0, none⟩)] 35 (0, 0)) := by
          rw [hw5, ← s4]
          exact (Below.heap_alloc _ _ _ (by simp; omega)).trans ((Below.heap_alloc _ _ _ (by simp)).trans (heap_alloc_new _ _))
        have q2 : w5.heap[bF + 2]? = some (.cells #[.slice ap l.length cp] 28 (0, 0)) := by
          rw [hw5, show bF + 2 = (w4.alloc (.cells #[.pointer (some ⟨f.X, 0, none⟩)] 35)).heap.size by simp [s4]]
          exact (Below.heap_alloc _ _ _ (by simp)).trans (heap_alloc_new _ _)
        have q3 : w5.heap[bF + 3]? = some (.cells #[.slice aw l.length cw] 28 (0, 0)) := by
          rw [hw5, show bF + 3 = ((w4.alloc (.cells #[.pointer (some ⟨f.X, 0, none⟩)] 35)).alloc (.cells #[.slice ap l.length cp] 28)).heap.size by simp [s4]]
          exact heap_alloc_new _ _
        have r6 : w5.heap[bF]? = some (.cells #[.slice (some ⟨w2.heap.size + 1, 0, none⟩) 1 1] 28 (0, 0)) := (b5.block _ (by omega)).trans r5
        have HG0 : Hid (Gw w3 bF w5.heap.size w3.heap.size [0] w5) := hid0 ⟨⟨_, r6, HO4.out.past b5, fun g hg => .inl (by
          have e : w2.heap.size + 1 = g := by injection hg
          omega)⟩, Below.later b4 b5, ⟨_, _, _, _, _, _, q1, q2, q3⟩⟩
        have HB3 : Hid (Below w0.heap.size w0 w3) := hid0 (HB2.out.trans (b3.mono HB2.out.size))
        have HXs : Hid (∀ V : World, Below w3.heap.size w3 V → FlA V p q sup tr E bef f ∧ IA V ap P ∧ IA V aw l ∧ V.cell? ⟨w.heap.size, 0, none⟩ = some (.pointer (some ⟨f.X, 0, none⟩)) ∧ V.cell? ⟨w2.heap.size, 0, none⟩ = some (.slice aD D.length cD) ∧ IA V aD D ∧ Below w.heap.size w V) := hid0 (fun V hV => by
          have hq := HB3.out.trans (hV.mono HB3.out.size)
          refine ⟨(HIn.out V hq).1, (HIn.out V hq).2.1, (HIn.out V hq).2.2.1, HX0.out V hq, ?_, (HID.out.past b3).past hV, (HIn.out V hq).2.2.2.2⟩
          rw [cell_of_row _ _ _ _ _ _ ((hV.block _ (by omega)).trans r3)]
          rfl)
        have HXb : Hid (∀ V : World, V.heap[bF + 1]? = w5.heap[bF + 1]? → V.heap[bF + 2]? = w5.heap[bF + 2]? → V.heap[bF + 3]? = w5.heap[bF + 3]? → V.cell? ⟨bF + 1, 0, none⟩ = some (.pointer (some ⟨f.X, 0, none⟩)) ∧ V.cell? ⟨bF + 2, 0, none⟩ = some (.slice ap l.length cp) ∧ V.cell? ⟨bF + 3, 0, none⟩ = some (.slice aw l.length cw)) := hid0 (fun V h1 h2 h3 => ⟨by rw [cell_of_row _ _ _ _ _ _ (h1.trans q1)]; rfl, by rw [cell_of_row _ _ _ _ _ _ (h2.trans q2)]; rfl, by rw [cell_of_row _ _ _ _ _ _ (h3.trans q3)]; rfl⟩)
        have HS5 := hid0 s5
        have HBf : Hid (bF = w3.heap.size + 1) := hid0 hbF
        have HRr : Hid (w3.heap.size ≤ bF ∧ (w3.heap.size < bF ∨ w5.heap.size + 2 ≤ w3.heap.size)) := hid0 ⟨by omega, .inl (by omega)⟩
        clear HW5 hw5 q1 q2 q3 r3 r4 r5 r6 s3 s4 hbF b3 b4 b5 H4 HO4 HID s5
        refine wpIn_rangeBetween' (q := q) (sup := sup) (bef := bef) (f := f) 11 12 8 (by omega) (bF + 1) (bF + 2) (bF + 3) P l ap aw cp cw HS.out hl HPl.out HI.out rfl (OwnX bF) (fun k W => Gw w3 bF w5.heap.size w3.heap.size (0 :: fbK D p.B p.el bef (hdF sup E tr P l) k) W ∧ W.heap[bF + 1]? = w5.heap[bF + 1]? ∧ W.heap[bF + 2]? = w5.heap[bF + 2]? ∧ W.heap[bF + 3]? = w5.heap[bF + 3]?) ?keep ?own ?off ?own0 ?js ⟨HG0.out, rfl, rfl, rfl⟩ ?assign ?body ?done
        case keep =>
          rintro k A B ⟨h1, h2, h3, h4⟩ ho
          obtain ⟨g1, _, g3⟩ := h1.keep HS5.out HRr.out.1 HRr.out.2 ho
          exact ⟨g1, (g3 1 (by omega)).trans h2, (g3 2 (by omega)).trans h3, (g3 3 (by omega)).trans h4⟩
        case own => exact fun k A B b h1 ho hq => h1.1.own HS5.out HRr.out.1 HRr.out.2 ho hq
        case off => exact fun k A h1 => h1.1.off HS5.out HRr.out.1 HRr.out.2
        case own0 =>
          rintro b (e | ⟨v, e1, e2⟩)
          · have := HS5.out; omega
          · obtain ⟨v', r1, g2, _⟩ := HG0.out.ex
            rw [e1] at r1
            injection r1 with r1
            injection r1 with r1
            injection r1 with r1
            injection r1 with r1
            subst r1
            exact (World.ownsRow.lt g2 b e2).2
        case js => exact fun k A h1 => ⟨(HXs.out A h1.1.bel).1, (HXs.out A h1.1.bel).2.1, (HXs.out A h1.1.bel).2.2.1, HXb.out A h1.2.1 h1.2.2.1 h1.2.2.2⟩
        case assign =>
          intro lp x hb W K hK
          simp only [actB, List.setIfInBounds_toArray, List.set_cons_succ, List.set_cons_zero] at hK ⊢
          gi_wp2
          exact hK
        case body =>
          rintro lp k W ⟨h1, h2, h3, h4⟩ hlt hsz
          simp only [actB, List.setIfInBounds_toArray, List.set_cons_succ, List.set_cons_zero]
          have hkD : k < D.length := by have := HLn.out; omega
          obtain ⟨hFl, _, _, y0, y1, hiD, _⟩ := HXs.out W h1.bel
          have y2 := hFl.c11
          unfold clo at y2
          obtain ⟨bd, od, ed, _, y3⟩ := hiD.at' k hkD
          subst ed
          have hdm := HLt.out _ (List.getElem_mem hkD)
          have HDc : Hid (∀ (hb : Bool) (n : Nat), Calls Tryd.prog 43 #[.int .i64 D[k], .bool hb, .pointer (some ⟨f.b1, 0, none⟩), .pointer (some ⟨f.b2, 0, none⟩), .pointer (some ⟨f.b3, 0, none⟩)] (W.drewN n) fun e w' => e = .returned (.bool (dcd p.B p.el bef D[k] hb)) ∧ w' = W.drewN n) := hid0 (fun hb n => decided_any p.B p.el bef D[k] hb q.aB q.cB f.b1 f.b2 f.b3 (W.drewN n) hFl.k1 hFl.k2 hFl.k3 ⟨hFl.pr.b.at'⟩ (by rcases hdm with h | h <;> omega))
          have HSt : Hid (fbK D p.B p.el bef (hdF sup E tr P l) (k + 1) = fbK D p.B p.el bef (hdF sup E tr P l) k ++ (if dcd p.B p.el bef D[k] (hdF sup E tr P l (k + 1)) then [(k : Int) + 1] else [])) := hid0 (by
            have h := fbK_step D p.B p.el bef (hdF sup E tr P l) k
            rw [List.getD_eq_getElem?_getD, List.getElem?_eq_getElem hkD] at h
            exact h)
          have HHl := hid0 (fbK_len D p.B p.el bef (hdF sup E tr P l) k)
          have HG := hid0 h1
          have H2 := hid0 h2
          have H3 := hid0 h3
          have H4 := hid0 h4
          generalize hdF sup E tr P l (k + 1) = hb at *
          generalize fbK D p.B p.el bef (hdF sup E tr P l) (k + 1) = L2 at *
          generalize fbK D p.B p.el bef (hdF sup E tr P l) k = L1 at *
          have HDb := hid0 (HDc.out hb)
          generalize D[k] = d at *
          obtain ⟨bb, hbb⟩ : ∃ bb, dcd p.B p.el bef d hb = bb := ⟨_, rfl⟩
          rw [hbb] at HDb HSt
          obtain ⟨kk, hkk⟩ : ∃ kk : Int, kk = ((k + 1 : Nat) : Int) := ⟨_, rfl⟩
          have HKk : Hid (kk = (k : Int) + 1) := hid0 (by rw [hkk]; omega)
          have hk1 : kk - 1 = (k : Int) := by rw [hkk]; omega
          have hwk : IntKind.i64.wrap (k : Int) = (k : Int) := by simp [IntKind.wrap, IntKind.bits, IntKind.signed]; omega
          have hkb : (0 : Int) ≤ (k : Int) ∧ (k : Int) < (D.length : Int) := by omega
          have hkt : ((k : Int)).toNat = k := by omega
          have hkI0 : (0 : Int) ≤ (k : Int) := by omega
          have hkI : (k : Int) < (D.length : Int) := by omega
          have hmx : Tryd.prog.follows .mixedOrders = true := by kernel_rfl
          rw [← hkk]
          clear h1 h2 h3 h4 hFl hiD hdm HDc hbb hkk
          gi_wp2
          refine wpIn_region_round (S := (fun V => V.cell? ⟨w.heap.size, 0, none⟩ = some (.pointer (some ⟨f.X, 0, none⟩)) ∧ V.cell? ⟨f.X, 11, none⟩ = some (.func (.func 43) #[] #[.pointer (some ⟨f.b1, 0, none⟩), .pointer (some ⟨f.b2, 0, none⟩), .pointer (some ⟨f.b3, 0, none⟩)]) ∧ V.cell? ⟨w2.heap.size, 0, none⟩ = some (.slice (some ⟨bd, od, none⟩) D.length cD) ∧ V.cell? ⟨bd, od + k, none⟩ = some (.int .i64 d))) (by kernel_rfl) (by kernel_rfl) ?_ (fun hHeld => ?_)
          · exact ⟨y0, y2, y1, y3⟩
          refine tkV (i := 0) (d := some 43) (v := ?_) rfl (by kernel_rfl) (by kernel_rfl) (by kernel_rfl) rfl (fun _ _ _ h => h) (by rfl) ?_ (by assumption) ?_
          rotate_left
          · (intro w hSw; (try dsimp only at hSw); (try simp only [List.getElem_toArray, List.getElem_cons_zero]); go_simp; try with_reducible rfl)
          try simp only [Act.put, List.setIfInBounds_toArray, List.set_cons_zero, List.set_cons_succ]
          refine tkV (i := 1) (d := some 44) (v := ?_) rfl (by kernel_rfl) (by kernel_rfl) (by kernel_rfl) rfl (fun _ _ _ h => h) (by rfl) ?_ (by assumption) ?_
          rotate_left
          · (intro w hSw; (try dsimp only at hSw); (try simp only [List.getElem_toArray, List.getElem_cons_zero, List.getElem_cons_succ]); go_simp; try with_reducible rfl)
          try simp only [Act.put, List.setIfInBounds_toArray, List.set_cons_zero, List.set_cons_succ]
          refine tkV (i := 2) (d := some 45) (v := ?_) rfl (by kernel_rfl) (by kernel_rfl) (by kernel_rfl) rfl (fun _ _ _ h => h) (by rfl) ?_ (by assumption) ?_
          rotate_left
          · (intro w hSw; (try dsimp only at hSw); (try simp only [List.getElem_toArray, List.getElem_cons_zero, List.getElem_cons_succ]); go_simp; try with_reducible rfl)
          try simp only [Act.put, List.setIfInBounds_toArray, List.set_cons_zero, List.set_cons_succ]
          refine tkV (i := 3) (d := some 46) (v := ?_) rfl (by kernel_rfl) (by kernel_rfl) (by kernel_rfl) rfl (fun _ _ _ h => h) (by rfl) ?_ (by assumption) ?_
          rotate_left
          · (intro w hSw; (try dsimp only at hSw); (try simp only [List.getElem_toArray, List.getElem_cons_zero, List.getElem_cons_succ]); go_simp; try with_reducible rfl)
          try simp only [Act.put, List.setIfInBounds_toArray, List.set_cons_zero, List.set_cons_succ]
          refine tkV (i := 4) (d := some 47) (v := ?_) rfl (by kernel_rfl) (by kernel_rfl) (by kernel_rfl) rfl (fun _ _ _ h => h) (by rfl) ?_ (by assumption) ?_
          rotate_left
          · (intro w hSw; (try dsimp only at hSw); (try simp only [List.getElem_toArray, List.getElem_cons_zero, List.getElem_cons_succ]); go_simp; try with_reducible rfl)
          try simp only [Act.put, List.setIfInBounds_toArray, List.set_cons_zero, List.set_cons_succ]
          refine tkV (i := 5) (d := some 48) (v := ?_) rfl (by kernel_rfl) (by kernel_rfl) (by kernel_rfl) rfl (fun _ _ _ h => h) (by rfl) ?_ (by assumption) ?_
          rotate_left
          · (intro w hSw; (try dsimp only at hSw); (try simp only [List.getElem_toArray, List.getElem_cons_zero, List.getElem_cons_succ]); go_simp; try with_reducible rfl)
          try simp only [Act.put, List.setIfInBounds_toArray, List.set_cons_zero, List.set_cons_succ]
          refine tkV (i := 6) (d := some 49) (v := ?_) rfl (by kernel_rfl) (by kernel_rfl) (by kernel_rfl) rfl (fun _ _ _ h => h) (by rfl) ?_ (by assumption) ?_
          rotate_left
          · (intro w hSw; (try dsimp only at hSw); (try simp only [List.getElem_toArray, List.getElem_cons_zero, List.getElem_cons_succ]); go_simp; try with_reducible rfl)
          try simp only [Act.put, List.setIfInBounds_toArray, List.set_cons_zero, List.set_cons_succ]
          refine tkV (i := 7) (d := some 50) (v := ?_) rfl (by kernel_rfl) (by kernel_rfl) (by kernel_rfl) rfl (fun _ _ _ h => h) (by rfl) ?_ (by assumption) ?_
          rotate_left
          · (intro w hSw; (try dsimp only at hSw); (try simp only [List.getElem_toArray, List.getElem_cons_zero, List.getElem_cons_succ]); go_simp; try with_reducible rfl)
          try simp only [Act.put, List.setIfInBounds_toArray, List.set_cons_zero, List.set_cons_succ]
          refine tkV (i := 8) (d := some 51) (v := ?_) rfl (by kernel_rfl) (by kernel_rfl) (by kernel_rfl) rfl (fun _ _ _ h => h) (by rfl) ?_ (by assumption) ?_
          rotate_left
          · (intro w hSw; (try dsimp only at hSw); (try simp only [List.getElem_toArray, List.getElem_cons_zero, List.getElem_cons_succ]); go_simp; try with_reducible rfl)
          try simp only [Act.put, List.setIfInBounds_toArray, List.set_cons_zero, List.set_cons_succ]
          refine tkV (i := 9) (d := some 52) (v := ?_) rfl (by kernel_rfl) (by kernel_rfl) (by kernel_rfl) rfl (fun _ _ _ h => h) (by rfl) ?_ (by assumption) ?_
          rotate_left
          · (intro w hSw; (try dsimp only at hSw); (try simp only [List.getElem_toArray, List.getElem_cons_zero, List.getElem_cons_succ]); go_simp; try with_reducible rfl)
          try simp only [Act.put, List.setIfInBounds_toArray, List.set_cons_zero, List.set_cons_succ]
          refine wpAnyH_ready (rs := [10]) (by kernel_rfl) (by simp) (AllReadyH.cons rfl (fun K hK => ?_) AllReadyH.nil)
          try simp only [List.getElem_toArray, List.getElem_cons_zero, List.getElem_cons_succ]
          go_simp
          refine (HDb.out 1).mono ?_
          rintro e w6 ⟨rfl, rfl⟩
          go_wp2_with fail
          refine hK.out _ _ ?_ (fun hHeld10 => ?_)
          · exact ⟨y0, y2, y1, y3⟩
          clear hK K
          (try simp only [Act.put]); (try simp only [List.setIfInBounds_toArray]); (try simp only [List.set_cons_succ]); (try simp only [List.set_cons_zero])
          refine wpAnyH_done (by kernel_rfl) ?_ _
          refine NormO.normal ?_
          have HGd := hid0 (HG.out.drewN 1)
          have HKd := hid0 (kpt_drewN bF W 1)
          have hszd : w5.heap.size + 2 ≤ (W.drewN 1).heap.size := hsz
          have H2d : Hid ((W.drewN 1).heap[bF + 1]? = w5.heap[bF + 1]?) := H2
          have H3d : Hid ((W.drewN 1).heap[bF + 2]? = w5.heap[bF + 2]?) := H3
          have H4d : Hid ((W.drewN 1).heap[bF + 3]? = w5.heap[bF + 3]?) := H4
          generalize W.drewN 1 = V at *
          clear HG H2 H3 H4 y0 y1 y2 y3 HDb hHeld hHeld10 hsz
          cases bb with
          | false =>
            have HL : Hid (L2 = L1) := hid0 (by rw [HSt.out]; simp)
            gi_wp2
            exact ⟨⟨by rw [HL.out]; exact HGd.out, H2d.out, H3d.out, H4d.out⟩, HKd.out⟩
          | true =>
            have HL : Hid (0 :: L2 = (0 :: L1) ++ [(k : Int) + 1]) := hid0 (by rw [HSt.out]; simp)
            obtain ⟨v, g1, g2, g3⟩ := HGd.out.ex
            have c7 : V.cell? ⟨bF, 0, none⟩ = some v := by rw [cell_of_row _ _ _ _ _ _ g1]; rfl
            obtain ⟨av, cv, hv, _⟩ := own_slice g2
            subst hv
            have HR := hid0 g1
            have HO := hid0 g2
            have hL1 := HHl.out
            have hL1c : (0 :: L1).length ≤ 100000002 := by rw [List.length_cons]; omega
            have hbs : w3.heap.size ≤ V.heap.size := HGd.out.bel.size
            generalize (0 :: L1 : List Int) = LL at *
            clear g1 g2 g3 HSt HHl
            gi_wp2_with (gi_at_builtin; go_loud ((
              refine wpListIn_append_own_at _ rfl _ _ 28 rfl w3.heap.size 3 i0 (.int .i64 0) 1 8 Tryd.underlying28 hi hz0 hz1 hz2 rfl (by decide) _ LL.length (LL.map (Value.int .i64)) rfl (World.ownsRow.alloc HO.out _) ⟨V.heap.size, 0, none⟩ 1 1 [.int .i64 kk] rfl rfl (cell_one_new _ _ _) (by simp [Value.oneCell']) (by unfold maxLen; omega) (by omega) (by simp; omega) ?_
              intro v2 w7 hown2 hgrow2 _ hat2
              obtain ⟨g2, c2, rfl, _⟩ := own_form hown2 (by omega)
              obtain ⟨n1, n2, n3, n4⟩ := HGd.out.snoc HS5.out HRr.out.1 HRr.out.2 hszd HR.out rfl hown2 hgrow2 hat2
              have HN1 := hid0 n1
              have HN2 := hid0 n2
              clear hown2 hgrow2 hat2 n1 n2)))
            have hno : ∀ b, bF + 1 ≤ b → b ≤ bF + 3 → ¬ OwnX bF V b := fun b hb1 hb2 hq => by
              rcases hq with hq | ⟨v', e1, e2⟩
              · omega
              · obtain ⟨v3, r1, r2, r3⟩ := HGd.out.ex
                rw [e1] at r1
                injection r1 with r1
                injection r1 with r1
                injection r1 with r1
                injection r1 with r1
                subst r1
                have h1 := r3 b e2
                have h2 := HS5.out
                have h3 := HBf.out
                omega
            have hsz2 := HS5.out
            refine ⟨⟨by rw [HL.out, ← HKk.out]; exact HN1.out, (HN2.out.block _ (by omega) (hno _ (by omega) (by omega))).trans H2d.out, (HN2.out.block _ (by omega) (hno _ (by omega) (by omega))).trans H3d.out, (HN2.out.block _ (by omega) (hno _ (by omega) (by omega))).trans H4d.out⟩, HKd.out.trans HN2.out⟩
        case done =>
          rintro W ⟨h1, h2, h3, h4⟩ hk
          obtain ⟨v, g1, g2, g3⟩ := h1.ex
          have c7 : W.cell? ⟨bF, 0, none⟩ = some v := by rw [cell_of_row _ _ _ _ _ _ g1]; rfl
          have HK := hid0 hk
          have HG := hid0 h1
          have HG3 := hid0 g3
          have HO := hid0 g2
          obtain ⟨av, cv, hv, _⟩ := own_slice g2
          subst hv
          have hLl : (0 :: fbK D p.B p.el bef (hdF sup E tr P l) (l.length - 1)).length ≤ 100000002 := by rw [List.length_cons]; have := fbK_len D p.B p.el bef (hdF sup E tr P l) (l.length - 1); omega
          have hbs : w3.heap.size ≤ W.heap.size := h1.bel.size
          have HBw : Hid (Below w.heap.size w w3) := hid0 (HXs.out w3 (Below.refl _ _)).2.2.2.2.2.2
          clear h1 h2 h3 h4 g1 g2 g3 hk
          generalize (0 :: fbK D p.B p.el bef (hdF sup E tr P l) (l.length - 1) : List Int) = LL at *
          gi_wp2_with (gi_at_builtin; go_loud ((
            refine wpListIn_append_own_at _ rfl _ _ 28 rfl w3.heap.size 3 i0 (.int .i64 0) 1 8 Tryd.underlying28 hi hz0 hz1 hz2 rfl (by decide) _ LL.length (LL.map (Value.int .i64)) rfl (World.ownsRow.alloc HO.out _) ⟨W.heap.size, 0, none⟩ 1 1 [.int .i64 (l.length : Int)] rfl rfl (cell_one_new _ _ _) (by simp [Value.oneCell']) (by unfold maxLen; omega) (by omega) (by simp; omega) ?_
            intro v2 w7 hown2 hgrow2 _ hat2
            have HE : Hid (w7.heap[w5.heap.size]? = some (.deferred (some [])) ∧ OwnI (w7.putObj w5.heap.size (.deferred none)) w.heap.size v2 (LL ++ [(l.length : Int)]) ∧ Below w.heap.size w (w7.putObj w5.heap.size (.deferred none))) := hid0 (by
              have hlt5 := (Array.getElem?_eq_some_iff.1 HK.out).1
              have ho1 : Only W w7 (fun k => (Value.slice av LL.length cv).ownBlock = some k) := ((Only.alloc W _ (fun k => (Value.slice av LL.length cv).ownBlock = some k))).trans (T := fun k => (Value.slice av LL.length cv).ownBlock = some k) ⟨hgrow2.os, hgrow2.tape, hgrow2.output, hgrow2.size, fun k hk hn => hgrow2.block k hk (fun e => hn e.symm)⟩ (fun i hi => .inl hi)
              have hh5 := HS5.out
              have hhf := HBf.out
              have h7 : w7.heap[w5.heap.size]? = some (.deferred (some [])) := (ho1.block _ hlt5 (fun e => by have := HG3.out _ e; omega)).trans HK.out
              have ho2 := Only.putObj w7 w5.heap.size (.deferred none) (fun b => b = w5.heap.size) rfl
              refine ⟨h7, ?_, ?_⟩
              · have hq : OwnI w7 w3.heap.size v2 (LL ++ [(l.length : Int)]) := by unfold OwnI; rw [List.length_append, List.map_append]; exact hown2
                refine owns_lower (own_blk hq (fun g hg => ho2.block g (World.ownsRow.lt hq g hg).2 (fun e => ?_))) HBw.out.size
                rcases hat2 with q' | q'
                · rw [q'] at hg; have := HG3.out _ hg; omega
                · rw [q'] at hg; simp at hg; omega
              · exact (HBw.out.trans ((HG.out.bel.trans (ho1.below HG.out.bel.size (fun i hi => (World.ownsRow.lt HO.out i hi).1))).mono HBw.out.size)).trans (ho2.below (by have := HBw.out.size; have := HG.out.bel.size; have := ho1.size; omega) (fun i hi => by have := HBw.out.size; omega)))
            clear hown2 hgrow2 hat2)))
          refine ⟨by simp, .inl ⟨_, _, rfl, run_takeDeferred HE.out.1, ?_⟩⟩
          refine ⟨.tuple #[v2, .nilIface], by simp [results, Tryd.results8, go_sem], ?_⟩
          exact ⟨v2, rfl, by rw [if_pos rfl, HV.out]; exact HE.out.2.1, HE.out.2.2⟩
  · have hPI : ¬ (P.length : Int) = (l.length : Int) := by omega
    have hPb : ((P.length : Int) != (l.length : Int)) = true := by simp; omega
    have hd : decide (P.length = l.length) = false := decide_eq_false hP
    have s9 := (HIn.out w0 (Below.refl _ _)).2.2.2.1.c0
    have HR : Hid (∀ n, Below w.heap.size w (w0.drewN n)) := hid0 (fun n => below_drew' (HIn.out w0 (Below.refl _ _)).2.2.2.2 n)
    rw [hd, Bool.false_and]
    clear hP hd
    go_enter Tryd.func8, Tryd.ntmps8
    go_wp2
    go_quiet ((fail))
    go_wp2
    go_returns
    exact ⟨_, rfl, World.ownsRow_nil _ _ _ _, HR.out _⟩
end
end Go.Proofs.YtekimkdaoblcgaaDoor
namespace Go.Proofs.YtekimkdaoblcgaaDoor
open Go.RowKit Go.Shelf Go.Maps
theorem sub_step {x y : Int} {r s : List Int} (h : List.Sublist (x :: r) (y :: s)) (hn : y ≠ x) : List.Sublist (x :: r) s := by
  cases h with
  | cons _ h => exact h
  | cons_cons _ h => exact absurd rfl hn
theorem sub_le {x y : Int} {r s : List Int} (h : List.Sublist (x :: r) (y :: s)) (hp : (y :: s).Pairwise (· < ·)) : y ≤ x := by
  have hm : x ∈ y :: s := h.subset (.head _)
  rcases List.mem_cons.1 hm with e | e
  · omega
  · have := List.rel_of_pairwise_cons hp e; omega
set_option maxRecDepth 10000 in
set_option maxHeartbeats 1600000 in
theorem within_any (L M : List Int) (a b : Option Addr) (ca cb : Nat) (w : World) (hL : L.length ≤ 1000000000) (hM : M.length ≤ 1000000000) (ha : IA w a L) (hb : IA w b M) (hs : List.Sublist L M) (hp : M.Pairwise (· < ·)) :
    Calls Tryd.prog 11 #[.slice a L.length ca, .slice b M.length cb] w fun e w' => e = .returned (.bool true) ∧ ∃ n, w' = w.drewN n := by
  have HA := hid0 ha
  have HB := hid0 hb
  have HS := hid0 hs
  have HP := hid0 hp
  clear ha hb hs hp
  go_enter Tryd.func11, Tryd.ntmps11
  go_wp2
  go_loopw [5, 6] (fun x y wr => ∃ i k : Nat, i ≤ L.length ∧ k ≤ M.length ∧ y = .int .i64 (i : Int) ∧ x = .int .i64 (k : Int) ∧ Hid (List.Sublist (L.drop i) (M.drop k)) ∧ ∃ n, wr = w.drewN n) (fun _ y _ => L.length - (intOf y).toNat)
  case atStart => exact ⟨0, 0, Nat.zero_le _, Nat.zero_le _, rfl, rfl, HS, 0, rfl⟩
  case round =>
    clear HS
    obtain ⟨i, k, hi, hk, rfl, rfl, HS, n, rfl⟩ := hrel
    by_cases hlt : i < L.length
    · have hiI : (i : Int) < (L.length : Int) := by omega
      have hiI0 : (0 : Int) ≤ (i : Int) := by omega
      obtain ⟨b1, o1, rfl, _, c1⟩ := HA.out.at' i hlt
      have HD : Hid (L.drop i = L[i] :: L.drop (i + 1)) := hid0 (List.drop_eq_getElem_cons hlt)
      generalize L[i] = x at *
      go_wp2
      go_loopw [5] (fun y wr => ∃ k : Nat, k ≤ M.length ∧ y = .int .i64 (k : Int) ∧ Hid (List.Sublist (L.drop i) (M.drop k)) ∧ ∃ n, wr = w.drewN n) (fun y _ => M.length - (intOf y).toNat)
      case atStart => exact ⟨k, hk, rfl, HS, n, rfl⟩
      case round =>
        clear HS hk
        obtain ⟨k, hk, rfl, HS, n, rfl⟩ := hrel
        have hkM : k < M.length := by
          rcases Nat.lt_or_ge k M.length with h | h
          · exact h
          · have hq := HS.out
            rw [List.drop_of_length_le h, HD.out] at hq
            cases hq
        have hkI : (k : Int) < (M.length : Int) := by omega
        have hkI0 : (0 : Int) ≤ (k : Int) := by omega
        have hkN : ¬ (k : Int) ≥ (M.length : Int) := by omega
        have hkD : decide ((M.length : Int) ≤ (k : Int)) = false := decide_eq_false hkN
        have hkD2 : decide (M.length ≤ k) = false := decide_eq_false (by omega)
        have hkD3 : decide ((k : Int) < (M.length : Int)) = true := decide_eq_true hkI
        have hkD4 : decide (k < M.length) = true := decide_eq_true hkM
        obtain ⟨b2, o2, rfl, _, c2⟩ := HB.out.at' k hkM
        have HE : Hid (M.drop k = M[k] :: M.drop (k + 1)) := hid0 (List.drop_eq_getElem_cons hkM)
        have HPk : Hid ((M.drop k).Pairwise (· < ·)) := hid0 (HP.out.sublist (List.drop_sublist k M))
        generalize M[k] = y at *
        have hyx : y ≤ x := by
          have h1 := HS.out
          have h2 := HPk.out
          rw [HD.out, HE.out] at h1
          rw [HE.out] at h2
          exact sub_le h1 h2
        by_cases hy : y < x
        · have HS2 : Hid (List.Sublist (L.drop i) (M.drop (k + 1))) := hid0 (by
            have h1 := HS.out
            rw [HD.out, HE.out] at h1
            rw [HD.out]
            exact sub_step h1 (by omega))
          have hyD : decide (y < x) = true := decide_eq_true hy
          clear HS HE HPk
          go_wp2
          go_quiet ((fail))
          go_wp2
          go_roundw
          case rel => exact ⟨k + 1, hkM, by go_num, HS2, _, rfl⟩
          case measure => simp [intOf]; omega
        · have hyD : decide (y < x) = false := decide_eq_false hy
          have hxy : (y != x) = false := by simp; omega
          have hxy2 : (y == x) = true := by simp; omega
          have HS2 : Hid (List.Sublist (L.drop (i + 1)) (M.drop k)) := hid0 (by
            have h1 := HS.out
            rw [HD.out] at h1
            exact (List.sublist_cons_self _ _).trans h1)
          clear HS HE HPk hyx
          go_wp2
          go_quiet ((fail))
          go_wp2
          go_quiet ((fail))
          go_wp2
          go_roundw
          case rel => exact ⟨i + 1, k, hlt, hk, by go_num, rfl, HS2, _, rfl⟩
          case measure => simp [intOf]; omega
    · have hiI : ¬ (i : Int) < (L.length : Int) := by omega
      go_wp2
      go_ret
      exact ⟨rfl, _, rfl⟩
end Go.Proofs.YtekimkdaoblcgaaDoor
namespace Go.Proofs.YtekimkdaoblcgaaDoor
open Go.RowKit Go.Shelf Go.Maps
theorem eq_upto {L M : List Int} (hl : L.length = M.length) (h : ∀ k, k < L.length → L[k]? = M[k]?) : L = M := by
  apply List.ext_getElem?
  intro k
  rcases Nat.lt_or_ge k L.length with hk | hk
  · exact h k hk
  · rw [List.getElem?_eq_none hk, List.getElem?_eq_none (by omega)]
set_option maxRecDepth 10000 in
set_option maxHeartbeats 800000 in
theorem sameInts_any (L M : List Int) (a b : Option Addr) (ca cb : Nat) (w : World) (hl : L.length ≤ 17592186044000) (ha : IA w a L) (hb : IA w b M) :
    Calls Tryd.prog 10 #[.slice a L.length ca, .slice b M.length cb] w fun e w' => e = .returned (.bool (decide (L = M))) ∧ ∃ n, w' = w.drewN n := by
  have HA := hid0 ha
  have HB := hid0 hb
  clear ha hb
  by_cases hlen : L.length = M.length
  · have hlI : (L.length : Int) = (M.length : Int) := by omega
    have HL := hid0 hlen
    clear hlen
    go_enter Tryd.func10, Tryd.ntmps10
    go_wp2
    go_loopw [5] (fun i wr => ∃ k : Nat, k ≤ L.length ∧ i = .int .i64 (k : Int) ∧ (∃ n, wr = w.drewN n) ∧ Hid (∀ j, j < k → L[j]? = M[j]?)) (fun i _ => L.length - (intOf i).toNat)
    case atStart => exact ⟨0, Nat.zero_le _, rfl, ⟨0, rfl⟩, hid0 (fun j h => absurd h (Nat.not_lt_zero _))⟩
    case round =>
      obtain ⟨k, hk, rfl, ⟨nd, rfl⟩, HE⟩ := hrel
      by_cases hlt : k < L.length
      · have hltM : k < M.length := by have := HL.out; omega
        obtain ⟨b1, o1, rfl, _, d1⟩ := HA.out.at' k hlt
        obtain ⟨b2, o2, rfl, _, d2⟩ := HB.out.at' k hltM
        have hkI : (k : Int) < (L.length : Int) := by omega
        have hkM : (k : Int) < (M.length : Int) := by omega
        have hkI0 : (0 : Int) ≤ (k : Int) := by omega
        have HG1 : Hid (L[k]? = some L[k]) := hid0 (List.getElem?_eq_getElem hlt)
        have HG2 : Hid (M[k]? = some M[k]) := hid0 (List.getElem?_eq_getElem hltM)
        generalize L[k] = s at *
        generalize M[k] = u at *
        by_cases hsu : s = u
        · subst hsu
          have hself : (s == s) = true := by simp
          have hself2 : (s != s) = false := by simp
          have HE2 : Hid (∀ j, j < k + 1 → L[j]? = M[j]?) := hid0 (fun j hj => by
            by_cases e : j = k
            · subst e; rw [HG1.out, HG2.out]
            · exact HE.out j (by omega))
          clear HE HG1 HG2
          go_wp2
          go_quiet ((fail))
          go_wp2
          go_roundw
          case rel => exact ⟨k + 1, by omega, by go_num, ⟨_, rfl⟩, HE2⟩
          case measure => simp [intOf]; omega
        · have hne : (s == u) = false := by simpa using hsu
          have hne2 : (s != u) = true := by simpa using hsu
          have HV : Hid (decide (L = M) = false) := hid0 (decide_eq_false (fun e => by
            subst e
            rw [HG1.out] at HG2
            exact hsu (by have := HG2.out; cases this; rfl)))
          clear HE HG1 HG2
          go_wp2
          go_quiet ((fail))
          go_wp2
          go_ret
          exact ⟨by rw [HV.out]; rfl, _, World.drewN_drewN _ _ _⟩
      · have hkI : ¬ (k : Int) < (L.length : Int) := by omega
        have HV : Hid (decide (L = M) = true) := hid0 (decide_eq_true (eq_upto HL.out (fun j hj => HE.out j (by omega))))
        clear HE
        go_wp2
        go_ret
        exact ⟨by rw [HV.out]; rfl, nd, rfl⟩
  · have hlI : ¬ (L.length : Int) = (M.length : Int) := by omega
    have HV : Hid (decide (L = M) = false) := hid0 (decide_eq_false (fun e => hlen (by rw [e])))
    clear hlen
    go_enter Tryd.func10, Tryd.ntmps10
    go_wp2
    go_ret
    exact ⟨by rw [HV.out]; rfl, 0, rfl⟩
def p9 : Prg := ⟨0, [[0, 0, 0]], [[]], 0, [[0, 0, 0]], [[]], [], true⟩
def E9 : List (List Int) := [[97, 46]]
theorem ok9 : okN p9 3 0 [2] E9 = true := by decide
theorem okd9 : (decide (([97, 46, 32, 120] : List Int).length = ([0, 1, 2, 0] : List Int).length) && okD p9.sl p9.N p9.O p9.sr p9.M p9.P p9.B.length [0, 1, 2, 0]) = true := by decide
theorem brk9 : fbF (decF p9.sl p9.N p9.O p9.sr p9.M p9.P [0, 1, 2, 0]) p9.B p9.el 0 (hdF true E9 [2] [97, 46, 32, 120] [0, 1, 2, 0]) ([0, 1, 2, 0] : List Int).length = [0, 4] := by decide
theorem hid9 : hpK (hdF true E9 [2] [97, 46, 120] [0, 1, 0]) (([0, 1, 0] : List Int).length - 1) = [1, 2] := by decide
theorem ia_two (V : World) (P l : List Int) (o1 o2 : Obj) (h1 : o1 = .cells (P.map (Value.int .i64)).toArray 3 (0, 0)) (h2 : o2 = .cells (l.map (Value.int .i64)).toArray 3 (0, 0)) : Below V.heap.size V ((V.alloc o1).alloc o2) ∧ IA ((V.alloc o1).alloc o2) (some ⟨V.heap.size, 0, none⟩) P ∧ IA ((V.alloc o1).alloc o2) (some ⟨V.heap.size + 1, 0, none⟩) l := by
  have b1 : Below V.heap.size V (V.alloc o1) := (Below.refl _ _).alloc (Nat.le_refl _) _
  have b2 : Below (V.alloc o1).heap.size (V.alloc o1) ((V.alloc o1).alloc o2) := (Below.refl _ _).alloc (Nat.le_refl _) _
  refine ⟨Below.later b1 b2, (ia_new V P o1 h1).past b2, ?_⟩
  have h := ia_new (V.alloc o1) l o2 h2
  rwa [World.size_alloc] at h
theorem in9 : ∀ c ∈ ([97, 46, 32, 120] : List Int), inI c := fun c hc => inI_small (by
  have : ∀ c ∈ ([97, 46, 32, 120] : List Int), 0 ≤ c ∧ c ≤ 1000000 := by decide
  exact this c hc)
theorem in8 : ∀ c ∈ ([97, 46, 120] : List Int), inI c := fun c hc => inI_small (by
  have : ∀ c ∈ ([97, 46, 120] : List Int), 0 ≤ c ∧ c ≤ 1000000 := by decide
  exact this c hc)
/-- What known lays. -/
theorem lay9 (w : World) : ∃ W1, (((w.alloc (.cells #[.int .i64 0, .int .i64 0, .int .i64 0] 3)).alloc (.cells #[.slice (some ⟨w.heap.size, 0, none⟩) 3 3] 28)).alloc (.cells #[.slice none 0 0] 28)).alloc (.cells #[.int .i64 0, .slice (some ⟨w.heap.size + 1, 0, none⟩) 1 1, .slice (some ⟨w.heap.size + 1 + 1, 0, none⟩) 1 1] 24) = W1 ∧ W1.heap.size = w.heap.size + 4 ∧ Below w.heap.size w W1 ∧ W1.heap[w.heap.size + 1 + 1 + 1]? = some (.cells #[.int .i64 0, .slice (some ⟨w.heap.size + 1, 0, none⟩) 1 1, .slice (some ⟨w.heap.size + 1 + 1, 0, none⟩) 1 1] 24 (0, 0)) ∧
    PrA W1 p9 ⟨some ⟨w.heap.size + 1, 0, none⟩, some ⟨w.heap.size + 1 + 1, 0, none⟩, some ⟨w.heap.size + 1, 0, none⟩, some ⟨w.heap.size + 1 + 1, 0, none⟩, none, 1, 1, 1, 1, 0⟩ := by
  obtain ⟨v1, e1⟩ : ∃ v1, w.alloc (.cells #[.int .i64 0, .int .i64 0, .int .i64 0] 3) = v1 := ⟨_, rfl⟩
  obtain ⟨v2, e2⟩ : ∃ v2, v1.alloc (.cells #[.slice (some ⟨w.heap.size, 0, none⟩) 3 3] 28) = v2 := ⟨_, rfl⟩
  obtain ⟨v3, e3⟩ : ∃ v3, v2.alloc (.cells #[.slice none 0 0] 28) = v3 := ⟨_, rfl⟩
  obtain ⟨W1, e4⟩ : ∃ W1, v3.alloc (.cells #[.int .i64 0, .slice (some ⟨w.heap.size + 1, 0, none⟩) 1 1, .slice (some ⟨w.heap.size + 1 + 1, 0, none⟩) 1 1] 24) = W1 := ⟨_, rfl⟩
  have s1 : v1.heap.size = w.heap.size + 1 := by rw [← e1]; simp
  have s2 : v2.heap.size = w.heap.size + 1 + 1 := by rw [← e2]; simp [s1]
  have s3 : v3.heap.size = w.heap.size + 1 + 1 + 1 := by rw [← e3]; simp [s2]
  have s4 : W1.heap.size = w.heap.size + 4 := by rw [← e4]; simp [s3]
  have b1 : Below w.heap.size w v1 := by rw [← e1]; exact (Below.refl _ _).alloc (Nat.le_refl _) _
  have b2 : Below v1.heap.size v1 v2 := by rw [← e2]; exact (Below.refl _ _).alloc (Nat.le_refl _) _
  have b3 : Below v2.heap.size v2 v3 := by rw [← e3]; exact (Below.refl _ _).alloc (Nat.le_refl _) _
  have b4 : Below v3.heap.size v3 W1 := by rw [← e4]; exact (Below.refl _ _).alloc (Nat.le_refl _) _
  have i1 : IA W1 (some ⟨w.heap.size, 0, none⟩) [0, 0, 0] := (((by rw [← e1]; exact ia_new w [0, 0, 0] _ rfl : IA v1 (some ⟨w.heap.size, 0, none⟩) [0, 0, 0]).past b2).past b3).past b4
  have r2 : W1.heap[w.heap.size + 1]? = some (.cells #[.slice (some ⟨w.heap.size, 0, none⟩) 3 3] 28 (0, 0)) := (b4.block _ (by omega)).trans ((b3.block _ (by omega)).trans (by rw [← e2, ← s1]; exact heap_alloc_new _ _))
  have r3 : W1.heap[w.heap.size + 1 + 1]? = some (.cells #[.slice none 0 0] 28 (0, 0)) := (b4.block _ (by omega)).trans (by rw [← e3, ← s2]; exact heap_alloc_new _ _)
  have n1 : RwC W1 (some ⟨w.heap.size + 1, 0, none⟩) [[0, 0, 0]] := ⟨fun k hk => by
    have hk1 : k < 1 := hk
    obtain rfl : k = 0 := by omega
    exact ⟨_, 0, rfl, by omega, _, 3, by rw [cell_of_row _ _ _ _ _ _ r2]; rfl, i1, Nat.le_refl _⟩⟩
  have n2 : RwC W1 (some ⟨w.heap.size + 1 + 1, 0, none⟩) [[]] := ⟨fun k hk => by
    have hk1 : k < 1 := hk
    obtain rfl : k = 0 := by omega
    exact ⟨_, 0, rfl, by omega, none, 0, by rw [cell_of_row _ _ _ _ _ _ r3]; rfl, IA.none, Nat.le_refl _⟩⟩
  refine ⟨W1, by rw [e1, e2, e3, e4], s4, Below.later (Below.later (Below.later b1 b2) b3) b4, by rw [← e4, ← s3]; exact heap_alloc_new _ _, ⟨n1, n2, n1, n2, ⟨fun k hk => absurd hk (Nat.not_lt_zero _)⟩⟩⟩
theorem lay8 (w : World) : ∃ W2, ((w.alloc (.cells #[.int .i64 2] 3)).alloc (.cells #[.int .i64 97, .int .i64 46] 3)).alloc (.cells #[.slice (some ⟨w.heap.size + 1, 0, none⟩) 2 2] 28) = W2 ∧ Below w.heap.size w W2 ∧ IA W2 (some ⟨w.heap.size, 0, none⟩) [2] ∧ RwA W2 (some ⟨w.heap.size + 1 + 1, 0, none⟩) E9 := by
  obtain ⟨b1, i1, i2⟩ := ia_two w [2] [97, 46] _ _ rfl rfl
  refine ⟨_, rfl, ?_⟩
  generalize hv : (w.alloc (.cells ([2].map (Value.int .i64)).toArray 3 (0, 0))).alloc (.cells ([97, 46].map (Value.int .i64)).toArray 3 (0, 0)) = V at b1 i1 i2
  have hv' : (w.alloc (.cells #[.int .i64 2] 3)).alloc (.cells #[.int .i64 97, .int .i64 46] 3) = V := hv
  rw [hv']
  have sV : V.heap.size = w.heap.size + 1 + 1 := by rw [← hv]; simp
  have b2 : Below V.heap.size V (V.alloc (.cells #[.slice (some ⟨w.heap.size + 1, 0, none⟩) 2 2] 28)) := (Below.refl _ _).alloc (Nat.le_refl _) _
  refine ⟨Below.later b1 b2, i1.past b2, ⟨fun k hk => ?_⟩⟩
  have hk1 : k < 1 := hk
  obtain rfl : k = 0 := by omega
  refine ⟨_, 0, rfl, by simp; omega, _, 2, ?_, i2.past b2⟩
  rw [← sV, cell_of_row _ _ _ _ _ _ (heap_alloc_new V _)]
  rfl
end Go.Proofs.YtekimkdaoblcgaaDoor
namespace Go.Proofs.YtekimkdaoblcgaaDoor
open Go.RowKit Go.Shelf Go.Maps
set_option maxRecDepth 100000 in
set_option maxHeartbeats 1600000 in
theorem known_any (A : Nat → Addr) (w : World) (hS : Sents w A) : Calls Tryd.prog 5 #[] w fun e w' => e = .returned (.bool true) ∧ Below w.heap.size w w' := by
  obtain ⟨W1, f1, s1, b1, r1, pr1⟩ := lay9 w
  obtain ⟨W2, f2, b2, it, re⟩ := lay8 W1
  have HNw := hid0 (fnew_any A p9 ⟨some ⟨w.heap.size + 1, 0, none⟩, some ⟨w.heap.size + 1 + 1, 0, none⟩, some ⟨w.heap.size + 1, 0, none⟩, some ⟨w.heap.size + 1 + 1, 0, none⟩, none, 1, 1, 1, 1, 0⟩ 3 0 [2] (some ⟨W1.heap.size, 0, none⟩) 1 E9 (some ⟨W1.heap.size + 1 + 1, 0, none⟩) 1 W2
    ⟨by decide, by decide, by decide, by decide, by decide, by decide, by decide⟩ (pr1.past b2) it (by decide) re (by decide) (hS.below (Below.later b1 b2)))
  have HS2 := hid0 (hS.below (Below.later b1 b2))
  have HB2 := hid0 (Below.later b1 b2)
  have x0 : W1.cell? ⟨w.heap.size + 1 + 1 + 1, 0, none⟩ = some (.int .i64 0) := (cell_of_row _ _ _ _ _ _ r1).trans rfl
  have x1 : W1.cell? ⟨w.heap.size + 1 + 1 + 1, 1, none⟩ = some (.slice (some ⟨w.heap.size + 1, 0, none⟩) 1 1) := (cell_of_row _ _ _ _ _ _ r1).trans rfl
  have x2 : W1.cell? ⟨w.heap.size + 1 + 1 + 1, 2, none⟩ = some (.slice (some ⟨w.heap.size + 1 + 1, 0, none⟩) 1 1) := (cell_of_row _ _ _ _ _ _ r1).trans rfl
  have hpn := @run_eql_pointer_nil Tryd.prog
  clear s1 b1 r1 pr1 b2 it re hS
  go_enter Tryd.func5, Tryd.ntmps5
  go_upto_region 2 with (fail)
  clear f1
  go_upto_region 3 with (go_at_call 6; go_loud ((
    refine HNw.out.mono ?_
    rintro e w3 ⟨hb, hr⟩
    obtain ⟨hfs, q2, f, rfl, hfa⟩ : FlS p9 [2] E9 ∧ ∃ (q2 : PrL) (f : FlL), e = .returned (.tuple #[.pointer (some ⟨f.X, 0, none⟩), .nilIface]) ∧ FlA w3 p9 q2 (decide ((0 : Int) ≤ 0)) [2] E9 0 f := by
      rcases hr with ⟨h1, _⟩ | ⟨_, h1, h2⟩
      · rw [ok9] at h1; cases h1
      · exact ⟨h1, h2⟩
    have HFs := hid0 hfs
    have HFa : Hid (FlA w3 p9 q2 true [2] E9 0 f) := hid0 hfa
    have HB3 := hid0 hb
    have HS3 := hid0 (HS2.out.below hb)
    clear hb hr hfs hfa HNw)))
  clear f2 x0 x1 x2
  have HBr : Hid (∀ V : World, Below w3.heap.size w3 V → Calls Tryd.prog 8 #[.pointer (some ⟨f.X, 0, none⟩), .slice (some ⟨V.heap.size, 0, none⟩) 4 4, .slice (some ⟨V.heap.size + 1, 0, none⟩) 4 4] ((V.alloc (.cells #[.int .i64 97, .int .i64 46, .int .i64 32, .int .i64 120] 3)).alloc (.cells #[.int .i64 0, .int .i64 1, .int .i64 2, .int .i64 0] 3)) fun e w' => ∃ a c, e = .returned (.tuple #[.slice a 2 c, .nilIface]) ∧ Hid (IA w' a [0, 4]) ∧ Below w3.heap.size w3 w') := hid0 (fun V hV => by
    obtain ⟨b1, i1, i2⟩ := ia_two V [97, 46, 32, 120] [0, 1, 2, 0] _ _ rfl rfl
    have hq := Below.later hV b1
    have h := fbreaks_any A [97, 46, 32, 120] [0, 1, 2, 0] _ _ 4 4 (HFa.out.past hq) HFs.out (by decide) i1 i2 in9 (HS3.out.below hq)
    rw [okd9, brk9] at h
    refine h.mono ?_
    rintro e w' ⟨v, rfl, ho, hb⟩
    obtain ⟨a, c, rfl, hia, _⟩ := own_slice ho
    exact ⟨a, c, rfl, hid0 hia, Below.later hq hb⟩)
  have HHi : Hid (∀ V : World, Below w3.heap.size w3 V → Calls Tryd.prog 21 #[.pointer (some ⟨f.X, 0, none⟩), .slice (some ⟨V.heap.size, 0, none⟩) 3 3, .slice (some ⟨V.heap.size + 1, 0, none⟩) 3 3] ((V.alloc (.cells #[.int .i64 97, .int .i64 46, .int .i64 120] 3)).alloc (.cells #[.int .i64 0, .int .i64 1, .int .i64 0] 3)) fun e w' => ∃ a c, e = .returned (.slice a 2 c) ∧ Hid (IA w' a [1, 2]) ∧ Below w3.heap.size w3 w') := hid0 (fun V hV => by
    obtain ⟨b1, i1, i2⟩ := ia_two V [97, 46, 120] [0, 1, 0] _ _ rfl rfl
    have hq := Below.later hV b1
    have h := hidden_any [97, 46, 120] [0, 1, 0] _ _ 3 3 (HFa.out.past hq) HFs.out (by decide) rfl i1 i2 in8
    rw [hid9] at h
    refine h.mono ?_
    rintro e w' ⟨v, rfl, ho, hb⟩
    obtain ⟨a, c, rfl, hia, _⟩ := own_slice ho
    exact ⟨a, c, rfl, hid0 hia, Below.later hq hb⟩)
  have HSi : Hid (∀ (x y : Int) (V : World), Below w3.heap.size w3 V → ∀ a c, IA V a [x, y] → Calls Tryd.prog 10 #[.slice a 2 c, .slice (some ⟨V.heap.size, 0, none⟩) 2 2] (V.alloc (.cells #[.int .i64 x, .int .i64 y] 3)) fun e w' => e = .returned (.bool true) ∧ Below w3.heap.size w3 w') := hid0 (fun x y V hV a c hia => by
    have b1 : Below V.heap.size V (V.alloc (.cells #[.int .i64 x, .int .i64 y] 3)) := (Below.refl _ _).alloc (Nat.le_refl _) _
    have h := sameInts_any [x, y] [x, y] a (some ⟨V.heap.size, 0, none⟩) c 2 (V.alloc (.cells #[.int .i64 x, .int .i64 y] 3)) (by simp) (hia.past b1) (ia_new V [x, y] _ rfl)
    rw [decide_eq_true rfl] at h
    refine h.mono ?_
    rintro e w' ⟨rfl, n, rfl⟩
    exact ⟨rfl, below_drew' (Below.later hV b1) n⟩)
  have HE : Hid (∀ V : World, Below w3.heap.size w3 V → Below w.heap.size w V) := hid0 (fun V hV => HB2.out.trans ((Below.later HB3.out hV).mono HB2.out.size))
  have HV0 : Hid (Below w3.heap.size w3 w3) := hid0 (Below.refl _ _)
  have HBr0 := hid0 (HBr.out w3 HV0.out)
  go_upto_region 6 with (go_at_call 8; go_loud ((
    refine HBr0.out.mono ?_
    rintro e w4 ⟨a4, c4, rfl, HI4, hb⟩
    have HV4 := hid0 hb
    clear hb HBr0)))
  have HSa := hid0 (HSi.out 0 4 w4 HV4.out a4 c4 HI4.out)
  have M1 : Hid True := trivial
  go_wp2_with (first
    | (go_at_call 10; clear M1; go_loud ((
        refine HSa.out.mono ?_
        rintro e w5 ⟨rfl, hb⟩
        have HV5 := hid0 hb
        have HH5 := hid0 (HHi.out w5 hb)
        clear hb HSa)))
    | (go_at_call 21; go_loud ((
        refine HH5.out.mono ?_
        rintro e w6 ⟨a6, c6, rfl, HI6, hb⟩
        have HSb := hid0 (HSi.out 1 2 w6 hb a6 c6 HI6.out)
        clear hb HH5)))
    | (go_at_call 10; go_loud ((
        refine HSb.out.mono ?_
        rintro e w7 ⟨rfl, hb⟩
        have HV7 := hid0 hb
        clear hb HSb)))
    | fail)
  go_ret
  exact ⟨rfl, HE.out _ HV7.out⟩
end Go.Proofs.YtekimkdaoblcgaaDoor
namespace Go.Proofs.YtekimkdaoblcgaaDoor
open Go.RowKit Go.Shelf Go.Maps
/-- Lists in a row of the law's own; their numbers as w0 has them. -/
structure RwO (w0 w : World) (v : Value) (L : List (List Int)) (vs : List Value) : Prop where
  own : w.ownsRow w0.heap.size 28 1 v L.length vs
  row : ∀ k (h : k < L.length), ∃ a c, vs[k]? = some (.slice a (L[k]).length c) ∧ IA w0 a L[k]
theorem RwO.nil (w0 w : World) : RwO w0 w (.slice none 0 0) [] [] := ⟨World.ownsRow_nil _ _ _ _, fun _k h => absurd h (Nat.not_lt_zero _)⟩
theorem RwO.rwa {w0 w : World} {v : Value} {L : List (List Int)} {vs : List Value} (h : RwO w0 w v L vs) (hb : Below w0.heap.size w0 w) : ∃ a c, v = .slice a L.length c ∧ RwA w a L := by
  have h0 := h.own
  rcases h0.2 with ⟨e, hn⟩ | ⟨g, cap, cur, e, _⟩
  · exact ⟨none, 0, by rw [e, hn], ⟨fun k hk => by omega⟩⟩
  · refine ⟨_, cap, e, ⟨fun k hk => ?_⟩⟩
    obtain ⟨a1, c1, h1, h2⟩ := h.row k hk
    rw [e] at h0
    refine ⟨g, 0, rfl, (World.ownsRow.lt h0 g rfl).2, a1, c1, ?_, h2.past hb⟩
    rw [Nat.zero_add, World.ownsRow.cellAt h0 k (by omega)]
    exact h1
theorem chooseL {α : Type} {n : Nat} (d : α) {P : Nat → α → Prop} (h : ∀ j, j < n → ∃ z, P j z) : ∃ l : List α, l.length = n ∧ ∀ j (hj : j < l.length), P j l[j] := by
  have h2 : ∀ j, ∃ z, j < n → P j z := fun j => by
    by_cases hj : j < n
    · obtain ⟨z, hz⟩ := h j hj; exact ⟨z, fun _ => hz⟩
    · exact ⟨d, fun q => absurd q hj⟩
  obtain ⟨f, hf⟩ := Classical.axiomOfChoice h2
  refine ⟨(List.range n).map f, by simp, fun j hj => ?_⟩
  have : j < n := by simpa using hj
  simpa using hf j this
theorem app_nilL (w : World) (ty : TypeId) (a : Option Addr) (n c : Nat) (ha : a = none → n = 0 ∧ c = 0) (hc : n ≤ c) : (Builtin.append_ #[22, 22] ty #[.slice a n c, .slice none 0 0]).run Tryd.prog w = .ok (.slice a n c) w := by
  cases a with
  | none =>
    obtain ⟨rfl, rfl⟩ := ha rfl
    go_simp
  | some ad =>
    go_simp
    try (intro hlt; omega)
set_option maxRecDepth 10000 in
theorem wpList_spreadL {ops : Array Oper} {rest : List Oper} {op : Oper} {a : Act} {w w0 : World} {Q : Exit → Act → World → Prop} (hgd : op.guard = none) (s x : Operand) (ho : op.op = .call { callee := .builtin .append, args := #[s, x], argTypes := #[22, 22] })
    (v : Value) (L M : List (List Int)) (vs : List Value) (aX : Option Addr) (cX : Nat) (hs : a.eval s = v) (hx : a.eval x = .slice aX M.length cX) (hnil : aX = none → cX = 0) (hv : RwO w0 w v L vs) (ha : RwA w0 aX M) (hb : Below w0.heap.size w0 w) (hl : L.length ≤ 1000000000) (hm : M.length ≤ 1000000000)
    (h : ∀ v' w' vs', RwO w0 w' v' (L ++ M) vs' → Below w0.heap.size w0 w' → wpList Tryd.prog ops Q rest (a.put op.dst v') w') : wpList Tryd.prog ops Q (op :: rest) a w := by
  obtain ⟨i0, hi, hz0, hz1, hz2⟩ := info_parts infoInts
  cases aX with
  | none =>
    have hM : M = [] := by
      cases M with
      | nil => rfl
      | cons y r => obtain ⟨b, off, e, _⟩ := ha.at' 0 (by simp); cases e
    subst hM
    have hc := hnil rfl
    subst hc
    obtain ⟨av, cv, e1, _⟩ := hv.rwa hb
    have hav : av = none → L.length = 0 ∧ cv = 0 := fun q => by
      rcases hv.own.2 with ⟨e2, hn⟩ | ⟨g, cap, cur, e2, _⟩
      · rw [e1] at e2; injection e2 with _ q2 q3; exact ⟨hn, q3⟩
      · rw [e1] at e2; injection e2 with q1; rw [q] at q1; cases q1
    have hcv : L.length ≤ cv := by
      rcases hv.own.2 with ⟨e2, hn⟩ | ⟨g, cap, cur, e2, _, _, q5, _⟩
      · omega
      · rw [e1] at e2; injection e2 with _ _ q3; omega
    refine wpList_plain hgd fun K hK => ?_
    have hr := app_nilL w op.type av L.length cv hav hcv
    rw [e1] at hs
    unfold Oper.wp execOp
    simp only [ho, resolve, invoke, builtin, Sem.run_bind, Sem.run_pure, Result.andThen_ok, List.map_toArray, List.map_cons, List.map_nil, hs, hx, List.length_nil, hr]
    refine hK _ _ (h _ _ vs ?_ hb)
    rw [List.append_nil, ← e1]
    exact hv
  | some ad =>
    obtain ⟨us, hu1, hu2⟩ := chooseL (n := M.length) (Value.slice none 0 0) (P := fun k u => ∃ (hk : k < M.length) (b off a1 : _) (c1 : Nat), ad = ⟨b, off, none⟩ ∧ w0.cell? ⟨b, off + k, none⟩ = some u ∧ u = .slice a1 (M[k]).length c1 ∧ IA w0 a1 M[k] ∧ b < w0.heap.size) (fun k hk => by
      obtain ⟨b, off, e, hbl, a1, c1, h1, h2⟩ := ha.at' k hk
      injection e with e
      exact ⟨_, hk, b, off, a1, c1, e, h1, rfl, h2, hbl⟩)
    refine wpList_append_own _ hgd s x 22 ho w0.heap.size 28 i0 (.slice none 0 0) 1 24 Tryd.underlying22 hi hz0 hz1 hz2 rfl (by decide) v L.length vs hs hv.own ad M.length cX us hx (by omega) (fun j u hj => ?_) (fun u hu => ?_) (by unfold maxLen; omega) (by omega) hb.size (fun v' w' h1 h2 _ => h v' w' (vs ++ us) ⟨by rw [List.length_append]; exact h1, fun k hk => ?_⟩ (hb.grown h2 hb.size (fun q hq => (World.ownsRow.lt hv.own q hq).1)))
    · have hj' := (List.getElem?_eq_some_iff.1 hj).1
      obtain ⟨hk, b, off, a1, c1, rfl, q1, _, _, hbl⟩ := hu2 j hj'
      rw [Addr.add_mid]
      rw [List.getElem?_eq_getElem hj'] at hj
      injection hj with hj
      rw [← hj]
      exact (hb.cell (p := ⟨b, off + j, none⟩) hbl).trans q1
    · obtain ⟨k, hk, rfl⟩ := List.getElem_of_mem hu
      obtain ⟨_, _, _, a1, c1, _, _, q2, _, _⟩ := hu2 k hk
      rw [q2]
      rfl
    · have hvs : vs.length = L.length := by have := hv.own.1; omega
      by_cases hlt : k < L.length
      · obtain ⟨a1, c1, q1, q2⟩ := hv.row k hlt
        rw [List.getElem_append_left hlt]
        exact ⟨a1, c1, by rw [List.getElem?_append_left (by omega)]; exact q1, q2⟩
      · rw [List.length_append] at hk
        have hk2 : k - L.length < us.length := by omega
        obtain ⟨hk3, _, _, a1, c1, _, _, q2, q3, _⟩ := hu2 (k - L.length) hk2
        rw [List.getElem_append_right (by omega)]
        exact ⟨a1, c1, by rw [List.getElem?_append_right (by omega), hvs, List.getElem?_eq_getElem hk2, q2], q3⟩
/-- Texts in memory. -/
structure TxA (w : World) (a : Option Addr) (T : List (List Int × List Int)) : Prop where
  at' : ∀ k (h : k < T.length), ∃ b off, a = some ⟨b, off, none⟩ ∧ b < w.heap.size ∧ ∃ a1 c1 a2 c2, w.cell? ⟨b, off + k * 2, none⟩ = some (.slice a1 (T[k]).1.length c1) ∧ w.cell? ⟨b, off + k * 2 + 1, none⟩ = some (.slice a2 (T[k]).2.length c2) ∧ IA w a1 (T[k]).1 ∧ IA w a2 (T[k]).2
theorem TxA.past {w w' : World} {a : Option Addr} {T : List (List Int × List Int)} (h : TxA w a T) (hb : Below w.heap.size w w') : TxA w' a T := ⟨fun k hk => by
  obtain ⟨b, off, rfl, h1, a1, c1, a2, c2, h2, h3, h4, h5⟩ := h.at' k hk
  exact ⟨b, off, rfl, Nat.lt_of_lt_of_le h1 hb.size, a1, c1, a2, c2, (hb.cell (p := ⟨b, off + k * 2, none⟩) h1).trans h2, (hb.cell (p := ⟨b, off + k * 2 + 1, none⟩) h1).trans h3, h4.past hb, h5.past hb⟩⟩
theorem hd_none (sup : Bool) (tr P l : List Int) (i : Nat) : hdF sup [] tr P l i = false := by
  cases sup with
  | false => rfl
  | true => exact hid_none tr P l i
theorem hd_off (E : List (List Int)) (tr P l : List Int) (i : Nat) : hdF false E tr P l i = false := rfl
theorem hd_more {sup : Bool} {E M : List (List Int)} (h0 : [] ∉ E) {tr P l : List Int} {i : Nat} (h : hdF sup E tr P l i = true) : hdF sup (E ++ M) tr P l i = true := by
  cases sup with
  | false => exact h
  | true => exact hid_more (E := E) (E' := E ++ M) (fun e he => List.mem_append_left _ he) h0 h
end Go.Proofs.YtekimkdaoblcgaaDoor
