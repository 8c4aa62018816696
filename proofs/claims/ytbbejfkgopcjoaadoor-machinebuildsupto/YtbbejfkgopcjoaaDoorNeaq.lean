/-
  McBW.
-/
import Derived.Test.YtbbejfkgopcjoaaDoorNeap
namespace Go.Proofs.YtbbejfkgopcjoaaDoor
open Go.RowKit Go.Shelf
theorem infoU64z : (Tryd.prog.info? 105).map (fun i => (i.zero, i.size, i.bytes)) = some (some (.int .u64 0), 1, 8) := by kernel_rfl
/-- What addLetters leaves. -/
structure LeP (w : World) (J sy : Nat) (vO vF vE vZ vP vC vS vA : Value) (LT : List (List (Nat × Nat))) (W : World) : Prop where
  only : Only w W (fun k => k = J)
  jo : ∃ vL vM, Jb W J sy vO vF vE vL vM vZ vP vC vS vA ∧ OwnL W w.heap.size vL LT.flatten ∧ OwnI W w.heap.size vM (nI (endsN LT)) ∧ (LT.flatten = [] → vL = .slice none 0 0)
def slN (v : Value) : Nat := match v with | .slice _ n _ => n | _ => 0
set_option maxRecDepth 10000 in
set_option maxHeartbeats 6400000 in
theorem addLetters_any (J sy cL : Nat) (aL : Option Addr) (LE : List (List Nat)) (vO vF vE vZ vP vC vS vA : Value) (w : World) (hj : Jb w J sy vO vF vE (.slice none 0 0) (.slice none 0 0) vZ vP vC vS vA) (hLE : LtA w J aL LE) (hcap : LE.length ≤ cL) (hsy : sy ≤ 16384) (hs : ∀ l ∈ LE, ∀ c ∈ l, c < sy) (hlen : LE.length ≤ 64000000) (hsum : (LE.map List.length).sum ≤ 900000000) :
    Calls Tryd.prog 52 #[.pointer (some ⟨J, 0, none⟩), .slice aL LE.length cL] w fun e w' => (∃ v, e = .returned v) ∧ LeP w J sy vO vF vE vZ vP vC vS vA (LTs LE ((LE.length + 63) / 64)) w' := by
  obtain ⟨i0, hi, hz⟩ := Option.map_eq_some_iff.1 infoInt1
  simp only [Prod.mk.injEq] at hz
  obtain ⟨hz0, hz1, hz2⟩ := hz
  obtain ⟨l0, hl, hy⟩ := Option.map_eq_some_iff.1 infoLetter
  simp only [Prod.mk.injEq] at hy
  obtain ⟨hy0, hy1, hy2⟩ := hy
  have hmk : ∀ V : World, (Instr.makeSlice 83 (.int .i64 (sy : Int)) (.int .i64 (sy : Int))).run Tryd.prog V = .ok (.slice (some ⟨V.heap.size, 0, none⟩) sy sy) (V.alloc (.cells (madeCells #[.int .u64 0] sy) 105)) := fun V => made_run (t := 83) Tryd.underlying83 infoU64z sy sy (Nat.le_refl _) (by omega) (by omega) V
  obtain ⟨w0, hw0⟩ : ∃ w0, w0 = w.alloc (.cells (madeCells #[.int .u64 0] sy) 105) := ⟨_, rfl⟩
  obtain ⟨G, hG⟩ : ∃ G, G = w.heap.size := ⟨_, rfl⟩
  have hA0 : AlI w J sy vO vF vE vZ vP vC vS vA G sy (fun _ => 0) [] (.slice none 0 0) [] [] w0 := by
    have hb : Below w.heap.size w w0 := by rw [hw0]; exact (Below.refl _ _).alloc (Nat.le_refl _) _
    refine ⟨Only.ofNew hb _, ⟨_, _, hj.past hb, World.ownsRow_nil _ _ _ _, World.ownsRow_nil _ _ _ _, fun _ => rfl, fun k hk => by cases hk⟩, ?_, World.ownsRow_nil _ _ _ _⟩
    have h := made_own (e := 105) (z := .int .u64 0) rfl sy sy (Nat.le_refl _) (by omega) w w.heap.size (Nat.le_refl _)
    unfold OwnH
    rw [hw0, hG]
    have e : hvV (fun _ => 0) sy = List.replicate sy (.int .u64 0) := by
      unfold hvV
      rw [List.map_const', List.length_range]
      rfl
    rw [e]
    exact h
  have d0 : w.cell? ⟨J, 0, none⟩ = some (.int .i64 (sy : Int)) := hj.c.1
  have HA0 := hid0 hA0
  have HLE := hid0 hLE
  have HS := hid0 hs
  have HSum := hid0 hsum
  have HLn := hid0 hlen
  have hfold := hw0.symm
  have hG2 := hG.symm
  clear hj hw0 hA0 hG hs hsum
  go_enter Tryd.func52, Tryd.ntmps52
  go_wp2
  go_loopw [1, 5] (fun l t wr => ∃ (i : Nat) (a : Option Addr) (n c : Nat), l = .slice a n c ∧ n ≤ c ∧ n ≤ 64000000 ∧ Hid (n = (LE.drop (64 * i)).length ∧ 64 * i < LE.length + 64 ∧ LtA w J a (LE.drop (64 * i))) ∧ Hid (∃ met, AlI w J sy vO vF vE vZ vP vC vS vA G sy (fun _ => 0) met t (LTs LE i).flatten (endsN (LTs LE i)) wr)) (fun l _ _ => slN l)
  case atStart => exact ⟨0, aL, LE.length, cL, rfl, hcap, hlen, hid0 ⟨by simp, by omega, by simpa using HLE.out⟩, hid0 ⟨[], by simpa [LTs, endsN] using HA0.out⟩⟩
  case round =>
    clear d0 hmk hfold hLE hcap hlen
    obtain ⟨i, a, n, c, rfl, hnc, hn, HI, HA⟩ := hrel
    obtain ⟨met, hA⟩ := HA.out
    by_cases hn0 : n = 0
    · subst hn0
      have HF : Hid (LeP w J sy vO vF vE vZ vP vC vS vA (LTs LE ((LE.length + 63) / 64)) wr) := hid0 (by
        obtain ⟨h1, h2, _⟩ := HI.out
        rw [List.length_drop] at h1
        have e : (LE.length + 63) / 64 = i := by omega
        rw [e]
        obtain ⟨vL, vM, j1, j2, j3, j4, _⟩ := hA.jo
        exact ⟨hA.only, vL, vM, j1, j2, j3, j4⟩)
      clear hA HA
      go_wp2
      go_end0
      exact ⟨⟨_, rfl⟩, HF.out⟩
    · obtain ⟨aT, cT, rfl, hcT, hA1⟩ := hA.fresh
      obtain ⟨b0, off, eb, hb0, hbJ, _⟩ := HI.out.2.2.at' 0 (by rw [← HI.out.1]; omega)
      subst eb
      have HA1 := hid0 hA1
      have hnI : (0 : Int) < (n : Int) := by omega
      have hnP : 0 < n := by omega
      have hdec : decide (0 < n) = true := by simp; omega
      clear hA hA1 HA
      by_cases hsp : n < 64
      · have hcnc : n ≤ c := by omega
        have hcnI : (n : Int) ≤ (c : Int) := by omega
        have hspI : (n : Int) < 64 := by omega
        obtain ⟨ch, hch⟩ : ∃ ch, ch = chL LE i := ⟨_, rfl⟩
        have HCh : Hid (ch = chL LE i ∧ ch.length = n) := hid0 ⟨hch, by rw [hch]; unfold chL; rw [List.length_take, ← HI.out.1]; omega⟩
        have HLt : Hid (∀ b (h : b < n), ∃ a1 c1, (∀ V : World, Only w V (fun k => k = J) → V.cell? ⟨b0, off + b, none⟩ = some (.slice a1 (ch.getD b []).length c1) ∧ IA V a1 (nI (ch.getD b []))) ∧ (∀ x ∈ ch.getD b [], x < sy) ∧ (ch.getD b []).length ≤ 900000000) := hid0 (fun b hb => by
          obtain ⟨_, _, e, _, _, a1, c1, q1, q2⟩ := HI.out.2.2.at' b (by rw [← HI.out.1]; omega)
          cases e
          have e1 : ch.getD b [] = (LE.drop (64 * i))[b]'(by rw [← HI.out.1]; omega) := by
            rw [hch]; unfold chL
            rw [List.getD_eq_getElem?_getD, List.getElem?_take, if_pos (by omega), List.getElem?_eq_getElem]; rfl
          rw [e1]
          have hmem : (LE.drop (64 * i))[b]'(by rw [← HI.out.1]; omega) ∈ LE := List.mem_of_mem_drop (List.getElem_mem _)
          refine ⟨a1, c1, fun V hV => ⟨(hV.cell (p := ⟨b0, off + b, none⟩) hb0 hbJ).trans q1, q2 V hV⟩, fun x hx => HS.out _ hmem x hx, ?_⟩
          exact Nat.le_trans (mem_le_sum (List.mem_map_of_mem hmem)) HSum.out)
        obtain ⟨it0, hit0⟩ : ∃ it0, it0 = (LTs LE i).flatten := ⟨_, rfl⟩
        obtain ⟨en0, hen0⟩ : ∃ en0, en0 = endsN (LTs LE i) := ⟨_, rfl⟩
        have HIt := hid0 (And.intro hit0 hen0)
        rw [← hit0, ← hen0] at HA1
        clear hch hit0 hen0
        go_wp2
        go_loopw [5, 30] (fun t q wr => ∃ b : Nat, b ≤ n ∧ q = .int .i64 (b : Int) ∧ Hid (AlI w J sy vO vF vE vZ vP vC vS vA G sy (accL ch b).2 (accL ch b).1 t it0 en0 wr)) (fun _ q _ => n - (intOf q).toNat)
        case atStart => exact ⟨0, Nat.zero_le _, rfl, HA1⟩
        case round =>
          obtain ⟨b, hb, rfl, HB⟩ := hrel
          by_cases hbl : b < n
          · obtain ⟨a1, c1, hL1, hL2, hL3⟩ := HLt.out b hbl
            obtain ⟨L, hL⟩ : ∃ L, L = ch.getD b [] := ⟨_, rfl⟩
            rw [← hL] at hL1 hL2 hL3
            have z0 := (hL1 wr HB.out.only).1
            have HL1 : Hid (∀ V : World, Only w V (fun k => k = J) → IA V a1 (nI L)) := hid0 (fun V hV => (hL1 V hV).2)
            have HL2 := hid0 hL2
            have HL := hid0 hL
            clear hL1 hL2 hL
            have hbI : (b : Int) < (n : Int) := by omega
            have hbI0 : (0 : Int) ≤ (b : Int) := by omega
            have hbI64 : (b : Int) < 64 := by omega
            go_wp2
            go_loopw [5, 37] (fun t q wr => ∃ m : Nat, m ≤ L.length ∧ q = .int .i64 (m : Int) ∧ Hid (AlI w J sy vO vF vE vZ vP vC vS vA G sy ((L.take m).foldl (stepL b) (accL ch b)).2 ((L.take m).foldl (stepL b) (accL ch b)).1 t it0 en0 wr)) (fun _ q _ => L.length - (intOf q).toNat)
            case atStart => exact ⟨0, Nat.zero_le _, rfl, by simpa using HB⟩
            case round =>
              clear z0
              obtain ⟨m, hm, rfl, HM⟩ := hrel
              obtain ⟨V, hV⟩ : ∃ V, V = wr := ⟨_, rfl⟩
              subst hV
              by_cases hml : m < L.length
              · obtain ⟨g1, o1, eg, _, z1⟩ := (HL1.out V HM.out.only).at' m (by rw [nI_len]; exact hml)
                subst eg
                obtain ⟨x, hx⟩ : ∃ x, x = L[m] := ⟨_, rfl⟩
                have z2 : V.cell? ⟨g1, o1 + m, none⟩ = some (.int .i64 (x : Int)) := by rw [z1, hx]; unfold nI; rw [List.getElem_map]
                have hxs : x < sy := HL2.out x (by rw [hx]; exact List.getElem_mem hml)
                obtain ⟨st, hst⟩ : ∃ st, st = (L.take m).foldl (stepL b) (accL ch b) := ⟨_, rfl⟩
                have HNx : Hid ((L.take (m + 1)).foldl (stepL b) (accL ch b) = stepL b st x) := hid0 (by rw [List.take_add_one, List.getElem?_eq_getElem hml, Option.toList_some, List.foldl_append, ← hst, hx]; rfl)
                have hsm := (LmOk.list (b := b) (L.take m) (accL_ok ch b)).small sy (by
                  rintro c' k (⟨q1, q2⟩ | ⟨q1, q2⟩)
                  · exact ⟨(HLt.out k (by omega)).elim (fun _ h => h.elim (fun _ h => h.2.1 c' q2)), by omega⟩
                  · exact ⟨HL2.out c' (List.mem_of_mem_take q1), by omega⟩)
                rw [← hst] at hsm
                have hM1 := HM.out
                rw [← hst] at hM1
                obtain ⟨aT, cT, eT⟩ := own_sl hM1.mt
                obtain ⟨nT, hnT⟩ : ∃ nT, nT = (nI st.1).length := ⟨_, rfl⟩
                rw [← hnT] at eT
                subst eT
                have HT : Hid (V.ownsRow w.heap.size 3 1 (.slice aT nT cT) nT ((nI st.1).map (Value.int .i64))) := hid0 (by have h := hM1.mt; unfold OwnI at h; rw [← hnT] at h; exact h)
                obtain ⟨zG, fG⟩ := hM1.hv.at' hxs
                obtain ⟨y, hy⟩ : ∃ y, y = st.2 x := ⟨_, rfl⟩
                rw [← hy] at zG
                obtain ⟨y2, hy2⟩ : ∃ y2 : Nat, y2 = y ||| 2 ^ b := ⟨_, rfl⟩
                have hyl : y < 18446744073709551616 := by rw [hy]; exact hsm.2.2 x
                obtain ⟨bp, hbp⟩ : ∃ bp : Nat, bp = 2 ^ b := ⟨_, rfl⟩
                have hbpl : bp < 18446744073709551616 := by rw [hbp]; exact Nat.lt_of_lt_of_le (Nat.pow_lt_pow_right (by omega) (by omega : b < 64)) (by decide)
                have hwb : IntKind.u64.wrap (2 ^ b) = (bp : Int) := by
                  rw [hbp, IntKind.wrap_u64]
                  have e : (2 : Int) ^ b = ((2 ^ b : Nat) : Int) := by simp
                  rw [e]
                  rw [hbp] at hbpl
                  omega
                have hor : bits .or .u64 (y : Int) (bp : Int) = (y2 : Int) := by rw [hy2, ← hbp]; exact bits_or_u64_nat y bp hyl hbpl
                have hHx : (fun z => if z = x then y2 else st.2 z) = (stepL b st x).2 := by
                  funext z
                  show _ = if z = x then st.2 z ||| 2 ^ b else st.2 z
                  by_cases hz : z = x
                  · rw [if_pos hz, if_pos hz, hy2, hy, hz]
                  · rw [if_neg hz, if_neg hz]
                have HPt : Hid (∀ (V1 : World) (t : Value) (mm : List Nat), AlI w J sy vO vF vE vZ vP vC vS vA G sy st.2 mm t it0 en0 V1 → mm = (stepL b st x).1 → AlI w J sy vO vF vE vZ vP vC vS vA G sy ((L.take (m + 1)).foldl (stepL b) (accL ch b)).2 ((L.take (m + 1)).foldl (stepL b) (accL ch b)).1 t it0 en0 ((V1.setCell ⟨G, x, none⟩ (.int .u64 (y2 : Int))).drew)) := hid0 (fun V1 t mm h e => by
                  rw [HNx.out, ← hHx, ← e]
                  exact (h.putH hxs y2).drew)
                have hxI : (x : Int) < (sy : Int) := by omega
                have hxI0 : (0 : Int) ≤ (x : Int) := by omega
                have hmI : (m : Int) < (L.length : Int) := by omega
                have hmI0 : (0 : Int) ≤ (m : Int) := by omega
                have hnb : nT ≤ 16384 := by rw [hnT, nI_len]; omega
                have HM1 := hid0 hM1
                have HNT := hid0 hnT
                have HSt := hid0 hy
                clear hst hsm hM1 hnT hy2 hbp hHx HM hyl hbpl z1 hx
                by_cases h0 : y = 0
                · have HSt1 : Hid ((stepL b st x).1 = st.1 ++ [x]) := hid0 (by show (if st.2 x = 0 then st.1 ++ [x] else st.1) = _; rw [← HSt.out, if_pos h0])
                  subst h0
                  have zG0 : V.cell? ⟨G, x, none⟩ = some (.int .u64 0) := zG
                  have hor0 : bits .or .u64 0 (bp : Int) = (y2 : Int) := hor
                  have HG1 : Hid (∀ (w1 : World) (v1 : Value), ApG 3 V w1 w.heap.size (.slice aT nT cT) v1 ((nI st.1).map (Value.int .i64) ++ [Value.int .i64 (x : Int)]) → AlI w J sy vO vF vE vZ vP vC vS vA G sy st.2 (st.1 ++ [x]) v1 it0 en0 w1) := hid0 (fun w1 v1 g => HM1.out.meet g)
                  have hlr : w.heap.size ≤ V.heap.size := HM1.out.only.size
                  clear zG hy hor
                  go_upto_region 13 with (at_builtin; go_loud ((refine wpList_append_own_at _ rfl _ _ 34 rfl w.heap.size 3 i0 (.int .i64 0) 1 8 Tryd.underlying34 hi hz0 hz1 hz2 rfl (by decide) (.slice aT nT cT) nT ((nI st.1).map (Value.int .i64)) rfl (World.ownsRow.alloc HT.out _) ⟨V.heap.size, 0, none⟩ 1 1 [.int .i64 (x : Int)] rfl rfl (cell_one_new _ _ _) (by simp [Value.oneCell']) (by unfold maxLen; omega) (by omega) (by simp; omega) ?_; intro v1 w1 h1 h2 _ h4; have R := hid0 (HG1.out w1 v1 (apG_one (by rw [List.length_map, ← HNT.out]; exact h1) h2 h4)); clear h1 h2 h4)))
                  obtain ⟨zG1, fG1⟩ := R.out.hv.at' hxs
                  rw [← HSt.out] at zG1
                  have HM2 := hid0 (HPt.out w1 _ _ R.out HSt1.out.symm)
                  clear zG0 fG z2 HG1 R
                  go_region
                  all_goals
                    go_wp2
                    go_roundw
                    case rel => first | exact ⟨m + 1, by omega, by go_num, HM2⟩ | ((repeat apply Exists.intro); exact ⟨⟨m + 1, by omega, by go_num, HM2⟩, rfl⟩)
                    case measure => simp [intOf]; omega
                · have HSt1 : Hid ((stepL b st x).1 = st.1) := hid0 (by show (if st.2 x = 0 then st.1 ++ [x] else st.1) = _; rw [← HSt.out, if_neg h0])
                  have HM2 := hid0 (HPt.out V _ _ HM1.out HSt1.out.symm)
                  have h0I : ¬ (y : Int) = 0 := by omega
                  have h0B : ((y : Int) == 0) = false := by rw [beq_eq_false_iff_ne]; omega
                  clear hy HSt
                  go_wp2
                  go_region
                  all_goals
                    go_wp2
                    go_roundw
                    case rel => exact ⟨m + 1, by omega, by go_num, HM2⟩
                    case measure => simp [intOf]; omega
              · obtain rfl : m = L.length := by omega
                have hB2 := HM.out
                rw [List.take_length, HL.out] at hB2
                change AlI w J sy vO vF vE vZ vP vC vS vA G sy (accL ch (b + 1)).2 (accL ch (b + 1)).1 _ it0 en0 V at hB2
                have HB2 := hid0 hB2
                clear hB2
                clear HM
                go_wp2
                go_roundw
                case rel => exact ⟨b + 1, by omega, by go_num, HB2⟩
                case measure => simp [intOf]; omega
          · have hbC : b = n := by omega
            obtain ⟨st, hst⟩ : ∃ st, st = accL ch b := ⟨_, rfl⟩
            have hB1 := HB.out
            rw [← hst] at hB1
            have hok := accL_ok ch b
            rw [← hst] at hok
            have hsm := hok.small sy (by
              rintro c' k ⟨q1, q2⟩
              exact ⟨(HLt.out k (by omega)).elim (fun _ h => h.elim (fun _ h => h.2.1 c' q2)), by omega⟩)
            have HRow : Hid (rowL LE i = st.1.map fun c => (c, st.2 c)) := hid0 (by unfold rowL; rw [← HCh.out.1, HCh.out.2, ← hbC, ← hst])
            obtain ⟨aT, cT, eT⟩ := own_sl hB1.mt
            obtain ⟨nT, hnT⟩ : ∃ nT, nT = st.1.length := ⟨_, rfl⟩
            rw [nI_len, ← hnT] at eT
            subst eT
            obtain ⟨H, hH⟩ : ∃ H, H = st.2 := ⟨_, rfl⟩
            obtain ⟨mt, hmt⟩ : ∃ mt, mt = st.1 := ⟨_, rfl⟩
            rw [← hH] at HRow hB1 hsm
            rw [← hmt] at HRow hB1 hsm hnT
            have HMt : Hid (mt.Nodup ∧ (∀ c, c ∈ mt ↔ H c ≠ 0) ∧ (∀ c ∈ mt, c < sy) ∧ ∀ c, H c < 18446744073709551616) := hid0 ⟨by rw [hmt]; exact hok.nd, by rw [hmt, hH]; exact hok.mem, hsm.2.1, hsm.2.2⟩
            have hnb : nT ≤ 16384 := by rw [hnT]; have := hsm.1; omega
            have HNT := hid0 hnT
            have HItl : Hid (it0.length + mt.length ≤ 900000000 ∧ en0.length ≤ 2000000) := hid0 (by
              have q1 := LTs_small LE (i + 1)
              rw [LTs_succ, List.flatten_append, List.length_append, HRow.out, ← HIt.out.1] at q1
              simp only [List.flatten_cons, List.flatten_nil, List.append_nil, List.length_map] at q1
              refine ⟨Nat.le_trans q1 HSum.out, ?_⟩
              rw [HIt.out.2, endsN_len]
              unfold LTs
              have q2 := HI.out.1
              have q3 := HI.out.2.1
              rw [List.length_drop] at q2
              rw [List.length_map, List.length_range]
              have := HLn.out
              omega)
            have HB1 := hid0 hB1
            clear hst hok hsm hH hmt hB1 HB hnT
            go_wp2
            go_loopw [62] (fun q wr => ∃ m : Nat, m ≤ nT ∧ q = .int .i64 (m : Int) ∧ Hid (AlI w J sy vO vF vE vZ vP vC vS vA G sy (hzF mt H m) mt (.slice aT nT cT) (it0 ++ itF mt H m) en0 wr)) (fun q _ => nT - (intOf q).toNat)
            case atStart => exact ⟨0, Nat.zero_le _, rfl, by rw [hzF_zero, itF_zero, List.append_nil]; exact HB1⟩
            case round =>
              obtain ⟨m, hm, rfl, HM⟩ := hrel
              obtain ⟨V, hV⟩ : ∃ V, V = wr := ⟨_, rfl⟩
              subst hV
              by_cases hml : m < nT
              · have hml2 : m < mt.length := by rw [← HNT.out]; exact hml
                obtain ⟨x, hx⟩ : ∃ x, x = mt[m] := ⟨_, rfl⟩
                have hxm : x ∈ mt := by rw [hx]; exact List.getElem_mem hml2
                have hxs : x < sy := HMt.out.2.2.1 x hxm
                obtain ⟨H1, hH1⟩ : ∃ H1 : Nat → Nat, H1 = hzF mt H m := ⟨_, rfl⟩
                obtain ⟨it1, hit1⟩ : ∃ it1, it1 = it0 ++ itF mt H m := ⟨_, rfl⟩
                have hM1 := HM.out
                rw [← hH1, ← hit1] at hM1
                obtain ⟨y, hy⟩ : ∃ y, y = H x := ⟨_, rfl⟩
                have hy1 : H1 x = y := by rw [hH1, hy, hx]; exact hzF_at mt H hml2 HMt.out.1
                have HE1 : Hid ((fun z => if z = x then 0 else H1 z) = hzF mt H (m + 1)) := hid0 (by rw [hH1, hx]; exact hzF_succ mt H hml2)
                have HE2 : Hid (it1 ++ [(x, y)] = it0 ++ itF mt H (m + 1)) := hid0 (by rw [hit1, itF_succ mt H hml2, ← hx, ← hy, List.append_assoc])
                obtain ⟨ni, hni⟩ : ∃ ni, ni = it1.length := ⟨_, rfl⟩
                have hnib : ni ≤ 900000000 := by
                  have q := HItl.out.1
                  have q2 := itF_len mt H m
                  rw [hni, hit1, List.length_append]; omega
                obtain ⟨zG, fG⟩ := hM1.hv.at' hxs
                rw [hy1] at zG
                obtain ⟨aI, cI, dI, hown, hnx⟩ := hM1.drew.item
                rw [← hni] at dI hown hnx
                have zT : V.cell? ⟨0, 0, none⟩ = V.cell? ⟨0, 0, none⟩ := rfl
                obtain ⟨gT, eT, zT⟩ : ∃ gT, aT = some ⟨gT, 0, none⟩ ∧ V.cell? ⟨gT, m, none⟩ = some (.int .i64 (x : Int)) := by
                  obtain ⟨a, c', e, hia⟩ := hM1.mt.ia
                  simp only [Value.slice.injEq] at e
                  obtain ⟨g, c2, e2, _, _, _⟩ := own_form hM1.mt (by rw [nI_len]; omega)
                  simp only [Value.slice.injEq] at e2
                  refine ⟨g, e2.1, ?_⟩
                  have h3 : V.ownsRow w.heap.size 3 1 (.slice (some ⟨g, 0, none⟩) nT cT) nT ((nI mt).map (Value.int .i64)) := by have h := hM1.mt; unfold OwnI at h; rw [nI_len, ← HNT.out, e2.1] at h; exact h
                  rw [World.ownsRow.cellAt h3 m (by omega)]
                  simp [nI, hml2, hx]
                subst eT
                obtain ⟨vB, hvB⟩ : ∃ vB, vB = V.drew.alloc (.cells #[.int .i64 (x : Int), .int .u64 (y : Int)] 127) := ⟨_, rfl⟩
                have HOw : Hid (vB.ownsRow w.heap.size 127 2 (.slice aI ni cI) ni (cells2 it1)) := hid0 (by rw [hvB]; exact World.ownsRow.alloc hown _)
                have HNw : Hid (∀ j u, (cells2 [(x, y)])[j]? = some u → vB.cell? ((⟨V.heap.size, 0, none⟩ : Addr).add j) = some u) := hid0 (by rw [hvB]; exact cell_two_new _ _ _ _)
                have HLw : Hid (w.heap.size ≤ vB.heap.size) := hid0 (by rw [hvB]; have := hM1.only.size; simp; omega)
                have hVB : Below V.heap.size V vB := by rw [hvB]; exact ((Below.refl _ _).drew).alloc (Nat.le_refl _) _
                have dV : V.cell? ⟨J, 4, none⟩ = some (.slice aI ni cI) := dI
                have dB : vB.cell? ⟨J, 4, none⟩ = some (.slice aI ni cI) := (hVB.cell (p := ⟨J, 4, none⟩) (World.block_lt_of_cell? V _ dV)).trans dV
                have zB : vB.cell? ⟨G, x, none⟩ = some (.int .u64 (y : Int)) := (hVB.cell (p := ⟨G, x, none⟩) (World.block_lt_of_cell? V _ zG)).trans zG
                have HNx : Hid (∀ (v' : Value) (w2 : World), w2.ownsRow w.heap.size 127 2 v' (ni + 1) (cells2 it1 ++ cells2 [(x, y)]) → vB.grownBy w2 (Value.slice aI ni cI).ownBlock → (v'.ownBlock = (Value.slice aI ni cI).ownBlock ∨ v'.ownBlock = some vB.heap.size) → (w2.cell? ⟨J, 4, none⟩ = some (.slice aI ni cI) ∧ w2.frozen? ⟨J, 4, none⟩ = false) ∧ AlI w J sy vO vF vE vZ vP vC vS vA G sy H1 mt (.slice (some ⟨gT, 0, none⟩) nT cT) (it1 ++ [(x, y)]) en0 (w2.setCell ⟨J, 4, none⟩ v')) := hid0 (fun v' w2 h1 h2 h3 => by
                  rw [hvB] at h2 h3
                  exact hnx v' w2 (x, y) (apL_one (by rw [← hni]; exact h1) h2 h3))
                have HPt : Hid (∀ V1 : World, AlI w J sy vO vF vE vZ vP vC vS vA G sy H1 mt (.slice (some ⟨gT, 0, none⟩) nT cT) (it1 ++ [(x, y)]) en0 V1 → (V1.cell? ⟨G, x, none⟩ = some (.int .u64 (y : Int)) ∧ V1.frozen? ⟨G, x, none⟩ = false) ∧ AlI w J sy vO vF vE vZ vP vC vS vA G sy (hzF mt H (m + 1)) mt (.slice (some ⟨gT, 0, none⟩) nT cT) (it0 ++ itF mt H (m + 1)) en0 (V1.setCell ⟨G, x, none⟩ (.int .u64 0))) := hid0 (fun V1 h => by
                  have q := h.hv.at' hxs
                  rw [hy1] at q
                  have h2 := h.putH hxs 0
                  rw [HE1.out, HE2.out] at h2
                  exact ⟨q, h2⟩)
                have hxI : (x : Int) < (sy : Int) := by omega
                have hxI0 : (0 : Int) ≤ (x : Int) := by omega
                have hmI : (m : Int) < (nT : Int) := by omega
                have hmI0 : (0 : Int) ≤ (m : Int) := by omega
                have gB := hvB.symm
                clear hvB hVB hnx hown dI HM hM1 hH1 hit1 hni hy hy1 HE1 HE2 hx hxm hml2
                go_upto_region 19 with (fail)
                go_region_law ((refine step_append_own_at (by rfl) _ _ 87 (by rfl) w.heap.size 127 l0 _ 2 16 Tryd.underlying87 hl hy0 hy1 hy2 rfl (by decide) (.slice aI ni cI) ni (cells2 it1) (by rfl) HOw.out ⟨V.heap.size, 0, none⟩ 1 1 (cells2 [(x, y)]) (by rfl) (by rfl) HNw.out (cells2_one _) (by unfold maxLen; omega) (by omega) HLw.out ?_; intro v' w2 h1 h2 h3; obtain ⟨a2, c2, rfl⟩ := own_sl h1; have R := hid0 (HNx.out _ _ h1 ⟨h2.os, h2.tape, h2.output, h2.size, h2.block⟩ h3); clear h1 h2 h3; have t1 := R.out.1.1; have t2 := R.out.1.2))
                all_goals
                  have HR := hid0 (HPt.out _ R.out.2)
                  clear R t1 t2
                  generalize w2.setCell ⟨J, 4, none⟩ (.slice a2 (ni + 1) c2) = w3 at *
                  obtain ⟨r1, r2⟩ := HR.out.1
                  go_wp2
                  go_roundw
                  case rel => exact ⟨m + 1, by omega, by go_num, hid0 HR.out.2⟩
                  case measure => simp [intOf]; omega
              · obtain rfl : m = nT := by omega
                have hM1 := HM.out
                rw [HNT.out, hzF_end mt H HMt.out.2.1] at hM1
                have e1 : it0 ++ itF mt H mt.length = (LTs LE (i + 1)).flatten := by
                  rw [LTs_succ, List.flatten_append, HRow.out, ← HIt.out.1]
                  unfold itF
                  rw [List.take_length]
                  simp
                rw [e1, ← HNT.out] at hM1
                have HCe := hid0 (hM1.endRow (Nat.le_trans (LTs_small LE (i + 1)) (by have := HSum.out; omega)) (by have := HItl.out.2; omega))
                have e2 : en0 ++ [(LTs LE (i + 1)).flatten.length] = endsN (LTs LE (i + 1)) := by rw [LTs_succ, endsN_snoc, ← HIt.out.2]
                rw [e2] at HCe
                have HNl : Hid (n - n = (LE.drop (64 * (i + 1))).length ∧ 64 * (i + 1) < LE.length + 64 ∧ LtA w J (if c = n then some ⟨b0, off, none⟩ else some ⟨b0, off + n, none⟩) (LE.drop (64 * (i + 1)))) := hid0 (by
                  obtain ⟨q1, q2, q3⟩ := HI.out
                  have q4 := q3.rest n c (by rw [← q1]; exact hnc)
                  rw [List.length_drop] at q1
                  have e3 : (LE.drop (64 * i)).drop n = LE.drop (64 * (i + 1)) := by
                    rw [List.drop_drop]
                    rw [List.drop_of_length_le (by omega), List.drop_of_length_le (by omega)]
                  rw [e3] at q4
                  exact ⟨by rw [List.length_drop]; omega, by omega, q4⟩)
                clear e1 e2 hM1 HM
                go_wp2_with (go_at_call 72; go_loud ((refine HCe.out.mono ?_; rintro e w4 ⟨⟨v4, rfl⟩, HA4⟩)))
                go_roundw
                case rel => exact ⟨i + 1, _, _, _, rfl, by omega, by omega, hid0 (by have q := HNl.out; rw [Nat.sub_self] at q; exact q), hid0 ⟨_, HA4.out⟩⟩
                case measure => (show 0 < n); omega
      · have hcnc : 64 ≤ c := by omega
        have hcnI : (64 : Int) ≤ (c : Int) := by omega
        have hspI : (64 : Int) ≤ (n : Int) := by omega
        obtain ⟨ch, hch⟩ : ∃ ch, ch = chL LE i := ⟨_, rfl⟩
        have HCh : Hid (ch = chL LE i ∧ ch.length = 64) := hid0 ⟨hch, by rw [hch]; unfold chL; rw [List.length_take, ← HI.out.1]; omega⟩
        have HLt : Hid (∀ b (h : b < 64), ∃ a1 c1, (∀ V : World, Only w V (fun k => k = J) → V.cell? ⟨b0, off + b, none⟩ = some (.slice a1 (ch.getD b []).length c1) ∧ IA V a1 (nI (ch.getD b []))) ∧ (∀ x ∈ ch.getD b [], x < sy) ∧ (ch.getD b []).length ≤ 900000000) := hid0 (fun b hb => by
          obtain ⟨_, _, e, _, _, a1, c1, q1, q2⟩ := HI.out.2.2.at' b (by rw [← HI.out.1]; omega)
          cases e
          have e1 : ch.getD b [] = (LE.drop (64 * i))[b]'(by rw [← HI.out.1]; omega) := by
            rw [hch]; unfold chL
            rw [List.getD_eq_getElem?_getD, List.getElem?_take, if_pos (by omega), List.getElem?_eq_getElem]; rfl
          rw [e1]
          have hmem : (LE.drop (64 * i))[b]'(by rw [← HI.out.1]; omega) ∈ LE := List.mem_of_mem_drop (List.getElem_mem _)
          refine ⟨a1, c1, fun V hV => ⟨(hV.cell (p := ⟨b0, off + b, none⟩) hb0 hbJ).trans q1, q2 V hV⟩, fun x hx => HS.out _ hmem x hx, ?_⟩
          exact Nat.le_trans (mem_le_sum (List.mem_map_of_mem hmem)) HSum.out)
        obtain ⟨it0, hit0⟩ : ∃ it0, it0 = (LTs LE i).flatten := ⟨_, rfl⟩
        obtain ⟨en0, hen0⟩ : ∃ en0, en0 = endsN (LTs LE i) := ⟨_, rfl⟩
        have HIt := hid0 (And.intro hit0 hen0)
        rw [← hit0, ← hen0] at HA1
        clear hch hit0 hen0
        go_wp2
        go_loopw [5, 30] (fun t q wr => ∃ b : Nat, b ≤ 64 ∧ q = .int .i64 (b : Int) ∧ Hid (AlI w J sy vO vF vE vZ vP vC vS vA G sy (accL ch b).2 (accL ch b).1 t it0 en0 wr)) (fun _ q _ => 64 - (intOf q).toNat)
        case atStart => exact ⟨0, Nat.zero_le _, rfl, HA1⟩
        case round =>
          obtain ⟨b, hb, rfl, HB⟩ := hrel
          by_cases hbl : b < 64
          · obtain ⟨a1, c1, hL1, hL2, hL3⟩ := HLt.out b hbl
            obtain ⟨L, hL⟩ : ∃ L, L = ch.getD b [] := ⟨_, rfl⟩
            rw [← hL] at hL1 hL2 hL3
            have z0 := (hL1 wr HB.out.only).1
            have HL1 : Hid (∀ V : World, Only w V (fun k => k = J) → IA V a1 (nI L)) := hid0 (fun V hV => (hL1 V hV).2)
            have HL2 := hid0 hL2
            have HL := hid0 hL
            clear hL1 hL2 hL
            have hbI : (b : Int) < (64 : Int) := by omega
            have hbI0 : (0 : Int) ≤ (b : Int) := by omega
            have hbI64 : (b : Int) < 64 := by omega
            go_wp2
            go_loopw [5, 37] (fun t q wr => ∃ m : Nat, m ≤ L.length ∧ q = .int .i64 (m : Int) ∧ Hid (AlI w J sy vO vF vE vZ vP vC vS vA G sy ((L.take m).foldl (stepL b) (accL ch b)).2 ((L.take m).foldl (stepL b) (accL ch b)).1 t it0 en0 wr)) (fun _ q _ => L.length - (intOf q).toNat)
            case atStart => exact ⟨0, Nat.zero_le _, rfl, by simpa using HB⟩
            case round =>
              clear z0
              obtain ⟨m, hm, rfl, HM⟩ := hrel
              obtain ⟨V, hV⟩ : ∃ V, V = wr := ⟨_, rfl⟩
              subst hV
              by_cases hml : m < L.length
              · obtain ⟨g1, o1, eg, _, z1⟩ := (HL1.out V HM.out.only).at' m (by rw [nI_len]; exact hml)
                subst eg
                obtain ⟨x, hx⟩ : ∃ x, x = L[m] := ⟨_, rfl⟩
                have z2 : V.cell? ⟨g1, o1 + m, none⟩ = some (.int .i64 (x : Int)) := by rw [z1, hx]; unfold nI; rw [List.getElem_map]
                have hxs : x < sy := HL2.out x (by rw [hx]; exact List.getElem_mem hml)
                obtain ⟨st, hst⟩ : ∃ st, st = (L.take m).foldl (stepL b) (accL ch b) := ⟨_, rfl⟩
                have HNx : Hid ((L.take (m + 1)).foldl (stepL b) (accL ch b) = stepL b st x) := hid0 (by rw [List.take_add_one, List.getElem?_eq_getElem hml, Option.toList_some, List.foldl_append, ← hst, hx]; rfl)
                have hsm := (LmOk.list (b := b) (L.take m) (accL_ok ch b)).small sy (by
                  rintro c' k (⟨q1, q2⟩ | ⟨q1, q2⟩)
                  · exact ⟨(HLt.out k (by omega)).elim (fun _ h => h.elim (fun _ h => h.2.1 c' q2)), by omega⟩
                  · exact ⟨HL2.out c' (List.mem_of_mem_take q1), by omega⟩)
                rw [← hst] at hsm
                have hM1 := HM.out
                rw [← hst] at hM1
                obtain ⟨aT, cT, eT⟩ := own_sl hM1.mt
                obtain ⟨nT, hnT⟩ : ∃ nT, nT = (nI st.1).length := ⟨_, rfl⟩
                rw [← hnT] at eT
                subst eT
                have HT : Hid (V.ownsRow w.heap.size 3 1 (.slice aT nT cT) nT ((nI st.1).map (Value.int .i64))) := hid0 (by have h := hM1.mt; unfold OwnI at h; rw [← hnT] at h; exact h)
                obtain ⟨zG, fG⟩ := hM1.hv.at' hxs
                obtain ⟨y, hy⟩ : ∃ y, y = st.2 x := ⟨_, rfl⟩
                rw [← hy] at zG
                obtain ⟨y2, hy2⟩ : ∃ y2 : Nat, y2 = y ||| 2 ^ b := ⟨_, rfl⟩
                have hyl : y < 18446744073709551616 := by rw [hy]; exact hsm.2.2 x
                obtain ⟨bp, hbp⟩ : ∃ bp : Nat, bp = 2 ^ b := ⟨_, rfl⟩
                have hbpl : bp < 18446744073709551616 := by rw [hbp]; exact Nat.lt_of_lt_of_le (Nat.pow_lt_pow_right (by omega) (by omega : b < 64)) (by decide)
                have hwb : IntKind.u64.wrap (2 ^ b) = (bp : Int) := by
                  rw [hbp, IntKind.wrap_u64]
                  have e : (2 : Int) ^ b = ((2 ^ b : Nat) : Int) := by simp
                  rw [e]
                  rw [hbp] at hbpl
                  omega
                have hor : bits .or .u64 (y : Int) (bp : Int) = (y2 : Int) := by rw [hy2, ← hbp]; exact bits_or_u64_nat y bp hyl hbpl
                have hHx : (fun z => if z = x then y2 else st.2 z) = (stepL b st x).2 := by
                  funext z
                  show _ = if z = x then st.2 z ||| 2 ^ b else st.2 z
                  by_cases hz : z = x
                  · rw [if_pos hz, if_pos hz, hy2, hy, hz]
                  · rw [if_neg hz, if_neg hz]
                have HPt : Hid (∀ (V1 : World) (t : Value) (mm : List Nat), AlI w J sy vO vF vE vZ vP vC vS vA G sy st.2 mm t it0 en0 V1 → mm = (stepL b st x).1 → AlI w J sy vO vF vE vZ vP vC vS vA G sy ((L.take (m + 1)).foldl (stepL b) (accL ch b)).2 ((L.take (m + 1)).foldl (stepL b) (accL ch b)).1 t it0 en0 ((V1.setCell ⟨G, x, none⟩ (.int .u64 (y2 : Int))).drew)) := hid0 (fun V1 t mm h e => by
                  rw [HNx.out, ← hHx, ← e]
                  exact (h.putH hxs y2).drew)
                have hxI : (x : Int) < (sy : Int) := by omega
                have hxI0 : (0 : Int) ≤ (x : Int) := by omega
                have hmI : (m : Int) < (L.length : Int) := by omega
                have hmI0 : (0 : Int) ≤ (m : Int) := by omega
                have hnb : nT ≤ 16384 := by rw [hnT, nI_len]; omega
                have HM1 := hid0 hM1
                have HNT := hid0 hnT
                have HSt := hid0 hy
                clear hst hsm hM1 hnT hy2 hbp hHx HM hyl hbpl z1 hx
                by_cases h0 : y = 0
                · have HSt1 : Hid ((stepL b st x).1 = st.1 ++ [x]) := hid0 (by show (if st.2 x = 0 then st.1 ++ [x] else st.1) = _; rw [← HSt.out, if_pos h0])
                  subst h0
                  have zG0 : V.cell? ⟨G, x, none⟩ = some (.int .u64 0) := zG
                  have hor0 : bits .or .u64 0 (bp : Int) = (y2 : Int) := hor
                  have HG1 : Hid (∀ (w1 : World) (v1 : Value), ApG 3 V w1 w.heap.size (.slice aT nT cT) v1 ((nI st.1).map (Value.int .i64) ++ [Value.int .i64 (x : Int)]) → AlI w J sy vO vF vE vZ vP vC vS vA G sy st.2 (st.1 ++ [x]) v1 it0 en0 w1) := hid0 (fun w1 v1 g => HM1.out.meet g)
                  have hlr : w.heap.size ≤ V.heap.size := HM1.out.only.size
                  clear zG hy hor
                  go_upto_region 13 with (at_builtin; go_loud ((refine wpList_append_own_at _ rfl _ _ 34 rfl w.heap.size 3 i0 (.int .i64 0) 1 8 Tryd.underlying34 hi hz0 hz1 hz2 rfl (by decide) (.slice aT nT cT) nT ((nI st.1).map (Value.int .i64)) rfl (World.ownsRow.alloc HT.out _) ⟨V.heap.size, 0, none⟩ 1 1 [.int .i64 (x : Int)] rfl rfl (cell_one_new _ _ _) (by simp [Value.oneCell']) (by unfold maxLen; omega) (by omega) (by simp; omega) ?_; intro v1 w1 h1 h2 _ h4; have R := hid0 (HG1.out w1 v1 (apG_one (by rw [List.length_map, ← HNT.out]; exact h1) h2 h4)); clear h1 h2 h4)))
                  obtain ⟨zG1, fG1⟩ := R.out.hv.at' hxs
                  rw [← HSt.out] at zG1
                  have HM2 := hid0 (HPt.out w1 _ _ R.out HSt1.out.symm)
                  clear zG0 fG z2 HG1 R
                  go_region
                  all_goals
                    go_wp2
                    go_roundw
                    case rel => first | exact ⟨m + 1, by omega, by go_num, HM2⟩ | ((repeat apply Exists.intro); exact ⟨⟨m + 1, by omega, by go_num, HM2⟩, rfl⟩)
                    case measure => simp [intOf]; omega
                · have HSt1 : Hid ((stepL b st x).1 = st.1) := hid0 (by show (if st.2 x = 0 then st.1 ++ [x] else st.1) = _; rw [← HSt.out, if_neg h0])
                  have HM2 := hid0 (HPt.out V _ _ HM1.out HSt1.out.symm)
                  have h0I : ¬ (y : Int) = 0 := by omega
                  have h0B : ((y : Int) == 0) = false := by rw [beq_eq_false_iff_ne]; omega
                  clear hy HSt
                  go_wp2
                  go_region
                  all_goals
                    go_wp2
                    go_roundw
                    case rel => exact ⟨m + 1, by omega, by go_num, HM2⟩
                    case measure => simp [intOf]; omega
              · obtain rfl : m = L.length := by omega
                have hB2 := HM.out
                rw [List.take_length, HL.out] at hB2
                change AlI w J sy vO vF vE vZ vP vC vS vA G sy (accL ch (b + 1)).2 (accL ch (b + 1)).1 _ it0 en0 V at hB2
                have HB2 := hid0 hB2
                clear hB2
                clear HM
                go_wp2
                go_roundw
                case rel => exact ⟨b + 1, by omega, by go_num, HB2⟩
                case measure => simp [intOf]; omega
          · have hbC : b = 64 := by omega
            obtain ⟨st, hst⟩ : ∃ st, st = accL ch b := ⟨_, rfl⟩
            have hB1 := HB.out
            rw [← hst] at hB1
            have hok := accL_ok ch b
            rw [← hst] at hok
            have hsm := hok.small sy (by
              rintro c' k ⟨q1, q2⟩
              exact ⟨(HLt.out k (by omega)).elim (fun _ h => h.elim (fun _ h => h.2.1 c' q2)), by omega⟩)
            have HRow : Hid (rowL LE i = st.1.map fun c => (c, st.2 c)) := hid0 (by unfold rowL; rw [← HCh.out.1, HCh.out.2, ← hbC, ← hst])
            obtain ⟨aT, cT, eT⟩ := own_sl hB1.mt
            obtain ⟨nT, hnT⟩ : ∃ nT, nT = st.1.length := ⟨_, rfl⟩
            rw [nI_len, ← hnT] at eT
            subst eT
            obtain ⟨H, hH⟩ : ∃ H, H = st.2 := ⟨_, rfl⟩
            obtain ⟨mt, hmt⟩ : ∃ mt, mt = st.1 := ⟨_, rfl⟩
            rw [← hH] at HRow hB1 hsm
            rw [← hmt] at HRow hB1 hsm hnT
            have HMt : Hid (mt.Nodup ∧ (∀ c, c ∈ mt ↔ H c ≠ 0) ∧ (∀ c ∈ mt, c < sy) ∧ ∀ c, H c < 18446744073709551616) := hid0 ⟨by rw [hmt]; exact hok.nd, by rw [hmt, hH]; exact hok.mem, hsm.2.1, hsm.2.2⟩
            have hnb : nT ≤ 16384 := by rw [hnT]; have := hsm.1; omega
            have HNT := hid0 hnT
            have HItl : Hid (it0.length + mt.length ≤ 900000000 ∧ en0.length ≤ 2000000) := hid0 (by
              have q1 := LTs_small LE (i + 1)
              rw [LTs_succ, List.flatten_append, List.length_append, HRow.out, ← HIt.out.1] at q1
              simp only [List.flatten_cons, List.flatten_nil, List.append_nil, List.length_map] at q1
              refine ⟨Nat.le_trans q1 HSum.out, ?_⟩
              rw [HIt.out.2, endsN_len]
              unfold LTs
              have q2 := HI.out.1
              have q3 := HI.out.2.1
              rw [List.length_drop] at q2
              rw [List.length_map, List.length_range]
              have := HLn.out
              omega)
            have HB1 := hid0 hB1
            clear hst hok hsm hH hmt hB1 HB hnT
            go_wp2
            go_loopw [62] (fun q wr => ∃ m : Nat, m ≤ nT ∧ q = .int .i64 (m : Int) ∧ Hid (AlI w J sy vO vF vE vZ vP vC vS vA G sy (hzF mt H m) mt (.slice aT nT cT) (it0 ++ itF mt H m) en0 wr)) (fun q _ => nT - (intOf q).toNat)
            case atStart => exact ⟨0, Nat.zero_le _, rfl, by rw [hzF_zero, itF_zero, List.append_nil]; exact HB1⟩
            case round =>
              obtain ⟨m, hm, rfl, HM⟩ := hrel
              obtain ⟨V, hV⟩ : ∃ V, V = wr := ⟨_, rfl⟩
              subst hV
              by_cases hml : m < nT
              · have hml2 : m < mt.length := by rw [← HNT.out]; exact hml
                obtain ⟨x, hx⟩ : ∃ x, x = mt[m] := ⟨_, rfl⟩
                have hxm : x ∈ mt := by rw [hx]; exact List.getElem_mem hml2
                have hxs : x < sy := HMt.out.2.2.1 x hxm
                obtain ⟨H1, hH1⟩ : ∃ H1 : Nat → Nat, H1 = hzF mt H m := ⟨_, rfl⟩
                obtain ⟨it1, hit1⟩ : ∃ it1, it1 = it0 ++ itF mt H m := ⟨_, rfl⟩
                have hM1 := HM.out
                rw [← hH1, ← hit1] at hM1
                obtain ⟨y, hy⟩ : ∃ y, y = H x := ⟨_, rfl⟩
                have hy1 : H1 x = y := by rw [hH1, hy, hx]; exact hzF_at mt H hml2 HMt.out.1
                have HE1 : Hid ((fun z => if z = x then 0 else H1 z) = hzF mt H (m + 1)) := hid0 (by rw [hH1, hx]; exact hzF_succ mt H hml2)
                have HE2 : Hid (it1 ++ [(x, y)] = it0 ++ itF mt H (m + 1)) := hid0 (by rw [hit1, itF_succ mt H hml2, ← hx, ← hy, List.append_assoc])
                obtain ⟨ni, hni⟩ : ∃ ni, ni = it1.length := ⟨_, rfl⟩
                have hnib : ni ≤ 900000000 := by
                  have q := HItl.out.1
                  have q2 := itF_len mt H m
                  rw [hni, hit1, List.length_append]; omega
                obtain ⟨zG, fG⟩ := hM1.hv.at' hxs
                rw [hy1] at zG
                obtain ⟨aI, cI, dI, hown, hnx⟩ := hM1.drew.item
                rw [← hni] at dI hown hnx
                have zT : V.cell? ⟨0, 0, none⟩ = V.cell? ⟨0, 0, none⟩ := rfl
                obtain ⟨gT, eT, zT⟩ : ∃ gT, aT = some ⟨gT, 0, none⟩ ∧ V.cell? ⟨gT, m, none⟩ = some (.int .i64 (x : Int)) := by
                  obtain ⟨a, c', e, hia⟩ := hM1.mt.ia
                  simp only [Value.slice.injEq] at e
                  obtain ⟨g, c2, e2, _, _, _⟩ := own_form hM1.mt (by rw [nI_len]; omega)
                  simp only [Value.slice.injEq] at e2
                  refine ⟨g, e2.1, ?_⟩
                  have h3 : V.ownsRow w.heap.size 3 1 (.slice (some ⟨g, 0, none⟩) nT cT) nT ((nI mt).map (Value.int .i64)) := by have h := hM1.mt; unfold OwnI at h; rw [nI_len, ← HNT.out, e2.1] at h; exact h
                  rw [World.ownsRow.cellAt h3 m (by omega)]
                  simp [nI, hml2, hx]
                subst eT
                obtain ⟨vB, hvB⟩ : ∃ vB, vB = V.drew.alloc (.cells #[.int .i64 (x : Int), .int .u64 (y : Int)] 127) := ⟨_, rfl⟩
                have HOw : Hid (vB.ownsRow w.heap.size 127 2 (.slice aI ni cI) ni (cells2 it1)) := hid0 (by rw [hvB]; exact World.ownsRow.alloc hown _)
                have HNw : Hid (∀ j u, (cells2 [(x, y)])[j]? = some u → vB.cell? ((⟨V.heap.size, 0, none⟩ : Addr).add j) = some u) := hid0 (by rw [hvB]; exact cell_two_new _ _ _ _)
                have HLw : Hid (w.heap.size ≤ vB.heap.size) := hid0 (by rw [hvB]; have := hM1.only.size; simp; omega)
                have hVB : Below V.heap.size V vB := by rw [hvB]; exact ((Below.refl _ _).drew).alloc (Nat.le_refl _) _
                have dV : V.cell? ⟨J, 4, none⟩ = some (.slice aI ni cI) := dI
                have dB : vB.cell? ⟨J, 4, none⟩ = some (.slice aI ni cI) := (hVB.cell (p := ⟨J, 4, none⟩) (World.block_lt_of_cell? V _ dV)).trans dV
                have zB : vB.cell? ⟨G, x, none⟩ = some (.int .u64 (y : Int)) := (hVB.cell (p := ⟨G, x, none⟩) (World.block_lt_of_cell? V _ zG)).trans zG
                have HNx : Hid (∀ (v' : Value) (w2 : World), w2.ownsRow w.heap.size 127 2 v' (ni + 1) (cells2 it1 ++ cells2 [(x, y)]) → vB.grownBy w2 (Value.slice aI ni cI).ownBlock → (v'.ownBlock = (Value.slice aI ni cI).ownBlock ∨ v'.ownBlock = some vB.heap.size) → (w2.cell? ⟨J, 4, none⟩ = some (.slice aI ni cI) ∧ w2.frozen? ⟨J, 4, none⟩ = false) ∧ AlI w J sy vO vF vE vZ vP vC vS vA G sy H1 mt (.slice (some ⟨gT, 0, none⟩) nT cT) (it1 ++ [(x, y)]) en0 (w2.setCell ⟨J, 4, none⟩ v')) := hid0 (fun v' w2 h1 h2 h3 => by
                  rw [hvB] at h2 h3
                  exact hnx v' w2 (x, y) (apL_one (by rw [← hni]; exact h1) h2 h3))
                have HPt : Hid (∀ V1 : World, AlI w J sy vO vF vE vZ vP vC vS vA G sy H1 mt (.slice (some ⟨gT, 0, none⟩) nT cT) (it1 ++ [(x, y)]) en0 V1 → (V1.cell? ⟨G, x, none⟩ = some (.int .u64 (y : Int)) ∧ V1.frozen? ⟨G, x, none⟩ = false) ∧ AlI w J sy vO vF vE vZ vP vC vS vA G sy (hzF mt H (m + 1)) mt (.slice (some ⟨gT, 0, none⟩) nT cT) (it0 ++ itF mt H (m + 1)) en0 (V1.setCell ⟨G, x, none⟩ (.int .u64 0))) := hid0 (fun V1 h => by
                  have q := h.hv.at' hxs
                  rw [hy1] at q
                  have h2 := h.putH hxs 0
                  rw [HE1.out, HE2.out] at h2
                  exact ⟨q, h2⟩)
                have hxI : (x : Int) < (sy : Int) := by omega
                have hxI0 : (0 : Int) ≤ (x : Int) := by omega
                have hmI : (m : Int) < (nT : Int) := by omega
                have hmI0 : (0 : Int) ≤ (m : Int) := by omega
                have gB := hvB.symm
                clear hvB hVB hnx hown dI HM hM1 hH1 hit1 hni hy hy1 HE1 HE2 hx hxm hml2
                go_upto_region 19 with (fail)
                go_region_law ((refine step_append_own_at (by rfl) _ _ 87 (by rfl) w.heap.size 127 l0 _ 2 16 Tryd.underlying87 hl hy0 hy1 hy2 rfl (by decide) (.slice aI ni cI) ni (cells2 it1) (by rfl) HOw.out ⟨V.heap.size, 0, none⟩ 1 1 (cells2 [(x, y)]) (by rfl) (by rfl) HNw.out (cells2_one _) (by unfold maxLen; omega) (by omega) HLw.out ?_; intro v' w2 h1 h2 h3; obtain ⟨a2, c2, rfl⟩ := own_sl h1; have R := hid0 (HNx.out _ _ h1 ⟨h2.os, h2.tape, h2.output, h2.size, h2.block⟩ h3); clear h1 h2 h3; have t1 := R.out.1.1; have t2 := R.out.1.2))
                all_goals
                  have HR := hid0 (HPt.out _ R.out.2)
                  clear R t1 t2
                  generalize w2.setCell ⟨J, 4, none⟩ (.slice a2 (ni + 1) c2) = w3 at *
                  obtain ⟨r1, r2⟩ := HR.out.1
                  go_wp2
                  go_roundw
                  case rel => exact ⟨m + 1, by omega, by go_num, hid0 HR.out.2⟩
                  case measure => simp [intOf]; omega
              · obtain rfl : m = nT := by omega
                have hM1 := HM.out
                rw [HNT.out, hzF_end mt H HMt.out.2.1] at hM1
                have e1 : it0 ++ itF mt H mt.length = (LTs LE (i + 1)).flatten := by
                  rw [LTs_succ, List.flatten_append, HRow.out, ← HIt.out.1]
                  unfold itF
                  rw [List.take_length]
                  simp
                rw [e1, ← HNT.out] at hM1
                have HCe := hid0 (hM1.endRow (Nat.le_trans (LTs_small LE (i + 1)) (by have := HSum.out; omega)) (by have := HItl.out.2; omega))
                have e2 : en0 ++ [(LTs LE (i + 1)).flatten.length] = endsN (LTs LE (i + 1)) := by rw [LTs_succ, endsN_snoc, ← HIt.out.2]
                rw [e2] at HCe
                have HNl : Hid (n - 64 = (LE.drop (64 * (i + 1))).length ∧ 64 * (i + 1) < LE.length + 64 ∧ LtA w J (if c = 64 then some ⟨b0, off, none⟩ else some ⟨b0, off + 64, none⟩) (LE.drop (64 * (i + 1)))) := hid0 (by
                  obtain ⟨q1, q2, q3⟩ := HI.out
                  have q4 := q3.rest 64 c (by rw [← q1]; exact hnc)
                  rw [List.length_drop] at q1
                  have e3 : (LE.drop (64 * i)).drop 64 = LE.drop (64 * (i + 1)) := by
                    rw [List.drop_drop]
                    congr 1
                  rw [e3] at q4
                  exact ⟨by rw [List.length_drop]; omega, by omega, q4⟩)
                clear e1 e2 hM1 HM
                go_wp2_with (go_at_call 72; go_loud ((refine HCe.out.mono ?_; rintro e w4 ⟨⟨v4, rfl⟩, HA4⟩)))
                go_roundw
                case rel => exact ⟨i + 1, _, _, _, rfl, by omega, by omega, hid0 (by have q := HNl.out; exact q), hid0 ⟨_, HA4.out⟩⟩
                case measure => (show n - 64 < n); omega
end Go.Proofs.YtbbejfkgopcjoaaDoor
