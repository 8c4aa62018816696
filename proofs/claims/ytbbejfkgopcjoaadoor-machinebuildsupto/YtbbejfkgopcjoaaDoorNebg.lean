/-
  MfQW.
-/
import Derived.Test.YtbbejfkgopcjoaaDoorNebf
namespace Go.Proofs.YtbbejfkgopcjoaaDoor
open Go.RowKit Go.Shelf
/-- What the document's Build answers. -/
def BdD (rs : List Pr) (sy most : Nat) (w : World) (e : Ending) (w' : World) : Prop :=
  Below w.heap.size w w' ∧ match bldR (rs.map toPt) sy most with
    | none => e = .returned (.tuple #[.agg #[.int .i64 0, .slice none 0 0, .slice none 0 0], .int .i64 3])
    | some b => ∃ vN vO NX OU, e = .returned (.tuple #[.agg #[.int .i64 0, vN, vO], .int .i64 0]) ∧ RwsM w' w.heap.size vN NX b.1 ∧ RwsM w' w.heap.size vO OU b.2 ∧ Apt vN vO
theorem own_new2 (w : World) (base : Nat) (h : base ≤ w.heap.size) (a b : Value) : (w.alloc (.cells #[a, b] 76)).ownsRow base 76 2 (.slice (some ⟨w.heap.size, 0, none⟩) 1 1) 1 [a, b] :=
  ⟨rfl, .inr ⟨w.heap.size, 1, #[a, b], rfl, h, heap_alloc_new w _, Nat.le_refl _, by decide, rfl, rfl⟩⟩
theorem startR_rep (rs : List Pr) : startR (rs.map toPt) = (List.replicate rs.length [], false) := by
  unfold startR
  rw [List.length_map]
  congr 1
  exact List.ext_getElem (by simp) (fun i h1 h2 => by simp)
/-- The loop's beginning. -/
theorem bdI_start {w w2 w3 W : World} {M : Nat} {vT : Value} {VS : List Value} {n : Nat} {rs : List Pr} {aN : Option Addr} {cN : Nat} (hn : n = rs.length) (hb2 : Below w.heap.size w w2) (hr2 : w2.heap[w.heap.size]? = some (.cells #[.int .i64 0, .slice none 0 0, .slice none 0 0] 28 (0, 0))) (h : SnM w2 w3 w2.heap.size false vT VS (List.replicate n []) W) (e : vT = .slice aN n cN) (hRf : RwF W (· < w3.heap.size) aN ((List.replicate n ([] : List Nat)).map nI)) (hM : M = W.heap.size + 1) :
    BdI w ((W.alloc (.cells #[vT, .bool false] 76)).alloc (.cells #[.int .i64 0, .slice none 0 0, .slice none 0 0] 28)) M (.slice (some ⟨W.heap.size, 0, none⟩) 1 1) (.slice none 0 0) (.slice none 0 0) [] [] ⟨[startR (rs.map toPt)], [], [], 0⟩ := by
  have hl2 := (Array.getElem?_eq_some_iff.1 hr2).1
  have hbW : Below w2.heap.size w2 W := h.bel
  have hs := hbW.size
  have hbA : Below W.heap.size W (W.alloc (.cells #[vT, .bool false] 76)) := (Below.refl _ _).alloc (Nat.le_refl _) _
  have hsA : (W.alloc (.cells #[vT, .bool false] 76)).heap.size = W.heap.size + 1 := by simp
  generalize hWA : W.alloc (.cells #[vT, .bool false] 76) = WA at *
  have hbM : Below WA.heap.size WA (WA.alloc (.cells #[.int .i64 0, .slice none 0 0, .slice none 0 0] 28)) := (Below.refl _ _).alloc (Nat.le_refl _) _
  have hbox := heap_alloc_new WA (.cells #[.int .i64 0, .slice none 0 0, .slice none 0 0] 28)
  generalize hWM : WA.alloc (.cells #[.int .i64 0, .slice none 0 0, .slice none 0 0] 28) = WM at *
  have hall : Below W.heap.size W WM := Below.later hbA hbM
  subst hM
  refine ⟨Below.later hb2 (Below.later hbW hall), ?_, ⟨by rw [← hsA]; exact hbox, RwsM.nil _ _, RwsM.nil _ _, fun k hk => by cases hk⟩, ⟨[vT, .bool false], ?_, fun i hi => ?_⟩, by omega⟩
  · rw [hbM.block _ (by omega), hbA.block _ (by omega), hbW.block _ hl2]
    exact hr2
  · have := own_new2 W w.heap.size (by omega) vT (.bool false)
    rw [hWA] at this
    exact own_blk this (fun k hk => hbM.block k (World.ownsRow.lt this k hk).2)
  · have hi0 : i = 0 := by simp at hi; omega
    subst hi0
    refine ⟨aN, cN, ?_, ?_, ?_⟩
    · show some vT = _
      rw [e, startR_rep]
      simp [hn]
    · show some (Value.bool false) = _
      rw [startR_rep]
      rfl
    · show RwF WM _ aN (((startR (rs.map toPt))).1.map nI)
      rw [startR_rep, ← hn]
      refine hRf.keep hall.size (fun k hk _ => hall.block k hk) (fun k hk q => ?_)
      rcases q with (q | q | q) | q
      · omega
      · cases q
      · cases q
      · have q' : W.heap.size = k := Option.some.inj q
        omega
set_option maxRecDepth 10000 in
set_option maxHeartbeats 6400000 in
theorem buildD_any (aP : Option Addr) (cP : Nat) (rs : List Pr) (sy most : Nat) (w : World) (hP : PaI w aP rs) (hrl : rs.length ≤ 10000000) (hok : ∀ r ∈ rs, PrOk r sy) (hsy0 : 0 < sy) (hsy : sy ≤ 16384) (hm0 : 0 < most) (hm : most ≤ 16384) (hchk : chkA rs (sy : Int) = none) :
    Calls Tryd.prog 18 #[.slice aP rs.length cP, .int .i64 (sy : Int), .int .i64 (most : Int)] w fun e w' => BdD rs sy most w e w' := by
  obtain ⟨n, hn⟩ : ∃ x, x = rs.length := ⟨_, rfl⟩
  obtain ⟨w1, hw1⟩ : ∃ w1, w1 = w.alloc (.cells #[.int .i64 0, .slice none 0 0, .slice none 0 0] 28) := ⟨_, rfl⟩
  have hb1 : Below w.heap.size w w1 := by rw [hw1]; exact (Below.refl _ _).alloc (Nat.le_refl _) _
  have hr1 : w1.heap[w.heap.size]? = some (.cells #[.int .i64 0, .slice none 0 0, .slice none 0 0] 28 (0, 0)) := by rw [hw1]; exact heap_alloc_new w _
  have HFa : Hid (Calls Tryd.prog 38 #[.slice aP n cP, .int .i64 (sy : Int), .int .i64 (most : Int)] w1 fun e w' => e = .returned (.int .i64 0) ∧ Hid (Below w1.heap.size w1 w')) := hid0 (by
    have h := faultD_any aP cP rs (sy : Int) (most : Int) w1 (hP.past hb1) hrl
    rw [if_neg (by omega), hchk, ← hn] at h
    exact h)
  have HB1 := hid0 hb1
  have HR1 := hid0 hr1
  have HP := hid0 hP
  have HOk := hid0 hok
  have HN := hid0 hn
  rw [← hn] at hrl ⊢
  have q1 := hw1.symm
  clear hw1 hb1 hr1 hP hok hn hchk
  go_enter Tryd.func18, Tryd.ntmps18
  go_upto_region 4 with (go_at_call 38; go_loud ((refine HFa.out.mono ?_; rintro e w2 ⟨rfl, H2⟩; clear HFa)))
  have HB2 : Hid (Below w.heap.size w w2) := hid0 (Below.later HB1.out H2.out)
  have HR2 : Hid (w2.heap[w.heap.size]? = some (.cells #[.int .i64 0, .slice none 0 0, .slice none 0 0] 28 (0, 0))) := hid0 ((H2.out.block _ (Array.getElem?_eq_some_iff.1 HR1.out).1).trans HR1.out)
  clear HB1 HR1 H2 q1
  obtain ⟨w3, hw3⟩ : ∃ w3, w3 = w2.alloc (.cells #[.slice none 0 0, .bool false] 76) := ⟨_, rfl⟩
  have hb3 : Below w2.heap.size w2 w3 := by rw [hw3]; exact (Below.refl _ _).alloc (Nat.le_refl _) _
  have hs3 : w3.heap.size = w2.heap.size + 1 := by rw [hw3]; simp
  have hr3 : w3.heap[w2.heap.size]? = some (.cells #[.slice none 0 0, .bool false] 76 (0, 0)) := by rw [hw3]; exact heap_alloc_new w2 _
  obtain ⟨v1, v2, hl⟩ := laidY (.slice none 0 0) (.bool false) hr3
  have hv2s : v2.heap.size = w3.heap.size := by rw [← hl.g2, ← hl.g1]; simp [World.setCell]
  have HSn : Hid (SnM w2 w3 w2.heap.size false (.slice none 0 0) [] (List.replicate 0 []) v2) := hid0 ⟨hb3.trans (hl.only.below (by omega) (fun k hk => by omega)), by omega, fun k hk hx => hl.only.block k hk hx, hl.r, RwsM.nil _ _, by omega, Nat.le_refl _⟩
  have q3 := hw3.symm
  have g1 := hl.g1
  have g2 := hl.g2
  obtain ⟨z0, z1⟩ := hl.z
  have a1 := hl.a1
  have f0 := hl.f0
  have f1 := hl.f1
  clear hw3 hb3 hr3 hl hv2s hs3
  go_wp2
  clear q3 g1 g2 z0 z1 a1 f0 f1
  go_loopw [10] (fun q wr => ∃ (k : Nat) (vT : Value) (VS : List Value), k ≤ n ∧ q = .int .i64 (k : Int) ∧ Hid (SnM w2 w3 w2.heap.size false vT VS (List.replicate k []) wr)) (fun q _ => n - (intOf q).toNat)
  case atStart => exact ⟨0, _, _, Nat.zero_le _, rfl, HSn⟩
  case round =>
    clear HSn
    obtain ⟨k, vT, VS, hk, rfl, HS⟩ := hrel
    by_cases hkl : k < n
    · have hkI : (k : Int) < (n : Int) := by omega
      obtain ⟨b0, b1, bf⟩ := row2s HS.out.box
      have hs3 := HS.out.size
      have HKn : Hid (VS.length = k) := hid0 (by rw [HS.out.rows.len, List.length_replicate])
      have HRo : Hid (wr.ownsRow w3.heap.size 34 1 vT k VS) := hid0 (by have h := HS.out.rows.outer; rw [HKn.out] at h; exact h)
      obtain ⟨aV, cV, eV⟩ := own_sl HRo.out
      subst eV
      have HRs : Hid (List.replicate (k + 1) ([] : List Nat) = List.replicate k [] ++ [[]]) := hid0 List.replicate_succ'
      obtain ⟨i0, hi', hz0, hz1, hz2⟩ := info_parts infoIntsM
      go_wp2_with (at_builtin; go_loud ((
        refine wpList_append_own_at _ rfl _ _ 26 rfl w3.heap.size 34 i0 (.slice none 0 0) 1 24 Tryd.underlying26 hi' hz0 hz1 hz2 rfl (by decide) (.slice aV k cV) k VS rfl (World.ownsRow.alloc HRo.out _) ⟨wr.heap.size, 0, none⟩ 1 1 [.slice none 0 0] rfl rfl (cell_one_new _ _ _) (by simp [Value.oneCell']) (by unfold maxLen; omega) (by omega) (by simp; omega) ?_
        intro v6 w6 hown6 hgrow6 _ hat6
        obtain ⟨a6, c6, e6⟩ := own_sl hown6
        subst e6
        obtain ⟨rb, rm⟩ := HS.out.add (l := []) (World.ownsRow_nil _ _ _ _) HKn.out.symm hown6 hgrow6
        obtain ⟨g0, g1, gf⟩ := row2s rb
        obtain ⟨W6, hW6⟩ : ∃ W6, w6.setCell ⟨w2.heap.size, 0, none⟩ (.slice a6 (k + 1) c6) = W6 := ⟨_, rfl⟩
        rw [hW6] at rm
        have HM6 := hid0 rm
        clear rb rm hown6 hgrow6 hat6)))
      have HM7 : Hid (SnM w2 w3 w2.heap.size false (.slice a6 (k + 1) c6) (VS ++ [.slice none 0 0]) (List.replicate (k + 1) []) W6) := hid0 (by rw [HRs.out]; exact HM6.out)
      go_roundw
      case rel => exact ⟨k + 1, _, _, by omega, by go_num, HM7⟩
      case measure => simp [intOf]; omega
    · have hkI : ¬ (k : Int) < (n : Int) := by omega
      have hkn : k = n := by omega
      rw [hkn] at HS
      clear hkn
      obtain ⟨b0, b1, bf⟩ := row2s HS.out.box
      obtain ⟨aN, cN, eN, hRf⟩ := HS.out.rows.rwf
      rw [List.length_replicate] at eN
      have HBd := hid0 (bdI_start (rs := rs) HN.out HB2.out HR2.out HS.out eN hRf rfl)
      subst eN
      obtain ⟨w4, hw4⟩ : ∃ w4, w4 = wr.alloc (.cells #[.slice aN n cN, .bool false] 76) := ⟨_, rfl⟩
      have hs4 : w4.heap.size = wr.heap.size + 1 := by rw [hw4]; simp
      rw [← hw4] at HBd
      obtain ⟨w5, hw5⟩ : ∃ w5, w5 = w4.alloc (.cells #[.int .i64 0, .slice none 0 0, .slice none 0 0] 28) := ⟨_, rfl⟩
      rw [← hw5] at HBd
      have HM : Hid (w4.heap.size = wr.heap.size + 1) := hid0 hs4
      rw [← hs4] at HBd
      have q4 := hw4.symm
      have q5 := hw5.symm
      clear hw4 hw5 hs4 hRf HS
      have HJ0 := hid0 (runJ_start (rs := rs) (sy := sy) hm0)
      generalize hA : wr.heap.size = gA at *
      generalize hM4 : w4.heap.size = M at *
      go_wp2
      clear q4 q5 b0 b1 bf
      go_loopw [11, 12, 14] (fun va vo q wr => ∃ (i : Nat) (r : Rs) (vN vO : Value) (NX OU : List Value), i ≤ most ∧ i ≤ r.all.length ∧ q = .int .i64 (i : Int) ∧ vo = .int .i64 (r.n : Int) ∧ Hid (RunJ rs sy most i r) ∧ Hid (BdI w wr M va vN vO NX OU r)) (fun _ _ q _ => 40000 - (intOf q).toNat)
      case atStart => exact ⟨0, _, _, _, _, _, Nat.zero_le _, Nat.zero_le _, rfl, rfl, HJ0, HBd⟩
      case round =>
        clear HBd HJ0
        obtain ⟨i, r, vN, vO, NX, OU, him, hil, rfl, rfl, HJ, HB⟩ := hrel
        obtain ⟨wi, hwi⟩ : ∃ wi, wi = wr := ⟨_, rfl⟩
        subst hwi
        have hlen := HJ.out.len
        have hrn := HJ.out.n
        obtain ⟨len, hle⟩ : ∃ x, x = r.all.length := ⟨_, rfl⟩
        have HLe := hid0 hle
        rw [← hle] at hil hlen
        have HVa : Hid (∃ a c, u11 = .slice a len c) := hid0 (by obtain ⟨VS, h1, _⟩ := HB.out.sts.own; rw [HLe.out]; exact own_sl h1)
        obtain ⟨aA, cA, eA⟩ := HVa.out
        subst eA
        clear HVa hle
        obtain ⟨lX, hlX⟩ : ∃ x, x = NX.length := ⟨_, rfl⟩
        obtain ⟨lY, hlY⟩ : ∃ x, x = OU.length := ⟨_, rfl⟩
        have HXY := hid0 (And.intro hlX hlY)
        have hlxi : lX ≤ i ∧ lY ≤ i := ⟨by rw [hlX, HB.out.ma.nx.len]; exact HJ.out.nx, by rw [hlY, HB.out.ma.ou.len]; exact HJ.out.ou⟩
        obtain ⟨aX, cX, eX⟩ : ∃ a c, vN = .slice a lX c := by rw [hlX]; exact own_sl HB.out.ma.nx.outer
        obtain ⟨aY, cY, eY⟩ : ∃ a c, vO = .slice a lY c := by rw [hlY]; exact own_sl HB.out.ma.ou.outer
        subst eX
        subst eY
        clear hlX hlY
        obtain ⟨ml, hml, hml2⟩ : ∃ ml : Nat, (len : Int) * (sy : Int) = (ml : Int) ∧ ml = len * sy := ⟨len * sy, by first | exact (Int.natCast_mul len sy).symm | push_cast; rfl | simp, rfl⟩
        have HMl := hid0 hml2
        clear hml2
        have hmlb : ml ≤ 1000000000 := by
          rw [HMl.out]
          exact Nat.le_trans (Nat.mul_le_mul hlen hsy) (by decide)
        by_cases hlt : i < len
        · have hiI : (i : Int) < (len : Int) := by omega
          have hiI0 : (0 : Int) ≤ (i : Int) := by omega
          obtain ⟨a, haE⟩ : ∃ a, a = r.all[i]'(by rw [← HLe.out]; exact hlt) := ⟨_, rfl⟩
          have HA : Hid (r.all[i]? = some a ∧ RstOk rs a) := hid0 ⟨by rw [haE]; exact List.getElem?_eq_getElem _, by rw [haE]; exact HJ.out.ok _ (List.getElem_mem _)⟩
          clear haE
          by_cases hf : most < len ∨ 4194304 < ml
          · have HV : Hid (bldR (rs.map toPt) sy most = none) := hid0 (bld_refuse him HJ.out.run HA.out.1 (.inl (by unfold Rs.full; rw [← HLe.out, ← HMl.out]; exact hf)))
            obtain ⟨v1, v2, v3, hl⟩ := laidM (.int .i64 0) (.slice none 0 0) (.slice none 0 0) HB.out.res
            have HF : Hid (Below w.heap.size w v3) := hid0 (HB.out.bel.trans (hl.only.below HB.out.bel.size (fun k hk => by rw [hk]; exact Nat.le_refl _)))
            by_cases h1 : most < len
            · have h1I : (len : Int) > (most : Int) := by omega
              clear h1 hf
              have g1 := hl.g1
              have g2 := hl.g2
              have g3 := hl.g3
              obtain ⟨z0, z1, z2⟩ := hl.z
              have a1 := hl.a1
              have a2 := hl.a2
              have f0 := hl.f0
              have f1 := hl.f1
              have f2 := hl.f2
              have HC := hid0 hl.c
              clear hl
              go_wp2
              obtain ⟨c0, c1, c2⟩ := HC.out
              (try simp only [Exit.inBlock, Exit.then])
              refine bodyPost_ret (by simp [results, Tryd.results18, go_sem, c0, c1, c2]; try rfl) rfl ?_
              unfold BdD
              rw [HV.out]
              exact ⟨HF.out, rfl⟩
            · have h1I : ¬ (len : Int) > (most : Int) := by omega
              have h2I : (ml : Int) > 4194304 := by omega
              clear h1 hf
              have g1 := hl.g1
              have g2 := hl.g2
              have g3 := hl.g3
              obtain ⟨z0, z1, z2⟩ := hl.z
              have a1 := hl.a1
              have a2 := hl.a2
              have f0 := hl.f0
              have f1 := hl.f1
              have f2 := hl.f2
              have HC := hid0 hl.c
              clear hl
              go_wp2
              obtain ⟨c0, c1, c2⟩ := HC.out
              (try simp only [Exit.inBlock, Exit.then])
              refine bodyPost_ret (by simp [results, Tryd.results18, go_sem, c0, c1, c2]; try rfl) rfl ?_
              unfold BdD
              rw [HV.out]
              exact ⟨HF.out, rfl⟩
          · have h1I : ¬ (len : Int) > (most : Int) := by omega
            have h2I : ¬ (ml : Int) > 4194304 := by omega
            have hlm : len ≤ most := by omega
            have HNf : Hid (¬ r.full sy most) := hid0 (by unfold Rs.full; rw [← HLe.out, ← HMl.out]; exact hf)
            clear hf
            go_wp2
            go_loopw [11, 15, 16] (fun va vr q wr => ∃ c : Nat, c ≤ sy ∧ q = .int .i64 (c : Int) ∧ Hid (InJ w wi wr M (.slice aX lX cX) (.slice aY lY cY) (.slice aA len cA) va vr (rowR (rs.map toPt) a r.all c).1 (rowR (rs.map toPt) a r.all c).2)) (fun _ _ q _ => sy - (intOf q).toNat)
            case atStart => exact ⟨0, Nat.zero_le _, rfl, hid0 (InJ.start HB.out)⟩
            case round =>
              obtain ⟨c, hc, rfl, HI⟩ := hrel
              obtain ⟨AL, hAL⟩ : ∃ x, x = (rowR (rs.map toPt) a r.all c).1 := ⟨_, rfl⟩
              obtain ⟨RW, hRW⟩ : ∃ x, x = (rowR (rs.map toPt) a r.all c).2 := ⟨_, rfl⟩
              rw [← hAL, ← hRW] at HI
              have hlens := rowR_len (rs.map toPt) a r.all c
              rw [← hAL, ← hRW, ← HLe.out] at hlens
              obtain ⟨lc, hlc⟩ : ∃ x, x = AL.length := ⟨_, rfl⟩
              have HLc := hid0 hlc
              have HRl : Hid ((nI RW).length = c) := hid0 (by rw [nI_len]; exact hlens.2)
              have hlcb := hlens.1
              rw [← hlc] at hlcb
              by_cases hcl : c < sy
              · have hcI : (c : Int) < (sy : Int) := by omega
                have hpre : ∃ e, AL = r.all ++ e := by
                  obtain ⟨e, he⟩ := rowR_pre (rs.map toPt) a r.all 0 c
                  rw [Nat.zero_add] at he
                  exact ⟨e, by rw [hAL]; exact he⟩
                have hic : i < lc := by
                  obtain ⟨e, he⟩ := hpre
                  rw [hlc, he, List.length_append, ← HLe.out]
                  omega
                have hai : ∀ h : i < AL.length, AL[i] = a := fun h => by
                  obtain ⟨e, he⟩ := hpre
                  have h2 := HA.out.1
                  have : AL[i]? = some a := by rw [he, List.getElem?_append_left (by rw [← HLe.out]; exact hlt)]; exact h2
                  rw [List.getElem?_eq_getElem h] at this
                  exact Option.some.inj this
                have HOkA : Hid (∀ x ∈ AL, RstOk rs x) := hid0 (by rw [hAL]; exact rowR_ok HOk.out a r.all HJ.out.ok c)
                have HRc : Hid (rowR (rs.map toPt) a r.all (c + 1) = if stepR (rs.map toPt) a c ∈ AL then (AL, RW ++ [AL.idxOf (stepR (rs.map toPt) a c)]) else (AL ++ [stepR (rs.map toPt) a c], RW ++ [AL.length])) := hid0 (by rw [rowR, ← hAL, ← hRW])
                obtain ⟨gA2, cA2, eA, hAll⟩ := HI.out.sts.alld (by rw [← hlc]; omega)
                rw [← hlc] at eA
                obtain ⟨b, off, eb, _, aT, cT, d1, d2, i1⟩ := hAll.at' i (by rw [← hlc]; exact hic)
                injection eb with eb
                injection eb with eb1 eb2 _
                subst eb1
                subst eb2
                rw [Nat.zero_add] at d1 d2
                rw [hai] at d1 d2 i1
                have hbW := HI.out.bel HB.out
                obtain ⟨bg, hbg⟩ : ∃ x, x = a.2 := ⟨_, rfl⟩
                have han : a.1.length = n := by rw [HN.out]; exact HA.out.2.len
                have HSt : Hid (Calls Tryd.prog 39 #[.slice aP n cP, .agg #[.slice aT n cT, .bool bg], .int .i64 (c : Int)] wr fun e w' => ∃ aN cN, e = .returned (.agg #[.slice aN n cN, .bool true]) ∧ RwF w' (· < wr.heap.size) aN ((stepR (rs.map toPt) a c).1.map nI) ∧ Hid (Below wr.heap.size wr w')) := hid0 (by
                  have h := stepD_any aP aT cP cT rs a.1 a.2 c wr (HP.out.past hbW) i1 HA.out.2.len (by rw [← HN.out]; exact hrl) HA.out.2.few HA.out.2.at' (by omega)
                  have e := stpI_R HOk.out a.1 a.2 c
                  rw [show (a.1, a.2) = a from rfl] at e
                  rw [← e, ← HN.out, ← hbg]
                  rw [han, ← hbg, ← HN.out] at h
                  exact h)
                have HSr : Hid ((stepR (rs.map toPt) a c).1.length = n ∧ (stepR (rs.map toPt) a c).2 = true ∧ RstOk rs (stepR (rs.map toPt) a c)) := hid0 (by
                  have h := okR_step HOk.out a c
                  exact ⟨by rw [h.len, HN.out], rfl, h⟩)
                rw [han] at d1
                rw [← hbg] at d2
                obtain ⟨S, hS⟩ : ∃ x, x = stepR (rs.map toPt) a c := ⟨_, rfl⟩
                rw [← hS] at HRc HSt HSr
                subst eA
                clear hAL hRW hlens hlc hpre hai hAll i1 hbW hbg han hS
                have hiI2 : (i : Int) < (lc : Int) := by omega
                go_upto_region 22 with (go_at_call 39; go_loud ((
                  refine HSt.out.mono ?_
                  rintro e w5 ⟨aN, cN, rfl, hRf, hB5⟩
                  have HRf := hid0 hRf
                  clear hRf
                  obtain ⟨w6, hw6⟩ : ∃ w6, w6 = w5.alloc (.cells #[.slice none 0 0, .bool false] 76) := ⟨_, rfl⟩
                  have hb6 : Below w5.heap.size w5 w6 := by rw [hw6]; exact (Below.refl _ _).alloc (Nat.le_refl _) _
                  have hr6 : w6.heap[w5.heap.size]? = some (.cells #[.slice none 0 0, .bool false] 76 (0, 0)) := by rw [hw6]; exact heap_alloc_new w5 _
                  obtain ⟨v1, v2, hl⟩ := laidY (.slice aN n cN) (.bool true) hr6
                  have HB7 : Hid (Below w5.heap.size w5 v2) := hid0 (hb6.trans (hl.only.below hb6.size (fun k hk => by omega)))
                  have HX7 := hid0 hl.r
                  have q6 := hw6.symm
                  have g1 := hl.g1
                  have g2 := hl.g2
                  obtain ⟨z0, z1⟩ := hl.z
                  have a1 := hl.a1
                  have f0 := hl.f0
                  have f1 := hl.f1
                  clear hw6 hb6 hr6 hl)))
                have HB8 : Hid (Below wr.heap.size wr v2) := hid0 (Below.later hB5.out HB7.out)
                have HI7 := hid0 (HI.out.past HB8.out)
                have HRf7 : Hid (RwF v2 (fun k => (PR M (.slice aX lX cX) (.slice aY lY cY) u15 k ∨ (Value.slice (some ⟨gA2, 0, none⟩) lc cA2).ownBlock = some k)) aN (S.1.map nI)) := hid0 (HRf.out.keep HB7.out.size (fun k hk _ => HB7.out.block k hk) (fun k _ q => HI.out.lt HB.out k q))
                clear q6 g1 g2 z0 z1 a1 f0 f1 d1 d2 HSt
                obtain ⟨x0, x1, _⟩ := row2s HX7.out
                have HFd : Hid (Calls Tryd.prog 40 #[.slice (some ⟨gA2, 0, none⟩) lc cA2, .agg #[.slice aN n cN, .bool true]] v2 fun e w' => e = .returned (.int .i64 (fndI AL S)) ∧ Hid (Below v2.heap.size v2 w')) := hid0 (by
                  obtain ⟨g', c', e', hAll⟩ := HI7.out.sts.alld (by rw [← HLc.out]; omega)
                  injection e' with e1 _ _
                  injection e1 with e1
                  injection e1 with e1
                  subst e1
                  have h := findD_any _ aN cA2 cN AL S v2 hAll HRf7.out.rwa (by rw [← HLc.out]; omega) (fun x hx => ⟨by rw [(HOkA.out x hx).len, ← HN.out]; omega, (HOkA.out x hx).few⟩)
                  rw [← HLc.out, HSr.out.1, HSr.out.2.1] at h
                  exact h)
                obtain ⟨i0, hi', hz0, hz1, hz2⟩ := info_parts infoInt
                by_cases hm : S ∈ AL
                · have HV : Hid (fndI AL S = ((AL.idxOf S : Nat) : Int)) := hid0 (by unfold fndI; rw [if_pos hm])
                  rw [if_pos hm] at HRc
                  rw [HV.out] at HFd
                  clear HV hm
                  generalize AL.idxOf S = ix at *
                  have hxI : ¬ (ix : Int) < 0 := by omega
                  go_wp2_with (first
                    | (go_at_call 40; go_loud ((
                      refine HFd.out.mono ?_
                      rintro e w8 ⟨rfl, hB9⟩
                      have HI8 := hid0 (HI7.out.past hB9.out)
                      have HRow : Hid (w8.ownsRow wi.heap.size 3 1 u15 c ((nI RW).map (Value.int .i64))) := hid0 (by have h := HI8.out.row; unfold OwnI at h; rw [HRl.out] at h; exact h)
                      have hsz := HI8.out.only.size
                      obtain ⟨y0, y1, _⟩ := row2s ((hB9.out.block _ (Array.getElem?_eq_some_iff.1 HX7.out).1).trans HX7.out)
                      have HRf8 : Hid (RwF w8 (fun k => (PR M (.slice aX lX cX) (.slice aY lY cY) u15 k ∨ (Value.slice (some ⟨gA2, 0, none⟩) lc cA2).ownBlock = some k)) aN (S.1.map nI)) := hid0 (HRf7.out.keep hB9.out.size (fun k hk _ => hB9.out.block k hk) (fun k _ q => q)))))
                    | (at_builtin; refine wpList_append_own_at _ rfl _ _ 34 rfl wi.heap.size 3 i0 (.int .i64 0) 1 8 Tryd.underlying34 hi' hz0 hz1 hz2 rfl (by decide) _ c ((nI RW).map (Value.int .i64)) rfl (World.ownsRow.alloc HRow.out _) ⟨w8.heap.size, 0, none⟩ 1 1 [.int .i64 (ix : Int)] rfl rfl (cell_one_new _ _ _) (by simp [Value.oneCell']) (by unfold maxLen; omega) (by omega) (by simp; omega) ?_; intro v9 w9 hown9 hgrow9 _ hat9; have HI9 := hid0 (InJ.put (x := ix) HI8.out HRl.out.symm hown9 hgrow9 hat9); clear hown9 hgrow9 hat9))
                  have HI10 : Hid (InJ w wi w9 M (.slice aX lX cX) (.slice aY lY cY) (.slice aA len cA) (.slice (some ⟨gA2, 0, none⟩) lc cA2) v9 (rowR (rs.map toPt) a r.all (c + 1)).1 (rowR (rs.map toPt) a r.all (c + 1)).2) := hid0 (by rw [HRc.out]; exact HI9.out)
                  go_roundw
                  case rel => exact ⟨c + 1, by omega, by go_num, HI10⟩
                  case measure => simp [intOf]; omega
                · have HV : Hid (fndI AL S = -1) := hid0 (by unfold fndI; rw [if_neg hm])
                  rw [if_neg hm, ← HLc.out] at HRc
                  rw [HV.out] at HFd
                  clear HV hm
                  obtain ⟨iS, hS', hs0, hs1, hs2⟩ := info_parts infoSt
                  go_upto_region 26 with (first
                    | (go_at_call 40; go_loud ((
                      refine HFd.out.mono ?_
                      rintro e w8 ⟨rfl, hB9⟩
                      have HI8 := hid0 (HI7.out.past hB9.out)
                      have HRow : Hid (w8.ownsRow wi.heap.size 3 1 u15 c ((nI RW).map (Value.int .i64))) := hid0 (by have h := HI8.out.row; unfold OwnI at h; rw [HRl.out] at h; exact h)
                      have hsz := HI8.out.only.size
                      obtain ⟨y0, y1, _⟩ := row2s ((hB9.out.block _ (Array.getElem?_eq_some_iff.1 HX7.out).1).trans HX7.out)
                      have HRf8 : Hid (RwF w8 (fun k => (PR M (.slice aX lX cX) (.slice aY lY cY) u15 k ∨ (Value.slice (some ⟨gA2, 0, none⟩) lc cA2).ownBlock = some k)) aN (S.1.map nI)) := hid0 (HRf7.out.keep hB9.out.size (fun k hk _ => hB9.out.block k hk) (fun k _ q => q)))))
                    | (at_builtin; go_loud ((
                        obtain ⟨VS, k1, k2⟩ := HI8.out.sts.own
                        have K1 : Hid (w8.ownsRow w.heap.size 76 2 (.slice (some ⟨gA2, 0, none⟩) lc cA2) lc VS) := hid0 (by have h := k1; rw [← HLc.out] at h; exact h)
                        have hsw := (HI8.out.bel HB.out).size
                        refine wpList_append_own_at _ rfl _ _ 77 rfl w.heap.size 76 iS (.agg #[.slice none 0 0, .bool false]) 2 32 Tryd.underlying77 hS' hs0 hs1 hs2 rfl (by decide) (.slice (some ⟨gA2, 0, none⟩) lc cA2) lc VS rfl (World.ownsRow.alloc K1.out _) ⟨w8.heap.size, 0, none⟩ 1 1 [.slice aN n cN, .bool true] rfl rfl (cell2_new _ _ _ _) (by simp [Value.oneCell']) (by unfold maxLen; omega) (by omega) (by simp; omega) ?_
                        intro va wa howna hgrowa _ hata
                        have HIa := hid0 (InJ.add (s := S) HI8.out k1 k2 HRf8.out (by rw [HSr.out.1, HSr.out.2.1, ← HLc.out]; exact howna) hgrowa hata)
                        clear k1 k2 howna hgrowa hata))))
                  have HRowa : Hid (wa.ownsRow wi.heap.size 3 1 u15 c ((nI RW).map (Value.int .i64))) := hid0 (by have h := HIa.out.row; unfold OwnI at h; rw [HRl.out] at h; exact h)
                  have hsza := HIa.out.only.size
                  go_wp2_with (at_builtin; refine wpList_append_own_at _ rfl _ _ 34 rfl wi.heap.size 3 i0 (.int .i64 0) 1 8 Tryd.underlying34 hi' hz0 hz1 hz2 rfl (by decide) _ c ((nI RW).map (Value.int .i64)) rfl (World.ownsRow.alloc HRowa.out _) ⟨wa.heap.size, 0, none⟩ 1 1 [.int .i64 (lc : Int)] rfl rfl (cell_one_new _ _ _) (by simp [Value.oneCell']) (by unfold maxLen; omega) (by omega) (by simp; omega) ?_; intro v9 w9 hown9 hgrow9 _ hat9; have HI9 := hid0 (InJ.put (x := lc) HIa.out HRl.out.symm hown9 hgrow9 hat9); clear hown9 hgrow9 hat9)
                  have HI10 : Hid (InJ w wi w9 M (.slice aX lX cX) (.slice aY lY cY) (.slice aA len cA) va v9 (rowR (rs.map toPt) a r.all (c + 1)).1 (rowR (rs.map toPt) a r.all (c + 1)).2) := hid0 (by rw [HRc.out]; exact HI9.out)
                  go_roundw
                  case rel => exact ⟨c + 1, by omega, by go_num, HI10⟩
                  case measure => simp [intOf]; omega
              · have hcI : ¬ (c : Int) < (sy : Int) := by omega
                have hcs : c = sy := by omega
                have HBi := hid0 (HI.out.bdi HB.out)
                have HRWl : Hid (AL = (rowR (rs.map toPt) a r.all sy).1 ∧ RW = (rowR (rs.map toPt) a r.all sy).2) := hid0 (by rw [← hcs]; exact ⟨hAL, hRW⟩)
                have hpre : ∃ e, AL = r.all ++ e := by
                  obtain ⟨e, he⟩ := rowR_pre (rs.map toPt) a r.all 0 c
                  rw [Nat.zero_add] at he
                  exact ⟨e, by rw [hAL]; exact he⟩
                have hic : i < lc := by
                  obtain ⟨e, he⟩ := hpre
                  rw [hlc, he, List.length_append, ← HLe.out]
                  omega
                have HAi : Hid (∀ h : i < AL.length, AL[i] = a) := hid0 (fun h => by
                  obtain ⟨e, he⟩ := hpre
                  have h2 := HA.out.1
                  have : AL[i]? = some a := by rw [he, List.getElem?_append_left (by rw [← HLe.out]; exact hlt)]; exact h2
                  rw [List.getElem?_eq_getElem h] at this
                  exact Option.some.inj this)
                have hiI2 : (i : Int) < (lc : Int) := by omega
                obtain ⟨gA2, cA2, eA, _⟩ := HI.out.sts.alld (by rw [← hlc]; omega)
                rw [← hlc] at eA
                obtain ⟨aR, cR, eR⟩ := own_sl (show World.ownsRow _ _ _ _ _ _ _ from HI.out.row)
                rw [HRl.out, hcs] at eR
                subst eA
                subst eR
                obtain ⟨m0, m1, m2, mf⟩ := row3f HBi.out.1.ma.box
                obtain ⟨i0, hi', hz0, hz1, hz2⟩ := info_parts infoIntsM
                have hsw := HBi.out.1.bel.size
                have hsc := HBi.out.1.le
                clear hAL hRW hlens hlc hpre HI hcI hcs hc
                go_upto_region 28 with (at_builtin; go_loud ((
                  refine wpList_append_own_at _ rfl _ _ 26 rfl w.heap.size 34 i0 (.slice none 0 0) 1 24 Tryd.underlying26 hi' hz0 hz1 hz2 rfl (by decide) (.slice aX lX cX) lX NX rfl (World.ownsRow.alloc (show wr.ownsRow _ _ _ _ _ _ from (by have h := HBi.out.1.ma.nx.outer; rw [← HXY.out.1] at h; exact h)) _) ⟨wr.heap.size, 0, none⟩ 1 1 [.slice aR sy cR] rfl rfl (cell_one_new _ _ _) (by simp [Value.oneCell']) (by unfold maxLen; omega) (by omega) (by simp; omega) ?_
                  intro v6 w6 hown6 hgrow6 _ hat6
                  obtain ⟨a6, c6, e6⟩ := own_sl hown6
                  subst e6
                  obtain ⟨rb, rm⟩ := HBi.out.1.addN HBi.out.2 HXY.out.1 hown6 hgrow6 hat6
                  obtain ⟨g0, g1, g2, gf⟩ := row3f rb
                  obtain ⟨W6, hW6⟩ : ∃ W6, w6.setCell ⟨M, 1, none⟩ (.slice a6 (lX + 1) c6) = W6 := ⟨_, rfl⟩
                  rw [hW6] at rm
                  have HM6 := hid0 rm
                  clear rb rm hown6 hgrow6 hat6)))
                (try clear g0 g1 g2 gf)
                (try clear m0 m1 m2 mf)
                have HAll : Hid (AllD W6 (some ⟨gA2, 0, none⟩) AL) := hid0 (by
                  obtain ⟨g', c', e', hAll⟩ := HM6.out.sts.alld (by show 0 < AL.length; rw [← HLc.out]; omega)
                  injection e' with e1 _ _
                  injection e1 with e1
                  injection e1 with e1
                  subst e1
                  exact hAll)
                obtain ⟨b, off, eb, _, aT, cT, d1, d2, i1⟩ := HAll.out.at' i (by rw [← HLc.out]; omega)
                injection eb with eb
                injection eb with eb1 eb2 _
                subst eb1
                subst eb2
                rw [Nat.zero_add] at d1 d2
                rw [HAi.out] at d1 d2 i1
                have han : a.1.length = n := by rw [HN.out]; exact HA.out.2.len
                obtain ⟨bg, hbg⟩ : ∃ x, x = a.2 := ⟨_, rfl⟩
                obtain ⟨lo, hlo⟩ : ∃ x, x = (nI (outR (rs.map toPt) a)).length := ⟨_, rfl⟩
                have HLo : Hid (lo = (outR (rs.map toPt) a).length) := hid0 (by rw [hlo, nI_len])
                have hlon : lo ≤ n := by
                  have e := outI_R HOk.out a.1 a.2
                  rw [show (a.1, a.2) = a from rfl] at e
                  have := outI_len rs a.1 a.2 rs.length
                  rw [HLo.out, ← e, HN.out]
                  exact this
                have HOut : Hid (Calls Tryd.prog 41 #[.slice aP n cP, .agg #[.slice aT n cT, .bool bg]] W6 fun e w' => ∃ v, e = .returned v ∧ OwnI w' W6.heap.size v (nI (outR (rs.map toPt) a)) ∧ Hid (Below W6.heap.size W6 w')) := hid0 (by
                  have h := outD_any aP aT cP cT rs a.1 a.2 W6 (HP.out.past HM6.out.bel) i1 HA.out.2.len (by rw [← HN.out]; exact hrl) HA.out.2.few
                  rw [outI_R HOk.out a.1 a.2, show (a.1, a.2) = a from rfl, han, ← hbg, ← HN.out] at h
                  exact h)
                rw [han] at d1
                rw [← hbg] at d2
                have HLo2 := hid0 hlo
                clear i1 han hbg hlo HAll
                go_upto_region 30 with (first
                  | (go_at_call 41; go_loud ((
                      refine HOut.out.mono ?_
                      rintro e w7 ⟨vo, rfl, hO7, hB7⟩
                      obtain ⟨ao, co, eo⟩ := own_sl (show World.ownsRow _ _ _ _ _ _ _ from hO7)
                      rw [← HLo2.out] at eo
                      subst eo
                      have HM7 := hid0 (HM6.out.past hB7.out)
                      have HO7 : Hid (OwnI w7 w.heap.size (.slice ao lo co) (nI (outR (rs.map toPt) a))) := hid0 (owns_lower hO7 HM6.out.bel.size)
                      obtain ⟨m0, m1, m2, mf⟩ := row3f HM7.out.ma.box
                      have hsw7 := HM7.out.bel.size
                      clear hO7)))
                  | (at_builtin; go_loud ((
                      refine wpList_append_own_at _ rfl _ _ 26 rfl w.heap.size 34 i0 (.slice none 0 0) 1 24 Tryd.underlying26 hi' hz0 hz1 hz2 rfl (by decide) (.slice aY lY cY) lY OU rfl (World.ownsRow.alloc (show w7.ownsRow _ _ _ _ _ _ from (by have h := HM7.out.ma.ou.outer; rw [← HXY.out.2] at h; exact h)) _) ⟨w7.heap.size, 0, none⟩ 1 1 [.slice ao lo co] rfl rfl (cell_one_new _ _ _) (by simp [Value.oneCell']) (by unfold maxLen; omega) (by omega) (by simp; omega) ?_
                      intro v8 w8 hown8 hgrow8 _ hat8
                      obtain ⟨a8, c8, e8⟩ := own_sl hown8
                      subst e8
                      obtain ⟨rb, rm⟩ := HM7.out.addO (r.n + lo) HO7.out HXY.out.2 hown8 hgrow8 hat8
                      obtain ⟨g0, g1, g2, gf⟩ := row3f rb
                      obtain ⟨W8, hW8⟩ : ∃ W8, w8.setCell ⟨M, 2, none⟩ (.slice a8 (lY + 1) c8) = W8 := ⟨_, rfl⟩
                      rw [hW8] at rm
                      have HM8 := hid0 rm
                      clear rb rm hown8 hgrow8 hat8))))
                by_cases hov : 4194304 < r.n + lo
                · have hovI : (r.n : Int) + (lo : Int) > 4194304 := by omega
                  have HV : Hid (bldR (rs.map toPt) sy most = none) := hid0 (bld_refuse him HJ.out.run HA.out.1 (.inr (by rw [← HLo.out]; exact hov)))
                  obtain ⟨v1, v2, v3, hl⟩ := laidM (.int .i64 0) (.slice none 0 0) (.slice none 0 0) HM8.out.res
                  have HF : Hid (Below w.heap.size w v3) := hid0 (HM8.out.bel.trans (hl.only.below HM8.out.bel.size (fun k hk => by rw [hk]; exact Nat.le_refl _)))
                  clear hov d1 d2
                  have g1 := hl.g1
                  have g2 := hl.g2
                  have g3 := hl.g3
                  obtain ⟨z0, z1, z2⟩ := hl.z
                  have a1 := hl.a1
                  have a2 := hl.a2
                  have f0 := hl.f0
                  have f1 := hl.f1
                  have f2 := hl.f2
                  have HC := hid0 hl.c
                  clear hl
                  go_wp2
                  obtain ⟨c0, c1, c2⟩ := HC.out
                  (try simp only [Exit.inBlock, Exit.then])
                  refine bodyPost_ret (by simp [results, Tryd.results18, go_sem, c0, c1, c2]; try rfl) rfl ?_
                  unfold BdD
                  rw [HV.out]
                  exact ⟨HF.out, rfl⟩
                · have hovI : ¬ (r.n : Int) + (lo : Int) > 4194304 := by omega
                  have HJ2 : Hid (RunJ rs sy most (i + 1) ⟨AL, r.nx ++ [RW], r.ou ++ [outR (rs.map toPt) a], r.n + lo⟩) := hid0 (by
                    have h := runJ_step HOk.out hsy hm HJ.out HA.out.1 HNf.out (by rw [← HLo.out]; exact hov)
                    rw [← HRWl.out.1, ← HRWl.out.2, ← HLo.out] at h
                    exact h)
                  have hilc : i + 1 ≤ (⟨AL, r.nx ++ [RW], r.ou ++ [outR (rs.map toPt) a], r.n + lo⟩ : Rs).all.length := by
                    show i + 1 ≤ AL.length
                    rw [← HLc.out]
                    omega
                  clear d1 d2
                  go_wp2
                  go_roundw
                  case rel => exact ⟨i + 1, ⟨AL, r.nx ++ [RW], r.ou ++ [outR (rs.map toPt) a], r.n + lo⟩, _, _, _, _, by omega, hilc, by go_num, by first | rfl | go_num | simp, HJ2, HM8⟩
                  case measure => simp [intOf]; omega
        · have hiI : ¬ (i : Int) < (len : Int) := by omega
          have HDn : Hid (bldR (rs.map toPt) sy most = if r.full sy most then none else some (r.nx, r.ou)) := hid0 (bld_done him HJ.out.run (by rw [← HLe.out]; omega))
          by_cases hf : most < len ∨ 4194304 < ml
          · have HV : Hid (bldR (rs.map toPt) sy most = none) := hid0 (by rw [HDn.out, if_pos (by unfold Rs.full; rw [← HLe.out, ← HMl.out]; exact hf)])
            obtain ⟨v1, v2, v3, hl⟩ := laidM (.int .i64 0) (.slice none 0 0) (.slice none 0 0) HB.out.res
            have HF : Hid (Below w.heap.size w v3) := hid0 (HB.out.bel.trans (hl.only.below HB.out.bel.size (fun k hk => by rw [hk]; exact Nat.le_refl _)))
            clear HDn
            by_cases h1 : most < len
            · exact absurd him (by omega)
            · have h1I : ¬ (len : Int) > (most : Int) := by omega
              have h2I : (ml : Int) > 4194304 := by omega
              clear h1 hf
              have g1 := hl.g1
              have g2 := hl.g2
              have g3 := hl.g3
              obtain ⟨z0, z1, z2⟩ := hl.z
              have a1 := hl.a1
              have a2 := hl.a2
              have f0 := hl.f0
              have f1 := hl.f1
              have f2 := hl.f2
              have HC := hid0 hl.c
              clear hl
              go_wp2
              obtain ⟨c0, c1, c2⟩ := HC.out
              (try simp only [Exit.inBlock, Exit.then])
              refine bodyPost_ret (by simp [results, Tryd.results18, go_sem, c0, c1, c2]; try rfl) rfl ?_
              unfold BdD
              rw [HV.out]
              exact ⟨HF.out, rfl⟩
          · have HV : Hid (bldR (rs.map toPt) sy most = some (r.nx, r.ou)) := hid0 (by rw [HDn.out, if_neg (by unfold Rs.full; rw [← HLe.out, ← HMl.out]; exact hf)])
            have h1I : ¬ (len : Int) > (most : Int) := by omega
            have h2I : ¬ (ml : Int) > 4194304 := by omega
            obtain ⟨m0, m1, m2⟩ := row3c HB.out.ma.box
            obtain ⟨v1, v2, v3, hl⟩ := laidM (.int .i64 0) (.slice aX lX cX) (.slice aY lY cY) HB.out.res
            have HF : Hid (Below w.heap.size w v3 ∧ RwsM v3 w.heap.size (.slice aX lX cX) NX r.nx ∧ RwsM v3 w.heap.size (.slice aY lY cY) OU r.ou ∧ Apt (.slice aX lX cX) (.slice aY lY cY)) := hid0 ⟨HB.out.bel.trans (hl.only.below HB.out.bel.size (fun k hk => by rw [hk]; exact Nat.le_refl _)), by
              have hk : KeB [28] wi v3 := KeB.only hl.only (fun k hk _ => by rw [hk]; exact ⟨_, _, _, HB.out.res, by simp⟩)
              exact ⟨HB.out.ma.nx.keB hk (by decide) (by decide), HB.out.ma.ou.keB hk (by decide) (by decide), HB.out.ma.apt⟩⟩
            have g1 := hl.g1
            have g2 := hl.g2
            have g3 := hl.g3
            obtain ⟨z0, z1, z2⟩ := hl.z
            have a1 := hl.a1
            have a2 := hl.a2
            have f0 := hl.f0
            have f1 := hl.f1
            have f2 := hl.f2
            have HC := hid0 hl.c
            clear hl HDn
            go_wp2
            obtain ⟨c0, c1, c2⟩ := HC.out
            (try simp only [Exit.inBlock, Exit.then])
            refine bodyPost_ret (by simp [results, Tryd.results18, go_sem, c0, c1, c2]; try rfl) rfl ?_
            unfold BdD
            rw [HV.out]
            exact ⟨HF.out.1, _, _, NX, OU, rfl, HF.out.2⟩
end Go.Proofs.YtbbejfkgopcjoaaDoor
