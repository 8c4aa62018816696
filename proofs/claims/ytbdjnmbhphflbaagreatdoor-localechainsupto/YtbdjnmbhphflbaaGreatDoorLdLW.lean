/-
  caesuralaw7.LocaleChains at whatever bundle and tag (up to a bound).
-/
import Derived.Test.YtbdjnmbhphflbaaGreatDoorLdLM
namespace Go.Proofs.YtbdjnmbhphflbaaGreatDoor
open Go.RowKit Go.Shelf Go.Lib
/-- What the calls read besides. -/
structure Env (A : Nat → Addr) (w : World) : Prop where
  mx : Mx w
  tb : Tb w
  sq : SeqAt w
  se : Sents w A
theorem Env.below {A : Nat → Addr} {w w' : World} (h : Env A w) (hb : Below w.heap.size w w') : Env A w' := ⟨h.mx.below hb, h.tb.below hb, h.sq.later hb, h.se.below hb⟩
theorem bun_cell {W : World} {B : Nat} {x : Value} (h : W.heap[B]? = some (.cells #[x] 24 (0, 0))) : W.cell? ⟨B, 0, none⟩ = some x := by rw [cell_of_row _ _ _ _ _ _ h]; rfl
set_option maxRecDepth 10000 in
set_option maxHeartbeats 3200000 in
theorem localeChains_any (A : Nat → Addr) (L : List Sec) (a : Option Addr) (c : Nat) (t : ByteArray) (w : World) (hl : L.length ≤ 1000000) (hb : ∀ s ∈ L, s.ed.length ≤ 1000000000) (hz : ∀ s ∈ L, ∀ e ∈ s.ed, e.2.size ≤ 4194400) (hE : Env A w) (ha : XB w a L) :
    Calls Tryz.prog 6 #[.agg #[.slice a L.length c, .string t]] w fun e w' => e = .returned (.bool true) ∧ Below w.heap.size w w' := by
  obtain ⟨w0, hw0⟩ : ∃ w0, w0 = w.alloc (.cells #[.slice a L.length c, .string t] 47) := ⟨_, rfl⟩
  have hs0 : w0.heap.size = w.heap.size + 1 := by rw [hw0]; simp
  have hB0 : Below w.heap.size w w0 := by rw [hw0]; exact (Below.refl _ _).alloc (Nat.le_refl _) _
  have hX0 : w0.heap[w.heap.size]? = some (.cells #[.slice a L.length c, .string t] 47 (0, 0)) := by rw [hw0]; exact heap_alloc_new w _
  have HX : Hid (∀ W, Below w0.heap.size w0 W → W.cell? ⟨w.heap.size, 0, none⟩ = some (.slice a L.length c) ∧ W.cell? ⟨w.heap.size, 1, none⟩ = some (.string t)) := hid0 (fun W hW => by
    have hr := (hW.block w.heap.size (by omega)).trans hX0
    exact ⟨by rw [cell_of_row _ _ _ _ _ _ hr]; rfl, by rw [cell_of_row _ _ _ _ _ _ hr]; rfl⟩)
  obtain ⟨x0, x1⟩ := HX.out w0 (Below.refl _ _)
  have HE : Hid (∀ W, Below w0.heap.size w0 W → Env A W) := hid0 (fun W hW => (hE.below hB0).below hW)
  have HXA : Hid (∀ W, Below w0.heap.size w0 W → XA W a L) := hid0 (fun W hW => ((ha.later hB0).later hW).xa)
  have HO := hid0 (own_any L a c w0 hl hb (ha.later hB0))
  have HBD := hid0 hb
  have HZD := hid0 hz
  have HBC : Hid (∀ s ∈ L, s.ed.length ≤ 140737488355328) := hid0 (fun s hs => Nat.le_trans (hb s hs) (by decide))
  have HZC : Hid (∀ s ∈ L, ∀ e ∈ s.ed, e.2.size ≤ 140737488355328) := hid0 (fun s hs e he => Nat.le_trans (hz s hs e he) (by decide))
  have HR1 := hid0 (chainF_ok L t)
  have HB0 := hid0 hB0
  have HS0 := hid0 hs0
  have hfold := hw0.symm
  clear hw0 hs0 hB0 hX0 hE ha hb hz
  have M0 : Hid True := trivial
  go_enter Tryz.func6, Tryz.ntmps6
  go_wp2_with (first
    | (go_at_call 21; clear M0
       refine HO.out.mono ?_
       rintro e w1 ⟨g, cap, S, rfl, hcap, hS, hG, hb1⟩
       obtain ⟨y0, y1⟩ := HX.out w1 hb1
       obtain ⟨wk, hwk⟩ : ∃ wk, wk = w1.alloc (.cells #[.slice (some ⟨g, 0, none⟩) L.length cap] 24) := ⟨_, rfl⟩
       have c1 : (w1.alloc (.cells #[.slice (some ⟨g, 0, none⟩) L.length cap] 24)).cell? ⟨w.heap.size, 1, none⟩ = some (.string t) := cell_al y1 _
       have hbk : Below w0.heap.size w0 wk := by rw [hwk]; exact hb1.alloc hb1.size _
       have hsk : wk.heap.size = w1.heap.size + 1 := by rw [hwk]; simp
       have hXk : wk.heap[w1.heap.size]? = some (.cells #[.slice (some ⟨g, 0, none⟩) L.length cap] 24 (0, 0)) := by rw [hwk]; exact heap_alloc_new w1 _
       have HT : Hid (∀ W : World, W.heap[w1.heap.size]? = wk.heap[w1.heap.size]? → W.cell? ⟨w1.heap.size, 0, none⟩ = some (.slice (some ⟨g, 0, none⟩) L.length cap)) := hid0 (fun W hW => bun_cell (hW.trans hXk))
       have HG : Hid (Giv wk w0.heap.size (.slice (some ⟨g, 0, none⟩) (L.length + 64) cap) S 64) := hid0 (hG.keep (fun q _ hq => by rw [hwk]; exact Below.heap_alloc w1 _ q hq))
       have HGl : Hid (w0.heap.size ≤ g ∧ g < w1.heap.size) := hid0 ⟨(World.ownsRow.lt hG.row g rfl).1, (World.ownsRow.lt hG.row g rfl).2⟩
       have HS := hid0 hS
       have HSl : Hid (S.length = L.length) := hid0 (by have h := congrArg List.length hS; rw [List.length_map] at h; exact h)
       have HBK := hid0 hbk
       have HSK := hid0 hsk
       have HWK := hid0 hwk.symm
       have M1 : Hid True := trivial
       clear hG hS hb1 hwk hbk hsk hXk y0 y1)
    | (go_at_call 9; clear M1
       rw [HWK.out]
       have hE1 := HE.out wk HBK.out
       have hxa := HG.out.xa (by have := HSl.out; omega)
       rw [HS.out] at hxa
       refine (chain_any A L (some ⟨g, 0, none⟩) cap t wk (by omega) HBC.out HZC.out hE1.mx hE1.tb hE1.sq hE1.se hxa).mono ?_
       rintro e w2 ⟨hgo, hb2⟩
       obtain ⟨a1, k1, rfl, hs1⟩ := goChain_lst hgo
       obtain ⟨y0, y1⟩ := HX.out w2 (Below.later HBK.out hb2)
       have t0 := HT.out w2 (hb2.block _ (by have := HSK.out; omega))
       have HB2 := hid0 hb2
       have HS1 := hid0 hs1
       have M2 : Hid True := trivial
       clear hb2 hgo hs1 c1 x0 x1 hfold hE1 hxa)
    | (go_at_call 22; clear M2
       refine (refChain_any L a c t w2 hl HBD.out HZD.out (HXA.out w2 (Below.later HBK.out HB2.out))).mono ?_
       rintro e w3 ⟨hgo, hb3'⟩
       obtain ⟨a2, k2, rfl, hs2⟩ := refChain_lst hgo
       have hb3 := Below.later HB2.out hb3'
       obtain ⟨z0, z1⟩ := HX.out w3 (Below.later HBK.out hb3)
       have u0 := HT.out w3 (hb3.block _ (by have := HSK.out; omega))
       have HB3 := hid0 hb3
       have HS1' := hid0 (HS1.out.below hb3')
       have HS2 := hid0 hs2
       have M3 : Hid True := trivial
       clear hb3 hb3' hgo hs2 HB2 HS1 y0 y1 t0)
    | (go_at_call 12; clear M3
       refine (sameS (lstR (chainF L t)) a1 a2 k1 k2 w3 (by have := HR1.out.2; omega) HS1'.out HS2.out).mono ?_
       rintro e w4 ⟨rfl, n4, rfl⟩
       have hb4 : Below wk.heap.size wk (w3.drewN n4) := below_drew' HB3.out n4
       obtain ⟨y0, y1⟩ := HX.out _ (Below.later HBK.out hb4)
       have t0 := HT.out _ (hb4.block _ (by have := HSK.out; omega))
       have HB4 := hid0 hb4
       have M4 : Hid True := trivial
       clear hb4 HB3 HS1' HS2 z0 z1 u0)
    | (go_at_call 23; clear M4
       refine (kept_any L S a c g cap w0.heap.size (w3.drewN n4) hl HBD.out hcap HS.out (HG.out.keep (fun q _ hq => HB4.out.block q hq)) (HXA.out _ (Below.later HBK.out HB4.out))).mono ?_
       rintro e w5 ⟨rfl, hb5'⟩
       have hb5 := Below.later HB4.out hb5'
       obtain ⟨z0, z1⟩ := HX.out w5 (Below.later HBK.out hb5)
       have u0 := HT.out w5 (hb5.block _ (by have := HSK.out; omega))
       have HB5 := hid0 hb5
       have M5 : Hid True := trivial
       clear hb5 hb5' HB4 y0 y1 t0)
    | (go_at_call 14; clear M5
       refine (num_r (HE.out w5 (Below.later HBK.out HB5.out)).se (chainF L t) HR1.out.1).mono ?_
       rintro e w6 ⟨rfl, hw6⟩
       have hw6' := hw6.symm
       subst hw6'
       generalize numR (chainF L t) = nr at *
       have hnr : (nr != nr) = false := by simp
       have M6 : Hid True := trivial
       clear hw6))
  have HSt : Hid (S.map (·.s) = (L.take 0).map clr ++ L.drop 0) := hid0 (by rw [HS.out]; simp)
  have HG5 := hid0 (HG.out.keep (w' := w5) (fun q _ hq => HB5.out.block q hq))
  have HW5 := hid0 (Below.later HBK.out HB5.out)
  have HK5 : Hid (w5.heap[w1.heap.size]? = wk.heap[w1.heap.size]?) := hid0 (HB5.out.block _ (by have := HSK.out; omega))
  clear z0 z1 u0
  go_loopw [10] (fun i wr => ∃ (k : Nat) (S' : List SecAt), k ≤ L.length ∧ i = .int .i64 (k : Int) ∧ Hid (S'.map (·.s) = (L.take k).map clr ++ L.drop k) ∧ Hid (Giv wr w0.heap.size (.slice (some ⟨g, 0, none⟩) (L.length + 64) cap) S' 64) ∧ Hid (Below w0.heap.size w0 wr) ∧ Hid (wr.heap[w1.heap.size]? = wk.heap[w1.heap.size]?)) (fun i _ => L.length - (intOf i).toNat)
  case atStart => exact ⟨0, S, Nat.zero_le _, rfl, HSt, HG5, HW5, HK5⟩
  case round =>
    clear HSt HG5 HW5 HK5
    obtain ⟨k, S', hk, rfl, HSt, HGr, HWr, HKr⟩ := hrel
    have hSl : S'.length = L.length := by
      have h := congrArg List.length HSt.out
      simp only [List.length_map, List.length_append, List.length_take, List.length_drop] at h
      omega
    have t0 := HT.out wr HKr.out
    obtain ⟨z0, z1⟩ := HX.out wr HWr.out
    by_cases hlt : k < L.length
    · have hkI : (k : Int) < (L.length : Int) := by omega
      have hkI0 : (0 : Int) ≤ (k : Int) := by omega
      have hkS : k < S'.length := by omega
      obtain ⟨p0, p1⟩ := HGr.out.parCell (by omega) k hkS
      have HSN := hid0 (clr_step L k hlt S' HSt.out hkS)
      have HGN := hid0 (HGr.out.par (by omega) k hkS)
      have hgl := HGl.out
      have HWN : Hid (Below w0.heap.size w0 (wr.setCell ⟨g, k * 3 + 1, none⟩ (.string ⟨#[]⟩))) := hid0 (HWr.out.setCell hgl.1 _)
      have HKN : Hid ((wr.setCell ⟨g, k * 3 + 1, none⟩ (.string ⟨#[]⟩)).heap[w1.heap.size]? = wk.heap[w1.heap.size]?) := hid0 ((Below.heap_setCell wr _ _ w1.heap.size (by simp; omega)).trans HKr.out)
      clear hSl hgl HSt HGr HWr HKr z0 z1
      go_wp2
      go_roundw
      case rel => exact ⟨k + 1, _, by omega, by go_num, HSN, HGN, HWN, HKN⟩
      case measure => simp [intOf]; omega
    · have hkI : ¬ (k : Int) < (L.length : Int) := by omega
      have hS' : S'.map (·.s) = L.map clr := by
        have h := HSt.out
        rw [List.take_of_length_le (by omega), List.drop_eq_nil_of_le (by omega), List.append_nil] at h
        exact h
      have hxa := HGr.out.xa (by omega)
      rw [hS'] at hxa
      have HXr := hid0 hxa
      have HLm : Hid ((L.map clr).length = L.length) := hid0 (by simp)
      have HBD' : Hid (∀ s ∈ L.map clr, s.ed.length ≤ 1000000000) := hid0 (fun s hs => by obtain ⟨y, hy, rfl⟩ := List.mem_map.1 hs; exact HBD.out y hy)
      have HZD' : Hid (∀ s ∈ L.map clr, ∀ e ∈ s.ed, e.2.size ≤ 4194400) := hid0 (fun s hs => by obtain ⟨y, hy, rfl⟩ := List.mem_map.1 hs; exact HZD.out y hy)
      have HBC' : Hid (∀ s ∈ L.map clr, s.ed.length ≤ 140737488355328) := hid0 (fun s hs => by obtain ⟨y, hy, rfl⟩ := List.mem_map.1 hs; exact HBC.out y hy)
      have HZC' : Hid (∀ s ∈ L.map clr, ∀ e ∈ s.ed, e.2.size ≤ 140737488355328) := hid0 (fun s hs => by obtain ⟨y, hy, rfl⟩ := List.mem_map.1 hs; exact HZC.out y hy)
      have HR2 := hid0 (chainF_ok (L.map clr) t)
      have HC1 : Hid (Calls Tryz.prog 22 #[.agg #[.slice (some ⟨g, 0, none⟩) L.length cap], .string t] wr fun e w' => RefChain wr.heap.size w' (chainF (L.map clr) t) e ∧ Below wr.heap.size wr w') := hid0 (by
        have h := refChain_any (L.map clr) (some ⟨g, 0, none⟩) cap t wr (by rw [HLm.out]; exact hl) HBD'.out HZD'.out hxa
        rw [HLm.out] at h
        exact h)
      have HC2 : Hid (∀ W, Below wr.heap.size wr W → Calls Tryz.prog 9 #[.agg #[.slice (some ⟨g, 0, none⟩) L.length cap], .string t] W fun e w' => GoChain A W.heap.size w' (chainF (L.map clr) t) e ∧ Below W.heap.size W w') := hid0 (fun W hW => by
        have hE1 := HE.out W (Below.later HWr.out hW)
        have h := chain_any A (L.map clr) (some ⟨g, 0, none⟩) cap t W (by rw [HLm.out]; omega) HBC'.out HZC'.out hE1.mx hE1.tb hE1.sq hE1.se (HXr.out.later hW)
        rw [HLm.out] at h
        exact h)
      have HKl : Hid (w1.heap.size < wr.heap.size) := hid0 (World.block_lt_of_cell? wr _ t0)
      clear hS' hxa hSl HXr HSt HGr
      generalize chainF (L.map clr) t = r2 at *
      have M7 : Hid True := trivial
      go_wp2_with (first
        | (go_at_call 22; clear M7
           refine HC1.out.mono ?_
           rintro e w7 ⟨hgo, hb7⟩
           obtain ⟨a3, k3, rfl, hs3⟩ := refChain_lst hgo
           obtain ⟨y0, y1⟩ := HX.out w7 (Below.later HWr.out hb7)
           have u0 := HT.out w7 ((hb7.block _ HKl.out).trans HKr.out)
           have HB7 := hid0 hb7
           have HS3 := hid0 hs3
           have M8 : Hid True := trivial
           clear hb7 hgo hs3 z0 z1 t0)
        | (go_at_call 9; clear M8
           refine (HC2.out w7 HB7.out).mono ?_
           rintro e w8 ⟨hgo, hb8'⟩
           obtain ⟨a4, k4, rfl, hs4⟩ := goChain_lst hgo
           have hb8 := Below.later HB7.out hb8'
           have HB8 := hid0 hb8
           have HS3' := hid0 (HS3.out.below hb8')
           have HS4 := hid0 hs4
           have M9 : Hid True := trivial
           clear hb8 hb8' hgo hs4 HS3 y0 y1 u0)
        | (go_at_call 12; clear M9
           refine (sameS (lstR r2) a4 a3 k4 k3 w8 (by have := HR2.out.2; omega) HS4.out HS3'.out).mono ?_
           rintro e w9 ⟨rfl, n9, rfl⟩
           have HB9 := hid0 (below_drew' (Below.later HWr.out HB8.out) n9)
           have MA : Hid True := trivial
           clear HS4 HS3')
        | (go_at_call 14; clear MA
           refine (num_r (HE.out _ HB9.out).se r2 HR2.out.1).mono ?_
           rintro e wA ⟨rfl, hwA⟩
           have hwA' := hwA.symm
           subst hwA'
           generalize numR r2 = nr2 at *
           have hnr2 : (nr2 == nr2) = true := by simp
           have HBE := hid0 (Below.later HB0.out HB9.out)
           clear hwA))
      go_ret
      exact ⟨by simp, HBE.out⟩
end Go.Proofs.YtbdjnmbhphflbaaGreatDoor
