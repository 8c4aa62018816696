/-
  The walks of locale's sectionOf, parentOf.
-/
import Derived.Test.YtbdjnmbhphflbaaGreatDoorLc4W
import Derived.Test.YtbdjnmbhphflbaaGreatDoorLtDW
namespace Go.Proofs.YtbdjnmbhphflbaaGreatDoor
open Go.RowKit Go.Shelf Go.Lib
set_option maxRecDepth 10000 in
set_option maxHeartbeats 400000 in
theorem same_loc2 (l p t : ByteArray) (v : Value) (g : Nat) (w : World) (hg : w.cell? ⟨g, 0, none⟩ = some (.string t)) :
    Calls Tryz.prog 50 #[.agg #[.string l, .string p, v], .pointer (some ⟨g, 0, none⟩)] w fun e w' => e = .returned (.bool (decide (l = t))) ∧ Below w.heap.size w w' := by
  have hgl := World.block_lt_of_cell? w _ hg
  have HB : Hid (Below w.heap.size w (w.alloc (.cells #[.string l, .string p, v] 27))) := hid0 ((Below.refl _ _).alloc (Nat.le_refl _) _)
  have y0 : (w.alloc (.cells #[.string l, .string p, v] 27)).cell? ⟨g, 0, none⟩ = some (.string t) := (HB.out.cell hgl).trans hg
  have hse := str_eq l t
  generalize decide (l = t) = d at *
  go_enter Tryz.func50, Tryz.ntmps50
  go_wp2
  go_ret
  exact ⟨by simp, HB.out⟩
/-- Where the section of a locale stands. -/
def IdxIs (L : List Sec) (t : ByteArray) (r : Int) : Prop := (∃ (k : Nat) (h : k < L.length), r = (k : Int) ∧ L[k].loc = t ∧ ∀ j (h : j < L.length), j < k → L[j].loc ≠ t) ∨ (r = -1 ∧ ∀ j (h : j < L.length), L[j].loc ≠ t)
theorem idx_least (L : List Sec) (t : ByteArray) : ∀ k (h : k < L.length), L[k].loc = t → ∃ r, IdxIs L t r
  | k, h, e => by
    by_cases q : ∃ j, ∃ h : j < L.length, j < k ∧ L[j].loc = t
    · obtain ⟨j, hj, hjk, ej⟩ := q
      exact idx_least L t j hj ej
    · exact ⟨(k : Int), .inl ⟨k, h, rfl, e, fun j hj hjk ej => q ⟨j, hj, hjk, ej⟩⟩⟩
termination_by k => k
theorem idx_ex (L : List Sec) (t : ByteArray) : ∃ r, IdxIs L t r := by
  by_cases q : ∃ j, ∃ h : j < L.length, L[j].loc = t
  · obtain ⟨j, hj, ej⟩ := q
    exact idx_least L t j hj ej
  · exact ⟨-1, .inr ⟨rfl, fun j hj ej => q ⟨j, hj, ej⟩⟩⟩
theorem idx_uniq {L : List Sec} {t : ByteArray} {r r' : Int} (h : IdxIs L t r) (h' : IdxIs L t r') : r = r' := by
  rcases h with ⟨k, hk, h1, h2, h3⟩ | ⟨h1, h2⟩ <;> rcases h' with ⟨k', hk', g1, g2, g3⟩ | ⟨g1, g2⟩
  · rcases Nat.lt_trichotomy k k' with q | q | q
    · exact absurd h2 (g3 k hk q)
    · rw [h1, g1, q]
    · exact absurd g2 (h3 k' hk' q)
  · exact absurd h2 (g2 k hk)
  · exact absurd g2 (h2 k' hk')
  · rw [h1, g1]
set_option maxRecDepth 10000 in
set_option maxHeartbeats 800000 in
theorem index_sec (L : List Sec) (a : Option Addr) (ca : Nat) (t : ByteArray) (g : Nat) (w : World) (hl : L.length ≤ 1000000) (ha : XA w a L) (hg : w.cell? ⟨g, 0, none⟩ = some (.string t)) :
    Calls Tryz.prog 49 #[.slice a L.length ca, .func (.func 50) #[] #[.pointer (some ⟨g, 0, none⟩)]] w fun e w' => (∃ r : Int, e = .returned (.int .i64 r) ∧ IdxIs L t r) ∧ Below w.heap.size w w' := by
  have hgl := World.block_lt_of_cell? w _ hg
  have HG : Hid (∀ W, Below w.heap.size w W → W.cell? ⟨g, 0, none⟩ = some (.string t)) := hid0 (fun W hW => (hW.cell (p := ⟨g, 0, none⟩) hgl).trans hg)
  have HA := hid0 ha
  have HB0 := hid0 (Below.refl w.heap.size w)
  clear ha hg hgl
  go_enter Tryz.func49, Tryz.ntmps49
  go_wp2
  go_loopw [8] (fun v wr => ∃ i : Nat, i ≤ L.length ∧ v = .int .i64 (i : Int) ∧ Hid (∀ k (h : k < L.length), k < i → L[k].loc ≠ t) ∧ Hid (Below w.heap.size w wr)) (fun v _ => L.length - (intOf v).toNat)
  case atStart => exact ⟨0, Nat.zero_le _, rfl, hid0 (fun k _ h => absurd h (Nat.not_lt_zero _)), HB0⟩
  case round =>
    obtain ⟨i, hi, rfl, HN, HB⟩ := hrel
    by_cases hlt : i < L.length
    · have hiI : (i : Int) < (L.length : Int) := by omega
      have hi0 : (0 : Int) ≤ (i : Int) := by omega
      obtain ⟨b, off, ae, ce, rfl, hbl, c0, c1, c2, _⟩ := (HA.out.later HB.out).at' i hlt
      have HS := hid0 (same_loc2 L[i].loc L[i].par t (.slice ae L[i].ed.length ce) g wr (HG.out _ HB.out))
      have HD : Hid (L[i].loc = t → IdxIs L t (i : Int)) := hid0 (fun h => .inl ⟨i, hlt, rfl, h, HN.out⟩)
      have HN2 : Hid (L[i].loc ≠ t → ∀ k (h : k < L.length), k < i + 1 → L[k].loc ≠ t) := hid0 (fun hne k h hk => by
        by_cases e : k = i
        · subst e; exact hne
        · exact HN.out k h (by omega))
      generalize L[i].loc = l at *
      generalize L[i].par = p at *
      generalize L[i].ed.length = n at *
      cases hd : decide (l = t) with
      | true =>
        rw [hd] at HS
        have HV := hid0 (HD.out (of_decide_eq_true hd))
        clear HD HN2 HN hd
        go_wp2_with (go_at_call 50; refine HS.out.mono ?_; rintro e w1 ⟨rfl, hb1⟩; have HB1 := hid0 (HB.out.trans (hb1.mono HB.out.size)); clear hb1)
        go_ret
        exact ⟨⟨_, rfl, HV.out⟩, HB1.out⟩
      | false =>
        rw [hd] at HS
        have HV := hid0 (HN2.out (of_decide_eq_false hd))
        clear HD HN2 HN hd
        go_wp2_with (go_at_call 50; refine HS.out.mono ?_; rintro e w1 ⟨rfl, hb1⟩; have HB1 := hid0 (HB.out.trans (hb1.mono HB.out.size)); clear hb1)
        go_roundw
        case rel => exact ⟨i + 1, by omega, by go_num, HV, HB1⟩
        case measure => simp [intOf]; omega
    · have hiI : ¬ (i : Int) < (L.length : Int) := by omega
      have HV : Hid (IdxIs L t (-1)) := hid0 (.inr ⟨rfl, fun k hk => HN.out k hk (by omega)⟩)
      clear HN HA
      go_wp2
      go_ret
      exact ⟨⟨-1, rfl, HV.out⟩, HB.out⟩
/-- The section of a locale. -/
def secOf (L : List Sec) (t : ByteArray) : Option Sec := L.find? fun s => decide (s.loc = t)
theorem secOf_at {L : List Sec} {t : ByteArray} {k : Nat} (h : k < L.length) (e : L[k].loc = t) (hn : ∀ j (h : j < L.length), j < k → L[j].loc ≠ t) : secOf L t = some L[k] := by
  unfold secOf
  rw [List.find?_eq_some_iff_getElem]
  exact ⟨decide_eq_true e, k, h, rfl, fun j hj => by simpa using hn j (by omega) hj⟩
theorem secOf_none {L : List Sec} {t : ByteArray} (hn : ∀ j (h : j < L.length), L[j].loc ≠ t) : secOf L t = none := by
  unfold secOf
  rw [List.find?_eq_none]
  intro s hs
  obtain ⟨j, hj, rfl⟩ := List.getElem_of_mem hs
  simpa using hn j hj
/-- What sectionOf answers, in a world. -/
def SecIs (w : World) (o : Option Sec) (v : Value) : Prop := match o with
  | none => v = .agg #[.string ⟨#[]⟩, .string ⟨#[]⟩, .slice none 0 0]
  | some s => ∃ ae ce, v = .agg #[.string s.loc, .string s.par, .slice ae s.ed.length ce] ∧ EA w ae s.ed
set_option maxRecDepth 10000 in
set_option maxHeartbeats 800000 in
theorem sectionOf_any (L : List Sec) (a : Option Addr) (c : Nat) (t : ByteArray) (w : World) (hl : L.length ≤ 1000000) (ha : XA w a L) :
    Calls Tryz.prog 30 #[.agg #[.slice a L.length c], .string t] w fun e w' => (∃ v, e = .returned v ∧ SecIs w (secOf L t) v) ∧ Below w.heap.size w w' := by
  obtain ⟨wa, hwa⟩ : ∃ wa, wa = w.alloc (.cells #[.slice a L.length c] 24) := ⟨_, rfl⟩
  obtain ⟨wb, hwb⟩ : ∃ wb, wb = wa.alloc (.cells #[.string t] 9) := ⟨_, rfl⟩
  obtain ⟨wc, hwc⟩ : ∃ wc, wc = wb.alloc (.cells #[.string ⟨#[]⟩, .string ⟨#[]⟩, .slice none 0 0] 27) := ⟨_, rfl⟩
  have sa : wa.heap.size = w.heap.size + 1 := by rw [hwa]; simp
  have sb : wb.heap.size = w.heap.size + 1 + 1 := by rw [hwb]; simp [sa]
  have bab : Below wa.heap.size wa wb := by rw [hwb]; exact (Below.refl _ _).alloc (Nat.le_refl _) _
  have bbc : Below wb.heap.size wb wc := by rw [hwc]; exact (Below.refl _ _).alloc (Nat.le_refl _) _
  have b0a : Below w.heap.size w wa := by rw [hwa]; exact (Below.refl _ _).alloc (Nat.le_refl _) _
  have b0c : Below w.heap.size w wc := Below.later (Below.later b0a bab) bbc
  have r0 : wc.heap[w.heap.size]? = some (.cells #[.slice a L.length c] 24 (0, 0)) := by
    rw [bbc.block _ (by omega), bab.block _ (by omega), hwa]; exact heap_alloc_new w _
  have r1 : wc.heap[w.heap.size + 1]? = some (.cells #[.string t] 9 (0, 0)) := by
    rw [bbc.block _ (by omega), hwb, ← sa]; exact heap_alloc_new wa _
  have r2 : wc.heap[w.heap.size + 1 + 1]? = some (.cells #[.string ⟨#[]⟩, .string ⟨#[]⟩, .slice none 0 0] 27 (0, 0)) := by
    rw [hwc, ← sb]; exact heap_alloc_new wb _
  obtain ⟨r, hr⟩ := idx_ex L t
  have HIx : Hid (Calls Tryz.prog 49 #[.slice a L.length c, .func (.func 50) #[] #[.pointer (some ⟨w.heap.size + 1, 0, none⟩)]] wc fun e w' => e = .returned (.int .i64 r) ∧ Below wc.heap.size wc w') := hid0 ((index_sec L a c t (w.heap.size + 1) wc hl (ha.later b0c) (by rw [cell_of_row _ _ _ _ _ _ r1]; rfl)).mono (fun e w' h => by
    obtain ⟨⟨r', h1, h2⟩, h3⟩ := h
    exact ⟨by rw [h1, idx_uniq h2 hr], h3⟩))
  have x0 : wc.cell? ⟨w.heap.size, 0, none⟩ = some (.slice a L.length c) := by rw [cell_of_row _ _ _ _ _ _ r0]; rfl
  have HP : Hid (∀ W, Below wc.heap.size wc W → W.cell? ⟨w.heap.size, 0, none⟩ = some (.slice a L.length c) ∧ W.heap[w.heap.size + 1 + 1]? = some (.cells #[.string ⟨#[]⟩, .string ⟨#[]⟩, .slice none 0 0] 27 (0, 0)) ∧ XA W a L ∧ Below w.heap.size w W) := hid0 (fun W hW => by
    have q0 := (hW.block _ (Array.getElem?_eq_some_iff.1 r0).1).trans r0
    exact ⟨by rw [cell_of_row _ _ _ _ _ _ q0]; rfl, (hW.block _ (Array.getElem?_eq_some_iff.1 r2).1).trans r2, (ha.later b0c).later hW, Below.later b0c hW⟩)
  have HA := hid0 ha
  have hf1 := hwa.symm
  have hf2 := hwb.symm
  have hf3 := hwc.symm
  clear ha hwa hwb hwc bab bbc b0a b0c r0 r1 r2
  rcases hr with ⟨k, hk, rfl, e, hn⟩ | ⟨rfl, hn⟩
  · have HV := hid0 (secOf_at hk e hn)
    have hk0 : (0 : Int) ≤ (k : Int) := by omega
    have hkI : (k : Int) < (L.length : Int) := by omega
    have hkn : ¬ (k : Int) < 0 := by omega
    obtain ⟨b, off, ae, ce, rfl, hbl, q0, q1, q2, hea⟩ := HA.out.at' k hk
    have HXC : Hid (∀ W, Below w.heap.size w W → W.cell? ⟨b, off + k * 3, none⟩ = some (.string L[k].loc) ∧ W.cell? ⟨b, off + k * 3 + 1, none⟩ = some (.string L[k].par) ∧ W.cell? ⟨b, off + k * 3 + 2, none⟩ = some (.slice ae L[k].ed.length ce)) := hid0 (fun W hW => ⟨(hW.cell (p := ⟨b, off + k * 3, none⟩) hbl).trans q0, (hW.cell (p := ⟨b, off + k * 3 + 1, none⟩) hbl).trans q1, (hW.cell (p := ⟨b, off + k * 3 + 2, none⟩) hbl).trans q2⟩)
    clear q0 q1 q2
    have HEA := hid0 hea
    clear HA hn e hea
    generalize L[k] = sk at *
    go_enter Tryz.func30, Tryz.ntmps30
    go_wp2_with (first
      | (go_at_call 49; refine HIx.out.mono ?_; rintro e w5 ⟨rfl, hb5⟩; obtain ⟨z0, zr, zx, zb⟩ := HP.out w5 hb5; have HZR := hid0 zr; have HZX := hid0 zx; have HZB := hid0 zb; obtain ⟨⟨d0, d1, d2⟩, g0, g1, g2⟩ := row3 zr; obtain ⟨k0, k1, k2⟩ := HXC.out w5 HZB.out; clear hb5 zr zx zb hf1 hf2 hf3)
      | fail)
    have HR6 := hid0 (set3 (.string sk.loc) (.string sk.par) (.slice ae sk.ed.length ce) HZR.out)
    have HB6 := hid0 (set3_below HZB.out (g := w.heap.size + 1 + 1) (by omega) (.string sk.loc) (.string sk.par) (.slice ae sk.ed.length ce))
    obtain ⟨⟨m0, m1, m2⟩, _⟩ := row3 HR6.out
    refine bodyPost_ret (by simp [results, Tryz.results30, go_sem, m0, m1, m2]; try rfl) rfl ?_
    exact ⟨⟨_, rfl, by rw [HV.out]; exact ⟨ae, ce, rfl, HEA.out⟩⟩, HB6.out⟩
  · have HV := hid0 (secOf_none hn)
    clear HA hn
    go_enter Tryz.func30, Tryz.ntmps30
    go_wp2_with (first
      | (go_at_call 49; refine HIx.out.mono ?_; rintro e w5 ⟨rfl, hb5⟩; obtain ⟨z0, zr, zx, zb⟩ := HP.out w5 hb5; have HZR := hid0 zr; have HZX := hid0 zx; have HZB := hid0 zb; obtain ⟨⟨d0, d1, d2⟩, g0, g1, g2⟩ := row3 zr; clear hb5 zr zx zb hf1 hf2 hf3)
      | fail)
    have HR6 := hid0 (set3 (.string ⟨#[]⟩) (.string ⟨#[]⟩) (.slice none 0 0) HZR.out)
    have HB6 := hid0 (set3_below HZB.out (g := w.heap.size + 1 + 1) (by omega) (.string ⟨#[]⟩) (.string ⟨#[]⟩) (.slice none 0 0))
    obtain ⟨⟨m0, m1, m2⟩, _⟩ := row3 HR6.out
    refine bodyPost_ret (by simp [results, Tryz.results30, go_sem, m0, m1, m2]; try rfl) rfl ?_
    exact ⟨⟨_, rfl, by rw [HV.out]; rfl⟩, HB6.out⟩
end Go.Proofs.YtbdjnmbhphflbaaGreatDoor
