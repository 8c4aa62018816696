/-
  LdKW, Lc9W, LcAW, LcBW, LcCW, LcDW, LcEW, LdLM, LrRW, LsM, LdLW, LsKW, LoSW, LoAW, LpW.
-/
import Derived.Test.YtlnejmmhhmmomaaGreatDoorMsd
import Derived.Shelf.RegionOpen
import Derived.Sort.QuietTacIn
import Derived.Sort.BigQuietIn
namespace Go.Proofs.YtlnejmmhhmmomaaGreatDoor
open Go.RowKit Go.Shelf Go.Lib
theorem own_cap {w : World} {lo t s g n m cap : Nat} {xs : List Value} (h : w.ownsRow lo t s (.slice (some ⟨g, 0, none⟩) m cap) n xs) : n ≤ cap := by
  rcases h.2 with ⟨hv, _⟩ | ⟨g', cap', cur, hv, _, _, hc, _⟩
  · cases hv
  · injection hv with _ _ e
    rw [e]
    exact hc
theorem below_drew' {B : Nat} {w a : World} (h : Below B w a) (n : Nat) : Below B w (a.drewN n) := ⟨h.os, h.tape, h.output, h.size, h.block⟩
set_option maxRecDepth 10000 in
set_option maxHeartbeats 3200000 in
theorem kept_any (L : List Sec) (S : List SecAt) (a : Option Addr) (c g cap lo : Nat) (w : World) (hl : L.length ≤ 1000000) (hb : ∀ s ∈ L, s.ed.length ≤ 1000000000) (hcap : L.length + 64 ≤ cap) (hS : S.map (·.s) = L) (hG : Giv w lo (.slice (some ⟨g, 0, none⟩) (L.length + 64) cap) S 64) (ha : XA w a L) :
    Calls Tryz.prog 9 #[.agg #[.slice (some ⟨g, 0, none⟩) L.length cap], .agg #[.slice a L.length c]] w fun e w' => e = .returned (.bool true) ∧ Below w.heap.size w w' := by
  obtain ⟨w0, hw0⟩ : ∃ w0, w0 = (w.alloc (.cells #[.slice (some ⟨g, 0, none⟩) L.length cap] 24)).alloc (.cells #[.slice a L.length c] 24) := ⟨_, rfl⟩
  have hs0 : w0.heap.size = w.heap.size + 2 := by rw [hw0]; simp
  have hB0 : Below w.heap.size w w0 := by rw [hw0]; exact ((Below.refl _ _).alloc (Nat.le_refl _) _).alloc (by simp) _
  have hX0 : w0.heap[w.heap.size]? = some (.cells #[.slice (some ⟨g, 0, none⟩) L.length cap] 24 (0, 0)) := by
    rw [hw0]
    exact (Below.heap_alloc _ _ _ (by simp)).trans (heap_alloc_new w _)
  have hX1 : w0.heap[w.heap.size + 1]? = some (.cells #[.slice a L.length c] 24 (0, 0)) := by
    rw [hw0]
    have h := heap_alloc_new (w.alloc (.cells #[.slice (some ⟨g, 0, none⟩) L.length cap] 24)) (.cells #[.slice a L.length c] 24)
    rw [show (w.alloc (.cells #[.slice (some ⟨g, 0, none⟩) L.length cap] 24)).heap.size = w.heap.size + 1 by simp] at h
    exact h
  have hSl : S.length = L.length := by have h := congrArg List.length hS; rw [List.length_map] at h; exact h
  have hG0 : Giv w0 lo (.slice (some ⟨g, 0, none⟩) (L.length + 64) cap) S 64 := hG.keep (fun q _ hq => hB0.block q hq)
  have HX : Hid (∀ W, Below w0.heap.size w0 W → W.cell? ⟨w.heap.size, 0, none⟩ = some (.slice (some ⟨g, 0, none⟩) L.length cap) ∧ W.cell? ⟨w.heap.size + 1, 0, none⟩ = some (.slice a L.length c)) := hid0 (fun W hW => by
    have hr := (hW.block w.heap.size (by omega)).trans hX0
    have hq := (hW.block (w.heap.size + 1) (by omega)).trans hX1
    exact ⟨by rw [cell_of_row _ _ _ _ _ _ hr]; rfl, by rw [cell_of_row _ _ _ _ _ _ hq]; rfl⟩)
  have HXA : Hid (∀ W, Below w0.heap.size w0 W → XA W a L) := hid0 (fun W hW => (ha.later hB0).later hW)
  have HGW : Hid (∀ W, Below w0.heap.size w0 W → Giv W lo (.slice (some ⟨g, 0, none⟩) (L.length + 64) cap) S 64) := hid0 (fun W hW => hG0.keep (fun q _ hq => hW.block q hq))
  have HS := hid0 hS
  have HSl := hid0 hSl
  have HBD := hid0 hb
  have HB0 := hid0 hB0
  obtain ⟨x0, x1⟩ := HX.out w0 (Below.refl _ _)
  have hfold := hw0.symm
  clear hw0 hs0 hB0 hX0 hX1 hSl hG0 hG ha hS hb
  go_enter Tryz.func9, Tryz.ntmps9
  go_wp2
  clear x0 x1 hfold
  go_loopw [5] (fun i wr => ∃ k : Nat, k ≤ L.length ∧ i = .int .i64 (k : Int) ∧ Hid (Below w0.heap.size w0 wr)) (fun i _ => L.length - (intOf i).toNat)
  case atStart => exact ⟨0, Nat.zero_le _, rfl, hid0 (Below.refl _ _)⟩
  case round =>
    obtain ⟨k, hk, rfl, HB⟩ := hrel
    obtain ⟨wo, hwo⟩ : ∃ wo, wo = wr := ⟨_, rfl⟩
    subst hwo
    obtain ⟨x0, x1⟩ := HX.out wo HB.out
    by_cases hlt : k < L.length
    · obtain ⟨b, off, ae, ce, rfl, hbl, c0, c1, c2, hea⟩ := (HXA.out wo HB.out).at' k hlt
      have hGk := HGW.out wo HB.out
      have hkS : k < S.length := by have := HSl.out; omega
      obtain ⟨s0, s1, s2⟩ := cellsX_at S k hkS
      have hlX := cellsX_length S
      have hLs := HSl.out
      have hrow := hGk.row
      rw [hLs] at hrow
      have g0 : wo.cell? ⟨g, k * 3, none⟩ = some (.string S[k].s.loc) := by rw [World.ownsRow.cellAt hrow _ (by omega), List.getElem?_append_left (by omega)]; exact s0
      have g1 : wo.cell? ⟨g, k * 3 + 1, none⟩ = some (.string S[k].s.par) := by rw [World.ownsRow.cellAt hrow _ (by omega), List.getElem?_append_left (by omega)]; exact s1
      have g2 : wo.cell? ⟨g, k * 3 + 2, none⟩ = some (.slice (some ⟨S[k].blk, 0, none⟩) S[k].s.ed.length S[k].cap) := by rw [World.ownsRow.cellAt hrow _ (by omega), List.getElem?_append_left (by omega)]; exact s2
      have hLk : L[k] = S[k].s := by have h := HS.out; subst h; simp
      have hEd := hGk.ed S[k] (List.getElem_mem hkS)
      have hEa := hGk.ea S[k] (List.getElem_mem hkS)
      have hcE := own_cap hEd
      have hed := HBD.out L[k] (List.getElem_mem hlt)
      rw [hLk] at c0 c1 c2 hea hed
      generalize S[k].blk = e at *
      generalize S[k].cap = cE at *
      generalize S[k].s = sc at *
      obtain ⟨lo', pa, ed⟩ := sc
      simp only at c0 c1 c2 g0 g1 g2 hed hea hEd hEa hcE
      have hkI : (k : Int) < (L.length : Int) := by omega
      have hkI0 : (0 : Int) ≤ (k : Int) := by omega
      have d0 := cell_al x0 (.cells #[.string lo', .string pa, .slice (some ⟨e, 0, none⟩) ed.length cE] 40)
      have d1 := cell_al x1 (.cells #[.string lo', .string pa, .slice (some ⟨e, 0, none⟩) ed.length cE] 40)
      have d2 := cell_al c0 (.cells #[.string lo', .string pa, .slice (some ⟨e, 0, none⟩) ed.length cE] 40)
      have d3 := cell_al c1 (.cells #[.string lo', .string pa, .slice (some ⟨e, 0, none⟩) ed.length cE] 40)
      have d4 := cell_al c2 (.cells #[.string lo', .string pa, .slice (some ⟨e, 0, none⟩) ed.length cE] 40)
      have HEA := hid0 hea
      have HEM := hid0 hEa
      clear hLk hGk hrow s0 s1 s2 hEd hea hEa hlX hkS hLs
      go_wp2
      obtain ⟨w1, hw1⟩ : ∃ w1, w1 = wo.alloc (.cells #[.string lo', .string pa, .slice (some ⟨e, 0, none⟩) ed.length cE] 40) := ⟨_, rfl⟩
      have hb1 : Below wo.heap.size wo w1 := by rw [hw1]; exact (Below.refl _ _).alloc (Nat.le_refl _) _
      have hr1 : w1.heap[wo.heap.size]? = some (.cells #[.string lo', .string pa, .slice (some ⟨e, 0, none⟩) ed.length cE] 40 (0, 0)) := by rw [hw1]; exact heap_alloc_new wo _
      rw [← hw1] at d0 d1 d2 d3 d4 ⊢
      obtain ⟨f0, f1, f2, f3⟩ := sec_cells hr1
      have HE1 := hid0 (HEA.out.later hb1)
      have HM1 := hid0 (HEM.out.later hb1)
      have HD : Hid (∀ n, Below w1.heap.size w1 (w1.drewN n)) := hid0 (fun n => ⟨rfl, rfl, rfl, Nat.le_refl _, fun _ _ => rfl⟩)
      have HB1 := hid0 (Below.later HB.out hb1)
      have q0 : (0 : Int) ≤ (ed.length : Int) := by omega
      have q1 : (ed.length : Int) + 64 ≤ (cE : Int) := by omega
      have q2 : IntKind.i64.wrap ((ed.length : Int) + 64) = (ed.length : Int) + 64 := by simp [IntKind.wrap, IntKind.bits, IntKind.signed]; omega
      have q3 : (0 : Int) ≤ (ed.length : Int) + 64 := by omega
      have r0 : (lo'.toList == lo'.toList) = true := by simp
      have r1 : (pa.toList == pa.toList) = true := by simp
      clear hw1 hb1 hr1 HEA HEM g0 g1 g2 c0 c1 c2 x0 x1
      go_quiet ((go_at_call 22; exact Calls.quiet_of (edits_any ed (some ⟨e, 0, none⟩) ae cE ce _ hed (HM1.out.front.later (HD.out _)) (HE1.out.later (HD.out _)))))
      go_wp2
      go_quiet ((fail))
      go_wp2
      clear d0 d1 d2 d3 d4 f0 f1 f2 f3 HE1
      have HMk : Hid (∀ W, Below w1.heap.size w1 W → ∀ p : Nat, ed.length ≤ p → p < ed.length + 64 → W.cell? ⟨e, p * 2 + 1, none⟩ = some (.string ⟨#[109, 97, 114, 107]⟩)) := hid0 (fun W hW p h1 h2 => by
        obtain ⟨b', o', e', hlt', _, h3⟩ := (HM1.out.later hW).at' p (by rw [List.length_append, marksE, List.length_replicate]; exact h2)
        cases e'
        rw [List.getElem_append_right h1] at h3
        simp only [marksE, List.getElem_replicate, Nat.zero_add, markB] at h3
        exact h3)
      have HDD : Hid (∀ n m, Below w1.heap.size w1 ((w1.drewN n).drewN m)) := hid0 (fun n m => ⟨rfl, rfl, rfl, Nat.le_refl _, fun _ _ => rfl⟩)
      clear HM1
      go_loopw [10] (fun i wi => ∃ p : Nat, ed.length ≤ p ∧ p ≤ ed.length + 64 ∧ i = .int .i64 (p : Int) ∧ Hid (Below w1.heap.size w1 wi)) (fun i _ => ed.length + 64 - (intOf i).toNat)
      case atStart => exact ⟨ed.length, Nat.le_refl _, by omega, rfl, hid0 (HDD.out _ _)⟩
      case round =>
        obtain ⟨p, hp1, hp2, rfl, HBi⟩ := hrel
        by_cases hlt2 : p < ed.length + 64
        · have m0 := HMk.out wr HBi.out p hp1 hlt2
          have p0 : (0 : Int) ≤ (p : Int) := by omega
          have p1 : (p : Int) < (ed.length : Int) + 64 := by omega
          go_wp2
          go_roundw
          case rel => exact ⟨p + 1, by omega, by omega, by go_num, HBi⟩
          case measure => simp [intOf]; omega
        · have p1 : ¬ (p : Int) < (ed.length : Int) + 64 := by omega
          have HBN := hid0 (Below.later HB1.out HBi.out)
          go_wp2
          go_roundw
          case rel => exact ⟨k + 1, by omega, by go_num, HBN⟩
          case measure => simp [intOf]; omega
    · have hkI : ¬ (k : Int) < (L.length : Int) := by omega
      have q0 : (0 : Int) ≤ (L.length : Int) := by omega
      have q1 : (L.length : Int) + 64 ≤ (cap : Int) := by omega
      have q2 : IntKind.i64.wrap ((L.length : Int) + 64) = (L.length : Int) + 64 := by simp [IntKind.wrap, IntKind.bits, IntKind.signed]; omega
      have q3 : (0 : Int) ≤ (L.length : Int) + 64 := by omega
      have HMk : Hid (∀ W, Below w0.heap.size w0 W → ∀ p : Nat, L.length ≤ p → p < L.length + 64 → W.cell? ⟨g, p * 3, none⟩ = some (.string ⟨#[109, 97, 114, 107]⟩)) := hid0 (fun W hW p h1 h2 => by
        have hrow := (HGW.out W hW).row
        have hLs := HSl.out
        rw [hLs] at hrow
        have hlX := cellsX_length S
        rw [World.ownsRow.cellAt hrow _ (by omega), List.getElem?_append_right (by omega), hlX, hLs, show p * 3 - L.length * 3 = (p - L.length) * 3 by omega]
        exact markX_at 64 (p - L.length) (by omega))
      go_wp2
      go_loopw [12] (fun i wi => ∃ p : Nat, L.length ≤ p ∧ p ≤ L.length + 64 ∧ i = .int .i64 (p : Int) ∧ Hid (Below w0.heap.size w0 wi)) (fun i _ => L.length + 64 - (intOf i).toNat)
      case atStart => exact ⟨L.length, Nat.le_refl _, by omega, rfl, HB⟩
      case round =>
        clear x0 x1
        obtain ⟨p, hp1, hp2, rfl, HBi⟩ := hrel
        by_cases hlt2 : p < L.length + 64
        · have m0 := HMk.out wr HBi.out p hp1 hlt2
          have p0 : (0 : Int) ≤ (p : Int) := by omega
          have p1 : (p : Int) < (L.length : Int) + 64 := by omega
          go_wp2
          go_roundw
          case rel => exact ⟨p + 1, by omega, by omega, by go_num, HBi⟩
          case measure => simp [intOf]; omega
        · have p1 : ¬ (p : Int) < (L.length : Int) + 64 := by omega
          have HBN := hid0 (Below.later HB0.out HBi.out)
          go_wp2
          go_ret
          exact ⟨rfl, HBN.out⟩
end Go.Proofs.YtlnejmmhhmmomaaGreatDoor
namespace Go.Proofs.YtlnejmmhhmmomaaGreatDoor
open Go.RowKit Go.Shelf Go.Lib
/-- The document's number of a refusal. -/
def numO : Option Nat → Int
  | none => 0
  | some i => refNo i
/-- Units in memory. -/
structure UA (w : World) (a : Option Addr) (L : List (Int × Nat × Nat)) : Prop where
  at' : ∀ k (h : k < L.length), ∃ b off, a = some ⟨b, off, none⟩ ∧ w.cell? ⟨b, off + k * 3, none⟩ = some (.int .i64 L[k].1)
theorem cellsU_at (us : List (Int × Nat × Nat)) : ∀ (k : Nat) (h : k < us.length), (cellsU us)[k * 3]? = some (.int .i64 us[k].1) := by
  induction us with
  | nil => intro k h; simp at h
  | cons u us ih =>
    intro k h
    have e : cellsU (u :: us) = .int .i64 u.1 :: .int .i64 (u.2.1 : Int) :: .int .i64 (u.2.2 : Int) :: cellsU us := by simp [cellsU]
    cases k with
    | zero => rw [e]; simp
    | succ k =>
      rw [e, show (k + 1) * 3 = k * 3 + 1 + 1 + 1 by omega]
      simpa using ih k (by simpa using h)
theorem OwnU.ua {w : World} {base : Nat} {v : Value} {us : List (Int × Nat × Nat)} (h : OwnU w base v us) : ∃ a cap, v = .slice a us.length cap ∧ UA w a us := by
  have h0 := h
  rcases h.2 with ⟨rfl, hn⟩ | ⟨g, cap, cur, rfl, _⟩
  · have : us = [] := List.length_eq_zero_iff.1 hn
    subst this
    exact ⟨none, 0, rfl, ⟨fun k h => absurd h (Nat.not_lt_zero _)⟩⟩
  · refine ⟨_, cap, rfl, ⟨fun k hk => ⟨g, 0, rfl, ?_⟩⟩⟩
    rw [Nat.zero_add, World.ownsRow.cellAt h0 (k * 3) (by omega)]
    exact cellsU_at us k hk
theorem entF_one {l : List UInt8} (h : (unitsOf l).length = 0) : entF l = some 1 := by
  unfold entF
  rw [if_pos h]
  split <;> rfl
theorem entF_bad {l : List UInt8} {k : Nat} (h : k < (unitsOf l).length) (hb : (unitsOf l)[k].1 = -1) : entF l = some 1 := by
  unfold entF
  rw [if_pos (List.any_eq_true.2 ⟨_, List.getElem_mem h, by simp [hb]⟩)]
theorem entF_rest {l : List UInt8} (h0 : (unitsOf l).length ≠ 0) (hn : ∀ k (h : k < (unitsOf l).length), (unitsOf l)[k].1 ≠ -1) : entF l = if 32 < (unitsOf l).length then some 2 else none := by
  unfold entF
  rw [if_neg, if_neg h0]
  rw [List.any_eq_true]
  rintro ⟨u, hu, e⟩
  obtain ⟨k, hk, rfl⟩ := List.getElem_of_mem hu
  exact hn k hk (by simpa using e)
set_option maxRecDepth 10000 in
set_option maxHeartbeats 1600000 in
theorem refEntry_any (s : ByteArray) (hs : s.size ≤ 4194400) (w : World) :
    Calls Tryz.prog 38 #[.string s] w fun e w' => e = .returned (.int .i64 (numO (entF s.data.toList))) ∧ Below w.heap.size w w' := by
  have HS := hid0 (refSplit_any s hs w)
  have hll : s.data.toList.length = s.size := by simp
  have hul : (unitsOf s.data.toList).length ≤ s.data.toList.length := units_len _ _ 0 (Nat.le_refl _)
  have hlb : (unitsOf s.data.toList).length ≤ 4194400 := by omega
  have HE1 := hid0 (fun h => entF_one (l := s.data.toList) h)
  have HE2 := hid0 (fun k h hb => entF_bad (l := s.data.toList) (k := k) h hb)
  have HE3 := hid0 (fun h0 hn => entF_rest (l := s.data.toList) h0 hn)
  clear hll hul
  obtain ⟨N, hN⟩ : ∃ N, N = numO (entF s.data.toList) := ⟨_, rfl⟩
  have HN := hid0 hN
  rw [← hN]
  clear hN
  generalize unitsOf s.data.toList = us at *
  by_cases h0 : us.length = 0
  · have h0I : (us.length : Int) = 0 := by omega
    have HV : Hid (N = 2) := hid0 (by rw [HN.out, HE1.out h0]; rfl)
    clear HE1 HE2 HE3 HN
    go_enter Tryz.func38, Tryz.ntmps38
    go_wp2_with (first
      | (go_at_call 50; refine HS.out.mono ?_; rintro e w1 ⟨v, rfl, hown, hb1⟩; obtain ⟨a, cap, rfl, _⟩ := hown.ua; have HB1 := hid0 hb1; clear hb1 hown h0)
      | fail)
    go_ret
    exact ⟨by rw [HV.out]; rfl, HB1.out⟩
  · have h0I : ¬ (us.length : Int) = 0 := by omega
    go_enter Tryz.func38, Tryz.ntmps38
    go_wp2_with (first
      | (go_at_call 50; refine HS.out.mono ?_; rintro e w1 ⟨v, rfl, hown, hb1⟩; obtain ⟨a, cap, rfl, hua⟩ := hown.ua; have HB1 := hid0 hb1; have HUA := hid0 hua; clear hb1 hown hua HS)
      | fail)
    go_loop [4] (fun t => ∃ k : Nat, k ≤ us.length ∧ t = .int .i64 (k : Int) ∧ Hid (∀ j (h : j < us.length), j < k → us[j].1 ≠ -1)) (fun t => us.length - (intOf t).toNat)
    case atStart => exact ⟨0, Nat.zero_le _, rfl, hid0 (fun j _ h => absurd h (Nat.not_lt_zero _))⟩
    case round =>
      obtain ⟨k, hk, rfl, HK⟩ := hrel
      by_cases hlt : k < us.length
      · have hkI : (k : Int) < (us.length : Int) := by omega
        have hk0 : (0 : Int) ≤ (k : Int) := by omega
        obtain ⟨b, off, rfl, c0⟩ := HUA.out.at' k hlt
        by_cases hbad : us[k].1 = -1
        · have HV : Hid (N = 2) := hid0 (by rw [HN.out, HE2.out k hlt hbad]; rfl)
          rw [hbad] at c0
          clear HE1 HE2 HE3 HN HK
          go_wp2
          go_ret
          exact ⟨by rw [HV.out]; rfl, HB1.out⟩
        · have HK2 : Hid (∀ j (h : j < us.length), j < k + 1 → us[j].1 ≠ -1) := hid0 (fun j h hj => by
            by_cases e : j = k
            · subst e; exact hbad
            · exact HK.out j h (by omega))
          generalize us[k].1 = p at *
          go_wp2
          go_round
          case rel => exact ⟨k + 1, by omega, by go_num, HK2⟩
          case measure => simp [intOf]; omega
      · have hkI : ¬ (k : Int) < (us.length : Int) := by omega
        have HF := hid0 (HE3.out h0 (fun j h => HK.out j h (by omega)))
        clear HE1 HE2 HE3 HK HUA
        by_cases h3 : 32 < us.length
        · have h3I : (32 : Int) < (us.length : Int) := by omega
          have HV : Hid (N = 3) := hid0 (by rw [HN.out, HF.out, if_pos h3]; rfl)
          go_wp2
          go_ret
          exact ⟨by rw [HV.out]; rfl, HB1.out⟩
        · have h3I : ¬ (32 : Int) < (us.length : Int) := by omega
          have HV : Hid (N = 0) := hid0 (by rw [HN.out, HF.out, if_neg h3]; rfl)
          go_wp2
          go_ret
          exact ⟨by rw [HV.out]; rfl, HB1.out⟩
end Go.Proofs.YtlnejmmhhmmomaaGreatDoor
namespace Go.Proofs.YtlnejmmhhmmomaaGreatDoor
open Go.RowKit Go.Shelf Go.Lib
theorem strOf_eq (c : List UInt8) (s : ByteArray) : (strOf c).toList == s.toList ↔ c = s.data.toList := by
  rw [str_eq, decide_eq_true_eq]
  constructor
  · rintro rfl; rw [strOf_data]
  · rintro rfl; simp [strOf]
set_option maxRecDepth 10000 in
set_option maxHeartbeats 400000 in
theorem canonical_any (s : ByteArray) (w : World) : Calls Tryz.prog 49 #[.string s] w fun e w' => e = .returned (.bool (isTagB s)) ∧ Below w.heap.size w w' := by
  have HT := hid0 (refTag_any s w)
  obtain ⟨q, hq⟩ : ∃ q, q = isTagB s := ⟨_, rfl⟩
  rw [← hq]
  unfold isTagB at hq
  cases ht : tagF s.data.toList with
  | none =>
    rw [ht] at HT hq
    simp only [tagV] at HT
    have HV : Hid (q = false) := hid0 (by rw [hq]; simp)
    clear hq ht
    go_enter Tryz.func49, Tryz.ntmps49
    go_wp2_with (first
      | (go_at_call 39; refine HT.out.mono ?_; rintro e w1 ⟨rfl, hb1⟩; have HB1 := hid0 hb1; clear hb1)
      | fail)
    go_ret
    exact ⟨by rw [HV.out]; rfl, HB1.out⟩
  | some c =>
    rw [ht] at HT hq
    simp only [tagV] at HT
    have he := strOf_eq c s
    have HV : Hid (q = ((strOf c).toList == s.toList)) := hid0 (by
      rw [hq, Bool.eq_iff_iff, decide_eq_true_eq, Option.some.injEq]
      exact he.symm)
    clear hq ht he
    generalize strOf c = C at *
    generalize hd : (C.toList == s.toList) = d at *
    go_enter Tryz.func49, Tryz.ntmps49
    go_wp2_with (first
      | (go_at_call 39; refine HT.out.mono ?_; rintro e w1 ⟨rfl, hb1⟩; have HB1 := hid0 hb1; clear hb1)
      | fail)
    go_ret
    exact ⟨by rw [HV.out]; rfl, HB1.out⟩
end Go.Proofs.YtlnejmmhhmmomaaGreatDoor
namespace Go.Proofs.YtlnejmmhhmmomaaGreatDoor
open Go.RowKit Go.Shelf Go.Lib
/-- What is wrong with a section but its edits. -/
def secP (s : Sec) (ahead : List Sec) : Option Nat :=
  if isTagB s.loc = false then some 1 else if hasL ahead s.loc = true then some 4 else if (s.par.toList == []) = false ∧ isTagB s.par = false then some 1
  else if (s.par.toList == []) = false ∧ (s.loc.toList == [114, 111, 111, 116]) = true then some 0 else none
theorem secE_eq (E : ByteArray → Option Nat) (s : Sec) (ahead : List Sec) : secE E s ahead = match secP s ahead with
    | some i => some i
    | none => firstN (fE E s.ed) 0 s.ed.length := by
  unfold secE secP
  repeat' split
  all_goals first | rfl | simp_all
theorem hasL_take_no {L : List Sec} {i : Nat} (hi : i ≤ L.length) {t : ByteArray} (h : ∀ j (h : j < L.length), j < i → L[j].loc ≠ t) : hasL (L.take i) t = false := by
  rw [Bool.eq_false_iff]
  intro hh
  obtain ⟨k, hk, e⟩ := (hasL_iff _ t).1 hh
  rw [List.length_take] at hk
  rw [List.getElem_take] at e
  exact h k (by omega) (by omega) e
theorem hasL_take_yes {L : List Sec} {i k : Nat} (hi : i ≤ L.length) {t : ByteArray} (hk : k < i) (e : (L[k]'(by omega)).loc = t) : hasL (L.take i) t = true :=
  (hasL_iff _ t).2 ⟨k, by rw [List.length_take]; omega, by rw [List.getElem_take]; exact e⟩
set_option maxRecDepth 10000 in
set_option maxHeartbeats 3200000 in
theorem refSec_any (L : List Sec) (a : Option Addr) (c i : Nat) (hi : i < L.length) (hl : L.length ≤ 1000000) (w : World) (ha : XA w a L) :
    Calls Tryz.prog 37 #[.agg #[.slice a L.length c], .int .i64 (i : Int)] w fun e w' => e = .returned (.int .i64 (numO (secP L[i] (L.take i)))) ∧ Below w.heap.size w w' := by
  obtain ⟨b, off, ae, ce, rfl, hbl, s0, s1, s2, _⟩ := ha.at' i hi
  obtain ⟨wa, hwa⟩ : ∃ wa, wa = w.alloc (.cells #[.slice (some ⟨b, off, none⟩) L.length c] 24) := ⟨_, rfl⟩
  obtain ⟨wb, hwb⟩ : ∃ wb, wb = wa.alloc (.cells #[.string L[i].loc, .string L[i].par, .slice ae L[i].ed.length ce] 40) := ⟨_, rfl⟩
  have sa : wa.heap.size = w.heap.size + 1 := by rw [hwa]; simp
  have b0a : Below w.heap.size w wa := by rw [hwa]; exact (Below.refl _ _).alloc (Nat.le_refl _) _
  have bab : Below wa.heap.size wa wb := by rw [hwb]; exact (Below.refl _ _).alloc (Nat.le_refl _) _
  have b0b : Below w.heap.size w wb := Below.later b0a bab
  have r0a : wa.heap[w.heap.size]? = some (.cells #[.slice (some ⟨b, off, none⟩) L.length c] 24 (0, 0)) := by rw [hwa]; exact heap_alloc_new w _
  have r0 : wb.heap[w.heap.size]? = some (.cells #[.slice (some ⟨b, off, none⟩) L.length c] 24 (0, 0)) := (bab.block _ (by omega)).trans r0a
  have r1 : wb.heap[w.heap.size + 1]? = some (.cells #[.string L[i].loc, .string L[i].par, .slice ae L[i].ed.length ce] 40 (0, 0)) := by rw [hwb, ← sa]; exact heap_alloc_new wa _
  have a0 : wa.cell? ⟨w.heap.size, 0, none⟩ = some (.slice (some ⟨b, off, none⟩) L.length c) := by rw [cell_of_row _ _ _ _ _ _ r0a]; rfl
  have a1 : wa.cell? ⟨b, off + i * 3, none⟩ = some (.string L[i].loc) := (b0a.cell (p := ⟨b, off + i * 3, none⟩) hbl).trans s0
  have a2 : wa.cell? ⟨b, off + i * 3 + 1, none⟩ = some (.string L[i].par) := (b0a.cell (p := ⟨b, off + i * 3 + 1, none⟩) hbl).trans s1
  have a3 : wa.cell? ⟨b, off + i * 3 + 2, none⟩ = some (.slice ae L[i].ed.length ce) := (b0a.cell (p := ⟨b, off + i * 3 + 2, none⟩) hbl).trans s2
  have HXW : Hid (∀ W, Below wb.heap.size wb W → W.cell? ⟨w.heap.size, 0, none⟩ = some (.slice (some ⟨b, off, none⟩) L.length c) ∧ W.cell? ⟨w.heap.size + 1, 0, none⟩ = some (.string L[i].loc) ∧ W.cell? ⟨w.heap.size + 1, 1, none⟩ = some (.string L[i].par)) := hid0 (fun W hW => by
    have q0 := (hW.block _ (Array.getElem?_eq_some_iff.1 r0).1).trans r0
    have q1 := (hW.block _ (Array.getElem?_eq_some_iff.1 r1).1).trans r1
    exact ⟨by rw [cell_of_row _ _ _ _ _ _ q0]; rfl, by rw [cell_of_row _ _ _ _ _ _ q1]; rfl, by rw [cell_of_row _ _ _ _ _ _ q1]; rfl⟩)
  have HXA : Hid (∀ k (hk : k < L.length) W, Below wb.heap.size wb W → W.cell? ⟨b, off + k * 3, none⟩ = some (.string L[k].loc)) := hid0 (fun k hk W hW => by
    obtain ⟨b', off', _, _, e0, hbl', q0, _⟩ := ((ha.later b0b).later hW).at' k hk
    simp only [Option.some.injEq, Addr.mk.injEq, and_true] at e0
    obtain ⟨rfl, rfl⟩ := e0
    exact q0)
  have HC1 := hid0 (fun W => canonical_any L[i].loc W)
  have HC2 := hid0 (fun W => canonical_any L[i].par W)
  have HB0 := hid0 b0b
  have HBr := hid0 (Below.refl wb.heap.size wb)
  obtain ⟨x0, x1, x2⟩ := HXW.out wb (Below.refl _ _)
  subst hwa
  have HFb := hid0 hwb
  have hiI : (i : Int) < (L.length : Int) := by omega
  have hi0 : (0 : Int) ≤ (i : Int) := by omega
  have HTy := hid0 (fun (k : Nat) (hk : k < i) (e : (L[k]'(by omega)).loc = L[i].loc) => hasL_take_yes (Nat.le_of_lt hi) hk e)
  have HTn := hid0 (fun (h : ∀ j (h : j < L.length), j < i → L[j].loc ≠ L[i].loc) => hasL_take_no (Nat.le_of_lt hi) h)
  clear ha hwb sa b0a bab b0b r0a r0 r1 s0 s1 s2
  obtain ⟨N, hN⟩ : ∃ N, N = numO (secP L[i] (L.take i)) := ⟨_, rfl⟩
  rw [← hN]
  unfold secP at hN
  generalize L[i].loc = l at *
  generalize L[i].par = p at *
  generalize L[i].ed.length = n at *
  generalize hasL (L.take i) l = hh at *
  obtain ⟨q1, h1⟩ : ∃ q1, isTagB l = q1 := ⟨_, rfl⟩
  obtain ⟨q3, h3⟩ : ∃ q3, isTagB p = q3 := ⟨_, rfl⟩
  rw [h1] at HC1 hN
  rw [h3] at HC2 hN
  clear h1 h3
  have mk := hid0 True.intro
  cases q1 with
  | false =>
    simp only [if_true] at hN
    have HV := hid0 hN
    clear hN HTy HTn
    go_enter Tryz.func37, Tryz.ntmps37
    go_wp2_with (first
      | (go_at_call 49; refine (HC1.out _).mono ?_; rintro e w1 ⟨rfl, hb1⟩; have HB1 : Hid (Below wb.heap.size wb w1) := hid0 (by rw [HFb.out]; exact hb1); clear hb1)
      | fail)
    go_ret
    exact ⟨by rw [HV.out]; rfl, Below.later HB0.out HB1.out⟩
  | true =>
    simp only [Bool.true_eq_false, if_false] at hN
    have HN := hid0 hN
    clear hN
    go_enter Tryz.func37, Tryz.ntmps37
    go_wp2_with (first
      | (clear mk; go_at_call 49; refine (HC1.out _).mono ?_; rintro e w1 ⟨rfl, hb1⟩; have HB1 : Hid (Below wb.heap.size wb w1) := hid0 (by rw [HFb.out]; exact hb1); clear hb1)
      | fail)
    go_loopw [7] (fun v wr => ∃ k : Nat, k ≤ i ∧ v = .int .i64 (k : Int) ∧ Hid (∀ j (h : j < L.length), j < k → L[j].loc ≠ l) ∧ Hid (Below wb.heap.size wb wr)) (fun v _ => i - (intOf v).toNat)
    case atStart => exact ⟨0, Nat.zero_le _, rfl, hid0 (fun j _ h => absurd h (Nat.not_lt_zero _)), HB1⟩
    case round =>
      clear HB1 x0 x1 x2 a0 a1 a2 a3
      obtain ⟨k, hk, rfl, HK, HB⟩ := hrel
      obtain ⟨y0, y1, y2⟩ := HXW.out wr HB.out
      by_cases hlt : k < i
      · have hkI : (k : Int) < (i : Int) := by omega
        have hkL : (k : Int) < (L.length : Int) := by omega
        have hk0 : (0 : Int) ≤ (k : Int) := by omega
        have y3 := HXA.out k (by omega) wr HB.out
        have hse := str_eq (L[k]'(by omega)).loc l
        by_cases e : (L[k]'(by omega)).loc = l
        · have HV : Hid (N = 5) := hid0 (by rw [HN.out, HTy.out k hlt e]; rfl)
          rw [decide_eq_true e] at hse
          generalize (L[k]'(by omega)).loc = m at *
          clear HK HTy HTn HN e
          go_wp2
          go_region
          go_wp2
          go_ret
          exact ⟨by rw [HV.out]; rfl, Below.later HB0.out (by have := HB.out; go_grown)⟩
        · have HK2 : Hid (∀ j (h : j < L.length), j < k + 1 → L[j].loc ≠ l) := hid0 (fun j h hj => by
            by_cases q : j = k
            · subst q; exact e
            · exact HK.out j h (by omega))
          rw [decide_eq_false e] at hse
          generalize (L[k]'(by omega)).loc = m at *
          clear HK e
          go_wp2
          go_region
          go_wp2
          go_roundw
          case rel => exact ⟨k + 1, by omega, by go_num, HK2, hid0 (by have := HB.out; go_grown)⟩
          case measure => simp [intOf]; omega
      · have hkI : ¬ (k : Int) < (i : Int) := by omega
        have hno := HTn.out (fun j h hj => HK.out j h (by omega))
        have hN := HN.out
        rw [hno, if_neg (by simp)] at hN
        clear HK HTy HTn HN hno HXA
        cases hp : (p.toList == []) with
        | true =>
          rw [hp] at hN
          simp only [Bool.true_eq_false, false_and, if_false] at hN
          have HV := hid0 hN
          clear hN
          go_wp2_with (first
            | (go_at_call 49; refine (HC2.out _).mono ?_; rintro e w3 ⟨rfl, hb3⟩; have HB3 := hid0 (Below.later HB.out hb3); obtain ⟨z0, z1, z2⟩ := HXW.out w3 HB3.out; clear hb3)
            | fail)
          go_ret
          exact ⟨by rw [HV.out]; rfl, Below.later HB0.out HB3.out⟩
        | false =>
          rw [hp] at hN
          simp only [true_and] at hN
          cases q3 with
          | false =>
            simp only [if_true] at hN
            have HV := hid0 hN
            clear hN
            go_wp2_with (first
              | (go_at_call 49; refine (HC2.out _).mono ?_; rintro e w3 ⟨rfl, hb3⟩; have HB3 := hid0 (Below.later HB.out hb3); obtain ⟨z0, z1, z2⟩ := HXW.out w3 HB3.out; clear hb3)
              | fail)
            go_ret
            exact ⟨by rw [HV.out]; rfl, Below.later HB0.out HB3.out⟩
          | true =>
            simp only [Bool.true_eq_false, if_false] at hN
            cases hr : (l.toList == [114, 111, 111, 116]) with
            | true =>
              rw [hr] at hN
              simp only [if_true] at hN
              have HV := hid0 hN
              clear hN
              go_wp2_with (first
                | (go_at_call 49; refine (HC2.out _).mono ?_; rintro e w3 ⟨rfl, hb3⟩; have HB3 := hid0 (Below.later HB.out hb3); obtain ⟨z0, z1, z2⟩ := HXW.out w3 HB3.out; clear hb3)
                | fail)
              go_ret
              exact ⟨by rw [HV.out]; rfl, Below.later HB0.out HB3.out⟩
            | false =>
              rw [hr] at hN
              simp only [Bool.false_eq_true, if_false] at hN
              have HV := hid0 hN
              clear hN
              go_wp2_with (first
                | (go_at_call 49; refine (HC2.out _).mono ?_; rintro e w3 ⟨rfl, hb3⟩; have HB3 := hid0 (Below.later HB.out hb3); obtain ⟨z0, z1, z2⟩ := HXW.out w3 HB3.out; clear hb3)
                | fail)
              go_ret
              exact ⟨by rw [HV.out]; rfl, Below.later HB0.out HB3.out⟩
end Go.Proofs.YtlnejmmhhmmomaaGreatDoor
namespace Go.Proofs.YtlnejmmhhmmomaaGreatDoor
open Go.RowKit Go.Shelf Go.Lib
theorem refNo_ne : ∀ i, i < 11 → refNo i ≠ 0 := by decide
theorem secP_lt {s : Sec} {ah : List Sec} {i : Nat} (h : secP s ah = some i) : i < 11 := by
  unfold secP at h
  repeat' split at h
  all_goals (cases h; try decide)
theorem entF_lt {l : List UInt8} {i : Nat} (h : entF l = some i) : i < 11 := by
  unfold entF at h
  repeat' split at h
  all_goals (cases h; try decide)
set_option maxRecDepth 10000 in
set_option maxHeartbeats 3200000 in
theorem refCheck_any (L : List Sec) (a : Option Addr) (c : Nat) (w : World) (hl : L.length ≤ 1000000) (hb : ∀ s ∈ L, s.ed.length ≤ 1000000000) (hz : ∀ s ∈ L, ∀ e ∈ s.ed, e.2.size ≤ 4194400) (ha : XA w a L) :
    Calls Tryz.prog 24 #[.agg #[.slice a L.length c]] w fun e w' => e = .returned (.int .i64 (numO (chkE entE L))) ∧ Below w.heap.size w w' := by
  obtain ⟨wa, hwa⟩ : ∃ wa, wa = w.alloc (.cells #[.slice a L.length c] 24) := ⟨_, rfl⟩
  have b0a : Below w.heap.size w wa := by rw [hwa]; exact (Below.refl _ _).alloc (Nat.le_refl _) _
  have r0 : wa.heap[w.heap.size]? = some (.cells #[.slice a L.length c] 24 (0, 0)) := by rw [hwa]; exact heap_alloc_new w _
  have HX0 : Hid (∀ W, Below wa.heap.size wa W → W.cell? ⟨w.heap.size, 0, none⟩ = some (.slice a L.length c)) := hid0 (fun W hW => by
    have q0 := (hW.block _ (Array.getElem?_eq_some_iff.1 r0).1).trans r0
    rw [cell_of_row _ _ _ _ _ _ q0]; rfl)
  have HXA : Hid (∀ W, Below wa.heap.size wa W → XA W a L) := hid0 (fun W hW => (ha.later b0a).later hW)
  have HSf : Hid (∀ k (hk : k < L.length) W, Below wa.heap.size wa W → Calls Tryz.prog 37 #[.agg #[.slice a L.length c], .int .i64 (k : Int)] W fun e w' => e = .returned (.int .i64 (numO (secP L[k] (L.take k)))) ∧ Below wa.heap.size wa w') := hid0 (fun k hk W hW => (refSec_any L a c k hk hl W ((ha.later b0a).later hW)).mono (fun e w' h => ⟨h.1, Below.later hW h.2⟩))
  have HEf : Hid (∀ k (hk : k < L.length) j (hj : j < L[k].ed.length) W, Below wa.heap.size wa W → Calls Tryz.prog 38 #[.string L[k].ed[j].2] W fun e w' => e = .returned (.int .i64 (numO (fE entE L[k].ed j))) ∧ Below wa.heap.size wa w') := hid0 (fun k hk j hj W hW => by
    rw [fE_at entE _ j hj]
    exact (refEntry_any L[k].ed[j].2 (hz _ (List.getElem_mem hk) _ (List.getElem_mem hj)) W).mono (fun e w' h => ⟨h.1, Below.later hW h.2⟩))
  have HLb : Hid (∀ k (hk : k < L.length), L[k].ed.length ≤ 1000000000) := hid0 (fun k hk => hb _ (List.getElem_mem hk))
  have HNl := hid0 (nEd_le 1000000000 L hb)
  have HB0 := hid0 b0a
  have HBr := hid0 (Below.refl wa.heap.size wa)
  have x0 := HX0.out wa (Below.refl _ _)
  have hf1 := hwa.symm
  clear ha hwa b0a r0 hb hz
  obtain ⟨N, hN⟩ : ∃ N, N = numO (chkE entE L) := ⟨_, rfl⟩
  rw [← hN]
  have HN := hid0 hN
  clear hN
  go_enter Tryz.func24, Tryz.ntmps24
  go_wp2
  go_loop [3, 4] (fun v t => ∃ k : Nat, k ≤ L.length ∧ v = .int .i64 (nEd (L.take k) : Nat) ∧ t = .int .i64 (k : Int)) (fun _ t => L.length - (intOf t).toNat)
  case atStart => exact ⟨0, Nat.zero_le _, rfl, rfl⟩
  case round =>
    obtain ⟨k, hk, rfl, rfl⟩ := hrel
    by_cases hlt : k < L.length
    · have hkI : (k : Int) < (L.length : Int) := by omega
      have hk0 : (0 : Int) ≤ (k : Int) := by omega
      obtain ⟨b, off, ae, ce, rfl, hbl, c0, c1, c2, _⟩ := (HXA.out wa HBr.out).at' k hlt
      have HM := hid0 (nEd_more L k hlt)
      have z1 := HNl.out k
      have z2 := HLb.out k hlt
      have hsum : IntKind.i64.wrap ((nEd (L.take k) : Int) + (L[k].ed.length : Int)) = (nEd (L.take k) : Int) + (L[k].ed.length : Int) := IntWalk.i64_in _ (by omega)
      generalize nEd (L.take k) = x at *
      generalize L[k].ed.length = n at *
      go_wp2
      go_round
      case rel => exact ⟨k + 1, by omega, by rw [HM.out]; go_num, by go_num⟩
      case measure => simp [intOf]; omega
    · have hkI : ¬ (k : Int) < (L.length : Int) := by omega
      rw [List.take_of_length_le (show L.length ≤ k by omega)]
      have hch := HN.out
      unfold chkE at hch
      clear hlt
      by_cases h5 : 500 < L.length
      · have h5I : (500 : Int) < (L.length : Int) := by omega
        have HV : Hid (N = 3) := hid0 (by rw [hch, if_pos (.inl h5)]; rfl)
        clear hch
        go_wp2
        go_ret
        exact ⟨by rw [HV.out]; rfl, HB0.out⟩
      · have h5I : ¬ (500 : Int) < (L.length : Int) := by omega
        by_cases h6 : 20000 < nEd L
        · have h6I : (20000 : Int) < (nEd L : Int) := by omega
          have HV : Hid (N = 3) := hid0 (by rw [hch, if_pos (.inr h6)]; rfl)
          clear hch
          generalize nEd L = ne at *
          go_wp2
          go_ret
          exact ⟨by rw [HV.out]; rfl, HB0.out⟩
        · have h6I : ¬ (20000 : Int) < (nEd L : Int) := by omega
          rw [if_neg (by omega)] at hch
          have HR := hid0 hch
          clear hch HN
          generalize nEd L = ne at *
          go_wp2
          go_loopw [5] (fun v wr => ∃ k : Nat, k ≤ L.length ∧ v = .int .i64 (k : Int) ∧ Hid (∀ j, j < k → fSec entE L j = none) ∧ Hid (Below wa.heap.size wa wr)) (fun v _ => L.length - (intOf v).toNat)
          case atStart => exact ⟨0, Nat.zero_le _, rfl, hid0 (fun j h => absurd h (Nat.not_lt_zero _)), HBr⟩
          case round =>
            clear hkI hk
            obtain ⟨k, hk, rfl, HK, HB⟩ := hrel
            have y0 := HX0.out wr HB.out
            by_cases hlt : k < L.length
            · have hkI : (k : Int) < (L.length : Int) := by omega
              have hk0 : (0 : Int) ≤ (k : Int) := by omega
              have HS := hid0 (fun W hW => HSf.out k hlt W hW)
              have hse := (fSec_at entE L k hlt).trans (secE_eq entE L[k] (L.take k))
              cases hp : secP L[k] (L.take k) with
              | some i =>
                rw [hp] at HS hse
                simp only [numO] at HS hse
                have hne := refNo_ne i (secP_lt hp)
                have HV : Hid (N = refNo i) := hid0 (by rw [HR.out, firstN_at _ k i hse _ 0 (Nat.zero_le _) (by omega) (fun j _ h => HK.out j h)]; rfl)
                clear hp hse HK HR
                generalize refNo i = ri at *
                go_wp2_with (first
                  | (go_at_call 37; refine (HS.out _ HB.out).mono ?_; rintro e w3 ⟨rfl, hb3⟩; have HB3 := hid0 hb3; clear hb3)
                  | fail)
                go_ret
                exact ⟨by rw [HV.out]; rfl, Below.later HB0.out HB3.out⟩
              | none =>
                rw [hp] at HS hse
                simp only [numO] at HS hse
                have HSE := hid0 hse
                clear hp hse
                go_wp2_with (first
                  | (go_at_call 37; refine (HS.out _ HB.out).mono ?_; rintro e w3 ⟨rfl, hb3⟩; have HB3 := hid0 hb3; clear hb3)
                  | fail)
                go_loopw [7] (fun v wr => ∃ j : Nat, j ≤ L[k].ed.length ∧ v = .int .i64 (j : Int) ∧ Hid (∀ j', j' < j → fE entE L[k].ed j' = none) ∧ Hid (Below wa.heap.size wa wr)) (fun v _ => L[k].ed.length - (intOf v).toNat)
                case atStart => exact ⟨0, Nat.zero_le _, rfl, hid0 (fun j h => absurd h (Nat.not_lt_zero _)), HB3⟩
                case round =>
                  clear HB y0 HB3
                  obtain ⟨j, hj, rfl, HJ, HB⟩ := hrel
                  have y0 := HX0.out wr HB.out
                  obtain ⟨b, off, ae, ce, rfl, hbl, c0, c1, c2, hea⟩ := (HXA.out wr HB.out).at' k hlt
                  have z2 := HLb.out k hlt
                  by_cases hlj : j < L[k].ed.length
                  · have hjI : (j : Int) < (L[k].ed.length : Int) := by omega
                    have hj0 : (0 : Int) ≤ (j : Int) := by omega
                    obtain ⟨b2, off2, rfl, hbl2, d0, d1⟩ := hea.at' j hlj
                    have HE := hid0 (fun W hW => HEf.out k hlt j hlj W hW)
                    cases hq : fE entE L[k].ed j with
                    | some i =>
                      rw [hq] at HE
                      simp only [numO] at HE
                      have hq2 := hq
                      rw [fE_at entE _ j hlj] at hq2
                      have hne := refNo_ne i (entF_lt hq2)
                      have HV : Hid (N = refNo i) := hid0 (by
                        have e1 := HSE.out
                        rw [firstN_at _ j i hq _ 0 (Nat.zero_le _) (by omega) (fun j' _ h => HJ.out j' h)] at e1
                        rw [HR.out, firstN_at _ k i e1 _ 0 (Nat.zero_le _) (by omega) (fun j _ h => HK.out j h)]; rfl)
                      clear hq hq2 HSE HJ HK HR
                      generalize refNo i = ri at *
                      generalize L[k].ed[j].2 = en at *
                      go_wp2_with (first
                        | (go_at_call 38; refine (HE.out _ HB.out).mono ?_; rintro e w4 ⟨rfl, hb4⟩; have HB4 := hid0 hb4; clear hb4)
                        | fail)
                      go_ret
                      exact ⟨by rw [HV.out]; rfl, Below.later HB0.out HB4.out⟩
                    | none =>
                      rw [hq] at HE
                      simp only [numO] at HE
                      have HJ2 : Hid (∀ j', j' < j + 1 → fE entE L[k].ed j' = none) := hid0 (fun j' h => by
                        by_cases e : j' = j
                        · rw [e, hq]
                        · exact HJ.out j' (by omega))
                      clear hq
                      generalize L[k].ed[j].2 = en at *
                      go_wp2_with (first
                        | (go_at_call 38; refine (HE.out _ HB.out).mono ?_; rintro e w4 ⟨rfl, hb4⟩; have HB4 := hid0 hb4; clear hb4)
                        | fail)
                      go_roundw
                      case rel => exact ⟨j + 1, by omega, by go_num, HJ2, HB4⟩
                      case measure => simp [intOf]; omega
                  · have hjI : ¬ (j : Int) < (L[k].ed.length : Int) := by omega
                    have HK2 : Hid (∀ j, j < k + 1 → fSec entE L j = none) := hid0 (fun j' h => by
                      by_cases e : j' = k
                      · rw [e, HSE.out]
                        exact firstN_none _ _ 0 (fun j'' _ h2 => HJ.out j'' (by omega))
                      · exact HK.out j' (by omega))
                    clear HJ HK HSE
                    go_wp2
                    go_roundw
                    case rel => exact ⟨k + 1, by omega, by go_num, HK2, HB⟩
                    case measure => simp [intOf]; omega
            · have hkI : ¬ (k : Int) < (L.length : Int) := by omega
              have HV : Hid (N = 0) := hid0 (by rw [HR.out, firstN_none _ _ 0 (fun j _ h => HK.out j (by omega))]; rfl)
              clear HK HR
              go_wp2
              go_ret
              exact ⟨by rw [HV.out]; rfl, Below.later HB0.out HB.out⟩
end Go.Proofs.YtlnejmmhhmmomaaGreatDoor
namespace Go.Proofs.YtlnejmmhhmmomaaGreatDoor
open Go.RowKit Go.Shelf Go.Lib
set_option maxRecDepth 10000 in
set_option maxHeartbeats 800000 in
theorem refSection_any (L : List Sec) (a : Option Addr) (c : Nat) (t : ByteArray) (w : World) (hl : L.length ≤ 1000000) (ha : XA w a L) :
    Calls Tryz.prog 19 #[.agg #[.slice a L.length c], .string t] w fun e w' => (∃ r : Int, e = .returned (.int .i64 r) ∧ IdxIs L t r) ∧ Below w.heap.size w w' := by
  obtain ⟨wa, hwa⟩ : ∃ wa, wa = w.alloc (.cells #[.slice a L.length c] 24) := ⟨_, rfl⟩
  have b0a : Below w.heap.size w wa := by rw [hwa]; exact (Below.refl _ _).alloc (Nat.le_refl _) _
  have r0 : wa.heap[w.heap.size]? = some (.cells #[.slice a L.length c] 24 (0, 0)) := by rw [hwa]; exact heap_alloc_new w _
  have x0 : wa.cell? ⟨w.heap.size, 0, none⟩ = some (.slice a L.length c) := by rw [cell_of_row _ _ _ _ _ _ r0]; rfl
  have HA := hid0 (ha.later b0a)
  have HB := hid0 b0a
  have hf1 := hwa.symm
  clear ha hwa b0a r0
  go_enter Tryz.func19, Tryz.ntmps19
  go_wp2
  go_loop [5] (fun v => ∃ k : Nat, k ≤ L.length ∧ v = .int .i64 (k : Int) ∧ Hid (∀ j (h : j < L.length), j < k → L[j].loc ≠ t)) (fun v => L.length - (intOf v).toNat)
  case atStart => exact ⟨0, Nat.zero_le _, rfl, hid0 (fun j _ h => absurd h (Nat.not_lt_zero _))⟩
  case round =>
    obtain ⟨k, hk, rfl, HK⟩ := hrel
    by_cases hlt : k < L.length
    · have hkI : (k : Int) < (L.length : Int) := by omega
      have hk0 : (0 : Int) ≤ (k : Int) := by omega
      obtain ⟨b, off, ae, ce, rfl, hbl, c0, c1, c2, _⟩ := HA.out.at' k hlt
      have hse := str_eq L[k].loc t
      by_cases e : L[k].loc = t
      · have HV : Hid (IdxIs L t (k : Int)) := hid0 (.inl ⟨k, hlt, rfl, e, HK.out⟩)
        rw [decide_eq_true e] at hse
        clear HK e
        generalize L[k].loc = m at *
        go_wp2
        go_ret
        exact ⟨⟨_, rfl, HV.out⟩, HB.out⟩
      · have HK2 : Hid (∀ j (h : j < L.length), j < k + 1 → L[j].loc ≠ t) := hid0 (fun j h hj => by
          by_cases q : j = k
          · subst q; exact e
          · exact HK.out j h (by omega))
        rw [decide_eq_false e] at hse
        clear HK e
        generalize L[k].loc = m at *
        go_wp2
        go_round
        case rel => exact ⟨k + 1, by omega, by go_num, HK2⟩
        case measure => simp [intOf]; omega
    · have hkI : ¬ (k : Int) < (L.length : Int) := by omega
      have HV : Hid (IdxIs L t (-1)) := hid0 (.inr ⟨rfl, fun j h => HK.out j h (by omega)⟩)
      clear HK
      go_wp2
      go_ret
      exact ⟨⟨-1, rfl, HV.out⟩, HB.out⟩
set_option maxRecDepth 10000 in
set_option maxHeartbeats 800000 in
theorem refParent_any (L : List Sec) (a : Option Addr) (c : Nat) (t : ByteArray) (w : World) (hl : L.length ≤ 1000000) (hs : t.size ≤ 1000000) (ha : XA w a L) :
    Calls Tryz.prog 26 #[.agg #[.slice a L.length c], .string t] w fun e w' => e = .returned (.string (parL L t)) ∧ Below w.heap.size w w' := by
  obtain ⟨wa, hwa⟩ : ∃ wa, wa = w.alloc (.cells #[.slice a L.length c] 24) := ⟨_, rfl⟩
  have b0a : Below w.heap.size w wa := by rw [hwa]; exact (Below.refl _ _).alloc (Nat.le_refl _) _
  have r0 : wa.heap[w.heap.size]? = some (.cells #[.slice a L.length c] 24 (0, 0)) := by rw [hwa]; exact heap_alloc_new w _
  have x0 : wa.cell? ⟨w.heap.size, 0, none⟩ = some (.slice a L.length c) := by rw [cell_of_row _ _ _ _ _ _ r0]; rfl
  obtain ⟨r, hr⟩ := idx_ex L t
  have HS : Hid (Calls Tryz.prog 19 #[.agg #[.slice a L.length c], .string t] wa fun e w' => e = .returned (.int .i64 r) ∧ Below wa.heap.size wa w') := hid0 ((refSection_any L a c t wa hl (ha.later b0a)).mono (fun e w' h => by
    obtain ⟨⟨r', h1, h2⟩, h3⟩ := h
    exact ⟨by rw [h1, idx_uniq h2 hr], h3⟩))
  have HX : Hid (∀ W, Below wa.heap.size wa W → W.cell? ⟨w.heap.size, 0, none⟩ = some (.slice a L.length c) ∧ XA W a L) := hid0 (fun W hW => by
    have q0 := (hW.block _ (Array.getElem?_eq_some_iff.1 r0).1).trans r0
    exact ⟨by rw [cell_of_row _ _ _ _ _ _ q0]; rfl, (ha.later b0a).later hW⟩)
  have HC := hid0 (fun W => refCut_any t hs W)
  have HB := hid0 b0a
  have hf1 := hwa.symm
  clear hwa b0a r0 hs
  obtain ⟨R, hR⟩ : ∃ R, R = parL L t := ⟨_, rfl⟩
  rw [← hR]
  unfold parL at hR
  rcases hr with ⟨k, hk, rfl, e, hn⟩ | ⟨rfl, hn⟩
  · rw [secOf_at hk e hn] at hR
    simp only at hR
    have hk0 : (0 : Int) ≤ (k : Int) := by omega
    have hkI : (k : Int) < (L.length : Int) := by omega
    obtain ⟨b, off, ae, ce, rfl, hbl, _, _, _, _⟩ := ha.at' k hk
    have HXC : Hid (∀ W, Below wa.heap.size wa W → W.cell? ⟨b, off + k * 3 + 1, none⟩ = some (.string L[k].par)) := hid0 (fun W hW => by
      obtain ⟨b', off', _, _, e0, _, _, q1, _⟩ := (HX.out W hW).2.at' k hk
      simp only [Option.some.injEq, Addr.mk.injEq, and_true] at e0
      obtain ⟨rfl, rfl⟩ := e0
      exact q1)
    clear ha hn e
    generalize L[k].par = p at *
    cases hp : (p.toList == []) with
    | true =>
      rw [hp] at hR
      simp only [if_true] at hR
      have HR := hid0 hR
      clear hR
      go_enter Tryz.func26, Tryz.ntmps26
      go_wp2_with (first
        | (go_at_call 19; refine HS.out.mono ?_; rintro e w1 ⟨rfl, hb1⟩; have HB1 := hid0 (Below.later HB.out hb1); have y0 := (HX.out w1 hb1).1; have y1 := HXC.out w1 hb1; clear hb1)
        | (go_at_call 40; refine (HC.out _).mono ?_; rintro e w2 ⟨rfl, rfl⟩)
        | fail)
      go_ret
      exact ⟨by rw [HR.out]; rfl, HB1.out⟩
    | false =>
      rw [hp] at hR
      simp only [Bool.false_eq_true, if_false] at hR
      have HR := hid0 hR
      clear hR
      go_enter Tryz.func26, Tryz.ntmps26
      go_wp2_with (first
        | (go_at_call 19; refine HS.out.mono ?_; rintro e w1 ⟨rfl, hb1⟩; have HB1 := hid0 (Below.later HB.out hb1); have y0 := (HX.out w1 hb1).1; have y1 := HXC.out w1 hb1; clear hb1)
        | fail)
      go_ret
      exact ⟨by rw [HR.out]; rfl, HB1.out⟩
  · rw [secOf_none hn] at hR
    simp only at hR
    have HR := hid0 hR
    clear hR ha hn
    go_enter Tryz.func26, Tryz.ntmps26
    go_wp2_with (first
      | (go_at_call 19; refine HS.out.mono ?_; rintro e w1 ⟨rfl, hb1⟩; have HB1 := hid0 (Below.later HB.out hb1); have y0 := (HX.out w1 hb1).1; clear hb1)
      | (go_at_call 40; refine (HC.out _).mono ?_; rintro e w2 ⟨rfl, rfl⟩)
      | fail)
    go_ret
    exact ⟨by rw [HR.out]; rfl, HB1.out⟩
theorem stands_hit (L : List ByteArray) (x : ByteArray) (k : Nat) (h : k < L.length) (e : L[k] = x) : Lib.containsS L x = true := by
  have h0 : ¬ Lib.idxOfS L x < 0 := by
    have key : ∀ (L : List ByteArray) (i k : Nat) (h : k < L.length), L[k] = x → ¬ Lib.idxFromS L x i < 0 := by
      intro L
      induction L with
      | nil => intro i k h; simp at h
      | cons z zs ih =>
        intro i k h e
        rw [Lib.idxFromS]
        by_cases q : z = x
        · rw [if_pos q]; omega
        · rw [if_neg q]
          cases k with
          | zero => exact absurd e q
          | succ k => exact ih (i + 1) k (by simpa using h) (by simpa using e)
    exact key L 0 k h e
  show decide (0 ≤ Lib.idxOfS L x) = true
  exact decide_eq_true (by omega)
theorem stands_miss (L : List ByteArray) (x : ByteArray) (h : ∀ k (h : k < L.length), L[k] ≠ x) : Lib.containsS L x = false := by
  have h0 : Lib.idxOfS L x = -1 := Lib.idxFromS_miss x L 0 (fun j hj => by
    have := h j hj
    simpa [List.getD, hj] using this)
  show decide (0 ≤ Lib.idxOfS L x) = false
  rw [h0]; rfl
set_option maxRecDepth 10000 in
set_option maxHeartbeats 800000 in
theorem stands_any (L : List ByteArray) (a : Option Addr) (cap : Nat) (x : ByteArray) (w : World) (hl : L.length ≤ 1000000) (ha : SA w a L) :
    Calls Tryz.prog 27 #[.slice a L.length cap, .string x] w fun e w' => e = .returned (.bool (Lib.containsS L x)) ∧ w' = w := by
  have HS := hid0 ha
  have HH := hid0 (stands_hit L x)
  have HM := hid0 (stands_miss L x)
  clear ha
  generalize Lib.containsS L x = q at *
  go_enter Tryz.func27, Tryz.ntmps27
  go_wp2
  go_loop [5] (fun v => ∃ k : Nat, k ≤ L.length ∧ v = .int .i64 (k : Int) ∧ Hid (∀ j (h : j < L.length), j < k → L[j] ≠ x)) (fun v => L.length - (intOf v).toNat)
  case atStart => exact ⟨0, Nat.zero_le _, rfl, hid0 (fun j _ h => absurd h (Nat.not_lt_zero _))⟩
  case round =>
    obtain ⟨k, hk, rfl, HK⟩ := hrel
    by_cases hlt : k < L.length
    · have hkI : (k : Int) < (L.length : Int) := by omega
      have hk0 : (0 : Int) ≤ (k : Int) := by omega
      obtain ⟨b, off, rfl, _, hc⟩ := HS.out.at' k hlt
      have hse := str_eq L[k] x
      by_cases e : L[k] = x
      · have HV : Hid (q = true) := hid0 (HH.out k hlt e)
        rw [decide_eq_true e] at hse
        clear HK e HH HM
        generalize L[k] = m at *
        go_wp2
        go_ret
        exact ⟨by rw [HV.out]; rfl, rfl⟩
      · have HK2 : Hid (∀ j (h : j < L.length), j < k + 1 → L[j] ≠ x) := hid0 (fun j h hj => by
          by_cases q : j = k
          · subst q; exact e
          · exact HK.out j h (by omega))
        rw [decide_eq_false e] at hse
        clear HK e
        generalize L[k] = m at *
        go_wp2
        go_round
        case rel => exact ⟨k + 1, by omega, by go_num, HK2⟩
        case measure => simp [intOf]; omega
    · have hkI : ¬ (k : Int) < (L.length : Int) := by omega
      have HV : Hid (q = false) := hid0 (HM.out (fun j h => HK.out j h (by omega)))
      clear HK HH HM
      go_wp2
      go_ret
      exact ⟨by rw [HV.out]; rfl, rfl⟩
end Go.Proofs.YtlnejmmhhmmomaaGreatDoor
namespace Go.Proofs.YtlnejmmhhmmomaaGreatDoor
open Go.RowKit Go.Shelf Go.Lib
def RefChain (base : Nat) (w' : World) (r : CR) (e : Ending) : Prop := match r with
  | .ok l => ∃ v, e = .returned (.tuple #[v, .int .i64 0]) ∧ OwnS w' base v l
  | .bad i => e = .returned (.tuple #[.slice none 0 0, .int .i64 (refNo i)])
theorem firstN_some (f : Nat → Option Nat) (x : Nat) : ∀ (m i : Nat), firstN f i m = some x → ∃ j, f j = some x
  | 0, _, h => by simp [firstN] at h
  | m + 1, i, h => by
    rw [firstN] at h
    cases hx : f i with
    | some y => rw [hx] at h; exact ⟨i, by rw [hx]; exact h⟩
    | none => rw [hx] at h; exact firstN_some f x m (i + 1) h
theorem chkE_lt {L : List Sec} {i : Nat} (h : chkE entE L = some i) : i < 11 := by
  unfold chkE at h
  split at h
  · cases h; decide
  · obtain ⟨j, hj⟩ := firstN_some _ _ _ _ h
    unfold fSec at hj
    split at hj
    · rw [secE_eq] at hj
      split at hj
      · rename_i hp
        cases hj
        exact secP_lt hp
      · obtain ⟨k, hk⟩ := firstN_some _ _ _ _ hj
        unfold fE at hk
        split at hk
        · exact entF_lt hk
        · cases hk
    · cases hj
set_option maxRecDepth 10000 in
set_option maxHeartbeats 3200000 in
theorem refChain_any (L : List Sec) (a : Option Addr) (c : Nat) (t : ByteArray) (w : World) (hl : L.length ≤ 1000000) (hb : ∀ s ∈ L, s.ed.length ≤ 1000000000) (hz : ∀ s ∈ L, ∀ e ∈ s.ed, e.2.size ≤ 4194400) (ha : XA w a L) :
    Calls Tryz.prog 12 #[.agg #[.slice a L.length c], .string t] w fun e w' => RefChain w.heap.size w' (chainF L t) e ∧ Below w.heap.size w w' := by
  obtain ⟨w0, hw0⟩ : ∃ w0, w0 = w.alloc (.cells #[.slice a L.length c] 24) := ⟨_, rfl⟩
  have hB0 : Below w.heap.size w w0 := by rw [hw0]; exact (Below.refl _ _).alloc (Nat.le_refl _) _
  have hX0 : w0.heap[w.heap.size]? = some (.cells #[.slice a L.length c] 24 (0, 0)) := by rw [hw0]; exact heap_alloc_new w _
  have hs0 : w0.heap.size = w.heap.size + 1 := by rw [hw0]; simp
  have HXW : Hid (∀ W, Below w0.heap.size w0 W → W.cell? ⟨w.heap.size, 0, none⟩ = some (.slice a L.length c)) := hid0 (fun W hW => by
    have hr := (hW.block w.heap.size (by omega)).trans hX0
    rw [cell_of_row _ _ _ _ _ _ hr]; rfl)
  have HCk := hid0 (refCheck_any L a c w0 hl hb hz (ha.later hB0))
  have HCa := hid0 (fun W => refCanon_any t W)
  have HPo : Hid (∀ x W, Gd x → Below w0.heap.size w0 W → Calls Tryz.prog 26 #[.agg #[.slice a L.length c], .string x] W fun e w' => e = .returned (.string (parL L x)) ∧ Below W.heap.size W w') := hid0 (fun x W hx hW => refParent_any L a c x W hl (by have := hx.size; omega) ((ha.later hB0).later hW))
  have HB0 := hid0 hB0
  have x0 := HXW.out w0 (Below.refl _ _)
  have hfold := hw0.symm
  have hsz : w.heap.size ≤ w0.heap.size := by omega
  clear hw0 hB0 hX0 hs0 ha hb hz
  obtain ⟨R, hR⟩ : ∃ R, R = chainF L t := ⟨_, rfl⟩
  rw [← hR]
  unfold chainF at hR
  cases hk : chkE entE L with
  | some i =>
    have hne := refNo_ne i (chkE_lt hk)
    rw [hk] at hR HCk
    simp only [numO] at hR HCk
    subst hR
    clear hk HPo HCa
    show Calls _ _ _ _ fun e w' => e = .returned (.tuple #[.slice none 0 0, .int .i64 (refNo i)]) ∧ Below w.heap.size w w'
    generalize refNo i = ri at *
    go_enter Tryz.func12, Tryz.ntmps12
    go_wp2_with (first
      | (go_at_call 24; refine HCk.out.mono ?_; rintro e w1 ⟨rfl, hb1⟩; have HB1 := hid0 (Below.later HB0.out hb1); clear hb1)
      | fail)
    go_returns
    exact ⟨rfl, HB1.out⟩
  | none =>
    have HG := hid0 (fun (x : ByteArray) (hx : Gd x) => gd_par hk hx)
    rw [hk] at hR HCk
    simp only [numO] at hR HCk
    clear hk
    cases hq : tagF t.data.toList with
    | none =>
      rw [hq] at hR HCa
      simp only [canV] at hR HCa
      subst hR
      clear hq HPo HG
      go_enter Tryz.func12, Tryz.ntmps12
      go_wp2_with (first
        | (go_at_call 24; refine HCk.out.mono ?_; rintro e w1 ⟨rfl, hb1⟩; have HB1 := hid0 hb1; clear hb1)
        | (go_at_call 25; refine (HCa.out _).mono ?_; rintro e w2 ⟨rfl, hb2⟩; have HB2 := hid0 (Below.later HB0.out (Below.later HB1.out hb2)); clear hb2)
        | fail)
      go_returns
      exact ⟨rfl, HB2.out⟩
    | some x =>
      rw [hq] at hR HCa
      simp only [canV] at hR HCa
      have HGx := hid0 (gd_tag hq)
      have HR := hid0 hR
      obtain ⟨i0, hi, hz0, hz1, hz2⟩ := info_parts infoStr
      clear hq hR
      generalize strOf x = X at *
      go_enter Tryz.func12, Tryz.ntmps12
      go_wp2_with (first
        | (go_at_call 24; refine HCk.out.mono ?_; rintro e w1 ⟨rfl, hb1⟩; have HB1 := hid0 hb1; clear hb1)
        | (go_at_call 25; refine (HCa.out _).mono ?_; rintro e w2 ⟨rfl, hb2⟩; have HB2 := hid0 (Below.later HB1.out hb2); clear hb2)
        | fail)
      have HO0 : Hid (OwnS (w2.alloc (.cells #[.string X] 9)) w0.heap.size (.slice (some ⟨w2.heap.size, 0, none⟩) 1 1) [X]) := hid0 (by
        have h0 := World.ownsRow_lit (base := w0.heap.size) (e := 9) (size := 1) w2 #[.string X] 1 HB2.out.size (by unfold maxLen; omega) rfl
        simpa [OwnS, cellsS] using h0)
      have HB3 := hid0 (HB2.out.alloc HB2.out.size (.cells #[.string X] 9))
      go_loopw [7, 9, 10] (fun t7 v t10 wr => ∃ (f m : Nat) (ch : List ByteArray) (y : ByteArray), t7 = .string y ∧ t10 = .int .i64 (m : Int) ∧ ch.length = m + 1 ∧ ch.length + f = 18 ∧ m ≤ 15 ∧ Hid (R = chainGo L f ch y) ∧ Hid (Gd y) ∧ Hid (OwnS wr w0.heap.size v ch) ∧ Hid (Below w0.heap.size w0 wr)) (fun _ v _ _ => 17 - lenOf v)
      case atStart => exact ⟨17, 0, [X], X, rfl, rfl, rfl, rfl, by omega, HR, HGx, HO0, HB3⟩
      case round =>
        clear HO0 HB3 HB1 HB2 HR HGx HCk HCa
        obtain ⟨f, m, ch, y, rfl, rfl, hcm, hf, h15, HRr, HGy, HO, HB⟩ := hrel
        obtain ⟨av, cap, rfl, hsa, _⟩ := HO.out.sa
        obtain ⟨f, rfl⟩ : ∃ g, f = g + 1 := ⟨f - 1, by omega⟩
        have z0 := HXW.out wr HB.out
        have hstep := HRr.out
        rw [chainGo] at hstep
        have hm16 : (m : Int) ≤ 16 := by omega
        clear HRr
        cases hy : (y.toList == [114, 111, 111, 116]) with
        | true =>
          rw [hy, if_pos rfl] at hstep
          have HV := hid0 hstep
          clear hstep hcm
          go_wp2
          go_returns
          refine ⟨?_, Below.later HB0.out HB.out⟩
          rw [HV.out]
          exact ⟨_, rfl, HO.out.base' hsz⟩
        | false =>
          rw [hy, if_neg (by simp)] at hstep
          have HPx := hid0 (fun W hW => HPo.out y W HGy.out hW)
          have HGn := hid0 (HG.out y HGy.out)
          generalize parL L y = nx at *
          have HCo := hid0 (fun W (hW : Below wr.heap.size wr W) => stands_any ch av cap nx W (by omega) (hsa.below hW))
          clear hsa
          cases hcn : Lib.containsS ch nx with
          | true =>
            rw [hcn, if_pos rfl] at hstep
            rw [hcn] at HCo
            have HV := hid0 hstep
            clear hstep hcn hcm
            go_wp2_with (first
              | (go_at_call 26; refine (HPx.out _ HB.out).mono ?_; rintro e w3 ⟨rfl, hb3⟩; have HW3 := hid0 hb3; have HB3 := hid0 (Below.later HB.out hb3); clear hb3)
              | (go_at_call 27; refine (HCo.out _ HW3.out).mono ?_; rintro e w4 ⟨rfl, hw4⟩; have hw5 := hw4.symm; subst hw5)
              | fail)
            go_returns
            exact ⟨by rw [HV.out]; rfl, Below.later HB0.out HB3.out⟩
          | false =>
            rw [hcn, if_neg (by simp)] at hstep
            rw [hcn] at HCo
            by_cases h6 : ch.length = 16
            · rw [if_pos h6] at hstep
              have h6I : (16 : Int) ≤ (ch.length : Int) := by omega
              have HV := hid0 hstep
              clear hstep hcn h6 hcm
              go_wp2_with (first
                | (go_at_call 26; refine (HPx.out _ HB.out).mono ?_; rintro e w3 ⟨rfl, hb3⟩; have HW3 := hid0 hb3; have HB3 := hid0 (Below.later HB.out hb3); clear hb3)
                | (go_at_call 27; refine (HCo.out _ HW3.out).mono ?_; rintro e w4 ⟨rfl, hw4⟩; have hw5 := hw4.symm; subst hw5)
                | fail)
              go_returns
              exact ⟨by rw [HV.out]; rfl, Below.later HB0.out HB3.out⟩
            · rw [if_neg h6] at hstep
              have h6I : ¬ (16 : Int) ≤ (ch.length : Int) := by omega
              have HV := hid0 hstep
              have HOW : Hid (∀ W, Below wr.heap.size wr W → OwnS W w0.heap.size (.slice av ch.length cap) ch) := hid0 (fun W hW => HO.out.later' hW)
              have HCM := hid0 hcm
              clear hstep hcn HO hcm
              go_wp2_with (first
                | (go_at_call 26; refine (HPx.out _ HB.out).mono ?_; rintro e w3 ⟨rfl, hb3⟩; have HW3 := hid0 hb3; have HB3 := hid0 (Below.later HB.out hb3); clear hb3)
                | (go_at_call 27; refine (HCo.out _ HW3.out).mono ?_; rintro e w4 ⟨rfl, hw4⟩; have hw5 := hw4.symm; subst hw5)
                | (at_builtin; refine wpList_append_own _ rfl _ _ 28 rfl w0.heap.size 9 i0 (.string ⟨#[]⟩) 1 16 Tryz.underlying28 hi hz0 hz1 hz2 rfl (by decide) _ _ _ rfl (World.ownsRow.alloc (HOW.out _ HW3.out) _) ⟨_, 0, none⟩ 1 1 [.string nx] rfl rfl (cell_one_new _ _ _) ?c2b ?c3b ?c4b ?c5b ?_)
                | fail)
              case c2b => simp [Value.oneCell']
              case c3b => unfold maxLen; omega
              case c4b => omega
              case c5b => have := HB3.out.size; simp; omega
              intro v2 w4 hown' hgrow _
              obtain ⟨g1, g2⟩ := owns_snoc (base := w0.heap.size) (L := ch) (c := nx) (n := ch.length) rfl (HOW.out _ HW3.out) hown' hgrow HB3.out (Nat.le_refl _)
              have HO4 := hid0 g1
              have HB4 := hid0 g2
              obtain ⟨av2, cap2, rfl, _⟩ := g1.sa
              clear hown' hgrow g1 g2 HOW HB3 HW3
              go_wp2
              go_roundw
              case rel => exact ⟨f, m + 1, ch ++ [nx], nx, rfl, by go_num, by have := HCM.out; simp; omega, by simp; omega, by have := HCM.out; omega, HV, HGn, HO4, HB4⟩
              case measure => have := HCM.out; simp [lenOf]; omega
end Go.Proofs.YtlnejmmhhmmomaaGreatDoor
namespace Go.Proofs.YtlnejmmhhmmomaaGreatDoor
open Go.RowKit Go.Shelf Go.Lib
def lstR : CR → List ByteArray
  | .ok l => l
  | .bad _ => []
def errR (A : Nat → Addr) : CR → Value
  | .ok _ => .nilIface
  | .bad i => .iface 185 (.pointer (some (A i)))
def numR : CR → Int
  | .ok _ => 0
  | .bad i => refNo i
theorem goChain_lst {A : Nat → Addr} {base : Nat} {w' : World} {r : CR} {e : Ending} (h : GoChain A base w' r e) : ∃ a cap, e = .returned (.tuple #[.slice a (lstR r).length cap, errR A r]) ∧ SA w' a (lstR r) := by
  cases r with
  | ok l =>
    obtain ⟨v, rfl, ho⟩ := h
    obtain ⟨a, cap, rfl, hs, _⟩ := ho.sa
    exact ⟨a, cap, rfl, hs⟩
  | bad i => exact ⟨none, 0, h, ⟨fun k hk => absurd hk (Nat.not_lt_zero _)⟩⟩
theorem refChain_lst {base : Nat} {w' : World} {r : CR} {e : Ending} (h : RefChain base w' r e) : ∃ a cap, e = .returned (.tuple #[.slice a (lstR r).length cap, .int .i64 (numR r)]) ∧ SA w' a (lstR r) := by
  cases r with
  | ok l =>
    obtain ⟨v, rfl, ho⟩ := h
    obtain ⟨a, cap, rfl, hs, _⟩ := ho.sa
    exact ⟨a, cap, rfl, hs⟩
  | bad i => exact ⟨none, 0, h, ⟨fun k hk => absurd hk (Nat.not_lt_zero _)⟩⟩
theorem chainGo_ok (L : List Sec) : ∀ (f : Nat) (ch : List ByteArray) (last : ByteArray), ch.length ≤ 16 → (∀ i, chainGo L f ch last = .bad i → i < 11) ∧ (lstR (chainGo L f ch last)).length ≤ 16
  | 0, _, _, _ => ⟨fun i h => by simp only [chainGo, CR.bad.injEq] at h; omega, by simp [chainGo, lstR]⟩
  | f + 1, ch, last, hc => by
    rw [chainGo]
    split
    · exact ⟨(fun i h => by cases h), by simpa [lstR] using hc⟩
    · split
      · exact ⟨fun i h => by simp only [CR.bad.injEq] at h; omega, by simp [lstR]⟩
      · split
        · exact ⟨fun i h => by simp only [CR.bad.injEq] at h; omega, by simp [lstR]⟩
        · rename_i hn
          exact chainGo_ok L f _ _ (by rw [List.length_append, List.length_singleton]; omega)
theorem chainF_ok (L : List Sec) (t : ByteArray) : (∀ i, chainF L t = .bad i → i < 11) ∧ (lstR (chainF L t)).length ≤ 16 := by
  unfold chainF
  cases hk : chkE entE L with
  | some i => exact ⟨fun j h => by simp only [CR.bad.injEq] at h; have := chkE_lt hk; omega, by simp [lstR]⟩
  | none =>
    simp only
    cases hq : tagF t.data.toList with
    | none => exact ⟨fun j h => by simp only [CR.bad.injEq] at h; omega, by simp [lstR]⟩
    | some c => exact chainGo_ok L 17 _ _ (by simp)
theorem num_r {w : World} {A : Nat → Addr} (h : Sents w A) (r : CR) (hr : ∀ i, r = .bad i → i < 11) : Calls Tryz.prog 10 #[errR A r] w fun e w' => e = .returned (.int .i64 (numR r)) ∧ w' = w := by
  cases r with
  | ok l => exact kitNum_nil w
  | bad i => exact kitNum_at w A h i (hr i rfl)
def clr (s : Sec) : Sec := ⟨s.loc, ⟨#[]⟩, s.ed⟩
def clrA (x : SecAt) : SecAt := ⟨clr x.s, x.blk, x.cap⟩
theorem cellsX_set (S : List SecAt) : ∀ (k : Nat) (h : k < S.length), (cellsX S).set (k * 3 + 1) (.string ⟨#[]⟩) = cellsX (S.set k (clrA S[k])) := by
  induction S with
  | nil => intro k h; simp at h
  | cons u l ih =>
    intro k h
    have e : cellsX (u :: l) = .string u.s.loc :: .string u.s.par :: .slice (some ⟨u.blk, 0, none⟩) u.s.ed.length u.cap :: cellsX l := rfl
    cases k with
    | zero => rw [e]; rfl
    | succ k =>
      have h2 := ih k (by simpa using h)
      rw [e, show (k + 1) * 3 + 1 = (k * 3 + 1) + 1 + 1 + 1 by omega]
      simp only [List.set_cons_succ, List.getElem_cons_succ]
      rw [h2]
      rfl
theorem pw_set {S : List SecAt} (h : S.Pairwise fun x y => x.blk ≠ y.blk) (k : Nat) (hk : k < S.length) (y : SecAt) (hy : y.blk = S[k].blk) : (S.set k y).Pairwise fun x y => x.blk ≠ y.blk := by
  rw [← List.pairwise_map (f := SecAt.blk) (R := fun x y => x ≠ y)] at h ⊢
  have e : (S.set k y).map SecAt.blk = S.map SecAt.blk := by
    rw [List.map_set, hy]
    exact List.ext_getElem (by simp) (fun i h1 h2 => by rw [List.getElem_set]; split <;> simp_all)
  rw [e]
  exact h
theorem Giv.par {w : World} {lo g n cap m : Nat} {S : List SecAt} (h : Giv w lo (.slice (some ⟨g, 0, none⟩) n cap) S m) (hn : n = S.length + m) (k : Nat) (hk : k < S.length) : Giv (w.setCell ⟨g, k * 3 + 1, none⟩ (.string ⟨#[]⟩)) lo (.slice (some ⟨g, 0, none⟩) n cap) (S.set k (clrA S[k])) m := by
  subst hn
  have hl := cellsX_length S
  have h1 := (World.ownsRow.stored h.row (k * 3 + 1) (.string ⟨#[]⟩)).1
  rw [List.set_append_left _ _ (by omega), cellsX_set S k hk] at h1
  have key : ∀ x ∈ S.set k (clrA S[k]), ∃ y ∈ S, x.blk = y.blk ∧ x.cap = y.cap ∧ x.s.ed = y.s.ed := fun x hx => by
    rcases List.mem_or_eq_of_mem_set hx with h2 | h2
    · exact ⟨x, h2, rfl, rfl, rfl⟩
    · exact ⟨S[k], List.getElem_mem hk, by rw [h2]; rfl, by rw [h2]; rfl, by rw [h2]; rfl⟩
  refine ⟨by rw [List.length_set]; exact h1, fun x hx => ?_, fun x hx => ?_, pw_set h.pw k hk _ rfl⟩
  · obtain ⟨y, hy, e1, e2, e3⟩ := key x hx
    rw [e1, e2, e3]
    exact own_blk (h.ed y hy) (fun q hq => by cases hq; exact Below.heap_setCell w _ _ y.blk (fun e => h.ne y hy (by rw [e]; rfl)))
  · obtain ⟨y, hy, e1, _, _⟩ := key x hx
    rw [e1]
    exact h.ne y hy
theorem Giv.parCell {w : World} {lo g n cap m : Nat} {S : List SecAt} (h : Giv w lo (.slice (some ⟨g, 0, none⟩) n cap) S m) (hn : n = S.length + m) (k : Nat) (hk : k < S.length) : w.cell? ⟨g, k * 3 + 1, none⟩ = some (.string S[k].s.par) ∧ w.frozen? ⟨g, k * 3 + 1, none⟩ = false := by
  subst hn
  have hl := cellsX_length S
  exact ⟨by rw [World.ownsRow.cellAt h.row _ (by omega), List.getElem?_append_left (by omega)]; exact (cellsX_at S k hk).2.1, World.ownsRow.frozenAt h.row _⟩
theorem clr_step (L : List Sec) (k : Nat) (h : k < L.length) (S : List SecAt) (hS : S.map (·.s) = (L.take k).map clr ++ L.drop k) (hk : k < S.length) : (S.set k (clrA S[k])).map (·.s) = (L.take (k + 1)).map clr ++ L.drop (k + 1) := by
  have e1 : S[k].s = L[k] := by
    have h1 : (S.map (·.s))[k]'(by simpa using hk) = S[k].s := by simp
    have h2 : (S.map (·.s))[k]? = some L[k] := by
      rw [hS, List.getElem?_append_right (by simp; omega)]
      simp only [List.length_map, List.length_take]
      rw [show k - min k L.length = 0 by omega, List.getElem?_drop]
      simp [h]
    rw [List.getElem?_eq_getElem (by simpa using hk), Option.some.injEq] at h2
    rw [← h1, h2]
  rw [List.map_set, hS, show (clrA S[k]).s = clr L[k] by rw [← e1]; rfl, List.set_append_right _ _ (by simp; omega)]
  simp only [List.length_map, List.length_take]
  rw [show k - min k L.length = 0 by omega, List.drop_eq_getElem_cons h, List.set_cons_zero, List.take_succ_eq_append_getElem h, List.map_append, List.append_assoc]
  rfl
end Go.Proofs.YtlnejmmhhmmomaaGreatDoor
namespace Go.Proofs.YtlnejmmhhmmomaaGreatDoor
open Go.RowKit Go.Shelf Go.Lib Go.Maps Go.Sort
attribute [local go_sem] Oper.semAt_some
/-- The edits of a locale's section. -/
def edOf (L : List Sec) (x : ByteArray) : List (Bool × ByteArray) := match secOf L x with
  | some s => s.ed
  | none => []
/-- The edits along a chain, the root's first. -/
def edsF (L : List Sec) (c : List ByteArray) : List (Bool × ByteArray) := c.reverse.flatMap (edOf L)
/-- What Resolve answers. -/
def GoResolve (A : Nat → Addr) (base : Nat) (w' : World) (L : List Sec) (t : ByteArray) (e : Ending) : Prop := match chainF L t with
  | .bad i => e = .returned (.tuple #[.slice none 0 0, .iface 185 (.pointer (some (A i)))])
  | .ok c => ∃ v l, OwnS w' base v l ∧ Rising l ∧ (∀ x, x ∈ l ↔ lastE (edsF L c) x = some true) ∧
      e = .returned (if 2000 < l.length then .tuple #[.slice none 0 0, .iface 185 (.pointer (some (A 2)))] else .tuple #[v, .nilIface])
theorem secIs_ed {w : World} {L : List Sec} {x : ByteArray} {v : Value} (h : SecIs w (secOf L x) v) : ∃ lo pa ae ce, v = .agg #[.string lo, .string pa, .slice ae (edOf L x).length ce] ∧ EA w ae (edOf L x) := by
  unfold edOf
  cases hq : secOf L x with
  | none =>
    rw [hq] at h
    exact ⟨_, _, none, 0, h, ⟨fun k hk => absurd hk (Nat.not_lt_zero _)⟩⟩
  | some s =>
    rw [hq] at h
    obtain ⟨ae, ce, hv, hea⟩ := h
    exact ⟨_, _, ae, ce, hv, hea⟩
theorem edOf_le {L : List Sec} {x : ByteArray} {n : Nat} (h : ∀ s ∈ L, s.ed.length ≤ n) : (edOf L x).length ≤ n := by
  unfold edOf
  split
  · rename_i s hs
    exact h s (List.mem_of_find?_eq_some hs)
  · simp
theorem edOf_sz {L : List Sec} {x : ByteArray} {n : Nat} (h : ∀ s ∈ L, ∀ e ∈ s.ed, e.2.size ≤ n) : ∀ e ∈ edOf L x, e.2.size ≤ n := by
  unfold edOf
  split
  · rename_i s hs
    exact h s (List.mem_of_find?_eq_some hs)
  · intro e he; cases he
/-- What the range keeps. -/
def ResI (L : List Sec) (w0 : World) (Bm R : Nat) (pre : List (Nat × ByteArray)) (W : World) : Prop :=
  MapIs W Bm (pre.length * 1000000000) ((pre.map (·.2)).flatMap (edOf L)) ∧ Below w0.heap.size w0 W ∧ W.heap[Bm + 1]? = some (.cells #[.map (some Bm)] 48 (0, 0)) ∧ R ≤ W.heap.size
theorem resI_own (L : List Sec) (w0 : World) (Bm R : Nat) (h0 : w0.heap.size ≤ R) (hR : Bm + 2 ≤ R) : OwnFrom R (ResI L w0 Bm R) := fun pre W W' row ⟨⟨D, hD, hs⟩, hb, hv, hz⟩ hg hr => by
  have hlow : ∀ k, k < R → row ≠ some k := fun k hk e => by have := (hr k e).1; omega
  refine ⟨⟨D, hD.kept hg (fun e => hlow Bm (by omega) e.symm), hs⟩, ⟨hg.os.trans hb.os, hg.tape.trans hb.tape, hg.output.trans hb.output, Nat.le_trans hb.size hg.size, fun k hk => (hg.block k (by omega) (fun e => hlow k (by omega) e.symm)).trans (hb.block k hk)⟩, (hg.block (Bm + 1) (by omega) (fun e => hlow (Bm + 1) (by omega) e.symm)).trans hv, Nat.le_trans hz hg.size⟩
theorem MapIs.below {W W' : World} {B n : Nat} {eds : List (Bool × ByteArray)} (h : MapIs W B n eds) (hb : Below W.heap.size W W') : MapIs W' B n eds := by
  obtain ⟨D, hD, hs⟩ := h
  exact ⟨D, hD.kept (row := none) ⟨hb.os, hb.tape, hb.output, hb.size, fun k hk _ => hb.block k hk⟩ (by simp), hs⟩
theorem kc_putObj (W : World) (l : Nat) (o o' : Obj) (hl : W.heap[l]? = some o) (hc : o.isCells = false) : KC W (W.putObj l o') := by
  refine ⟨fun i c t z hi => ?_, by simp [World.putObj]⟩
  have hne : i ≠ l := fun e => by
    subst e
    rw [hi] at hl
    cases hl
    simp [Obj.isCells] at hc
  simp only [World.putObj]
  rw [Array.getElem?_setIfInBounds_ne (fun e => hne e.symm)]
  exact hi
theorem chainGo_pos (L : List Sec) : ∀ (f : Nat) (ch : List ByteArray) (last : ByteArray) (cc : List ByteArray), 0 < ch.length → chainGo L f ch last = .ok cc → 0 < cc.length
  | 0, _, _, _, _, h => by simp [chainGo] at h
  | f + 1, ch, last, cc, hc, h => by
    rw [chainGo] at h
    split at h
    · cases h; exact hc
    · split at h
      · cases h
      · split at h
        · cases h
        · exact chainGo_pos L f _ _ cc (by simp) h
theorem chainF_len (L : List Sec) (t : ByteArray) : ∀ cc, chainF L t = .ok cc → cc.length ≤ 16 ∧ 0 < cc.length := fun cc h => by
  have h1 := (chainF_ok L t).2
  rw [h] at h1
  refine ⟨h1, ?_⟩
  unfold chainF at h
  cases hk : chkE entE L with
  | some i => rw [hk] at h; cases h
  | none =>
    rw [hk] at h
    simp only at h
    cases hq : tagF t.data.toList with
    | none => rw [hq] at h; cases h
    | some c =>
      rw [hq] at h
      exact chainGo_pos L 17 _ _ cc (by simp) h
theorem own_put {W : World} {lo t s n D : Nat} {v : Value} {xs : List Value} {o o' : Obj} (h : W.ownsRow lo t s v n xs) (hD : W.heap[D]? = some o) (hc : o.isCells = false) : (W.putObj D o').ownsRow lo t s v n xs := by
  refine ⟨h.1, ?_⟩
  rcases h.2 with h2 | ⟨g, cap, cur0, hv, hg, hr, r⟩
  · exact .inl h2
  · refine .inr ⟨g, cap, cur0, hv, hg, ?_, r⟩
    rw [World.putObj_heap_other (fun e => by subst e; rw [hr] at hD; cases hD; simp [Obj.isCells] at hc)]
    exact hr
theorem below_put {B D : Nat} {w W : World} (h : Below B w W) (o : Obj) (hD : B ≤ D) : Below B w (W.putObj D o) := ⟨h.os, h.tape, h.output, by rw [World.putObj_size]; exact h.size, fun k hk => by rw [World.putObj_heap_other (by omega)]; exact h.block k hk⟩
theorem eds_of {L : List Sec} {ys : List (Nat × ByteArray)} {cc : List ByteArray} (h : ys.map (·.2) = cc.reverse) : (ys.map (·.2)).flatMap (edOf L) = edsF L cc := by rw [h]; rfl
theorem res_step (L : List Sec) (w0 : World) (Bm R : Nat) (pre : List (Nat × ByteArray)) (x : Nat × ByteArray) (W w2 w3 : World) (hI : ResI L w0 Bm R pre W) (hB0 : w0.heap.size ≤ Bm) (hR : Bm + 2 ≤ R) (hb2 : Below W.heap.size W w2) (hg3 : w2.grownBy w3 (some Bm))
    (hm3 : MapIs w3 Bm (pre.length * 1000000000 + (edOf L x.2).length) ((pre.map (·.2)).flatMap (edOf L) ++ edOf L x.2)) (hed : (edOf L x.2).length ≤ 1000000000) : KeepsFrom R W w3 ∧ KC W w3 ∧ ResI L w0 Bm R (pre ++ [x]) w3 := by
  obtain ⟨⟨D, ⟨es, clock, hb, _⟩, _⟩, hbw, hv, hz⟩ := hI
  have hs2 := hb2.size
  have hs3 := hg3.size
  have key : ∀ k, k < W.heap.size → k ≠ Bm → w3.heap[k]? = W.heap[k]? := fun k hk hne => (hg3.block k (by omega) (fun e => hne (by injection e))).trans (hb2.block k hk)
  refine ⟨⟨by omega, fun k o hk ho _ => (key k (Array.getElem?_eq_some_iff.1 ho).1 (by omega)).trans ho⟩, ⟨fun i c t z hi => (key i (Array.getElem?_eq_some_iff.1 hi).1 (fun e => by subst e; rw [hb] at hi; cases hi)).trans hi, by omega⟩, ?_, ?_, ?_, by omega⟩
  · obtain ⟨D', hD', hs'⟩ := hm3
    refine ⟨D', hD'.mono (by rw [List.length_append, List.length_singleton]; omega), ?_⟩
    rw [List.map_append, List.flatMap_append]
    simpa using hs'
  · exact ⟨(hg3.os.trans hb2.os).trans hbw.os, (hg3.tape.trans hb2.tape).trans hbw.tape, (hg3.output.trans hb2.output).trans hbw.output, by have := hbw.size; omega, fun k hk => (key k (by have := hbw.size; omega) (by omega)).trans (hbw.block k hk)⟩
  · exact (key (Bm + 1) (Array.getElem?_eq_some_iff.1 hv).1 (by omega)).trans hv
set_option maxRecDepth 100000 in
set_option maxHeartbeats 2000000 in
theorem resolve_any (A : Nat → Addr) (L : List Sec) (a : Option Addr) (c : Nat) (t : ByteArray) (w : World) (hl : L.length ≤ 1000000) (hc : L.length ≤ c) (hb : ∀ s ∈ L, s.ed.length ≤ 1000000000) (hz : ∀ s ∈ L, ∀ e ∈ s.ed, e.2.size ≤ 140737488355328) (hm : Mx w) (hT : Tb w) (hQ : SeqAt w) (he : Sents w A) (ha : XA w a L) :
    Calls Tryz.prog 6 #[.agg #[.slice a L.length c], .string t] w fun e w' => GoResolve A w.heap.size w' L t e ∧ Below w.heap.size w w' := by
  obtain ⟨w0, hw0⟩ : ∃ w0, w0 = w.alloc (.cells #[.slice a L.length c] 24) := ⟨_, rfl⟩
  have hB0 : Below w.heap.size w w0 := by rw [hw0]; exact (Below.refl _ _).alloc (Nat.le_refl _) _
  have hX0 : w0.heap[w.heap.size]? = some (.cells #[.slice a L.length c] 24 (0, 0)) := by rw [hw0]; exact heap_alloc_new w _
  have hs0 : w0.heap.size = w.heap.size + 1 := by rw [hw0]; simp
  have x0 : w0.cell? ⟨w.heap.size, 0, none⟩ = some (.slice a L.length c) := by rw [cell_of_row _ _ _ _ _ _ hX0]; rfl
  have HCh := hid0 (chain_any A L a c t w0 hc (fun s hs => Nat.le_trans (hb s hs) (by decide)) hz (hm.below hB0) (hT.below hB0) (hQ.later hB0) (he.below hB0) (ha.later hB0))
  have HE : Hid (∀ W, Below w0.heap.size w0 W → Sents W A) := hid0 (fun W hW => (he.below hB0).below hW)
  have HXA : Hid (∀ W, Below w0.heap.size w0 W → XA W a L) := hid0 (fun W hW => (ha.later hB0).later hW)
  have HX0 := hid0 hX0
  have HB0 := hid0 hB0
  have HS0 := hid0 hs0
  have HBD := hid0 hb
  have HZD := hid0 hz
  have hfold := hw0.symm
  clear hw0 hB0 hX0 hs0 hm hT hQ he ha hb hz
  unfold GoResolve
  have HLn := hid0 (chainF_len L t)
  cases hr : chainF L t with
  | bad i =>
    rw [hr] at HCh
    simp only [GoChain] at HCh
    clear hr HLn
    go_enter Tryz.func6, Tryz.ntmps6
    go_wp2_with (go_at_call 13; refine HCh.out.mono ?_; rintro e w1 ⟨rfl, hb1⟩; have HB1 := hid0 (Below.later HB0.out hb1); clear hb1)
    go_returns
    exact ⟨rfl, HB1.out⟩
  | ok cc =>
    rw [hr] at HCh
    simp only [GoChain] at HCh
    obtain ⟨hcl, hcp⟩ := HLn.out cc hr
    clear hr HLn
    refine (callsIn_wide (n := 8)).1 ?_
    refine callsIn_of_wp_marks Tryz.func6 rfl trivial ?_ rfl
    simp only [Tryz.ntmps6, List.size_toArray, List.length_cons, List.length_nil, Nat.reduceAdd, Nat.reduceSub, Array.replicate_succ, Array.replicate_zero, List.push_toArray, List.append_toArray, List.nil_append, List.cons_append]
    have hmm := @run_makeMap Tryz.prog
    gi_wp2_with (first
      | (refine ⟨trivial, ?_⟩; gi_at_call 13; refine (callsIn_wide.2 HCh.out).mono ?_; rintro e w1 ⟨⟨v, rfl, ho⟩, hb1⟩; obtain ⟨gC, kC, rfl, hg1, hg2, hg3⟩ := own_form ho hcp; have HO1 := hid0 ho; have HB1 := hid0 hb1; clear ho hb1 hg1 hg2 hg3)
      | (refine ⟨trivial, ?_⟩; gi_at_call 15; refine (back_in _ _ ⟨_, _, _, rfl⟩ _).mono ?_; rintro e w' ⟨rfl, rfl⟩)
      | fail)
    obtain ⟨wR, hwR⟩ : ∃ wR, wR = ((w1.alloc (.map #[] 0)).alloc (.cells #[.map (some w1.heap.size)] 48)).alloc (.cells #[.slice (some ⟨gC, 0, none⟩) cc.length kC] 28) := ⟨_, rfl⟩
    obtain ⟨cur, hgC, hcur⟩ : ∃ cur, w1.heap[gC]? = some (.cells cur 9 (0, 0)) ∧ ∀ k (h : k < cc.length), cur[k]? = some (.string cc[k]) := by
      rcases HO1.out.2 with ⟨hv, _⟩ | ⟨g', cap', cur, hv, _, hb', hc1, _, _, h4⟩
      · cases hv
      · cases hv
        refine ⟨cur, hb', fun k hk => ?_⟩
        have h5 : (cur.toList.take (cc.length * 1))[k]? = (cellsS cc)[k]? := by rw [h4]
        rw [List.getElem?_take_of_lt (by omega), Array.getElem?_toList] at h5
        rw [h5]
        simp [cellsS, hk]
    have hbR : Below w1.heap.size w1 wR := by rw [hwR]; exact (((Below.refl _ _).alloc (Nat.le_refl _) _).alloc (by simp) _).alloc (by simp; omega) _
    have hsR : wR.heap.size = w1.heap.size + 3 := by rw [hwR]; simp
    have hmR : wR.ownsMap Tryz.prog 9 outElem w1.heap.size 0 (.map []) := by rw [hwR]; exact ((World.ownsMap_made w1 _ _ _).alloc _).alloc _
    have hvR : wR.heap[w1.heap.size + 1]? = some (.cells #[.map (some w1.heap.size)] 48 (0, 0)) := by
      rw [hwR]
      have h := heap_alloc_new (w1.alloc (.map #[] 0)) (.cells #[.map (some w1.heap.size)] 48)
      rw [show (w1.alloc (.map #[] 0)).heap.size = w1.heap.size + 1 by simp] at h
      exact (Below.heap_alloc _ _ _ (by simp)).trans h
    have hnR : wR.heap[w1.heap.size + 1 + 1]? = some (.cells #[.slice (some ⟨gC, 0, none⟩) cc.length kC] 28 (0, 0)) := by
      rw [hwR]
      have h := heap_alloc_new ((w1.alloc (.map #[] 0)).alloc (.cells #[.map (some w1.heap.size)] 48)) (.cells #[.slice (some ⟨gC, 0, none⟩) cc.length kC] 28)
      rw [show ((w1.alloc (.map #[] 0)).alloc (.cells #[.map (some w1.heap.size)] 48)).heap.size = w1.heap.size + 1 + 1 by simp] at h
      exact h
    rw [← hwR]
    have hs0 := HS0.out
    have hs1 := HB1.out.size
    have hgR : wR.heap[gC]? = some (.cells cur 9 (0, 0)) := (hbR.block gC (Array.getElem?_eq_some_iff.1 hgC).1).trans hgC
    have HB1R := hid0 (Below.later HB1.out hbR)
    clear hwR hgC HO1 hfold x0 HCh
    refine wpIn_rangeFunc_ownH rfl (by omega) (gf := 33) (lb := #[.pointer (some ⟨w1.heap.size + 1 + 1, 0, none⟩)]) rfl trivial (enters_of Tryz.func33 (by kernel_rfl) rfl)
      (back_stops 7 (by omega) (w1.heap.size + 1 + 1) gC kC cc cur (by omega) wR hnR hgR hcur) KC.trans (fun W l o o' _ ho hc _ => kc_putObj W l o o' ho hc) (Below.refl _ _) (fun _ => rfl)
      (ResI L w0 w1.heap.size wR.heap.size) (fun _ _ _ => False) (resI_own L w0 w1.heap.size wR.heap.size (by omega) (by omega)) (fun _ _ _ _ _ hs _ _ => hs)
      ⟨⟨_, hmR, says_nil⟩, HB1R.out, hvR, Nat.le_refl _⟩
      (fun x a' _ => a' = { tmps := #[.agg #[.slice a L.length c], .string t, .pointer (some ⟨w.heap.size, 0, none⟩), undef, .slice none 0 0, .nilIface, .slice (some ⟨gC, 0, none⟩) cc.length kC, .nilIface, .pointer (some ⟨w1.heap.size + 1, 0, none⟩), undef, .string x.2, undef, .tuple #[.slice (some ⟨gC, 0, none⟩) cc.length kC, .nilIface], .agg #[.slice a L.length c], .string t, .tuple #[.slice (some ⟨gC, 0, none⟩) cc.length kC, .nilIface], .slice (some ⟨gC, 0, none⟩) cc.length kC, .nilIface, .nilIface, .bool false, undef, .map (some w1.heap.size), .slice (some ⟨gC, 0, none⟩) cc.length kC, .func (.func 33) #[] #[.pointer (some ⟨w1.heap.size + 1 + 1, 0, none⟩)], .int .i64 ((x.1 : Nat) : Int), .string x.2, undef, undef, undef, undef, undef, undef, undef, undef, undef, undef, undef, undef, undef], defers := [] })
      (fun x a' _ _ _ _ h _ _ => h) ?assign ?body ?done ?stop
    case assign =>
      rintro l pre x W K hI hK
      gi_wp2
      exact hK _ _ (KeepsFrom.refl _ _) (KC.refl _) hI rfl
    case body =>
      rintro l pre x a' W hl' ⟨r, hr⟩ hI rfl hlt
      have HI := hid0 hI
      obtain ⟨hM, hBW, hvW, hzW⟩ := hI
      have y0 : W.cell? ⟨w.heap.size, 0, none⟩ = some (.slice a L.length c) := by rw [cell_of_row _ _ _ _ _ _ ((hBW.block _ (by omega)).trans HX0.out)]; rfl
      have y1 : W.cell? ⟨w1.heap.size + 1, 0, none⟩ = some (.map (some w1.heap.size)) := by rw [cell_of_row _ _ _ _ _ _ hvW]; rfl
      have HSc := hid0 (sectionOf_any L a c x.2 W.drew hl (HXA.out W.drew hBW.drew))
      have hfd : ∀ (W : World) (p q : ByteArray) (z : Value), (Instr.field 40 (.agg #[.string p, .string q, z]) 2).run Tryz.prog W = .ok z W := fun W p q z => by kernel_rfl
      have HM := hid0 hM
      clear hM
      have HEd := hid0 (edOf_le (x := x.2) HBD.out)
      have HEz := hid0 (edOf_sz (x := x.2) HZD.out)
      have HTk : Hid (∀ W2 ae ce, MapIs W2 w1.heap.size (pre.length * 1000000000) ((pre.map (·.2)).flatMap (edOf L)) → EA W2 ae (edOf L x.2) → Calls Tryz.prog 16 #[.map (some w1.heap.size), .slice ae (edOf L x.2).length ce] W2 fun e w' => (∃ v, e = .returned v) ∧ MapIs w' w1.heap.size (pre.length * 1000000000 + (edOf L x.2).length) ((pre.map (·.2)).flatMap (edOf L) ++ edOf L x.2) ∧ W2.grownBy w' (some w1.heap.size)) := hid0 (fun W2 ae ce hm2 hea => take_any (edOf L x.2) ((pre.map (·.2)).flatMap (edOf L)) ae ce w1.heap.size _ W2 HEd.out (by omega) HEz.out hea hm2)
      have hmx : Tryz.prog.follows .mixedOrders = true := by kernel_rfl
      have hf1 : Fence.wide.fn 17 := trivial
      have hf2 : Fence.wide.fn 16 := trivial
      gi_wp2
      gi_region_with_o (first
        | (gi_at_call 17; go_loud ((
            refine (CallsIn.inRound l (callsIn_wide.2 HSc.out)).mono ?_
            rintro e w2 ⟨⟨v, rfl, hsi⟩, hb2⟩
            obtain ⟨lo, pa, ae, ce, rfl, hea⟩ := secIs_ed hsi
            have y2 : w2.cell? ⟨w1.heap.size + 1, 0, none⟩ = some (.map (some w1.heap.size)) := (hb2.cell (World.block_lt_of_cell? W _ y1)).trans y1
            have HB2 := hid0 hb2
            have HEA := hid0 (hea.later hb2)
            have HM2 := hid0 (MapIs.below (W := W.drew) HM.out hb2)
            clear hb2 hsi hea)))
        | (gi_at_call 16; refine (CallsIn.inRound l (callsIn_wide.2 (HTk.out w2 ae ce HM2.out HEA.out))).mono ?_; rintro e w3 ⟨⟨v3, rfl⟩, hm3, hg3⟩; have HM3 := hid0 hm3; have HG3 := hid0 hg3; clear hm3 hg3)
        | fail)
      all_goals
        gi_wp2
        exact res_step L w0 w1.heap.size wR.heap.size pre x W w2 w3 HI.out (by omega) (by omega) ⟨HB2.out.os, HB2.out.tape, HB2.out.output, HB2.out.size, HB2.out.block⟩ HG3.out HM3.out HEd.out
    case done =>
      rintro D ys W hD hS ⟨hM, hBW, hvW, hzW⟩ hK
      have y1 : W.cell? ⟨w1.heap.size + 1, 0, none⟩ = some (.map (some w1.heap.size)) := by rw [cell_of_row _ _ _ _ _ _ hvW]; rfl
      have HSe := HE.out W hBW
      have hyl : ys.length ≤ 16 := by have h := congrArg List.length hS; simp at h; omega
      have HN := hid0 (entries_any sortS _ w1.heap.size _ W (by omega) (by omega) hM)
      have HKD2 : Hid (∀ W2, Below W.heap.size W W2 → W2.heap[D]? = some (.deferred (some []))) := hid0 (fun W2 h2 => (h2.block D (Array.getElem?_eq_some_iff.1 hK).1).trans hK)
      have HBW := hid0 hBW
      have hww : w.heap.size ≤ W.heap.size := by have := hBW.size; omega
      have hwD : w.heap.size ≤ D := by omega
      have HYG : Hid (∀ W2, Below W.heap.size W W2 → W2.cell? ⟨0, 0, none⟩ = some (.iface 185 (.pointer (some (A 2))))) := hid0 (fun W2 h2 => (HSe.below h2).c2)
      have HSS := hid0 hS
      clear hM hvW hK hBW hS
      gi_wp2_with (first
        | (refine ⟨trivial, ?_⟩; gi_at_call 18; refine (callsIn_wide.2 HN.out).mono ?_; rintro e w2 ⟨⟨v, lr, rfl, ho, hri, hmem⟩, hb2⟩; obtain ⟨aR, cR, rfl, hsa, hsc⟩ := ho.sa; have HO := hid0 ho; have HRi := hid0 hri; have HMe := hid0 hmem; have HB2 := hid0 hb2; have y3 := HYG.out w2 hb2; clear ho hri hmem hb2 hsa hsc)
        | fail)
      · have h2000 : 2000 < lr.length := by omega
        have hmx : Tryz.prog.follows .mixedOrders = true := by kernel_rfl
        gi_quiet ((fail))
        gi_wp2
        have hB3 : Below W.heap.size W (w2.drewN nq) := ⟨HB2.out.os, HB2.out.tape, HB2.out.output, HB2.out.size, HB2.out.block⟩
        refine ⟨by simp, .inl ⟨_, _, rfl, run_takeDeferred (HKD2.out _ hB3), ?_⟩⟩
        refine ⟨.tuple #[.slice none 0 0, .iface 185 (.pointer (some (A 2)))], by simp [results, Tryz.results6, go_sem], ⟨.slice aR lr.length cR, lr, own_put (W := w2.drewN nq) (owns_lower HO.out hww) (HKD2.out _ hB3) rfl, HRi.out, ?_, ?_⟩, below_put (Below.later (Below.later HB0.out HBW.out) hB3) _ hwD⟩
        · rw [← eds_of HSS.out]; exact HMe.out
        · rw [if_pos h2000]
      · have h2000 : ¬ 2000 < lr.length := by omega
        refine ⟨by simp, .inl ⟨_, _, rfl, run_takeDeferred (HKD2.out w2 HB2.out), ?_⟩⟩
        refine ⟨.tuple #[.slice aR lr.length cR, .nilIface], by simp [results, Tryz.results6, go_sem], ⟨.slice aR lr.length cR, lr, own_put (owns_lower HO.out hww) (HKD2.out w2 HB2.out) rfl, HRi.out, ?_, ?_⟩, below_put (Below.later (Below.later HB0.out HBW.out) HB2.out) _ hwD⟩
        · rw [← eds_of HSS.out]; exact HMe.out
        · rw [if_neg h2000]
    case stop =>
      rintro D c pre W _ _ h _
      exact h.elim
end Go.Proofs.YtlnejmmhhmmomaaGreatDoor
namespace Go.Proofs.YtlnejmmhhmmomaaGreatDoor
open Go.RowKit Go.Shelf Go.Lib Go.Maps Go.Sort
def mrB : ByteArray := ⟨#[77, 114, 46]⟩
def egB : ByteArray := ⟨#[101, 46, 103, 46]⟩
def enB : ByteArray := ⟨#[101, 110]⟩
def frB : ByteArray := ⟨#[102, 114]⟩
def noB : ByteArray := ⟨#[]⟩
def usB : ByteArray := ⟨#[101, 110, 95, 85, 83]⟩
def kB : List Sec := [⟨rootB, noB, [(true, mrB), (true, egB)]⟩, ⟨enB, noB, [(false, egB)]⟩]
theorem tag1 : tagF [69, 78, 45, 117, 115] = some [101, 110, 95, 85, 83] := by decide
theorem tag2 : tagF [101, 110, 45, 117, 115] = some [101, 110, 95, 85, 83] := by decide
theorem tag3 : tagF [102, 114] = some [102, 114] := by decide
theorem ent1 : entE mrB = none := by decide
theorem ent2 : entE egB = none := by decide
theorem root_t : rootB.toList = [114, 111, 111, 116] := by rw [ByteArray.toList_eq]; rfl
theorem en_t : enB.toList = [101, 110] := by rw [ByteArray.toList_eq]; rfl
theorem fr_t : frB.toList = [102, 114] := by rw [ByteArray.toList_eq]; rfl
theorem us_t : usB.toList = [101, 110, 95, 85, 83] := by rw [ByteArray.toList_eq]; rfl
theorem no_t : noB.toList = [] := by rw [ByteArray.toList_eq]; rfl
theorem tagR : isTagB rootB = true := by decide
theorem tagE : isTagB enB = true := by decide
theorem rne : ¬ rootB = enB := by decide
theorem chk_k : chkE entE kB = none := by
  simp [chkE, kB, nEd, firstN, fSec, secE, hasL, root_t, en_t, no_t, tagR, tagE, ent1, ent2, rne, fE]
theorem sec_us : secOf kB usB = none := by decide
theorem sec_en : secOf kB enB = some ⟨enB, noB, [(false, egB)]⟩ := by rfl
theorem sec_fr : secOf kB frB = none := by decide
theorem cut_us : cutB usB = enB := by decide
theorem cut_en : cutB enB = rootB := by decide
theorem cut_fr : cutB frB = rootB := by decide
theorem par_us : parL kB usB = enB := by rw [parL, sec_us]; exact cut_us
theorem par_en : parL kB enB = rootB := by rw [parL, sec_en]; simp [no_t, cut_en]
theorem par_fr : parL kB frB = rootB := by rw [parL, sec_fr]; exact cut_fr
theorem con1 : Lib.containsS [usB] enB = false := by decide
theorem con2 : Lib.containsS [usB, enB] rootB = false := by decide
theorem con3 : Lib.containsS [frB] rootB = false := by decide
theorem chain_us (t : ByteArray) (h : tagF t.data.toList = some [101, 110, 95, 85, 83]) : chainF kB t = .ok [usB, enB, rootB] := by
  unfold chainF
  rw [chk_k, h]
  show chainGo kB 17 [usB] usB = _
  simp [chainGo, us_t, en_t, root_t, par_us, par_en, con1, con2]
theorem chain_fr (t : ByteArray) (h : tagF t.data.toList = some [102, 114]) : chainF kB t = .ok [frB, rootB] := by
  unfold chainF
  rw [chk_k, h]
  show chainGo kB 17 [frB] frB = _
  simp [chainGo, fr_t, root_t, par_fr, con3]
theorem sec_root : secOf kB rootB = some ⟨rootB, noB, [(true, mrB), (true, egB)]⟩ := by rfl
theorem eds_us : edsF kB [usB, enB, rootB] = [(true, mrB), (true, egB), (false, egB)] := by
  simp [edsF, edOf, sec_us, sec_en, sec_root]
theorem eds_fr : edsF kB [frB, rootB] = [(true, mrB), (true, egB)] := by
  simp [edsF, edOf, sec_fr, sec_root]
theorem mne : ¬ mrB = egB := by decide
theorem last_us (x : ByteArray) : lastE [(true, mrB), (true, egB), (false, egB)] x = some true ↔ x = mrB := by
  unfold lastE
  simp only [List.foldl_cons, List.foldl_nil]
  by_cases h1 : egB = x
  · subst h1
    have h3 : ¬ egB = mrB := fun e => mne e.symm
    simp [h3]
  · by_cases h2 : mrB = x
    · simp [h1, h2]
    · have h3 : ¬ x = mrB := fun e => h2 e.symm
      simp [h1, h2, h3]
theorem last_fr (x : ByteArray) : lastE [(true, mrB), (true, egB)] x = some true ↔ x = mrB ∨ x = egB := by
  unfold lastE
  simp only [List.foldl_cons, List.foldl_nil]
  by_cases h1 : egB = x
  · subst h1; simp
  · by_cases h2 : mrB = x
    · simp [h1, h2]
    · have h3 : ¬ x = mrB := fun e => h2 e.symm
      have h4 : ¬ x = egB := fun e => h1 e.symm
      simp [h1, h2, h3, h4]
theorem rising_nodup {l : List ByteArray} (h : Rising l) : l.Nodup := h.imp (fun {x y} hlt e => by subst e; exact absurd hlt (List.lt_irrefl _))
theorem rising_one {l : List ByteArray} {a : ByteArray} (h : Rising l) (hm : ∀ x, x ∈ l ↔ x = a) : l = [a] := by
  have hn := rising_nodup h
  have hp : l.Perm [a] := (List.perm_ext_iff_of_nodup hn (by simp)).2 (fun x => by rw [hm x]; simp)
  exact List.perm_singleton.1 hp
theorem rising_two {l : List ByteArray} {a b : ByteArray} (hab : ¬ a = b) (h : Rising l) (hm : ∀ x, x ∈ l ↔ x = a ∨ x = b) : l.length = 2 := by
  have hn := rising_nodup h
  have hp : l.Perm [a, b] := (List.perm_ext_iff_of_nodup hn (by simp [hab])).2 (fun x => by rw [hm x]; simp)
  exact hp.length_eq
end Go.Proofs.YtlnejmmhhmmomaaGreatDoor
namespace Go.Proofs.YtlnejmmhhmmomaaGreatDoor
open Go.RowKit Go.Shelf Go.Lib
/-- What the calls read besides. -/
structure Env (A : Nat → Addr) (w : World) : Prop where
  mx : Mx w
  tb : Tb w
  sq : SeqAt w
  se : Sents w A
theorem Env.below {A : Nat → Addr} {w w' : World} (h : Env A w) (hb : Below w.heap.size w w') : Env A w' := ⟨h.mx.below hb, h.tb.below hb, h.sq.later hb, h.se.below hb⟩
theorem bun_cell {W : World} {B : Nat} {x : Value} (h : W.heap[B]? = some (.cells #[x] 24 (0, 0))) : W.cell? ⟨B, 0, none⟩ = some x := by rw [cell_of_row _ _ _ _ _ _ h]; rfl
end Go.Proofs.YtlnejmmhhmmomaaGreatDoor
namespace Go.Proofs.YtlnejmmhhmmomaaGreatDoor
open Go.RowKit Go.Shelf Go.Lib Go.Maps Go.Sort
theorem own_cell0 {w : World} {base : Nat} {v : Value} {x : ByteArray} {l : List ByteArray} (h : OwnS w base v (x :: l)) : ∃ g cap, v = .slice (some ⟨g, 0, none⟩) (x :: l).length cap ∧ w.cell? ⟨g, 0, none⟩ = some (.string x) ∧ g < w.heap.size := by
  obtain ⟨g, cap, rfl, _, hg, _⟩ := own_form h (by simp)
  exact ⟨g, cap, rfl, by rw [World.ownsRow.cellAt h 0 (by simp)]; rfl, hg⟩
theorem kB_ed : ∀ s ∈ kB, s.ed.length ≤ 1000000000 := by decide
theorem kB_sz : ∀ s ∈ kB, ∀ e ∈ s.ed, e.2.size ≤ 140737488355328 := by decide
theorem chain_k (A : Nat → Addr) (a : Option Addr) (w : World) (hE : Env A w) (ha : XA w a kB) :
    Calls Tryz.prog 13 #[.agg #[.slice a 2 2], .string ⟨#[69, 78, 45, 117, 115]⟩] w fun e w' => ∃ g cap, e = .returned (.tuple #[.slice (some ⟨g, 0, none⟩) 3 cap, .nilIface]) ∧ w'.cell? ⟨g, 0, none⟩ = some (.string ⟨#[101, 110, 95, 85, 83]⟩) ∧ Below w.heap.size w w' := by
  have h := chain_any A kB a 2 ⟨#[69, 78, 45, 117, 115]⟩ w (by decide) (fun s hs => Nat.le_trans (kB_ed s hs) (by decide)) kB_sz hE.mx hE.tb hE.sq hE.se ha
  rw [chain_us _ tag1] at h
  refine h.mono ?_
  rintro e w' ⟨⟨v, rfl, ho⟩, hb⟩
  obtain ⟨g, cap, rfl, hc, _⟩ := own_cell0 ho
  exact ⟨g, cap, rfl, hc, hb⟩
theorem res_k (A : Nat → Addr) (a : Option Addr) (w : World) (hE : Env A w) (ha : XA w a kB) :
    Calls Tryz.prog 6 #[.agg #[.slice a 2 2], .string ⟨#[101, 110, 45, 117, 115]⟩] w fun e w' => ∃ g cap, e = .returned (.tuple #[.slice (some ⟨g, 0, none⟩) 1 cap, .nilIface]) ∧ w'.cell? ⟨g, 0, none⟩ = some (.string ⟨#[77, 114, 46]⟩) ∧ Below w.heap.size w w' := by
  have h := resolve_any A kB a 2 ⟨#[101, 110, 45, 117, 115]⟩ w (by decide) (by decide) kB_ed kB_sz hE.mx hE.tb hE.sq hE.se ha
  refine h.mono ?_
  rintro e w' ⟨hg, hb⟩
  unfold GoResolve at hg
  rw [chain_us _ tag2] at hg
  obtain ⟨v, l, ho, hr, hm, rfl⟩ := hg
  rw [eds_us] at hm
  obtain rfl := rising_one hr (fun x => (hm x).trans (last_us x))
  obtain ⟨g, cap, rfl, hc, _⟩ := own_cell0 ho
  exact ⟨g, cap, rfl, hc, hb⟩
theorem res_f (A : Nat → Addr) (a : Option Addr) (w : World) (hE : Env A w) (ha : XA w a kB) :
    Calls Tryz.prog 6 #[.agg #[.slice a 2 2], .string ⟨#[102, 114]⟩] w fun e w' => ∃ b cap, e = .returned (.tuple #[.slice b 2 cap, .nilIface]) ∧ Below w.heap.size w w' := by
  have h := resolve_any A kB a 2 ⟨#[102, 114]⟩ w (by decide) (by decide) kB_ed kB_sz hE.mx hE.tb hE.sq hE.se ha
  refine h.mono ?_
  rintro e w' ⟨hg, hb⟩
  unfold GoResolve at hg
  rw [chain_fr _ tag3] at hg
  obtain ⟨v, l, ho, hr, hm, rfl⟩ := hg
  rw [eds_fr] at hm
  have hl := rising_two mne hr (fun x => (hm x).trans (last_fr x))
  obtain ⟨b, cap, rfl⟩ := own_slice ho
  rw [hl]
  exact ⟨b, cap, rfl, hb⟩
theorem xa_k {W : World} {n : Nat} (h0 : W.heap[n]? = some (.cells #[.bool true, .string ⟨#[77, 114, 46]⟩, .bool true, .string ⟨#[101, 46, 103, 46]⟩] 42 (0, 0))) (h1 : W.heap[n + 1]? = some (.cells #[.bool false, .string ⟨#[101, 46, 103, 46]⟩] 42 (0, 0)))
    (h2 : W.heap[n + 1 + 1]? = some (.cells #[.string ⟨#[114, 111, 111, 116]⟩, .string ⟨#[]⟩, .slice (some ⟨n, 0, none⟩) 2 2, .string ⟨#[101, 110]⟩, .string ⟨#[]⟩, .slice (some ⟨n + 1, 0, none⟩) 1 1] 40 (0, 0))) : XA W (some ⟨n + 1 + 1, 0, none⟩) kB := ⟨fun k hk => by
  have l0 := lt_of_row h0
  have l1 := lt_of_row h1
  have l2 := lt_of_row h2
  match k, hk with
  | 0, _ => exact ⟨n + 1 + 1, 0, some ⟨n, 0, none⟩, 2, rfl, l2, by rw [cell_of_row _ _ _ _ _ _ h2]; rfl, by rw [cell_of_row _ _ _ _ _ _ h2]; rfl, by rw [cell_of_row _ _ _ _ _ _ h2]; rfl, ⟨fun j hj => by
      match j, hj with
      | 0, _ => exact ⟨n, 0, rfl, l0, by rw [cell_of_row _ _ _ _ _ _ h0]; rfl, by rw [cell_of_row _ _ _ _ _ _ h0]; rfl⟩
      | 1, _ => exact ⟨n, 0, rfl, l0, by rw [cell_of_row _ _ _ _ _ _ h0]; rfl, by rw [cell_of_row _ _ _ _ _ _ h0]; rfl⟩⟩⟩
  | 1, _ => exact ⟨n + 1 + 1, 0, some ⟨n + 1, 0, none⟩, 1, rfl, l2, by rw [cell_of_row _ _ _ _ _ _ h2]; rfl, by rw [cell_of_row _ _ _ _ _ _ h2]; rfl, by rw [cell_of_row _ _ _ _ _ _ h2]; rfl, ⟨fun j hj => by
      match j, hj with
      | 0, _ => exact ⟨n + 1, 0, rfl, l1, by rw [cell_of_row _ _ _ _ _ _ h1]; rfl, by rw [cell_of_row _ _ _ _ _ _ h1]; rfl⟩⟩⟩⟩
set_option maxRecDepth 10000 in
set_option maxHeartbeats 1600000 in
theorem known_any (A : Nat → Addr) (w : World) (hE : Env A w) : Calls Tryz.prog 11 #[] w fun e w' => e = .returned (.bool true) ∧ Below w.heap.size w w' := by
  obtain ⟨wa, hwa⟩ : ∃ wa, wa = w.alloc (.cells #[.bool true, .string ⟨#[77, 114, 46]⟩, .bool true, .string ⟨#[101, 46, 103, 46]⟩] 42) := ⟨_, rfl⟩
  obtain ⟨wb, hwb⟩ : ∃ wb, wb = wa.alloc (.cells #[.bool false, .string ⟨#[101, 46, 103, 46]⟩] 42) := ⟨_, rfl⟩
  obtain ⟨wc, hwc⟩ : ∃ wc, wc = wb.alloc (.cells #[.string ⟨#[114, 111, 111, 116]⟩, .string ⟨#[]⟩, .slice (some ⟨w.heap.size, 0, none⟩) 2 2, .string ⟨#[101, 110]⟩, .string ⟨#[]⟩, .slice (some ⟨w.heap.size + 1, 0, none⟩) 1 1] 40) := ⟨_, rfl⟩
  obtain ⟨wK, hwK⟩ : ∃ wK, wK = wc.alloc (.cells #[.slice (some ⟨w.heap.size + 1 + 1, 0, none⟩) 2 2] 24) := ⟨_, rfl⟩
  have sa : wa.heap.size = w.heap.size + 1 := by rw [hwa]; simp
  have sb : wb.heap.size = w.heap.size + 1 + 1 := by rw [hwb]; simp [sa]
  have sc : wc.heap.size = w.heap.size + 1 + 1 + 1 := by rw [hwc]; simp [sb]
  have ba : Below w.heap.size w wa := by rw [hwa]; exact (Below.refl _ _).alloc (Nat.le_refl _) _
  have bab : Below wa.heap.size wa wb := by rw [hwb]; exact (Below.refl _ _).alloc (Nat.le_refl _) _
  have bbc : Below wb.heap.size wb wc := by rw [hwc]; exact (Below.refl _ _).alloc (Nat.le_refl _) _
  have bcK : Below wc.heap.size wc wK := by rw [hwK]; exact (Below.refl _ _).alloc (Nat.le_refl _) _
  have ra := heap_alloc_new w (.cells #[.bool true, .string ⟨#[77, 114, 46]⟩, .bool true, .string ⟨#[101, 46, 103, 46]⟩] 42)
  have rb := heap_alloc_new wa (.cells #[.bool false, .string ⟨#[101, 46, 103, 46]⟩] 42)
  have rc := heap_alloc_new wb (.cells #[.string ⟨#[114, 111, 111, 116]⟩, .string ⟨#[]⟩, .slice (some ⟨w.heap.size, 0, none⟩) 2 2, .string ⟨#[101, 110]⟩, .string ⟨#[]⟩, .slice (some ⟨w.heap.size + 1, 0, none⟩) 1 1] 40)
  have rK := heap_alloc_new wc (.cells #[.slice (some ⟨w.heap.size + 1 + 1, 0, none⟩) 2 2] 24)
  rw [← hwa] at ra
  rw [← hwb, sa] at rb
  rw [← hwc, sb] at rc
  rw [← hwK, sc] at rK
  have bcc := Below.later bbc bcK
  have bac := Below.later bab bcc
  have hBK := Below.later ba bac
  have hXA : XA wK (some ⟨w.heap.size + 1 + 1, 0, none⟩) kB := xa_k ((bac.block _ (by omega)).trans ra) ((bcc.block _ (by omega)).trans rb) ((bcK.block _ (by omega)).trans rc)
  have hEK := hE.below hBK
  have HF : Hid ((((w.alloc (.cells #[.bool true, .string ⟨#[77, 114, 46]⟩, .bool true, .string ⟨#[101, 46, 103, 46]⟩] 42)).alloc (.cells #[.bool false, .string ⟨#[101, 46, 103, 46]⟩] 42)).alloc (.cells #[.string ⟨#[114, 111, 111, 116]⟩, .string ⟨#[]⟩, .slice (some ⟨w.heap.size, 0, none⟩) 2 2, .string ⟨#[101, 110]⟩, .string ⟨#[]⟩, .slice (some ⟨w.heap.size + 1, 0, none⟩) 1 1] 40)).alloc (.cells #[.slice (some ⟨w.heap.size + 1 + 1, 0, none⟩) 2 2] 24) = wK) := hid0 (by rw [← hwa, ← hwb, ← hwc, ← hwK])
  have HC := hid0 (chain_k A _ wK hEK hXA)
  have HR1 : Hid (∀ W, Below wK.heap.size wK W → _) := hid0 (fun W hW => res_k A (some ⟨w.heap.size + 1 + 1, 0, none⟩) W (hEK.below hW) (hXA.later hW))
  have HR2 : Hid (∀ W, Below wK.heap.size wK W → _) := hid0 (fun W hW => res_f A (some ⟨w.heap.size + 1 + 1, 0, none⟩) W (hEK.below hW) (hXA.later hW))
  have HXK : Hid (∀ W, Below wK.heap.size wK W → W.cell? ⟨w.heap.size + 1 + 1 + 1, 0, none⟩ = some (.slice (some ⟨w.heap.size + 1 + 1, 0, none⟩) 2 2)) := hid0 (fun W hW => bun_cell ((hW.block _ (lt_of_row rK)).trans rK))
  have HBK := hid0 hBK
  clear hwa hwb hwc hwK sa sb sc ba bab bbc bcK ra rb rc rK bcc bac hBK hXA hEK hE
  have M0 : Hid True := trivial
  go_enter Tryz.func11, Tryz.ntmps11
  go_wp2_with (first
    | (go_at_call 13; clear M0; go_loud ((
         rw [HF.out]
         refine HC.out.mono ?_
         rintro e w5 ⟨g, cap, rfl, hc, hb5⟩
         have x0 := HXK.out w5 hb5
         have HC5 := hid0 hc
         have HB5 := hid0 hb5
         have M1 : Hid True := trivial
         clear hc hb5)))
    | (go_at_call 6; clear M1; go_loud ((
         refine (HR1.out w5 HB5.out).mono ?_
         rintro e w6 ⟨g2, cap2, rfl, hc2, hb6⟩
         have hb6' := Below.later HB5.out hb6
         have x1 := HXK.out w6 hb6'
         have HC6 : Hid (w6.cell? ⟨g, 0, none⟩ = some (.string ⟨#[101, 110, 95, 85, 83]⟩)) := hid0 ((hb6.cell (World.block_lt_of_cell? w5 _ HC5.out)).trans HC5.out)
         have HD6 := hid0 hc2
         have HB6 := hid0 hb6'
         have M2 : Hid True := trivial
         clear hc2 hb6 hb6' HC5 HB5 x0)))
    | (go_at_call 6; clear M2; go_loud ((
         refine (HR2.out w6 HB6.out).mono ?_
         rintro e w7 ⟨b3, cap3, rfl, hb7⟩
         have y0 : w7.cell? ⟨g, 0, none⟩ = some (.string ⟨#[101, 110, 95, 85, 83]⟩) := (hb7.cell (World.block_lt_of_cell? w6 _ HC6.out)).trans HC6.out
         have y1 : w7.cell? ⟨g2, 0, none⟩ = some (.string ⟨#[77, 114, 46]⟩) := (hb7.cell (World.block_lt_of_cell? w6 _ HD6.out)).trans HD6.out
         have HB7 := hid0 (Below.later HBK.out (Below.later HB6.out hb7))
         clear hb7 HC6 HD6 HB6 x1))))
  go_ret
  exact ⟨rfl, HB7.out⟩
end Go.Proofs.YtlnejmmhhmmomaaGreatDoor
namespace Go.Proofs.YtlnejmmhhmmomaaGreatDoor
open Go.RowKit Go.Shelf Go.Lib
/-- A list without a text. -/
noncomputable def outL (l : List ByteArray) (s : ByteArray) : List ByteArray := l.filter fun x => decide (¬ x = s)
theorem outL_le (l : List ByteArray) (s : ByteArray) : (outL l s).length ≤ l.length := List.length_filter_le _ _
theorem mem_outL (l : List ByteArray) (s x : ByteArray) : x ∈ outL l s ↔ x ∈ l ∧ ¬ x = s := by simp [outL]
theorem outL_snoc (l : List ByteArray) (s x : ByteArray) : outL (l ++ [x]) s = outL l s ++ if x = s then [] else [x] := by
  unfold outL
  rw [List.filter_append]
  by_cases h : x = s <;> simp [h]
end Go.Proofs.YtlnejmmhhmmomaaGreatDoor
namespace Go.Proofs.YtlnejmmhhmmomaaGreatDoor
open Go.RowKit Go.Shelf Go.Lib
theorem outL_lt {l : List ByteArray} {s : ByteArray} (h : s ∈ l) : (outL l s).length < l.length := by
  have h1 := outL_le l s
  by_cases e : (outL l s).length = l.length
  · have h2 := List.length_filter_eq_length_iff.1 e s h
    simp at h2
  · omega
theorem rising_at {r : List ByteArray} (h : Rising r) {m : Nat} (hm : m + 1 < r.length) : Op.bytesLess r[m].toList r[m + 1].toList = true := by
  have h1 := List.pairwise_iff_getElem.1 h m (m + 1) (by omega) hm (by omega)
  rw [ByteArray.toList_eq, ByteArray.toList_eq, bytesLess_eq]
  simpa using h1
end Go.Proofs.YtlnejmmhhmmomaaGreatDoor
namespace Go.Proofs.YtlnejmmhhmmomaaGreatDoor
open Go.RowKit Go.Shelf Go.Lib
set_option maxRecDepth 10000 in
set_option maxHeartbeats 1600000 in
theorem refWithout_any (l : List ByteArray) (a : Option Addr) (ca : Nat) (s : ByteArray) (w : World) (hl : l.length ≤ 1000000000) (ha : SA w a l) :
    Calls Tryz.prog 21 #[.slice a l.length ca, .string s] w fun e w' => (∃ v, e = .returned v ∧ OwnS w' w.heap.size v (outL l s)) ∧ Below w.heap.size w w' := by
  obtain ⟨i0, hi, hz0, hz1, hz2⟩ := info_parts infoStr
  have HA := hid0 ha
  clear ha
  go_enter Tryz.func21, Tryz.ntmps21
  go_wp2
  go_loopw [5, 6] (fun v i wr => ∃ k : Nat, k ≤ l.length ∧ i = .int .i64 (k : Int) ∧ Hid (OwnS wr w.heap.size v (outL (l.take k) s)) ∧ Hid (Below w.heap.size w wr)) (fun _ i _ => l.length - (intOf i).toNat)
  case atStart => exact ⟨0, Nat.zero_le _, rfl, hid0 (World.ownsRow_nil _ _ _ _), hid0 (Below.refl _ _)⟩
  case round =>
    obtain ⟨k, hk, rfl, HO, HB⟩ := hrel
    by_cases hlt : k < l.length
    · have hbs := HB.out.size
      have hkI : (k : Int) < (l.length : Int) := by omega
      have hk0 : (0 : Int) ≤ (k : Int) := by omega
      have htk : l.take (k + 1) = l.take k ++ [l[k]] := by rw [List.take_add_one, List.getElem?_eq_getElem hlt]; rfl
      have HX : Hid (outL (l.take (k + 1)) s = outL (l.take k) s ++ if l[k] = s then [] else [l[k]]) := hid0 (by rw [htk, outL_snoc])
      have hxl : (outL (l.take k) s).length ≤ k := Nat.le_trans (outL_le _ _) (by rw [List.length_take]; omega)
      obtain ⟨b, off, rfl, hbl, c0⟩ := (HA.out.below HB.out).at' k hlt
      have hse := str_eq l[k] s
      clear htk
      generalize outL (l.take k) s = X at *
      by_cases e : l[k] = s
      · rw [decide_eq_true e] at hse
        have hsn : (l[k].toList != s.toList) = false := by rw [bne, hse]; rfl
        rw [if_pos e, List.append_nil] at HX
        have HO4 := HO
        rw [← HX.out] at HO4
        clear e HX HO
        generalize l[k] = m at *
        go_wp2
        go_roundw
        case rel => exact ⟨k + 1, by omega, by go_num, HO4, HB⟩
        case measure => simp [intOf]; omega
      · rw [decide_eq_false e] at hse
        have hsn : (l[k].toList != s.toList) = true := by rw [bne, hse]; rfl
        rw [if_neg e] at HX
        clear e
        generalize l[k] = m at *
        go_wp2_with (first
          | (at_builtin; refine wpList_append_own _ rfl _ _ 28 rfl w.heap.size 9 i0 (.string ⟨#[]⟩) 1 16 Tryz.underlying28 hi hz0 hz1 hz2 rfl (by decide) _ _ _ rfl (World.ownsRow.alloc HO.out _) ⟨_, 0, none⟩ 1 1 [.string m] rfl rfl (cell_one_new _ _ _) ?c2b ?c3b ?c4b ?c5b ?_)
          | fail)
        case c2b => simp [Value.oneCell']
        case c3b => unfold maxLen; omega
        case c4b => omega
        case c5b => simp; omega
        intro v2 w4 hown' hgrow _
        obtain ⟨g1, g2⟩ := owns_snoc (base := w.heap.size) (L := X) (c := m) (n := X.length) rfl HO.out hown' hgrow HB.out (Nat.le_refl _)
        have HO4 : Hid (OwnS w4 w.heap.size v2 (outL (l.take (k + 1)) s)) := hid0 (by rw [HX.out]; exact g1)
        have HB4 := hid0 g2
        clear hown' hgrow g1 g2 HO HB HX
        go_wp2
        go_roundw
        case rel => exact ⟨k + 1, by omega, by go_num, HO4, HB4⟩
        case measure => simp [intOf]; omega
    · have hkI : ¬ (k : Int) < (l.length : Int) := by omega
      rw [List.take_of_length_le (show l.length ≤ k by omega)] at HO
      go_wp2
      go_ret
      exact ⟨⟨_, rfl, HO.out⟩, HB.out⟩
/-- A rising list with a text more. -/
structure Ins (l : List ByteArray) (s : ByteArray) (Y : List ByteArray) : Prop where
  up : Rising Y
  mem : ∀ x, x ∈ Y ↔ x ∈ l ∨ x = s
/-- What stands of it, while the list is gone through. -/
structure InsJ (l : List ByteArray) (s : ByteArray) (k : Nat) (dn : Bool) (X : List ByteArray) : Prop where
  no : dn = false → X = l.take k ∧ ∀ x ∈ X, x.data.toList < s.data.toList
  yes : dn = true → Rising X ∧ (∀ x, x ∈ X ↔ x ∈ l.take k ∨ x = s) ∧ ∀ j (h : j < l.length), k ≤ j → s.data.toList < l[j].data.toList
theorem lt_trans' {x y z : ByteArray} (h1 : x.data.toList < y.data.toList) (h2 : y.data.toList < z.data.toList) : x.data.toList < z.data.toList := List.lt_trans h1 h2
theorem take_snoc {l : List ByteArray} {k : Nat} (h : k < l.length) : l.take (k + 1) = l.take k ++ [l[k]] := by rw [List.take_add_one, List.getElem?_eq_getElem h]; rfl
theorem rising_snoc {X : List ByteArray} {y : ByteArray} (h : Rising X) (hy : ∀ x ∈ X, x.data.toList < y.data.toList) : Rising (X ++ [y]) := by
  unfold Rising
  rw [List.pairwise_append]
  exact ⟨h, by simp, fun a ha b hb => by rw [List.mem_singleton] at hb; subst hb; exact hy a ha⟩
theorem rising_before {l : List ByteArray} (h : Rising l) {k : Nat} (hk : k < l.length) : ∀ x ∈ l.take k, x.data.toList < l[k].data.toList := fun x hx => by
  obtain ⟨j, hj, rfl⟩ := List.getElem_of_mem hx
  have hjk : j < k := by rw [List.length_take] at hj; omega
  rw [List.getElem_take]
  exact List.pairwise_iff_getElem.1 h j k (by omega) hk hjk
theorem InsJ.start (l : List ByteArray) (s : ByteArray) : InsJ l s 0 false [] := ⟨fun _ => ⟨rfl, fun x hx => by cases hx⟩, fun h => by cases h⟩
theorem InsJ.stepNo {l X : List ByteArray} {s : ByteArray} {k : Nat} (h : InsJ l s k false X) (hk : k < l.length) (hne : ¬ l[k] = s) (hlt : ¬ s.data.toList < l[k].data.toList) : InsJ l s (k + 1) false (X ++ [l[k]]) := by
  obtain ⟨h1, h2⟩ := h.no rfl
  refine ⟨fun _ => ⟨by rw [take_snoc hk, h1], fun x hx => ?_⟩, fun q => by cases q⟩
  rcases List.mem_append.1 hx with hx | hx
  · exact h2 x hx
  · rw [List.mem_singleton] at hx
    subst hx
    exact Std.lt_of_le_of_ne (List.not_lt.1 hlt) (fun e => hne (ByteArray.ext (Array.toList_inj.1 e)))
theorem InsJ.turn {l X : List ByteArray} {s : ByteArray} {k : Nat} (h : InsJ l s k false X) (hR : Rising l) (hk : k < l.length) (hlt : s.data.toList < l[k].data.toList) : InsJ l s (k + 1) true (X ++ [s] ++ [l[k]]) := by
  obtain ⟨h1, h2⟩ := h.no rfl
  have hX : Rising X := by rw [h1]; exact hR.sublist (List.take_sublist _ _)
  refine ⟨(fun q => by cases q), fun _ => ⟨rising_snoc (rising_snoc hX h2) (fun x hx => ?_), fun x => ?_, fun j hj hkj => ?_⟩⟩
  · rcases List.mem_append.1 hx with hx | hx
    · exact lt_trans' (h2 x hx) hlt
    · rw [List.mem_singleton] at hx; subst hx; exact hlt
  · rw [take_snoc hk, h1]
    simp only [List.mem_append, List.mem_singleton]
    constructor
    · rintro ((h | h) | h)
      · exact .inl (.inl h)
      · exact .inr h
      · exact .inl (.inr h)
    · rintro ((h | h) | h)
      · exact .inl (.inl h)
      · exact .inr h
      · exact .inl (.inr h)
  · exact lt_trans' hlt (List.pairwise_iff_getElem.1 hR k j hk hj (by omega))
theorem InsJ.stepYes {l X : List ByteArray} {s : ByteArray} {k : Nat} (h : InsJ l s k true X) (hR : Rising l) (hk : k < l.length) : InsJ l s (k + 1) true (X ++ [l[k]]) := by
  obtain ⟨h1, h2, h3⟩ := h.yes rfl
  refine ⟨(fun q => by cases q), fun _ => ⟨rising_snoc h1 (fun x hx => ?_), fun x => ?_, fun j hj hkj => h3 j hj (by omega)⟩⟩
  · rcases (h2 x).1 hx with hx | rfl
    · exact rising_before hR hk x hx
    · exact h3 k hk (Nat.le_refl _)
  · rw [take_snoc hk, List.mem_append, List.mem_append, h2 x]
    constructor
    · rintro ((h | h) | h)
      · exact .inl (.inl h)
      · exact .inr h
      · exact .inl (.inr h)
    · rintro ((h | h) | h)
      · exact .inl (.inl h)
      · exact .inr h
      · exact .inl (.inr h)
theorem InsJ.endNo {l X : List ByteArray} {s : ByteArray} (h : InsJ l s l.length false X) (hR : Rising l) : Ins l s (X ++ [s]) := by
  obtain ⟨h1, h2⟩ := h.no rfl
  rw [List.take_length] at h1
  subst h1
  exact ⟨rising_snoc hR h2, fun x => by simp⟩
theorem InsJ.endYes {l X : List ByteArray} {s : ByteArray} (h : InsJ l s l.length true X) : Ins l s X := by
  obtain ⟨h1, h2, _⟩ := h.yes rfl
  rw [List.take_length] at h2
  exact ⟨h1, h2⟩
theorem ins_there {l : List ByteArray} {k : Nat} (hR : Rising l) (hk : k < l.length) : Ins l l[k] l := ⟨hR, fun x => ⟨.inl, fun h => by rcases h with h | rfl; exact h; exact List.getElem_mem hk⟩⟩
set_option maxRecDepth 10000 in
set_option maxHeartbeats 3200000 in
theorem refWith_any (l : List ByteArray) (a : Option Addr) (ca : Nat) (s : ByteArray) (w : World) (hl : l.length ≤ 1000000000) (hR : Rising l) (ha : SA w a l) :
    Calls Tryz.prog 20 #[.slice a l.length ca, .string s] w fun e w' => (∃ a' c', ∃ Y : List ByteArray, e = .returned (.slice a' Y.length c') ∧ SA w' a' Y ∧ Ins l s Y ∧ Y.length ≤ l.length + 1) ∧ Below w.heap.size w w' := by
  obtain ⟨i0, hi, hz0, hz1, hz2⟩ := info_parts infoStr
  have HA := hid0 ha
  have HR := hid0 hR
  clear ha hR
  go_enter Tryz.func20, Tryz.ntmps20
  go_wp2
  go_loopw [5, 6, 7] (fun v d i wr => ∃ (k : Nat) (X : List ByteArray) (dn : Bool), k ≤ l.length ∧ i = .int .i64 (k : Int) ∧ d = .bool dn ∧ X.length ≤ k + 1 ∧ Hid (InsJ l s k dn X) ∧ Hid (OwnS wr w.heap.size v X) ∧ Hid (Below w.heap.size w wr)) (fun _ _ i _ => l.length - (intOf i).toNat)
  case atStart => exact ⟨0, [], false, Nat.zero_le _, rfl, rfl, by simp, hid0 (InsJ.start l s), hid0 (World.ownsRow_nil _ _ _ _), hid0 (Below.refl _ _)⟩
  case round =>
    obtain ⟨k, X, dn, hk, rfl, rfl, hX, HJ, HO, HB⟩ := hrel
    have hbs := HB.out.size
    by_cases hlt : k < l.length
    · have hkI : (k : Int) < (l.length : Int) := by omega
      have hk0 : (0 : Int) ≤ (k : Int) := by omega
      obtain ⟨b, off, rfl, hbl, c0⟩ := (HA.out.below HB.out).at' k hlt
      have hse := str_eq l[k] s
      by_cases e : l[k] = s
      · have HI : Hid (Ins l s l) := hid0 (by rw [← e]; exact ins_there HR.out hlt)
        rw [decide_eq_true e] at hse
        have HSA := hid0 (HA.out.below HB.out)
        clear e HJ HO
        generalize l[k] = m at *
        go_wp2
        go_ret
        exact ⟨⟨_, _, l, rfl, HSA.out, HI.out, by omega⟩, HB.out⟩
      · have HNE := hid0 e
        rw [decide_eq_false e] at hse
        have hbl2 : Op.bytesLess s.toList l[k].toList = decide (s.data.toList < l[k].data.toList) := by rw [ByteArray.toList_eq, ByteArray.toList_eq, bytesLess_eq]
        clear e
        have HCell : Hid (∀ W : World, Below w.heap.size w W → W.cell? ⟨b, off + k, none⟩ = some (.string l[k])) := hid0 (fun W hW => by
          obtain ⟨b2, o2, e2, _, c2⟩ := (HA.out.below hW).at' k hlt
          cases e2
          exact c2)
        cases dn with
        | true =>
          have HJ2 := hid0 (HJ.out.stepYes HR.out hlt)
          clear HJ HNE hbl2 HCell
          generalize l[k] = m at *
          go_wp2_with (first
            | (at_builtin; refine wpList_append_own _ rfl _ _ 28 rfl w.heap.size 9 i0 (.string ⟨#[]⟩) 1 16 Tryz.underlying28 hi hz0 hz1 hz2 rfl (by decide) _ _ _ rfl (World.ownsRow.alloc HO.out _) ⟨_, 0, none⟩ 1 1 [.string m] rfl rfl (cell_one_new _ _ _) ?c2b ?c3b ?c4b ?c5b ?_)
            | fail)
          case c2b => simp [Value.oneCell']
          case c3b => unfold maxLen; simp; omega
          case c4b => first | omega | (simp; omega)
          case c5b => first | omega | (simp; omega)
          intro v2 w4 hown' hgrow _
          obtain ⟨g1, g2⟩ := owns_snoc (base := w.heap.size) (L := X) (c := m) (n := X.length) rfl HO.out hown' hgrow HB.out (Nat.le_refl _)
          have HO4 := hid0 g1
          have HB4 := hid0 g2
          clear hown' hgrow g1 g2
          go_wp2
          go_roundw
          case rel => exact ⟨k + 1, X ++ [m], true, by omega, by go_num, rfl, by simp; omega, HJ2, HO4, HB4⟩
          case measure => simp [intOf]; omega
        | false =>
          by_cases h : s.data.toList < l[k].data.toList
          · have HJ2 := hid0 (HJ.out.turn HR.out hlt h)
            have hXk : X.length ≤ k := by rw [(HJ.out.no rfl).1, List.length_take]; omega
            rw [decide_eq_true h] at hbl2
            clear HJ HNE h
            generalize l[k] = m at *
            go_wp2_with (first
              | (at_builtin; refine wpList_append_own _ rfl _ _ 28 rfl w.heap.size 9 i0 (.string ⟨#[]⟩) 1 16 Tryz.underlying28 hi hz0 hz1 hz2 rfl (by decide) _ _ _ rfl (World.ownsRow.alloc HO.out _) ⟨_, 0, none⟩ 1 1 [.string s] rfl rfl (cell_one_new _ _ _) ?c2b ?c3b ?c4b ?c5b ?_)
              | fail)
            case c2b => simp [Value.oneCell']
            case c3b => unfold maxLen; simp; omega
            case c4b => first | omega | (simp; omega)
            case c5b => first | omega | (simp; omega)
            intro v2 w4 hown' hgrow _
            obtain ⟨g1, g2⟩ := owns_snoc (base := w.heap.size) (L := X) (c := s) (n := X.length) rfl HO.out hown' hgrow HB.out (Nat.le_refl _)
            have HO4 := hid0 g1
            have HB4 := hid0 g2
            clear hown' hgrow g1 g2
            have c5 := HCell.out w4 HB4.out
            have hbs4 := HB4.out.size
            clear c0 HCell HO HB
            go_wp2_with (first
              | (at_builtin; refine wpList_append_own _ rfl _ _ 28 rfl w.heap.size 9 i0 (.string ⟨#[]⟩) 1 16 Tryz.underlying28 hi hz0 hz1 hz2 rfl (by decide) _ _ _ rfl (World.ownsRow.alloc HO4.out _) ⟨_, 0, none⟩ 1 1 [.string m] rfl rfl (cell_one_new _ _ _) ?c2b ?c3b ?c4b ?c5b ?_)
              | fail)
            case c2b => simp [Value.oneCell']
            case c3b => unfold maxLen; simp; omega
            case c4b => first | omega | (simp; omega)
            case c5b => first | omega | (simp; omega)
            intro v3 w5 hown' hgrow _
            obtain ⟨g1, g2⟩ := owns_snoc (base := w.heap.size) (L := X ++ [s]) (c := m) (n := X.length + 1) (by simp) HO4.out hown' hgrow HB4.out (Nat.le_refl _)
            have HO5 := hid0 g1
            have HB5 := hid0 g2
            clear hown' hgrow g1 g2
            go_wp2
            go_roundw
            case rel => exact ⟨k + 1, X ++ [s] ++ [m], true, by omega, by go_num, rfl, by simp; omega, HJ2, HO5, HB5⟩
            case measure => simp [intOf]; omega
          · have HJ2 := hid0 (HJ.out.stepNo hlt HNE.out h)
            rw [decide_eq_false h] at hbl2
            clear HJ HNE h HCell
            generalize l[k] = m at *
            go_wp2_with (first
              | (at_builtin; refine wpList_append_own _ rfl _ _ 28 rfl w.heap.size 9 i0 (.string ⟨#[]⟩) 1 16 Tryz.underlying28 hi hz0 hz1 hz2 rfl (by decide) _ _ _ rfl (World.ownsRow.alloc HO.out _) ⟨_, 0, none⟩ 1 1 [.string m] rfl rfl (cell_one_new _ _ _) ?c2b ?c3b ?c4b ?c5b ?_)
              | fail)
            case c2b => simp [Value.oneCell']
            case c3b => unfold maxLen; simp; omega
            case c4b => first | omega | (simp; omega)
            case c5b => first | omega | (simp; omega)
            intro v2 w4 hown' hgrow _
            obtain ⟨g1, g2⟩ := owns_snoc (base := w.heap.size) (L := X) (c := m) (n := X.length) rfl HO.out hown' hgrow HB.out (Nat.le_refl _)
            have HO4 := hid0 g1
            have HB4 := hid0 g2
            clear hown' hgrow g1 g2
            go_wp2
            go_roundw
            case rel => exact ⟨k + 1, X ++ [m], false, by omega, by go_num, rfl, by simp; omega, HJ2, HO4, HB4⟩
            case measure => simp [intOf]; omega
    · have hkI : ¬ (k : Int) < (l.length : Int) := by omega
      obtain rfl : k = l.length := by omega
      cases dn with
      | true =>
        have HI := hid0 (HJ.out.endYes)
        obtain ⟨a', c', rfl, hsa, _⟩ := HO.out.sa
        have HSA := hid0 hsa
        clear hsa HJ
        go_wp2
        go_ret
        exact ⟨⟨_, _, X, rfl, HSA.out, HI.out, hX⟩, HB.out⟩
      | false =>
        have HI := hid0 (HJ.out.endNo HR.out)
        have hXk : X.length ≤ l.length := by rw [(HJ.out.no rfl).1, List.length_take]; omega
        clear HJ
        go_wp2_with (first
          | (at_builtin; refine wpList_append_own _ rfl _ _ 28 rfl w.heap.size 9 i0 (.string ⟨#[]⟩) 1 16 Tryz.underlying28 hi hz0 hz1 hz2 rfl (by decide) _ _ _ rfl (World.ownsRow.alloc HO.out _) ⟨_, 0, none⟩ 1 1 [.string s] rfl rfl (cell_one_new _ _ _) ?c2b ?c3b ?c4b ?c5b ?_)
          | fail)
        case c2b => simp [Value.oneCell']
        case c3b => unfold maxLen; simp; omega
        case c4b => first | omega | (simp; omega)
        case c5b => first | omega | (simp; omega)
        intro v2 w4 hown' hgrow _
        obtain ⟨g1, g2⟩ := owns_snoc (base := w.heap.size) (L := X) (c := s) (n := X.length) rfl HO.out hown' hgrow HB.out (Nat.le_refl _)
        have HO4 := hid0 g1
        have HB4 := hid0 g2
        clear hown' hgrow g1 g2
        obtain ⟨a', c', rfl, hsa, _⟩ := HO4.out.sa
        have HSA := hid0 hsa
        clear hsa
        go_wp2
        go_ret
        exact ⟨⟨_, _, X ++ [s], rfl, HSA.out, HI.out, by simp; omega⟩, HB4.out⟩
end Go.Proofs.YtlnejmmhhmmomaaGreatDoor
