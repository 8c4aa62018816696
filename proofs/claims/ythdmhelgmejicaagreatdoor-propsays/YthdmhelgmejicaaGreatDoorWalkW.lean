/-
  The walk of ranges.walk.
-/
import Derived.Test.YthdmhelgmejicaaGreatDoorPassW
import Derived.Test.YthdmhelgmejicaaGreatDoorWalkM
namespace Go.Proofs.YthdmhelgmejicaaGreatDoor
open Go.RowKit
/-- One side in memory and in numbers. -/
structure SideW (w : World) (B base : Nat) (l : List (Int × Int)) (c : Int) (r : List (Int × Int)) (a : Option Addr) (cap : Nat) (o : Int) : Prop where
  mem : SideIn w B a cap r o
  low : ∀ p, a = some p → p.block < base
  num : SideAt l c r o
theorem SideIn.off {S : Nat → Prop} {w w' : World} {B cap : Nat} {a : Option Addr} {r : List (Int × Int)} {o : Int} (h : SideIn w B a cap r o) (ho : Off S w w') (hB : ¬ S B) (ha : ∀ p, a = some p → ¬ S p.block) : SideIn w' B a cap r o where
  c0 := (ho.cell (p := ⟨B, 0, none⟩) (World.block_lt_of_cell? w _ h.c0) hB).trans h.c0
  c1 := (ho.cell (p := ⟨B, 1, none⟩) (World.block_lt_of_cell? w _ h.c1) hB).trans h.c1
  f0 := (ho.frozen (p := ⟨B, 0, none⟩) (World.block_lt_of_cell? w _ h.c0) hB).trans h.f0
  f1 := (ho.frozen (p := ⟨B, 1, none⟩) (World.block_lt_of_cell? w _ h.c1) hB).trans h.f1
  ra := h.ra.off ho ha
  apart := h.apart
  le := h.le
theorem OwnR.off {S : Nat → Prop} {w w' : World} {base : Nat} {v : Value} {l : List (Int × Int)} (h : OwnR w base v l) (ho : Off S w w') (hs : ∀ k, base ≤ k → ¬ S k) : OwnR w' base v l := by
  obtain ⟨h1, h2⟩ := h
  refine ⟨h1, ?_⟩
  rcases h2 with h2 | ⟨g, cap, cur, hv, hg, hh, r⟩
  · exact .inl h2
  · exact .inr ⟨g, cap, cur, hv, hg, (ho.block g (Array.getElem?_eq_some_iff.1 hh).1 (hs g hg)).trans hh, r⟩
theorem Off.below {S : Nat → Prop} {w w' : World} {base : Nat} (ho : Off S w w') (hb : base ≤ w.heap.size) (hs : ∀ k, k < base → ¬ S k) : Below base w w' :=
  ⟨ho.os, ho.tape, ho.output, ho.size, fun k hk => ho.block k (Nat.lt_of_lt_of_le hk hb) (hs k hk)⟩
theorem Off.ofBelow {S : Nat → Prop} {w w' : World} {base : Nat} (h : Below base w w') (hs : ∀ k, base ≤ k → S k) : Off S w w' :=
  ⟨h.os, h.tape, h.output, h.size, fun k _ hk => h.block k (Nat.lt_of_not_le fun hle => hk (hs k hle))⟩
/-- How the loop stands. -/
structure WalkAt (w wr : World) (f : Bool → Bool → Bool) (la lb : List (Int × Int)) (c : Int) (v : Value) (low : Int) (ins : Bool) (found r1 r2 : List (Int × Int)) (a1 a2 : Option Addr) (cap1 cap2 : Nat) (o1 o2 : Int) : Prop where
  bel : Below w.heap.size w wr
  sz : w.heap.size + 2 ≤ wr.heap.size
  s1 : SideW wr w.heap.size w.heap.size la c r1 a1 cap1 o1
  s2 : SideW wr (w.heap.size + 1) w.heap.size lb c r2 a2 cap2 o2
  own : OwnR wr (w.heap.size + 2) v found
  inv : WInv (fun p => f (pts la p) (pts lb p)) c found low ins
theorem walk_start {w : World} {f : Bool → Bool → Bool} {la lb E1 E2 : List (Int × Int)} (hf : f false false = false) (h1 : SideAt la (-1) E1 0) (h2 : SideAt lb (-1) E2 0) {a1 a2 : Option Addr} {cap1 cap2 : Nat} (hc1 : E1.length ≤ cap1) (hc2 : E2.length ≤ cap2)
    (hr1 : RA w a1 E1) (hr2 : RA w a2 E2) (hb1 : ∀ p, a1 = some p → p.block < w.heap.size) (hb2 : ∀ p, a2 = some p → p.block < w.heap.size) (t : TypeId) :
    WalkAt w ((w.alloc (.cells #[.slice a1 E1.length cap1, .int .i64 0] t)).alloc (.cells #[.slice a2 E2.length cap2, .int .i64 0] t)) f la lb (-1) (.slice none 0 0) 0 false [] E1 E2 a1 a2 cap1 cap2 0 0 := by
  have B1 : Below w.heap.size w (w.alloc (.cells #[.slice a1 E1.length cap1, .int .i64 0] t)) := (Below.refl _ w).alloc (Nat.le_refl _) _
  have B2 : Below w.heap.size w ((w.alloc (.cells #[.slice a1 E1.length cap1, .int .i64 0] t)).alloc (.cells #[.slice a2 E2.length cap2, .int .i64 0] t)) := B1.alloc (by simp) _
  refine ⟨B2, by simp, ⟨⟨by simp, by simp, by simp, by simp, hr1.later B2, fun p hp => by have := hb1 p hp; omega, hc1⟩, hb1, h1⟩, ⟨⟨by simp, by simp, by simp, by simp, hr2.later B2, fun p hp => by have := hb2 p hp; omega, hc2⟩, hb2, h2⟩, OwnR.nil _ _, ?_⟩
  refine WInv.start (fun p hp => ?_) 0
  have e1 : pts la p = false := by
    cases e : pts la p with
    | false => rfl
    | true => have := may_pts h1.may e; omega
  have e2 : pts lb p = false := by
    cases e : pts lb p with
    | false => rfl
    | true => have := may_pts h2.may e; omega
  rw [e1, e2]
  exact hf
theorem OwnR.base {w : World} {base base' : Nat} {v : Value} {l : List (Int × Int)} (h : OwnR w base v l) (hb : base' ≤ base) : OwnR w base' v l := by
  obtain ⟨h1, h2⟩ := h
  refine ⟨h1, ?_⟩
  rcases h2 with h2 | ⟨g, cap, cur, hv, hg, r⟩
  · exact .inl h2
  · exact .inr ⟨g, cap, cur, hv, Nat.le_trans hb hg, r⟩
theorem below_drewN {B : Nat} {a w : World} (h : Below B a w) (q : Nat) : Below B a (w.drewN q) := ⟨h.os, h.tape, h.output, h.size, h.block⟩
/-- Behind both passes. -/
structure Passed (w wr : World) (la lb : List (Int × Int)) (c : Int) (v : Value) (found r1 r2 : List (Int × Int)) (a1 a2 : Option Addr) (cap1 cap2 : Nat) (o1 o2 : Int) : Prop where
  bel : Below w.heap.size w wr
  sz : w.heap.size + 2 ≤ wr.heap.size
  s1 : SideW wr w.heap.size w.heap.size la c r1 a1 cap1 o1
  s2 : SideW wr (w.heap.size + 1) w.heap.size lb c r2 a2 cap2 o2
  own : OwnR wr (w.heap.size + 2) v found
theorem passed_of {w wr w3 w4 : World} {f : Bool → Bool → Bool} {la lb found r1 r2 p1 q1 p2 q2 : List (Int × Int)} {c c' low o1 o2 : Int} {v : Value} {ins : Bool} {a1 a2 a3 a4 : Option Addr} {cap1 cap2 cap3 cap4 q : Nat}
    (h : WalkAt w wr f la lb c v low ins found r1 r2 a1 a2 cap1 cap2 o1 o2) (hst : StepTo la lb c c' r1 r2 p1 q1 p2 q2 o1 o2) (hs3 : SideIn w3 w.heap.size a3 cap3 q1 (o1 + sumAll p1)) (ho3 : Off (· = w.heap.size) (wr.drewN q) w3) (hp3 : ∀ p, a3 = some p → ∃ p', a1 = some p' ∧ p.block = p'.block)
    (hs4 : SideIn w4 (w.heap.size + 1) a4 cap4 q2 (o2 + sumAll p2)) (ho4 : Off (· = w.heap.size + 1) w3 w4) (hp4 : ∀ p, a4 = some p → ∃ p', a2 = some p' ∧ p.block = p'.block) :
    Passed w w4 la lb c' v found q1 q2 a3 a4 cap3 cap4 (o1 + sumAll p1) (o2 + sumAll p2) := by
  have hsz := h.sz
  have hsz3 : w.heap.size + 2 ≤ w3.heap.size := Nat.le_trans hsz ho3.size
  have hl3 : ∀ p, a3 = some p → p.block < w.heap.size := fun p hp => by obtain ⟨p', e1, e2⟩ := hp3 p hp; rw [e2]; exact h.s1.low p' e1
  have hl4 : ∀ p, a4 = some p → p.block < w.heap.size := fun p hp => by obtain ⟨p', e1, e2⟩ := hp4 p hp; rw [e2]; exact h.s2.low p' e1
  have b3 : Below w.heap.size w w3 := (below_drewN h.bel q).trans (ho3.below (Nat.le_trans (Nat.le_add_right _ 2) hsz) (fun k hk => by omega))
  refine ⟨b3.trans (ho4.below (by omega) (fun k hk => by omega)), Nat.le_trans hsz3 ho4.size, ⟨hs3.off ho4 (by omega) (fun p hp => by have := hl3 p hp; omega), hl3, hst.s1⟩, ⟨hs4, hl4, hst.s2⟩, ?_⟩
  have o3 : OwnR w3 (w.heap.size + 2) v found := OwnR.off (w := wr.drewN q) h.own ho3 (fun k hk => by omega)
  exact o3.off ho4 (fun k hk => by omega)
theorem Passed.grown {w w4 w5 : World} {la lb found found' r1 r2 : List (Int × Int)} {c o1 o2 : Int} {v v' : Value} {a1 a2 : Option Addr} {cap1 cap2 : Nat} (h : Passed w w4 la lb c v found r1 r2 a1 a2 cap1 cap2 o1 o2) (hb : Below (w.heap.size + 2) w4 w5) (ho : OwnR w5 (w.heap.size + 2) v' found') :
    Passed w w5 la lb c v' found' r1 r2 a1 a2 cap1 cap2 o1 o2 := by
  have hoff : Off (fun k => w.heap.size + 2 ≤ k) w4 w5 := Off.ofBelow hb (fun _ h => h)
  refine ⟨h.bel.trans (hb.mono (by omega)), Nat.le_trans h.sz hb.size, ⟨h.s1.mem.off hoff (by omega) (fun p hp => by have := h.s1.low p hp; omega), h.s1.low, h.s1.num⟩, ⟨h.s2.mem.off hoff (by omega) (fun p hp => by have := h.s2.low p hp; omega), h.s2.low, h.s2.num⟩, ho⟩
theorem Passed.at {w wr w4 : World} {f : Bool → Bool → Bool} {la lb found r1 r2 p1 q1 p2 q2 : List (Int × Int)} {c c' low o1 o2 O1 O2 : Int} {v v' : Value} {ins now : Bool} {a1 a2 a3 a4 : Option Addr} {cap1 cap2 cap3 cap4 : Nat}
    (h : WalkAt w wr f la lb c v low ins found r1 r2 a1 a2 cap1 cap2 o1 o2) (hst : StepTo la lb c c' r1 r2 p1 q1 p2 q2 o1 o2) (hp : Passed w w4 la lb c' v' (foundNext found low ins now c') q1 q2 a3 a4 cap3 cap4 O1 O2) (hn : f (decide (0 < O1)) (decide (0 < O2)) = now) :
    WalkAt w w4 f la lb c' v' (lowNext low ins now c') now (foundNext found low ins now c') q1 q2 a3 a4 cap3 cap4 O1 O2 := by
  have e1 := hp.s1.num.pts c' (Int.le_refl _) hp.s1.num.ahead
  have e2 := hp.s2.num.pts c' (Int.le_refl _) hp.s2.num.ahead
  have hs := h.inv.step hst.lt hst.le (fun p h1 h2 => by have := hst.bet p h1 h2; simp only [this.1, this.2])
  simp only [e1, e2, hn] at hs
  exact ⟨hp.bel, hp.sz, hp.s1, hp.s2, hp.own, hs⟩
set_option maxRecDepth 10000 in
set_option maxHeartbeats 3200000 in
theorem walk_any (g : Nat) (f : Bool → Bool → Bool) (hg : Chooses g f) (hf : f false false = false) (la lb E1 E2 : List (Int × Int)) (h1 : SideAt la (-1) E1 0) (h2 : SideAt lb (-1) E2 0) (hl1 : la.length ≤ 50000000) (hl2 : lb.length ≤ 50000000)
    (a1 a2 : Option Addr) (cap1 cap2 : Nat) (hc1 : E1.length ≤ cap1) (hc2 : E2.length ≤ cap2) (w : World) (hr1 : RA w a1 E1) (hr2 : RA w a2 E2) (hb1 : ∀ p, a1 = some p → p.block < w.heap.size) (hb2 : ∀ p, a2 = some p → p.block < w.heap.size) :
    Calls Tryz.prog 113 #[.agg #[.slice a1 E1.length cap1, .int .i64 0], .agg #[.slice a2 E2.length cap2, .int .i64 0], .func (.func g) #[] #[]] w fun e w' => ∃ v l, e = .returned v ∧ OwnR w' w.heap.size v l ∧ NormF 0 l ∧ (∀ p, pts l p = f (pts la p) (pts lb p)) ∧ Below w.heap.size w w' := by
  obtain ⟨i0, hi, hz0, hz1, hz2⟩ := info_parts infoRange
  have HS := hidE (walk_start hf h1 h2 hc1 hc2 hr1 hr2 hb1 hb2 158)
  have HG := hidE hg.2
  have eg := hg.1
  clear hr1 hr2 hb1 hb2 h1 h2 hc1 hc2 hg
  go_enter Tryz.func113, Tryz.ntmps113
  go_wp2
  go_loopg [7, 8, 9] (E1.length + E2.length) (fun gg v7 v8 v9 wr => ∃ (c low : Int) (ins : Bool) (found r1 r2 : List (Int × Int)) (a1 a2 : Option Addr) (cap1 cap2 : Nat) (o1 o2 : Int), r1.length + r2.length ≤ gg ∧ v8 = .int .i64 low ∧ v9 = .bool ins ∧ Aside (WalkAt w wr f la lb c v7 low ins found r1 r2 a1 a2 cap1 cap2 o1 o2))
  case atStart => exact ⟨-1, 0, false, [], E1, E2, a1, a2, cap1, cap2, 0, 0, Nat.le_refl _, rfl, rfl, HS.out⟩
  case round =>
    obtain ⟨c, low, ins, found, r1, r2, b1, b2, k1, k2, o1, o2, hgk, rfl, rfl, hA⟩ := hrel
    clear HS
    have HN1 := hidE (next_any w.heap.size k1 b1 r1 wr hA.out.s1.mem.c0 hA.out.s1.mem.ra)
    have HN2 := hidE (fun q => next_any (w.heap.size + 1) k2 b2 r2 (wr.drewN q) (hA.out.s2.mem.drewN q).c0 (hA.out.s2.mem.drewN q).ra)
    have hc := hA.out.inv.hi
    by_cases hend : min (nextOf r1) (nextOf r2) = 1114113
    · have HE := hidE (step_none hc hA.out.s1.num hA.out.s2.num hend)
      generalize nextOf r1 = n1 at *
      generalize nextOf r2 = n2 at *
      go_wp2_with (first
        | (go_at_call 145; have hq := HN1.out; clear HN1; refine hq.mono ?_; rintro e w' ⟨rfl, q1, rfl⟩; clear hq)
        | (go_at_call 145; refine (HN2.out _).mono ?_; rintro e w' ⟨rfl, q2, rfl⟩)
        | fail)
      all_goals
        go_ret
        obtain ⟨hd1, hd2⟩ := hA.out.inv.done (fun p hp => by have := HE.out p hp; simp only [this.1, this.2]; exact hf)
        exact ⟨_, rfl, found, hA.out.own.base (by omega), hd1, hd2, below_drewN hA.out.bel _⟩
    · obtain ⟨p1, q1, p2, q2, hst⟩ := step_to hc hA.out.s1.num hA.out.s2.num hend
      have hbd1 := hA.out.s1.num.bound
      have hbd2 := hA.out.s2.num.bound
      obtain rfl := hst.e1
      obtain rfl := hst.e2
      rw [List.length_append] at hbd1 hbd2
      have hfl := (norm_len hA.out.inv.norm (Int.le_refl _)).1
      have hmlt := hst.lt
      have hmle := hst.le
      have hmlo := hA.out.inv.lo
      have hless := hst.less
      have HP1 := hidE (fun q => pass_any w.heap.size _ p1 q1 hst.at1 hst.n1 hst.m1 (by omega) b1 k1 o1 (by omega) (wr.drewN q) (hA.out.s1.mem.drewN q))
      have HP2 := hidE (fun w' h => pass_any (w.heap.size + 1) _ p2 q2 hst.at2 hst.n2 hst.m2 (by omega) b2 k2 o2 (by omega) w' h)
      have HST := hidE hst
      clear hst
      have HA := hidE hA.out
      clear hA
      have HPO := hidE (fun w3 w4 a3 a4 cap3 cap4 q hs3 ho3 hp3 hs4 ho4 hp4 => passed_of (w3 := w3) (w4 := w4) (a3 := a3) (a4 := a4) (cap3 := cap3) (cap4 := cap4) (q := q) HA.out HST.out hs3 ho3 hp3 hs4 ho4 hp4)
      generalize nextOf (p1 ++ q1) = n1 at *
      generalize nextOf (p2 ++ q2) = n2 at *
      generalize o1 + sumAll p1 = O1 at *
      generalize o2 + sumAll p2 = O2 at *
      have HGn := HG.out (decide (0 < O1)) (decide (0 < O2))
      generalize hnow : f (decide (0 < O1)) (decide (0 < O2)) = now at HGn
      have HGm := hidE HGn
      have HAT := hidE (fun w4 v' a3 a4 cap3 cap4 hp => Passed.at (w4 := w4) (v' := v') (a3 := a3) (a4 := a4) (cap3 := cap3) (cap4 := cap4) HA.out HST.out hp hnow)
      clear hnow HG HGn
      have hmin : (n1 ≤ n2 ∧ min n1 n2 = n1) ∨ (¬ n1 ≤ n2 ∧ min n1 n2 = n2) := by omega
      rcases hmin with ⟨hle, hmin⟩ | ⟨hle, hmin⟩
      · rw [hmin] at hend HP1 HP2 HST HPO HAT hmlt hmle
        have hne : (n1 == 1114113) = false := by rw [beq_eq_false_iff_ne]; exact hend
        clear hmin hend
        cases ins <;> cases now
        · have HQ1 : Hid (foundNext found low false false n1 = found) := rfl
          have HQ2 : Hid (lowNext low false false n1 = low) := rfl
          rw [HQ1.out, HQ2.out] at HAT
          go_wp2_with (first
            | (go_at_call 145; have hq := HN1.out; clear HN1; refine hq.mono ?_; rintro e w' ⟨rfl, q3, rfl⟩; clear hq)
            | (go_at_call 145; refine (HN2.out _).mono ?_; rintro e w' ⟨rfl, q4, rfl⟩)
            | (go_at_call 146; have hq := HP1.out; clear HP1; refine (hq _).mono ?_; rintro e w3 ⟨rfl, a3, k3, hs3, ho3, hp3⟩; clear hq)
            | (go_at_call 146; refine (HP2.out _ (SideIn.off (w := wr.drewN _) (HA.out.s2.mem.drewN _) ho3 (by omega) (fun p hp => by have := HA.out.s2.low p hp; omega))).mono ?_; rintro e w4 ⟨rfl, a4, k4, hs4, ho4, hp4⟩; have HPA := hidE (HPO.out _ _ _ _ _ _ _ hs3 ho3 hp3 hs4 ho4 hp4); clear hs3 ho3 hp3 hs4 ho4 hp4 HP2; have d1 := HPA.out.s1.mem.c1; have d2 := HPA.out.s2.mem.c1)
            | (go_at_fn g; refine (HGm.out _).mono ?_; rintro e w5 ⟨rfl, rfl⟩)
            | fail)
          go_roundg (q1.length + q2.length)
          case measure => simp only [List.length_append] at hgk hless; omega
          case rel => exact ⟨n1, low, false, found, q1, q2, a3, a4, k3, k4, O1, O2, Nat.le_refl _, rfl, rfl, HAT.out _ _ _ _ _ _ HPA.out⟩
        · have HQ1 : Hid (foundNext found low false true n1 = found) := rfl
          have HQ2 : Hid (lowNext low false true n1 = n1) := rfl
          rw [HQ1.out, HQ2.out] at HAT
          go_wp2_with (first
            | (go_at_call 145; have hq := HN1.out; clear HN1; refine hq.mono ?_; rintro e w' ⟨rfl, q3, rfl⟩; clear hq)
            | (go_at_call 145; refine (HN2.out _).mono ?_; rintro e w' ⟨rfl, q4, rfl⟩)
            | (go_at_call 146; have hq := HP1.out; clear HP1; refine (hq _).mono ?_; rintro e w3 ⟨rfl, a3, k3, hs3, ho3, hp3⟩; clear hq)
            | (go_at_call 146; refine (HP2.out _ (SideIn.off (w := wr.drewN _) (HA.out.s2.mem.drewN _) ho3 (by omega) (fun p hp => by have := HA.out.s2.low p hp; omega))).mono ?_; rintro e w4 ⟨rfl, a4, k4, hs4, ho4, hp4⟩; have HPA := hidE (HPO.out _ _ _ _ _ _ _ hs3 ho3 hp3 hs4 ho4 hp4); clear hs3 ho3 hp3 hs4 ho4 hp4 HP2; have d1 := HPA.out.s1.mem.c1; have d2 := HPA.out.s2.mem.c1)
            | (go_at_fn g; refine (HGm.out _).mono ?_; rintro e w5 ⟨rfl, rfl⟩)
            | fail)
          go_roundg (q1.length + q2.length)
          case measure => simp only [List.length_append] at hgk hless; omega
          case rel => exact ⟨n1, n1, true, found, q1, q2, a3, a4, k3, k4, O1, O2, Nat.le_refl _, rfl, rfl, HAT.out _ _ _ _ _ _ HPA.out⟩
        · have HQ1 : Hid (foundNext found low true false n1 = found ++ [(low, n1 - 1)]) := rfl
          have HQ2 : Hid (lowNext low true false n1 = low) := rfl
          rw [HQ1.out, HQ2.out] at HAT
          go_wp2_with (first
            | (go_at_call 145; have hq := HN1.out; clear HN1; refine hq.mono ?_; rintro e w' ⟨rfl, q3, rfl⟩; clear hq)
            | (go_at_call 145; refine (HN2.out _).mono ?_; rintro e w' ⟨rfl, q4, rfl⟩)
            | (go_at_call 146; have hq := HP1.out; clear HP1; refine (hq _).mono ?_; rintro e w3 ⟨rfl, a3, k3, hs3, ho3, hp3⟩; clear hq)
            | (go_at_call 146; refine (HP2.out _ (SideIn.off (w := wr.drewN _) (HA.out.s2.mem.drewN _) ho3 (by omega) (fun p hp => by have := HA.out.s2.low p hp; omega))).mono ?_; rintro e w4 ⟨rfl, a4, k4, hs4, ho4, hp4⟩; have HPA := hidE (HPO.out _ _ _ _ _ _ _ hs3 ho3 hp3 hs4 ho4 hp4); clear hs3 ho3 hp3 hs4 ho4 hp4 HP2; have d1 := HPA.out.s1.mem.c1; have d2 := HPA.out.s2.mem.c1)
            | (go_at_fn g; refine (HGm.out _).mono ?_; rintro e w5 ⟨rfl, rfl⟩)
            | (at_builtin; refine wpList_append_own _ rfl _ _ 93 rfl (w.heap.size + 2) 86 i0 (.agg #[.int .i64 0, .int .i64 0]) 2 16 Tryz.underlying93 hi hz0 hz1 hz2 rfl (by decide) _ _ _ rfl (HPA.out.own.alloc _) ⟨w5.heap.size, 0, none⟩ 1 1 [.int .i64 low, .int .i64 (n1 - 1)] rfl rfl (cell2_new _ _ _ _) (by simp [Value.oneCell']) (by unfold maxLen; omega) (by omega) (by have := HPA.out.sz; simp; omega) ?_; intro v' w6 hown' hgrow _; have R := ownR_snoc (w := w5) (r := (low, n1 - 1)) rfl HPA.out.own (by simpa using hown') hgrow rfl (Below.refl _ _) HPA.out.sz; have HPB := hidE (HPA.out.grown R.2 R.1); clear hown' hgrow R)
            | fail)
          go_roundg (q1.length + q2.length)
          case measure => simp only [List.length_append] at hgk hless; omega
          case rel => exact ⟨n1, low, false, found ++ [(low, n1 - 1)], q1, q2, a3, a4, k3, k4, O1, O2, Nat.le_refl _, rfl, rfl, HAT.out _ _ _ _ _ _ HPB.out⟩
        · have HQ1 : Hid (foundNext found low true true n1 = found) := rfl
          have HQ2 : Hid (lowNext low true true n1 = low) := rfl
          rw [HQ1.out, HQ2.out] at HAT
          go_wp2_with (first
            | (go_at_call 145; have hq := HN1.out; clear HN1; refine hq.mono ?_; rintro e w' ⟨rfl, q3, rfl⟩; clear hq)
            | (go_at_call 145; refine (HN2.out _).mono ?_; rintro e w' ⟨rfl, q4, rfl⟩)
            | (go_at_call 146; have hq := HP1.out; clear HP1; refine (hq _).mono ?_; rintro e w3 ⟨rfl, a3, k3, hs3, ho3, hp3⟩; clear hq)
            | (go_at_call 146; refine (HP2.out _ (SideIn.off (w := wr.drewN _) (HA.out.s2.mem.drewN _) ho3 (by omega) (fun p hp => by have := HA.out.s2.low p hp; omega))).mono ?_; rintro e w4 ⟨rfl, a4, k4, hs4, ho4, hp4⟩; have HPA := hidE (HPO.out _ _ _ _ _ _ _ hs3 ho3 hp3 hs4 ho4 hp4); clear hs3 ho3 hp3 hs4 ho4 hp4 HP2; have d1 := HPA.out.s1.mem.c1; have d2 := HPA.out.s2.mem.c1)
            | (go_at_fn g; refine (HGm.out _).mono ?_; rintro e w5 ⟨rfl, rfl⟩)
            | fail)
          go_roundg (q1.length + q2.length)
          case measure => simp only [List.length_append] at hgk hless; omega
          case rel => exact ⟨n1, low, true, found, q1, q2, a3, a4, k3, k4, O1, O2, Nat.le_refl _, rfl, rfl, HAT.out _ _ _ _ _ _ HPA.out⟩
      · rw [hmin] at hend HP1 HP2 HST HPO HAT hmlt hmle
        have hne : (n2 == 1114113) = false := by rw [beq_eq_false_iff_ne]; exact hend
        clear hmin hend
        cases ins <;> cases now
        · have HQ1 : Hid (foundNext found low false false n2 = found) := rfl
          have HQ2 : Hid (lowNext low false false n2 = low) := rfl
          rw [HQ1.out, HQ2.out] at HAT
          go_wp2_with (first
            | (go_at_call 145; have hq := HN1.out; clear HN1; refine hq.mono ?_; rintro e w' ⟨rfl, q3, rfl⟩; clear hq)
            | (go_at_call 145; refine (HN2.out _).mono ?_; rintro e w' ⟨rfl, q4, rfl⟩)
            | (go_at_call 146; have hq := HP1.out; clear HP1; refine (hq _).mono ?_; rintro e w3 ⟨rfl, a3, k3, hs3, ho3, hp3⟩; clear hq)
            | (go_at_call 146; refine (HP2.out _ (SideIn.off (w := wr.drewN _) (HA.out.s2.mem.drewN _) ho3 (by omega) (fun p hp => by have := HA.out.s2.low p hp; omega))).mono ?_; rintro e w4 ⟨rfl, a4, k4, hs4, ho4, hp4⟩; have HPA := hidE (HPO.out _ _ _ _ _ _ _ hs3 ho3 hp3 hs4 ho4 hp4); clear hs3 ho3 hp3 hs4 ho4 hp4 HP2; have d1 := HPA.out.s1.mem.c1; have d2 := HPA.out.s2.mem.c1)
            | (go_at_fn g; refine (HGm.out _).mono ?_; rintro e w5 ⟨rfl, rfl⟩)
            | fail)
          go_roundg (q1.length + q2.length)
          case measure => simp only [List.length_append] at hgk hless; omega
          case rel => exact ⟨n2, low, false, found, q1, q2, a3, a4, k3, k4, O1, O2, Nat.le_refl _, rfl, rfl, HAT.out _ _ _ _ _ _ HPA.out⟩
        · have HQ1 : Hid (foundNext found low false true n2 = found) := rfl
          have HQ2 : Hid (lowNext low false true n2 = n2) := rfl
          rw [HQ1.out, HQ2.out] at HAT
          go_wp2_with (first
            | (go_at_call 145; have hq := HN1.out; clear HN1; refine hq.mono ?_; rintro e w' ⟨rfl, q3, rfl⟩; clear hq)
            | (go_at_call 145; refine (HN2.out _).mono ?_; rintro e w' ⟨rfl, q4, rfl⟩)
            | (go_at_call 146; have hq := HP1.out; clear HP1; refine (hq _).mono ?_; rintro e w3 ⟨rfl, a3, k3, hs3, ho3, hp3⟩; clear hq)
            | (go_at_call 146; refine (HP2.out _ (SideIn.off (w := wr.drewN _) (HA.out.s2.mem.drewN _) ho3 (by omega) (fun p hp => by have := HA.out.s2.low p hp; omega))).mono ?_; rintro e w4 ⟨rfl, a4, k4, hs4, ho4, hp4⟩; have HPA := hidE (HPO.out _ _ _ _ _ _ _ hs3 ho3 hp3 hs4 ho4 hp4); clear hs3 ho3 hp3 hs4 ho4 hp4 HP2; have d1 := HPA.out.s1.mem.c1; have d2 := HPA.out.s2.mem.c1)
            | (go_at_fn g; refine (HGm.out _).mono ?_; rintro e w5 ⟨rfl, rfl⟩)
            | fail)
          go_roundg (q1.length + q2.length)
          case measure => simp only [List.length_append] at hgk hless; omega
          case rel => exact ⟨n2, n2, true, found, q1, q2, a3, a4, k3, k4, O1, O2, Nat.le_refl _, rfl, rfl, HAT.out _ _ _ _ _ _ HPA.out⟩
        · have HQ1 : Hid (foundNext found low true false n2 = found ++ [(low, n2 - 1)]) := rfl
          have HQ2 : Hid (lowNext low true false n2 = low) := rfl
          rw [HQ1.out, HQ2.out] at HAT
          go_wp2_with (first
            | (go_at_call 145; have hq := HN1.out; clear HN1; refine hq.mono ?_; rintro e w' ⟨rfl, q3, rfl⟩; clear hq)
            | (go_at_call 145; refine (HN2.out _).mono ?_; rintro e w' ⟨rfl, q4, rfl⟩)
            | (go_at_call 146; have hq := HP1.out; clear HP1; refine (hq _).mono ?_; rintro e w3 ⟨rfl, a3, k3, hs3, ho3, hp3⟩; clear hq)
            | (go_at_call 146; refine (HP2.out _ (SideIn.off (w := wr.drewN _) (HA.out.s2.mem.drewN _) ho3 (by omega) (fun p hp => by have := HA.out.s2.low p hp; omega))).mono ?_; rintro e w4 ⟨rfl, a4, k4, hs4, ho4, hp4⟩; have HPA := hidE (HPO.out _ _ _ _ _ _ _ hs3 ho3 hp3 hs4 ho4 hp4); clear hs3 ho3 hp3 hs4 ho4 hp4 HP2; have d1 := HPA.out.s1.mem.c1; have d2 := HPA.out.s2.mem.c1)
            | (go_at_fn g; refine (HGm.out _).mono ?_; rintro e w5 ⟨rfl, rfl⟩)
            | (at_builtin; refine wpList_append_own _ rfl _ _ 93 rfl (w.heap.size + 2) 86 i0 (.agg #[.int .i64 0, .int .i64 0]) 2 16 Tryz.underlying93 hi hz0 hz1 hz2 rfl (by decide) _ _ _ rfl (HPA.out.own.alloc _) ⟨w5.heap.size, 0, none⟩ 1 1 [.int .i64 low, .int .i64 (n2 - 1)] rfl rfl (cell2_new _ _ _ _) (by simp [Value.oneCell']) (by unfold maxLen; omega) (by omega) (by have := HPA.out.sz; simp; omega) ?_; intro v' w6 hown' hgrow _; have R := ownR_snoc (w := w5) (r := (low, n2 - 1)) rfl HPA.out.own (by simpa using hown') hgrow rfl (Below.refl _ _) HPA.out.sz; have HPB := hidE (HPA.out.grown R.2 R.1); clear hown' hgrow R)
            | fail)
          go_roundg (q1.length + q2.length)
          case measure => simp only [List.length_append] at hgk hless; omega
          case rel => exact ⟨n2, low, false, found ++ [(low, n2 - 1)], q1, q2, a3, a4, k3, k4, O1, O2, Nat.le_refl _, rfl, rfl, HAT.out _ _ _ _ _ _ HPB.out⟩
        · have HQ1 : Hid (foundNext found low true true n2 = found) := rfl
          have HQ2 : Hid (lowNext low true true n2 = low) := rfl
          rw [HQ1.out, HQ2.out] at HAT
          go_wp2_with (first
            | (go_at_call 145; have hq := HN1.out; clear HN1; refine hq.mono ?_; rintro e w' ⟨rfl, q3, rfl⟩; clear hq)
            | (go_at_call 145; refine (HN2.out _).mono ?_; rintro e w' ⟨rfl, q4, rfl⟩)
            | (go_at_call 146; have hq := HP1.out; clear HP1; refine (hq _).mono ?_; rintro e w3 ⟨rfl, a3, k3, hs3, ho3, hp3⟩; clear hq)
            | (go_at_call 146; refine (HP2.out _ (SideIn.off (w := wr.drewN _) (HA.out.s2.mem.drewN _) ho3 (by omega) (fun p hp => by have := HA.out.s2.low p hp; omega))).mono ?_; rintro e w4 ⟨rfl, a4, k4, hs4, ho4, hp4⟩; have HPA := hidE (HPO.out _ _ _ _ _ _ _ hs3 ho3 hp3 hs4 ho4 hp4); clear hs3 ho3 hp3 hs4 ho4 hp4 HP2; have d1 := HPA.out.s1.mem.c1; have d2 := HPA.out.s2.mem.c1)
            | (go_at_fn g; refine (HGm.out _).mono ?_; rintro e w5 ⟨rfl, rfl⟩)
            | fail)
          go_roundg (q1.length + q2.length)
          case measure => simp only [List.length_append] at hgk hless; omega
          case rel => exact ⟨n2, low, true, found, q1, q2, a3, a4, k3, k4, O1, O2, Nat.le_refl _, rfl, rfl, HAT.out _ _ _ _ _ _ HPA.out⟩
end Go.Proofs.YthdmhelgmejicaaGreatDoor
