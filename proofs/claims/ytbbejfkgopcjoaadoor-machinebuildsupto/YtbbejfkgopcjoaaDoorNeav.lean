/-
  McIW, McJW, McKM.
-/
import Derived.Test.YtbbejfkgopcjoaaDoorNeau
namespace Go.Proofs.YtbbejfkgopcjoaaDoor
open Go.RowKit Go.Shelf
theorem endL_small (g : Nat → Bool) (own : List Nat) (n m : Nat) (h : ∀ q, g q = true → q < m) : (endL g own n).length ≤ m := by
  unfold endL
  have h1 := onceC_len ((plB g n).map fun q => own.getD q 0) []
  rw [List.length_map] at h1
  simp only [List.length_nil] at h1
  have h2 : (plB g n).length ≤ m := nodup_lt m _ (by unfold plB; exact List.Pairwise.filter _ List.nodup_range) (fun x hx => h x (plB_mem.1 hx).2)
  omega
section
variable {wB wJ : World} {B J sy lo N most outs GT cT NB GR cR : Nat} {A : Nat → Addr} {j : Jn} {vO vF vE vL vM vZ vP vC vS vA vOp : Value} {os : List (List UInt8 × List Nat)} {ix : Nat → Nat} {fs : Nat → Nat → Bool} {tf : Nat → List UInt8} {ps : Lob} {R : Nat → Bool} {ks : List (List UInt8)} {NX OU : List Value} {nx ou : List (List Nat)}
theorem BuI.congr {wB wJ W : World} {B J sy N most outs GT cT NB : Nat} {vOp vRe : Value} {tf tf' : Nat → List UInt8} {ps : Lob} {R : Nat → Bool} {sts ks : List (List UInt8)} {NX OU : List Value} {nx ou : List (List Nat)} (h : BuI wB wJ B J sy N most outs GT cT NB vOp vRe tf ps R sts ks NX OU nx ou W) (e : ∀ c, c < sy → tf c = tf' c) : BuI wB wJ B J sy N most outs GT cT NB vOp vRe tf' ps R sts ks NX OU nx ou W := ⟨h.bel, h.kes, h.bb, h.re, h.nb, h.lo', h.cr, h.sl, h.tx.1, h.tx.2.1, fun c hc => (h.tx.2.2 c hc).trans (e c (by rw [← h.tx.1]; exact hc))⟩
theorem reachB_any (hC : JoC wJ J sy lo N A j vO vF vE vL vM vZ vP vC vS vA) (hop : OpI wB wJ.heap.size vOp os) (hos : os.length ≤ 16384) (hok : JnOk j sy N) (hN : N ≤ 1000000) (hol : j.own.length ≤ 10000000) (hfl : j.FO.flatten.length ≤ 1000000000) (hfs : ∀ i (h : i < os.length), (os[i]).1 = encW (fs i) N ∧ ∀ q, fs i q = true → q < j.own.length) {b : Bs} (hb : BsOk j N os b) (V : World) (h : BuI wB wJ B J sy N most outs GT cT NB vOp (.slice (some ⟨GR, 0, none⟩) N cR) tf ps R ([] :: b.ks) b.ks NX OU nx ou V) {s : Nat} (hs : s < b.ks.length + 1) (hkl : b.ks.length ≤ 16384) :
    Calls Tryd.prog 55 #[.pointer (some ⟨B, 0, none⟩), .int .i64 (s : Int)] V fun e w' => (∃ v, e = .returned v) ∧ Hid (BuI wB wJ B J sy N most outs GT cT NB vOp (.slice (some ⟨GR, 0, none⟩) N cR) tf ps (bR j N fs b s) ([] :: b.ks) b.ks NX OU nx ou w') := by
  obtain ⟨vSt, vNx, vOu, h1, h2, h3, h4, h5⟩ := h.bb
  have hO' : ∀ {V' : World}, Only V V' (fun k => k = GR) → Only V V' (fun k => (Value.slice (some ⟨GR, 0, none⟩) N cR).ownBlock = some k) := fun q => q.mono (fun k hk => by rw [hk]; rfl)
  by_cases hs0 : s = 0
  · subst hs0
    obtain ⟨hj, _⟩ := hC V h.bel
    obtain ⟨aC, cC, eC⟩ := own_sl hj.c
    subst eC
    refine (reach0_any B J GR N cR wJ.heap.size lo most outs sy cC R j.cl aC vOp _ _ vSt vNx vOu vO vF vE vL vM vZ vP vS vA V h1 hj.b h.re hj.c).mono (fun e w' ⟨q1, q2, q3⟩ => ⟨q1, hid0 (h.reach (R' := bR j N fs b 0) ?_ (hO' q3))⟩)
    exact q2
  · have hlt : s - 1 < b.gs.length := by rw [hb.len]; omega
    have hlk : s - 1 < b.ks.length := by omega
    have etx := hb.tx (s - 1) hlt hlk
    have egd : b.gs.getD (s - 1) (0, fun _ => false) = b.gs[s - 1] := by rw [List.getD_eq_getElem?_getD, List.getElem?_eq_getElem hlt]; rfl
    have eR : bR j N fs b s = rcF j N (fs (b.gs[s - 1]).1) (b.gs[s - 1]).2 := by unfold bR; rw [if_neg hs0, egd]
    have hgi := hb.ix _ (List.getElem_mem hlt)
    have hgl := hb.lt _ (List.getElem_mem hlt)
    obtain ⟨o, ho⟩ : ∃ o, o = (b.gs[s - 1]).1 := ⟨_, rfl⟩
    obtain ⟨f, hf⟩ : ∃ f, f = (b.gs[s - 1]).2 := ⟨_, rfl⟩
    rw [← ho, ← hf] at etx eR
    rw [← ho] at hgi
    rw [← hf] at hgl
    have hnS : (([] :: b.ks).map stV).length = b.ks.length + 1 := by rw [List.length_map, List.length_cons]
    obtain ⟨GS, cS, eS, _, _, _⟩ := own_form h2 (by omega)
    obtain ⟨aP, cP, eP⟩ := own_sl (hC V h.bel).1.p
    subst eP
    obtain ⟨VS, o1, o2⟩ := (h.kes.op hop).own
    obtain ⟨q1, aE, cE, q2, q3⟩ := o2 o hgi
    obtain ⟨GO, cO, eO, _, _, _⟩ := own_form o1 (by omega)
    subst eO
    subst eS
    rw [(hfs o hgi).1] at q1
    rw [eR]
    refine (reach_any B J GR N cR wJ.heap.size sy most outs GS (([] :: b.ks).map stV).length cS s GO os.length cO o cE cP (os[o]).2.length aE aP R f (fs o) j.op j.FO (.slice (some ⟨GT, 0, none⟩) sy cT) (.map (some NB)) vNx vOu vO vF vE vL vM vZ vC vS vA V (fun V' hV' => ?_) h.re hN hok.fo' (fun q hq => by rw [hok.fo]; exact hgl q hq) (fun q hq => by rw [hok.fo]; exact (hfs o hgi).2 q hq) hfl (by rw [hok.fo]; omega) (by rw [hnS]; omega) (by omega) (by rw [hnS]; omega) hgi (by omega)).mono (fun e w' ⟨r1, r2, r3⟩ => ⟨r1, hid0 (h.reach r2 (hO' r3))⟩)
    have hk : KeB [105] V V' := KeB.row h.re (by simp) (hO' hV')
    have hbl : Below wJ.heap.size wJ V' := hV'.afterBelow h.bel h.bel.size (fun i hi => by rw [hi]; exact (World.ownsRow.lt h.re GR rfl).1)
    obtain ⟨g1, g2, _, g4, _⟩ := hC V' hbl
    have hbB : V'.heap[B]? = V.heap[B]? := by rw [hk.kp B _ h1.r (fun cs' t' f' e => by injection e with _ e2; rw [← e2]; decide), h1.r]
    have hst := hk.own h2 (by decide)
    have hoo := hk.own o1 (by decide)
    have hVl : VS.length = os.length * 2 := o1.1
    refine ⟨h1.kept hbB, g1.b, ?_, ?_, ?_, g4, g2, _, g1.p⟩
    · rw [World.ownsRow.cellAt hst s (by omega)]
      have e7 : ([] :: b.ks)[s]? = some (b.ks[s - 1]) := by
        obtain ⟨s', rfl⟩ : ∃ s', s = s' + 1 := ⟨s - 1, by omega⟩
        rw [List.getElem?_cons_succ, List.getElem?_eq_getElem (by omega)]
        rfl
      rw [List.getElem?_map, List.getElem?_map, e7, etx]
      rfl
    · rw [World.ownsRow.cellAt hoo (o * 2) (by omega)]; exact q1
    · rw [World.ownsRow.cellAt hoo (o * 2 + 1) (by omega)]; exact q2
theorem partB_any (hC : JoC wJ J sy lo N A j vO vF vE vL vM vZ vP vC vS vA) (hok : JnOk j sy N) (hN : N ≤ 1000000) (hol : j.own.length ≤ 64 * N) (hsy : sy ≤ 16384) (hlt : (LTs j.LE N).flatten.length ≤ 1000000000) {sts : List (List UInt8)} (V : World) (h : BuI wB wJ B J sy N most outs GT cT NB vOp (.slice (some ⟨GR, 0, none⟩) N cR) (fun c => leB (ix c) 4) ps R sts ks NX OU nx ou V) :
    Calls Tryd.prog 48 #[.pointer (some ⟨B, 0, none⟩), .slice (some ⟨GR, 0, none⟩) N cR] V fun e w' => (∃ v, e = .returned v) ∧ Hid (∃ ps', BuI wB wJ B J sy N most outs GT cT NB vOp (.slice (some ⟨GR, 0, none⟩) N cR) (bT j N ix R) ps' R sts ks NX OU nx ou w') := by
  obtain ⟨vSt, vNx, vOu, h1, h2, h3, h4, h5⟩ := h.bb
  by_cases hN0 : N = 0
  · subst hN0
    exact (part_none B GT cT cR sy wJ.heap.size (some ⟨GR, 0, none⟩) (ltF j.LE) R (fun c => leB (ix c) 4) ps V h.ptI).mono (fun _ _ ⟨q1, q2⟩ => ⟨q1, hid0 (h.part (q2.congr (fun c _ => rfl)))⟩)
  · refine (part_any B J GT cT GR cR N sy wJ.heap.size wJ.heap.size vL vM (LTs j.LE N) (ltF j.LE) R (fun c => leB (ix c) 4) ps V hN (by omega) h.bel.size (rowL_ok j.LE sy N hok.le' (by rw [hok.le]; exact hol)) hlt (by omega) (fun c _ => by rw [leB_len]; omega) (fun V' hV' => ?_) h.ptI).mono (fun _ _ ⟨q1, q2⟩ => ⟨q1, hid0 (h.part (q2.congr (fun c _ => rfl)))⟩)
    obtain ⟨hk, hb⟩ := h.ptK hV'
    have hbB : V'.heap[B]? = V.heap[B]? := by rw [hk.kp B _ h1.r (fun cs' t' f' e => by injection e with _ e2; rw [← e2]; decide), h1.r]
    have hbV := h1.kept hbB
    obtain ⟨g1, _, _, _, g5⟩ := hC V' hb
    exact ⟨hbV.c.1, hbV.c.2.2.2.1, g1.b.c.2.2.2.2.1, g1.b.c.2.2.2.2.2.1, g5, hk.own h.re (by decide)⟩
end
end Go.Proofs.YtbbejfkgopcjoaaDoor
namespace Go.Proofs.YtbbejfkgopcjoaaDoor
open Go.RowKit Go.Shelf
/-- The openings, the number of a symbol's, the places of each. -/
def bOs (j : Jn) (N sy : Nat) : List (List UInt8 × List Nat) := (csF (opF j N) sy).map fun c => (opF j N c, opE j N c)
def bIx (j : Jn) (N sy : Nat) : Nat → Nat := ixF (opF j N) sy
def bFs (j : Jn) (N sy : Nat) : Nat → Nat → Bool := fun i => andB j.op (ltF j.LE ((csF (opF j N) sy).getD i 0))
/-- The machine of joined patterns, of so many states at most. -/
def bAll (j : Jn) (N sy most : Nat) : Option Bs := bRun j N sy most (bIx j N sy) (bFs j N sy) (bOs j N sy) most
theorem bOs_ok {j : Jn} {N sy : Nat} (hok : JnOk j sy N) (hol : j.own.length ≤ 10000000) : (bOs j N sy).length ≤ sy ∧ (∀ c, c < sy → bIx j N sy c < (bOs j N sy).length) ∧ (∀ x ∈ bOs j N sy, x.2.length ≤ 10000000) ∧ ∀ i (h : i < (bOs j N sy).length), ((bOs j N sy)[i]).1 = encW (bFs j N sy i) N ∧ ∀ q, bFs j N sy i q = true → q < j.own.length := by
  have hl : (bOs j N sy).length = (csF (opF j N) sy).length := by unfold bOs; rw [List.length_map]
  refine ⟨by rw [hl]; exact csF_len _ _, fun c hc => by rw [hl]; exact ixF_lt _ hc, fun x hx => ?_, fun i hi => ⟨?_, fun q hq => ?_⟩⟩
  · obtain ⟨c, _, rfl⟩ := List.mem_map.1 hx
    refine Nat.le_trans (endL_small _ _ _ j.own.length (fun q hq => ?_)) hol
    rw [Bool.and_eq_true] at hq
    exact hok.la' q hq.2
  · have hi2 : i < (csF (opF j N) sy).length := by rw [← hl]; exact hi
    have e : (bOs j N sy)[i]? = some (opF j N (csF (opF j N) sy)[i], opE j N (csF (opF j N) sy)[i]) := by unfold bOs; rw [List.getElem?_map, List.getElem?_eq_getElem hi2]; rfl
    rw [(List.getElem?_eq_some_iff.1 e).2]
    unfold bFs
    rw [List.getD_eq_getElem?_getD, List.getElem?_eq_getElem hi2]
    rfl
  · unfold bFs andB at hq
    rw [Bool.and_eq_true] at hq
    exact hok.op' q hq.1
/-- What build leaves. -/
def BdP (wJ : World) (A : Nat → Addr) (res : Option Bs) (e : Ending) (w' : World) : Prop :=
  match res with
  | none => e = .returned (.tuple #[.agg #[.int .i64 0, .slice none 0 0, .slice none 0 0], .iface 157 (.pointer (some (A 2)))]) ∧ Below wJ.heap.size wJ w'
  | some b => ∃ vNx vOu NX OU, e = .returned (.tuple #[.agg #[.int .i64 0, vNx, vOu], .nilIface]) ∧ Below wJ.heap.size wJ w' ∧ RwsM w' wJ.heap.size vNx NX b.nx ∧ RwsM w' wJ.heap.size vOu OU b.ou ∧ (NX ++ OU).Pairwise Apt ∧ Apt vNx vOu
/-- From state to state. -/
structure BlI (wB wJ : World) (B J sy N most GT cT NB GR cR : Nat) (j : Jn) (vOp : Value) (ix : Nat → Nat) (fs : Nat → Nat → Bool) (os : List (List UInt8 × List Nat)) (s : Nat) (b : Bs) (NX OU : List Value) (ps : Lob) (R : Nat → Bool) (W : World) : Prop where
  run : bRun j N sy most ix fs os s = some b
  bu : BuI wB wJ B J sy N most b.n GT cT NB vOp (.slice (some ⟨GR, 0, none⟩) N cR) (fun c => leB (ix c) 4) ps R ([] :: b.ks) b.ks NX OU b.nx b.ou W
  ok : BsOk j N os b
  b1 : b.ks.length + 1 ≤ most
  b2 : b.n ≤ 4194304
  b3 : s ≤ b.ks.length + 1
  b4 : b.nx.length = s
theorem take4 (ix : Nat → Nat) (j : Jn) (N : Nat) (R : Nat → Bool) (c : Nat) : (bT j N ix R c).take 4 = leB (ix c) 4 := by
  unfold bT
  exact List.take_left' (leB_len 4 (ix c))
set_option maxRecDepth 10000 in
set_option maxHeartbeats 6400000 in
theorem build_any (wJ w : World) (B J sy lo N most GT NB KB : Nat) (A : Nat → Addr) (j : Jn) (vO vF vE vL vM vZ vP vC vS vA : Value) (ps : Lob) (hC : JoC wJ J sy lo N A j vO vF vE vL vM vZ vP vC vS vA) (hnb : NbI wJ B J sy N most GT sy NB KB (opF j N) (opE j N) (csF (opF j N) sy) (csF (opF j N) sy) (txN (opF j N) sy) ps w) (hok : JnOk j sy N) (hN : N ≤ 1000000) (hsy : sy ≤ 16384) (hol : j.own.length ≤ 10000000) (hol2 : j.own.length ≤ 64 * N) (hfl : j.FO.flatten.length ≤ 1000000000) (hlt : (LTs j.LE N).flatten.length ≤ 1000000000) (hal : j.alw.length ≤ 10000000) (ha0 : j.at0.length ≤ 10000000) (hm1 : 1 ≤ most) (hmo : most ≤ 16384) :
    Calls Tryd.prog 29 #[.pointer (some ⟨B, 0, none⟩)] w fun e w' => BdP wJ A (bAll j N sy most) e w' := by
  obtain ⟨i0, hi, hz⟩ := Option.map_eq_some_iff.1 infoIntsM
  simp only [Prod.mk.injEq] at hz
  obtain ⟨hz0, hz1, hz2⟩ := hz
  obtain ⟨os1, os2, os3, os4⟩ := bOs_ok (N := N) hok hol
  obtain ⟨os, hos⟩ : ∃ os, os = bOs j N sy := ⟨_, rfl⟩
  obtain ⟨ix, hix⟩ : ∃ ix, ix = bIx j N sy := ⟨_, rfl⟩
  obtain ⟨fs, hfs⟩ : ∃ fs, fs = bFs j N sy := ⟨_, rfl⟩
  have hres : bAll j N sy most = bRun j N sy most ix fs os most := by rw [hos, hix, hfs]; rfl
  rw [hres]
  rw [← hos] at os1 os2 os3 os4
  rw [← hix] at os2
  rw [← hfs] at os4
  obtain ⟨vOp, vRe, n1, n2, n3, GR, cR, eR⟩ := hnb.bb
  subst eR
  obtain ⟨RC, hRC⟩ : ∃ RC, RC = w.heap.size := ⟨_, rfl⟩
  obtain ⟨w0, hw0⟩ : ∃ w0, w0 = w.alloc (.cells #[.int .i64 0, .slice none 0 0, .slice none 0 0] 28) := ⟨_, rfl⟩
  have hb0 : Below w.heap.size w w0 := by rw [hw0]; exact (Below.refl _ _).alloc (Nat.le_refl _) _
  have hrc : w0.heap[RC]? = some (.cells #[.int .i64 0, .slice none 0 0, .slice none 0 0] 28 (0, 0)) := by rw [hw0, hRC]; exact heap_alloc_new w _
  have hn0 := hnb.new hb0
  have hop : OpI w0 wJ.heap.size vOp os := by
    have hk : KeB [] w w0 := KeB.below _ hb0
    rw [hos]
    exact n2.keep hk (by simp) (by simp)
  have hB0 : BuI w0 wJ B J sy N most 0 GT sy NB vOp (.slice (some ⟨GR, 0, none⟩) N cR) (fun c => leB (ix c) 4) ps (fun _ => false) [] [] [] [] [] [] w0 := by
    have hk : KeB [] w w0 := KeB.below _ hb0
    refine ⟨hn0.bel, KeS.refl _, ⟨_, _, _, n1.past hb0, World.ownsRow_nil _ _ _ _, RwsM.nil _ _, RwsM.nil _ _, fun k hk => by cases hk⟩, hk.own n3 (by simp), hn0.nb, ⟨hn0.lo'.1, hn0.lo'.2.2⟩, List.Pairwise.nil, rfl, hn0.tx.1, hn0.tx.2.1, fun c hc => ?_⟩
    rw [hn0.tx.2.2 c hc, hix]
    unfold txN bIx
    rw [if_pos (by rw [← hn0.tx.1]; exact hc)]
  have HRe : Hid (∀ {b : Bs} {n : Nat} {ps : Lob} {R : Nat → Bool} {NX OU : List Value} {nx ou : List (List Nat)} {s : Nat}, BsOk j N os b → s < b.ks.length + 1 → b.ks.length ≤ 16384 → ∀ V : World, BuI w0 wJ B J sy N most n GT sy NB vOp (.slice (some ⟨GR, 0, none⟩) N cR) (fun c => leB (ix c) 4) ps R ([] :: b.ks) b.ks NX OU nx ou V → Calls Tryd.prog 55 #[.pointer (some ⟨B, 0, none⟩), .int .i64 (s : Int)] V fun e w' => (∃ v, e = .returned v) ∧ Hid (BuI w0 wJ B J sy N most n GT sy NB vOp (.slice (some ⟨GR, 0, none⟩) N cR) (fun c => leB (ix c) 4) ps (bR j N fs b s) ([] :: b.ks) b.ks NX OU nx ou w')) := hid0 (fun q1 q2 q3 V q4 => reachB_any hC hop (by omega) hok hN hol hfl os4 q1 V q4 q2 q3)
  have HPa : Hid (∀ {n : Nat} {ps : Lob} {R : Nat → Bool} {sts ks : List (List UInt8)} {NX OU : List Value} {nx ou : List (List Nat)} (V : World), BuI w0 wJ B J sy N most n GT sy NB vOp (.slice (some ⟨GR, 0, none⟩) N cR) (fun c => leB (ix c) 4) ps R sts ks NX OU nx ou V → Calls Tryd.prog 48 #[.pointer (some ⟨B, 0, none⟩), .slice (some ⟨GR, 0, none⟩) N cR] V fun e w' => (∃ v, e = .returned v) ∧ Hid (∃ ps', BuI w0 wJ B J sy N most n GT sy NB vOp (.slice (some ⟨GR, 0, none⟩) N cR) (bT j N ix R) ps' R sts ks NX OU nx ou w')) := hid0 (fun V q => partB_any hC hok hN hol2 hsy hlt V q)
  have HNs : Hid (∀ (b : Bs) (ps : Lob) (R : Nat → Bool) (NX OU : List Value) (V : World), BuI w0 wJ B J sy N most b.n GT sy NB vOp (.slice (some ⟨GR, 0, none⟩) N cR) (bT j N ix R) ps R ([] :: b.ks) b.ks NX OU b.nx b.ou V → b.ks.length + 1 ≤ most → b.n ≤ 4194304 → Calls Tryd.prog 56 #[.pointer (some ⟨B, 0, none⟩)] V fun e w' => NsP w0 wJ B J sy N most GT sy NB A vOp (.slice (some ⟨GR, 0, none⟩) N cR) (bT j N ix R) R [] NX b.nx (nsF (bT j N ix R) (fun c => outF j N os (ix c) (andB R (ltF j.LE c))) most b.ks b.n b.ou sy) e w') := hid0 (fun b ps R NX OU V q1 q2 q3 => nextStates_any w0 wJ V B J sy lo N most b.n GT sy NB A j vO vF vE vL vM vZ vP vC vS vA vOp _ os (bT j N ix R) ix (fun c => andB R (ltF j.LE c)) R [] b.ks NX OU b.nx b.ou ps hC hop hN hsy hok.la' (by omega) hal (by omega) os3 (fun c hc => ⟨os2 c hc, rfl⟩) q1 q2 q3 hmo hn0.bel.size)
  -- the answer's own block
  have HRc : Hid (∀ V : World, KeS w0 V → V.heap[RC]? = some (.cells #[.int .i64 0, .slice none 0 0, .slice none 0 0] 28 (0, 0))) := hid0 (fun V hV => (hV.kp RC _ _ _ hrc (.inr (.inr rfl))).trans hrc)
  have HFin : Hid (∀ (V : World) (x y z : Value), KeS w0 V → Below wJ.heap.size wJ V → ∀ V', V' = (((V.setCell ⟨RC, 0, none⟩ x).setCell ⟨RC, 1, none⟩ y).setCell ⟨RC, 2, none⟩ z) → V'.cell? ⟨RC, 0, none⟩ = some x ∧ V'.cell? ⟨RC, 1, none⟩ = some y ∧ V'.cell? ⟨RC, 2, none⟩ = some z ∧ Below wJ.heap.size wJ V') := hid0 (fun V x y z hV hb V' e => by
    have hq := heap_setCell_same _ _ 2 _ _ z (heap_setCell_same _ _ 1 _ _ y (heap_setCell_same V _ 0 _ _ x (HRc.out V hV)))
    have hRJ : wJ.heap.size ≤ RC := by rw [hRC]; exact hnb.bel.size
    subst e
    refine ⟨by rw [cell_of_row _ _ _ _ _ _ hq]; rfl, by rw [cell_of_row _ _ _ _ _ _ hq]; rfl, by rw [cell_of_row _ _ _ _ _ _ hq]; rfl, ?_⟩
    exact (((hb.setCell (p := ⟨RC, 0, none⟩) hRJ _).setCell (p := ⟨RC, 1, none⟩) hRJ _).setCell (p := ⟨RC, 2, none⟩) hRJ _))
  have HRf : Hid (∀ V : World, KeS w0 V → V.cell? ⟨RC, 0, none⟩ = some (.int .i64 0) ∧ V.cell? ⟨RC, 1, none⟩ = some (.slice none 0 0) ∧ V.cell? ⟨RC, 2, none⟩ = some (.slice none 0 0) ∧ V.frozen? ⟨RC, 0, none⟩ = false ∧ V.frozen? ⟨RC, 1, none⟩ = false ∧ V.frozen? ⟨RC, 2, none⟩ = false) := hid0 (fun V hV => by
    have hq := HRc.out V hV
    refine ⟨by rw [cell_of_row _ _ _ _ _ _ hq]; rfl, by rw [cell_of_row _ _ _ _ _ _ hq]; rfl, by rw [cell_of_row _ _ _ _ _ _ hq]; rfl, by simp [World.frozen?, hq], by simp [World.frozen?, hq], by simp [World.frozen?, hq]⟩)
  obtain ⟨hj0, _, hsen, _⟩ := hC w0 hn0.bel
  obtain ⟨aS, cS, eS, hIS, hS1, hS2⟩ := OwnI.sl hj0.s
  obtain ⟨n0, hn0e⟩ : ∃ n0, n0 = j.at0.length := ⟨_, rfl⟩
  rw [← hn0e] at eS hS1
  have d0 : w0.cell? ⟨B, 0, none⟩ = some (.pointer (some ⟨J, 0, none⟩)) := (n1.past hb0).c.1
  have d9 : w0.cell? ⟨J, 9, none⟩ = some (.slice aS n0 cS) := by rw [← eS]; exact hj0.b.c.2.2.2.2.2.2.2.2.2.1
  have HMe : Hid (Calls Tryd.prog 54 #[.slice aS n0 cS, .slice none 0 0] w0 fun e w' => ∃ ao co, e = .returned (.slice ao n0 co) ∧ Hid (OwnI w' w0.heap.size (.slice ao n0 co) (nI j.at0) ∧ Below w0.heap.size w0 w')) := hid0 (by
    have h := merged_any j.at0 [] aS none cS 0 w0 hIS (ia_nil _ _) (by rw [← hn0e]; exact hS1) (Nat.le_refl _) hS2 (fun _ => rfl) (by omega) (by simp)
    rw [mrg_nil, ← hn0e] at h
    refine h.mono (fun e w' ⟨v, q1, q2, q3⟩ => ?_)
    obtain ⟨ao, co, e4⟩ := own_sl q2
    rw [nI_len, ← hn0e] at e4
    subst e4
    exact ⟨ao, co, q1, hid0 ⟨q2, q3⟩⟩)
  have hn0b : n0 ≤ 10000000 := by omega
  have HSen : Hid (∀ V : World, Below wJ.heap.size wJ V → Sen2 V A) := hid0 (fun V hV => (hC V hV).2.2.1)
  have HB0 := hid0 hB0
  have HJo : Hid (JnOk j sy N) := hid0 hok
  have HIx := hid0 os2
  have HN0 := hid0 hn0e
  have hfold := hw0.symm
  have hRC2 := hRC.symm
  clear hC hop hnb hok hol hol2 hfl hlt hal ha0 os1 os2 os3 os4 n1 n2 n3 hrc hn0 hB0 hw0 hRC hj0 hIS eS hos hix hfs hres hn0e hb0 hsen
  by_cases hf : 4194304 < n0
  · have HAd : Hid (∀ (w1 : World) (ao : Option Addr) (co : Nat), Below w0.heap.size w0 w1 → Calls Tryd.prog 53 #[.pointer (some ⟨B, 0, none⟩), .string ⟨#[]⟩, .slice ao n0 co] w1 fun e w' => e = .returned (.iface 157 (.pointer (some (A 2)))) ∧ Hid (KeS w0 w' ∧ Below wJ.heap.size wJ w')) := hid0 (fun w1 ao co q => by
      have h1 := HB0.out.keB q
      obtain ⟨vSt4, vNx4, vOu4, t1, t2, t3, _⟩ := h1.add
      refine (addState_any B J wJ.heap.size most 0 n0 co A vOp _ _ _ vSt4 vNx4 vOu4 [] [] ⟨#[]⟩ ao w1 t1 t2 t3 h1.bel.size (HSen.out w1 h1.bel) (by simp) (by simp) hmo (by omega) (by omega)).mono (fun e w' ⟨z1, _⟩ => ?_)
      obtain ⟨r1, r2⟩ := z1 (.inr (by omega))
      have hkk : KeB [97] w1 w' := KeB.only r2 (fun q hq _ => by rw [hq]; exact ⟨_, _, _, t1.r, by simp⟩)
      exact ⟨r1, hid0 ⟨h1.kes.keB hkk (by decide) (by decide), r2.afterBelow h1.bel h1.bel.size (fun i hi => by rw [hi]; exact h1.lo'.1)⟩⟩)
    have HRes : Hid (bRun j N sy most ix fs os most = none) := hid0 (by
      have e1 : bRun j N sy most ix fs os 0 = none := by rw [bRun, if_pos (.inr (by rw [← HN0.out]; exact hf))]
      have e2 := bRun_none e1 most
      rw [Nat.zero_add] at e2
      exact e2)
    go_enter Tryd.func29, Tryd.ntmps29
    go_upto_region 3 with (first
      | (go_at_call 54; go_loud ((refine HMe.out.mono ?_; rintro e w1 ⟨ao, co, rfl, HE1⟩)))
      | (go_at_call 53; go_loud ((refine (HAd.out w1 ao co HE1.out.2).mono ?_; rintro e w2 ⟨rfl, HP⟩))))
    obtain ⟨c0, c1, c2, f0, f1, f2⟩ := HRf.out w2 HP.out.1
    go_wp2
    obtain ⟨V', hV'⟩ : ∃ V', V' = (((w2.setCell ⟨RC, 0, none⟩ (.int .i64 0)).setCell ⟨RC, 1, none⟩ (.slice none 0 0)).setCell ⟨RC, 2, none⟩ (.slice none 0 0)) := ⟨_, rfl⟩
    rw [← hV']
    obtain ⟨q0, q1, q2, hB⟩ := HFin.out w2 _ _ _ HP.out.1 HP.out.2 V' hV'
    have HBf := hid0 hB
    clear hV' hB c0 c1 c2 f0 f1 f2
    refine bodyPost_ret (v := .tuple #[.agg #[.int .i64 0, .slice none 0 0, .slice none 0 0], .iface 157 (.pointer (some (A 2)))]) (by simp [results, Tryd.results29, go_sem, q0, q1, q2]) rfl ?_
    rw [HRes.out]
    exact ⟨rfl, HBf.out⟩
  · have HAd : Hid (∀ (w1 : World) (ao : Option Addr) (co : Nat), OwnI w1 w0.heap.size (.slice ao n0 co) (nI j.at0) → Below w0.heap.size w0 w1 → Calls Tryd.prog 53 #[.pointer (some ⟨B, 0, none⟩), .string ⟨#[]⟩, .slice ao n0 co] w1 fun e w' => e = .returned .nilIface ∧ Hid (∃ b OU, BlI w0 wJ B J sy N most GT sy NB GR cR j vOp ix fs os 0 b [] OU ps (fun _ => false) w')) := hid0 (fun w1 ao co q1 q => by
      have h1 := HB0.out.keB q
      obtain ⟨vSt4, vNx4, vOu4, t1, t2, t3, t5⟩ := h1.add
      refine (addState_any B J wJ.heap.size most 0 n0 co A vOp _ _ _ vSt4 vNx4 vOu4 [] [] ⟨#[]⟩ ao w1 t1 t2 t3 h1.bel.size (HSen.out w1 h1.bel) (by simp) (by simp) hmo (by omega) (by omega)).mono (fun e w' ⟨_, z2⟩ => ?_)
      obtain ⟨r1, vSt', vOu', r2, r3, r4, r5, _, r6⟩ := z2 (by rintro (h | h); (simp at h; omega); omega)
      have h5 := t5 w' [] (.slice ao n0 co) j.at0 (0 + n0) vSt' vOu' (q1.lower HB0.out.bel.size) (fun y hy => by simp at hy) r2 r3 r4 r5 r6
      refine ⟨r1, hid0 ⟨⟨[], [], j.at0.length, [j.at0], []⟩, [.slice ao n0 co], ?_, ?_, ⟨rfl, fun i hi => absurd hi (Nat.not_lt_zero _), fun x hx => by simp at hx, fun x hx => by simp at hx⟩, by simpa using hm1, ?_, by simp, rfl⟩⟩
      · rw [bRun, if_neg (by rw [← HN0.out]; omega)]
      · rw [Nat.zero_add, HN0.out] at h5
        rw [HN0.out]
        exact h5
      · show j.at0.length ≤ 4194304
        rw [← HN0.out]; omega)
    go_enter Tryd.func29, Tryd.ntmps29
    go_wp2_with (first
      | (go_at_call 54; go_loud ((refine HMe.out.mono ?_; rintro e w1 ⟨ao, co, rfl, HE1⟩)))
      | (go_at_call 53; go_loud ((refine (HAd.out w1 ao co HE1.out.1 HE1.out.2).mono ?_; rintro e w2 ⟨rfl, HP⟩))))
    clear d0 d9 hfold HAd HMe
    go_loopw [5] (fun q wr => ∃ (s : Nat) (b : Bs) (NX OU : List Value) (ps : Lob) (R : Nat → Bool), q = .int .i64 (s : Int) ∧ Hid (BlI w0 wJ B J sy N most GT sy NB GR cR j vOp ix fs os s b NX OU ps R wr)) (fun q _ => most - (intOf q).toNat)
    case atStart =>
      obtain ⟨b, OU, h⟩ := HP.out
      exact ⟨0, b, [], OU, ps, _, rfl, hid0 h⟩
    case round =>
      clear HP HE1
      obtain ⟨s, b, NX, OU, ps, R, rfl, HK⟩ := hrel
      obtain ⟨V, hV⟩ : ∃ V, V = wr := ⟨_, rfl⟩
      subst hV
      obtain ⟨nst, hnst⟩ : ∃ nst, nst = b.ks.length + 1 := ⟨_, rfl⟩
      have hsl : nst ≤ most := by rw [hnst]; exact HK.out.b1
      have hs3 : s ≤ nst := by rw [hnst]; exact HK.out.b3
      obtain ⟨aSt, cSt, dS⟩ : ∃ a c, V.cell? ⟨B, 5, none⟩ = some (.slice a nst c) := by
        obtain ⟨vSt, vNx, vOu, h1, h2, _⟩ := HK.out.bu.bb
        obtain ⟨a, c, e⟩ := own_sl h2
        rw [List.length_map, List.length_cons, ← hnst] at e
        exact ⟨a, c, by rw [← e]; exact h1.c.2.2.2.2.2.1⟩
      have HNst := hid0 hnst
      by_cases hs : s < nst
      · have hsI : (s : Int) < (nst : Int) := by omega
        obtain ⟨R1, hR1⟩ : ∃ R1, R1 = bR j N fs b s := ⟨_, rfl⟩
        have HC1 := hid0 (HRe.out HK.out.ok (by rw [← HNst.out]; exact hs) (by have := HNst.out; omega) V HK.out.bu)
        rw [← hR1] at HC1
        have HC2 : Hid (∀ (V1 : World), BuI w0 wJ B J sy N most b.n GT sy NB vOp (.slice (some ⟨GR, 0, none⟩) N cR) (fun c => leB (ix c) 4) ps R1 ([] :: b.ks) b.ks NX OU b.nx b.ou V1 → V1.cell? ⟨B, 2, none⟩ = some (.slice (some ⟨GR, 0, none⟩) N cR)) := hid0 (fun V1 h => by
          obtain ⟨vSt, vNx, vOu, h1, _⟩ := h.bb
          exact h1.c.2.2.1)
        have hmr : s < b.ks.length + 1 := by rw [← HNst.out]; exact hs
        cases hq : nsF (bT j N ix R1) (fun c => outF j N os (ix c) (andB R1 (ltF j.LE c))) most b.ks b.n b.ou sy with
        | none =>
          have HRes : Hid (bRun j N sy most ix fs os most = none) := hid0 (by
            have e1 : bRun j N sy most ix fs os (s + 1) = none := by
              rw [bRun_more HK.out.run hmr]
              unfold bStep
              rw [← hR1, hq]
            have e2 := bRun_none e1 (most - (s + 1))
            rw [show s + 1 + (most - (s + 1)) = most by omega] at e2
            exact e2)
          have HC3 : Hid (∀ (V2 : World) (ps2 : Lob), BuI w0 wJ B J sy N most b.n GT sy NB vOp (.slice (some ⟨GR, 0, none⟩) N cR) (bT j N ix R1) ps2 R1 ([] :: b.ks) b.ks NX OU b.nx b.ou V2 → Calls Tryd.prog 56 #[.pointer (some ⟨B, 0, none⟩)] V2 fun e w' => e = .returned (.tuple #[.slice none 0 0, .iface 157 (.pointer (some (A 2)))]) ∧ Hid (KeS w0 w' ∧ Below wJ.heap.size wJ w')) := hid0 (fun V2 ps2 h => by
            refine (HNs.out b ps2 R1 NX OU V2 h HK.out.b1 HK.out.b2).mono (fun e w' hn => ?_)
            rw [hq] at hn
            exact ⟨hn.1, hid0 ⟨hn.2.2, hn.2.1⟩⟩)
          clear hR1 hq HK hnst hmr
          go_upto_region 11 with (first
            | (go_at_call 55; go_loud ((refine HC1.out.mono ?_; rintro e V1 ⟨⟨v1, rfl⟩, H1⟩; have d2 := HC2.out V1 H1.out; clear dS)))
            | (go_at_call 48; go_loud ((refine (HPa.out V1 H1.out).mono ?_; rintro e V2 ⟨⟨v2, rfl⟩, H2⟩)))
            | (go_at_call 56; go_loud ((refine (H2.out.elim (fun ps2 h2 => HC3.out V2 ps2 h2)).mono ?_; rintro e V3 ⟨rfl, H3⟩))))
          obtain ⟨c0, c1, c2, f0, f1, f2⟩ := HRf.out V3 H3.out.1
          go_wp2
          obtain ⟨V', hV'⟩ : ∃ V', V' = (((V3.setCell ⟨RC, 0, none⟩ (.int .i64 0)).setCell ⟨RC, 1, none⟩ (.slice none 0 0)).setCell ⟨RC, 2, none⟩ (.slice none 0 0)) := ⟨_, rfl⟩
          rw [← hV']
          obtain ⟨q0, q1, q2, hB⟩ := HFin.out V3 _ _ _ H3.out.1 H3.out.2 V' hV'
          have HBf := hid0 hB
          clear hV' hB c0 c1 c2 f0 f1 f2
          refine bodyPost_ret (v := .tuple #[.agg #[.int .i64 0, .slice none 0 0, .slice none 0 0], .iface 157 (.pointer (some (A 2)))]) (by simp [results, Tryd.results29, go_sem, q0, q1, q2]) rfl ?_
          rw [HRes.out]
          exact ⟨rfl, HBf.out⟩
        | some q =>
          obtain ⟨k', n', o', l'⟩ := q
          have hbs : bStep j N sy most ix fs os b s = some ⟨k', b.gs ++ (ncF (bT j N ix R1) b.ks sy).map (fun c => (ix c, andB R1 (ltF j.LE c))), n', o', b.nx ++ [l']⟩ := by
            unfold bStep
            rw [← hR1, hq]
          have HC3 : Hid (∀ (V2 : World) (ps2 : Lob), BuI w0 wJ B J sy N most b.n GT sy NB vOp (.slice (some ⟨GR, 0, none⟩) N cR) (bT j N ix R1) ps2 R1 ([] :: b.ks) b.ks NX OU b.nx b.ou V2 → Calls Tryd.prog 56 #[.pointer (some ⟨B, 0, none⟩)] V2 fun e w' => ∃ av cv aN cN, e = .returned (.tuple #[.slice av sy cv, .nilIface]) ∧ w'.cell? ⟨B, 9, none⟩ = some (.slice aN NX.length cN) ∧ Hid (w'.ownsRow wJ.heap.size 34 1 (.slice aN NX.length cN) NX.length NX) ∧ Hid (wJ.heap.size ≤ w'.heap.size ∧ NX.length ≤ 16384) ∧ Hid (∀ (v1 : Value) (w1 : World), ApG 34 w' w1 wJ.heap.size (.slice aN NX.length cN) v1 (NX ++ [.slice av sy cv]) → (w1.cell? ⟨B, 9, none⟩ = some (.slice aN NX.length cN) ∧ w1.frozen? ⟨B, 9, none⟩ = false) ∧ ∃ b' NX' OU' ps', BlI w0 wJ B J sy N most GT sy NB GR cR j vOp ix fs os (s + 1) b' NX' OU' ps' R1 (w1.setCell ⟨B, 9, none⟩ v1))) := hid0 (fun V2 ps2 h => by
            refine (HNs.out b ps2 R1 NX OU V2 h HK.out.b1 HK.out.b2).mono (fun e w' hn => ?_)
            rw [hq] at hn
            obtain ⟨v, OU', ps', r1, r2, r3, r4, r5, r6, r7⟩ := hn
            obtain ⟨av, cv, ev⟩ := own_sl r3
            rw [nI_len, r7] at ev
            subst ev
            have r2' := r2.congr (tf' := fun c => leB (ix c) 4) (fun c _ => take4 ix j N R1 c)
            obtain ⟨aN, cN, g1, g2, g3⟩ := r2'.next
            have hNl : NX.length ≤ 16384 := by
              obtain ⟨_, _, _, _, _, z1, _⟩ := HK.out.bu.bb
              have q1 := z1.len
              have q2 := HK.out.b4
              omega
            refine ⟨av, cv, aN, cN, r1, g1, hid0 g2, hid0 ⟨r2.bel.size, hNl⟩, hid0 (fun v1 w1 hg => ?_)⟩
            obtain ⟨g4, g5⟩ := g3 (.slice av sy cv) l' v1 w1 r3 r4 hg
            refine ⟨g4, ⟨k', b.gs ++ (ncF (bT j N ix R1) b.ks sy).map (fun c => (ix c, andB R1 (ltF j.LE c))), n', o', b.nx ++ [l']⟩, _, _, _, ?_, g5, HK.out.ok.step HIx.out HJo.out.le hbs, r5, r6, ?_, by rw [List.length_append, HK.out.b4]; rfl⟩
            · rw [bRun_more HK.out.run hmr]; exact hbs
            · have q := nsF_ks hq
              show s + 1 ≤ k'.length + 1
              rw [q, List.length_append]
              omega)
          clear hR1 hq HK hnst hmr hbs
          go_wp2_with (first
            | (go_at_call 55; go_loud ((refine HC1.out.mono ?_; rintro e V1 ⟨⟨v1, rfl⟩, H1⟩; have d2 := HC2.out V1 H1.out; clear dS)))
            | (go_at_call 48; go_loud ((refine (HPa.out V1 H1.out).mono ?_; rintro e V2 ⟨⟨v2, rfl⟩, H2⟩)))
            | (go_at_call 56; go_loud ((refine (H2.out.elim (fun ps2 h2 => HC3.out V2 ps2 h2)).mono ?_; rintro e V3 ⟨av, cv, aN, cN, rfl, dN, HOw, HLb, HNx⟩; have hlb := HLb.out.1; have hnl := HLb.out.2)))
            | (at_builtin; go_loud ((refine wpList_append_own_at _ rfl _ _ 26 rfl wJ.heap.size 34 i0 (.slice none 0 0) 1 24 Tryd.underlying26 hi hz0 hz1 hz2 rfl (by decide) (.slice aN NX.length cN) NX.length NX rfl (World.ownsRow.alloc HOw.out _) ⟨V3.heap.size, 0, none⟩ 1 1 [.slice av sy cv] rfl rfl (cell_one_new _ _ _) (by simp [Value.oneCell']) (by unfold maxLen; omega) (by omega) (by simp; omega) ?_; intro v4 w4 h1 h2 _ h4; obtain ⟨a4, c4, rfl⟩ := own_sl h1; have Rr := hid0 (HNx.out _ w4 (apG_one h1 h2 h4)); clear h1 h2 h4; have d9 := Rr.out.1.1; have f9 := Rr.out.1.2))))
          obtain ⟨b', NX', OU', ps', h6⟩ := Rr.out.2
          have HR := hid0 h6
          clear h6
          go_roundw
          case rel => exact ⟨s + 1, b', NX', OU', ps', R1, by go_num, HR⟩
          case measure => simp [intOf]; omega
      · obtain rfl : s = nst := by omega
        have HRes : Hid (bRun j N sy most ix fs os most = some b) := hid0 (by
          have e2 := bRun_done HK.out.run (by rw [← HNst.out]; exact Nat.le_refl _) (most - s)
          rw [show s + (most - s) = most by omega] at e2
          exact e2)
        obtain ⟨vSt, vNx, vOu, h1, h2, h3, h4, h5⟩ := HK.out.bu.bb
        obtain ⟨a9, c9, e9⟩ := own_sl h3.outer
        obtain ⟨a10, c10, e10⟩ := own_sl h4.outer
        subst e9
        subst e10
        have d8 : V.cell? ⟨B, 8, none⟩ = some (.int .i64 0) := h1.c.2.2.2.2.2.2.2.2.1
        have d9 : V.cell? ⟨B, 9, none⟩ = some (.slice a9 NX.length c9) := h1.c.2.2.2.2.2.2.2.2.2.1
        have d10 : V.cell? ⟨B, 10, none⟩ = some (.slice a10 OU.length c10) := h1.c.2.2.2.2.2.2.2.2.2.2
        obtain ⟨c0, c1, c2, f0, f1, f2⟩ := HRf.out V HK.out.bu.kes
        have HRw := hid0 (And.intro h3 (And.intro h4 (And.intro HK.out.bu.cr h5)))
        have HKe := hid0 (And.intro HK.out.bu.kes HK.out.bu.bel)
        clear h1 h2 h3 h4 h5 HK hnst
        go_wp2
        obtain ⟨V', hV'⟩ : ∃ V', V' = (((V.setCell ⟨RC, 0, none⟩ (.int .i64 0)).setCell ⟨RC, 1, none⟩ (.slice a9 NX.length c9)).setCell ⟨RC, 2, none⟩ (.slice a10 OU.length c10)) := ⟨_, rfl⟩
        rw [← hV']
        obtain ⟨q0, q1, q2, hB⟩ := HFin.out V _ _ _ HKe.out.1 HKe.out.2 V' hV'
        have HRw2 : Hid (RwsM V' wJ.heap.size (.slice a9 NX.length c9) NX b.nx ∧ RwsM V' wJ.heap.size (.slice a10 OU.length c10) OU b.ou) := hid0 (by
          have hrc := HRc.out V HKe.out.1
          have k1 : KeB [28] V (V.setCell ⟨RC, 0, none⟩ (.int .i64 0)) := KeB.cell hrc (by simp) _
          have hrc1 := heap_setCell_same V _ 0 _ _ (.int .i64 0) hrc
          have k2 : KeB [28] (V.setCell ⟨RC, 0, none⟩ (.int .i64 0)) _ := KeB.cell (i := 1) hrc1 (by simp) (.slice a9 NX.length c9)
          have hrc2 := heap_setCell_same _ _ 1 _ _ (.slice a9 NX.length c9) hrc1
          have k3 := KeB.cell (T := [28]) (i := 2) hrc2 (by simp) (.slice a10 OU.length c10)
          have k := (k1.trans k2).trans k3
          rw [hV']
          exact ⟨HRw.out.1.keB k (by decide) (by decide), HRw.out.2.1.keB k (by decide) (by decide)⟩)
        have HBf := hid0 hB
        clear hV' hB c0 c1 c2 f0 f1 f2 d8 d9 d10 dS
        refine bodyPost_ret (v := .tuple #[.agg #[.int .i64 0, .slice a9 NX.length c9, .slice a10 OU.length c10], .nilIface]) (by simp [results, Tryd.results29, go_sem, q0, q1, q2]) rfl ?_
        rw [HRes.out]
        exact ⟨_, _, NX, OU, rfl, HBf.out, HRw2.out.1, HRw2.out.2, HRw.out.2.2.1, HRw.out.2.2.2⟩
end Go.Proofs.YtbbejfkgopcjoaaDoor
namespace Go.Proofs.YtbbejfkgopcjoaaDoor
open Go.RowKit Go.Shelf
/-- A pattern as it comes. -/
structure Pr where
  Le : List (List Int)
  Fi : List Int
  La : List Int
  Fo : List (List Int)
  em : Bool
  an : Bool
def tN (l : List Int) : List Nat := l.map Int.toNat
def toPt (r : Pr) : Pt := ⟨r.Le.map tN, tN r.Fi, tN r.La, r.Fo.map tN, r.em, r.an⟩
def Pr.chk (r : Pr) (sy : Int) : Option Nat := chkP r.Le r.Fo r.Fi r.La sy
theorem riseF_all : ∀ (l : List Int) (n lo : Int), 0 ≤ lo → riseF n lo l = true → ∀ x ∈ l, 0 ≤ x ∧ x < n
  | [], _, _, _, _, x, hx => by cases hx
  | y :: l, n, lo, h0, h, x, hx => by
    simp only [riseF, Bool.and_eq_true, decide_eq_true_eq] at h
    rcases List.mem_cons.1 hx with rfl | hx
    · omega
    · exact riseF_all l n (y + 1) (by omega) h.2 x hx
theorem nI_tN {l : List Int} (h : ∀ x ∈ l, 0 ≤ x) : nI (tN l) = l := by
  unfold nI tN
  rw [List.map_map]
  have e : l.map ((fun x : Nat => ((x : Nat) : Int)) ∘ Int.toNat) = l.map id := List.map_congr_left (fun x hx => by
    have := h x hx
    simp only [Function.comp, id]
    omega)
  rw [e, List.map_id]
theorem tN_len (l : List Int) : (tN l).length = l.length := by unfold tN; rw [List.length_map]
theorem tN_mem {l : List Int} {n : Int} (h : ∀ x ∈ l, 0 ≤ x ∧ x < n) : ∀ y ∈ tN l, (y : Int) < n := fun y hy => by
  obtain ⟨x, hx, rfl⟩ := List.mem_map.1 hy
  have := h x hx
  omega
theorem nI_tNs {L : List (List Int)} (h : ∀ l ∈ L, ∀ x ∈ l, 0 ≤ x) : (L.map tN).map nI = L := by
  rw [List.map_map]
  have e : L.map (nI ∘ tN) = L.map id := List.map_congr_left (fun l hl => nI_tN (h l hl))
  rw [e, List.map_id]
/-- What Check lets pass. -/
structure PrOk (r : Pr) (sy : Nat) : Prop where
  le : ∀ l ∈ r.Le, ∀ x ∈ l, 0 ≤ x ∧ x < (sy : Int)
  fi : ∀ x ∈ r.Fi, 0 ≤ x ∧ x < (r.Le.length : Int)
  la : ∀ x ∈ r.La, 0 ≤ x ∧ x < (r.Le.length : Int)
  fo : ∀ l ∈ r.Fo, ∀ x ∈ l, 0 ≤ x ∧ x < (r.Le.length : Int)
  len : r.Fo.length = r.Le.length
  few : r.Le.length ≤ 4000
theorem Pr.ok {r : Pr} {sy : Nat} (h : r.chk (sy : Int) = none) : PrOk r sy := by
  unfold Pr.chk chkP at h
  split at h
  · cases h
  · rename_i h1
    split at h
    · cases h
    · rename_i h2
      split at h
      · rename_i h3
        unfold plRise riseA at h3
        simp only [Bool.and_eq_true, List.all_eq_true] at h3
        obtain ⟨q1, ⟨q2, q3⟩, q4⟩ := h3
        refine ⟨fun l hl => riseF_all l _ 0 (by omega) (q1 l hl), riseF_all _ _ 0 (by omega) q2, riseF_all _ _ 0 (by omega) q3, fun l hl => riseF_all l _ 0 (by omega) (q4 l hl), ?_, by omega⟩
        by_cases e : r.Fo.length = r.Le.length
        · exact e
        · exact absurd (.inr (.inr e)) h2
      · cases h
theorem PrOk.pt {r : Pr} {sy : Nat} (h : PrOk r sy) : PtOk sy (toPt r) := by
  have hl : (toPt r).le.length = r.Le.length := by show (r.Le.map tN).length = _; rw [List.length_map]
  refine ⟨?_, ?_, ?_, ?_, ?_⟩
  · rw [hl]; show (r.Fo.map tN).length = _; rw [List.length_map, h.len]
  · rw [hl]; intro x hx; have := tN_mem h.fi x hx; omega
  · rw [hl]; intro x hx; have := tN_mem h.la x hx; omega
  · rw [hl]
    intro l hl2 x hx
    obtain ⟨l', hl', rfl⟩ := List.mem_map.1 hl2
    have := tN_mem (h.fo l' hl') x hx
    omega
  · intro l hl2 x hx
    obtain ⟨l', hl', rfl⟩ := List.mem_map.1 hl2
    have := tN_mem (h.le l' hl') x hx
    omega
/-- Patterns in memory, as they come. -/
structure PaI (w : World) (a : Option Addr) (rs : List Pr) : Prop where
  at' : ∀ k (h : k < rs.length), ∃ b off, a = some ⟨b, off, none⟩ ∧ b < w.heap.size ∧ ∃ (aL aF aA aO : Option Addr) (cL cF cA cO : Nat), w.cell? ⟨b, off + k * 6, none⟩ = some (.slice aL (rs[k]).Le.length cL) ∧ w.cell? ⟨b, off + k * 6 + 1, none⟩ = some (.slice aF (rs[k]).Fi.length cF) ∧ w.cell? ⟨b, off + k * 6 + 2, none⟩ = some (.slice aA (rs[k]).La.length cA) ∧ w.cell? ⟨b, off + k * 6 + 3, none⟩ = some (.slice aO (rs[k]).Fo.length cO) ∧ w.cell? ⟨b, off + k * 6 + 4, none⟩ = some (.bool (rs[k]).em) ∧ w.cell? ⟨b, off + k * 6 + 5, none⟩ = some (.bool (rs[k]).an) ∧ (aL = none → cL = 0) ∧ PosA w aL aF aA aO (rs[k]).Le (rs[k]).Fo (rs[k]).Fi (rs[k]).La
theorem PaI.past {w w' : World} {a : Option Addr} {rs : List Pr} (h : PaI w a rs) (hb : Below w.heap.size w w') : PaI w' a rs := ⟨fun k hk => by
  obtain ⟨b, off, e, hbw, aL, aF, aA, aO, cL, cF, cA, cO, y0, y1, y2, y3, y4, y5, y6, y7⟩ := h.at' k hk
  have tr : ∀ i, w'.cell? ⟨b, i, none⟩ = w.cell? ⟨b, i, none⟩ := fun i => hb.cell (p := ⟨b, i, none⟩) hbw
  exact ⟨b, off, e, Nat.lt_of_lt_of_le hbw hb.size, aL, aF, aA, aO, cL, cF, cA, cO, (tr _).trans y0, (tr _).trans y1, (tr _).trans y2, (tr _).trans y3, (tr _).trans y4, (tr _).trans y5, y6, y7.past hb⟩⟩
theorem PaI.pal {w : World} {a : Option Addr} {rs : List Pr} {sy : Nat} (h : PaI w a rs) (hok : ∀ r ∈ rs, PrOk r sy) : PaL w a (rs.map toPt) := ⟨fun k hk => by
  rw [List.length_map] at hk
  obtain ⟨b, off, e, hbw, aL, aF, aA, aO, cL, cF, cA, cO, y0, y1, y2, y3, y4, y5, y6, y7⟩ := h.at' k hk
  have ho := hok _ (List.getElem_mem hk)
  refine ⟨b, off, e, hbw, aL, aF, aA, aO, cL, cF, cA, cO, ?_⟩
  rw [List.getElem_map]
  refine ⟨?_, ?_, ?_, ?_, y4, y5, ?_, y6, ?_, ?_, ?_⟩
  · show _ = some (Value.slice aL ((rs[k]).Le.map tN).length cL); rw [List.length_map]; exact y0
  · show _ = some (Value.slice aF (tN (rs[k]).Fi).length cF); rw [tN_len]; exact y1
  · show _ = some (Value.slice aA (tN (rs[k]).La).length cA); rw [tN_len]; exact y2
  · show _ = some (Value.slice aO ((rs[k]).Fo.map tN).length cO); rw [List.length_map]; exact y3
  · show RwA w aL (((rs[k]).Le.map tN).map nI); rw [nI_tNs (fun l hl x hx => (ho.le l hl x hx).1)]; exact y7.le
  · show IA w aF (nI (tN (rs[k]).Fi)); rw [nI_tN (fun x hx => (ho.fi x hx).1)]; exact y7.fi
  · show IA w aA (nI (tN (rs[k]).La)); rw [nI_tN (fun x hx => (ho.la x hx).1)]; exact y7.la
  · show RwA w aO (((rs[k]).Fo.map tN).map nI); rw [nI_tNs (fun l hl x hx => (ho.fo l hl x hx).1)]; exact y7.fo⟩
/-- The first refusal of places. -/
def chkA (rs : List Pr) (sy : Int) : Option Nat := rs.findSome? fun r => r.chk sy
def mJ (rs : List Pr) : Jn := jAcc (rs.map toPt) (rs.map toPt).length
def mWd (rs : List Pr) : Nat := (plN (rs.map toPt) (rs.map toPt).length + 63) / 64
/-- The machine of patterns. -/
def mAll (rs : List Pr) (sy most : Nat) : Option Bs := bAll (mJ rs) (mWd rs) sy (min most (4194304 / sy))
/-- What Build leaves. -/
def BuP (w : World) (A : Nat → Addr) (rs : List Pr) (sy most : Int) (e : Ending) (w' : World) : Prop :=
  Below w.heap.size w w' ∧ if sy < 1 ∨ 16384 < sy ∨ most < 1 ∨ 16384 < most then e = .returned (.tuple #[.agg #[.int .i64 0, .slice none 0 0, .slice none 0 0], errP A (some 0)])
  else match chkA rs sy with
    | some i => e = .returned (.tuple #[.agg #[.int .i64 0, .slice none 0 0, .slice none 0 0], errP A (some i)])
    | none => match mAll rs sy.toNat most.toNat with
      | none => e = .returned (.tuple #[.agg #[.int .i64 0, .slice none 0 0, .slice none 0 0], errP A (some 2)])
      | some b => ∃ lo vNx vOu NX OU, w.heap.size ≤ lo ∧ e = .returned (.tuple #[.agg #[.int .i64 0, vNx, vOu], errP A none]) ∧ RwsM w' lo vNx NX b.nx ∧ RwsM w' lo vOu OU b.ou ∧ (NX ++ OU).Pairwise Apt ∧ Apt vNx vOu
theorem chkA_at {rs : List Pr} {sy : Int} {k : Nat} (hk : k < rs.length) (h0 : ∀ i (h : i < k), (rs[i]'(by omega)).chk sy = none) {x : Nat} (h : (rs[k]).chk sy = some x) : chkA rs sy = some x := by
  unfold chkA
  have e : rs = rs.take k ++ rs[k] :: rs.drop (k + 1) := by rw [← List.drop_eq_getElem_cons hk, List.take_append_drop]
  have h1 : (rs.take k).findSome? (fun r => r.chk sy) = none := by
    rw [List.findSome?_eq_none_iff]
    intro r hr
    obtain ⟨i, hi, rfl⟩ := List.getElem_of_mem hr
    rw [List.getElem_take]
    rw [List.length_take] at hi
    exact h0 i (by omega)
  rw [e, List.findSome?_append, h1, List.findSome?_cons, h]
  rfl
theorem chkA_none {rs : List Pr} {sy : Int} (h0 : ∀ i (h : i < rs.length), (rs[i]).chk sy = none) : chkA rs sy = none := by
  unfold chkA
  rw [List.findSome?_eq_none_iff]
  intro r hr
  obtain ⟨i, hi, rfl⟩ := List.getElem_of_mem hr
  exact h0 i hi
end Go.Proofs.YtbbejfkgopcjoaaDoor
