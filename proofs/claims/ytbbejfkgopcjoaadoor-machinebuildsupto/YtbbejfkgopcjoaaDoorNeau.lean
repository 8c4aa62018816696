/-
  McHW, McIM.
-/
import Derived.Test.YtbbejfkgopcjoaaDoorNeat
namespace Go.Proofs.YtbbejfkgopcjoaaDoor
open Go.RowKit Go.Shelf
/-- What stays while states are met: the joined patterns, the table, the refusals. -/
def JoC (wJ : World) (J sy lo N : Nat) (A : Nat → Addr) (j : Jn) (vO vF vE vL vM vZ vP vC vS vA : Value) : Prop := ∀ V : World, Below wJ.heap.size wJ V → JoS V J sy lo vO vF vE vL vM vZ vP vC vS vA j.own j.FO.flatten (endsN j.FO) N j.la j.op j.cl j.at0 j.alw ∧ TabAt 11 Lib.deBruijn64tab V ∧ Sen2 V A ∧ RwW V vF vE j.FO ∧ RwW V vL vM (LTs j.LE N)
/-- What a state tells. -/
def outF (j : Jn) (N : Nat) (os : List (List UInt8 × List Nat)) (i : Nat) (g : Nat → Bool) : List Nat := mrg j.alw (mrg (os.getD i ([], [])).2 (endL (fun q => g q && j.la q) j.own (64 * N)))
theorem outF_len (j : Jn) (N : Nat) (os : List (List UInt8 × List Nat)) (i : Nat) (g : Nat → Bool) (hN : N ≤ 1000000) (ha : j.alw.length ≤ 10000000) (ho : ∀ x ∈ os, x.2.length ≤ 100000000) : (outF j N os i g).length ≤ 1000000000 := by
  unfold outF
  have h1 := mrg_len j.alw (mrg (os.getD i ([], [])).2 (endL (fun q => g q && j.la q) j.own (64 * N)))
  have h2 := mrg_len (os.getD i ([], [])).2 (endL (fun q => g q && j.la q) j.own (64 * N))
  have h3 : (endL (fun q => g q && j.la q) j.own (64 * N)).length ≤ 64 * N := by
    unfold endL
    have q1 := onceC_len ((plB (fun q => g q && j.la q) (64 * N)).map fun q => j.own.getD q 0) []
    have q2 := plB_len (fun q => g q && j.la q) (64 * N)
    rw [List.length_map] at q1
    simp only [List.length_nil] at q1
    omega
  have h4 : (os.getD i ([], [])).2.length ≤ 100000000 := by
    rw [List.getD_eq_getElem?_getD]
    by_cases hi : i < os.length
    · rw [List.getElem?_eq_getElem hi]; exact ho _ (List.getElem_mem hi)
    · rw [List.getElem?_eq_none (by omega)]; exact Nat.zero_le _
  omega
theorem endB_any {wB wJ : World} {B J sy lo N i : Nat} {A : Nat → Addr} {j : Jn} {vO vF vE vL vM vZ vP vC vS vA vOp : Value} {os : List (List UInt8 × List Nat)} {g : Nat → Bool} (hC : JoC wJ J sy lo N A j vO vF vE vL vM vZ vP vC vS vA) (hop : OpI wB wJ.heap.size vOp os) (hi : i < os.length) (hN : N ≤ 1000000) (hla : ∀ q, j.la q = true → q < j.own.length) (hol : j.own.length ≤ 64000000) (hal : j.alw.length ≤ 10000000) (hos : os.length ≤ 16384) (hel : ∀ x ∈ os, x.2.length ≤ 10000000)
    (V : World) (hb : Below wJ.heap.size wJ V) (hk : KeS wB V) (b0 : V.cell? ⟨B, 0, none⟩ = some (.pointer (some ⟨J, 0, none⟩))) (b1 : V.cell? ⟨B, 1, none⟩ = some vOp) :
    Calls Tryd.prog 75 #[.pointer (some ⟨B, 0, none⟩), .string ⟨(leB i 4 ++ encW g N).toArray⟩] V fun e w' => ∃ ao co, e = .returned (.slice ao (outF j N os i g).length co) ∧ Hid (OwnI w' V.heap.size (.slice ao (outF j N os i g).length co) (nI (outF j N os i g)) ∧ Below V.heap.size V w') := by
  obtain ⟨hj, ht, _⟩ := hC V hb
  obtain ⟨VS, o1, o2⟩ := (hk.op hop).own
  obtain ⟨q1, aE, cE, q2, q3⟩ := o2 i hi
  obtain ⟨GO, cO, e, _, _, _⟩ := own_form o1 (by omega)
  subst e
  obtain ⟨aO, cW, eO, hIO, _⟩ := OwnI.sl hj.o
  obtain ⟨aA, cA, eA, hIA, hA1, hA2⟩ := OwnI.sl hj.a
  obtain ⟨aE', cE', eE, hIE, hE1, hE2⟩ := OwnI.sl q3
  simp only [Value.slice.injEq, true_and] at eE
  obtain ⟨rfl, rfl⟩ := eE
  subst eO
  subst eA
  have hVl : VS.length = os.length * 2 := o1.1
  have h2 : V.cell? ⟨GO, i * 2, none⟩ = some (.string ⟨(os[i]).1.toArray⟩) := by rw [World.ownsRow.cellAt o1 (i * 2) (by omega)]; exact q1
  have h3 : V.cell? ⟨GO, i * 2 + 1, none⟩ = some (.slice aE (os[i]).2.length cE) := by rw [World.ownsRow.cellAt o1 (i * 2 + 1) (by omega)]; exact q2
  have eo : (os.getD i ([], [])).2 = (os[i]).2 := by rw [List.getD_eq_getElem?_getD, List.getElem?_eq_getElem hi]; rfl
  have h := endBehind_any B J N sy lo GO os.length cO i cE cA g j.la j.own (os[i]).2 j.alw (os[i]).1 aE aO aA cW vF vE vL vM vZ vP vC vS V hN b0 b1 h2 h3 hi (by omega) hj.b hIO hj.z hla (by omega) ht ⟨hIE, hE1, hE2⟩ ⟨hIA, hA1, hA2⟩ (hel _ (List.getElem_mem hi)) hal
  unfold outF
  rw [eo]
  refine h.mono (fun e w' ⟨v, r1, r2, r3⟩ => ?_)
  obtain ⟨ao, co, e4⟩ := own_sl r2
  rw [nI_len] at e4
  subst e4
  exact ⟨ao, co, r1, hid0 ⟨r2, r3⟩⟩
/-- What nextStates leaves. -/
def NsP (wB wJ : World) (B J sy N most GT cT NB : Nat) (A : Nat → Addr) (vOp vRe : Value) (tf : Nat → List UInt8) (R : Nat → Bool) (s0 : List UInt8) (NX : List Value) (nx : List (List Nat)) (res : Option (List (List UInt8) × Nat × List (List Nat) × List Nat)) (e : Ending) (w' : World) : Prop :=
  match res with
  | none => e = .returned (.tuple #[.slice none 0 0, .iface 157 (.pointer (some (A 2)))]) ∧ Below wJ.heap.size wJ w' ∧ KeS wB w'
  | some (k, n, o, l) => ∃ v OU ps, e = .returned (.tuple #[v, .nilIface]) ∧ BuI wB wJ B J sy N most n GT cT NB vOp vRe (fun c => (tf c).take 4) ps R (s0 :: k) k NX OU nx o w' ∧ OwnI w' wJ.heap.size v (nI l) ∧ (∀ y ∈ NX ++ OU, Apt y v) ∧ k.length + 1 ≤ most ∧ n ≤ 4194304 ∧ l.length = sy
set_option maxRecDepth 10000 in
set_option maxHeartbeats 6400000 in
theorem nextStates_any (wB wJ w : World) (B J sy lo N most outs GT cT NB : Nat) (A : Nat → Addr) (j : Jn) (vO vF vE vL vM vZ vP vC vS vA vOp vRe : Value) (os : List (List UInt8 × List Nat)) (tf : Nat → List UInt8) (ix : Nat → Nat) (g : Nat → Nat → Bool) (R : Nat → Bool) (s0 : List UInt8) (ks : List (List UInt8)) (NX OU : List Value) (nx ou : List (List Nat)) (ps : Lob) (hC : JoC wJ J sy lo N A j vO vF vE vL vM vZ vP vC vS vA) (hop : OpI wB wJ.heap.size vOp os) (hN : N ≤ 1000000) (hsy : sy ≤ 16384) (hla : ∀ q, j.la q = true → q < j.own.length) (hol : j.own.length ≤ 64000000) (hal : j.alw.length ≤ 10000000) (hos : os.length ≤ 16384) (hel : ∀ x ∈ os, x.2.length ≤ 10000000)
    (htf : ∀ c, c < sy → ix c < os.length ∧ tf c = leB (ix c) 4 ++ encW (g c) N) (hbu : BuI wB wJ B J sy N most outs GT cT NB vOp vRe tf ps R (s0 :: ks) ks NX OU nx ou w) (hb1 : ks.length + 1 ≤ most) (hb2 : outs ≤ 4194304) (hmo : most ≤ 16384) (hJB : wJ.heap.size ≤ wB.heap.size) :
    Calls Tryd.prog 56 #[.pointer (some ⟨B, 0, none⟩)] w fun e w' => NsP wB wJ B J sy N most GT cT NB A vOp vRe tf R s0 NX nx (nsF tf (fun c => outF j N os (ix c) (g c)) most ks outs ou sy) e w' := by
  obtain ⟨O, hO⟩ : ∃ O, O = fun c => outF j N os (ix c) (g c) := ⟨_, rfl⟩
  rw [← hO]
  have hOl : ∀ c, (O c).length ≤ 1000000000 := fun c => by rw [hO]; exact outF_len j N os (ix c) (g c) hN hal (fun x hx => by have := hel x hx; omega)
  have HEb : Hid (∀ c, c < sy → ∀ V : World, Below wJ.heap.size wJ V → KeS wB V → V.cell? ⟨B, 0, none⟩ = some (.pointer (some ⟨J, 0, none⟩)) → V.cell? ⟨B, 1, none⟩ = some vOp → Calls Tryd.prog 75 #[.pointer (some ⟨B, 0, none⟩), .string ⟨(tf c).toArray⟩] V fun e w' => ∃ ao co, e = .returned (.slice ao (O c).length co) ∧ Hid (OwnI w' V.heap.size (.slice ao (O c).length co) (nI (O c)) ∧ Below V.heap.size V w')) := hid0 (fun c hc V q1 q2 q3 q4 => by
    rw [(htf c hc).2, hO]
    exact endB_any hC hop (htf c hc).1 hN hla hol hal hos hel V q1 q2 q3 q4)
  have HT4 : Hid (∀ c, c < sy → 4 ≤ (tf c).length ∧ (tf c).length ≤ 20000000) := hid0 (fun c hc => by rw [(htf c hc).2, List.length_append, leB_len]; have := encW_len (g c) N; omega)
  have HSen : Hid (∀ V : World, Below wJ.heap.size wJ V → Sen2 V A) := hid0 (fun V hV => (hC V hV).2.2.1)
  have HOl := hid0 hOl
  obtain ⟨GN, hGN⟩ : ∃ GN, GN = w.heap.size := ⟨_, rfl⟩
  have hmk : ∀ V : World, (Instr.makeSlice 34 (.int .i64 (sy : Int)) (.int .i64 (sy : Int))).run Tryd.prog V = .ok (.slice (some ⟨V.heap.size, 0, none⟩) sy sy) (V.alloc (.cells (madeCells #[.int .i64 0] sy) 3)) := fun V => made_run (t := 34) Tryd.underlying34 infoInt sy sy (Nat.le_refl _) (by omega) (by omega) V
  obtain ⟨w0, hw0⟩ : ∃ w0, w0 = w.alloc (.cells (madeCells #[.int .i64 0] sy) 3) := ⟨_, rfl⟩
  have hb0 : Below w.heap.size w w0 := by rw [hw0]; exact (Below.refl _ _).alloc (Nat.le_refl _) _
  have HN0 : Hid (NsI wB wJ B J sy N most GT cT NB GN vOp vRe tf O R s0 ks outs ou NX nx 0 ks outs ou [] OU ps w0) := hid0 (by
    obtain ⟨vSt, vNx, vOu, h1, h2, h3, h4, h5⟩ := hbu.bb
    refine ⟨rfl, by rw [cutF_zero]; exact hbu.keB hb0, ?_, fun y hy e => ?_, hb1, hb2, rfl, by rw [hGN]; exact ⟨hbu.kes.size, hbu.bel.size⟩⟩
    · have q := made_own (e := 3) (z := .int .i64 0) rfl sy sy (Nat.le_refl _) (by omega) w wJ.heap.size hbu.bel.size
      unfold OwnI
      rw [hw0, hGN, List.nil_append, Nat.sub_zero, nI_len, List.length_replicate]
      have e : (nI (List.replicate sy 0)).map (Value.int .i64) = List.replicate sy (.int .i64 0) := by unfold nI; simp
      rw [e]
      exact q
    · rcases List.mem_append.1 hy with hy | hy
      · obtain ⟨l, hl⟩ := h3.mem hy
        have := (World.ownsRow.lt hl GN e).2
        omega
      · obtain ⟨l, hl⟩ := h4.mem hy
        have := (World.ownsRow.lt hl GN e).2
        omega)
  have d0 : w.cell? ⟨B, 0, none⟩ = some (.pointer (some ⟨J, 0, none⟩)) := by
    obtain ⟨vSt, vNx, vOu, h1, _⟩ := hbu.bb
    exact h1.c.1
  have dJ : w.cell? ⟨J, 0, none⟩ = some (.int .i64 (sy : Int)) := (hC w hbu.bel).1.b.c.1
  have d3 : w0.cell? ⟨B, 3, none⟩ = some (.slice (some ⟨GT, 0, none⟩) sy cT) := by
    obtain ⟨vSt, vNx, vOu, h1, _⟩ := HN0.out.bu.bb
    exact h1.c.2.2.2.1
  have hfold := hw0.symm
  have hGN2 := hGN.symm
  have HJB := hid0 hJB
  clear hC hop hla hol hal hos hel htf hbu hO hOl hGN hw0 hb0 hb1 hb2 hJB
  go_enter Tryd.func56, Tryd.ntmps56
  go_wp2
  go_loopw [24] (fun q wr => ∃ (c : Nat) (k : List (List UInt8)) (n : Nat) (o : List (List Nat)) (l : List Nat) (OU : List Value) (ps : Lob), c ≤ sy ∧ q = .int .i64 (c : Int) ∧ Hid (NsI wB wJ B J sy N most GT cT NB GN vOp vRe tf O R s0 ks outs ou NX nx c k n o l OU ps wr)) (fun q _ => sy - (intOf q).toNat)
  case atStart => exact ⟨0, ks, outs, ou, [], OU, ps, Nat.zero_le _, rfl, HN0⟩
  case round =>
    clear d0 dJ d3 hmk hfold HN0
    obtain ⟨c, k, n, o, l, OU, ps, hc, rfl, HK⟩ := hrel
    obtain ⟨V, hV⟩ : ∃ V, V = wr := ⟨_, rfl⟩
    subst hV
    by_cases hcl : c < sy
    · obtain ⟨a, cp, hva, y0, y1, y2, y3, hac, y4, _⟩ := HK.out.bu.text hcl
      rw [cutF_at] at hva y0 y2 y3
      obtain ⟨tB, htB⟩ : ∃ tB : ByteArray, tB = ⟨(tf c).toArray⟩ := ⟨_, rfl⟩
      have hcv : (convert 99 9 (.slice a (tf c).length cp)).run Tryd.prog V.drew = .ok (.string tB) V.drew := by rw [htB]; exact toStr (own_blk y2 (fun _ _ => rfl))
      obtain ⟨t4, tl⟩ := HT4.out c hcl
      obtain ⟨n0, hn0⟩ : ∃ n0, n0 = (tf c).length := ⟨_, rfl⟩
      rw [← hn0] at y0 hcv hva y3 t4 tl
      obtain ⟨vSt, vNx, vOu, hB, hSt, _, hOu, _⟩ := HK.out.bu.bb
      have dB4 : V.cell? ⟨B, 4, none⟩ = some (.map (some NB)) := hB.c.2.2.2.2.1
      have hcI : (c : Int) < (sy : Int) := by omega
      have hcI0 : (0 : Int) ≤ (c : Int) := by omega
      have hcp4 : 4 ≤ cp := by omega
      have hcpI : (4 : Int) ≤ (cp : Int) := by omega
      have hn4I : (4 : Int) ≤ (n0 : Int) := by omega
      have HTL : Hid (∀ {k' : List (List UInt8)} {n' : Nat} {o' : List (List Nat)} {OU' : List Value} {x : Nat} {W1 : World}, nsF tf O most ks outs ou (c + 1) = some (k', n', o', l ++ [x]) → BuI wB wJ B J sy N most n' GT cT NB vOp vRe (cutF tf c) ps R (s0 :: k') k' NX OU' nx o' W1 → OwnI W1 wJ.heap.size (.slice (some ⟨GN, 0, none⟩) sy sy) (nI (l ++ List.replicate (sy - c) 0)) → (∀ y ∈ NX ++ OU', y.ownBlock ≠ some GN) → k'.length + 1 ≤ most → n' ≤ 4194304 → (∃ u, W1.cell? ⟨GN, c, none⟩ = some u) ∧ W1.frozen? ⟨GN, c, none⟩ = false ∧ (W1.setCell ⟨GN, c, none⟩ (.int .i64 (x : Int))).cell? ⟨B, 3, none⟩ = some (.slice (some ⟨GT, 0, none⟩) sy cT) ∧ (∃ u, (W1.setCell ⟨GN, c, none⟩ (.int .i64 (x : Int))).cell? ⟨GT, c, none⟩ = some u) ∧ (W1.setCell ⟨GN, c, none⟩ (.int .i64 (x : Int))).frozen? ⟨GT, c, none⟩ = false ∧ ∃ ps', NsI wB wJ B J sy N most GT cT NB GN vOp vRe tf O R s0 ks outs ou NX nx (c + 1) k' n' o' (l ++ [x]) OU' ps' (((W1.setCell ⟨GN, c, none⟩ (.int .i64 (x : Int))).setCell ⟨GT, c, none⟩ (.slice a 4 cp)).drew)) := hid0 (fun q1 q2 q3 q4 q5 q6 => by
        obtain ⟨r1, r2, a', cp', r3, _, r4, r5, r6, ps', r7⟩ := HK.out.put hcl q1 q2 q3 q4 q5 q6 (by rw [← hn0]; exact t4)
        rw [← hn0, hva] at r3
        injection r3 with r3
        simp only [Value.slice.injEq, true_and] at r3
        obtain ⟨rfl, rfl⟩ := r3
        exact ⟨r1, r2, r4, r5, r6, ps', r7⟩)
      have HN0 := hid0 hn0
      by_cases hm : tf c ∈ k
      · have hi := List.idxOf_lt_length_of_mem hm
        have hlk := HK.out.bu.drew.nb.look hi (by rw [List.getElem_idxOf, ← hn0]; omega)
        rw [List.getElem_idxOf] at hlk
        unfold strB at hlk
        rw [← htB] at hlk
        obtain ⟨num, hnum⟩ : ∃ num, num = k.idxOf (tf c) + 1 := ⟨_, rfl⟩
        rw [← hnum] at hlk
        have hT := HTL.out (x := num) (by rw [hnum]; exact nsF_old HK.out.ns hm) HK.out.bu HK.out.nr HK.out.aw HK.out.b1 HK.out.b2
        obtain ⟨⟨u1, r1⟩, r2, r3, ⟨u2, r4⟩, r5, ps', r6⟩ := hT
        have HR := hid0 r6
        have HR2 := hid0 r6.drew
        clear hn0 htB hB hSt hOu hva y2 hac hm hi hnum r6 t4 y1
        go_upto_region 5 with (fail)
        go_region
        all_goals
          go_wp2
          clear r1 r2 hlk hcv y0 dB4
          go_region
          all_goals
            clear r3 r4 r5
            go_wp2
            go_roundw
            case rel => first | exact ⟨c + 1, k, n, o, _, OU, ps', by omega, by go_num, HR⟩ | exact ⟨c + 1, k, n, o, _, OU, ps', by omega, by go_num, HR2⟩
            case measure => simp [intOf]; omega
      · have hlk := HK.out.bu.drew.nb.lookNot hm (by rw [← hn0]; omega)
        unfold strB at hlk
        rw [← htB] at hlk
        obtain ⟨w3, hup, hm3, hg3⟩ := HK.out.bu.drew.nb.put hm (by rw [← hn0]; omega) (by have := HK.out.b1; omega)
        unfold strB at hup
        rw [← htB] at hup
        obtain ⟨num, hnum⟩ : ∃ num, num = k.length + 1 := ⟨_, rfl⟩
        rw [← hnum] at hup
        have h3 := HK.out.bu.drew.know hm3 hg3
        obtain ⟨aS, cS, eS⟩ := own_sl hSt
        have dS : V.cell? ⟨B, 5, none⟩ = some (.slice aS num cS) := by
          have q := hB.c.2.2.2.2.2.1
          rw [eS, List.length_map, List.length_cons, ← hnum] at q
          exact q
        obtain ⟨vSt3, vNx3, vOu3, g1, g2, g3, g4⟩ := h3.add
        have HEn := hid0 (HEb.out c hcl w3 h3.bel h3.kes g1.c.1 g1.c.2.1)
        rw [← htB] at HEn
        obtain ⟨nE, hnE⟩ : ∃ nE, nE = (O c).length := ⟨_, rfl⟩
        rw [← hnE] at HEn
        have hnEl : nE ≤ 1000000000 := by rw [hnE]; exact HOl.out c
        have hAs : ∀ (w4 : World) (ao : Option Addr) (co : Nat), Below w3.heap.size w3 w4 → ∃ vSt4 vNx4 vOu4, Bb w4 B J vOp vRe (.slice (some ⟨GT, 0, none⟩) sy cT) (.map (some NB)) vSt4 most n vNx4 vOu4 ∧ w4.ownsRow wJ.heap.size 9 1 vSt4 ((s0 :: k).map stV).length (((s0 :: k).map stV).map Value.string) ∧ w4.ownsRow wJ.heap.size 34 1 vOu4 OU.length OU ∧ (Calls Tryd.prog 53 #[.pointer (some ⟨B, 0, none⟩), .string tB, .slice ao nE co] w4 fun e w' =>
            (((s0 :: k).map stV).length = most ∨ 4194304 < n + nE → e = .returned (.iface 157 (.pointer (some (A 2)))) ∧ Only w4 w' (fun k => k = B))
            ∧ (¬ (((s0 :: k).map stV).length = most ∨ 4194304 < n + nE) → e = .returned .nilIface ∧ ∃ vSt' vOu', Bb w' B J vOp vRe (.slice (some ⟨GT, 0, none⟩) sy cT) (.map (some NB)) vSt' most (n + nE) vNx4 vOu' ∧ w'.ownsRow wJ.heap.size 9 1 vSt' ((s0 :: k).map stV ++ [tB]).length (((s0 :: k).map stV ++ [tB]).map Value.string) ∧ w'.ownsRow wJ.heap.size 34 1 vOu' (OU ++ [Value.slice ao nE co]).length (OU ++ [Value.slice ao nE co]) ∧ Only w4 w' (fun k => k = B ∨ vSt4.ownBlock = some k ∨ vOu4.ownBlock = some k) ∧ (∀ k, vSt'.ownBlock = some k → vSt4.ownBlock = some k ∨ w4.heap.size ≤ k) ∧ (∀ k, vOu'.ownBlock = some k → vOu4.ownBlock = some k ∨ w4.heap.size ≤ k))) ∧
            ∀ (w' : World) (t : List UInt8) (x : Value) (o2 : List Nat) (n2 : Nat) (vSt' vOu' : Value), OwnI w4 wJ.heap.size x (nI o2) → (∀ y ∈ NX ++ OU, Apt y x) → Bb w' B J vOp vRe (.slice (some ⟨GT, 0, none⟩) sy cT) (.map (some NB)) vSt' most n2 vNx4 vOu' → w'.ownsRow wJ.heap.size 9 1 vSt' ((s0 :: k).map stV ++ [stV t]).length (((s0 :: k).map stV ++ [stV t]).map Value.string) → w'.ownsRow wJ.heap.size 34 1 vOu' (OU ++ [x]).length (OU ++ [x]) → Only w4 w' (fun k => k = B ∨ vSt4.ownBlock = some k ∨ vOu4.ownBlock = some k) → (∀ k, vOu'.ownBlock = some k → vOu4.ownBlock = some k ∨ w4.heap.size ≤ k) → BuI wB wJ B J sy N most n2 GT cT NB vOp vRe (cutF tf c) ps R ((s0 :: k) ++ [t]) (k ++ [tf c]) NX (OU ++ [x]) nx (o ++ [o2]) w' := fun w4 ao co q2 => by
          have h4 := h3.keB q2
          obtain ⟨vSt4, vNx4, vOu4, t1, t2, t3, t5⟩ := h4.add
          have hOUl : OU.length ≤ 16384 := by
            obtain ⟨_, _, _, _, _, _, z1, _⟩ := h4.bb
            have q1 := z1.len
            have q3 := h4.sl
            rw [List.length_cons] at q3
            have := HK.out.b1
            omega
          exact ⟨vSt4, vNx4, vOu4, t1, t2, t3, addState_any B J wJ.heap.size most n nE co A vOp vRe (.slice (some ⟨GT, 0, none⟩) sy cT) (.map (some NB)) vSt4 vNx4 vOu4 ((s0 :: k).map stV) OU tB ao w4 t1 t2 t3 h4.bel.size (HSen.out w4 h4.bel) (by rw [List.length_map, List.length_cons]; have := HK.out.b1; omega) hOUl hmo HK.out.b2 hnEl, t5⟩
        have hk1 : (((s0 :: k).map stV).length) = k.length + 1 := by rw [List.length_map, List.length_cons]
        by_cases hf : k.length + 1 = most ∨ 4194304 < n + nE
        · have HAd : Hid (∀ (w4 : World) (ao : Option Addr) (co : Nat), Below w3.heap.size w3 w4 → Calls Tryd.prog 53 #[.pointer (some ⟨B, 0, none⟩), .string tB, .slice ao nE co] w4 fun e w' => e = .returned (.iface 157 (.pointer (some (A 2)))) ∧ Hid (NsP wB wJ B J sy N most GT cT NB A vOp vRe tf R s0 NX nx (nsF tf O most ks outs ou sy) (.returned (.tuple #[.slice none 0 0, .iface 157 (.pointer (some (A 2)))])) w')) := hid0 (fun w4 ao co q2 => by
            have h4 := h3.keB q2
            obtain ⟨vSt4, vNx4, vOu4, t1, _, _, t4, _⟩ := hAs w4 ao co q2
            refine t4.mono (fun e w' ⟨z1, _⟩ => ?_)
            obtain ⟨r1, r2⟩ := z1 (by rw [hk1]; exact hf)
            refine ⟨r1, hid0 ?_⟩
            have e1 := nsF_full HK.out.ns hm (by rw [← hnE]; exact hf)
            have e2 := nsF_none e1 (sy - (c + 1))
            rw [show c + 1 + (sy - (c + 1)) = sy by omega] at e2
            rw [e2]
            have hkk : KeB [97] w4 w' := KeB.only r2 (fun q hq _ => by rw [hq]; exact ⟨_, _, _, t1.r, by simp⟩)
            exact ⟨rfl, r2.afterBelow h4.bel h4.bel.size (fun i hi => by rw [hi]; exact h4.lo'.1), h4.kes.keB hkk (by decide) (by decide)⟩)
          clear hn0 htB hB hSt hOu hva y2 hac hm hnum t4 y1 hm3 hg3 h3 g2 g3 g4 eS hnE hAs hk1 hf
          go_upto_region 5 with (fail)
          go_region
          all_goals
            go_wp2_with (first
              | (go_at_call 75; go_loud ((refine HEn.out.mono ?_; rintro e w4 ⟨ao, co, rfl, HE4⟩)))
              | (go_at_call 53; go_loud ((refine (HAd.out w4 ao co HE4.out.2).mono ?_; rintro e w5 ⟨rfl, HP⟩))))
            refine bodyPost_ret (v := .tuple #[.slice none 0 0, .iface 157 (.pointer (some (A 2)))]) (by simp [results, Tryd.results56, go_sem]) rfl HP.out
        · have hgn : GN < V.heap.size := (World.ownsRow.lt HK.out.nr GN rfl).2
          have HAd : Hid (∀ (w4 : World) (ao : Option Addr) (co : Nat), OwnI w4 w3.heap.size (.slice ao nE co) (nI (O c)) → Below w3.heap.size w3 w4 → Calls Tryd.prog 53 #[.pointer (some ⟨B, 0, none⟩), .string tB, .slice ao nE co] w4 fun e w' => e = .returned .nilIface ∧ Hid ((∃ u, w'.cell? ⟨GN, c, none⟩ = some u) ∧ w'.frozen? ⟨GN, c, none⟩ = false ∧ (w'.setCell ⟨GN, c, none⟩ (.int .i64 (num : Int))).cell? ⟨B, 3, none⟩ = some (.slice (some ⟨GT, 0, none⟩) sy cT) ∧ (∃ u, (w'.setCell ⟨GN, c, none⟩ (.int .i64 (num : Int))).cell? ⟨GT, c, none⟩ = some u) ∧ (w'.setCell ⟨GN, c, none⟩ (.int .i64 (num : Int))).frozen? ⟨GT, c, none⟩ = false ∧ ∃ k' n' o' l' OU' ps', NsI wB wJ B J sy N most GT cT NB GN vOp vRe tf O R s0 ks outs ou NX nx (c + 1) k' n' o' l' OU' ps' (((w'.setCell ⟨GN, c, none⟩ (.int .i64 (num : Int))).setCell ⟨GT, c, none⟩ (.slice a 4 cp)).drew))) := hid0 (fun w4 ao co q1 q2 => by
            have h4 := h3.keB q2
            obtain ⟨vSt4, vNx4, vOu4, t1, t2, t3, t4, t5⟩ := hAs w4 ao co q2
            refine t4.mono (fun e w' ⟨_, z2⟩ => ?_)
            obtain ⟨r1, vSt', vOu', r2, r3, r4, r5, _, r6⟩ := z2 (by rw [hk1]; exact hf)
            have hx : OwnI w4 wJ.heap.size (.slice ao nE co) (nI (O c)) := q1.lower h3.bel.size
            have hfresh : ∀ y ∈ NX ++ OU, Apt y (.slice ao nE co) := fun y hy g hg e => by
              have hw3 := (World.ownsRow.lt q1 g e).1
              obtain ⟨_, _, _, _, _, z3, z4, _⟩ := h3.bb
              rcases List.mem_append.1 hy with hy | hy
              · obtain ⟨l', hl'⟩ := z3.mem hy
                have := (World.ownsRow.lt hl' g hg).2
                omega
              · obtain ⟨l', hl'⟩ := z4.mem hy
                have := (World.ownsRow.lt hl' g hg).2
                omega
            have h5 := t5 w' (tf c) (.slice ao nE co) (O c) (n + nE) vSt' vOu' hx hfresh r2 (by have q := r3; rw [htB] at q; exact q) r4 r5 r6
            have n1 : OwnI w3 wJ.heap.size (.slice (some ⟨GN, 0, none⟩) sy sy) (nI (l ++ List.replicate (sy - c) 0)) := own_blk HK.out.nr (fun q hq => by
              obtain ⟨cs, hcs⟩ := own_typ HK.out.nr hq
              obtain ⟨es, cl, em⟩ := HK.out.bu.nb.isMap
              refine hg3.block q (World.ownsRow.lt HK.out.nr q hq).2 (fun e2 => ?_)
              injection e2 with e2
              rw [e2, em] at hcs
              cases hcs)
            have n2 : OwnI w4 wJ.heap.size (.slice (some ⟨GN, 0, none⟩) sy sy) (nI (l ++ List.replicate (sy - c) 0)) := own_blk n1 (fun q hq => q2.block q (World.ownsRow.lt n1 q hq).2)
            have n3 : OwnI w' wJ.heap.size (.slice (some ⟨GN, 0, none⟩) sy sy) (nI (l ++ List.replicate (sy - c) 0)) := own_blk n2 (fun q hq => r5.block q (World.ownsRow.lt n2 q hq).2 (fun e2 => by
              rcases e2 with rfl | e2 | e2
              · exact own_ne_blk n2 t1.r (by decide) hq
              · exact Apt.ofTyp n2 t2 (by decide) q hq e2
              · exact Apt.ofTyp n2 t3 (by decide) q hq e2))
            have e1 := nsF_new HK.out.ns hm (by rw [← hnE]; exact hf)
            rw [← hnE, ← hnum] at e1
            obtain ⟨s1, s2, s3, s4, s5, ps', s6⟩ := HTL.out e1 h5 n3 (fun y hy e2 => by
              rw [← List.append_assoc] at hy
              rcases List.mem_append.1 hy with hy | hy
              · exact HK.out.aw y hy e2
              · rw [List.mem_singleton.1 hy] at e2
                have q3 := (World.ownsRow.lt q1 GN e2).1
                have q4 := hg3.size
                have q5 : V.drew.heap.size = V.heap.size := rfl
                omega) (by rw [List.length_append, List.length_singleton]; have := HK.out.b1; omega) (by omega)
            exact ⟨r1, hid0 ⟨s1, s2, s3, s4, s5, _, _, _, _, _, ps', s6⟩⟩)
          clear hn0 htB hB hSt hOu hva y2 hac hm hnum t4 y1 hm3 hg3 h3 g2 g3 g4 eS hnE hAs hk1 hf
          go_upto_region 5 with (fail)
          go_region
          all_goals
            go_upto_region 14 with (first
              | (go_at_call 75; go_loud ((refine HEn.out.mono ?_; rintro e w4 ⟨ao, co, rfl, HE4⟩)))
              | (go_at_call 53; go_loud ((refine (HAd.out w4 ao co HE4.out.1 HE4.out.2).mono ?_; rintro e w5 ⟨rfl, HP⟩; obtain ⟨u1, r1⟩ := HP.out.1; have r2 := HP.out.2.1))))
            have r3 := HP.out.2.2.1
            obtain ⟨u2, r4⟩ := HP.out.2.2.2.1
            have r5 := HP.out.2.2.2.2.1
            have HR := hid0 HP.out.2.2.2.2.2
            clear r1 r2 hlk hcv y0 dB4 hup dS HP
            go_region
            all_goals
              clear r3 r4 r5
              obtain ⟨k', n', o', l', OU', ps', h6⟩ := HR.out
              have HR1 := hid0 h6
              clear h6
              go_wp2
              go_roundw
              case rel => first | exact ⟨c + 1, k', n', o', l', OU', ps', by omega, by go_num, HR1⟩ | ((repeat apply Exists.intro); exact ⟨⟨by omega, by go_num, HR1⟩, rfl⟩)
              case measure => simp [intOf]; omega
    · obtain rfl : c = sy := by omega
      have HF : Hid (NsP wB wJ B J c N most GT cT NB A vOp vRe tf R s0 NX nx (nsF tf O most ks outs ou c) (.returned (.tuple #[.slice (some ⟨GN, 0, none⟩) c c, .nilIface])) V) := hid0 (by
        rw [HK.out.ns]
        have h := HK.out
        have e : cutF tf c = cutF tf c := rfl
        obtain ⟨p1, p2, p3⟩ := h.bu.tx
        refine ⟨_, OU, ps, rfl, ⟨h.bu.bel, h.bu.kes, h.bu.bb, h.bu.re, h.bu.nb, h.bu.lo', h.bu.cr, h.bu.sl, p1, p2, fun x hx => ?_⟩, ?_, fun y hy q hq e => ?_, h.b1, h.b2, h.b3⟩
        · rw [p3 x hx]; unfold cutF; rw [if_pos (by omega)]
        · have q := h.nr; rw [Nat.sub_self] at q; simpa using q
        · have e2 : GN = q := by simpa [Value.ownBlock] using e
          exact h.aw y hy (by rw [e2]; exact hq))
      clear HK
      go_wp2
      refine bodyPost_ret (v := .tuple #[.slice (some ⟨GN, 0, none⟩) c c, .nilIface]) (by simp [results, Tryd.results56, go_sem]) rfl HF.out
end Go.Proofs.YtbbejfkgopcjoaaDoor
namespace Go.Proofs.YtbbejfkgopcjoaaDoor
open Go.RowKit Go.Shelf
section
variable {wB wJ W : World} {B J sy N most outs GT cT NB : Nat} {vOp vRe : Value} {tf : Nat → List UInt8} {ps : Lob} {R : Nat → Bool} {sts ks : List (List UInt8)} {NX OU : List Value} {nx ou : List (List Nat)}
/-- What is reached is another set. -/
theorem BuI.reach (h : BuI wB wJ B J sy N most outs GT cT NB vOp vRe tf ps R sts ks NX OU nx ou W) {W' : World} {R' : Nat → Bool} (hu : OwnU W' wJ.heap.size vRe N R') (hO : Only W W' (fun k => vRe.ownBlock = some k)) : BuI wB wJ B J sy N most outs GT cT NB vOp vRe tf ps R' sts ks NX OU nx ou W' := by
  obtain ⟨vSt, vNx, vOu, h1, h2, h3, h4, h5⟩ := h.bb
  obtain ⟨p1, p2, p3⟩ := h.tx
  have hk : KeB [105] W W' := KeB.row h.re (by simp) hO
  have hbB : W'.heap[B]? = W.heap[B]? := by rw [hk.kp B _ h1.r (fun cs' t' f' e => by injection e with _ e2; rw [← e2]; decide), h1.r]
  exact ⟨hO.afterBelow h.bel h.bel.size (fun i hi => (World.ownsRow.lt h.re i hi).1), h.kes.keB hk (by decide) (by decide), ⟨vSt, vNx, vOu, h1.kept hbB, hk.own h2 (by decide), h3.keB hk (by decide) (by decide), h4.keB hk (by decide) (by decide), h5⟩, hu, hk.map h.nb, h.lo', h.cr, h.sl, ⟨p1, p2.keep hk (by decide) (by decide), p3⟩⟩
theorem BuI.ptI (h : BuI wB wJ B J sy N most outs GT cT NB vOp vRe tf ps R sts ks NX OU nx ou W) : PtI W GT cT sy wJ.heap.size ps tf W := ⟨⟨ps, h.tx.1, h.tx.2.1, h.tx.2.2, fun x hx _g hg => .inl (.inr ⟨x, hx, hg⟩)⟩, Only.refl _ _⟩
theorem BuI.ptK (h : BuI wB wJ B J sy N most outs GT cT NB vOp vRe tf ps R sts ks NX OU nx ou W) {W' : World} (hO : Only W W' (PtS GT ps)) : KeB [99, 5] W W' ∧ Below wJ.heap.size wJ W' := by
  obtain ⟨p1, p2, p3⟩ := h.tx
  refine ⟨KeB.only hO (fun k hk _ => ?_), hO.afterBelow h.bel h.bel.size (fun i hi => ?_)⟩
  · rcases hk with rfl | ⟨x, hx, e⟩
    · obtain ⟨cs, hcs⟩ := own_typ p2.outer (show Value.ownBlock _ = some k from rfl); exact ⟨cs, _, _, hcs, by simp⟩
    · obtain ⟨cs, hcs⟩ := own_typ (p2.row x hx) e; exact ⟨cs, _, _, hcs, by simp⟩
  · rcases hi with rfl | ⟨x, hx, e⟩
    · exact (World.ownsRow.lt p2.outer i rfl).1
    · exact (World.ownsRow.lt (p2.row x hx) i e).1
/-- The texts are others. -/
theorem BuI.part (h : BuI wB wJ B J sy N most outs GT cT NB vOp vRe tf ps R sts ks NX OU nx ou W) {W' : World} {tf' : Nat → List UInt8} (hp : PtI W GT cT sy wJ.heap.size ps tf' W') : ∃ ps', BuI wB wJ B J sy N most outs GT cT NB vOp vRe tf' ps' R sts ks NX OU nx ou W' := by
  obtain ⟨vSt, vNx, vOu, h1, h2, h3, h4, h5⟩ := h.bb
  obtain ⟨ps', q1, q2, q3, _⟩ := hp.bag
  obtain ⟨hk, hb⟩ := h.ptK hp.only
  have hbB : W'.heap[B]? = W.heap[B]? := by rw [hk.kp B _ h1.r (fun cs' t' f' e => by injection e with _ e2; rw [← e2]; decide), h1.r]
  exact ⟨ps', hb, h.kes.keB hk (by decide) (by decide), ⟨vSt, vNx, vOu, h1.kept hbB, hk.own h2 (by decide), h3.keB hk (by decide) (by decide), h4.keB hk (by decide) (by decide), h5⟩, hk.own h.re (by decide), hk.map h.nb, h.lo', h.cr, h.sl, ⟨q1, q2, q3⟩⟩
/-- A row of Next more. -/
theorem BuI.next (h : BuI wB wJ B J sy N most outs GT cT NB vOp vRe tf ps R sts ks NX OU nx ou W) : ∃ a c, W.cell? ⟨B, 9, none⟩ = some (.slice a NX.length c) ∧ W.ownsRow wJ.heap.size 34 1 (.slice a NX.length c) NX.length NX ∧
    ∀ (x : Value) (l : List Nat) (v1 : Value) (w1 : World), OwnI W wJ.heap.size x (nI l) → (∀ y ∈ NX ++ OU, Apt y x) → ApG 34 W w1 wJ.heap.size (.slice a NX.length c) v1 (NX ++ [x]) → (w1.cell? ⟨B, 9, none⟩ = some (.slice a NX.length c) ∧ w1.frozen? ⟨B, 9, none⟩ = false) ∧ BuI wB wJ B J sy N most outs GT cT NB vOp vRe tf ps R sts ks (NX ++ [x]) OU (nx ++ [l]) ou (w1.setCell ⟨B, 9, none⟩ v1) := by
  obtain ⟨vSt, vNx, vOu, h1, h2, h3, h4, h5⟩ := h.bb
  obtain ⟨p1, p2, p3⟩ := h.tx
  obtain ⟨a, c, e⟩ := own_sl h3.outer
  refine ⟨a, c, by rw [← e]; exact h1.c.2.2.2.2.2.2.2.2.2.1, by rw [← e]; exact h3.outer, fun x l v1 w1 hx hap g => ?_⟩
  rw [← e] at g ⊢
  have hk0 : KeB [34, 97] W w1 := KeB.row h3.outer (by simp) g.frm
  have b1 : Bb w1 B J vOp vRe (.slice (some ⟨GT, 0, none⟩) sy cT) (.map (some NB)) vSt most outs vNx vOu := h1.kept (g.frm.block B h1.lt (own_ne_blk h3.outer h1.r (by decide)))
  have hk1 : KeB [34, 97] w1 (w1.setCell ⟨B, 9, none⟩ v1) := KeB.cell b1.r (by simp) _
  have hk := hk0.trans hk1
  have hsO := Only.setCell w1 B 9 v1
  have m2 := own_ne_blk g.own b1.r (by decide)
  have hown : (w1.setCell ⟨B, 9, none⟩ v1).ownsRow wJ.heap.size 34 1 v1 (NX ++ [x]).length (NX ++ [x]) := own_blk g.own (fun k hk => hsO.block k (World.ownsRow.lt g.own k hk).2 (fun q => m2 (q ▸ hk)))
  refine ⟨⟨b1.c.2.2.2.2.2.2.2.2.2.1, b1.fz 9⟩, hsO.afterBelow (g.frm.afterBelow h.bel h.bel.size (fun i hi => (World.ownsRow.lt h3.outer i hi).1)) (Nat.le_trans h.bel.size g.frm.size) (fun i hi => by rw [hi]; exact h.lo'.1), h.kes.keB hk (by decide) (by decide), ⟨vSt, v1, vOu, b1.setNx v1, hk.own h2 (by decide), h3.inner hk (by decide) hown hx, ?_, h5.new h4.outer g.at'⟩, hk.own h.re (by decide), hk.map h.nb, h.lo', ?_, h.sl, ⟨p1, p2.keep hk (by decide) (by decide), p3⟩⟩
  · refine h4.keep (fun k hk2 => ?_) (fun y hy k hk2 => ?_)
    · have q1 := g.frm.block k (World.ownsRow.lt h4.outer k hk2).2 (fun e2 => h5 k e2 hk2)
      obtain ⟨cs, hcs⟩ := own_typ h4.outer hk2
      have hcs1 := q1.trans hcs
      refine (hsO.block k (Array.getElem?_eq_some_iff.1 hcs1).1 (fun e2 => ?_)).trans q1
      have h6 := b1.r
      rw [← e2, hcs1] at h6
      injection h6 with h6
      injection h6 with _ h7
      exact absurd h7 (by decide)
    · obtain ⟨l', hl'⟩ := h4.mem hy
      obtain ⟨cs, hcs⟩ := own_typ hl' hk2
      rw [hk.kp k _ hcs (fun cs' t' f' q => by injection q with _ q2; rw [← q2]; decide), hcs]
  · rw [List.append_assoc, List.pairwise_append]
    obtain ⟨c1, c2, c3⟩ := List.pairwise_append.1 h.cr
    refine ⟨c1, ?_, fun y hy z hz => ?_⟩
    · rw [List.singleton_append, List.pairwise_cons]
      exact ⟨fun y hy => (hap y (List.mem_append_right _ hy)).symm, c2⟩
    · rcases List.mem_append.1 hz with hz | hz
      · rw [List.mem_singleton.1 hz]; exact hap y (List.mem_append_left _ hy)
      · exact c3 y hy z hz
end
/-- The symbols that lead to new states. -/
def ncF (T : Nat → List UInt8) (ks : List (List UInt8)) : Nat → List Nat
  | 0 => []
  | c + 1 => if T c ∈ ks ++ (ncF T ks c).map T then ncF T ks c else ncF T ks c ++ [c]
theorem nsF_ks {T : Nat → List UInt8} {O : Nat → List Nat} {most : Nat} {ks : List (List UInt8)} {outs : Nat} {ou : List (List Nat)} : ∀ {c : Nat} {k : List (List UInt8)} {n : Nat} {o : List (List Nat)} {l : List Nat}, nsF T O most ks outs ou c = some (k, n, o, l) → k = ks ++ (ncF T ks c).map T
  | 0, k, n, o, l, h => by
    rw [nsF] at h
    injection h with h
    injection h with h _
    rw [← h]; simp [ncF]
  | c + 1, k, n, o, l, h => by
    cases hq : nsF T O most ks outs ou c with
    | none => rw [nsF, hq] at h; cases h
    | some q =>
      obtain ⟨k1, n1, o1, l1⟩ := q
      have ih := nsF_ks hq
      by_cases hm : T c ∈ k1
      · rw [nsF_old hq hm] at h
        injection h with h
        injection h with h _
        rw [ncF, ← ih, if_pos hm, ← h, ih]
      · by_cases hf : k1.length + 1 = most ∨ 4194304 < n1 + (O c).length
        · rw [nsF_full hq hm hf] at h; cases h
        · rw [nsF_new hq hm hf] at h
          injection h with h
          injection h with h _
          rw [ncF, ← ih, if_neg hm, ← h, ih, List.map_append, List.append_assoc]
          rfl
theorem ncF_lt (T : Nat → List UInt8) (ks : List (List UInt8)) : ∀ c, ∀ x ∈ ncF T ks c, x < c
  | 0, x, h => by simp [ncF] at h
  | c + 1, x, h => by
    rw [ncF] at h
    split at h
    · have := ncF_lt T ks c x h; omega
    · rcases List.mem_append.1 h with h | h
      · have := ncF_lt T ks c x h; omega
      · have := List.mem_singleton.1 h; omega
/-- The places that follow a state's. -/
def rcF (j : Jn) (N : Nat) (fo f : Nat → Bool) : Nat → Bool := anF (accF (accF (fun _ => false) j.FO (plB fo (64 * N))) j.FO (plB f (64 * N))) j.op N
/-- The machine so far: texts of the states but the first, each with its opening and its other places, how many numbers are told, what is told, the rows. -/
structure Bs where
  ks : List (List UInt8)
  gs : List (Nat × (Nat → Bool))
  n : Nat
  ou : List (List Nat)
  nx : List (List Nat)
def bR (j : Jn) (N : Nat) (fs : Nat → Nat → Bool) (b : Bs) (s : Nat) : Nat → Bool := if s = 0 then j.cl else rcF j N (fs (b.gs.getD (s - 1) (0, fun _ => false)).1) (b.gs.getD (s - 1) (0, fun _ => false)).2
def bT (j : Jn) (N : Nat) (ix : Nat → Nat) (R : Nat → Bool) : Nat → List UInt8 := fun c => leB (ix c) 4 ++ encW (andB R (ltF j.LE c)) N
/-- One state's row. -/
def bStep (j : Jn) (N sy most : Nat) (ix : Nat → Nat) (fs : Nat → Nat → Bool) (os : List (List UInt8 × List Nat)) (b : Bs) (s : Nat) : Option Bs :=
  match nsF (bT j N ix (bR j N fs b s)) (fun c => outF j N os (ix c) (andB (bR j N fs b s) (ltF j.LE c))) most b.ks b.n b.ou sy with
  | none => none
  | some (k, n, o, l) => some ⟨k, b.gs ++ (ncF (bT j N ix (bR j N fs b s)) b.ks sy).map (fun c => (ix c, andB (bR j N fs b s) (ltF j.LE c))), n, o, b.nx ++ [l]⟩
/-- So many rows, or all that there are. -/
def bRun (j : Jn) (N sy most : Nat) (ix : Nat → Nat) (fs : Nat → Nat → Bool) (os : List (List UInt8 × List Nat)) : Nat → Option Bs
  | 0 => if most = 0 ∨ 4194304 < j.at0.length then none else some ⟨[], [], j.at0.length, [j.at0], []⟩
  | s + 1 => match bRun j N sy most ix fs os s with
    | none => none
    | some b => if s < b.ks.length + 1 then bStep j N sy most ix fs os b s else some b
theorem bRun_none {j : Jn} {N sy most : Nat} {ix : Nat → Nat} {fs : Nat → Nat → Bool} {os : List (List UInt8 × List Nat)} {s : Nat} (h : bRun j N sy most ix fs os s = none) : ∀ d, bRun j N sy most ix fs os (s + d) = none
  | 0 => h
  | d + 1 => by rw [← Nat.add_assoc, bRun, bRun_none h d]
theorem bRun_done {j : Jn} {N sy most : Nat} {ix : Nat → Nat} {fs : Nat → Nat → Bool} {os : List (List UInt8 × List Nat)} {s : Nat} {b : Bs} (h : bRun j N sy most ix fs os s = some b) (hs : b.ks.length + 1 ≤ s) : ∀ d, bRun j N sy most ix fs os (s + d) = some b
  | 0 => h
  | d + 1 => by rw [← Nat.add_assoc, bRun, bRun_done h hs d]; simp only; rw [if_neg (by omega)]
theorem bRun_more {j : Jn} {N sy most : Nat} {ix : Nat → Nat} {fs : Nat → Nat → Bool} {os : List (List UInt8 × List Nat)} {s : Nat} {b : Bs} (h : bRun j N sy most ix fs os s = some b) (hs : s < b.ks.length + 1) : bRun j N sy most ix fs os (s + 1) = bStep j N sy most ix fs os b s := by rw [bRun, h]; simp only; rw [if_pos hs]
/-- The texts say what stands beside them. -/
structure BsOk (j : Jn) (N : Nat) (os : List (List UInt8 × List Nat)) (b : Bs) : Prop where
  len : b.gs.length = b.ks.length
  tx : ∀ i (h : i < b.gs.length) (h2 : i < b.ks.length), b.ks[i] = leB (b.gs[i]).1 4 ++ encW (b.gs[i]).2 N
  ix : ∀ x ∈ b.gs, x.1 < os.length
  lt : ∀ x ∈ b.gs, ∀ q, x.2 q = true → q < j.own.length
theorem BsOk.step {j : Jn} {N sy most : Nat} {ix : Nat → Nat} {fs : Nat → Nat → Bool} {os : List (List UInt8 × List Nat)} {b b' : Bs} {s : Nat} (h : BsOk j N os b) (hix : ∀ c, c < sy → ix c < os.length) (hLE : j.LE.length = j.own.length) (hs : bStep j N sy most ix fs os b s = some b') : BsOk j N os b' := by
  unfold bStep at hs
  cases hq : nsF (bT j N ix (bR j N fs b s)) (fun c => outF j N os (ix c) (andB (bR j N fs b s) (ltF j.LE c))) most b.ks b.n b.ou sy with
  | none => rw [hq] at hs; cases hs
  | some q =>
    obtain ⟨k, n, o, l⟩ := q
    rw [hq] at hs
    simp only [Option.some.injEq] at hs
    subst hs
    have hk := nsF_ks hq
    subst hk
    refine ⟨?_, fun i hi hi2 => ?_, fun x hx => ?_, fun x hx q hq2 => ?_⟩
    · show (b.gs ++ (ncF (bT j N ix (bR j N fs b s)) b.ks sy).map (fun c => (ix c, andB (bR j N fs b s) (ltF j.LE c)))).length = _
      rw [List.length_append, List.length_append, List.length_map, List.length_map, h.len]
    · show (b.ks ++ (ncF (bT j N ix (bR j N fs b s)) b.ks sy).map (bT j N ix (bR j N fs b s)))[i] = leB ((b.gs ++ (ncF (bT j N ix (bR j N fs b s)) b.ks sy).map (fun c => (ix c, andB (bR j N fs b s) (ltF j.LE c))))[i]).1 4 ++ encW ((b.gs ++ (ncF (bT j N ix (bR j N fs b s)) b.ks sy).map (fun c => (ix c, andB (bR j N fs b s) (ltF j.LE c))))[i]).2 N
      by_cases hlt : i < b.ks.length
      · rw [List.getElem_append_left hlt]
        have hlt2 : i < b.gs.length := by rw [h.len]; exact hlt
        have e : (b.gs ++ (ncF (bT j N ix (bR j N fs b s)) b.ks sy).map (fun c => (ix c, andB (bR j N fs b s) (ltF j.LE c))))[i] = b.gs[i] := List.getElem_append_left hlt2
        rw [e]
        exact h.tx i hlt2 hlt
      · have e1 : (b.gs ++ (ncF (bT j N ix (bR j N fs b s)) b.ks sy).map (fun c => (ix c, andB (bR j N fs b s) (ltF j.LE c))))[i] = ((ncF (bT j N ix (bR j N fs b s)) b.ks sy).map (fun c => (ix c, andB (bR j N fs b s) (ltF j.LE c))))[i - b.gs.length]'(by
          have hi' : i < (b.gs ++ (ncF (bT j N ix (bR j N fs b s)) b.ks sy).map (fun c => (ix c, andB (bR j N fs b s) (ltF j.LE c)))).length := hi
          rw [List.length_append] at hi'; have := h.len; omega) := List.getElem_append_right (by rw [h.len]; omega)
        rw [List.getElem_append_right (by omega), e1]
        simp only [List.getElem_map, h.len]
        rfl
    · rcases List.mem_append.1 hx with hx | hx
      · exact h.ix x hx
      · obtain ⟨c, hc, rfl⟩ := List.mem_map.1 hx
        exact hix c (ncF_lt _ _ _ c hc)
    · rcases List.mem_append.1 hx with hx | hx
      · exact h.lt x hx q hq2
      · obtain ⟨c, hc, rfl⟩ := List.mem_map.1 hx
        have h3 : ltF j.LE c q = true := by
          have h4 : (andB (bR j N fs b s) (ltF j.LE c)) q = true := hq2
          unfold andB at h4
          rw [Bool.and_eq_true] at h4
          exact h4.2
        unfold ltF at h3
        have h5 := of_decide_eq_true h3
        by_cases hql : q < j.LE.length
        · rw [← hLE]; exact hql
        · rw [List.getD_eq_getElem?_getD, List.getElem?_eq_none (by omega)] at h5
          simp at h5
end Go.Proofs.YtbbejfkgopcjoaaDoor
