/-
  The walk of props.New.
-/
import Derived.Test.YtpimameogmkpcaaDoorPbFlW
import Derived.Test.YtpimameogmkpcaaDoorPbCsW
import Derived.Test.YtpimameogmkpcaaDoorPbClW
namespace Go.Proofs.YtpimameogmkpcaaDoor
open Go.RowKit Go.Shelf
theorem places67 : (match Tryd.prog.underlying 67 with | some (.struct fields) => fields.toList.mapM (fun f => (Tryd.prog.info? f.type).map fun i => (f.offset, i.size)) | _ => none) = some [(0, 1), (1, 8704), (8705, 1)] := by kernel_rfl
theorem zero67 : (Tryd.prog.info? 67).map (fun i => i.zero.map (fun v => (v.cells.size, v.cells[8705]?))) = some (some (8706, some (.slice none 0 0))) := by kernel_rfl
theorem built67 (v : Value) (hv : v.cells = #[v]) : ∃ C : Array Value, Tryd.prog.built 67 [(0, v)] = some C ∧ C.size = 8706 ∧ C[0]? = some v ∧ C[8705]? = some (.slice none 0 0) := by
  have hz := zero67
  have hp := places67
  unfold Program.built
  cases hq : Tryd.prog.info? 67 with
  | none => rw [hq] at hz; cases hz
  | some it =>
    rw [hq] at hz
    cases hu : Tryd.prog.underlying 67 with
    | none => rw [hu] at hp; cases hp
    | some d =>
      rw [hu] at hp
      cases d with
      | struct fields =>
        simp only at hp ⊢
        cases hzz : it.zero with
        | none => rw [Option.map_some, hzz] at hz; cases hz
        | some z =>
          rw [Option.map_some, hzz] at hz
          simp only [Option.map_some, Option.some.injEq, Prod.mk.injEq] at hz
          obtain ⟨h1, h2⟩ := hz
          rw [hp]
          simp only [Instr.fill]
          refine ⟨z.cells.setIfInBounds 0 v, ?_, by rw [Array.size_setIfInBounds]; exact h1, ?_, ?_⟩
          · simp [hv, h1]
          · exact set_at_same (by omega)
          · rw [set_at_other (by omega)]; exact h2
      | _ => cases hp
theorem wpList_built {P : Program} {ops : Array Oper} {rest : List Oper} {o : Oper} {a : Act} {w : World} {Q : Exit → Act → World → Prop} (hg : o.guard = none) (t : TypeId) (parts : Array (Nat × Operand)) (ho : o.op = .build t parts) (C : Array Value) (ps : List (Nat × Value))
    (hps : (parts.map fun (i, x) => (i, a.eval x)).toList = ps) (hf : P.built t ps = some C) (h : wpList P ops Q rest (a.put o.dst (.agg C)) w) : wpList P ops Q (o :: rest) a w :=
  wpList_build hg t parts ho (by rw [hps, hf]; rfl) (by rw [hps, hf]; exact h)
/-- The fault of a property. -/
noncomputable def propF (L : List ByteArray) (ss : List Sp) : Option Nat :=
  if 62 < L.length then some 2 else match nmF [] L with
    | some e => some e
    | none => if 65536 < ss.length then some 2 else spF L.length none ss
/-- A table in memory: its names, both stages. -/
structure TabAt (w : World) (lo T : Nat) (NL : List ByteArray) (ss : List Sp) (c : Array Value) (vN vB : Value) : Prop where
  low : lo ≤ T
  row : w.heap[T]? = some (.cells c 67 (0, 0))
  size : c.size = 8706
  zero : c[0]? = some vN
  names : OwnS w lo vN NL
  which : ∀ k, k < 8704 → c[1 + k]? = some (.int .u16 ((ord (blkOf (cls ss)) 8704).idxOf (blkOf (cls ss) k) : Int))
  last : c[8705]? = some vB
  own : OwnB w lo vB (ord (blkOf (cls ss)) 8704)
/-- What New leaves. -/
def Newed (A : Nat → Addr) (L : List ByteArray) (ss : List Sp) (w : World) (e : Ending) (w' : World) : Prop :=
  (∃ i, propF L ss = some i ∧ e = .returned (.tuple #[.pointer none, errV A i]) ∧ Below w.heap.size w w') ∨
  (propF L ss = none ∧ ∃ T c vN vB, e = .returned (.tuple #[.pointer (some ⟨T, 0, none⟩), .nilIface]) ∧ TabAt w' w.heap.size T (otherB :: L) ss c vN vB ∧ Below w.heap.size w w')
theorem PA.below {w w' : World} {a : Option Addr} {l : List Sp} (h : PA w a l) (hb : Below w.heap.size w w') : PA w' a l := ⟨fun k hk => by
  obtain ⟨b, off, rfl, hlt, h0, h1, h2⟩ := h.at' k hk
  exact ⟨b, off, rfl, Nat.lt_of_lt_of_le hlt hb.size, (hb.cell (p := ⟨b, off + k * 3, none⟩) hlt).trans h0, (hb.cell (p := ⟨b, off + k * 3 + 1, none⟩) hlt).trans h1, (hb.cell (p := ⟨b, off + k * 3 + 2, none⟩) hlt).trans h2⟩⟩
theorem nm_sizes : ∀ (L seen : List ByteArray), nmF seen L = none → ∀ s ∈ L, s.size ≤ 32
  | [], _, _, s, hs => by simp at hs
  | n :: r, seen, h, s, hs => by
    rw [nmF] at h
    split at h
    · cases h
    · rename_i h1
      split at h
      · cases h
      · split at h
        · cases h
        · rcases List.mem_cons.1 hs with rfl | hs
          · have h2 : isNm s.data.toList = true := by simpa using h1
            have := ((isNm_iff _).1 h2).2.1
            rw [bsize0] at this
            exact this
          · exact nm_sizes r _ h s hs
theorem hidOut {p : Prop} (h : Hid p) : p := h.out
set_option maxRecDepth 10000 in
set_option maxHeartbeats 1600000 in
theorem new_any (A : Nat → Addr) (L : List ByteArray) (ss : List Sp) (aN aS : Option Addr) (cN cS : Nat) (w : World) (hN : L.length ≤ cN) (hcN : L.length ≤ 1000000000) (hS : ss.length ≤ cS) (hcS : ss.length ≤ 1000000000) (hz : ∀ s ∈ L, s.size ≤ 1000000000000) (ha : SA w aN L) (hb : PA w aS ss) (hbs : ∀ p, aS = some p → p.block < w.heap.size) (he : Sent5 w A) :
    Calls Tryd.prog 7 #[.agg #[.slice aN L.length cN, .slice aS ss.length cS]] w fun e w' => Newed A L ss w e w' := by
  obtain ⟨w0, hw0⟩ : ∃ w0, w0 = w.alloc (.cells #[.slice aN L.length cN, .slice aS ss.length cS] 25) := ⟨_, rfl⟩
  have hB0 : Below w.heap.size w w0 := by rw [hw0]; exact (Below.refl _ _).alloc (Nat.le_refl _) _
  have hX0 : w0.heap[w.heap.size]? = some (.cells #[.slice aN L.length cN, .slice aS ss.length cS] 25 (0, 0)) := by rw [hw0]; exact heap_alloc_new w _
  have hs0 : w0.heap.size = w.heap.size + 1 := by rw [hw0]; simp
  have HB0 := hid0 hB0
  have HX0 := hid0 hX0
  have HS0 := hid0 hs0
  have HW0 := hid0 hw0
  have HA := hid0 (ha.below hB0)
  have HP := hid0 (hb.below hB0)
  have HE := hid0 (he.later hB0)
  have HZ := hid0 hz
  have HBS := hid0 hbs
  have x0 : w0.cell? ⟨w.heap.size, 0, none⟩ = some (.slice aN L.length cN) := by rw [cell_of_row _ _ _ _ _ _ hX0]; rfl
  have x1 : w0.cell? ⟨w.heap.size, 1, none⟩ = some (.slice aS ss.length cS) := by rw [cell_of_row _ _ _ _ _ _ hX0]; rfl
  have e2 := HE.out.c2
  clear ha hb he hz hbs hB0 hX0 hs0
  have hfold := hw0.symm
  clear hw0
  have HDN : Hid (∀ n, Below w.heap.size w (w0.drewN n)) := hid0 (fun n => ⟨HB0.out.os, HB0.out.tape, HB0.out.output, HB0.out.size, HB0.out.block⟩)
  by_cases h62 : (62 : Int) < (L.length : Int)
  · have HV : Hid (∀ n, Newed A L ss w (.returned (.tuple #[.pointer none, errV A 2])) (w0.drewN n)) := hid0 (fun n => .inl ⟨2, by rw [propF, if_pos (by omega)], rfl, HDN.out n⟩)
    go_enter Tryd.func7, Tryd.ntmps7
    go_wp2
    go_quiet ((fail))
    go_wp2
    go_returns
    exact HV.out _
  · have HCN := hid0 (checkNames_any A L aN cN w0 hN hcN HZ.out HA.out HE.out)
    cases hn : nmF [] L with
    | some i =>
      rw [hn] at HCN
      have HCN2 : Hid (Calls Tryd.prog 28 #[.slice aN L.length cN] w0 fun e w' => e = .returned (.iface 96 (.pointer (some (A i)))) ∧ w' = w0) := HCN
      have HV : Hid (Newed A L ss w (.returned (.tuple #[.pointer none, .iface 96 (.pointer (some (A i)))])) w0) := hid0 (.inl ⟨i, by rw [propF, if_neg (by omega), hn], rfl, HB0.out⟩)
      clear HCN hn
      go_enter Tryd.func7, Tryd.ntmps7
      go_wp2_with (go_at_call 28; refine HCN2.out.mono ?_; rintro e w1 ⟨rfl, rfl⟩)
      go_returns
      exact HV.out
    | none =>
      rw [hn] at HCN
      have HCN2 : Hid (Calls Tryd.prog 28 #[.slice aN L.length cN] w0 fun e w' => e = .returned .nilIface ∧ w' = w0) := HCN
      have HNZ := hid0 (nm_sizes L [] hn)
      have HNM := hid0 hn
      clear HCN hn
      by_cases h65 : (65536 : Int) < (ss.length : Int)
      · have HV : Hid (∀ n, Newed A L ss w (.returned (.tuple #[.pointer none, errV A 2])) (w0.drewN n)) := hid0 (fun n => .inl ⟨2, by rw [propF, if_neg (by omega), HNM.out]; simp only; rw [if_pos (by omega)], rfl, HDN.out n⟩)
        go_enter Tryd.func7, Tryd.ntmps7
        go_wp2_with (go_at_call 28; refine HCN2.out.mono ?_; rintro e w1 ⟨rfl, rfl⟩)
        go_quiet ((fail))
        go_wp2
        go_returns
        exact HV.out _
      · have HCS := hid0 (checkSpans_any A ss aS cS L.length w0 hcS HP.out HE.out)
        have HPF : Hid (propF L ss = spF L.length none ss) := hid0 (by rw [propF, if_neg (by omega), HNM.out]; simp only; rw [if_neg (by omega)])
        cases hs : spF L.length none ss with
        | some i =>
          rw [hs] at HCS
          have HCS2 : Hid (Calls Tryd.prog 29 #[.slice aS ss.length cS, .int .i64 (L.length : Int)] w0 fun e w' => e = .returned (.iface 96 (.pointer (some (A i)))) ∧ Below w0.heap.size w0 w') := HCS
          have HV : Hid (∀ w1, Below w0.heap.size w0 w1 → Newed A L ss w (.returned (.tuple #[.pointer none, .iface 96 (.pointer (some (A i)))])) w1) := hid0 (fun w1 h => .inl ⟨i, by rw [HPF.out, hs], rfl, Below.later HB0.out h⟩)
          clear HCS hs
          go_enter Tryd.func7, Tryd.ntmps7
          go_wp2_with (first
            | (go_at_call 28; refine HCN2.out.mono ?_; rintro e w1 ⟨rfl, rfl⟩)
            | (go_at_call 29; refine HCS2.out.mono ?_; rintro e w1 ⟨rfl, hb1⟩; have HB1 := hid0 hb1; clear hb1))
          go_returns
          exact HV.out _ HB1.out
        | none =>
          rw [hs] at HCS
          have HCS2 : Hid (Calls Tryd.prog 29 #[.slice aS ss.length cS, .int .i64 (L.length : Int)] w0 fun e w' => e = .returned .nilIface ∧ Below w0.heap.size w0 w') := HCS
          have HRI : Hid (Rise L.length ss) := hid0 (rise_of ss none hs).1
          have HPN : Hid (propF L ss = none) := hid0 (by rw [HPF.out, hs])
          have HNZ6 : Hid (∀ s ∈ L, s.size ≤ 1000000) := hid0 (fun s hs => by have := HNZ.out s hs; omega)
          have HL62 : Hid (L.length ≤ 62) := hid0 (by omega)
          clear HCS hs HPF
          go_enter Tryd.func7, Tryd.ntmps7
          go_wp2_with (first
            | (go_at_call 28; refine HCN2.out.mono ?_; rintro e w1 ⟨rfl, rfl⟩)
            | (go_at_call 29; refine HCS2.out.mono ?_; rintro e w2 ⟨rfl, hb1⟩; have HB1 := hid0 hb1; have y0 := (hb1.cell (p := ⟨w.heap.size, 0, none⟩) (World.block_lt_of_cell? _ _ x0)).trans x0; have y1 := (hb1.cell (p := ⟨w.heap.size, 1, none⟩) (World.block_lt_of_cell? _ _ x1)).trans x1; clear hb1 x0 x1)
            | (go_at_call 30; refine (classNames_any L aN cN w2 (HL62.out) (HNZ6.out) (HA.out.below HB1.out)).mono ?_; rintro e w3 ⟨vN, rfl, hn1, hn2⟩; obtain ⟨aC, cC, rfl, hjunk⟩ := hn1.sa; clear hjunk; obtain ⟨C, hC1, hC2, hC3, hC4⟩ := built67 (.slice aC (otherB :: L).length cC) rfl; have z1 := (hn2.cell (p := ⟨w.heap.size, 1, none⟩) (World.block_lt_of_cell? _ _ y1)).trans y1; have HN1 := hid0 hn1; have HN2 := hid0 hn2; have HC1 := hid0 hC1; have HC2 := hid0 hC2; have HC3 := hid0 hC3; have HC4 := hid0 hC4; clear hn1 hn2 hC1 hC2 hC3 hC4 y0 y1; refine hidOut ?_))
          refine hid0 ?_
          rename_i K hK
          refine hK _ _ ?_
          refine wpList_built (by rfl) 67 #[(0, .tmp 34)] (by rfl) C [(0, .slice aC (otherB :: L).length cC)] (by simp [Act.eval]) HC1.out ?_
          have hlt : w.heap.size < w3.heap.size := World.block_lt_of_cell? _ _ z1
          have hb2 : Below w.heap.size w w2 := Below.later HB0.out HB1.out
          have hb3 : Below w.heap.size w w3 := Below.later hb2 HN2.out
          have HB3 := hid0 hb3
          have HP3 : Hid (PA (w3.alloc (.cells C 67)) aS ss) := hid0 (((HP.out.below HB1.out).below HN2.out).below ((Below.refl _ _).alloc (Nat.le_refl _) _))
          have HFL := hid0 (fill_any L.length ss aS cS w3.heap.size C (w3.alloc (.cells C 67)) HRI.out (by omega) (by omega) hS HP3.out (fun p hp => by have h1 := HBS.out p hp; refine ⟨by omega, ?_⟩; simp; omega) (heap_alloc_new w3 _) HC2.out HC4.out)
          have HV : Hid (∀ w5, Filled ss w3.heap.size C (w3.alloc (.cells C 67)) (.returned (.tuple #[])) w5 → Newed A L ss w (.returned (.tuple #[.pointer (some ⟨w3.heap.size, 0, none⟩), .nilIface])) w5) := hid0 (fun w5 h => by
            obtain ⟨c, vB, _, f1, f2, f3, f4, f5, f6, f7⟩ := h
            have hsz : (w3.alloc (.cells C 67)).heap.size = w3.heap.size + 1 := by simp
            have o1 : Only w3 w5 (fun k => k = w3.heap.size) := (Only.alloc w3 _ _).trans f7 (fun _ hk => .inl hk)
            refine .inr ⟨HPN.out, w3.heap.size, c, .slice aC (otherB :: L).length cC, vB, rfl, ⟨by omega, f1, f2, f3.trans HC3.out, ?_, f4, f5, ?_⟩, ?_⟩
            · have g1 := HN1.out
              have g2 : OwnS w5 w2.heap.size (.slice aC (otherB :: L).length cC) (otherB :: L) := World.ownsRow.kept g1 (row := none) (w' := w5) ⟨o1.os, o1.tape, o1.output, o1.size, fun k hk _ => o1.block k hk (by omega)⟩ (by cases hv : (Value.slice aC (otherB :: L).length cC).ownBlock <;> simp)
              refine ⟨g2.1, ?_⟩
              rcases g2.2 with h2 | ⟨g, cap, cur, hv, hg, r⟩
              · exact .inl h2
              · exact .inr ⟨g, cap, cur, hv, by have := hb2.size; omega, r⟩
            · refine ⟨f6.1, ?_⟩
              rcases f6.2 with h2 | ⟨g, cap, cur, hv, hg, r⟩
              · exact .inl h2
              · exact .inr ⟨g, cap, cur, hv, by rw [hsz] at hg; omega, r⟩
            · have b5 : Below w3.heap.size w3 w5 := ⟨o1.os, o1.tape, o1.output, o1.size, fun k hk => o1.block k hk (by omega)⟩
              exact Below.later HB3.out b5)
          clear HC1 HC2 HC3 HC4 HN1 HN2 HB1 HB0 HP HA HP3 HRI HPN hb2 hb3 HB3
          go_wp2_with (go_at_call 31; refine HFL.out.mono ?_; intro e w5 hf; have hee : e = .returned (.tuple #[]) := by { obtain ⟨_, _, h, _⟩ := hf; exact h }; subst hee; have HF5 := hid0 hf; clear hf)
          go_returns
          exact HV.out _ HF5.out
end Go.Proofs.YtpimameogmkpcaaDoor
