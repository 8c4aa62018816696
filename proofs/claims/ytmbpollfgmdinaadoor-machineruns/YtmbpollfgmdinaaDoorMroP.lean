/-
  caesuralaw12.MachineRuns, in full: the row's statement and the card.
-/
import Derived.Test.YtmbpollfgmdinaaDoorMrNW
import Derived.Test.YtmbpollfgmdinaaDoorSentP
import Derived.Deep.Matrix
import Derived.Lib.LaidU8
import Derived.Shelf.Vars
import Derived.Lay
import Derived.LaidMore
import Derived.ChangeSlices
import Derived.Deep.Slices
namespace Go.Proofs.YtmbpollfgmdinaaDoor
open Go.ChangeShapes Go.WideShapes Go.ChangeAt Go.RowKit Go.Joins
theorem cellsInt : Tryd.prog.cellsOf 3 = 1 := by kernel_rfl
theorem cellsInts : Tryd.prog.cellsOf 25 = 1 := by kernel_rfl
theorem cellsRows : Tryd.prog.cellsOf 22 = 1 := by kernel_rfl
theorem cellsMach : Tryd.prog.cellsOf 24 = 3 := by kernel_rfl
theorem cellsWalk : Tryd.prog.cellsOf 27 = 6 := by kernel_rfl
theorem bytesInt : Tryd.prog.bytesOf 3 = 8 := by kernel_rfl
theorem bytesInts : Tryd.prog.bytesOf 25 = 24 := by kernel_rfl
theorem lt_of_cell {W : World} {b o : Nat} {u : Value} (h : W.cell? ⟨b, o, none⟩ = some u) : b < W.heap.size := World.block_lt_of_cell? W _ h
theorem weights_mem {H : Type} {e : TypeId} {d : DataW H} {y : Nat} : ∀ (l : List (DataW H)), d ∈ l → y ∈ d.weights Tryd.prog e → y ∈ DataW.weightsAll Tryd.prog e l
  | [], h, _ => by cases h
  | x :: r, h, hy => by
    rw [DataW.weightsAll, List.mem_append]
    rcases List.mem_cons.1 h with rfl | h
    · exact .inl hy
    · exact .inr (weights_mem r h hy)
theorem no_spot {W : World} {a : Addr} {u : Value} (h : W.cell? (a.add 0) = some u) : a.spot = none := by
  obtain ⟨b, off, spot⟩ := a
  cases spot with
  | none => rfl
  | some sp =>
    exfalso
    rw [show (⟨b, off, some sp⟩ : Addr).add 0 = ⟨b, off, some sp⟩ from rfl] at h
    unfold World.cell? at h
    split at h <;> simp at h
/-- Numbers that are read. -/
theorem open_points {H : Type} {enc : TypeId × Value → H} {W : World} {n : Nat} {c : Value} {x : DataW H × List MemPlace} (hf : DataW.trod enc Tryd.prog W 0 (fun _ => true) true n 25 [c] = some x) :
    ∃ (a : Option Addr) (ps : List Int) (cap : Nat), c = .slice a ps.length cap ∧ IA W a ps ∧ ((∀ y ∈ x.1.weights Tryd.prog 25, y ≤ reachBytes) → ps.length * 8 ≤ reachBytes) ∧ (a = none → cap = 0) := by
  rcases open_ints Tryd.underlying25 Tryd.underlying3 cellsInt hf with ⟨h1, h2⟩ | ⟨a, len, cap, zs, h1, h2, h3, h4, h5, h6, h7, h8⟩
  · simp only [List.cons.injEq, and_true] at h1
    exact ⟨none, [], 0, h1, ⟨fun k h => absurd h (Nat.not_lt_zero _)⟩, fun _ => by simp, fun _ => rfl⟩
  · simp only [List.cons.injEq, and_true] at h1
    simp only [if_true] at h5
    have hl : (zs.take len).length = len := by rw [List.length_take]; omega
    refine ⟨some a, zs.take len, cap, by rw [hl]; exact h1, ⟨fun k hk' => ?_⟩, ?_, fun e => by cases e⟩
    · rw [hl] at hk'
      have h9 := h7 k (by omega)
      have hs := no_spot (h7 0 (by omega))
      obtain ⟨b, off, spot⟩ := a
      simp only at hs
      subst hs
      rw [Addr.add_lit] at h9
      refine ⟨b, off, rfl, lt_of_cell h9, ?_⟩
      rw [h9]
      congr 2
      rw [List.getElem_take, List.getD_eq_getElem?_getD, List.getElem?_eq_getElem (by omega)]
      rfl
    · intro hy
      rw [h6] at hy
      have h10 := hy (((lits (H := H) .i64 (zs.take len)).length + (lits (H := H) .i64 (zs.drop len)).length) * 8) (by simp [DataW.weights, Tryd.underlying25, bytesInt])
      have h11 : (lits (H := H) .i64 (zs.take len)).length = (zs.take len).length := by simp [lits]
      omega
/-- Lists of numbers that are read. -/
theorem open_rowsI {H : Type} {enc : TypeId × Value → H} {W : World} {n : Nat} {c : Value} {x : DataW H × List MemPlace} (hf : DataW.trod enc Tryd.prog W 0 (fun _ => true) true n 22 [c] = some x) :
    ∃ (a : Option Addr) (L : List (List Int)) (cap : Nat), c = .slice a L.length cap ∧ RwN W a L ∧ ((∀ y ∈ x.1.weights Tryd.prog 22, y ≤ reachBytes) → L.length * 24 ≤ reachBytes ∧ ∀ r ∈ L, r.length * 8 ≤ reachBytes) := by
  rcases Deep.open_int_rows Tryd.underlying22 Tryd.underlying25 Tryd.underlying3 cellsInts cellsInt hf with ⟨h1, h2⟩ | ⟨a, len, cap, A, Ln, C, Z, h1, _, h3, _, h5, h6⟩
  · simp only [List.cons.injEq, and_true] at h1
    exact ⟨none, [], 0, h1, ⟨fun k h => absurd h (Nat.not_lt_zero _)⟩, fun _ => ⟨by simp, fun r hr => by cases hr⟩⟩
  · simp only [List.cons.injEq, and_true] at h1
    have hrl : ∀ r, r < len → ((Z r).take (Ln r)).length = Ln r := fun r hr => by
      obtain ⟨_, q1, _, q2, _⟩ := h6 r (by omega)
      rw [List.length_take]
      omega
    refine ⟨some a, (List.range len).map fun r => (Z r).take (Ln r), cap, by simpa using h1, ⟨fun k hk => ?_⟩, fun hy => ?_⟩
    · have hk' : k < len := by simpa using hk
      have hs := no_spot (h6 0 (by omega)).1
      obtain ⟨q0, q1, q2, q3, q4, q5, q6⟩ := h6 k (by omega)
      have hz := hrl k hk'
      obtain ⟨b, off, spot⟩ := a
      simp only at hs
      subst hs
      rw [Addr.add_lit] at q0
      have eg : ((List.range len).map fun r => (Z r).take (Ln r))[k] = (Z k).take (Ln k) := by simp
      refine ⟨b, off, rfl, lt_of_cell q0, A k, C k, ?_, ⟨fun j hj => ?_⟩, q5⟩
      · rw [eg, hz]; exact q0
      · have hj' : j < Ln k := by rw [eg, hz] at hj; exact hj
        cases e : A k with
        | none => have := q5 e; omega
        | some a' =>
          obtain ⟨_, q7⟩ := q6 a' e
          have hs := no_spot (q7 0 (by omega))
          have h9 := q7 j (by omega)
          obtain ⟨b', off', spot'⟩ := a'
          simp only at hs
          subst hs
          rw [Addr.add_lit] at h9
          refine ⟨b', off', rfl, lt_of_cell h9, ?_⟩
          rw [h9]
          congr 2
          simp only [eg]
          rw [List.getElem_take, List.getD_eq_getElem?_getD, List.getElem?_eq_getElem (by omega)]
          rfl
    · rw [h5] at hy
      simp only [DataW.weights, Tryd.underlying22, bytesInts, List.length_map, List.length_range, List.mem_cons, List.mem_append] at hy
      refine ⟨?_, fun r hr => ?_⟩
      · have h9 := hy _ (.inl rfl)
        rw [List.length_map, List.length_range]
        omega
      · obtain ⟨i, hi, rfl⟩ := List.mem_map.1 hr
        have hi' := List.mem_range.1 hi
        have hz := hrl i hi'
        obtain ⟨_, q1, _, q2, _, q5, _⟩ := h6 i (by omega)
        cases e : A i with
        | none =>
          have := q5 e
          have h0 : Ln i = 0 := by omega
          rw [hz, h0]
          simp
        | some a' =>
          have h9 := hy (((lits (H := H) .i64 ((Z i).take (Ln i))).length + (lits (H := H) .i64 ((Z i).drop (Ln i))).length) * 8) (.inr (.inl (weights_mem _ (List.mem_map_of_mem (f := fun r => Deep.intRow (H := H) .i64 (A r) (Ln r) (Z r)) hi) (by simp [e, Deep.intRow, DataW.weights, Tryd.underlying25, bytesInt]))))
          have h11 : (lits (H := H) .i64 ((Z i).take (Ln i))).length = ((Z i).take (Ln i)).length := by simp [lits]
          omega
/-- What is asked, read. -/
theorem open_walk {H : Type} {enc : TypeId × Value → H} {W : World} {base : Nat} {v : Value} {d : DataW H} {p : List MemPlace} (hv : Value.okWide Tryd.prog W .any base 27 v)
    (h0 : DataW.Trod enc Tryd.prog W 0 (fun _ => true) true 27 v d p) :
    ∃ (st sy pa : Int) (N O : List (List Int)) (l : List Int) (aN aO aw : Option Addr) (cN cO cw : Nat), v = .agg #[.int .i64 st, .slice aN N.length cN, .slice aO O.length cO, .int .i64 sy, .int .i64 pa, .slice aw l.length cw] ∧ RwN W aN N ∧ RwN W aO O ∧ IA W aw l ∧ (aw = none → cw = 0) ∧ pa ≤ 9223372036854775807 ∧
      ((∀ y ∈ d.weights Tryd.prog 27, y ≤ reachBytes) → (N.length * 24 ≤ reachBytes ∧ ∀ r ∈ N, r.length * 8 ≤ reachBytes) ∧ (O.length * 24 ≤ reachBytes ∧ ∀ r ∈ O, r.length * 8 ≤ reachBytes) ∧ l.length * 8 ≤ reachBytes) := by
  obtain ⟨fuel, hf⟩ := h0
  have hcs : ∃ cs, v = .agg cs := by
    simp only [Value.okWide, Tryd.underlying27] at hv
    obtain ⟨cs, h1, _⟩ := hv
    exact ⟨cs, h1⟩
  obtain ⟨cs, rfl⟩ := hcs
  obtain ⟨xs, n, _, hx, hlen, hxl, hfs⟩ := DataW.trod_struct Tryd.underlying27 hf
  rw [cellsWalk] at hlen
  obtain ⟨l⟩ := cs
  match l, hlen with
  | [c0, c1, c2, c3, c4, c5], _ =>
    obtain ⟨y0, y1, y2, y3, rfl⟩ : ∃ y0 y1 y2 y3, xs = [y0, y1, y2, y3] := by
      match xs, hxl with
      | [y0, y1, y2, y3], _ => exact ⟨y0, y1, y2, y3, rfl⟩
    have f0 := hfs 0 _ rfl
    have f1 := hfs 1 _ rfl
    have f2 := hfs 2 _ rfl
    have f3 := hfs 3 _ rfl
    have g0 : DataW.trod enc Tryd.prog W 0 (fun _ => true) true n 24 [c0, c1, c2] = some y0 := by simpa [Value.cells, cellsMach] using f0
    have g1 : DataW.trod enc Tryd.prog W 0 (fun _ => true) true n 3 [c3] = some y1 := by simpa [Value.cells, cellsMach, cellsInt] using f1
    have g2 : DataW.trod enc Tryd.prog W 0 (fun _ => true) true n 3 [c4] = some y2 := by simpa [Value.cells, cellsMach, cellsInt] using f2
    have g3 : DataW.trod enc Tryd.prog W 0 (fun _ => true) true n 25 [c5] = some y3 := by simpa [Value.cells, cellsMach, cellsInt, cellsInts] using f3
    obtain ⟨zs, n2, _, hx2, _, hzl, hgs⟩ := DataW.trod_struct Tryd.underlying24 g0
    obtain ⟨z0, z1, z2, rfl⟩ : ∃ z0 z1 z2, zs = [z0, z1, z2] := by
      match zs, hzl with
      | [z0, z1, z2], _ => exact ⟨z0, z1, z2, rfl⟩
    have e0 := hgs 0 _ rfl
    have e1 := hgs 1 _ rfl
    have e2 := hgs 2 _ rfl
    have k0 : DataW.trod enc Tryd.prog W 0 (fun _ => true) true n2 3 [c0] = some z0 := by simpa [cellsInt] using e0
    have k1 : DataW.trod enc Tryd.prog W 0 (fun _ => true) true n2 22 [c1] = some z1 := by simpa [cellsInt, cellsRows] using e1
    have k2 : DataW.trod enc Tryd.prog W 0 (fun _ => true) true n2 22 [c2] = some z2 := by simpa [cellsInt, cellsRows] using e2
    obtain ⟨st, q0, _, _⟩ := DataW.trod_int Tryd.underlying3 k0
    obtain ⟨sy, q1, _, _⟩ := DataW.trod_int Tryd.underlying3 g1
    obtain ⟨pa, q2, _, w2⟩ := DataW.trod_int Tryd.underlying3 g2
    simp only [List.cons.injEq, and_true] at q0 q1 q2
    subst q0 q1 q2
    obtain ⟨aN, N, cN, rfl, rN, bN⟩ := open_rowsI k1
    obtain ⟨aO, O, cO, rfl, rO, bO⟩ := open_rowsI k2
    obtain ⟨aw, l, cw, rfl, il, bl, nl⟩ := open_points g3
    have hw : pa ≤ IntKind.i64.max := by simp only [Lit.wf, Bool.and_eq_true, decide_eq_true_eq] at w2; exact w2.2
    refine ⟨st, sy, pa, N, O, l, aN, aO, aw, cN, cO, cw, rfl, rN, rO, il, nl, hw, fun hy => ?_⟩
    have ex := congrArg Prod.fst hx
    have ex2 := congrArg Prod.fst hx2
    simp only at ex ex2
    rw [ex] at hy
    simp only [DataW.weights, Tryd.underlying27, List.map_cons, List.map_nil, DataW.weightsEach, List.append_nil, List.mem_append] at hy
    have hy0 : ∀ y ∈ y0.1.weights Tryd.prog 24, y ≤ reachBytes := fun y h => hy y (.inl h)
    rw [ex2] at hy0
    simp only [DataW.weights, Tryd.underlying24, List.map_cons, List.map_nil, DataW.weightsEach, List.append_nil, List.mem_append] at hy0
    exact ⟨bN (fun y h => hy0 y (.inr (.inl h))), bO (fun y h => hy0 y (.inr (.inr h))), bl (fun y h => hy y (.inr (.inr (.inr h))))⟩
set_option maxRecDepth 100000 in
theorem machineRuns_walk {H : Type} (enc : TypeId × Value → H) (W : World) (base : Nat) (hL : laidMetH Tryd.prog Rows.machineRunsRow.laid W) (v : Value) (d : DataW H) (p : List MemPlace) (hv : Value.okWide Tryd.prog W .any base 27 v)
    (h0 : DataW.Trod enc Tryd.prog W 0 (fun _ => true) true 27 v d p) (_hlt : ∀ x ∈ p, x.block < W.heap.size) (hw : ∀ x ∈ d.weights Tryd.prog 27, x ≤ reachBytes) :
    Calls Tryd.prog 3 #[v] W fun e W' => e = .returned (.bool true) ∧ Below W.heap.size W W' := by
  obtain ⟨st, sy, pa, N, O, l, aN, aO, aw, cN, cO, cw, rfl, rN, rO, il, nl, hpa, hb⟩ := open_walk hv h0
  obtain ⟨A, hA⟩ := sents_of (rest := []) hL
  obtain ⟨⟨b1, b4⟩, ⟨b2, b5⟩, b3⟩ := hb hw
  unfold reachBytes at b1 b2 b3 b4 b5
  exact machineRuns_any A st sy pa N O l aN aO aw cN cO cw W (by omega) (by omega) (fun r hr => by have := b4 r hr; omega) (fun r hr => by have := b5 r hr; omega) (by omega) hpa rN rO il nl hA
set_option maxRecDepth 100000 in
theorem machineRuns_lifted (os : Os) (started : os.Started) (H : Type) (enc : TypeId × Value → H) (F : Stop.Interp) :
    ReturnsInHanded {} Tryd.checked os 3 .any ((OpenSpec.ofChange Rows.machineRunsSpec).preRow enc Tryd.prog Tryd.f3 Rows.machineRunsRow.domain false Rows.machineRunsRow.laid) (((OpenSpec.ofChange Rows.machineRunsSpec).at F).post enc Tryd.prog Tryd.f3 false true false false) := by
  refine returnsInHanded_of_row (C := Tryd.checked) (s := OpenSpec.ofChange Rows.machineRunsSpec) own started (by kernel_rfl) Tryd.func3
    (witness_row_shaped (enc := enc) (C := Tryd.checked) (World.laidAll Tryd.prog os Rows.machineRunsRow.laid) #[.agg #[.int .i64 0, .slice none 0 0, .slice none 0 0, .int .i64 0, .int .i64 0, .slice none 0 0]] (World.laidAll_os _ _ _) (World.shaped_of_ZipB (by kernel_rfl) (by kernel_rfl)) (by kernel_rfl)
      (OpenSpec.preRow_of_cond 8 (x := ([.agg [.agg [.lit (.int .i64 0), .nil, .nil], .lit (.int .i64 0), .lit (.int .i64 0), .nil]], [], [])) (by kernel_rfl) (by kernel_rfl) (fun k hk => by cases hk) (by kernel_rfl) (laidMet_laidAll _ (by kernel_rfl) (by kernel_rfl)))) ?_
  intro W base args ds gs before hval hW _ _ hsz hL _ _
  exact law_contract rfl rfl rfl (fun _ _ => rfl) (by kernel_rfl) (of_decide_eq_true (by kernel_rfl)) W base args ds gs before hval hW hsz (fun v d p hv h0 hlt hw _ _ => machineRuns_walk enc W base hL v d p hv h0 hlt hw )
theorem machineRuns_said : Rows.MachineRunsSaid :=
  OpenClaim.holds_of_cond 3 Tryd.f3 rfl rfl rfl rfl rfl rfl rfl ⟨rfl, rfl, rfl, rfl, rfl⟩ rfl rfl rfl rfl rfl (by kernel_rfl) Tryd.func3 (by kernel_rfl)
    (of_decide_eq_true (by kernel_rfl)) (by unfold Func.isWrapper; first | (rw [if_pos (by decide +kernel)]; kernel_rfl) | (rw [if_neg (by decide +kernel)]; exact ⟨rfl, rfl⟩))
    (fun os started H enc _ F => by rw [OpenClaim.pre_eq_preRow]; exact machineRuns_lifted os started H enc F)
theorem machineRuns_plain (f : FuncId) (fn : Func) (hf : Tryd.pinned.checked.prog.funcNamed "caesura/caesuralaw12.MachineRuns" = some f) (hfn : Tryd.pinned.checked.prog.funcs[f]? = some fn) :
    true = Tryd.pinned.checked.prog.looks [] ∧ ∀ (j : Nat) t, fn.params[j]? = some t → Tryd.pinned.checked.prog.wantsStandIn t = false := by
  obtain rfl : f = 3 := Option.some.inj ((show Tryd.prog.funcNamed "caesura/caesuralaw12.MachineRuns" = some 3 by kernel_rfl).symm.trans hf) |>.symm
  obtain rfl : fn = Tryd.f3 := (Option.some.inj (Tryd.func3.symm.trans hfn)).symm
  refine ⟨by kernel_rfl, fun j t ht => ?_⟩
  rw [Tryd.params3] at ht
  obtain rfl : t = 27 := by simpa using Array.mem_of_getElem? ht
  exact (show Tryd.prog.wantsStandIn 27 = false by kernel_rfl)
theorem machineRuns_card : Rows.MachineRunsCardSaid :=
  Claim7.holds_tied_plain_at .later [] _ _ _ _ machineRuns_said (fun _ h => by cases h) (by kernel_rfl) (fun _ h => by cases h) machineRuns_row_tie rfl ⟨rfl, rfl⟩ (by kernel_rfl) rfl machineRuns_plain (by kernel_rfl)
end Go.Proofs.YtmbpollfgmdinaaDoor
