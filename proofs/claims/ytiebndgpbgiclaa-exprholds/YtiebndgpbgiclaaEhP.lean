/-
  A set and a unit that are read; caesuralaw8.ExprHolds: the row's statement.
-/
import Derived.Test.YtiebndgpbgiclaaEh6W
import Derived.Test.YtiebndgpbgiclaaDoorN
import Derived.Deep.Slices
import Derived.SliceStrings
import Derived.ChangeSlices
import Derived.Lay
namespace Go.Proofs.Ytiebndgpbgiclaa
open Go.ChangeShapes Go.WideShapes Go.ChangeAt Go.RowKit Go.Joins
theorem cellsStr : Try.prog.cellsOf 9 = 1 := by kernel_rfl
theorem lt_of_cell {W : World} {b o : Nat} {u : Value} (h : W.cell? ⟨b, o, none⟩ = some u) : b < W.heap.size := World.block_lt_of_cell? W _ h
theorem bytesStr : Try.prog.bytesOf 9 = 16 := by kernel_rfl
theorem bytesRange : Try.prog.bytesOf 37 = 16 := by kernel_rfl
theorem cellsRange : Try.prog.cellsOf 37 = 2 := by kernel_rfl
/-- Texts that are read. -/
theorem open_names {H : Type} {enc : TypeId × Value → H} {W : World} {n : Nat} {c : Value} {x : DataW H × List MemPlace} (hf : DataW.trod enc Try.prog W 0 (fun _ => true) true n 22 [c] = some x) :
    ∃ (a : Option Addr) (L : List ByteArray) (cap : Nat), c = .slice a L.length cap ∧ SA W a L ∧ (a = none → cap = 0) ∧ ((∀ y ∈ x.1.weights Try.prog 22, y ≤ reachBytes) → L.length * 16 ≤ reachBytes) := by
  rcases open_strings Try.underlying22 Try.underlying9 cellsStr hf with ⟨h1, h2⟩ | ⟨a, len, cap, zs, h1, h2, h3, h4, h5, h6, h7, h8⟩
  · simp only [List.cons.injEq, and_true] at h1
    exact ⟨none, [], 0, h1, ⟨fun k h => absurd h (Nat.not_lt_zero _)⟩, fun _ => rfl, fun _ => by simp⟩
  · simp only [List.cons.injEq, and_true] at h1
    simp only [if_true] at h5
    have hl : (zs.take len).length = len := by rw [List.length_take]; omega
    rw [h6]
    refine ⟨some a, zs.take len, cap, by rw [hl]; exact h1, ⟨fun k hk' => ?_⟩, (fun e => nomatch e), fun hy => ?_⟩
    rotate_left
    · have h10 := hy ((strs (H := H) (zs.take len)).length * 16 + (strs (H := H) (zs.drop len)).length * 16) (by simp [DataW.weights, Try.underlying22, bytesStr, Nat.add_mul])
      have h11 : (strs (H := H) (zs.take len)).length = (zs.take len).length := by simp [strs]
      omega
    rw [hl] at hk'
    have h9 := h7 k (by omega)
    obtain ⟨b, off, spot⟩ := a
    cases spot with
    | some sp =>
      exfalso
      have h10 := h7 0 (by omega)
      rw [show (⟨b, off, some sp⟩ : Addr).add 0 = ⟨b, off, some sp⟩ from rfl] at h10
      unfold World.cell? at h10
      split at h10 <;> simp at h10
    | none =>
      rw [Addr.add_lit] at h9
      refine ⟨b, off, rfl, lt_of_cell h9, ?_⟩
      rw [h9]
      congr 2
      rw [List.getElem_take, List.getD_eq_getElem?_getD, List.getElem?_eq_getElem (by omega)]
      rfl
theorem open_cells2 {H : Type} {enc : TypeId × Value → H} {P : Program} {w : World} {base : Nat} {spare : Nat → Bool} {held : Bool} {n : Nat} {e : TypeId} {f0 f1 : Field} {cs : List Value} {x : DataW H × List MemPlace} (hs : P.underlying e = some (.struct #[f0, f1])) (hone : Deep.oneCellFields P #[f0, f1] = true)
    (hlen : cs.length = 2) (h : DataW.trod enc P w base spare held n e cs = some x) :
    ∃ (v0 v1 : Value) (y0 y1 : DataW H × List MemPlace) (k : Nat), cs = [v0, v1] ∧ x.1 = .agg [y0.1, y1.1] ∧
      DataW.trod enc P w base spare held k f0.type [v0] = some y0 ∧ DataW.trod enc P w base spare held k f1.type [v1] = some y1 := by
  obtain ⟨xs, k, _, rfl, _, hxl, hf⟩ := DataW.trod_struct hs h
  obtain ⟨y0, y1, rfl⟩ : ∃ y0 y1, xs = [y0, y1] := by
    match xs, hxl with
    | [y0, y1], _ => exact ⟨y0, y1, rfl⟩
  have h0 := hf 0 f0 rfl
  have h1 := hf 1 f1 rfl
  obtain ⟨o0, k0⟩ := Deep.hone_of hone 0 f0 rfl
  obtain ⟨o1, k1⟩ := Deep.hone_of hone 1 f1 rfl
  match cs, hlen with
  | [v0, v1], _ => exact ⟨v0, v1, y0, y1, k, rfl, by simp, by simpa [Value.cells, o0, k0] using h0, by simpa [Value.cells, o1, k1] using h1⟩
theorem open_range {H : Type} {enc : TypeId × Value → H} {w : World} {base : Nat} {spare : Nat → Bool} {held : Bool} {n : Nat} {a : Addr} {i : Nat} {cs : List Value} {x : DataW H × List MemPlace}
    (h1 : w.cells? base (a.add (i * 2)) 2 = some cs) (h2 : DataW.trod enc Try.prog w base spare held n 37 cs = some x) :
    ∃ t : Int × Int, (i = 0 → a.spot = none) ∧ (a.spot = none → w.cell? ⟨a.block, a.off + i * 2, none⟩ = some (.int .i64 t.1) ∧ w.cell? ⟨a.block, a.off + i * 2 + 1, none⟩ = some (.int .i64 t.2)) := by
  obtain ⟨_, hlen, hcell⟩ := World.cells?_some h1
  obtain ⟨v0, v1, y0, y1, k, rfl, _, g0, g1⟩ := open_cells2 Try.underlying37 (by kernel_rfl) hlen h2
  obtain ⟨m0, e0, rfl, _⟩ := DataW.trod_int Try.underlying3 g0
  obtain ⟨m1, e1, rfl, _⟩ := DataW.trod_int Try.underlying3 g1
  simp only [List.cons.injEq, and_true] at e0 e1
  subst e0 e1
  have q0 := hcell 0 (by omega)
  have q1 := hcell 1 (by omega)
  rw [Deep.add_add] at q0 q1
  refine ⟨(m0, m1), fun hi => ?_, fun hsp => ?_⟩
  · subst hi
    exact World.cell?_spot q0
  · obtain ⟨ab, ao, asp⟩ := a
    simp only at hsp
    subst hsp
    rw [WideShapes.add_plain] at q0 q1
    exact ⟨by simpa using q0, by simpa [Nat.add_assoc] using q1⟩
theorem open_ranges {H : Type} {enc : TypeId × Value → H} {w : World} {base : Nat} {spare : Nat → Bool} {held : Bool} {n : Nat} {c : Value} {x : DataW H × List MemPlace} (h : DataW.trod enc Try.prog w base spare held n 23 [c] = some x) :
    ∃ (a : Option Addr) (cap : Nat) (S : List (Int × Int)), c = .slice a S.length cap ∧ RA w a S ∧ (a = none → cap = 0) ∧ ((∀ y ∈ x.1.weights Try.prog 23, y ≤ reachBytes) → S.length * 16 ≤ reachBytes) := by
  rcases Deep.open_slice Try.underlying23 h with ⟨h0, rfl⟩ | ⟨a, len, cap, m, n', D, Pl, hc, hb, hl, hm, hmm, rfl, hx⟩
  · simp only [List.cons.injEq, and_true] at h0
    exact ⟨none, 0, [], h0, RA.nil _ _, fun _ => rfl, fun _ => by simp⟩
  · simp only [List.cons.injEq, and_true] at hc
    have hlm : len ≤ m := by rw [hmm]; split <;> omega
    rw [cellsRange] at hx
    obtain ⟨T, hT⟩ := Deep.choose_lt (n := len) (fun i hi => by obtain ⟨cs, q1, q2⟩ := hx i (by omega); exact open_range q1 q2)
    have hlen : ((List.range len).map T).length = len := by simp
    refine ⟨some a, cap, (List.range len).map T, by rw [hlen]; exact hc, ⟨fun k hk => ?_⟩, (fun e => nomatch e), fun hy => ?_⟩
    · rw [hlen] at hk
      have et : ((List.range len).map T)[k] = T k := by simp
      obtain ⟨_, p2⟩ := hT k hk
      have hsp := (hT 0 (by omega)).1 rfl
      obtain ⟨ab, ao, asp⟩ := a
      simp only at hsp
      subst hsp
      rw [et]
      exact ⟨ab, ao, rfl, p2 rfl⟩
    · have h10 := hy (len * 16 + (m - len) * 16) (by simp [DataW.weights, Try.underlying23, bytesRange, Nat.add_mul])
      rw [hlen]
      omega
theorem cellsHeld : Try.prog.cellsOf 29 = 5 := by kernel_rfl
theorem cellsSet : Try.prog.cellsOf 25 = 3 := by kernel_rfl
theorem cellsKind : Try.prog.cellsOf 27 = 2 := by kernel_rfl
theorem cellsBool : Try.prog.cellsOf 4 = 1 := by kernel_rfl
theorem cellsInt : Try.prog.cellsOf 3 = 1 := by kernel_rfl
theorem cellsNames : Try.prog.cellsOf 22 = 1 := by kernel_rfl
theorem cellsRanges : Try.prog.cellsOf 23 = 1 := by kernel_rfl
theorem open_set {H : Type} {enc : TypeId × Value → H} {W : World} {n : Nat} {c0 c1 c2 : Value} {y : DataW H × List MemPlace} (h : DataW.trod enc Try.prog W 0 (fun _ => true) true n 25 [c0, c1, c2] = some y) :
    ∃ (nt : Bool) (a b : Option Addr) (L : List ByteArray) (R : List (Int × Int)) (ca cb : Nat), c0 = .bool nt ∧ c1 = .slice a L.length ca ∧ c2 = .slice b R.length cb ∧ SA W a L ∧ RA W b R ∧ (a = none → ca = 0) ∧ (b = none → cb = 0) ∧
      ((∀ x ∈ y.1.weights Try.prog 25, x ≤ reachBytes) → L.length * 16 ≤ reachBytes ∧ R.length * 16 ≤ reachBytes) := by
  obtain ⟨xs, k, _, hx, _, hxl, hfs⟩ := DataW.trod_struct Try.underlying25 h
  obtain ⟨z0, z1, z2, rfl⟩ : ∃ z0 z1 z2, xs = [z0, z1, z2] := by
    match xs, hxl with
    | [z0, z1, z2], _ => exact ⟨z0, z1, z2, rfl⟩
  have f0 := hfs 0 _ rfl
  have f1 := hfs 1 _ rfl
  have f2 := hfs 2 _ rfl
  simp [cellsBool] at f0
  simp [cellsNames] at f1
  simp [cellsRanges] at f2
  obtain ⟨nt, e0, _⟩ := DataW.trod_bool Try.underlying4 f0
  simp only [List.cons.injEq, and_true] at e0
  obtain ⟨a, L, ca, e1, hs, hn, hw1⟩ := open_names f1
  obtain ⟨b, cb, R, e2, hr, hm, hw2⟩ := open_ranges f2
  refine ⟨nt, a, b, L, R, ca, cb, e0, e1, e2, hs, hr, hn, hm, fun hy => ?_⟩
  rw [hx] at hy
  simp only [DataW.weights, Try.underlying25, List.map_cons, List.map_nil, DataW.weightsEach, List.append_nil, List.mem_append] at hy
  exact ⟨hw1 (fun x hx => hy x (.inr (.inl hx))), hw2 (fun x hx => hy x (.inr (.inr hx)))⟩
theorem open_kind {H : Type} {enc : TypeId × Value → H} {W : World} {n : Nat} {c0 c1 : Value} {y : DataW H × List MemPlace} (h : DataW.trod enc Try.prog W 0 (fun _ => true) true n 27 [c0, c1] = some y) :
    ∃ (c : ByteArray) (p : Int), c0 = .string c ∧ c1 = .int .i64 p := by
  obtain ⟨xs, k, _, _, _, hxl, hfs⟩ := DataW.trod_struct Try.underlying27 h
  obtain ⟨z0, z1, rfl⟩ : ∃ z0 z1, xs = [z0, z1] := by
    match xs, hxl with
    | [z0, z1], _ => exact ⟨z0, z1, rfl⟩
  have f0 := hfs 0 _ rfl
  have f1 := hfs 1 _ rfl
  simp [cellsStr] at f0
  simp [cellsInt] at f1
  obtain ⟨c, e0, _⟩ := DataW.trod_string Try.underlying9 f0
  obtain ⟨p, e1, _, _⟩ := DataW.trod_int Try.underlying3 f1
  simp only [List.cons.injEq, and_true] at e0 e1
  exact ⟨c, p, e0, e1⟩
theorem open_held {H : Type} {enc : TypeId × Value → H} {W : World} {base : Nat} {v : Value} {d : DataW H} {p : List MemPlace} (hv : Value.okWide Try.prog W .any base 29 v)
    (h0 : DataW.Trod enc Try.prog W 0 (fun _ => true) true 29 v d p) :
    ∃ (c0 c1 c2 c3 c4 : Value) (y0 y1 : DataW H × List MemPlace) (n : Nat), v = .agg #[c0, c1, c2, c3, c4] ∧ d = .agg [y0.1, y1.1] ∧
      DataW.trod enc Try.prog W 0 (fun _ => true) true n 25 [c0, c1, c2] = some y0 ∧ DataW.trod enc Try.prog W 0 (fun _ => true) true n 27 [c3, c4] = some y1 := by
  obtain ⟨fuel, hf⟩ := h0
  have hcs : ∃ cs, v = .agg cs := by
    simp only [Value.okWide, Try.underlying29] at hv
    obtain ⟨cs, h1, _⟩ := hv
    exact ⟨cs, h1⟩
  obtain ⟨cs, rfl⟩ := hcs
  obtain ⟨xs, n, _, hx, hlen, hxl, hfs⟩ := DataW.trod_struct Try.underlying29 hf
  rw [cellsHeld] at hlen
  obtain ⟨l⟩ := cs
  match l, hlen with
  | [c0, c1, c2, c3, c4], _ =>
    obtain ⟨y0, y1, rfl⟩ : ∃ y0 y1, xs = [y0, y1] := by
      match xs, hxl with
      | [y0, y1], _ => exact ⟨y0, y1, rfl⟩
    have h0 := hfs 0 _ rfl
    have h1 := hfs 1 _ rfl
    refine ⟨c0, c1, c2, c3, c4, y0, y1, n, rfl, ?_, ?_, ?_⟩
    · have := congrArg Prod.fst hx; simpa using this
    · simpa [Value.cells, cellsSet] using h0
    · simpa [Value.cells, cellsKind] using h1
set_option maxRecDepth 100000 in
theorem exprHolds_walk {H : Type} (enc : TypeId × Value → H) (W : World) (base : Nat) (v : Value) (d : DataW H) (p : List MemPlace) (hv : Value.okWide Try.prog W .any base 29 v)
    (h0 : DataW.Trod enc Try.prog W 0 (fun _ => true) true 29 v d p) (hw : ∀ x ∈ d.weights Try.prog 29, x ≤ reachBytes) :
    Calls Try.prog 3 #[v] W fun e W' => e = .returned (.bool true) ∧ Below W.heap.size W W' := by
  obtain ⟨c0, c1, c2, c3, c4, y0, y1, n, rfl, rfl, hy0, hy1⟩ := open_held hv h0
  obtain ⟨nt, a, b, L, R, ca, cb, rfl, rfl, rfl, hs, hr, hn, hm, hb⟩ := open_set hy0
  obtain ⟨c, q, rfl, rfl⟩ := open_kind hy1
  have hbb := hb (fun x hx => hw x (by
    simp only [DataW.weights, Try.underlying29, List.map_cons, List.map_nil, DataW.weightsEach, List.mem_append]
    exact .inl hx))
  unfold reachBytes at hbb
  exact exprHolds_any nt L R a b ca cb c q W (by omega) (by omega) hn hm hs hr
set_option maxRecDepth 100000 in
theorem exprHolds_lifted (os : Os) (started : os.Started) (H : Type) (enc : TypeId × Value → H) (F : Stop.Interp) :
    ReturnsInHanded {} Try.checked os 3 .any ((OpenSpec.ofChange Rows.exprHoldsSpec).preRow enc Try.prog Try.f3 Rows.exprHoldsRow.domain false Rows.exprHoldsRow.laid) (((OpenSpec.ofChange Rows.exprHoldsSpec).at F).post enc Try.prog Try.f3 false true false false) := by
  refine returnsInHanded_of_row (C := Try.checked) (s := OpenSpec.ofChange Rows.exprHoldsSpec) own started (by kernel_rfl) Try.func3
    (witness_row_shaped (enc := enc) (C := Try.checked) (World.laidAll Try.prog os Rows.exprHoldsRow.laid) #[.agg #[.bool false, .slice none 0 0, .slice none 0 0, .string ByteArray.empty, .int .i64 0]] (World.laidAll_os _ _ _) (World.shaped_of_ZipB (by kernel_rfl) (by kernel_rfl)) (by kernel_rfl)
      (OpenSpec.preRow_of_cond 8 (x := ([.agg [.agg [.lit (.bool false), .nil, .nil], .agg [.lit (.string []), .lit (.int .i64 0)]]], [], [])) (by kernel_rfl) (by kernel_rfl) (fun k hk => by cases hk) (by kernel_rfl) (laidMet_laidAll _ (by kernel_rfl) (by kernel_rfl)))) ?_
  intro W base args ds gs before hval hW _ _ hsz _ _ _
  exact law_contract rfl rfl rfl (fun _ _ => rfl) (by kernel_rfl) (of_decide_eq_true (by kernel_rfl)) W base args ds gs before hval hW hsz (fun v d p hv h0 _ hw _ _ => exprHolds_walk enc W base v d p hv h0 hw)
theorem exprHolds_said : Rows.ExprHoldsSaid :=
  OpenClaim.holds_of_cond 3 Try.f3 rfl rfl rfl rfl rfl rfl rfl ⟨rfl, rfl, rfl, rfl, rfl⟩ rfl rfl rfl rfl rfl (by kernel_rfl) Try.func3 (by kernel_rfl)
    (of_decide_eq_true (by kernel_rfl)) (by unfold Func.isWrapper; first | (rw [if_pos (by decide +kernel)]; kernel_rfl) | (rw [if_neg (by decide +kernel)]; exact ⟨rfl, rfl⟩))
    (fun os started H enc _ F => by rw [OpenClaim.pre_eq_preRow]; exact exprHolds_lifted os started H enc F)
end Go.Proofs.Ytiebndgpbgiclaa
