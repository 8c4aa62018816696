/-
  caesuralaw23.TestPrints, where what it reads is of the bulk that the second form tells: the row's statement and the card.
-/
import Derived.Test.YtooeagpopncmgaaDoorTfTW
import Derived.Test.YtooeagpopncmgaaDoorSentP
import Derived.Deep.Matrix
import Derived.Lib.LaidU8
import Derived.Shelf.Vars
import Derived.Lay
import Derived.LaidMore
import Derived.ChangeSlices
import Derived.Deep.Slices
namespace Go.Proofs.YtooeagpopncmgaaDoor
open Go.ChangeShapes Go.WideShapes Go.ChangeAt Go.RowKit Go.Joins
theorem cellsInt : Tryd.prog.cellsOf 3 = 1 := by kernel_rfl
theorem cellsInts : Tryd.prog.cellsOf 34 = 1 := by kernel_rfl
theorem cellsCase : Tryd.prog.cellsOf 36 = 2 := by kernel_rfl
theorem bulk_one {H : Type} (d : DataW H) : 1 ≤ Rows.uptoBulk d := by
  cases d with
  | lit l => cases l <;> simp [Rows.uptoBulk]
  | nil => simp [Rows.uptoBulk]
  | ptr d => simp [Rows.uptoBulk]
  | slice elems spare => simp [Rows.uptoBulk]
  | agg parts => simp [Rows.uptoBulk]
  | iface t d => simp [Rows.uptoBulk]
  | map entries => simp [Rows.uptoBulk]
  | held h => simp [Rows.uptoBulk]
theorem bulk_all {H : Type} (l : List (DataW H)) : Rows.uptoBulkAll l = (l.map Rows.uptoBulk).sum := by
  induction l with
  | nil => simp [Rows.uptoBulkAll]
  | cons x r ih => rw [Rows.uptoBulkAll, ih, List.map_cons, List.sum_cons]
theorem bulk_lits {H : Type} (zs : List Int) : zs.length ≤ Rows.uptoBulkAll (H := H) (lits .i64 zs) := by
  induction zs with
  | nil => simp [lits]
  | cons z zs ih =>
    have e : (lits (H := H) .i64 (z :: zs)) = .lit (.int .i64 z) :: lits .i64 zs := rfl
    rw [e, Rows.uptoBulkAll, List.length_cons]
    have h1 : 1 ≤ Rows.uptoBulk (H := H) (.lit (.int .i64 z)) := bulk_one _
    omega
theorem lt_of_cell {W : World} {b o : Nat} {u : Value} (h : W.cell? ⟨b, o, none⟩ = some u) : b < W.heap.size := World.block_lt_of_cell? W _ h
theorem no_spot {W : World} {a : Addr} {u : Value} (h : W.cell? (a.add 0) = some u) : a.spot = none := by
  obtain ⟨b, off, spot⟩ := a
  cases spot with
  | none => rfl
  | some sp =>
    exfalso
    rw [show (⟨b, off, some sp⟩ : Addr).add 0 = ⟨b, off, some sp⟩ from rfl] at h
    unfold World.cell? at h
    split at h <;> simp at h
/-- Numbers that are read. -/
theorem open_points {H : Type} {enc : TypeId × Value → H} {W : World} {n : Nat} {c : Value} {x : DataW H × List MemPlace} (hf : DataW.trod enc Tryd.prog W 0 (fun _ => true) true n 34 [c] = some x) :
    ∃ (a : Option Addr) (ps : List Int) (cap : Nat), c = .slice a ps.length cap ∧ IA W a ps ∧ ps.length ≤ Rows.uptoBulk x.1 ∧ (a = none → cap = 0) := by
  rcases open_ints Tryd.underlying34 Tryd.underlying3 cellsInt hf with ⟨h1, h2⟩ | ⟨a, len, cap, zs, h1, h2, h3, h4, h5, h6, h7, h8⟩
  · simp only [List.cons.injEq, and_true] at h1
    exact ⟨none, [], 0, h1, ⟨fun k h => absurd h (Nat.not_lt_zero _)⟩, by simp, fun _ => rfl⟩
  · simp only [List.cons.injEq, and_true] at h1
    simp only [if_true] at h5
    have hl : (zs.take len).length = len := by rw [List.length_take]; omega
    have hb := bulk_lits (H := H) (zs.take len)
    refine ⟨some a, zs.take len, cap, by rw [hl]; exact h1, ⟨fun k hk' => ?_⟩, ?_, fun e => by cases e⟩
    · rw [hl] at hk'
      have h9 := h7 k (by omega)
      have hs := no_spot (h7 0 (by omega))
      obtain ⟨b, off, spot⟩ := a
      simp only at hs
      subst hs
      rw [Addr.add_lit] at h9
      refine ⟨b, off, rfl, lt_of_cell h9, ?_⟩
      rw [h9]
      congr 2
      rw [List.getElem_take, List.getD_eq_getElem?_getD, List.getElem?_eq_getElem (by omega)]
      rfl
    · rw [h6]
      simp only [Rows.uptoBulk]
      omega
theorem range_getD : ∀ (l : List Nat), (List.range l.length).map (fun i => l.getD i 0) = l := fun l => by
  refine List.ext_getElem (by simp) (fun i h1 h2 => ?_)
  rw [List.getElem_map, List.getElem_range, List.getD_eq_getElem?_getD, List.getElem?_eq_getElem h2]
  rfl
/-- A slice that is read: the cells of each of its elements; their bulks together. -/
theorem open_rows {H : Type} {enc : TypeId × Value → H} {W : World} {t e : TypeId} {m : Nat} {n : Nat} {c : Value} {x : DataW H × List MemPlace} (ht : Tryd.prog.underlying t = some (.slice e)) (hm : Tryd.prog.cellsOf e = m) (hm0 : 0 < m)
    (h : DataW.trod enc Tryd.prog W 0 (fun _ => true) true n t [c] = some x) :
    c = .slice none 0 0 ∨ ∃ (a : Addr) (len cap k : Nat) (D : Nat → Nat), c = .slice (some a) len cap ∧ ((List.range len).map D).sum ≤ Rows.uptoBulk x.1 ∧ ∀ i, i < len → ∃ (cs : List Value) (y : DataW H × List MemPlace), cs.length = m ∧ a = ⟨a.block, a.off, none⟩ ∧ (∀ j, j < m → W.cell? ⟨a.block, a.off + i * m + j, none⟩ = cs[j]?) ∧ DataW.trod enc Tryd.prog W 0 (fun _ => true) true k e cs = some y ∧ Rows.uptoBulk y.1 = D i := by
  rcases DataW.trod_slice ht h with ⟨h0, _⟩ | ⟨a, len, cap, elems, rest, k, hk, hc, hx, hb, hl, hmx, hlen, hel, _, _⟩
  · simp only [List.cons.injEq, and_true] at h0
    exact .inl h0
  · simp only [List.cons.injEq, and_true] at hc
    rw [hm] at hel
    subst hlen
    have key : ∀ i (hi : i < elems.length), ∃ cs, W.cells? 0 (a.add (i * m)) m = some cs ∧ DataW.trod enc Tryd.prog W 0 (fun _ => true) true k e cs = some elems[i] := fun i hi => by
      have h1 := hel i hi
      rw [List.getElem?_eq_getElem (by omega), Option.bind_eq_some_iff] at h1
      exact h1
    refine .inr ⟨a, elems.length, cap, k, fun i => (elems.map fun y => Rows.uptoBulk y.1).getD i 0, hc, ?_, fun i hi => ?_⟩
    · have e1 := range_getD (elems.map fun y => Rows.uptoBulk y.1)
      rw [List.length_map] at e1
      rw [e1, hx]
      simp only [Rows.uptoBulk]
      rw [bulk_all, List.map_map]
      have e2 : (elems.map fun y => Rows.uptoBulk y.1) = elems.map (Rows.uptoBulk ∘ fun y => y.1) := rfl
      rw [e2]
      omega
    obtain ⟨cs, h1, h2⟩ := key i hi
    obtain ⟨cs0, g1, _⟩ := key 0 (by omega)
    obtain ⟨_, hl0, hc0⟩ := World.cells?_some g1
    have hsp : a.spot = none := by
      have q := hc0 0 (by omega)
      rw [Deep.add_add, List.getElem?_eq_getElem (by omega)] at q
      exact World.cell?_spot (a := a.add 0) (by simpa using q)
    obtain ⟨_, hlc, hcc⟩ := World.cells?_some h1
    obtain ⟨ab, ao, asp⟩ := a
    simp only at hsp
    subst hsp
    refine ⟨cs, elems[i], hlc, rfl, fun j hj => ?_, h2, ?_⟩
    · have q := hcc j hj
      rw [Deep.add_add, WideShapes.add_plain] at q
      rw [Nat.add_assoc]
      exact q
    · show _ = (elems.map fun y => Rows.uptoBulk y.1).getD i 0
      rw [List.getD_eq_getElem?_getD, List.getElem?_map, List.getElem?_eq_getElem hi]
      rfl
theorem le_sum {l : List Nat} {x : Nat} (h : x ∈ l) : x ≤ l.sum := by
  induction l with
  | nil => cases h
  | cons y r ih =>
    rw [List.sum_cons]
    rcases List.mem_cons.1 h with rfl | h
    · omega
    · have := ih h; omega
/-- One case that is read: its two cells. -/
def CaseAt (W : World) (b off : Nat) (x : Cs) : Prop := ∃ (aP aB : Option Addr) (cP cB : Nat), W.cell? ⟨b, off, none⟩ = some (.slice aP x.1.length cP) ∧ W.cell? ⟨b, off + 1, none⟩ = some (.slice aB x.2.length cB) ∧ IA W aP x.1 ∧ IA W aB x.2
set_option maxRecDepth 100000 in
/-- Cases that are read. -/
theorem open_cases {H : Type} {enc : TypeId × Value → H} {W : World} {n : Nat} {c : Value} {x : DataW H × List MemPlace} (h : DataW.trod enc Tryd.prog W 0 (fun _ => true) true n 22 [c] = some x) (hbk : Rows.uptoBulk x.1 ≤ 1048576) :
    ∃ (a : Option Addr) (C : List Cs) (cap : Nat), c = .slice a C.length cap ∧ CsA W a C ∧ C.length ≤ 1048576 ∧ ∀ y ∈ C, y.1.length ≤ 1048576 ∧ y.2.length ≤ 1048576 := by
  rcases open_rows Tryd.underlying22 cellsCase (by omega) h with rfl | ⟨a, len, cap, k, D, rfl, hb, hx⟩
  · exact ⟨none, [], 0, rfl, ⟨fun k h => absurd h (Nat.not_lt_zero _)⟩, by simp, by simp⟩
  · have hD : ∀ i, i < len → D i ≤ 1048576 := fun i hi => by
      have := le_sum (List.mem_map_of_mem (f := D) (List.mem_range.2 hi))
      omega
    obtain ⟨T, hT⟩ := Deep.choose_lt (n := len) (p := fun i (z : Cs) => a = ⟨a.block, a.off, none⟩ ∧ CaseAt W a.block (a.off + i * 2) z ∧ z.1.length ≤ 1048576 ∧ z.2.length ≤ 1048576 ∧ 1 ≤ D i) (fun i hi => by
      obtain ⟨cs, y, h1, h2, h3, h4, h5⟩ := hx i hi
      have hDi := hD i hi
      obtain ⟨ss, k2, _, hxs, _, hxl, hfs⟩ := DataW.trod_struct Tryd.underlying36 h4
      match cs, h1 with
      | [v0, v1], _ =>
        obtain ⟨y0, y1, rfl⟩ : ∃ y0 y1, ss = [y0, y1] := by
          match ss, hxl with
          | [y0, y1], _ => exact ⟨y0, y1, rfl⟩
        have f0 := hfs 0 _ rfl
        have f1 := hfs 1 _ rfl
        have g0 : DataW.trod enc Tryd.prog W 0 (fun _ => true) true k2 34 [v0] = some y0 := by simpa [cellsInts] using f0
        have g1 : DataW.trod enc Tryd.prog W 0 (fun _ => true) true k2 34 [v1] = some y1 := by simpa [cellsInts] using f1
        obtain ⟨aP, P, cP, rfl, iP, bP, _⟩ := open_points g0
        obtain ⟨aB, B, cB, rfl, iB, bB, _⟩ := open_points g1
        have hd : Rows.uptoBulk y.1 = Rows.uptoBulk y0.1 + Rows.uptoBulk y1.1 + 1 := by
          have := congrArg Prod.fst hxs
          simp only at this
          rw [this]
          simp only [Rows.uptoBulk, Rows.uptoBulkAll, List.map_cons, List.map_nil]
          omega
        refine ⟨(P, B), h2, ⟨aP, aB, cP, cB, h3 0 (by omega), h3 1 (by omega), iP, iB⟩, ?_, ?_, by omega⟩
        · show P.length ≤ 1048576
          omega
        · show B.length ≤ 1048576
          omega)
    have hlen : ((List.range len).map T).length = len := by simp
    refine ⟨some a, (List.range len).map T, cap, by rw [hlen], ⟨fun k hk => ?_⟩, ?_, fun y hy => ?_⟩
    · rw [hlen] at hk
      have et : ((List.range len).map T)[k]'(by rw [hlen]; exact hk) = T k := by simp
      obtain ⟨p1, p2, _⟩ := hT k hk
      obtain ⟨aP, aB, cP, cB, y0, y1, y2, y3⟩ := p2
      rw [et]
      exact ⟨a.block, a.off, aP, aB, cP, cB, congrArg some p1, lt_of_cell y0, y0, y1, y2, y3⟩
    · rw [hlen]
      have e : ∀ (l : List Nat), (∀ i ∈ l, i < len) → l.length ≤ (l.map D).sum := by
        intro l
        induction l with
        | nil => intro _; simp
        | cons x r ih =>
          intro hl
          rw [List.map_cons, List.sum_cons, List.length_cons]
          have h1 := (hT x (hl x List.mem_cons_self)).2.2.2.2
          have h2 := ih (fun i hi => hl i (List.mem_cons_of_mem _ hi))
          omega
      have := e (List.range len) (fun i hi => List.mem_range.1 hi)
      rw [List.length_range] at this
      omega
    · obtain ⟨i, hi, rfl⟩ := List.mem_map.1 hy
      obtain ⟨_, _, h3, h4, _⟩ := hT i (List.mem_range.1 hi)
      exact ⟨h3, h4⟩
theorem laid_tail {W : World} {x : String × DataW Unit} {rest : List (String × DataW Unit)} (h : laidMet Tryd.prog (x :: rest) W) : laidMet Tryd.prog rest W := by
  obtain ⟨ps, ⟨g, t, cs, fuel, p, q, _, _, _, _, hl, rfl⟩, hnd, hrows⟩ := h
  exact ⟨q, hl, (List.nodup_append.1 hnd).2.1, fun b off hb => hrows b off (List.mem_append_right _ hb)⟩
theorem g64 : Tryd.prog.globalNamed "math/bits.deBruijn64tab" = some 17 := by kernel_rfl
theorem g64Type : (Tryd.prog.globals[17]?).map (·.type) = some 115 := by kernel_rfl
theorem cells64 : Tryd.prog.cellsOf 115 = 64 := by kernel_rfl
theorem cellsU8 : Tryd.prog.cellsOf 5 = 1 := by kernel_rfl
def tab64 : List Int := [0, 1, 56, 2, 57, 49, 28, 3, 61, 58, 42, 50, 38, 29, 17, 4, 62, 47, 59, 36, 45, 43, 51, 22, 53, 39, 33, 30, 24, 18, 12, 5, 63, 55, 48, 27, 60, 41, 37, 16, 46, 35, 44, 21, 52, 32, 23, 11, 54, 26, 40, 15, 34, 20, 31, 10, 25, 14, 19, 9, 13, 8, 7, 6]
theorem tab64_at : ∀ j, j < Lib.deBruijn64tab.length → tab64.getD j 0 = ((Lib.deBruijn64tab.getD j 0 : Nat) : Int) := by decide
/-- What the row's list gives: the table's cells. -/
theorem tab_of {W : World} {rest : List (String × DataW Unit)} (h : laidMet Tryd.prog (("math/bits.deBruijn64tab", Rows.laid_math_bits_deBruijn64tab) :: rest) W) : TabAt 17 Lib.deBruijn64tab W := by
  have ht : Lib.TabIs Tryd.prog W "math/bits.deBruijn64tab" .u8 tab64 :=
    Lib.tabIs_of_head (rest := rest) g64 g64Type Tryd.underlying115 Tryd.underlying5 cellsU8 cells64 h
  intro j hj
  have hc := ht.cell g64 j (by have e : tab64.length = Lib.deBruijn64tab.length := rfl; omega)
  rw [hc, tab64_at j hj]
set_option maxRecDepth 100000 in
theorem testPrints_walk {H : Type} (enc : TypeId × Value → H) (W : World) (base : Nat) (hL : laidMetH Tryd.prog Rows.testPrintsUptoRow.laid W) (v : Value) (d : DataW H) (p : List MemPlace) (hv : Value.okWide Tryd.prog W .any base 22 v)
    (h0 : DataW.Trod enc Tryd.prog W 0 (fun _ => true) true 22 v d p) (_hlt : ∀ x ∈ p, x.block < W.heap.size) (_hw : ∀ x ∈ d.weights Tryd.prog 22, x ≤ reachBytes) (hk : Rows.uptoSmall H ([d] ++ []) = true) :
    Calls Tryd.prog 3 #[v] W fun e W' => e = .returned (.bool true) ∧ Below W.heap.size W W' := by
  obtain ⟨a0, len0, cap0, rfl⟩ := okWide_slice Tryd.underlying22 hv
  obtain ⟨fuel, hf⟩ := h0
  have hs := of_decide_eq_true hk
  simp only [List.append_nil, Rows.uptoBulkAll] at hs
  rw [show (Value.slice a0 len0 cap0).cells.toList = [.slice a0 len0 cap0] from rfl] at hf
  obtain ⟨a, C, cap, e, hC, hl, hP⟩ := open_cases hf (by simp only; omega)
  rw [e]
  have hL0 : laidMet Tryd.prog Rows.testPrintsUptoRow.laid W := hL
  have hT := tab_of (laid_tail hL0)
  obtain ⟨A, hA⟩ := sents_of (rest := [("unicode.CaseRanges", Rows.laid_unicode_CaseRanges), ("unicode/utf8.first", Rows.laid_unicode_utf8_first)]) (laid_tail (laid_tail (laid_tail (laid_tail hL0))))
  exact testPrints_any C a cap A W (by omega) (fun x hx => by have := hP x hx; omega) hC hT hA
set_option maxRecDepth 100000 in
theorem testPrints_lifted (os : Os) (started : os.Started) (H : Type) (enc : TypeId × Value → H) (F : Stop.Interp) :
    ReturnsInHanded {} Tryd.checked os 3 .any ((Rows.OpenSpec.upto Rows.testPrintsSpec).preRow enc Tryd.prog Tryd.f3 Rows.testPrintsUptoRow.domain false Rows.testPrintsUptoRow.laid) (((Rows.OpenSpec.upto Rows.testPrintsSpec).at F).post enc Tryd.prog Tryd.f3 false true false false) := by
  refine returnsInHanded_of_row (C := Tryd.checked) (s := Rows.OpenSpec.upto Rows.testPrintsSpec) own started (by kernel_rfl) Tryd.func3
    (witness_row_shaped (enc := enc) (C := Tryd.checked) (World.laidAll Tryd.prog os Rows.testPrintsUptoRow.laid) #[.slice none 0 0] (World.laidAll_os _ _ _) (World.shaped_of_ZipB (by kernel_rfl) (by kernel_rfl)) (by kernel_rfl)
      (OpenSpec.preRow_of_cond 8 (x := ([.nil], [], [])) (by kernel_rfl) (by kernel_rfl) (fun k hk => by cases hk; kernel_rfl) (by kernel_rfl) (laidMet_laidAll _ (by kernel_rfl) (by kernel_rfl)))) ?_
  intro W base args ds gs before hval hW _ hcond hsz hL _ _
  exact law_contract rfl rfl rfl (fun _ _ => rfl) (by kernel_rfl) (of_decide_eq_true (by kernel_rfl)) W base args ds gs before hval hW hsz (fun v d p hv h0 hlt hw e1 e2 => testPrints_walk enc W base hL v d p hv h0 hlt hw (by have := hcond _ rfl; rw [e1, e2] at this; exact this))
theorem testPrints_said : Rows.TestPrintsUptoSaid :=
  OpenClaim.holds_of_cond 3 Tryd.f3 rfl rfl rfl rfl rfl rfl rfl ⟨rfl, rfl, rfl, rfl, rfl⟩ rfl rfl rfl rfl rfl (by kernel_rfl) Tryd.func3 (by kernel_rfl)
    (of_decide_eq_true (by kernel_rfl)) (by unfold Func.isWrapper; first | (rw [if_pos (by decide +kernel)]; kernel_rfl) | (rw [if_neg (by decide +kernel)]; exact ⟨rfl, rfl⟩))
    (fun os started H enc _ F => by rw [OpenClaim.pre_eq_preRow]; exact testPrints_lifted os started H enc F)
theorem testPrints_plain (f : FuncId) (fn : Func) (hf : Tryd.pinned.checked.prog.funcNamed "caesura/caesuralaw23.TestPrints" = some f) (hfn : Tryd.pinned.checked.prog.funcs[f]? = some fn) :
    true = Tryd.pinned.checked.prog.looks [] ∧ ∀ (j : Nat) t, fn.params[j]? = some t → Tryd.pinned.checked.prog.wantsStandIn t = false := by
  obtain rfl : f = 3 := Option.some.inj ((show Tryd.prog.funcNamed "caesura/caesuralaw23.TestPrints" = some 3 by kernel_rfl).symm.trans hf) |>.symm
  obtain rfl : fn = Tryd.f3 := (Option.some.inj (Tryd.func3.symm.trans hfn)).symm
  refine ⟨by kernel_rfl, fun j t ht => ?_⟩
  rw [Tryd.params3] at ht
  obtain rfl : t = 22 := by simpa using Array.mem_of_getElem? ht
  exact (show Tryd.prog.wantsStandIn 22 = false by kernel_rfl)
theorem testPrints_card : Rows.TestPrintsUptoCardSaid :=
  Claim7.holds_tied_plain_at .later [] _ _ _ _ testPrints_said (fun _ h => by cases h) (by kernel_rfl) (fun _ h => by cases h) testPrintsUpto_row_tie rfl ⟨rfl, rfl⟩ (by kernel_rfl) rfl testPrints_plain (by kernel_rfl)
end Go.Proofs.YtooeagpopncmgaaDoor
