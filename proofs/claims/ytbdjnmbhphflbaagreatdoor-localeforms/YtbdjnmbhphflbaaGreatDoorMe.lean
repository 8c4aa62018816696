/-
  SentP, LaidQ, LfP.
-/
import Derived.Test.YtbdjnmbhphflbaaGreatDoorSentW
import Derived.Test.YtbdjnmbhphflbaaGreatDoorDoor
import Derived.Stop.LaidErr
import Derived.Test.YtbdjnmbhphflbaaGreatDoorSeqW
import Derived.Test.YtbdjnmbhphflbaaGreatDoorMd
import Derived.Lib.LaidU8
import Derived.Shelf.Vars
import Derived.Lay
import Derived.LaidMore
import Derived.ChangeSlices
import Derived.Deep.Slices
namespace Go.Proofs.YtbdjnmbhphflbaaGreatDoor
open Go.ChangeShapes Go.WideShapes Go.ChangeAt Go.RowKit
theorem star : ("*" ++ "errors.errorString" : String) = "*errors.errorString" := by decide
theorem errRow (u : TypeId) (h : Tryz.prog.typeName? 3 u = some "*errors.errorString") : u = 192 :=
  typeName_ptr_named (nm := "errors.errorString") (by rw [star]; kernel_rfl) (by kernel_rfl) (by decide) u (by rw [star]; exact h)
theorem cellsErr : Tryz.prog.cellsOf 206 = 1 := by kernel_rfl
theorem cellsStr : Tryz.prog.cellsOf 9 = 1 := by kernel_rfl
/-- A listed refusal. -/
def sentRow (x : String × List UInt8) : String × DataW Unit := (x.1, .iface "*errors.errorString" (.ptr (.agg [.lit (.string x.2)])))
set_option maxRecDepth 10000 in
theorem sents_list {W : World} (rest : List (String × DataW Unit)) : ∀ (L : List (String × List UInt8)) (ps : List MemPlace),
    DataW.LaidVars Tryz.prog W (L.map sentRow ++ rest) ps → ps.Nodup →
    (∀ b off, MemPlace.cell b off ∈ ps → (∃ c t, W.heap[b]? = some (.cells c t (0, 0))) ∧ ∀ u v, W.cell? ⟨b, off, none⟩ = some (.iface u v) → Value.okWide Tryz.prog W .any 0 u v) →
    (∀ x ∈ L, ∀ g t, Tryz.prog.globalNamed x.1 = some g → (Tryz.prog.globals[g]?).map (·.type) = some t → t = 33) →
    ∃ xs : List Addr, xs.length = L.length ∧ xs.Nodup ∧ (∀ a ∈ xs, MemPlace.cell a.block a.off ∈ ps ∧ ∃ c t, W.heap[a.block]? = some (.cells c t (0, 0))) ∧
      ∀ i (h : i < L.length) g, Tryz.prog.globalNamed (L[i]).1 = some g → W.cell? ⟨g, 0, none⟩ = some (.iface 192 (.pointer (some (xs.getD i ⟨0, 0, none⟩)))) := by
  intro L
  induction L with
  | nil => intro ps _ _ _ _; exact ⟨[], rfl, List.nodup_nil, (fun a h => by cases h), fun i h => absurd h (Nat.not_lt_zero _)⟩
  | cons x L ih =>
    intro ps hl hnd hrows hty
    obtain ⟨g0, t0, cs0, f0, p0, q0, hg0, ht0, hv0, hd0, hl', rfl⟩ := hl
    obtain rfl := hty x List.mem_cons_self g0 t0 hg0 ht0
    obtain ⟨l0⟩ := cs0
    have ok0 : ∀ u v, l0 = [.iface u v] → Value.okWide Tryz.prog W .any 0 u v := fun u v e => by
      subst e
      exact (hrows g0 0 (by simp [MemPlace.row])).2 u v (by simpa using World.var?_cell hg0 hv0 0)
    obtain ⟨a, s, rfl, _, _, _, rfl⟩ := errorString_of_trod Tryz.underlying33 errRow Tryz.underlying192 Tryz.underlying206 rfl rfl Tryz.underlying9 cellsErr cellsStr hd0 ok0
    have hnd1 := List.nodup_append.1 hnd
    obtain ⟨xs, h1, h2, h3, h4⟩ := ih q0 hl' hnd1.2.1 (fun b off hb => hrows b off (List.mem_append_right _ hb)) (fun y hy => hty y (List.mem_cons_of_mem _ hy))
    have hmem : MemPlace.cell a.block a.off ∈ MemPlace.row ⟨g0, 0, none⟩ (#[Value.iface 192 (.pointer (some a))] : Array Value).size ++ MemPlace.row a 1 := by simp [MemPlace.row]
    refine ⟨a :: xs, by simp [h1], List.nodup_cons.2 ⟨fun hin => ?_, h2⟩, fun b hb => ?_, fun i hi g hg => ?_⟩
    · exact (hnd1.2.2 _ hmem _ (h3 a hin).1) rfl
    · rcases List.mem_cons.1 hb with rfl | hb
      · exact ⟨List.mem_append_left _ hmem, (hrows _ _ (List.mem_append_left _ hmem)).1⟩
      · exact ⟨List.mem_append_right _ (h3 b hb).1, (h3 b hb).2⟩
    · cases i with
      | zero =>
        have e : g = g0 := Option.some.inj (hg.symm.trans hg0)
        subst e
        simpa using World.var?_cell hg0 hv0 0
      | succ i => exact h4 i (by simpa using hi) g hg
/-- The text of a listed refusal. -/
def sentText : DataW Unit → List UInt8
  | .iface _ (.ptr (.agg [.lit (.string s)])) => s
  | _ => []
def sentList : List (String × List UInt8) := [("caesura/api.ErrArg", sentText Rows.laid_caesura_api_ErrArg), ("caesura/api.ErrText", sentText Rows.laid_caesura_api_ErrText), ("caesura/api.ErrMany", sentText Rows.laid_caesura_api_ErrMany), ("caesura/api.ErrShort", sentText Rows.laid_caesura_api_ErrShort), ("caesura/api.ErrTwice", sentText Rows.laid_caesura_api_ErrTwice), ("caesura/api.ErrLost", sentText Rows.laid_caesura_api_ErrLost), ("caesura/api.ErrOrder", sentText Rows.laid_caesura_api_ErrOrder), ("caesura/api.ErrCycle", sentText Rows.laid_caesura_api_ErrCycle), ("caesura/api.ErrSum", sentText Rows.laid_caesura_api_ErrSum), ("caesura/api.ErrForm", sentText Rows.laid_caesura_api_ErrForm), ("caesura/api.ErrEnd", sentText Rows.laid_caesura_api_ErrEnd)]
theorem sentTypes : ∀ x ∈ sentList, ∀ g t, Tryz.prog.globalNamed x.1 = some g → (Tryz.prog.globals[g]?).map (·.type) = some t → t = 33 := by
  have h : (sentList.all fun x => match Tryz.prog.globalNamed x.1 with | some g => (Tryz.prog.globals[g]?).map (·.type) == some 33 | none => true) = true := by kernel_rfl
  intro x hx g t hg ht
  have := List.all_eq_true.1 h x hx
  rw [hg] at this
  simp only [ht] at this
  simpa using this
theorem g_ErrArg : Tryz.prog.globalNamed "caesura/api.ErrArg" = some 3 := by kernel_rfl
theorem g_ErrText : Tryz.prog.globalNamed "caesura/api.ErrText" = some 2 := by kernel_rfl
theorem g_ErrMany : Tryz.prog.globalNamed "caesura/api.ErrMany" = some 1 := by kernel_rfl
theorem g_ErrShort : Tryz.prog.globalNamed "caesura/api.ErrShort" = some 4 := by kernel_rfl
theorem g_ErrTwice : Tryz.prog.globalNamed "caesura/api.ErrTwice" = some 5 := by kernel_rfl
theorem g_ErrLost : Tryz.prog.globalNamed "caesura/api.ErrLost" = some 7 := by kernel_rfl
theorem g_ErrOrder : Tryz.prog.globalNamed "caesura/api.ErrOrder" = some 6 := by kernel_rfl
theorem g_ErrCycle : Tryz.prog.globalNamed "caesura/api.ErrCycle" = some 0 := by kernel_rfl
theorem g_ErrSum : Tryz.prog.globalNamed "caesura/api.ErrSum" = some 8 := by kernel_rfl
theorem g_ErrForm : Tryz.prog.globalNamed "caesura/api.ErrForm" = some 9 := by kernel_rfl
theorem g_ErrEnd : Tryz.prog.globalNamed "caesura/api.ErrEnd" = some 10 := by kernel_rfl
theorem sents_of {W : World} {rest : List (String × DataW Unit)} (h : laidMet Tryz.prog (sentList.map sentRow ++ rest) W) : ∃ A, Sents W A := by
  obtain ⟨ps, hl, hnd, hrows⟩ := h
  obtain ⟨xs, h1, h2, h3, h4⟩ := sents_list rest sentList ps hl hnd hrows sentTypes
  have h11 : xs.length = 11 := h1
  refine ⟨fun i => xs.getD i ⟨0, 0, none⟩, h4 0 (by decide) _ g_ErrArg, h4 1 (by decide) _ g_ErrText, h4 2 (by decide) _ g_ErrMany, h4 3 (by decide) _ g_ErrShort, h4 4 (by decide) _ g_ErrTwice, h4 5 (by decide) _ g_ErrLost, h4 6 (by decide) _ g_ErrOrder, h4 7 (by decide) _ g_ErrCycle, h4 8 (by decide) _ g_ErrSum, h4 9 (by decide) _ g_ErrForm, h4 10 (by decide) _ g_ErrEnd, fun i j hi hj hij e => ?_, fun i hi => ?_⟩
  · have hi' : i < xs.length := by omega
    have hj' : j < xs.length := by omega
    simp only [List.getD_eq_getElem?_getD, List.getElem?_eq_getElem hi', List.getElem?_eq_getElem hj', Option.getD_some] at e
    exact hij ((List.getElem_inj h2).1 e)
  · have hi' : i < xs.length := by omega
    simp only [List.getD_eq_getElem?_getD, List.getElem?_eq_getElem hi', Option.getD_some]
    exact (h3 _ (List.getElem_mem hi')).2
end Go.Proofs.YtbdjnmbhphflbaaGreatDoor
namespace Go.Proofs.YtbdjnmbhphflbaaGreatDoor
open Go.ChangeShapes Go.WideShapes Go.ChangeAt Go.RowKit Go.Joins
theorem array_of {H : Type} {enc : TypeId × Value → H} {P : Program} {w : World} {base : Nat} {sp : Nat → Bool} {held : Bool} {fuel : Nat} {t e : TypeId} {n m : Nat} {cs : List Value} {ds : List (DataW H)} {p : List MemPlace}
    (ht : P.underlying t = some (.array n e)) (hce : P.cellsOf e = m) (h : DataW.trod enc P w base sp held fuel t cs = some (.agg ds, p)) (i : Nat) (hi : i < n) :
    ∃ fuel' d q, ds[i]? = some d ∧ DataW.trod enc P w base sp held fuel' e ((cs.drop (i * m)).take m) = some (d, q) := by
  cases fuel with
  | zero => simp [DataW.trod] at h
  | succ fuel =>
    simp only [DataW.trod, ht, hce] at h
    split at h
    · obtain ⟨xs, hm, hx⟩ := Option.map_eq_some_iff.1 h
      obtain ⟨b, hb, hf⟩ := Lib.mapM_at hm i i (by simp [hi])
      have hxs : xs.map (·.1) = ds := by
        have := congrArg Prod.fst hx
        simpa using this
      refine ⟨fuel, b.1, b.2, ?_, hf⟩
      rw [← hxs]
      simp [hb]
    · cases h
theorem struct_of {H : Type} {enc : TypeId × Value → H} {P : Program} {w : World} {base : Nat} {sp : Nat → Bool} {held : Bool} {fuel : Nat} {e : TypeId} {fs : Array Field} {cs : List Value} {ds : List (DataW H)} {p : List MemPlace}
    (he : P.underlying e = some (.struct fs)) (h : DataW.trod enc P w base sp held fuel e cs = some (.agg ds, p)) (k : Nat) (f : Field) (hk : fs.toList[k]? = some f) :
    ∃ fuel' d q, ds[k]? = some d ∧ DataW.trod enc P w base sp held fuel' f.type ((cs.drop f.offset).take (P.cellsOf f.type)) = some (d, q) := by
  cases fuel with
  | zero => simp [DataW.trod] at h
  | succ fuel =>
    simp only [DataW.trod, he] at h
    split at h
    · obtain ⟨xs, hm, hx⟩ := Option.map_eq_some_iff.1 h
      obtain ⟨b, hb, hf⟩ := Lib.mapM_at hm k f hk
      have hxs : xs.map (·.1) = ds := by
        have := congrArg Prod.fst hx
        simpa using this
      refine ⟨fuel, b.1, b.2, ?_, hf⟩
      rw [← hxs]
      simp [hb]
    · cases h
theorem gSeq : Tryz.prog.globalNamed "caesura/units.sequences" = some 15 := by kernel_rfl
theorem gSeqType : (Tryz.prog.globals[15]?).map (·.type) = some 182 := by kernel_rfl
theorem cellsRow : Tryz.prog.cellsOf 156 = 6 := by kernel_rfl
def rowLits {H : Type} (i : Nat) : List (DataW H) := [.lit (.int .u8 (tLo i)), .lit (.int .u8 (tHi i)), .lit (.int .u8 (tLo2 i)), .lit (.int .u8 (tHi2 i)), .lit (.int .i64 (tSz i)), .lit (.int .u8 (tMk i))]
theorem laid_rows : (Rows.laid_caesura_units_sequences : DataW Unit) = .agg ((List.range 9).map fun i => .agg (rowLits i)) := by rfl
theorem one_int {H : Type} {enc : TypeId × Value → H} {P : Program} {w : World} {base : Nat} {sp : Nat → Bool} {held : Bool} {fuel : Nat} {t : TypeId} {k : IntKind} {cs : List Value} {z : Int} {d : DataW H} {q : List MemPlace} (o : Nat)
    (ht : P.underlying t = some (.int k)) (hc : P.cellsOf t = 1) (h : DataW.trod enc P w base sp held fuel t ((cs.drop o).take (P.cellsOf t)) = some (d, q)) (hd : some d = some (.lit (.int k z))) : cs[o]? = some (.int k z) := by
  rw [hc] at h
  obtain ⟨z', hcs, e, _⟩ := DataW.trod_int ht h
  obtain rfl : d = _ := congrArg Prod.fst e
  simp only [Option.some.injEq, DataW.lit.injEq, Lit.int.injEq, true_and] at hd
  subst hd
  have := congrArg (·[0]?) hcs
  simpa [List.getElem?_take, List.getElem?_drop] using this
theorem seqAt_of {W : World} {rest : List (String × DataW Unit)} (h : laidMet Tryz.prog (("caesura/units.sequences", Rows.laid_caesura_units_sequences) :: rest) W) : SeqAt W := by
  obtain ⟨ps, ⟨g', t', cs, fuel, p, q, hg', ht', hvar, hd, _, _⟩, _⟩ := h
  obtain rfl := Option.some.inj (gSeq.symm.trans hg')
  obtain rfl := Option.some.inj (gSeqType.symm.trans ht')
  rw [laid_rows] at hd
  intro i hi k hk
  obtain ⟨f1, d1, q1, hd1, h1⟩ := array_of (m := 6) Tryz.underlying182 cellsRow hd i hi
  have e1 : d1 = .agg (rowLits i) := by simpa [hi] using hd1.symm
  subst e1
  have hc := World.var?_cell gSeq hvar (i * 6 + k)
  rw [hc]
  have key : ((cs.toList.drop (i * 6)).take 6)[k]? = (rowCells i)[k]? := by
    obtain rfl | rfl | rfl | rfl | rfl | rfl : k = 0 ∨ k = 1 ∨ k = 2 ∨ k = 3 ∨ k = 4 ∨ k = 5 := by omega
    · obtain ⟨f2, d2, q2, hd2, h2⟩ := struct_of Tryz.underlying156 h1 0 _ rfl
      exact one_int 0 Tryz.underlying5 (by kernel_rfl) h2 hd2.symm
    · obtain ⟨f2, d2, q2, hd2, h2⟩ := struct_of Tryz.underlying156 h1 1 _ rfl
      exact one_int 1 Tryz.underlying5 (by kernel_rfl) h2 hd2.symm
    · obtain ⟨f2, d2, q2, hd2, h2⟩ := struct_of Tryz.underlying156 h1 2 _ rfl
      exact one_int 2 Tryz.underlying5 (by kernel_rfl) h2 hd2.symm
    · obtain ⟨f2, d2, q2, hd2, h2⟩ := struct_of Tryz.underlying156 h1 3 _ rfl
      exact one_int 3 Tryz.underlying5 (by kernel_rfl) h2 hd2.symm
    · obtain ⟨f2, d2, q2, hd2, h2⟩ := struct_of Tryz.underlying156 h1 4 _ rfl
      exact one_int 4 Tryz.underlying3 (by kernel_rfl) h2 hd2.symm
    · obtain ⟨f2, d2, q2, hd2, h2⟩ := struct_of Tryz.underlying156 h1 5 _ rfl
      exact one_int 5 Tryz.underlying5 (by kernel_rfl) h2 hd2.symm
  rw [← key, List.getElem?_take, if_pos hk, List.getElem?_drop]
  simp
end Go.Proofs.YtbdjnmbhphflbaaGreatDoor
namespace Go.Proofs.YtbdjnmbhphflbaaGreatDoor
open Go.ChangeShapes Go.WideShapes Go.ChangeAt Go.RowKit Go.Joins
theorem laid_tail {P : Program} {w : World} {x : String × DataW Unit} {l : List (String × DataW Unit)} (h : laidMet P (x :: l) w) : laidMet P l w := by
  obtain ⟨ps, hl, hnd, hrows⟩ := h
  obtain ⟨g0, t0, cs0, f0, p0, q0, hg0, ht0, hv0, hd0, hl', rfl⟩ := hl
  exact ⟨q0, hl', (List.nodup_append.1 hnd).2.1, fun b off hb => hrows b off (List.mem_append_right _ hb)⟩
theorem first_data : (Rows.laid_unicode_utf8_first : DataW Unit) = Lib.firstData := by kernel_rfl
theorem accept_data : (Rows.laid_unicode_utf8_acceptRanges : DataW Unit) = Lib.acceptData := by kernel_rfl
theorem tb_of {W : World} (h3 : Lib.VarReads Tryz.prog W "unicode/utf8.first" Lib.firstData) (h4 : Lib.VarReads Tryz.prog W "unicode/utf8.acceptRanges" Lib.acceptData) : Tb W :=
  utf8Tabs_of_reads (ρ := Tryz.lays230_ren) { Tryz.lays230 with } ⟨by kernel_rfl, by kernel_rfl, by kernel_rfl, by kernel_rfl, by kernel_rfl, by kernel_rfl, by kernel_rfl⟩ h3 h4
theorem mx_of {W : World} (h : W.ShapedOpen Tryz.prog) : Mx W :=
  cell_of_shapedOpen_int (g := 11) (t := 3) (zero := #[.int .i64 0]) (k := .i64) h (of_decide_eq_true (by kernel_rfl)) (by kernel_rfl) rfl (by kernel_rfl) (by kernel_rfl) Tryz.underlying3
theorem cellsTags : Tryz.prog.cellsOf 40 = 2 := by kernel_rfl
set_option maxRecDepth 100000 in
theorem open_tags {H : Type} {enc : TypeId × Value → H} {W : World} {base : Nat} {v : Value} {d : DataW H} {p : List MemPlace} (hv : Value.okWide Tryz.prog W .any base 40 v)
    (h0 : DataW.Trod enc Tryz.prog W 0 (fun _ => true) true 40 v d p) :
    ∃ a b : ByteArray, v = .agg #[.string a, .string b] := by
  obtain ⟨fuel, hf⟩ := h0
  have hcs : ∃ cs, v = .agg cs := by
    simp only [Value.okWide, Tryz.underlying40] at hv
    obtain ⟨cs, h1, _⟩ := hv
    exact ⟨cs, h1⟩
  obtain ⟨cs, rfl⟩ := hcs
  obtain ⟨xs, n, _, hx, hlen, hxl, hfs⟩ := DataW.trod_struct Tryz.underlying40 hf
  rw [cellsTags] at hlen
  obtain ⟨l⟩ := cs
  match l, hlen with
  | [c0, c1], _ =>
    obtain ⟨y0, y1, rfl⟩ : ∃ y0 y1, xs = [y0, y1] := by
      match xs, hxl with
      | [y0, y1], _ => exact ⟨y0, y1, rfl⟩
    have f0 := hfs 0 _ rfl
    have f1 := hfs 1 _ rfl
    simp [Value.cells, cellsStr] at f0
    simp [Value.cells, cellsStr] at f1
    obtain ⟨s, e0, _⟩ := DataW.trod_string Tryz.underlying9 f0
    obtain ⟨t, e1, _⟩ := DataW.trod_string Tryz.underlying9 f1
    simp only [List.cons.injEq, and_true] at e0 e1
    subst e0 e1
    exact ⟨s, t, rfl⟩
set_option maxRecDepth 100000 in
theorem localeForms_walk {H : Type} (enc : TypeId × Value → H) (W : World) (base : Nat) (hL : laidMetH Tryz.prog Rows.localeFormsRow.laid W) (hSh : W.ShapedOpen Tryz.prog) (v : Value) (d : DataW H) (p : List MemPlace) (hv : Value.okWide Tryz.prog W .any base 40 v)
    (h0 : DataW.Trod enc Tryz.prog W 0 (fun _ => true) true 40 v d p) (_hlt : ∀ x ∈ p, x.block < W.heap.size) (_hw : ∀ x ∈ d.weights Tryz.prog 40, x ≤ reachBytes) :
    Calls Tryz.prog 4 #[v] W fun e W' => e = .returned (.bool true) ∧ Below W.heap.size W W' := by
  obtain ⟨a, b, rfl⟩ := open_tags hv h0
  have hL0 : laidMet Tryz.prog Rows.localeFormsRow.laid W := hL
  obtain ⟨A, hA⟩ := sents_of (rest := [("caesura/units.sequences", Rows.laid_caesura_units_sequences), ("unicode.CaseRanges", Rows.laid_unicode_CaseRanges), ("unicode/utf8.first", Rows.laid_unicode_utf8_first)]) (laid_tail hL0)
  have hQ : SeqAt W := seqAt_of (laid_tail (laid_tail (laid_tail (laid_tail (laid_tail (laid_tail (laid_tail (laid_tail (laid_tail (laid_tail (laid_tail (laid_tail hL0))))))))))))
  have h3 := Lib.laidMet.reads hL0 (n := "unicode/utf8.first") (d := Rows.laid_unicode_utf8_first) (by simp [Rows.localeFormsRow])
  have h4 := Lib.laidMet.reads hL0 (n := "unicode/utf8.acceptRanges") (d := Rows.laid_unicode_utf8_acceptRanges) (by simp [Rows.localeFormsRow])
  rw [first_data] at h3
  rw [accept_data] at h4
  exact localeForms_any A a b W ⟨mx_of hSh, tb_of h3 h4, hQ, hA⟩
set_option maxRecDepth 100000 in
theorem localeForms_lifted (os : Os) (started : os.Started) (H : Type) (enc : TypeId × Value → H) (F : Stop.Interp) :
    ReturnsInHanded {} Tryz.checked os 4 .any ((OpenSpec.ofChange Rows.localeFormsSpec).preRow enc Tryz.prog Tryz.f4 Rows.localeFormsRow.domain false Rows.localeFormsRow.laid) (((OpenSpec.ofChange Rows.localeFormsSpec).at F).post enc Tryz.prog Tryz.f4 false true false false) := by
  refine returnsInHanded_of_row (C := Tryz.checked) (s := OpenSpec.ofChange Rows.localeFormsSpec) own started (by kernel_rfl) Tryz.func4
    (witness_row_shaped (enc := enc) (C := Tryz.checked) (World.laidAll Tryz.prog os Rows.localeFormsRow.laid) #[.agg #[.string ByteArray.empty, .string ByteArray.empty]] (World.laidAll_os _ _ _) (World.shaped_of_ZipB (by kernel_rfl) (by kernel_rfl)) (by kernel_rfl)
      (OpenSpec.preRow_of_cond 8 (x := ([.agg [.lit (.string []), .lit (.string [])]], [], [])) (by kernel_rfl) (by kernel_rfl) (fun k hk => by cases hk) (by kernel_rfl) (laidMet_laidAll _ (by kernel_rfl) (by kernel_rfl)))) ?_
  intro W base args ds gs before hval hW _ _ hsz hL hSh _
  exact law_contract rfl rfl rfl (fun _ _ => rfl) (by kernel_rfl) (of_decide_eq_true (by kernel_rfl)) W base args ds gs before hval hW hsz (fun v d p hv h0 hlt hw _ _ => localeForms_walk enc W base hL hSh v d p hv h0 hlt hw )
theorem localeForms_said : Rows.LocaleFormsSaid :=
  OpenClaim.holds_of_cond 4 Tryz.f4 rfl rfl rfl rfl rfl rfl rfl ⟨rfl, rfl, rfl, rfl, rfl⟩ rfl rfl rfl rfl rfl (by kernel_rfl) Tryz.func4 (by kernel_rfl)
    (of_decide_eq_true (by kernel_rfl)) (by unfold Func.isWrapper; first | (rw [if_pos (by decide +kernel)]; kernel_rfl) | (rw [if_neg (by decide +kernel)]; exact ⟨rfl, rfl⟩))
    (fun os started H enc _ F => by rw [OpenClaim.pre_eq_preRow]; exact localeForms_lifted os started H enc F)
theorem localeForms_plain (f : FuncId) (fn : Func) (hf : Tryz.pinned.checked.prog.funcNamed "caesura/caesuralaw7.LocaleForms" = some f) (hfn : Tryz.pinned.checked.prog.funcs[f]? = some fn) :
    true = Tryz.pinned.checked.prog.looks [] ∧ ∀ (j : Nat) t, fn.params[j]? = some t → Tryz.pinned.checked.prog.wantsStandIn t = false := by
  obtain rfl : f = 4 := Option.some.inj ((show Tryz.prog.funcNamed "caesura/caesuralaw7.LocaleForms" = some 4 by kernel_rfl).symm.trans hf) |>.symm
  obtain rfl : fn = Tryz.f4 := (Option.some.inj (Tryz.func4.symm.trans hfn)).symm
  refine ⟨by kernel_rfl, fun j t ht => ?_⟩
  rw [Tryz.params4] at ht
  obtain rfl : t = 40 := by simpa using Array.mem_of_getElem? ht
  exact (show Tryz.prog.wantsStandIn 40 = false by kernel_rfl)
theorem localeForms_card : Rows.LocaleFormsCardSaid :=
  Claim7.holds_tied_plain_at .later [] _ _ _ _ localeForms_said (fun _ h => by cases h) (by kernel_rfl) (fun _ h => by cases h) localeForms_row_tie rfl ⟨rfl, rfl⟩ (by kernel_rfl) rfl localeForms_plain (by kernel_rfl)
end Go.Proofs.YtbdjnmbhphflbaaGreatDoor
