/-
  Door, SentP, McOP, MblP.
-/
import Derived.Test.YtbbejfkgopcjoaaDoorCards
import Derived.Test.YtbbejfkgopcjoaaDoorTie
import Derived.WalkKit
import Derived.ProofKit
import Derived.OpenShut
import Derived.Deep.DeepHandedRow
import Derived.Lib.LaidTab
import Derived.Lib.SmallJoins
import Derived.Test.YtbbejfkgopcjoaaDoorNeaa
import Derived.Stop.LaidErr
import Derived.Test.YtbbejfkgopcjoaaDoorNeay
import Derived.Deep.Matrix
import Derived.Lib.LaidU8
import Derived.Shelf.Vars
import Derived.Lay
import Derived.LaidMore
import Derived.ChangeSlices
import Derived.Deep.Slices
import Derived.Test.YtbbejfkgopcjoaaDoorNebn
namespace Go.Proofs.YtbbejfkgopcjoaaDoor
open Go.ChangeShapes Go.WideShapes Go.ChangeAt Go.RowKit
theorem own : ownKnob Tryd.prog.godebug = none := by kernel_rfl
/-- An input that fits, at a world that is written out. -/
theorem witness_row_shaped {H : Type} {enc : TypeId × Value → H} {C : Checked} {os : Os} {f : FuncId} {fn : Func} {s : OpenSpec} {conds : List PathCond} {apart : Bool} {laid : List (String × DataW Unit)} (w0 : World) (args : Array Value) (hos : w0.os = os)
    (hsh : (w0.forCall (fun _ _ => 0) ⟨#[], args, []⟩).Shaped C.prog)
    (hok : Input.okWideB C.prog (w0.forCall (fun _ _ => 0) ⟨#[], args, []⟩) f ⟨#[], args, []⟩ = true)
    (hrow : s.preRow enc C.prog fn conds apart laid (w0.forCall (fun _ _ => 0) ⟨#[], args, []⟩).memory args) :
    ∃ (w : World) (tape : Tape) (i : Input), w.os = os ∧ (w.forCall tape i).Shaped C.prog ∧ i.vars = [] ∧ Input.okWide C.prog (w.forCall tape i) .any w.heap.size f i ∧
      s.preRow enc C.prog fn conds apart laid (w.forCall tape i).memory i.args ∧ ({} : Assume).holds C.prog (lone (Frame.enter C.prog f i.args .normal) [] (w.forCall tape i)) :=
  ⟨w0, fun _ _ => 0, ⟨#[], args, []⟩, hos, hsh, (Input.okWide_of_okWideB (base := 0) hok).1, (Input.okWide_of_okWideB hok).2, hrow, by
    simp only [Assume.holds]
    exact ⟨by simp, by simp, by simp, by simp, by simp⟩⟩
theorem laidOut : laidOutB Tryd.prog = true := by kernel_rfl
set_option maxRecDepth 10000 in
/-- The frame of a law of one parameter that answers true, writes nothing that was there, and lists no variable among its readings. -/
theorem law_contract {H : Type} {enc : TypeId × Value → H} {f : FuncId} {fn : Func} {s : ChangeSpec} {t : TypeId} (hp : fn.params = #[t]) (hrt : fn.resultTypes = #[4]) (hvars : s.vars = [])
    (hfn : ∀ (K : Type) (d : DataW K), s.fn K [d] = { results := [.lit (.bool true)], args := [d] }) (hread : Tryd.prog.readableRec t = true) (hrow : t < Tryd.prog.types.size)
    (W : World) (base : Nat) (args : Array Value) (ds gs : List (DataW H)) (before : List MemPlace)
    (hval : ∀ (j : Nat) t v, fn.params[j]? = some t → args[j]? = some v → Value.okWide Tryd.prog W .any base t v)
    (hW : DataW.Whole enc Tryd.prog fn.params.toList s.vars false W args.toList ds gs before)
    (hsz : (DataW.weightsEach Tryd.prog (fn.params.toList ++ s.plain.varTypes Tryd.prog) (ds ++ gs)).all (· ≤ reachBytes) = true)
    (walk : ∀ (v : Value) (d : DataW H) (p : List MemPlace), Value.okWide Tryd.prog W .any base t v → DataW.Trod enc Tryd.prog W 0 (fun _ => true) true t v d p → (∀ x ∈ p, x.block < W.heap.size) → (∀ x ∈ d.weights Tryd.prog t, x ≤ reachBytes) → ds = [d] → gs = [] →
      Calls Tryd.prog f #[v] W fun e W' => e = .returned (.bool true) ∧ Below W.heap.size W W') :
    Calls Tryd.prog f args W fun e W' => ∃ v, e = .returned v ∧ s.post enc Tryd.prog fn false true false false W args v W' := by
  have hW' := hW
  obtain ⟨p, q, hA0, hV, rfl, hfz, hnd⟩ := hW
  have hA : DataW.TrodAll enc Tryd.prog W 0 (fun _ => true) true fn.params.toList args.toList ds p := hA0
  rw [hp] at hA hval hsz
  obtain ⟨v0, vs0, d0, ds0, p0, q0, hargs, rfl, rfl, h0, r0⟩ := trodAll_cons hA
  obtain ⟨rfl, rfl, rfl⟩ := trodAll_nil r0
  obtain rfl : args = #[v0] := by cases args; simp_all
  rw [hvars] at hV
  obtain ⟨rfl, rfl⟩ := trodVars_none hV
  have hlt : ∀ x ∈ p0, x.block < W.heap.size := fun x hx => by have := hW'.lt x (by simpa using hx); simpa using this
  have hw : ∀ x ∈ d0.weights Tryd.prog t, x ≤ reachBytes := fun x hx => by
    have := List.all_eq_true.1 hsz x (DataW.weights_mem_each (j := 0) (by simp) (by simp) x hx)
    simpa using this
  refine (walk v0 d0 p0 (hval 0 t v0 rfl rfl) h0 hlt hw rfl rfl).mono fun e W' ⟨he, hb⟩ => ?_
  subst he
  refine ⟨_, rfl, [d0], [], _, [], p0 ++ [], [], hW', ?_, ?_, ?_, hb.frame _, fun h => by cases h⟩
  · rw [hrt, show ([d0] ++ ([] : List (DataW H))) = [d0] from rfl, hfn]
    exact trodAll_cons_mk (shut_bool Tryd.underlying4 true) trodAll_mk0
  · rw [hp, show ([d0] ++ ([] : List (DataW H))) = [d0] from rfl, hfn]
    exact trodAll_cons_mk (Below.trod laidOut hread hrow h0 hb hlt) trodAll_mk0
  · rw [hvars, show ([d0] ++ ([] : List (DataW H))) = [d0] from rfl, hfn]
    rfl
end Go.Proofs.YtbbejfkgopcjoaaDoor
namespace Go.Proofs.YtbbejfkgopcjoaaDoor
open Go.ChangeShapes Go.WideShapes Go.ChangeAt Go.RowKit
theorem star : ("*" ++ "errors.errorString" : String) = "*errors.errorString" := by decide
theorem errRow (u : TypeId) (h : Tryd.prog.typeName? 3 u = some "*errors.errorString") : u = 157 :=
  typeName_ptr_named (nm := "errors.errorString") (by rw [star]; kernel_rfl) (by kernel_rfl) (by decide) u (by rw [star]; exact h)
theorem cellsErr : Tryd.prog.cellsOf 175 = 1 := by kernel_rfl
theorem cellsStr : Tryd.prog.cellsOf 9 = 1 := by kernel_rfl
/-- A listed refusal. -/
def sentRow (x : String × List UInt8) : String × DataW Unit := (x.1, .iface "*errors.errorString" (.ptr (.agg [.lit (.string x.2)])))
set_option maxRecDepth 10000 in
theorem sents_list {W : World} (rest : List (String × DataW Unit)) : ∀ (L : List (String × List UInt8)) (ps : List MemPlace),
    DataW.LaidVars Tryd.prog W (L.map sentRow ++ rest) ps → ps.Nodup →
    (∀ b off, MemPlace.cell b off ∈ ps → (∃ c t, W.heap[b]? = some (.cells c t (0, 0))) ∧ ∀ u v, W.cell? ⟨b, off, none⟩ = some (.iface u v) → Value.okWide Tryd.prog W .any 0 u v) →
    (∀ x ∈ L, ∀ g t, Tryd.prog.globalNamed x.1 = some g → (Tryd.prog.globals[g]?).map (·.type) = some t → t = 30) →
    ∃ xs : List Addr, xs.length = L.length ∧ xs.Nodup ∧ (∀ a ∈ xs, MemPlace.cell a.block a.off ∈ ps ∧ ∃ c t, W.heap[a.block]? = some (.cells c t (0, 0))) ∧
      ∀ i (h : i < L.length) g, Tryd.prog.globalNamed (L[i]).1 = some g → W.cell? ⟨g, 0, none⟩ = some (.iface 157 (.pointer (some (xs.getD i ⟨0, 0, none⟩)))) := by
  intro L
  induction L with
  | nil => intro ps _ _ _ _; exact ⟨[], rfl, List.nodup_nil, (fun a h => by cases h), fun i h => absurd h (Nat.not_lt_zero _)⟩
  | cons x L ih =>
    intro ps hl hnd hrows hty
    obtain ⟨g0, t0, cs0, f0, p0, q0, hg0, ht0, hv0, hd0, hl', rfl⟩ := hl
    obtain rfl := hty x List.mem_cons_self g0 t0 hg0 ht0
    obtain ⟨l0⟩ := cs0
    have ok0 : ∀ u v, l0 = [.iface u v] → Value.okWide Tryd.prog W .any 0 u v := fun u v e => by
      subst e
      exact (hrows g0 0 (by simp [MemPlace.row])).2 u v (by simpa using World.var?_cell hg0 hv0 0)
    obtain ⟨a, s, rfl, _, _, _, rfl⟩ := errorString_of_trod Tryd.underlying30 errRow Tryd.underlying157 Tryd.underlying175 rfl rfl Tryd.underlying9 cellsErr cellsStr hd0 ok0
    have hnd1 := List.nodup_append.1 hnd
    obtain ⟨xs, h1, h2, h3, h4⟩ := ih q0 hl' hnd1.2.1 (fun b off hb => hrows b off (List.mem_append_right _ hb)) (fun y hy => hty y (List.mem_cons_of_mem _ hy))
    have hmem : MemPlace.cell a.block a.off ∈ MemPlace.row ⟨g0, 0, none⟩ (#[Value.iface 157 (.pointer (some a))] : Array Value).size ++ MemPlace.row a 1 := by simp [MemPlace.row]
    refine ⟨a :: xs, by simp [h1], List.nodup_cons.2 ⟨fun hin => ?_, h2⟩, fun b hb => ?_, fun i hi g hg => ?_⟩
    · exact (hnd1.2.2 _ hmem _ (h3 a hin).1) rfl
    · rcases List.mem_cons.1 hb with rfl | hb
      · exact ⟨List.mem_append_left _ hmem, (hrows _ _ (List.mem_append_left _ hmem)).1⟩
      · exact ⟨List.mem_append_right _ (h3 b hb).1, (h3 b hb).2⟩
    · cases i with
      | zero =>
        have e : g = g0 := Option.some.inj (hg.symm.trans hg0)
        subst e
        simpa using World.var?_cell hg0 hv0 0
      | succ i => exact h4 i (by simpa using hi) g hg
/-- The text of a listed refusal. -/
def sentText : DataW Unit → List UInt8
  | .iface _ (.ptr (.agg [.lit (.string s)])) => s
  | _ => []
def sentList : List (String × List UInt8) := [("caesura/api.ErrArg", sentText Rows.laid_caesura_api_ErrArg), ("caesura/api.ErrText", sentText Rows.laid_caesura_api_ErrText), ("caesura/api.ErrMany", sentText Rows.laid_caesura_api_ErrMany), ("caesura/api.ErrShort", sentText Rows.laid_caesura_api_ErrShort), ("caesura/api.ErrTwice", sentText Rows.laid_caesura_api_ErrTwice), ("caesura/api.ErrLost", sentText Rows.laid_caesura_api_ErrLost), ("caesura/api.ErrOrder", sentText Rows.laid_caesura_api_ErrOrder), ("caesura/api.ErrCycle", sentText Rows.laid_caesura_api_ErrCycle), ("caesura/api.ErrSum", sentText Rows.laid_caesura_api_ErrSum), ("caesura/api.ErrForm", sentText Rows.laid_caesura_api_ErrForm), ("caesura/api.ErrEnd", sentText Rows.laid_caesura_api_ErrEnd)]
theorem sentTypes : ∀ x ∈ sentList, ∀ g t, Tryd.prog.globalNamed x.1 = some g → (Tryd.prog.globals[g]?).map (·.type) = some t → t = 30 := by
  have h : (sentList.all fun x => match Tryd.prog.globalNamed x.1 with | some g => (Tryd.prog.globals[g]?).map (·.type) == some 30 | none => true) = true := by kernel_rfl
  intro x hx g t hg ht
  have := List.all_eq_true.1 h x hx
  rw [hg] at this
  simp only [ht] at this
  simpa using this
theorem g_ErrArg : Tryd.prog.globalNamed "caesura/api.ErrArg" = some 0 := by kernel_rfl
theorem g_ErrText : Tryd.prog.globalNamed "caesura/api.ErrText" = some 2 := by kernel_rfl
theorem g_ErrMany : Tryd.prog.globalNamed "caesura/api.ErrMany" = some 1 := by kernel_rfl
theorem g_ErrShort : Tryd.prog.globalNamed "caesura/api.ErrShort" = some 3 := by kernel_rfl
theorem g_ErrTwice : Tryd.prog.globalNamed "caesura/api.ErrTwice" = some 4 := by kernel_rfl
theorem g_ErrLost : Tryd.prog.globalNamed "caesura/api.ErrLost" = some 6 := by kernel_rfl
theorem g_ErrOrder : Tryd.prog.globalNamed "caesura/api.ErrOrder" = some 5 := by kernel_rfl
theorem g_ErrCycle : Tryd.prog.globalNamed "caesura/api.ErrCycle" = some 7 := by kernel_rfl
theorem g_ErrSum : Tryd.prog.globalNamed "caesura/api.ErrSum" = some 8 := by kernel_rfl
theorem g_ErrForm : Tryd.prog.globalNamed "caesura/api.ErrForm" = some 9 := by kernel_rfl
theorem g_ErrEnd : Tryd.prog.globalNamed "caesura/api.ErrEnd" = some 10 := by kernel_rfl
theorem sents_of {W : World} {rest : List (String × DataW Unit)} (h : laidMet Tryd.prog (sentList.map sentRow ++ rest) W) : ∃ A, Sents W A := by
  obtain ⟨ps, hl, hnd, hrows⟩ := h
  obtain ⟨xs, h1, h2, h3, h4⟩ := sents_list rest sentList ps hl hnd hrows sentTypes
  have h11 : xs.length = 11 := h1
  refine ⟨fun i => xs.getD i ⟨0, 0, none⟩, h4 0 (by decide) _ g_ErrArg, h4 1 (by decide) _ g_ErrText, h4 2 (by decide) _ g_ErrMany, h4 3 (by decide) _ g_ErrShort, h4 4 (by decide) _ g_ErrTwice, h4 5 (by decide) _ g_ErrLost, h4 6 (by decide) _ g_ErrOrder, h4 7 (by decide) _ g_ErrCycle, h4 8 (by decide) _ g_ErrSum, h4 9 (by decide) _ g_ErrForm, h4 10 (by decide) _ g_ErrEnd, fun i j hi hj hij e => ?_, fun i hi => ?_⟩
  · have hi' : i < xs.length := by omega
    have hj' : j < xs.length := by omega
    simp only [List.getD_eq_getElem?_getD, List.getElem?_eq_getElem hi', List.getElem?_eq_getElem hj', Option.getD_some] at e
    exact hij ((List.getElem_inj h2).1 e)
  · have hi' : i < xs.length := by omega
    simp only [List.getD_eq_getElem?_getD, List.getElem?_eq_getElem hi', Option.getD_some]
    exact (h3 _ (List.getElem_mem hi')).2
end Go.Proofs.YtbbejfkgopcjoaaDoor
namespace Go.Proofs.YtbbejfkgopcjoaaDoor
open Go.ChangeShapes Go.WideShapes Go.ChangeAt Go.RowKit Go.Joins
theorem cellsInt : Tryd.prog.cellsOf 3 = 1 := by kernel_rfl
theorem cellsInts : Tryd.prog.cellsOf 34 = 1 := by kernel_rfl
theorem cellsRows : Tryd.prog.cellsOf 26 = 1 := by kernel_rfl
theorem cellsBool : Tryd.prog.cellsOf 4 = 1 := by kernel_rfl
theorem cellsPos : Tryd.prog.cellsOf 46 = 5 := by kernel_rfl
theorem cellsPat : Tryd.prog.cellsOf 48 = 6 := by kernel_rfl
theorem cellsPats : Tryd.prog.cellsOf 22 = 1 := by kernel_rfl
theorem bulk_one {H : Type} (d : DataW H) : 1 ≤ Rows.uptoBulk d := by
  cases d with
  | lit l => cases l <;> simp [Rows.uptoBulk]
  | nil => simp [Rows.uptoBulk]
  | ptr d => simp [Rows.uptoBulk]
  | slice elems spare => simp [Rows.uptoBulk]
  | agg parts => simp [Rows.uptoBulk]
  | iface t d => simp [Rows.uptoBulk]
  | map entries => simp [Rows.uptoBulk]
  | held h => simp [Rows.uptoBulk]
theorem bulk_all {H : Type} (l : List (DataW H)) : Rows.uptoBulkAll l = (l.map Rows.uptoBulk).sum := by
  induction l with
  | nil => simp [Rows.uptoBulkAll]
  | cons x r ih => rw [Rows.uptoBulkAll, ih, List.map_cons, List.sum_cons]
theorem bulk_lits {H : Type} (zs : List Int) : zs.length ≤ Rows.uptoBulkAll (H := H) (lits .i64 zs) := by
  induction zs with
  | nil => simp [lits]
  | cons z zs ih =>
    have e : (lits (H := H) .i64 (z :: zs)) = .lit (.int .i64 z) :: lits .i64 zs := rfl
    rw [e, Rows.uptoBulkAll, List.length_cons]
    have h1 : 1 ≤ Rows.uptoBulk (H := H) (.lit (.int .i64 z)) := bulk_one _
    omega
theorem lt_of_cell {W : World} {b o : Nat} {u : Value} (h : W.cell? ⟨b, o, none⟩ = some u) : b < W.heap.size := World.block_lt_of_cell? W _ h
theorem no_spot {W : World} {a : Addr} {u : Value} (h : W.cell? (a.add 0) = some u) : a.spot = none := by
  obtain ⟨b, off, spot⟩ := a
  cases spot with
  | none => rfl
  | some sp =>
    exfalso
    rw [show (⟨b, off, some sp⟩ : Addr).add 0 = ⟨b, off, some sp⟩ from rfl] at h
    unfold World.cell? at h
    split at h <;> simp at h
/-- Numbers that are read. -/
theorem open_points {H : Type} {enc : TypeId × Value → H} {W : World} {n : Nat} {c : Value} {x : DataW H × List MemPlace} (hf : DataW.trod enc Tryd.prog W 0 (fun _ => true) true n 34 [c] = some x) :
    ∃ (a : Option Addr) (ps : List Int) (cap : Nat), c = .slice a ps.length cap ∧ IA W a ps ∧ ps.length ≤ Rows.uptoBulk x.1 ∧ (a = none → cap = 0) := by
  rcases open_ints Tryd.underlying34 Tryd.underlying3 cellsInt hf with ⟨h1, h2⟩ | ⟨a, len, cap, zs, h1, h2, h3, h4, h5, h6, h7, h8⟩
  · simp only [List.cons.injEq, and_true] at h1
    exact ⟨none, [], 0, h1, ⟨fun k h => absurd h (Nat.not_lt_zero _)⟩, by simp, fun _ => rfl⟩
  · simp only [List.cons.injEq, and_true] at h1
    simp only [if_true] at h5
    have hl : (zs.take len).length = len := by rw [List.length_take]; omega
    have hb := bulk_lits (H := H) (zs.take len)
    refine ⟨some a, zs.take len, cap, by rw [hl]; exact h1, ⟨fun k hk' => ?_⟩, ?_, fun e => by cases e⟩
    · rw [hl] at hk'
      have h9 := h7 k (by omega)
      have hs := no_spot (h7 0 (by omega))
      obtain ⟨b, off, spot⟩ := a
      simp only at hs
      subst hs
      rw [Addr.add_lit] at h9
      refine ⟨b, off, rfl, lt_of_cell h9, ?_⟩
      rw [h9]
      congr 2
      rw [List.getElem_take, List.getD_eq_getElem?_getD, List.getElem?_eq_getElem (by omega)]
      rfl
    · rw [h6]
      simp only [Rows.uptoBulk]
      omega
/-- The bulk of rows is above all their lengths together. -/
theorem bulk_sum {H : Type} (D : Nat → DataW H) (Ln : Nat → Nat) (l : List Nat) (h : ∀ i ∈ l, Ln i + 1 ≤ Rows.uptoBulk (D i)) : (l.map Ln).sum + l.length ≤ Rows.uptoBulkAll (l.map D) := by
  induction l with
  | nil => simp
  | cons x r ih =>
    simp only [List.map_cons, Rows.uptoBulkAll, List.length_cons, List.sum_cons]
    have h1 := h x (.head _)
    have h2 := ih (fun i hi => h i (.tail _ hi))
    omega
/-- Lists of numbers that are read. -/
theorem open_rowsI {H : Type} {enc : TypeId × Value → H} {W : World} {n : Nat} {c : Value} {x : DataW H × List MemPlace} (hf : DataW.trod enc Tryd.prog W 0 (fun _ => true) true n 26 [c] = some x) :
    ∃ (a : Option Addr) (L : List (List Int)) (cap : Nat), c = .slice a L.length cap ∧ RwA W a L ∧ (L.map List.length).sum + L.length ≤ Rows.uptoBulk x.1 ∧ (a = none → cap = 0) := by
  rcases Deep.open_int_rows Tryd.underlying26 Tryd.underlying34 Tryd.underlying3 cellsInts cellsInt hf with ⟨h1, h2⟩ | ⟨a, len, cap, A, Ln, C, Z, h1, _, h3, _, h5, h6⟩
  · simp only [List.cons.injEq, and_true] at h1
    exact ⟨none, [], 0, h1, ⟨fun k h => absurd h (Nat.not_lt_zero _)⟩, by simp, fun _ => rfl⟩
  · simp only [List.cons.injEq, and_true] at h1
    have hrl : ∀ r, r < len → ((Z r).take (Ln r)).length = Ln r := fun r hr => by
      obtain ⟨_, q1, _, q2, _⟩ := h6 r (by omega)
      rw [List.length_take]
      omega
    have hbk : ∀ r, r < len → Ln r + 1 ≤ Rows.uptoBulk (Deep.intRow (H := H) .i64 (A r) (Ln r) (Z r)) := fun r hr => by
      obtain ⟨_, q1, _, q2, _, q3, _⟩ := h6 r (by omega)
      have hz := hrl r hr
      cases e : A r with
      | none =>
        have := q3 e
        simp only [Deep.intRow, Rows.uptoBulk]
        omega
      | some a' =>
        have hb := bulk_lits (H := H) ((Z r).take (Ln r))
        simp only [Deep.intRow, Rows.uptoBulk]
        omega
    have k1 := bulk_sum (H := H) (fun r => Deep.intRow .i64 (A r) (Ln r) (Z r)) Ln (List.range len) (fun i hi => hbk i (List.mem_range.1 hi))
    rw [List.length_range] at k1
    refine ⟨some a, (List.range len).map fun r => (Z r).take (Ln r), cap, by simpa using h1, ⟨fun k hk => ?_⟩, ?_, fun e => by cases e⟩
    · have hk' : k < len := by simpa using hk
      have hs := no_spot (h6 0 (by omega)).1
      obtain ⟨q0, q1, q2, q3, q4, q5, q6⟩ := h6 k (by omega)
      have hz := hrl k hk'
      obtain ⟨b, off, spot⟩ := a
      simp only at hs
      subst hs
      rw [Addr.add_lit] at q0
      have eg : ((List.range len).map fun r => (Z r).take (Ln r))[k] = (Z k).take (Ln k) := by simp
      refine ⟨b, off, rfl, lt_of_cell q0, A k, C k, ?_, ⟨fun j hj => ?_⟩⟩
      · rw [eg, hz]; exact q0
      · have hj' : j < Ln k := by rw [eg, hz] at hj; exact hj
        cases e : A k with
        | none => have := q5 e; omega
        | some a' =>
          obtain ⟨_, q7⟩ := q6 a' e
          have hs := no_spot (q7 0 (by omega))
          have h9 := q7 j (by omega)
          obtain ⟨b', off', spot'⟩ := a'
          simp only at hs
          subst hs
          rw [Addr.add_lit] at h9
          refine ⟨b', off', rfl, lt_of_cell h9, ?_⟩
          rw [h9]
          congr 2
          simp only [eg]
          rw [List.getElem_take, List.getD_eq_getElem?_getD, List.getElem?_eq_getElem (by omega)]
          rfl
    · have e : ((List.range len).map fun r => (Z r).take (Ln r)).map List.length = (List.range len).map Ln := by
        rw [List.map_map]
        exact List.map_congr_left (fun r hr => hrl r (List.mem_range.1 hr))
      rw [e, List.length_map, List.length_range, h5]
      simp only [Rows.uptoBulk]
      omega
theorem range_getD : ∀ (l : List Nat), (List.range l.length).map (fun i => l.getD i 0) = l := fun l => by
  refine List.ext_getElem (by simp) (fun i h1 h2 => ?_)
  rw [List.getElem_map, List.getElem_range, List.getD_eq_getElem?_getD, List.getElem?_eq_getElem h2]
  rfl
/-- A slice that is read: the cells of each of its elements; their bulks together. -/
theorem open_rows {H : Type} {enc : TypeId × Value → H} {W : World} {t e : TypeId} {m : Nat} {n : Nat} {c : Value} {x : DataW H × List MemPlace} (ht : Tryd.prog.underlying t = some (.slice e)) (hm : Tryd.prog.cellsOf e = m) (hm0 : 0 < m)
    (h : DataW.trod enc Tryd.prog W 0 (fun _ => true) true n t [c] = some x) :
    c = .slice none 0 0 ∨ ∃ (a : Addr) (len cap k : Nat) (D : Nat → Nat), c = .slice (some a) len cap ∧ ((List.range len).map D).sum ≤ Rows.uptoBulk x.1 ∧ ∀ i, i < len → ∃ (cs : List Value) (y : DataW H × List MemPlace), cs.length = m ∧ a = ⟨a.block, a.off, none⟩ ∧ (∀ j, j < m → W.cell? ⟨a.block, a.off + i * m + j, none⟩ = cs[j]?) ∧ DataW.trod enc Tryd.prog W 0 (fun _ => true) true k e cs = some y ∧ Rows.uptoBulk y.1 = D i := by
  rcases DataW.trod_slice ht h with ⟨h0, _⟩ | ⟨a, len, cap, elems, rest, k, hk, hc, hx, hb, hl, hmx, hlen, hel, _, _⟩
  · simp only [List.cons.injEq, and_true] at h0
    exact .inl h0
  · simp only [List.cons.injEq, and_true] at hc
    rw [hm] at hel
    subst hlen
    have key : ∀ i (hi : i < elems.length), ∃ cs, W.cells? 0 (a.add (i * m)) m = some cs ∧ DataW.trod enc Tryd.prog W 0 (fun _ => true) true k e cs = some elems[i] := fun i hi => by
      have h1 := hel i hi
      rw [List.getElem?_eq_getElem (by omega), Option.bind_eq_some_iff] at h1
      exact h1
    refine .inr ⟨a, elems.length, cap, k, fun i => (elems.map fun y => Rows.uptoBulk y.1).getD i 0, hc, ?_, fun i hi => ?_⟩
    · have e1 := range_getD (elems.map fun y => Rows.uptoBulk y.1)
      rw [List.length_map] at e1
      rw [e1, hx]
      simp only [Rows.uptoBulk]
      rw [bulk_all, List.map_map]
      have e2 : (elems.map fun y => Rows.uptoBulk y.1) = elems.map (Rows.uptoBulk ∘ fun y => y.1) := rfl
      rw [e2]
      omega
    obtain ⟨cs, h1, h2⟩ := key i hi
    obtain ⟨cs0, g1, _⟩ := key 0 (by omega)
    obtain ⟨_, hl0, hc0⟩ := World.cells?_some g1
    have hsp : a.spot = none := by
      have q := hc0 0 (by omega)
      rw [Deep.add_add, List.getElem?_eq_getElem (by omega)] at q
      exact World.cell?_spot (a := a.add 0) (by simpa using q)
    obtain ⟨_, hlc, hcc⟩ := World.cells?_some h1
    obtain ⟨ab, ao, asp⟩ := a
    simp only at hsp
    subst hsp
    refine ⟨cs, elems[i], hlc, rfl, fun j hj => ?_, h2, ?_⟩
    · have q := hcc j hj
      rw [Deep.add_add, WideShapes.add_plain] at q
      rw [Nat.add_assoc]
      exact q
    · show _ = (elems.map fun y => Rows.uptoBulk y.1).getD i 0
      rw [List.getD_eq_getElem?_getD, List.getElem?_map, List.getElem?_eq_getElem hi]
      rfl
/-- One pattern that is read: its six cells, and its bulk. -/
def PatAt (W : World) (b off : Nat) (r : Pr) : Prop := ∃ (aL aF aA aO : Option Addr) (cL cF cA cO : Nat), W.cell? ⟨b, off, none⟩ = some (.slice aL r.Le.length cL) ∧ W.cell? ⟨b, off + 1, none⟩ = some (.slice aF r.Fi.length cF) ∧ W.cell? ⟨b, off + 2, none⟩ = some (.slice aA r.La.length cA) ∧ W.cell? ⟨b, off + 3, none⟩ = some (.slice aO r.Fo.length cO) ∧ W.cell? ⟨b, off + 4, none⟩ = some (.bool r.em) ∧ W.cell? ⟨b, off + 5, none⟩ = some (.bool r.an) ∧ (aL = none → cL = 0) ∧ PosA W aL aF aA aO r.Le r.Fo r.Fi r.La
instance : Inhabited Pr := ⟨⟨[], [], [], [], false, false⟩⟩
def blkP (r : Pr) : Nat := ((r.Le.map List.length).sum + r.Le.length) + ((r.Fo.map List.length).sum + r.Fo.length) + 1
theorem le_sum {l : List Nat} {x : Nat} (h : x ∈ l) : x ≤ l.sum := by
  induction l with
  | nil => cases h
  | cons y r ih =>
    rw [List.sum_cons]
    rcases List.mem_cons.1 h with rfl | h
    · omega
    · have := ih h; omega
set_option maxRecDepth 100000 in
/-- Patterns that are read. -/
theorem open_pats {H : Type} {enc : TypeId × Value → H} {W : World} {n : Nat} {c : Value} {x : DataW H × List MemPlace} (h : DataW.trod enc Tryd.prog W 0 (fun _ => true) true n 22 [c] = some x) (hbk : Rows.uptoBulk x.1 ≤ 1048576) :
    ∃ (a : Option Addr) (rs : List Pr) (cap : Nat), c = .slice a rs.length cap ∧ PaI W a rs ∧ (rs.map blkP).sum ≤ 1048576 ∧ (a = none → cap = 0) := by
  rcases open_rows Tryd.underlying22 cellsPat (by omega) h with rfl | ⟨a, len, cap, k, D, rfl, hb, hx⟩
  · exact ⟨none, [], 0, rfl, ⟨fun k h => absurd h (Nat.not_lt_zero _)⟩, by simp, fun _ => rfl⟩
  · have hD : ∀ i, i < len → D i ≤ 1048576 := fun i hi => by
      have := le_sum (List.mem_map_of_mem (f := D) (List.mem_range.2 hi))
      omega
    obtain ⟨T, hT⟩ := Deep.choose_lt (n := len) (p := fun i (z : Pr) => a = ⟨a.block, a.off, none⟩ ∧ PatAt W a.block (a.off + i * 6) z ∧ blkP z ≤ D i) (fun i hi => by
      obtain ⟨cs, y, h1, h2, h3, h4, h5⟩ := hx i hi
      have hDi := hD i hi
      obtain ⟨ss, k2, _, hxs, _, hxl, hfs⟩ := DataW.trod_struct Tryd.underlying48 h4
      match cs, h1 with
      | [v0, v1, v2, v3, v4, v5], _ =>
        obtain ⟨y0, y1, rfl⟩ : ∃ y0 y1, ss = [y0, y1] := by
          match ss, hxl with
          | [y0, y1], _ => exact ⟨y0, y1, rfl⟩
        have f0 := hfs 0 _ rfl
        have f1 := hfs 1 _ rfl
        have g0 : DataW.trod enc Tryd.prog W 0 (fun _ => true) true k2 46 [v0, v1, v2, v3, v4] = some y0 := by simpa [cellsPos] using f0
        have g1 : DataW.trod enc Tryd.prog W 0 (fun _ => true) true k2 4 [v5] = some y1 := by simpa [cellsBool] using f1
        obtain ⟨zs, n2, _, hx2, _, hzl, hgs⟩ := DataW.trod_struct Tryd.underlying46 g0
        obtain ⟨z0, z1, z2, z3, z4, rfl⟩ : ∃ z0 z1 z2 z3 z4, zs = [z0, z1, z2, z3, z4] := by
          match zs, hzl with
          | [z0, z1, z2, z3, z4], _ => exact ⟨z0, z1, z2, z3, z4, rfl⟩
        have e0 := hgs 0 _ rfl
        have e1 := hgs 1 _ rfl
        have e2 := hgs 2 _ rfl
        have e3 := hgs 3 _ rfl
        have e4 := hgs 4 _ rfl
        have k0 : DataW.trod enc Tryd.prog W 0 (fun _ => true) true n2 26 [v0] = some z0 := by simpa [cellsRows] using e0
        have k1 : DataW.trod enc Tryd.prog W 0 (fun _ => true) true n2 34 [v1] = some z1 := by simpa [cellsRows, cellsInts] using e1
        have k2' : DataW.trod enc Tryd.prog W 0 (fun _ => true) true n2 34 [v2] = some z2 := by simpa [cellsRows, cellsInts] using e2
        have k3 : DataW.trod enc Tryd.prog W 0 (fun _ => true) true n2 26 [v3] = some z3 := by simpa [cellsRows, cellsInts] using e3
        have k4 : DataW.trod enc Tryd.prog W 0 (fun _ => true) true n2 4 [v4] = some z4 := by simpa [cellsRows, cellsInts, cellsBool] using e4
        obtain ⟨em, q4, _⟩ := DataW.trod_bool Tryd.underlying4 k4
        obtain ⟨an, q5, _⟩ := DataW.trod_bool Tryd.underlying4 g1
        simp only [List.cons.injEq, and_true] at q4 q5
        subst q4 q5
        obtain ⟨aL, Le, cL, rfl, rL, bL, nL⟩ := open_rowsI k0
        obtain ⟨aF, Fi, cF, rfl, iF, bF, _⟩ := open_points k1
        obtain ⟨aA, La, cA, rfl, iA, bA, _⟩ := open_points k2'
        obtain ⟨aO, Fo, cO, rfl, rO, bO, _⟩ := open_rowsI k3
        have hd0 : Rows.uptoBulk y0.1 = Rows.uptoBulk z0.1 + Rows.uptoBulk z1.1 + Rows.uptoBulk z2.1 + Rows.uptoBulk z3.1 + Rows.uptoBulk z4.1 + 1 := by
          have := congrArg Prod.fst hx2
          simp only at this
          rw [this]
          simp only [Rows.uptoBulk, Rows.uptoBulkAll, List.map_cons, List.map_nil]
          omega
        have hd1 : Rows.uptoBulk y.1 = Rows.uptoBulk y0.1 + Rows.uptoBulk y1.1 + 1 := by
          have := congrArg Prod.fst hxs
          simp only at this
          rw [this]
          simp only [Rows.uptoBulk, Rows.uptoBulkAll, List.map_cons, List.map_nil]
          omega
        have hbe := bulk_one z4.1
        have rl : ∀ r ∈ Le, r.length ≤ 4000000 := fun r hr => by
          have := le_sum (List.mem_map_of_mem (f := List.length) hr)
          omega
        have rf : ∀ r ∈ Fo, r.length ≤ 4000000 := fun r hr => by
          have := le_sum (List.mem_map_of_mem (f := List.length) hr)
          omega
        have l1 : Le.length ≤ 4000000 := by omega
        have l2 : Fi.length ≤ 4000000 := by omega
        have l3 : La.length ≤ 4000000 := by omega
        have l4 : Fo.length ≤ 4000000 := by omega
        refine ⟨⟨Le, Fi, La, Fo, em, an⟩, h2, ⟨aL, aF, aA, aO, cL, cF, cA, cO, h3 0 (by omega), h3 1 (by omega), h3 2 (by omega), h3 3 (by omega), h3 4 (by omega), h3 5 (by omega), nL, rL, iF, iA, rO, l1, l2, l3, l4, rl, rf⟩, ?_⟩
        unfold blkP
        simp only
        omega)
    have hlen : ((List.range len).map T).length = len := by simp
    refine ⟨some a, (List.range len).map T, cap, by rw [hlen], ⟨fun k hk => ?_⟩, ?_, fun e => by cases e⟩
    · rw [hlen] at hk
      have et : ((List.range len).map T)[k]'(by rw [hlen]; exact hk) = T k := by simp
      obtain ⟨p1, p2, _⟩ := hT k hk
      obtain ⟨aL, aF, aA, aO, cL, cF, cA, cO, y0, y1, y2, y3, y4, y5, y6, y7⟩ := p2
      rw [et]
      exact ⟨a.block, a.off, by rw [← p1], lt_of_cell y0, aL, aF, aA, aO, cL, cF, cA, cO, y0, y1, y2, y3, y4, y5, y6, y7⟩
    · rw [List.map_map]
      have : ∀ (l : List Nat), (∀ i ∈ l, i < len) → (l.map (blkP ∘ T)).sum ≤ (l.map D).sum := by
        intro l
        induction l with
        | nil => intro _; simp
        | cons x r ih =>
          intro hl
          rw [List.map_cons, List.map_cons, List.sum_cons, List.sum_cons]
          have h1 := (hT x (hl x List.mem_cons_self)).2.2
          have h2 := ih (fun i hi => hl i (List.mem_cons_of_mem _ hi))
          simp only [Function.comp_apply]
          omega
      have := this (List.range len) (fun i hi => List.mem_range.1 hi)
      omega
theorem sum_le_of {α : Type} (f g : α → Nat) : ∀ (l : List α), (∀ x ∈ l, f x ≤ g x) → (l.map f).sum ≤ (l.map g).sum
  | [], _ => by simp
  | x :: r, h => by
    rw [List.map_cons, List.map_cons, List.sum_cons, List.sum_cons]
    have h1 := h x List.mem_cons_self
    have h2 := sum_le_of f g r (fun y hy => h y (List.mem_cons_of_mem _ hy))
    omega
theorem sum_tN (L : List (List Int)) : ((L.map tN).map List.length).sum = (L.map List.length).sum := by
  rw [List.map_map]
  congr 1
  exact List.map_congr_left (fun l _ => tN_len l)
theorem prB_of {rs : List Pr} (h : (rs.map blkP).sum ≤ 1048576) : PrB rs := by
  have h1 : rs.length ≤ (rs.map blkP).sum := by
    have := sum_le_of (fun _ => 1) blkP rs (fun r _ => by unfold blkP; omega)
    rw [List.map_const', List.sum_replicate_nat] at this
    omega
  have e : (rs.map toPt).take (rs.map toPt).length = rs.map toPt := List.take_length
  refine ⟨by omega, ?_, ?_, ?_⟩
  · unfold plN
    rw [e, List.map_map]
    have := sum_le_of ((fun p : Pt => p.le.length) ∘ toPt) blkP rs (fun r _ => by
      show (r.Le.map tN).length ≤ _
      rw [List.length_map]
      unfold blkP
      omega)
    omega
  · unfold foN
    rw [e, List.map_map]
    have := sum_le_of ((fun p : Pt => (p.fo.map List.length).sum) ∘ toPt) blkP rs (fun r _ => by
      show ((r.Fo.map tN).map List.length).sum ≤ _
      rw [sum_tN]
      unfold blkP
      omega)
    omega
  · unfold leN
    rw [e, List.map_map]
    have := sum_le_of ((fun p : Pt => (p.le.map List.length).sum) ∘ toPt) blkP rs (fun r _ => by
      show ((r.Le.map tN).map List.length).sum ≤ _
      rw [sum_tN]
      unfold blkP
      omega)
    omega
theorem laid_tail {W : World} {x : String × DataW Unit} {rest : List (String × DataW Unit)} (h : laidMet Tryd.prog (x :: rest) W) : laidMet Tryd.prog rest W := by
  obtain ⟨ps, ⟨g, t, cs, fuel, p, q, _, _, _, _, hl, rfl⟩, hnd, hrows⟩ := h
  exact ⟨q, hl, (List.nodup_append.1 hnd).2.1, fun b off hb => hrows b off (List.mem_append_right _ hb)⟩
theorem g_tab : Tryd.prog.globalNamed "math/bits.deBruijn64tab" = some 11 := by kernel_rfl
theorem g_tabType : (Tryd.prog.globals[11]?).map (·.type) = some 156 := by kernel_rfl
theorem cellsTab64 : Tryd.prog.cellsOf 156 = 64 := by kernel_rfl
theorem cellsU8 : Tryd.prog.cellsOf 5 = 1 := by kernel_rfl
theorem tab_of {W : World} {rest : List (String × DataW Unit)} (h : laidMet Tryd.prog (("math/bits.deBruijn64tab", Rows.laid_math_bits_deBruijn64tab) :: rest) W) : TabAt 11 Lib.deBruijn64tab W ∧ 11 < W.heap.size := by
  have ht : Lib.TabIs Tryd.prog W "math/bits.deBruijn64tab" .u8 (Lib.deBruijn64tab.map Int.ofNat) :=
    Lib.tabIs_of_head (rest := rest) g_tab g_tabType Tryd.underlying156 Tryd.underlying5 cellsU8 cellsTab64 h
  have hc : TabAt 11 Lib.deBruijn64tab W := fun j hj => by
    have h1 := ht.cell g_tab j (by rw [List.length_map]; exact hj)
    rw [h1, List.getD_eq_getElem?_getD, List.getD_eq_getElem?_getD, List.getElem?_map, List.getElem?_eq_getElem hj]
    rfl
  exact ⟨hc, lt_of_cell (hc 0 (by decide))⟩
theorem cellsJob : Tryd.prog.cellsOf 24 = 3 := by kernel_rfl
set_option maxRecDepth 100000 in
/-- Patterns, symbols, states: as they are read. -/
theorem open_job {H : Type} {enc : TypeId × Value → H} {W : World} {base : Nat} {v : Value} {d : DataW H} {p : List MemPlace} (hv : Value.okWide Tryd.prog W .any base 24 v)
    (h0 : DataW.Trod enc Tryd.prog W 0 (fun _ => true) true 24 v d p) (hk : Rows.uptoBulk d ≤ 1048576) :
    ∃ (aP : Option Addr) (rs : List Pr) (cP : Nat) (sy most : Int), v = .agg #[.slice aP rs.length cP, .int .i64 sy, .int .i64 most] ∧ PaI W aP rs ∧ PrB rs ∧ (-9223372036854775808 ≤ sy ∧ sy ≤ 9223372036854775807) ∧ (-9223372036854775808 ≤ most ∧ most ≤ 9223372036854775807) ∧ (rs.map blkP).sum ≤ 1048576 ∧ (aP = none → cP = 0) := by
  obtain ⟨fuel, hf⟩ := h0
  have hcs : ∃ cs, v = .agg cs := by
    simp only [Value.okWide, Tryd.underlying24] at hv
    obtain ⟨cs, h1, _⟩ := hv
    exact ⟨cs, h1⟩
  obtain ⟨cs, rfl⟩ := hcs
  obtain ⟨xs, n, _, hx, hlen, hxl, hfs⟩ := DataW.trod_struct Tryd.underlying24 hf
  rw [cellsJob] at hlen
  obtain ⟨l⟩ := cs
  match l, hlen with
  | [c0, c1, c2], _ =>
    obtain ⟨y0, y1, y2, rfl⟩ : ∃ y0 y1 y2, xs = [y0, y1, y2] := by
      match xs, hxl with
      | [y0, y1, y2], _ => exact ⟨y0, y1, y2, rfl⟩
    have f0 := hfs 0 _ rfl
    have f1 := hfs 1 _ rfl
    have f2 := hfs 2 _ rfl
    have g0 : DataW.trod enc Tryd.prog W 0 (fun _ => true) true n 22 [c0] = some y0 := by simpa [Value.cells, cellsPats] using f0
    have g1 : DataW.trod enc Tryd.prog W 0 (fun _ => true) true n 3 [c1] = some y1 := by simpa [Value.cells, cellsPats, cellsInt] using f1
    have g2 : DataW.trod enc Tryd.prog W 0 (fun _ => true) true n 3 [c2] = some y2 := by simpa [Value.cells, cellsPats, cellsInt] using f2
    have hd : Rows.uptoBulk d = Rows.uptoBulk y0.1 + Rows.uptoBulk y1.1 + Rows.uptoBulk y2.1 + 1 := by
      have := congrArg Prod.fst hx
      simp only at this
      rw [this]
      simp [Rows.uptoBulk, Rows.uptoBulkAll]
      omega
    obtain ⟨sy, q1, _, w1⟩ := DataW.trod_int Tryd.underlying3 g1
    obtain ⟨most, q2, _, w2⟩ := DataW.trod_int Tryd.underlying3 g2
    simp only [List.cons.injEq, and_true] at q1 q2
    subst q1 q2
    obtain ⟨aP, rs, cP, rfl, hp, hb, hn⟩ := open_pats g0 (by omega)
    exact ⟨aP, rs, cP, sy, most, rfl, hp, prB_of hb, bounds_i64 w1, bounds_i64 w2, hb, hn⟩
end Go.Proofs.YtbbejfkgopcjoaaDoor
namespace Go.Proofs.YtbbejfkgopcjoaaDoor
open Go.ChangeShapes Go.WideShapes Go.ChangeAt Go.RowKit Go.Joins
theorem blk_shp {rs rs' : List Pr} (h : ShpL rs rs') : rs'.map blkP = rs.map blkP := by
  refine List.ext_getElem (by rw [List.length_map, List.length_map, h.len]) (fun i q1 q2 => ?_)
  rw [List.getElem_map, List.getElem_map]
  have hi : i < rs.length := by rw [List.length_map] at q2; exact q2
  have s := h.at' i hi
  unfold blkP
  rw [s.le, s.fo, len_of_map s.le, len_of_map s.fo]
theorem envA_of {W : World} (hL : laidMet Tryd.prog (("math/bits.deBruijn64tab", Rows.laid_math_bits_deBruijn64tab) :: (sentList.map sentRow ++ [])) W) : ∃ A, EnvA W A := by
  obtain ⟨t1, t2⟩ := tab_of (rest := sentList.map sentRow ++ []) hL
  obtain ⟨A, hA⟩ := sents_of (rest := []) (laid_tail hL)
  exact ⟨A, hA, t1, t2⟩
set_option maxRecDepth 100000 in
theorem machineBuilds_walk {H : Type} (enc : TypeId × Value → H) (W : World) (base : Nat) (hL : laidMetH Tryd.prog Rows.machineBuildsUptoRow.laid W) (v : Value) (d : DataW H) (p : List MemPlace) (hv : Value.okWide Tryd.prog W .any base 24 v)
    (h0 : DataW.Trod enc Tryd.prog W 0 (fun _ => true) true 24 v d p) (_hlt : ∀ x ∈ p, x.block < W.heap.size) (_hw : ∀ x ∈ d.weights Tryd.prog 24, x ≤ reachBytes) (hk : Rows.uptoSmall H ([d] ++ []) = true) :
    Calls Tryd.prog 7 #[v] W fun e W' => e = .returned (.bool true) ∧ Below W.heap.size W W' := by
  have hs := of_decide_eq_true hk
  simp only [List.append_nil, Rows.uptoBulkAll] at hs
  obtain ⟨A, hA⟩ := envA_of hL
  obtain ⟨aP, rs, cP, sy, most, rfl, hp, hb, hy, hm, hbk, _⟩ := open_job hv h0 (by omega)
  exact machineBuilds_any A rs sy most aP cP W hp hA ⟨hb, hy.2, hy.1, hm.2, hm.1⟩ (fun rs' hsh => prB_of (by rw [blk_shp hsh]; exact hbk))
set_option maxRecDepth 100000 in
theorem machineBuilds_lifted (os : Os) (started : os.Started) (H : Type) (enc : TypeId × Value → H) (F : Stop.Interp) :
    ReturnsInHanded {} Tryd.checked os 7 .any ((Rows.OpenSpec.upto Rows.machineBuildsSpec).preRow enc Tryd.prog Tryd.f7 Rows.machineBuildsUptoRow.domain false Rows.machineBuildsUptoRow.laid) (((Rows.OpenSpec.upto Rows.machineBuildsSpec).at F).post enc Tryd.prog Tryd.f7 false true false false) := by
  refine returnsInHanded_of_row (C := Tryd.checked) (s := Rows.OpenSpec.upto Rows.machineBuildsSpec) own started (by kernel_rfl) Tryd.func7
    (witness_row_shaped (enc := enc) (C := Tryd.checked) (World.laidAll Tryd.prog os Rows.machineBuildsUptoRow.laid) #[.agg #[.slice none 0 0, .int .i64 0, .int .i64 0]] (World.laidAll_os _ _ _) (World.shaped_of_ZipB (by kernel_rfl) (by kernel_rfl)) (by kernel_rfl)
      (OpenSpec.preRow_of_cond 8 (x := ([.agg [.nil, .lit (.int .i64 0), .lit (.int .i64 0)]], [], [])) (by kernel_rfl) (by kernel_rfl) (fun k hk => by cases hk; kernel_rfl) (by kernel_rfl) (laidMet_laidAll _ (by kernel_rfl) (by kernel_rfl)))) ?_
  intro W base args ds gs before hval hW _ hcond hsz hL _ _
  exact law_contract rfl rfl rfl (fun _ _ => rfl) (by kernel_rfl) (of_decide_eq_true (by kernel_rfl)) W base args ds gs before hval hW hsz (fun v d p hv h0 hlt hw e1 e2 => machineBuilds_walk enc W base hL v d p hv h0 hlt hw (by have := hcond _ rfl; rw [e1, e2] at this; exact this))
theorem machineBuilds_said : Rows.MachineBuildsUptoSaid :=
  OpenClaim.holds_of_cond 7 Tryd.f7 rfl rfl rfl rfl rfl rfl rfl ⟨rfl, rfl, rfl, rfl, rfl⟩ rfl rfl rfl rfl rfl (by kernel_rfl) Tryd.func7 (by kernel_rfl)
    (of_decide_eq_true (by kernel_rfl)) (by unfold Func.isWrapper; first | (rw [if_pos (by decide +kernel)]; kernel_rfl) | (rw [if_neg (by decide +kernel)]; exact ⟨rfl, rfl⟩))
    (fun os started H enc _ F => by rw [OpenClaim.pre_eq_preRow]; exact machineBuilds_lifted os started H enc F)
theorem machineBuilds_plain (f : FuncId) (fn : Func) (hf : Tryd.pinned.checked.prog.funcNamed "caesura/caesuralaw12.MachineBuilds" = some f) (hfn : Tryd.pinned.checked.prog.funcs[f]? = some fn) :
    true = Tryd.pinned.checked.prog.looks [] ∧ ∀ (j : Nat) t, fn.params[j]? = some t → Tryd.pinned.checked.prog.wantsStandIn t = false := by
  obtain rfl : f = 7 := Option.some.inj ((show Tryd.prog.funcNamed "caesura/caesuralaw12.MachineBuilds" = some 7 by kernel_rfl).symm.trans hf) |>.symm
  obtain rfl : fn = Tryd.f7 := (Option.some.inj (Tryd.func7.symm.trans hfn)).symm
  refine ⟨by kernel_rfl, fun j t ht => ?_⟩
  rw [Tryd.params7] at ht
  obtain rfl : t = 24 := by simpa using Array.mem_of_getElem? ht
  exact (show Tryd.prog.wantsStandIn 24 = false by kernel_rfl)
theorem machineBuilds_card : Rows.MachineBuildsUptoCardSaid :=
  Claim7.holds_tied_plain_at .later [] _ _ _ _ machineBuilds_said (fun _ h => by cases h) (by kernel_rfl) (fun _ h => by cases h) machineBuildsUpto_row_tie rfl ⟨rfl, rfl⟩ (by kernel_rfl) rfl machineBuilds_plain (by kernel_rfl)
end Go.Proofs.YtbbejfkgopcjoaaDoor
