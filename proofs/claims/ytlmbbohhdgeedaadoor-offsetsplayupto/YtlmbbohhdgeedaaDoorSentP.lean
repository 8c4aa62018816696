/-
  From a row's list to the eleven refusals in memory.
-/
import Derived.Test.YtlmbbohhdgeedaaDoorSentW
import Derived.Test.YtlmbbohhdgeedaaDoorDoor
import Derived.Stop.LaidErr
namespace Go.Proofs.YtlmbbohhdgeedaaDoor
open Go.ChangeShapes Go.WideShapes Go.ChangeAt Go.RowKit
theorem star : ("*" ++ "errors.errorString" : String) = "*errors.errorString" := by decide
theorem errRow (u : TypeId) (h : Tryd.prog.typeName? 3 u = some "*errors.errorString") : u = 107 :=
  typeName_ptr_named (nm := "errors.errorString") (by rw [star]; kernel_rfl) (by kernel_rfl) (by decide) u (by rw [star]; exact h)
theorem cellsErr : Tryd.prog.cellsOf 124 = 1 := by kernel_rfl
theorem cellsStr : Tryd.prog.cellsOf 9 = 1 := by kernel_rfl
/-- A listed refusal. -/
def sentRow (x : String × List UInt8) : String × DataW Unit := (x.1, .iface "*errors.errorString" (.ptr (.agg [.lit (.string x.2)])))
set_option maxRecDepth 10000 in
theorem sents_list {W : World} (rest : List (String × DataW Unit)) : ∀ (L : List (String × List UInt8)) (ps : List MemPlace),
    DataW.LaidVars Tryd.prog W (L.map sentRow ++ rest) ps → ps.Nodup →
    (∀ b off, MemPlace.cell b off ∈ ps → (∃ c t, W.heap[b]? = some (.cells c t (0, 0))) ∧ ∀ u v, W.cell? ⟨b, off, none⟩ = some (.iface u v) → Value.okWide Tryd.prog W .any 0 u v) →
    (∀ x ∈ L, ∀ g t, Tryd.prog.globalNamed x.1 = some g → (Tryd.prog.globals[g]?).map (·.type) = some t → t = 30) →
    ∃ xs : List Addr, xs.length = L.length ∧ xs.Nodup ∧ (∀ a ∈ xs, MemPlace.cell a.block a.off ∈ ps ∧ ∃ c t, W.heap[a.block]? = some (.cells c t (0, 0))) ∧
      ∀ i (h : i < L.length) g, Tryd.prog.globalNamed (L[i]).1 = some g → W.cell? ⟨g, 0, none⟩ = some (.iface 107 (.pointer (some (xs.getD i ⟨0, 0, none⟩)))) := by
  intro L
  induction L with
  | nil => intro ps _ _ _ _; exact ⟨[], rfl, List.nodup_nil, (fun a h => by cases h), fun i h => absurd h (Nat.not_lt_zero _)⟩
  | cons x L ih =>
    intro ps hl hnd hrows hty
    obtain ⟨g0, t0, cs0, f0, p0, q0, hg0, ht0, hv0, hd0, hl', rfl⟩ := hl
    obtain rfl := hty x List.mem_cons_self g0 t0 hg0 ht0
    obtain ⟨l0⟩ := cs0
    have ok0 : ∀ u v, l0 = [.iface u v] → Value.okWide Tryd.prog W .any 0 u v := fun u v e => by
      subst e
      exact (hrows g0 0 (by simp [MemPlace.row])).2 u v (by simpa using World.var?_cell hg0 hv0 0)
    obtain ⟨a, s, rfl, _, _, _, rfl⟩ := errorString_of_trod Tryd.underlying30 errRow Tryd.underlying107 Tryd.underlying124 rfl rfl Tryd.underlying9 cellsErr cellsStr hd0 ok0
    have hnd1 := List.nodup_append.1 hnd
    obtain ⟨xs, h1, h2, h3, h4⟩ := ih q0 hl' hnd1.2.1 (fun b off hb => hrows b off (List.mem_append_right _ hb)) (fun y hy => hty y (List.mem_cons_of_mem _ hy))
    have hmem : MemPlace.cell a.block a.off ∈ MemPlace.row ⟨g0, 0, none⟩ (#[Value.iface 107 (.pointer (some a))] : Array Value).size ++ MemPlace.row a 1 := by simp [MemPlace.row]
    refine ⟨a :: xs, by simp [h1], List.nodup_cons.2 ⟨fun hin => ?_, h2⟩, fun b hb => ?_, fun i hi g hg => ?_⟩
    · exact (hnd1.2.2 _ hmem _ (h3 a hin).1) rfl
    · rcases List.mem_cons.1 hb with rfl | hb
      · exact ⟨List.mem_append_left _ hmem, (hrows _ _ (List.mem_append_left _ hmem)).1⟩
      · exact ⟨List.mem_append_right _ (h3 b hb).1, (h3 b hb).2⟩
    · cases i with
      | zero =>
        have e : g = g0 := Option.some.inj (hg.symm.trans hg0)
        subst e
        simpa using World.var?_cell hg0 hv0 0
      | succ i => exact h4 i (by simpa using hi) g hg
/-- The text of a listed refusal. -/
def sentText : DataW Unit → List UInt8
  | .iface _ (.ptr (.agg [.lit (.string s)])) => s
  | _ => []
def sentList : List (String × List UInt8) := [("caesura/api.ErrArg", sentText Rows.laid_caesura_api_ErrArg), ("caesura/api.ErrText", sentText Rows.laid_caesura_api_ErrText), ("caesura/api.ErrMany", sentText Rows.laid_caesura_api_ErrMany), ("caesura/api.ErrShort", sentText Rows.laid_caesura_api_ErrShort), ("caesura/api.ErrTwice", sentText Rows.laid_caesura_api_ErrTwice), ("caesura/api.ErrLost", sentText Rows.laid_caesura_api_ErrLost), ("caesura/api.ErrOrder", sentText Rows.laid_caesura_api_ErrOrder), ("caesura/api.ErrCycle", sentText Rows.laid_caesura_api_ErrCycle), ("caesura/api.ErrSum", sentText Rows.laid_caesura_api_ErrSum), ("caesura/api.ErrForm", sentText Rows.laid_caesura_api_ErrForm), ("caesura/api.ErrEnd", sentText Rows.laid_caesura_api_ErrEnd)]
theorem sentTypes : ∀ x ∈ sentList, ∀ g t, Tryd.prog.globalNamed x.1 = some g → (Tryd.prog.globals[g]?).map (·.type) = some t → t = 30 := by
  have h : (sentList.all fun x => match Tryd.prog.globalNamed x.1 with | some g => (Tryd.prog.globals[g]?).map (·.type) == some 30 | none => true) = true := by kernel_rfl
  intro x hx g t hg ht
  have := List.all_eq_true.1 h x hx
  rw [hg] at this
  simp only [ht] at this
  simpa using this
theorem g_ErrArg : Tryd.prog.globalNamed "caesura/api.ErrArg" = some 0 := by kernel_rfl
theorem g_ErrText : Tryd.prog.globalNamed "caesura/api.ErrText" = some 1 := by kernel_rfl
theorem g_ErrMany : Tryd.prog.globalNamed "caesura/api.ErrMany" = some 2 := by kernel_rfl
theorem g_ErrShort : Tryd.prog.globalNamed "caesura/api.ErrShort" = some 3 := by kernel_rfl
theorem g_ErrTwice : Tryd.prog.globalNamed "caesura/api.ErrTwice" = some 4 := by kernel_rfl
theorem g_ErrLost : Tryd.prog.globalNamed "caesura/api.ErrLost" = some 6 := by kernel_rfl
theorem g_ErrOrder : Tryd.prog.globalNamed "caesura/api.ErrOrder" = some 5 := by kernel_rfl
theorem g_ErrCycle : Tryd.prog.globalNamed "caesura/api.ErrCycle" = some 7 := by kernel_rfl
theorem g_ErrSum : Tryd.prog.globalNamed "caesura/api.ErrSum" = some 8 := by kernel_rfl
theorem g_ErrForm : Tryd.prog.globalNamed "caesura/api.ErrForm" = some 9 := by kernel_rfl
theorem g_ErrEnd : Tryd.prog.globalNamed "caesura/api.ErrEnd" = some 10 := by kernel_rfl
theorem sents_of {W : World} {rest : List (String × DataW Unit)} (h : laidMet Tryd.prog (sentList.map sentRow ++ rest) W) : ∃ A, Sents W A := by
  obtain ⟨ps, hl, hnd, hrows⟩ := h
  obtain ⟨xs, h1, h2, h3, h4⟩ := sents_list rest sentList ps hl hnd hrows sentTypes
  have h11 : xs.length = 11 := h1
  refine ⟨fun i => xs.getD i ⟨0, 0, none⟩, h4 0 (by decide) _ g_ErrArg, h4 1 (by decide) _ g_ErrText, h4 2 (by decide) _ g_ErrMany, h4 3 (by decide) _ g_ErrShort, h4 4 (by decide) _ g_ErrTwice, h4 5 (by decide) _ g_ErrLost, h4 6 (by decide) _ g_ErrOrder, h4 7 (by decide) _ g_ErrCycle, h4 8 (by decide) _ g_ErrSum, h4 9 (by decide) _ g_ErrForm, h4 10 (by decide) _ g_ErrEnd, fun i j hi hj hij e => ?_, fun i hi => ?_⟩
  · have hi' : i < xs.length := by omega
    have hj' : j < xs.length := by omega
    simp only [List.getD_eq_getElem?_getD, List.getElem?_eq_getElem hi', List.getElem?_eq_getElem hj', Option.getD_some] at e
    exact hij ((List.getElem_inj h2).1 e)
  · have hi' : i < xs.length := by omega
    simp only [List.getD_eq_getElem?_getD, List.getElem?_eq_getElem hi', Option.getD_some]
    exact (h3 _ (List.getElem_mem hi')).2
end Go.Proofs.YtlmbbohhdgeedaaDoor
