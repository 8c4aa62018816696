/-
  From a row's list to the refusal in memory; numbers that are read.
-/
import Derived.Test.YtlmbbohhdgeedaaDoorEncodeW
import Derived.Test.YtlmbbohhdgeedaaDoorLaidQ
import Derived.ChangeSlices
namespace Go.Proofs.YtlmbbohhdgeedaaDoor
open Go.ChangeShapes Go.WideShapes Go.ChangeAt Go.RowKit Go.Joins
theorem star : ("*" ++ "errors.errorString" : String) = "*errors.errorString" := by decide
theorem errRow (u : TypeId) (h : Tryd.prog.typeName? 3 u = some "*errors.errorString") : u = 107 :=
  typeName_ptr_named (nm := "errors.errorString") (by rw [star]; kernel_rfl) (by kernel_rfl) (by decide) u (by rw [star]; exact h)
theorem cellsErr : Tryd.prog.cellsOf 124 = 1 := by kernel_rfl
theorem cellsStr : Tryd.prog.cellsOf 9 = 1 := by kernel_rfl
theorem cellsInt : Tryd.prog.cellsOf 3 = 1 := by kernel_rfl
theorem gArg : Tryd.prog.globalNamed "caesura/api.ErrArg" = some 0 := by kernel_rfl
theorem gArgT : (Tryd.prog.globals[0]?).map (·.type) = some 30 := by kernel_rfl
theorem err_of {W : World} {n : String} {g : Nat} {text : List UInt8} {r : List (String × DataW Unit)} (h : laidMet Tryd.prog ((n, .iface "*errors.errorString" (.ptr (.agg [.lit (.string text)]))) :: r) W)
    (hg : Tryd.prog.globalNamed n = some g) (ht : (Tryd.prog.globals[g]?).map (·.type) = some 30) : ∃ a : Addr, W.cell? ⟨g, 0, none⟩ = some (.iface 107 (.pointer (some a))) := by
  obtain ⟨a, s, hv, _, _, _⟩ := laid_sentinel h hg ht Tryd.underlying30 errRow Tryd.underlying107 Tryd.underlying124 rfl rfl Tryd.underlying9 cellsErr cellsStr
  exact ⟨a, by simpa using World.var?_cell hg hv 0⟩
theorem bulk_lits {H : Type} (zs : List Int) : zs.length ≤ Rows.uptoBulkAll (H := H) (lits .i64 zs) := by
  induction zs with
  | nil => simp [lits]
  | cons z zs ih =>
    have e : (lits (H := H) .i64 (z :: zs)) = .lit (.int .i64 z) :: lits .i64 zs := rfl
    rw [e, Rows.uptoBulkAll, List.length_cons]
    have h1 : 1 ≤ Rows.uptoBulk (H := H) (.lit (.int .i64 z)) := by simp [Rows.uptoBulk]
    omega
set_option maxRecDepth 100000 in
/-- A slice of numbers that is read. -/
theorem open_nums {H : Type} {enc : TypeId × Value → H} {W : World} {base : Nat} {v : Value} {d : DataW H} {p : List MemPlace} (hv : Value.okWide Tryd.prog W .any base 39 v) (h0 : DataW.Trod enc Tryd.prog W 0 (fun _ => true) true 39 v d p) (hk : Rows.uptoSmall H ([d] ++ []) = true) :
    ∃ (a : Option Addr) (ps : List Int) (cap : Nat), v = .slice a ps.length cap ∧ PA W a ps ∧ ps.length ≤ 1048576 := by
  obtain ⟨a0, len0, cap0, rfl⟩ := okWide_slice Tryd.underlying39 hv
  obtain ⟨fuel, hf⟩ := h0
  have hs := of_decide_eq_true hk
  rcases open_ints Tryd.underlying39 Tryd.underlying3 cellsInt hf with ⟨h1, h2⟩ | ⟨a, len, cap, zs, h1, h2, h3, h4, h5, h6, h7, h8⟩
  · simp [Value.cells] at h1
    obtain ⟨rfl, rfl, rfl⟩ := h1
    exact ⟨none, [], 0, rfl, ⟨fun k h => absurd h (Nat.not_lt_zero _)⟩, by simp⟩
  · simp [Value.cells] at h1
    obtain ⟨rfl, rfl, rfl⟩ := h1
    simp only [if_true] at h5
    simp only [Prod.mk.injEq] at h6
    obtain ⟨rfl, _⟩ := h6
    have hl : (zs.take len0).length = len0 := by rw [List.length_take]; omega
    have hb := bulk_lits (H := H) (zs.take len0)
    simp only [List.append_nil, Rows.uptoBulkAll, Rows.uptoBulk] at hs
    refine ⟨some a, zs.take len0, cap0, by rw [hl], ⟨fun k hk' => ?_⟩, by omega⟩
    rw [hl] at hk'
    have h9 := h7 k (by omega)
    obtain ⟨b, off, spot⟩ := a
    cases spot with
    | some sp =>
      exfalso
      have h10 := h7 0 (by omega)
      rw [show (⟨b, off, some sp⟩ : Addr).add 0 = ⟨b, off, some sp⟩ from rfl] at h10
      unfold World.cell? at h10
      split at h10 <;> simp at h10
    | none =>
      refine ⟨b, off, rfl, ?_⟩
      rw [Addr.add_lit] at h9
      rw [h9]
      congr 2
      rw [List.getElem_take, List.getD_eq_getElem?_getD, List.getElem?_eq_getElem (by omega)]
      rfl
end Go.Proofs.YtlmbbohhdgeedaaDoor
