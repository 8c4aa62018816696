/-
  What is asked, read: the points; the five refusals in memory.
-/
import Derived.Test.YtpimameogmkpcaaDoorPbSpW
import Derived.Test.YtpimameogmkpcaaDoorSentP
import Derived.ChangeSlices
import Derived.Deep.Slices
namespace Go.Proofs.YtpimameogmkpcaaDoor
open Go.ChangeShapes Go.WideShapes Go.ChangeAt Go.RowKit Go.Joins
theorem cellsInt : Tryd.prog.cellsOf 3 = 1 := by kernel_rfl
theorem cellsInts : Tryd.prog.cellsOf 26 = 1 := by kernel_rfl
theorem cellsAsked : Tryd.prog.cellsOf 28 = 4 := by kernel_rfl
theorem bulk_lits {H : Type} (zs : List Int) : zs.length ≤ Rows.uptoBulkAll (H := H) (lits .i64 zs) := by
  induction zs with
  | nil => simp [lits]
  | cons z zs ih =>
    have e : (lits (H := H) .i64 (z :: zs)) = .lit (.int .i64 z) :: lits .i64 zs := rfl
    rw [e, Rows.uptoBulkAll, List.length_cons]
    have h1 : 1 ≤ Rows.uptoBulk (H := H) (.lit (.int .i64 z)) := by simp [Rows.uptoBulk]
    omega
theorem lt_of_cell {W : World} {b o : Nat} {u : Value} (h : W.cell? ⟨b, o, none⟩ = some u) : b < W.heap.size := World.block_lt_of_cell? W _ h
/-- Numbers that are read. -/
theorem open_points {H : Type} {enc : TypeId × Value → H} {W : World} {n : Nat} {c : Value} {x : DataW H × List MemPlace} (hf : DataW.trod enc Tryd.prog W 0 (fun _ => true) true n 26 [c] = some x) :
    ∃ (a : Option Addr) (ps : List Int) (cap : Nat), c = .slice a ps.length cap ∧ IA W a ps ∧ ps.length ≤ Rows.uptoBulk x.1 := by
  rcases open_ints Tryd.underlying26 Tryd.underlying3 cellsInt hf with ⟨h1, h2⟩ | ⟨a, len, cap, zs, h1, h2, h3, h4, h5, h6, h7, h8⟩
  · simp only [List.cons.injEq, and_true] at h1
    exact ⟨none, [], 0, h1, ⟨fun k h => absurd h (Nat.not_lt_zero _)⟩, by simp⟩
  · simp only [List.cons.injEq, and_true] at h1
    simp only [if_true] at h5
    have hl : (zs.take len).length = len := by rw [List.length_take]; omega
    have hb := bulk_lits (H := H) (zs.take len)
    refine ⟨some a, zs.take len, cap, by rw [hl]; exact h1, ⟨fun k hk' => ?_⟩, ?_⟩
    · rw [hl] at hk'
      have h9 := h7 k (by omega)
      obtain ⟨b, off, spot⟩ := a
      cases spot with
      | some sp =>
        exfalso
        have h10 := h7 0 (by omega)
        rw [show (⟨b, off, some sp⟩ : Addr).add 0 = ⟨b, off, some sp⟩ from rfl] at h10
        unfold World.cell? at h10
        split at h10 <;> simp at h10
      | none =>
        rw [Addr.add_lit] at h9
        refine ⟨b, off, rfl, lt_of_cell h9, ?_⟩
        rw [h9]
        congr 2
        rw [List.getElem_take, List.getD_eq_getElem?_getD, List.getElem?_eq_getElem (by omega)]
        rfl
    · rw [h6]
      simp only [Rows.uptoBulk]
      omega
theorem open_four {H : Type} {enc : TypeId × Value → H} {W : World} {base : Nat} {v : Value} {d : DataW H} {p : List MemPlace} (hv : Value.okWide Tryd.prog W .any base 28 v)
    (h0 : DataW.Trod enc Tryd.prog W 0 (fun _ => true) true 28 v d p) :
    ∃ (c0 c1 c2 c3 : Value) (y0 y1 y2 : DataW H × List MemPlace) (n : Nat), v = .agg #[c0, c1, c2, c3] ∧ d = .agg [y0.1, y1.1, y2.1] ∧
      DataW.trod enc Tryd.prog W 0 (fun _ => true) true n 25 [c0, c1] = some y0 ∧ DataW.trod enc Tryd.prog W 0 (fun _ => true) true n 26 [c2] = some y1 := by
  obtain ⟨fuel, hf⟩ := h0
  have hcs : ∃ cs, v = .agg cs := by
    simp only [Value.okWide, Tryd.underlying28] at hv
    obtain ⟨cs, h1, _⟩ := hv
    exact ⟨cs, h1⟩
  obtain ⟨cs, rfl⟩ := hcs
  obtain ⟨xs, n, _, hx, hlen, hxl, hfs⟩ := DataW.trod_struct Tryd.underlying28 hf
  rw [cellsAsked] at hlen
  obtain ⟨l⟩ := cs
  match l, hlen with
  | [c0, c1, c2, c3], _ =>
    obtain ⟨y0, y1, y2, rfl⟩ : ∃ y0 y1 y2, xs = [y0, y1, y2] := by
      match xs, hxl with
      | [y0, y1, y2], _ => exact ⟨y0, y1, y2, rfl⟩
    have h0 := hfs 0 _ rfl
    have h1 := hfs 1 _ rfl
    have k0 : Tryd.prog.cellsOf 25 = 2 := by kernel_rfl
    refine ⟨c0, c1, c2, c3, y0, y1, y2, n, rfl, ?_, ?_, ?_⟩
    · have := congrArg Prod.fst hx; simpa using this
    · simpa [Value.cells, k0] using h0
    · simpa [Value.cells, cellsInts] using h1
def sentList5 : List (String × List UInt8) := [("caesura/api.ErrArg", sentText Rows.laid_caesura_api_ErrArg), ("caesura/api.ErrText", sentText Rows.laid_caesura_api_ErrText), ("caesura/api.ErrMany", sentText Rows.laid_caesura_api_ErrMany), ("caesura/api.ErrTwice", sentText Rows.laid_caesura_api_ErrTwice), ("caesura/api.ErrOrder", sentText Rows.laid_caesura_api_ErrOrder)]
theorem sentIn5 : ∀ x ∈ sentList5, x ∈ sentList := by
  intro x hx
  simp only [sentList5, List.mem_cons, List.not_mem_nil, or_false] at hx
  simp only [sentList, List.mem_cons, List.not_mem_nil, or_false]
  rcases hx with h | h | h | h | h <;> simp [h]
theorem sents5_of {W : World} {rest : List (String × DataW Unit)} (h : laidMet Tryd.prog (sentList5.map sentRow ++ rest) W) : ∃ A, Sent5 W A := by
  obtain ⟨ps, hl, hnd, hrows⟩ := h
  obtain ⟨xs, h1, h2, h3, h4⟩ := sents_list rest sentList5 ps hl hnd hrows (fun x hx => sentTypes x (sentIn5 x hx))
  exact ⟨fun i => xs.getD ([0, 1, 2, 0, 3, 0, 4].getD i 0) ⟨0, 0, none⟩, h4 0 (by decide) _ g_ErrArg, h4 1 (by decide) _ g_ErrText, h4 2 (by decide) _ g_ErrMany, h4 3 (by decide) _ g_ErrTwice, h4 4 (by decide) _ g_ErrOrder⟩
end Go.Proofs.YtpimameogmkpcaaDoor
