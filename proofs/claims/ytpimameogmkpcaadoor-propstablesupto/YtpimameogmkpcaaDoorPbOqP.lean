/-
  What is asked, read whole: the names, the spans, the points.
-/
import Derived.Test.YtpimameogmkpcaaDoorPbOpP
import Derived.SliceStrings
namespace Go.Proofs.YtpimameogmkpcaaDoor
open Go.ChangeShapes Go.WideShapes Go.ChangeAt Go.RowKit Go.Joins
theorem cellsSpan : Tryd.prog.cellsOf 38 = 3 := by kernel_rfl
theorem bulk_strs {H : Type} (L : List ByteArray) : L.length ≤ Rows.uptoBulkAll (H := H) (strs L) ∧ ∀ s ∈ L, s.size ≤ Rows.uptoBulkAll (H := H) (strs L) := by
  induction L with
  | nil => simp
  | cons z zs ih =>
    have e : (strs (H := H) (z :: zs)) = .lit (.string z.data.toList) :: strs zs := rfl
    have h1 : z.size + 1 ≤ Rows.uptoBulk (H := H) (.lit (.string z.data.toList)) := by simp [Rows.uptoBulk]
    rw [e, Rows.uptoBulkAll, List.length_cons]
    refine ⟨by omega, fun s hs => ?_⟩
    rcases List.mem_cons.1 hs with rfl | hs
    · omega
    · have := ih.2 s hs; omega
/-- Texts that are read. -/
theorem open_names {H : Type} {enc : TypeId × Value → H} {W : World} {n : Nat} {c : Value} {x : DataW H × List MemPlace} (hf : DataW.trod enc Tryd.prog W 0 (fun _ => true) true n 22 [c] = some x) :
    ∃ (a : Option Addr) (L : List ByteArray) (cap : Nat), c = .slice a L.length cap ∧ SA W a L ∧ (a = none → cap = 0) ∧ L.length ≤ cap ∧ L.length ≤ Rows.uptoBulk x.1 ∧ ∀ s ∈ L, s.size ≤ Rows.uptoBulk x.1 := by
  rcases open_strings Tryd.underlying22 Tryd.underlying9 cellsStr hf with ⟨h1, h2⟩ | ⟨a, len, cap, zs, h1, h2, h3, h4, h5, h6, h7, h8⟩
  · simp only [List.cons.injEq, and_true] at h1
    exact ⟨none, [], 0, h1, ⟨fun k h => absurd h (Nat.not_lt_zero _)⟩, fun _ => rfl, by simp, by simp, fun s hs => by simp at hs⟩
  · simp only [List.cons.injEq, and_true] at h1
    simp only [if_true] at h5
    have hl : (zs.take len).length = len := by rw [List.length_take]; omega
    have hb := bulk_strs (H := H) (zs.take len)
    rw [h6]
    simp only [Rows.uptoBulk]
    refine ⟨some a, zs.take len, cap, by rw [hl]; exact h1, ⟨fun k hk' => ?_⟩, (fun e => nomatch e), by omega, by omega, (fun s hs => by have := hb.2 s hs; omega)⟩
    rw [hl] at hk'
    have h9 := h7 k (by omega)
    obtain ⟨b, off, spot⟩ := a
    cases spot with
    | some sp =>
      exfalso
      have h10 := h7 0 (by omega)
      rw [show (⟨b, off, some sp⟩ : Addr).add 0 = ⟨b, off, some sp⟩ from rfl] at h10
      unfold World.cell? at h10
      split at h10 <;> simp at h10
    | none =>
      rw [Addr.add_lit] at h9
      refine ⟨b, off, rfl, lt_of_cell h9, ?_⟩
      rw [h9]
      congr 2
      rw [List.getElem_take, List.getD_eq_getElem?_getD, List.getElem?_eq_getElem (by omega)]
      rfl
theorem open_span {H : Type} {enc : TypeId × Value → H} {w : World} {base : Nat} {spare : Nat → Bool} {held : Bool} {n : Nat} {a : Addr} {i : Nat} {cs : List Value} {x : DataW H × List MemPlace}
    (h1 : w.cells? base (a.add (i * 3)) 3 = some cs) (h2 : DataW.trod enc Tryd.prog w base spare held n 38 cs = some x) :
    ∃ t : Sp, (i = 0 → a.spot = none) ∧ (a.spot = none → w.cell? ⟨a.block, a.off + i * 3, none⟩ = some (.int .i64 t.1) ∧ w.cell? ⟨a.block, a.off + i * 3 + 1, none⟩ = some (.int .i64 t.2.1) ∧ w.cell? ⟨a.block, a.off + i * 3 + 2, none⟩ = some (.int .i64 t.2.2)) ∧ 1 ≤ Rows.uptoBulk x.1 := by
  obtain ⟨_, hlen, hcell⟩ := World.cells?_some h1
  obtain ⟨xs, k, _, hx, _, hxl, hfs⟩ := DataW.trod_struct Tryd.underlying38 h2
  match cs, hlen with
  | [v0, v1, v2], _ =>
    obtain ⟨y0, y1, y2, rfl⟩ : ∃ y0 y1 y2, xs = [y0, y1, y2] := by
      match xs, hxl with
      | [y0, y1, y2], _ => exact ⟨y0, y1, y2, rfl⟩
    have f0 := hfs 0 _ rfl
    have f1 := hfs 1 _ rfl
    have f2 := hfs 2 _ rfl
    simp [cellsInt] at f0 f1 f2
    obtain ⟨m0, e0, rfl, _⟩ := DataW.trod_int Tryd.underlying3 f0
    obtain ⟨m1, e1, rfl, _⟩ := DataW.trod_int Tryd.underlying3 f1
    obtain ⟨m2, e2, rfl, _⟩ := DataW.trod_int Tryd.underlying3 f2
    simp only [List.cons.injEq, and_true] at e0 e1 e2
    subst e0 e1 e2
    have q0 := hcell 0 (by omega)
    have q1 := hcell 1 (by omega)
    have q2 := hcell 2 (by omega)
    rw [Deep.add_add] at q0 q1 q2
    refine ⟨(m0, m1, m2), fun hi => ?_, fun hsp => ?_, ?_⟩
    · subst hi
      exact World.cell?_spot q0
    · obtain ⟨ab, ao, asp⟩ := a
      simp only at hsp
      subst hsp
      rw [WideShapes.add_plain] at q0 q1 q2
      exact ⟨by simpa using q0, by simpa [Nat.add_assoc] using q1, by simpa [Nat.add_assoc] using q2⟩
    · rw [hx]
      simp [Rows.uptoBulk]
theorem bulk_one {H : Type} (D : Nat → DataW H) (l : List Nat) (h : ∀ i ∈ l, 1 ≤ Rows.uptoBulk (D i)) : l.length ≤ Rows.uptoBulkAll (l.map D) := by
  induction l with
  | nil => simp
  | cons x r ih => rw [List.map_cons, Rows.uptoBulkAll, List.length_cons]; have h1 := h x (.head _); have := ih (fun i hi => h i (.tail _ hi)); omega
/-- Spans that are read. -/
theorem open_spans {H : Type} {enc : TypeId × Value → H} {W : World} {n : Nat} {c : Value} {x : DataW H × List MemPlace} (h : DataW.trod enc Tryd.prog W 0 (fun _ => true) true n 23 [c] = some x) :
    ∃ (a : Option Addr) (S : List Sp) (cap : Nat), c = .slice a S.length cap ∧ PA W a S ∧ S.length ≤ cap ∧ S.length ≤ Rows.uptoBulk x.1 ∧ (0 < S.length → ∀ p, a = some p → p.block < W.heap.size) := by
  rcases Deep.open_slice Tryd.underlying23 h with ⟨h0, rfl⟩ | ⟨a, len, cap, m, n', D, Pl, hc, hb, hl, hm, hmm, rfl, hx⟩
  · simp only [List.cons.injEq, and_true] at h0
    exact ⟨none, [], 0, h0, PA.nil _ _, by simp, by simp, fun h => by simp at h⟩
  · simp only [List.cons.injEq, and_true] at hc
    have hlm : len ≤ m := by rw [hmm]; split <;> omega
    rw [cellsSpan] at hx
    obtain ⟨T, hT⟩ := Deep.choose_lt (n := len) (fun i hi => by obtain ⟨cs, q1, q2⟩ := hx i (by omega); exact open_span q1 q2)
    have hlen : ((List.range len).map T).length = len := by simp
    have hpa : PA W (some a) ((List.range len).map T) := ⟨fun k hk => by
      rw [hlen] at hk
      have et : ((List.range len).map T)[k]'(by rw [hlen]; exact hk) = T k := by simp
      obtain ⟨_, p2, _⟩ := hT k hk
      have hsp := (hT 0 (by omega)).1 rfl
      obtain ⟨ab, ao, asp⟩ := a
      simp only at hsp
      subst hsp
      have p3 := p2 rfl
      refine ⟨ab, ao, rfl, lt_of_cell p3.1, ?_⟩
      rw [et]
      exact p3⟩
    refine ⟨some a, (List.range len).map T, cap, by rw [hlen]; exact hc, hpa, by rw [hlen]; omega, ?_, fun h p hp => ?_⟩
    · have := bulk_one D (List.range len) (fun i hi => (hT i (by simpa using hi)).2.2)
      rw [hlen]
      simp only [Rows.uptoBulk]
      simp only [List.length_range] at this
      omega
    · obtain ⟨b, off, e, hlt, _⟩ := hpa.at' 0 h
      cases hp
      cases e
      exact hlt
theorem open_prop {H : Type} {enc : TypeId × Value → H} {W : World} {n : Nat} {c0 c1 : Value} {y : DataW H × List MemPlace} (h : DataW.trod enc Tryd.prog W 0 (fun _ => true) true n 25 [c0, c1] = some y) :
    ∃ (z0 z1 : DataW H × List MemPlace) (k : Nat), y.1 = .agg [z0.1, z1.1] ∧ DataW.trod enc Tryd.prog W 0 (fun _ => true) true k 22 [c0] = some z0 ∧ DataW.trod enc Tryd.prog W 0 (fun _ => true) true k 23 [c1] = some z1 := by
  obtain ⟨xs, k, _, hx, _, hxl, hfs⟩ := DataW.trod_struct Tryd.underlying25 h
  obtain ⟨z0, z1, rfl⟩ : ∃ z0 z1, xs = [z0, z1] := by
    match xs, hxl with
    | [z0, z1], _ => exact ⟨z0, z1, rfl⟩
  have h0 := hfs 0 _ rfl
  have h1 := hfs 1 _ rfl
  have k0 : Tryd.prog.cellsOf 22 = 1 := by kernel_rfl
  have k1 : Tryd.prog.cellsOf 23 = 1 := by kernel_rfl
  refine ⟨z0, z1, k, by rw [hx]; rfl, by simpa [k0] using h0, by simpa [k1] using h1⟩
theorem askedTypes : Tryd.prog.cellTypes Tryd.prog.depth 28 = some [22, 23, 26, 9] := by kernel_rfl
theorem shape_lt {W : World} {b : Nat} {x : TypeId × Nat} (h : W.shape? b = some x) : b < W.heap.size := by
  unfold World.shape? at h
  cases hq : W.heap[b]? with
  | none => rw [hq] at h; simp at h
  | some o => exact (Array.getElem?_eq_some_iff.1 hq).1
theorem spans_block {W : World} {base : Nat} {c0 c2 c3 : Value} {a : Addr} {len cap : Nat} (hv : Value.okWide Tryd.prog W .any base 28 (.agg #[c0, .slice (some a) len cap, c2, c3])) : a.block < W.heap.size := by
  simp only [Value.okWide, Tryd.underlying28] at hv
  obtain ⟨cs, h1, _, ts, h3, _, h5⟩ := hv
  cases h1
  rw [askedTypes] at h3
  cases h3
  obtain ⟨u, hu, hc⟩ := h5 1 _ rfl
  simp only [List.length_cons, List.length_nil, Nat.zero_add, Nat.reduceAdd, Nat.reduceMod, List.getElem?_cons_succ, List.getElem?_cons_zero, Option.some.injEq] at hu
  subst hu
  simp only [Cell.okWide, Cell.ok, Tryd.underlying23] at hc
  obtain ⟨_, _, _, _, row, cells, h9, _⟩ := hc
  exact shape_lt h9
end Go.Proofs.YtpimameogmkpcaaDoor
