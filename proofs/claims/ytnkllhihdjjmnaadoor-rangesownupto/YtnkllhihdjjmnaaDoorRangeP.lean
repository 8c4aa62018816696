/-
  Two lists of ranges and a number that are read.
-/
import Derived.Test.YtnkllhihdjjmnaaDoorRgW
import Derived.Test.YtnkllhihdjjmnaaDoorDoor
import Derived.Deep.Slices
namespace Go.Proofs.YtnkllhihdjjmnaaDoor
open Go.ChangeShapes Go.WideShapes Go.ChangeAt Go.RowKit Go.Joins
theorem cellsTwo : Tryd.prog.cellsOf 24 = 3 := by kernel_rfl
theorem cellsRange : Tryd.prog.cellsOf 35 = 2 := by kernel_rfl
theorem open_cells2 {H : Type} {enc : TypeId × Value → H} {P : Program} {w : World} {base : Nat} {spare : Nat → Bool} {held : Bool} {n : Nat} {e : TypeId} {f0 f1 : Field} {cs : List Value} {x : DataW H × List MemPlace} (hs : P.underlying e = some (.struct #[f0, f1])) (hone : Deep.oneCellFields P #[f0, f1] = true)
    (hlen : cs.length = 2) (h : DataW.trod enc P w base spare held n e cs = some x) :
    ∃ (v0 v1 : Value) (y0 y1 : DataW H × List MemPlace) (k : Nat), cs = [v0, v1] ∧ x.1 = .agg [y0.1, y1.1] ∧
      DataW.trod enc P w base spare held k f0.type [v0] = some y0 ∧ DataW.trod enc P w base spare held k f1.type [v1] = some y1 := by
  obtain ⟨xs, k, _, rfl, _, hxl, hf⟩ := DataW.trod_struct hs h
  obtain ⟨y0, y1, rfl⟩ : ∃ y0 y1, xs = [y0, y1] := by
    match xs, hxl with
    | [y0, y1], _ => exact ⟨y0, y1, rfl⟩
  have h0 := hf 0 f0 rfl
  have h1 := hf 1 f1 rfl
  obtain ⟨o0, k0⟩ := Deep.hone_of hone 0 f0 rfl
  obtain ⟨o1, k1⟩ := Deep.hone_of hone 1 f1 rfl
  match cs, hlen with
  | [v0, v1], _ => exact ⟨v0, v1, y0, y1, k, rfl, by simp, by simpa [Value.cells, o0, k0] using h0, by simpa [Value.cells, o1, k1] using h1⟩
def inI (t : Int × Int) : Prop := -9223372036854775808 ≤ t.1 ∧ t.1 ≤ 9223372036854775807 ∧ -9223372036854775808 ≤ t.2 ∧ t.2 ≤ 9223372036854775807
theorem open_range {H : Type} {enc : TypeId × Value → H} {w : World} {base : Nat} {spare : Nat → Bool} {held : Bool} {n : Nat} {a : Addr} {i : Nat} {cs : List Value} {x : DataW H × List MemPlace}
    (h1 : w.cells? base (a.add (i * 2)) 2 = some cs) (h2 : DataW.trod enc Tryd.prog w base spare held n 35 cs = some x) :
    ∃ t : Int × Int, (i = 0 → a.spot = none) ∧ (a.spot = none → w.cell? ⟨a.block, a.off + i * 2, none⟩ = some (.int .i64 t.1) ∧ w.cell? ⟨a.block, a.off + i * 2 + 1, none⟩ = some (.int .i64 t.2))
      ∧ inI t ∧ Rows.uptoBulk x.1 = 3 := by
  obtain ⟨_, hlen, hcell⟩ := World.cells?_some h1
  obtain ⟨v0, v1, y0, y1, k, rfl, hx, g0, g1⟩ := open_cells2 Tryd.underlying35 (by kernel_rfl) hlen h2
  obtain ⟨m0, e0, rfl, w0⟩ := DataW.trod_int Tryd.underlying3 g0
  obtain ⟨m1, e1, rfl, w1⟩ := DataW.trod_int Tryd.underlying3 g1
  simp only [List.cons.injEq, and_true] at e0 e1
  subst e0 e1
  have q0 := hcell 0 (by omega)
  have q1 := hcell 1 (by omega)
  rw [Deep.add_add] at q0 q1
  have b0 := bounds_i64 w0
  have b1 := bounds_i64 w1
  refine ⟨(m0, m1), fun hi => ?_, fun hsp => ?_, ⟨b0.1, b0.2, b1.1, b1.2⟩, ?_⟩
  · subst hi
    exact World.cell?_spot q0
  · obtain ⟨ab, ao, asp⟩ := a
    simp only at hsp
    subst hsp
    rw [WideShapes.add_plain] at q0 q1
    exact ⟨by simpa using q0, by simpa [Nat.add_assoc] using q1⟩
  · rw [hx]
    simp only [Rows.uptoBulk, Rows.uptoBulkAll]
theorem bulk_three {H : Type} (D : Nat → DataW H) (l : List Nat) (h : ∀ i ∈ l, Rows.uptoBulk (D i) = 3) : l.length ≤ Rows.uptoBulkAll (l.map D) := by
  induction l with
  | nil => simp
  | cons x r ih => rw [List.map_cons, Rows.uptoBulkAll, List.length_cons, h x (.head _)]; have := ih (fun i hi => h i (.tail _ hi)); omega
theorem open_ranges {H : Type} {enc : TypeId × Value → H} {w : World} {base : Nat} {spare : Nat → Bool} {held : Bool} {n : Nat} {c : Value} {x : DataW H × List MemPlace} (h : DataW.trod enc Tryd.prog w base spare held n 22 [c] = some x) :
    ∃ (a : Option Addr) (cap : Nat) (S : List (Int × Int)), c = .slice a S.length cap ∧ RA w a S ∧ (∀ t ∈ S, inI t) ∧ S.length ≤ Rows.uptoBulk x.1 := by
  rcases Deep.open_slice Tryd.underlying22 h with ⟨h0, rfl⟩ | ⟨a, len, cap, m, n', D, Pl, hc, hb, hl, hm, hmm, rfl, hx⟩
  · simp only [List.cons.injEq, and_true] at h0
    exact ⟨none, 0, [], h0, RA.nil _ _, fun t ht => by simp at ht, by simp⟩
  · simp only [List.cons.injEq, and_true] at hc
    have hlm : len ≤ m := by rw [hmm]; split <;> omega
    rw [cellsRange] at hx
    obtain ⟨T, hT⟩ := Deep.choose_lt (n := len) (fun i hi => by obtain ⟨cs, q1, q2⟩ := hx i (by omega); exact open_range q1 q2)
    have hlen : ((List.range len).map T).length = len := by simp
    refine ⟨some a, cap, (List.range len).map T, by rw [hlen]; exact hc, ⟨fun k hk => ?_⟩, fun t ht => ?_, ?_⟩
    · rw [hlen] at hk
      have et : ((List.range len).map T)[k] = T k := by simp
      obtain ⟨_, p2, _, _⟩ := hT k hk
      have hsp := (hT 0 (by omega)).1 rfl
      obtain ⟨ab, ao, asp⟩ := a
      simp only at hsp
      subst hsp
      rw [et]
      exact ⟨ab, ao, rfl, p2 rfl⟩
    · obtain ⟨i, hi, rfl⟩ := List.mem_map.1 ht
      exact (hT i (by simpa using hi)).2.2.1
    · have := bulk_three D (List.range len) (fun i hi => (hT i (by simpa using hi)).2.2.2)
      rw [hlen]
      simp only [Rows.uptoBulk]
      simp only [List.length_range] at this
      omega
theorem open_two {H : Type} {enc : TypeId × Value → H} {W : World} {base : Nat} {v : Value} {d : DataW H} {p : List MemPlace} (hv : Value.okWide Tryd.prog W .any base 24 v)
    (h0 : DataW.Trod enc Tryd.prog W 0 (fun _ => true) true 24 v d p) (hk : Rows.uptoSmall H ([d] ++ []) = true) :
    ∃ (a b : Option Addr) (ca cb : Nat) (la lb : List (Int × Int)) (n : Int), v = .agg #[.slice a la.length ca, .slice b lb.length cb, .int .i64 n] ∧ RA W a la ∧ RA W b lb ∧ (∀ t ∈ la, inI t) ∧ (∀ t ∈ lb, inI t) ∧ la.length ≤ 1048576 ∧ lb.length ≤ 1048576 ∧ (-9223372036854775808 ≤ n ∧ n ≤ 9223372036854775807) := by
  obtain ⟨c0, c1, c2, y0, y1, y2, m, rfl, rfl, rfl, hy0, hy1, hy2⟩ := open_agg3 Tryd.underlying24 (by kernel_rfl) cellsTwo hv h0
  obtain ⟨a, ca, la, rfl, hra, hia, hla⟩ := open_ranges hy0
  obtain ⟨b, cb, lb, rfl, hrb, hib, hlb⟩ := open_ranges hy1
  obtain ⟨n, e2, rfl, wn⟩ := DataW.trod_int Tryd.underlying3 hy2
  simp only [List.cons.injEq, and_true] at e2
  subst e2
  have hs := of_decide_eq_true hk
  simp only [List.append_nil, Rows.uptoBulkAll, Rows.uptoBulk] at hs
  exact ⟨a, b, ca, cb, la, lb, n, rfl, hra, hrb, hia, hib, by omega, by omega, bounds_i64 wn⟩
end Go.Proofs.YtnkllhihdjjmnaaDoor
