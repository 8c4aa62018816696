/-
  Two lists of ranges and a number that are read; a list that is none has no room.
-/
import Derived.Test.YtnkllhihdjjmnaaDoorRangeP
namespace Go.Proofs.YtnkllhihdjjmnaaDoor
open Go.ChangeShapes Go.WideShapes Go.ChangeAt Go.RowKit Go.Joins
theorem open_ranges2 {H : Type} {enc : TypeId × Value → H} {w : World} {base : Nat} {spare : Nat → Bool} {held : Bool} {n : Nat} {c : Value} {x : DataW H × List MemPlace} (h : DataW.trod enc Tryd.prog w base spare held n 22 [c] = some x) :
    ∃ (a : Option Addr) (cap : Nat) (S : List (Int × Int)), c = .slice a S.length cap ∧ RA w a S ∧ (∀ t ∈ S, inI t) ∧ S.length ≤ Rows.uptoBulk x.1 ∧ (a = none → cap = 0) := by
  rcases Deep.open_slice Tryd.underlying22 h with ⟨h0, rfl⟩ | ⟨a, len, cap, m, n', D, Pl, hc, hb, hl, hm, hmm, rfl, hx⟩
  · simp only [List.cons.injEq, and_true] at h0
    exact ⟨none, 0, [], h0, RA.nil _ _, fun t ht => (by simp at ht), by simp, fun _ => rfl⟩
  · simp only [List.cons.injEq, and_true] at hc
    have hlm : len ≤ m := by rw [hmm]; split <;> omega
    rw [cellsRange] at hx
    obtain ⟨T, hT⟩ := Deep.choose_lt (n := len) (fun i hi => by obtain ⟨cs, q1, q2⟩ := hx i (by omega); exact open_range q1 q2)
    have hlen : ((List.range len).map T).length = len := by simp
    refine ⟨some a, cap, (List.range len).map T, by rw [hlen]; exact hc, ⟨fun k hk => ?_⟩, fun t ht => ?_, ?_, fun h => (by cases h)⟩
    · rw [hlen] at hk
      have et : ((List.range len).map T)[k] = T k := by simp
      obtain ⟨_, p2, _, _⟩ := hT k hk
      have hsp := (hT 0 (by omega)).1 rfl
      obtain ⟨ab, ao, asp⟩ := a
      simp only at hsp
      subst hsp
      rw [et]
      exact ⟨ab, ao, rfl, p2 rfl⟩
    · obtain ⟨i, hi, rfl⟩ := List.mem_map.1 ht
      exact (hT i (by simpa using hi)).2.2.1
    · have := bulk_three D (List.range len) (fun i hi => (hT i (by simpa using hi)).2.2.2)
      rw [hlen]
      simp only [Rows.uptoBulk]
      simp only [List.length_range] at this
      omega
theorem open_two2 {H : Type} {enc : TypeId × Value → H} {W : World} {base : Nat} {v : Value} {d : DataW H} {p : List MemPlace} (hv : Value.okWide Tryd.prog W .any base 24 v)
    (h0 : DataW.Trod enc Tryd.prog W 0 (fun _ => true) true 24 v d p) (hk : Rows.uptoSmall H ([d] ++ []) = true) :
    ∃ (a b : Option Addr) (ca cb : Nat) (la lb : List (Int × Int)) (n : Int), v = .agg #[.slice a la.length ca, .slice b lb.length cb, .int .i64 n] ∧ RA W a la ∧ RA W b lb ∧ (∀ t ∈ la, inI t) ∧ (∀ t ∈ lb, inI t) ∧ la.length ≤ 1048576 ∧ lb.length ≤ 1048576 ∧ (a = none → ca = 0) ∧ (b = none → cb = 0) := by
  obtain ⟨c0, c1, c2, y0, y1, y2, m, rfl, rfl, rfl, hy0, hy1, hy2⟩ := open_agg3 Tryd.underlying24 (by kernel_rfl) cellsTwo hv h0
  obtain ⟨a, ca, la, rfl, hra, hia, hla, hca⟩ := open_ranges2 hy0
  obtain ⟨b, cb, lb, rfl, hrb, hib, hlb, hcb⟩ := open_ranges2 hy1
  obtain ⟨n, e2, rfl, wn⟩ := DataW.trod_int Tryd.underlying3 hy2
  simp only [List.cons.injEq, and_true] at e2
  subst e2
  have hs := of_decide_eq_true hk
  simp only [List.append_nil, Rows.uptoBulkAll, Rows.uptoBulk] at hs
  exact ⟨a, b, ca, cb, la, lb, n, rfl, hra, hrb, hia, hib, by omega, by omega, hca, hcb⟩
end Go.Proofs.YtnkllhihdjjmnaaDoor
