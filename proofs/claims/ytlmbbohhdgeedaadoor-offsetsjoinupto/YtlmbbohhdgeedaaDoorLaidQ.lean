/-
  From a row's list to the table in memory.
-/
import Derived.Test.YtlmbbohhdgeedaaDoorSeqW
import Derived.Test.YtlmbbohhdgeedaaDoorDoor
import Derived.Stop.LaidErr
namespace Go.Proofs.YtlmbbohhdgeedaaDoor
open Go.ChangeShapes Go.WideShapes Go.ChangeAt Go.RowKit Go.Joins
theorem array_of {H : Type} {enc : TypeId × Value → H} {P : Program} {w : World} {base : Nat} {sp : Nat → Bool} {held : Bool} {fuel : Nat} {t e : TypeId} {n m : Nat} {cs : List Value} {ds : List (DataW H)} {p : List MemPlace}
    (ht : P.underlying t = some (.array n e)) (hce : P.cellsOf e = m) (h : DataW.trod enc P w base sp held fuel t cs = some (.agg ds, p)) (i : Nat) (hi : i < n) :
    ∃ fuel' d q, ds[i]? = some d ∧ DataW.trod enc P w base sp held fuel' e ((cs.drop (i * m)).take m) = some (d, q) := by
  cases fuel with
  | zero => simp [DataW.trod] at h
  | succ fuel =>
    simp only [DataW.trod, ht, hce] at h
    split at h
    · obtain ⟨xs, hm, hx⟩ := Option.map_eq_some_iff.1 h
      obtain ⟨b, hb, hf⟩ := Lib.mapM_at hm i i (by simp [hi])
      have hxs : xs.map (·.1) = ds := by
        have := congrArg Prod.fst hx
        simpa using this
      refine ⟨fuel, b.1, b.2, ?_, hf⟩
      rw [← hxs]
      simp [hb]
    · cases h
theorem struct_of {H : Type} {enc : TypeId × Value → H} {P : Program} {w : World} {base : Nat} {sp : Nat → Bool} {held : Bool} {fuel : Nat} {e : TypeId} {fs : Array Field} {cs : List Value} {ds : List (DataW H)} {p : List MemPlace}
    (he : P.underlying e = some (.struct fs)) (h : DataW.trod enc P w base sp held fuel e cs = some (.agg ds, p)) (k : Nat) (f : Field) (hk : fs.toList[k]? = some f) :
    ∃ fuel' d q, ds[k]? = some d ∧ DataW.trod enc P w base sp held fuel' f.type ((cs.drop f.offset).take (P.cellsOf f.type)) = some (d, q) := by
  cases fuel with
  | zero => simp [DataW.trod] at h
  | succ fuel =>
    simp only [DataW.trod, he] at h
    split at h
    · obtain ⟨xs, hm, hx⟩ := Option.map_eq_some_iff.1 h
      obtain ⟨b, hb, hf⟩ := Lib.mapM_at hm k f hk
      have hxs : xs.map (·.1) = ds := by
        have := congrArg Prod.fst hx
        simpa using this
      refine ⟨fuel, b.1, b.2, ?_, hf⟩
      rw [← hxs]
      simp [hb]
    · cases h
theorem gSeq : Tryd.prog.globalNamed "caesura/units.sequences" = some 11 := by kernel_rfl
theorem gSeqType : (Tryd.prog.globals[11]?).map (·.type) = some 106 := by kernel_rfl
theorem cellsRow : Tryd.prog.cellsOf 95 = 6 := by kernel_rfl
def rowLits {H : Type} (i : Nat) : List (DataW H) := [.lit (.int .u8 (tLo i)), .lit (.int .u8 (tHi i)), .lit (.int .u8 (tLo2 i)), .lit (.int .u8 (tHi2 i)), .lit (.int .i64 (tSz i)), .lit (.int .u8 (tMk i))]
theorem laid_rows : (Rows.laid_caesura_units_sequences : DataW Unit) = .agg ((List.range 9).map fun i => .agg (rowLits i)) := by rfl
theorem one_int {H : Type} {enc : TypeId × Value → H} {P : Program} {w : World} {base : Nat} {sp : Nat → Bool} {held : Bool} {fuel : Nat} {t : TypeId} {k : IntKind} {cs : List Value} {z : Int} {d : DataW H} {q : List MemPlace} (o : Nat)
    (ht : P.underlying t = some (.int k)) (hc : P.cellsOf t = 1) (h : DataW.trod enc P w base sp held fuel t ((cs.drop o).take (P.cellsOf t)) = some (d, q)) (hd : some d = some (.lit (.int k z))) : cs[o]? = some (.int k z) := by
  rw [hc] at h
  obtain ⟨z', hcs, e, _⟩ := DataW.trod_int ht h
  obtain rfl : d = _ := congrArg Prod.fst e
  simp only [Option.some.injEq, DataW.lit.injEq, Lit.int.injEq, true_and] at hd
  subst hd
  have := congrArg (·[0]?) hcs
  simpa [List.getElem?_take, List.getElem?_drop] using this
theorem seqAt_of {W : World} {rest : List (String × DataW Unit)} (h : laidMet Tryd.prog (("caesura/units.sequences", Rows.laid_caesura_units_sequences) :: rest) W) : SeqAt W := by
  obtain ⟨ps, ⟨g', t', cs, fuel, p, q, hg', ht', hvar, hd, _, _⟩, _⟩ := h
  obtain rfl := Option.some.inj (gSeq.symm.trans hg')
  obtain rfl := Option.some.inj (gSeqType.symm.trans ht')
  rw [laid_rows] at hd
  intro i hi k hk
  obtain ⟨f1, d1, q1, hd1, h1⟩ := array_of (m := 6) Tryd.underlying106 cellsRow hd i hi
  have e1 : d1 = .agg (rowLits i) := by simpa [hi] using hd1.symm
  subst e1
  have hc := World.var?_cell gSeq hvar (i * 6 + k)
  rw [hc]
  have key : ((cs.toList.drop (i * 6)).take 6)[k]? = (rowCells i)[k]? := by
    obtain rfl | rfl | rfl | rfl | rfl | rfl : k = 0 ∨ k = 1 ∨ k = 2 ∨ k = 3 ∨ k = 4 ∨ k = 5 := by omega
    · obtain ⟨f2, d2, q2, hd2, h2⟩ := struct_of Tryd.underlying95 h1 0 _ rfl
      exact one_int 0 Tryd.underlying5 (by kernel_rfl) h2 hd2.symm
    · obtain ⟨f2, d2, q2, hd2, h2⟩ := struct_of Tryd.underlying95 h1 1 _ rfl
      exact one_int 1 Tryd.underlying5 (by kernel_rfl) h2 hd2.symm
    · obtain ⟨f2, d2, q2, hd2, h2⟩ := struct_of Tryd.underlying95 h1 2 _ rfl
      exact one_int 2 Tryd.underlying5 (by kernel_rfl) h2 hd2.symm
    · obtain ⟨f2, d2, q2, hd2, h2⟩ := struct_of Tryd.underlying95 h1 3 _ rfl
      exact one_int 3 Tryd.underlying5 (by kernel_rfl) h2 hd2.symm
    · obtain ⟨f2, d2, q2, hd2, h2⟩ := struct_of Tryd.underlying95 h1 4 _ rfl
      exact one_int 4 Tryd.underlying3 (by kernel_rfl) h2 hd2.symm
    · obtain ⟨f2, d2, q2, hd2, h2⟩ := struct_of Tryd.underlying95 h1 5 _ rfl
      exact one_int 5 Tryd.underlying5 (by kernel_rfl) h2 hd2.symm
  rw [← key, List.getElem?_take, if_pos hk, List.getElem?_drop]
  simp
end Go.Proofs.YtlmbbohhdgeedaaDoor
