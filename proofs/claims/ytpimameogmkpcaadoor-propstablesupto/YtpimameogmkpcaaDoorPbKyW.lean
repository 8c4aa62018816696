/-
  Blocks as keys of a map; the map that knows where a block stands.
-/
import Derived.Test.YtpimameogmkpcaaDoorPbPtW
import Derived.Maps.OwnSet
import Derived.Maps.OwnOps
import Derived.DeepKeys4
import Derived.Great.BuildSlice
namespace Go.Proofs.YtpimameogmkpcaaDoor
open Go.RowKit Go.Maps Go.ChangeShapes
theorem law70 : Keyed Tryd.prog 70 := Keyed.of_law (deep_law_laid (m := 5) (by kernel_rfl) (by decide) (of_decide_eq_true (by kernel_rfl)) (by kernel_rfl) (by kernel_rfl))
theorem keyType70 : Tryd.prog.keyType 70 = true := by kernel_rfl
theorem cells70 : Tryd.prog.cellsOf 70 = 128 := by kernel_rfl
theorem cells5 : Tryd.prog.cellsOf 5 = 1 := by kernel_rfl
theorem types1 : ∃ m, Tryd.prog.types.size = m + 1 := ⟨Tryd.prog.types.size - 1, by kernel_rfl⟩
/-- A block whose numbers are bytes. -/
structure IsB (b : List Int) : Prop where
  len : b.length = 128
  byte : ∀ x ∈ b, 0 ≤ x ∧ x ≤ 255
theorem mapM_some {α β : Type} {f : α → Option β} : ∀ (l : List α), (∀ a ∈ l, ∃ y, f a = some y) → ∃ ys, l.mapM f = some ys
  | [], _ => ⟨[], rfl⟩
  | a :: l, h => by
    obtain ⟨y, hy⟩ := h a (by simp)
    obtain ⟨ys, hys⟩ := mapM_some l (fun b hb => h b (by simp [hb]))
    exact ⟨y :: ys, by rw [List.mapM_cons, hy, hys]; rfl⟩
theorem key_some {b : List Int} (h : IsB b) : ∃ l, keyOf Tryd.prog 70 (.agg (cellsB b)) = some l := by
  have hl : (cellsB b).toList = b.map (Value.int .u8) := by simp [cellsB]
  have hlen : (b.map (Value.int .u8)).length = 128 := by rw [List.length_map, h.len]
  obtain ⟨m, hm⟩ := types1
  have hk : ∃ ls, Tryd.prog.keyLits (m + 1 + 1) 70 (b.map (Value.int .u8)) = some ls := by
    unfold Program.keyLits
    simp only [Tryd.underlying70]
    rw [if_pos (by rw [cells70]; exact hlen)]
    obtain ⟨ys, hys⟩ := mapM_some (f := fun i => Tryd.prog.keyLits (m + 1) 5 (((b.map (Value.int .u8)).drop (i * Tryd.prog.cellsOf 5)).take (Tryd.prog.cellsOf 5))) (List.range 128) (fun i hi => by
      have hi' := List.mem_range.1 hi
      have hib : i < b.length := by rw [h.len]; exact hi'
      rw [cells5, Nat.mul_one, List.drop_eq_getElem_cons (by rw [List.length_map]; exact hib)]
      simp only [List.take_succ_cons, List.take_zero, List.getElem_map]
      unfold Program.keyLits
      simp only [Tryd.underlying5]
      have hb := h.byte _ (List.getElem_mem hib)
      have hwf : (Lit.int .u8 (b[i])).wf = true := by
        simp [Lit.wf, IntKind.min, IntKind.max, IntKind.bits, IntKind.signed]; omega
      exact ⟨[.int .u8 b[i]], by rw [if_pos ⟨trivial, hwf⟩]⟩)
    exact ⟨ys.flatten, by rw [hys]; rfl⟩
  obtain ⟨ls, hls⟩ := hk
  refine ⟨.string (keyBytes ls), ?_⟩
  unfold keyOf
  simp only [Tryd.underlying70]
  rw [if_pos (by simp [keyType70, Value.formed, Tryd.underlying70, cells70, cellsB_size, h.len]), hm]
  simp only [Value.cells, hl, hls, Option.map_some]
noncomputable def keyB (b : List Int) : Lit := (keyOf Tryd.prog 70 (.agg (cellsB b))).getD (.bool false)
theorem key_of {b : List Int} (h : IsB b) : keyOf Tryd.prog 70 (.agg (cellsB b)) = some (keyB b) := by
  obtain ⟨l, hl⟩ := key_some h
  rw [keyB, hl]; rfl
theorem keyB_inj {b c : List Int} (hb : IsB b) (hc : IsB c) (h : keyB b = keyB c) : b = c := by
  have h1 := key_of hb
  have h2 := key_of hc
  rw [h] at h1
  have := law70.inj h1 h2
  simp only [Value.agg.injEq] at this
  exact cellsB_inj this
theorem keyB_lit {b : List Int} (hb : IsB b) : WideAt.IsKeyLit (keyB b) := law70.key (key_of hb)
/-- The map in block B knows where each block of L stands. -/
def Known (w : World) (B : Nat) (L : List (List Int)) : Prop :=
  ∃ (n : Nat) (D : DataW Unit), w.ownsMap Tryd.prog 70 (plainElem Tryd.prog 3) B n D ∧ n ≤ L.length ∧ ∀ b, IsB b → Maps.has D (keyB b) = L.contains b ∧ (b ∈ L → D.atKey (keyB b) (.lit (.int .i64 0)) = .lit (.int .i64 (L.idxOf b : Int)))
theorem Known.made (w : World) : Known (w.alloc (.map #[] 0)) w.heap.size [] :=
  ⟨0, .map [], World.ownsMap_made w _ _ _, Nat.le_refl _, fun b _ => ⟨rfl, fun h => by simp at h⟩⟩
theorem Known.block {w w' : World} {B : Nat} {L : List (List Int)} (h : Known w B L) (hb : w'.heap[B]? = w.heap[B]?) : Known w' B L := by
  obtain ⟨n, D, ⟨es, clock, h1, h2⟩, h3⟩ := h
  exact ⟨n, D, ⟨es, clock, hb.trans h1, h2⟩, h3⟩
theorem known_put {D : DataW Unit} {L : List (List Int)} {b : List Int} (hD : Maps.IsMap D) (hb : IsB b) (hn : ¬ b ∈ L)
    (h : ∀ c, IsB c → Maps.has D (keyB c) = L.contains c ∧ (c ∈ L → D.atKey (keyB c) (.lit (.int .i64 0)) = .lit (.int .i64 (L.idxOf c : Int)))) :
    ∀ c, IsB c → Maps.has (D.put (keyB b) (.lit (.int .i64 (L.length : Int)))) (keyB c) = (L ++ [b]).contains c ∧ (c ∈ L ++ [b] → (D.put (keyB b) (.lit (.int .i64 (L.length : Int)))).atKey (keyB c) (.lit (.int .i64 0)) = .lit (.int .i64 ((L ++ [b]).idxOf c : Int))) := by
  intro c hc
  by_cases e : c = b
  · subst e
    refine ⟨?_, fun _ => ?_⟩
    · rw [Maps.has_put_same hD (keyB_lit hb)]; simp
    · rw [Maps.atKey_put_same hD (keyB_lit hb), idx_new L c hn]
  · have hne : keyB c ≠ keyB b := fun h => e (keyB_inj hc hb h)
    obtain ⟨h1, h2⟩ := h c hc
    refine ⟨?_, fun hm => ?_⟩
    · rw [Maps.has_put_other hne, h1]; simp [e]
    · have hm' : c ∈ L := by
        rcases List.mem_append.1 hm with hm | hm
        · exact hm
        · exact absurd (List.mem_singleton.1 hm) e
      rw [Maps.atKey_put_other hne, h2 hm', idx_snoc L c b hm']
end Go.Proofs.YtpimameogmkpcaaDoor
