/-
  append of spans handed in onto nothing.
-/
import Derived.Test.YtpimameogmkpcaaDoorPbS4W
namespace Go.Proofs.YtpimameogmkpcaaDoor
open Go.RowKit Go.Shelf
theorem app_nilP (w : World) (ty : TypeId) : (Builtin.append_ #[23, 23] ty #[.slice none 0 0, .slice none 0 0]).run Tryd.prog w = .ok (.slice none 0 0) w := by
  go_simp
theorem cellsP_length (l : List Sp) : (cellsP l).length = l.length * 3 := by
  induction l with
  | nil => rfl
  | cons u l ih =>
    have e : cellsP (u :: l) = .int .i64 u.1 :: .int .i64 u.2.1 :: .int .i64 u.2.2 :: cellsP l := rfl
    rw [e]; simp [ih]; omega
theorem wpList_spreadP {ops : Array Oper} {rest : List Oper} {op : Oper} {a : Act} {w : World} {Q : Exit → Act → World → Prop} (hgd : op.guard = none) (s x : Operand) (ho : op.op = .call { callee := .builtin .append, args := #[s, x], argTypes := #[23, 23] })
    (aN : Option Addr) (L : List Sp) (cN base : Nat) (hs : a.eval s = .slice none 0 0) (hx : a.eval x = .slice aN L.length cN) (hnil : aN = none → cN = 0) (ha : PA w aN L) (hl : L.length ≤ 1000000000) (hb : base ≤ w.heap.size)
    (h : ∀ v' w', OwnP w' base v' L → w.grownBy w' none → wpList Tryd.prog ops Q rest (a.put op.dst v') w') : wpList Tryd.prog ops Q (op :: rest) a w := by
  obtain ⟨i0, hi, hz0, hz1, hz2⟩ := info_parts infoSpan
  cases aN with
  | none =>
    have hL : L = [] := by
      cases L with
      | nil => rfl
      | cons y r => obtain ⟨b, off, e, _⟩ := ha.at' 0 (by simp); cases e
    subst hL
    have hc := hnil rfl
    subst hc
    refine wpList_plain hgd fun K hK => ?_
    have hr := app_nilP w op.type
    unfold Oper.wp execOp
    simp only [ho, resolve, invoke, builtin, Sem.run_bind, Sem.run_pure, Result.andThen_ok, List.map_toArray, List.map_cons, List.map_nil, hs, hx, List.length_nil, hr]
    exact hK _ _ (h _ _ (World.ownsRow_nil _ _ _ _) ⟨rfl, rfl, rfl, Nat.le_refl _, fun _ _ _ => rfl⟩)
  | some ad =>
    refine wpList_append_own _ hgd s x 23 ho base 38 i0 (.agg #[.int .i64 0, .int .i64 0, .int .i64 0]) 3 24 Tryd.underlying23 hi hz0 hz1 hz2 rfl (by decide) (.slice none 0 0) 0 [] hs (World.ownsRow_nil _ _ _ _) ad L.length cN (cellsP L) hx (cellsP_length L) (fun j u hu => ?_) (fun u hu => by simp only [cellsP, List.mem_flatMap, List.mem_cons, List.not_mem_nil, or_false] at hu; obtain ⟨y, _, rfl | rfl | rfl⟩ := hu <;> rfl) (by unfold maxLen; omega) (by omega) hb (fun v' w' h1 h2 _ => h v' w' (by rw [Nat.zero_add] at h1; exact h1) h2)
    have hj : j < L.length * 3 := by have := (List.getElem?_eq_some_iff.1 hu).1; rwa [cellsP_length] at this
    obtain ⟨b, off, e, h1, h2⟩ := ha.at' (j / 3) (by omega)
    cases e
    rw [Addr.add_mid]
    obtain ⟨q0, q1, q2⟩ := cellsP_at L (j / 3) (by omega)
    have h3 : j % 3 = 0 ∨ j % 3 = 1 ∨ j % 3 = 2 := by omega
    rcases h3 with h3 | h3 | h3
    · have ej : j = j / 3 * 3 := by omega
      rw [ej] at hu
      rw [q0] at hu
      rw [show off + j = off + j / 3 * 3 by omega, h2.1]
      exact hu
    · have ej : j = j / 3 * 3 + 1 := by omega
      rw [ej] at hu
      rw [q1] at hu
      rw [show off + j = off + j / 3 * 3 + 1 by omega, h2.2.1]
      exact hu
    · have ej : j = j / 3 * 3 + 2 := by omega
      rw [ej] at hu
      rw [q2] at hu
      rw [show off + j = off + j / 3 * 3 + 2 by omega, h2.2.2]
      exact hu
/-- The document's own table in memory. -/
structure RTab (w : World) (lo U : Nat) (L : List ByteArray) (ss : List Sp) (vN vS : Value) : Prop where
  low : lo ≤ U
  row : w.heap[U]? = some (.cells #[vN, vS] 73 (0, 0))
  names : OwnS w lo vN L
  spans : OwnP w lo vS ss
theorem app_nil_on (w : World) (ty : TypeId) (p : Addr) (n c : Nat) (hn : n ≤ c) : (Builtin.append_ #[22, 22] ty #[.slice (some p) n c, .slice none 0 0]).run Tryd.prog w = .ok (.slice (some p) n c) w := by
  go_simp
theorem wpList_spreadOn {ops : Array Oper} {rest : List Oper} {op : Oper} {a : Act} {w : World} {Q : Exit → Act → World → Prop} (hgd : op.guard = none) (s x : Operand) (ho : op.op = .call { callee := .builtin .append, args := #[s, x], argTypes := #[22, 22] })
    (p : Addr) (M : List ByteArray) (cM : Nat) (aN : Option Addr) (L : List ByteArray) (cN base : Nat) (hs : a.eval s = .slice (some p) M.length cM) (hM : M.length ≤ cM) (hown : OwnS w base (.slice (some p) M.length cM) M) (hx : a.eval x = .slice aN L.length cN) (hnil : aN = none → cN = 0) (ha : SA w aN L) (hl : M.length + L.length ≤ 1000000) (hb : base ≤ w.heap.size)
    (h : ∀ v' w', OwnS w' base v' (M ++ L) → w.grownBy w' (some p.block) → wpList Tryd.prog ops Q rest (a.put op.dst v') w') : wpList Tryd.prog ops Q (op :: rest) a w := by
  obtain ⟨i0, hi, hz0, hz1, hz2⟩ := info_parts infoStr
  cases aN with
  | none =>
    have hL : L = [] := by
      cases L with
      | nil => rfl
      | cons y r => obtain ⟨b, off, e, _⟩ := ha.at' 0 (by simp); cases e
    subst hL
    have hc := hnil rfl
    subst hc
    refine wpList_plain hgd fun K hK => ?_
    have hr := app_nil_on w op.type p M.length cM hM
    unfold Oper.wp execOp
    simp only [ho, resolve, invoke, builtin, Sem.run_bind, Sem.run_pure, Result.andThen_ok, List.map_toArray, List.map_cons, List.map_nil, hs, hx, List.length_nil, hr]
    exact hK _ _ (h _ _ (by rw [List.append_nil]; exact hown) ⟨rfl, rfl, rfl, Nat.le_refl _, fun _ _ _ => rfl⟩)
  | some ad =>
    refine wpList_append_own _ hgd s x 22 ho base 9 i0 (.string ⟨#[]⟩) 1 16 Tryd.underlying22 hi hz0 hz1 hz2 rfl (by decide) (.slice (some p) M.length cM) M.length (cellsS M) hs hown ad L.length cN (cellsS L) hx (by simp [cellsS]) (fun j u hu => ?_) (fun u hu => by obtain ⟨y, _, rfl⟩ := List.mem_map.1 hu; rfl) (by unfold maxLen; omega) (by omega) hb (fun v' w' h1 h2 _ => h v' w' (by unfold OwnS; rw [List.length_append, show cellsS (M ++ L) = cellsS M ++ cellsS L by simp [cellsS]]; exact h1) h2)
    have hj : j < L.length := by have := (List.getElem?_eq_some_iff.1 hu).1; simpa [cellsS] using this
    obtain ⟨b, off, e, h1, h2⟩ := ha.at' j hj
    cases e
    rw [Addr.add_mid, h2]
    have : (cellsS L)[j]? = some (.string L[j]) := by simp [cellsS, hj]
    rw [this] at hu
    exact hu
end Go.Proofs.YtpimameogmkpcaaDoor
