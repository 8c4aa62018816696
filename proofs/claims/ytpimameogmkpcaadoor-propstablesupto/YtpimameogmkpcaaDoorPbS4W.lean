/-
  append of texts handed in onto nothing; spans of one's own.
-/
import Derived.Test.YtpimameogmkpcaaDoorPbS2W
namespace Go.Proofs.YtpimameogmkpcaaDoor
open Go.RowKit Go.Shelf
theorem app_nil (w : World) (ty : TypeId) : (Builtin.append_ #[22, 22] ty #[.slice none 0 0, .slice none 0 0]).run Tryd.prog w = .ok (.slice none 0 0) w := by
  go_simp
theorem wpList_spread {ops : Array Oper} {rest : List Oper} {op : Oper} {a : Act} {w : World} {Q : Exit → Act → World → Prop} (hgd : op.guard = none) (s x : Operand) (ho : op.op = .call { callee := .builtin .append, args := #[s, x], argTypes := #[22, 22] })
    (aN : Option Addr) (L : List ByteArray) (cN base : Nat) (hs : a.eval s = .slice none 0 0) (hx : a.eval x = .slice aN L.length cN) (hnil : aN = none → cN = 0) (ha : SA w aN L) (hl : L.length ≤ 1000000000) (hb : base ≤ w.heap.size)
    (h : ∀ v' w', OwnS w' base v' L → w.grownBy w' none → wpList Tryd.prog ops Q rest (a.put op.dst v') w') : wpList Tryd.prog ops Q (op :: rest) a w := by
  obtain ⟨i0, hi, hz0, hz1, hz2⟩ := info_parts infoStr
  cases aN with
  | none =>
    have hL : L = [] := by
      cases L with
      | nil => rfl
      | cons y r => obtain ⟨b, off, e, _⟩ := ha.at' 0 (by simp); cases e
    subst hL
    have hc := hnil rfl
    subst hc
    refine wpList_plain hgd fun K hK => ?_
    have hr := app_nil w op.type
    unfold Oper.wp execOp
    simp only [ho, resolve, invoke, builtin, Sem.run_bind, Sem.run_pure, Result.andThen_ok, List.map_toArray, List.map_cons, List.map_nil, hs, hx, List.length_nil, hr]
    exact hK _ _ (h _ _ (World.ownsRow_nil _ _ _ _) ⟨rfl, rfl, rfl, Nat.le_refl _, fun _ _ _ => rfl⟩)
  | some ad =>
    refine wpList_append_own _ hgd s x 22 ho base 9 i0 (.string ⟨#[]⟩) 1 16 Tryd.underlying22 hi hz0 hz1 hz2 rfl (by decide) (.slice none 0 0) 0 [] hs (World.ownsRow_nil _ _ _ _) ad L.length cN (cellsS L) hx (by simp [cellsS]) (fun j u hu => ?_) (fun u hu => by obtain ⟨y, _, rfl⟩ := List.mem_map.1 hu; rfl) (by unfold maxLen; omega) (by omega) hb (fun v' w' h1 h2 _ => h v' w' (by rw [Nat.zero_add] at h1; exact h1) h2)
    have hj : j < L.length := by have := (List.getElem?_eq_some_iff.1 hu).1; simpa [cellsS] using this
    obtain ⟨b, off, e, h1, h2⟩ := ha.at' j hj
    cases e
    rw [Addr.add_mid, h2]
    have : (cellsS L)[j]? = some (.string L[j]) := by simp [cellsS, hj]
    rw [this] at hu
    exact hu
def cellsP (l : List Sp) : List Value := l.flatMap fun u => [.int .i64 u.1, .int .i64 u.2.1, .int .i64 u.2.2]
theorem cellsP_append (l m : List Sp) : cellsP (l ++ m) = cellsP l ++ cellsP m := by simp [cellsP]
theorem cellsP_at (l : List Sp) : ∀ (k : Nat) (h : k < l.length), (cellsP l)[k * 3]? = some (.int .i64 l[k].1) ∧ (cellsP l)[k * 3 + 1]? = some (.int .i64 l[k].2.1) ∧ (cellsP l)[k * 3 + 2]? = some (.int .i64 l[k].2.2) := by
  induction l with
  | nil => intro k h; simp at h
  | cons u l ih =>
    intro k h
    have e : cellsP (u :: l) = .int .i64 u.1 :: .int .i64 u.2.1 :: .int .i64 u.2.2 :: cellsP l := rfl
    cases k with
    | zero => rw [e]; simp
    | succ k =>
      obtain ⟨h1, h2, h3⟩ := ih k (by simpa using h)
      rw [e, show (k + 1) * 3 = k * 3 + 1 + 1 + 1 by omega]
      exact ⟨by simpa using h1, by simpa using h2, by simpa using h3⟩
def OwnP (w : World) (base : Nat) (v : Value) (l : List Sp) : Prop := w.ownsRow base 38 3 v l.length (cellsP l)
theorem infoSpan : (Tryd.prog.info? 38).map (fun i => (i.zero, i.size, i.bytes)) = some (some (.agg #[.int .i64 0, .int .i64 0, .int .i64 0]), 3, 24) := by kernel_rfl
theorem OwnP.pa {w : World} {base : Nat} {v : Value} {l : List Sp} (h : OwnP w base v l) : ∃ a cap, v = .slice a l.length cap ∧ PA w a l ∧ (∀ p, a = some p → p.block < w.heap.size) ∧ l.length ≤ cap := by
  have h0 := h
  rcases h.2 with ⟨rfl, hn⟩ | ⟨g, cap, cur, rfl, hg, hr, hc, _⟩
  · exact ⟨none, 0, by rw [hn], ⟨fun k hk => by omega⟩, (fun p hp => by simp at hp), by omega⟩
  · have hlt := (World.ownsRow.lt h0 g rfl).2
    refine ⟨_, cap, rfl, ⟨fun k hk => ⟨g, 0, rfl, hlt, ?_⟩⟩, fun p hp => by cases hp; exact hlt, hc⟩
    refine ⟨?_, ?_, ?_⟩
    · rw [Nat.zero_add, World.ownsRow.cellAt h0 (k * 3) (by omega)]; exact (cellsP_at l k hk).1
    · rw [Nat.zero_add, World.ownsRow.cellAt h0 (k * 3 + 1) (by omega)]; exact (cellsP_at l k hk).2.1
    · rw [Nat.zero_add, World.ownsRow.cellAt h0 (k * 3 + 2) (by omega)]; exact (cellsP_at l k hk).2.2
def lastH (ss : List Sp) (k : Nat) : Int := if k = 0 then -1 else ((ss[k - 1]?).map (fun s => s.2.1)).getD 0
theorem lastH_next (ss : List Sp) (k : Nat) (h : k < ss.length) : lastH ss (k + 1) = ss[k].2.1 := by
  rw [lastH, if_neg (by omega), Nat.add_sub_cancel, List.getElem?_eq_getElem h]; rfl
theorem lastH_b {N : Int} {ss : List Sp} (hR : Rise N ss) (k : Nat) (h : k ≤ ss.length) : -1 ≤ lastH ss k ∧ lastH ss k ≤ 1114111 ∧ (∀ s ∈ ss.take k, s.2.1 ≤ lastH ss k) ∧ (∀ (q : k < ss.length), lastH ss k < ss[k].1) := by
  cases k with
  | zero => exact ⟨by simp [lastH], by simp [lastH], (fun s hs => by simp at hs), fun q => by have := hR.one _ (List.getElem_mem q); simp [lastH]; omega⟩
  | succ k =>
    have e := lastH_next ss k (by omega)
    have h1 := hR.one _ (List.getElem_mem (show k < ss.length by omega))
    rw [e]
    refine ⟨by omega, by omega, fun s hs => ?_, fun q => ?_⟩
    · rw [take_succ_snoc (by omega)] at hs
      rcases List.mem_append.1 hs with hs | hs
      · have h2 := hR.before (show k < ss.length by omega) s hs
        omega
      · rw [List.mem_singleton.1 hs]; exact Int.le_refl _
    · exact hR.behind (by omega) _ (by rw [List.drop_eq_getElem_cons q]; exact List.mem_cons_self)
theorem cutL_take (ss : List Sp) (k : Nat) (h : k < ss.length) : cutL (ss.take (k + 1)) = cutL (ss.take k) ++ cut1 ss[k] := by
  rw [take_succ_snoc h, cutL, List.flatMap_append]
  simp only [List.flatMap_cons, List.flatMap_nil, List.append_nil]
  rfl
theorem cutL_len : ∀ (ss : List Sp), (cutL ss).length ≤ 2 * ss.length
  | [] => by simp [cutL]
  | s :: r => by
    have e : cutL (s :: r) = cut1 s ++ cutL r := rfl
    have h1 : (cut1 s).length ≤ 2 := by unfold cut1; split <;> simp
    have ih := cutL_len r
    rw [e, List.length_append, List.length_cons]
    omega
end Go.Proofs.YtpimameogmkpcaaDoor
