/-
  MbTW, MbUW, MbVM, MbWM, MbXM, MbYM, MbZM.
-/
import Derived.Test.YtbbejfkgopcjoaaDoorNeam
namespace Go.Proofs.YtbbejfkgopcjoaaDoor
open Go.RowKit Go.Shelf
set_option maxRecDepth 10000 in
set_option maxHeartbeats 1600000 in
theorem addBit_any (lo fr p : Nat) (l : List (Nat × Nat)) (v : Value) (w : World) (ho : OwnP w lo v l) (hlo : lo ≤ w.heap.size) (hfr : fr ≤ l.length) (hl : l.length ≤ 1000000000) (hp : p ≤ 1000000000) (hx : ∀ x ∈ l, x.1 ≤ 1000000000 ∧ x.2 < 18446744073709551616) :
    Calls Tryd.prog 70 #[v, .int .i64 (fr : Int), .int .i64 (p : Int)] w fun e w' => ∃ v', e = .returned v' ∧ ApP w w' lo v v' (addW l fr p) := by
  obtain ⟨i0, hi, hz⟩ := Option.map_eq_some_iff.1 infoWord
  simp only [Prod.mk.injEq] at hz
  obtain ⟨hz0, hz1, hz2⟩ := hz
  obtain ⟨d, hd⟩ : ∃ d : Nat, d = p / 64 := ⟨_, rfl⟩
  have hp0 : (0 : Int) ≤ (p : Int) := by omega
  have hdI : (p : Int) / 64 = (d : Int) := by omega
  have hmI : (0 : Int) ≤ (p : Int) % 64 := by omega
  have hmI2 : (p : Int) % 64 < 64 := by omega
  obtain ⟨b, hb⟩ : ∃ b : Nat, b = 2 ^ (p % 64) := ⟨_, rfl⟩
  have hbl : b < 18446744073709551616 := by
    rw [hb]; exact Nat.lt_of_lt_of_le (Nat.pow_lt_pow_right (by omega) (Nat.mod_lt p (by omega) : p % 64 < 64)) (by decide)
  have hwb : IntKind.u64.wrap (2 ^ (p % 64)) = (b : Int) := by
    rw [hb, IntKind.wrap_u64]
    have e : (2 : Int) ^ (p % 64) = ((2 ^ (p % 64) : Nat) : Int) := by simp
    rw [e]
    rw [hb] at hbl
    omega
  obtain ⟨a, c, rfl⟩ := own_sl ho
  have hlI : (l.length : Int) ≤ 1000000000 := by omega
  have HO := hid0 ho
  -- a row that ends in a word for the place
  have HUp : Hid (∀ (w1 : World) (v1 : Value) (l1 : List (Nat × Nat)) (m : Nat), l1.length = m + 1 → (l1.getD m (0, 0)).1 = p / 64 → (l1.getD m (0, 0)).2 < 18446744073709551616 → ApP w w1 lo (.slice a l.length c) v1 l1 → ∃ g c' x y, v1 = .slice (some ⟨g, 0, none⟩) (m + 1) c' ∧ w1.cell? ⟨g, m * 2 + 1, none⟩ = some (.int .u64 (x : Int)) ∧ w1.frozen? ⟨g, m * 2 + 1, none⟩ = false ∧ bits .or .u64 (x : Int) (b : Int) = (y : Int) ∧ ApP w (w1.drew.setCell ⟨g, m * 2 + 1, none⟩ (.int .u64 (y : Int))) lo (.slice a l.length c) v1 (upW l1 p)) := hid0 (fun w1 v1 l1 m hm h1 h2 h => by
    obtain ⟨g, c', e, _, _, _, k1, k2⟩ := h.own.at' (i := m) (by omega)
    subst e
    have e3 : l1.getD m (0, 0) = l1[m] := by rw [List.getD_eq_getElem?_getD, List.getElem?_eq_getElem (by omega)]; rfl
    refine ⟨g, c', (l1[m]).2, (l1[m]).2 ||| b, by rw [hm], k1, k2, bits_or_u64_nat _ _ (by rw [← e3]; exact h2) hbl, h.up hm h1 (by rw [e3, hb])⟩)
  by_cases hq : l.length = fr ∨ (l.getD (l.length - 1) (0, 0)).1 ≠ p / 64
  · have HE : Hid (addW l fr p = upW (l ++ [(p / 64, 0)]) p) := hid0 (by unfold addW nxW; rw [if_pos hq])
    have HU : Hid (∀ (w1 : World) (v1 : Value), ApP w w1 lo (.slice a l.length c) v1 (l ++ [(p / 64, 0)]) → ∃ g c' x y, v1 = .slice (some ⟨g, 0, none⟩) (l.length + 1) c' ∧ w1.cell? ⟨g, l.length * 2 + 1, none⟩ = some (.int .u64 (x : Int)) ∧ w1.frozen? ⟨g, l.length * 2 + 1, none⟩ = false ∧ bits .or .u64 (x : Int) (b : Int) = (y : Int) ∧ ApP w (w1.drew.setCell ⟨g, l.length * 2 + 1, none⟩ (.int .u64 (y : Int))) lo (.slice a l.length c) v1 (addW l fr p)) := hid0 (fun w1 v1 h => by
      rw [HE.out]
      exact HUp.out w1 v1 _ l.length (by simp) (by simp) (by simp) h)
    have hcs : ((l.length : Int) == (fr : Int)) = true ∨ (((l.length : Int) == (fr : Int)) = false ∧ ∃ g n x, l.length = n + 1 ∧ a = some ⟨g, 0, none⟩ ∧ w.cell? ⟨g, n * 2, none⟩ = some (.int .i64 (x : Int)) ∧ ((x : Int) == (d : Int)) = false) := by
      by_cases e : l.length = fr
      · left; simp [e]
      · right
        refine ⟨by rw [beq_eq_false_iff_ne]; omega, ?_⟩
        have hlt : l.length - 1 < l.length := by omega
        obtain ⟨g, c', e1, _, _, k0, _⟩ := ho.at' hlt
        have e3 : l.getD (l.length - 1) (0, 0) = l[l.length - 1] := by rw [List.getD_eq_getElem?_getD, List.getElem?_eq_getElem hlt]; rfl
        refine ⟨g, l.length - 1, (l[l.length - 1]).1, by omega, by injection e1, k0, ?_⟩
        have := hq.resolve_left e
        rw [e3] at this
        rw [beq_eq_false_iff_ne]; omega
    have hdn : p / 64 = d := hd.symm
    rw [hdn] at HU
    clear hq hd hb HUp HE ho hdn
    rcases hcs with h1 | ⟨h1, g0, n0, x0, hn0, rfl, k0, h2⟩
    · go_enter Tryd.func70, Tryd.ntmps70
      go_upto_region 5 with (at_builtin; go_loud ((refine wpList_append_own_at _ rfl _ _ 84 rfl lo 130 i0 (.agg #[.int .i64 0, .int .u64 0]) 2 16 Tryd.underlying84 hi hz0 hz1 hz2 rfl (by decide) (.slice a l.length c) l.length (cells2 l) rfl (World.ownsRow.alloc HO.out _) ⟨w.heap.size, 0, none⟩ 1 1 (cells2 [(d, 0)]) rfl rfl (cell_two_new _ _ _ _) (cells2_one _) (by unfold maxLen; omega) (by omega) (by simp; omega) ?_; intro v1 w1 h1 h2 _ h4; have R := hid0 (HU.out w1 v1 (apP_one h1 h2 h4)); clear h1 h2 h4)))
      obtain ⟨g, c', x, y, rfl, k1, k2, hor, hA⟩ := R.out
      have HA := hid0 hA
      clear hA R HU
      go_wp2
      go_region
      all_goals
        go_wp2
        go_ret
        exact ⟨_, rfl, HA.out⟩
    · have HN0 := hid0 hn0
      have h1' : ((n0 : Int) + 1 == (fr : Int)) = false := by rw [hn0] at h1; push_cast at h1; exact h1
      have HOn : Hid (w.ownsRow lo 130 2 (.slice (some ⟨g0, 0, none⟩) (n0 + 1) c) (n0 + 1) (cells2 l)) := hid0 (by have h := HO.out; unfold OwnP at h; rw [hn0] at h; exact h)
      rw [hn0] at HU ⊢
      have hnb : n0 ≤ 999999999 := by omega
      clear hn0 h1 HO hl hlI hfr hx
      go_enter Tryd.func70, Tryd.ntmps70
      go_upto_region 5 with (at_builtin; go_loud ((refine wpList_append_own_at _ rfl _ _ 84 rfl lo 130 i0 (.agg #[.int .i64 0, .int .u64 0]) 2 16 Tryd.underlying84 hi hz0 hz1 hz2 rfl (by decide) (.slice (some ⟨g0, 0, none⟩) (n0 + 1) c) (n0 + 1) (cells2 l) rfl (World.ownsRow.alloc HOn.out _) ⟨w.heap.size, 0, none⟩ 1 1 (cells2 [(d, 0)]) rfl rfl (cell_two_new _ _ _ _) (cells2_one _) (by unfold maxLen; omega) (by omega) (by simp; omega) ?_; intro v1 w1 h1 h2 _ h4; have R := hid0 (HU.out w1 v1 (apP_one (by rw [HN0.out]; exact h1) h2 h4)); clear h1 h2 h4)))
      obtain ⟨g, c', x, y, rfl, k1, k2, hor, hA⟩ := R.out
      have HA := hid0 hA
      clear hA R HU
      go_wp2
      go_region
      all_goals
        go_wp2
        go_ret
        exact ⟨_, rfl, HA.out⟩
  · have hq2 : l.length ≠ fr ∧ (l.getD (l.length - 1) (0, 0)).1 = p / 64 := by
      refine ⟨fun e => hq (.inl e), ?_⟩
      by_cases e : (l.getD (l.length - 1) (0, 0)).1 = p / 64
      · exact e
      · exact absurd (.inr e) hq
    obtain ⟨n0, hn0⟩ : ∃ n0, l.length = n0 + 1 := ⟨l.length - 1, by omega⟩
    have hlt : n0 < l.length := by omega
    have e3 : l.getD n0 (0, 0) = l[n0] := by rw [List.getD_eq_getElem?_getD, List.getElem?_eq_getElem hlt]; rfl
    have e4 : (l.getD n0 (0, 0)).1 = p / 64 := by have h := hq2.2; rw [hn0] at h; exact h
    obtain ⟨g0, c0, e1, z1, z2, k0, z3⟩ := ho.at' hlt
    clear z1 z2 z3
    have e2 : a = some ⟨g0, 0, none⟩ := by injection e1
    subst e2
    have hself : ApP w w lo (.slice (some ⟨g0, 0, none⟩) l.length c) (.slice (some ⟨g0, 0, none⟩) l.length c) l := ⟨ho, Only.refl _ _, fun k hk => .inl hk⟩
    have hR := HUp.out w _ l n0 hn0 e4 (by rw [e3]; exact (hx _ (List.getElem_mem hlt)).2) hself
    obtain ⟨g, c', x, y, e5, k1, k2, hor, hA⟩ := hR
    have e6 : addW l fr p = upW l p := by unfold addW nxW; rw [if_neg hq]
    rw [← e6] at hA
    have e7 : g0 = g ∧ c = c' := by simp only [Value.slice.injEq, Option.some.injEq, Addr.mk.injEq, and_true] at e5; exact ⟨e5.1, e5.2.2⟩
    obtain ⟨rfl, rfl⟩ := e7
    rw [← e3, e4, ← hd] at k0
    have h1' : ((n0 : Int) + 1 == (fr : Int)) = false := by rw [beq_eq_false_iff_ne]; have := hq2.1; omega
    have HA := hid0 hA
    rw [hn0] at HA ⊢
    have hnb : n0 ≤ 999999999 := by omega
    have hdd : ((d : Int) != (d : Int)) = false := by simp
    clear hq hq2 hn0 hlt e3 e4 e1 hself hA e5 e6 hd hb HUp ho HO hx hl hlI hfr
    go_enter Tryd.func70, Tryd.ntmps70
    go_wp2
    go_region
    all_goals
      go_wp2
      go_ret
      exact ⟨_, rfl, HA.out⟩
end Go.Proofs.YtbbejfkgopcjoaaDoor
namespace Go.Proofs.YtbbejfkgopcjoaaDoor
open Go.RowKit Go.Shelf
theorem encW_none (f : Nat → Bool) : encW f 0 = [] := rfl
set_option maxRecDepth 10000 in
set_option maxHeartbeats 1600000 in
theorem part_none (B GT cT cS sy lo : Nat) (aS : Option Addr) (lt : Nat → Nat → Bool) (S : Nat → Bool) (old : Nat → List UInt8) (ps0 : Lob) (w : World) (hp : PtI w GT cT sy lo ps0 old w) :
    Calls Tryd.prog 48 #[.pointer (some ⟨B, 0, none⟩), .slice aS 0 cS] w fun e w' => (∃ v, e = .returned v) ∧ PtI w GT cT sy lo ps0 (fun c => old c ++ encW (andB S (lt c)) 0) w' := by
  have HF : Hid (PtI w GT cT sy lo ps0 (fun c => old c ++ encW (andB S (lt c)) 0) w) := hid0 (by simp only [encW_none, List.append_nil]; exact hp)
  clear hp
  go_enter Tryd.func48, Tryd.ntmps48
  go_wp2
  go_loopw [11] (fun i wr => i = .int .i64 0 ∧ wr = w) (fun _ _ => 0)
  case atStart => exact ⟨rfl, rfl⟩
  case round =>
    obtain ⟨rfl, rfl⟩ := hrel
    go_wp2
    go_end0
    exact ⟨⟨_, rfl⟩, HF.out⟩
end Go.Proofs.YtbbejfkgopcjoaaDoor
namespace Go.Proofs.YtbbejfkgopcjoaaDoor
open Go.RowKit Go.Shelf
theorem upW_snoc (r : List (Nat × Nat)) (x : Nat × Nat) (p : Nat) : upW (r ++ [x]) p = r ++ [(p / 64, x.2 ||| 2 ^ (p % 64))] := by
  unfold upW
  have e : (r ++ [x]).length - 1 = r.length := by simp
  rw [e, List.getD_eq_getElem?_getD, List.getElem?_append_right (Nat.le_refl _), Nat.sub_self, List.set_append_right _ _ (Nat.le_refl _), Nat.sub_self]
  rfl
/-- addBit's row, in two cases. -/
theorem addW_cases (l : List (Nat × Nat)) (fr p : Nat) (h : fr ≤ l.length) : (addW l fr p = l ++ [(p / 64, 2 ^ (p % 64))] ∧ (l.length = fr ∨ (l.getD (l.length - 1) (0, 0)).1 ≠ p / 64)) ∨ ∃ r y, l = r ++ [(p / 64, y)] ∧ addW l fr p = r ++ [(p / 64, y ||| 2 ^ (p % 64))] := by
  by_cases hq : l.length = fr ∨ (l.getD (l.length - 1) (0, 0)).1 ≠ p / 64
  · left
    refine ⟨?_, hq⟩
    unfold addW nxW
    rw [if_pos hq, upW_snoc]
    simp
  · right
    have h1 : l.length ≠ fr := fun e => hq (.inl e)
    have h2 : (l.getD (l.length - 1) (0, 0)).1 = p / 64 := by
      by_cases e : (l.getD (l.length - 1) (0, 0)).1 = p / 64
      · exact e
      · exact absurd (.inr e) hq
    have hne : l ≠ [] := fun e => by rw [e] at h h1; simp at h h1; exact h1 h.symm
    obtain ⟨r, x, rfl⟩ : ∃ r x, l = r ++ [x] := ⟨l.dropLast, l.getLast hne, (List.dropLast_concat_getLast hne).symm⟩
    have e : (r ++ [x]).length - 1 = r.length := by simp
    rw [e, List.getD_eq_getElem?_getD, List.getElem?_append_right (Nat.le_refl _), Nat.sub_self] at h2
    have h3 : x.1 = p / 64 := h2
    refine ⟨r, x.2, by rw [← h3], ?_⟩
    unfold addW nxW
    rw [if_neg hq, upW_snoc]
theorem addW_pre (pre r : List (Nat × Nat)) (p : Nat) : addW (pre ++ r) pre.length p = pre ++ addW r 0 p := by
  rcases addW_cases r 0 p (Nat.zero_le _) with ⟨e1, hq⟩ | ⟨r', y, e1, e2⟩
  · rw [e1]
    have hq2 : (pre ++ r).length = pre.length ∨ ((pre ++ r).getD ((pre ++ r).length - 1) (0, 0)).1 ≠ p / 64 := by
      by_cases h0 : r.length = 0
      · left; simp [List.length_eq_zero_iff.1 h0]
      · right
        have h2 := hq.resolve_left h0
        rw [List.getD_eq_getElem?_getD, List.getElem?_append_right (by rw [List.length_append]; omega), show (pre ++ r).length - 1 - pre.length = r.length - 1 by rw [List.length_append]; omega, ← List.getD_eq_getElem?_getD]
        exact h2
    unfold addW nxW
    rw [if_pos hq2, upW_snoc]
    simp
  · subst e1
    rw [e2]
    have hq2 : ¬ ((pre ++ (r' ++ [(p / 64, y)])).length = pre.length ∨ ((pre ++ (r' ++ [(p / 64, y)])).getD ((pre ++ (r' ++ [(p / 64, y)])).length - 1) (0, 0)).1 ≠ p / 64) := by
      rintro (h | h)
      · simp at h
      · rw [← List.append_assoc] at h
        have e : ((pre ++ r') ++ [(p / 64, y)]).length - 1 = (pre ++ r').length := by simp
        rw [e, List.getD_eq_getElem?_getD, List.getElem?_append_right (Nat.le_refl _), Nat.sub_self] at h
        exact h rfl
    unfold addW nxW
    rw [if_neg hq2, ← List.append_assoc, upW_snoc, List.append_assoc]
theorem same_place (p q : Nat) : (decide (p / 64 = q / 64) && decide (p % 64 = q % 64)) = decide (q = p) := by
  rw [← Bool.decide_and]
  congr 1
  apply propext
  constructor
  · rintro ⟨h1, h2⟩; omega
  · rintro rfl; exact ⟨rfl, rfl⟩
theorem inR_addW (l : List (Nat × Nat)) (fr p q : Nat) (h : fr ≤ l.length) : inR (addW l fr p) q = (inR l q || decide (q = p)) := by
  rcases addW_cases l fr p h with ⟨e1, _⟩ | ⟨r, y, rfl, e2⟩
  · rw [e1, inR_snoc, Nat.testBit_two_pow, same_place]
  · rw [e2, inR_snoc, inR_snoc, Nat.testBit_or, Nat.testBit_two_pow, Bool.and_or_distrib_left, same_place, Bool.or_assoc]
theorem addW_ok (l : List (Nat × Nat)) (fr p N : Nat) (h : fr ≤ l.length) (hp : p / 64 < N) (hl : ∀ x ∈ l, x.1 < N ∧ x.2 < 18446744073709551616) : ∀ x ∈ addW l fr p, x.1 < N ∧ x.2 < 18446744073709551616 := by
  have hb : 2 ^ (p % 64) < 18446744073709551616 := Nat.lt_of_lt_of_le (Nat.pow_lt_pow_right (by omega) (Nat.mod_lt p (by omega) : p % 64 < 64)) (by decide)
  rcases addW_cases l fr p h with ⟨e1, _⟩ | ⟨r, y, rfl, e2⟩
  · rw [e1]
    intro x hx
    rcases List.mem_append.1 hx with h1 | h1
    · exact hl x h1
    · rw [List.mem_singleton.1 h1]; exact ⟨hp, hb⟩
  · rw [e2]
    intro x hx
    rcases List.mem_append.1 hx with h1 | h1
    · exact hl x (List.mem_append.2 (.inl h1))
    · rw [List.mem_singleton.1 h1]
      have hy := (hl (p / 64, y) (by simp)).2
      exact ⟨hp, Nat.or_lt_two_pow (n := 64) hy hb⟩
/-- The row of a list of places. -/
def rowW (base : Nat) (L : List Nat) : List (Nat × Nat) := L.foldl (fun r p => addW r 0 (base + p)) []
theorem rowW_take (base : Nat) {L : List Nat} {k : Nat} (hk : k < L.length) : rowW base (L.take (k + 1)) = addW (rowW base (L.take k)) 0 (base + L[k]) := by
  unfold rowW
  rw [List.take_add_one, List.getElem?_eq_getElem hk, Option.toList_some, List.foldl_append]
  rfl
theorem inR_rowW (base : Nat) (L : List Nat) (q : Nat) : inR (rowW base L) q = L.any (fun p => decide (q = base + p)) := by
  have key : ∀ n, n ≤ L.length → inR (rowW base (L.take n)) q = (L.take n).any (fun p => decide (q = base + p)) := by
    intro n
    induction n with
    | zero => intro _; rfl
    | succ n ih =>
      intro hn
      rw [rowW_take base (by omega), inR_addW _ _ _ _ (Nat.zero_le _), ih (by omega), List.take_add_one, List.getElem?_eq_getElem (by omega : n < L.length), Option.toList_some, List.any_append]
      simp
  have h := key L.length (Nat.le_refl _)
  rw [List.take_length] at h
  exact h
theorem rowW_ok (base N : Nat) (L : List Nat) (hL : ∀ p ∈ L, base + p < 64 * N) : ∀ x ∈ rowW base L, x.1 < N ∧ x.2 < 18446744073709551616 := by
  have key : ∀ n, n ≤ L.length → ∀ x ∈ rowW base (L.take n), x.1 < N ∧ x.2 < 18446744073709551616 := by
    intro n
    induction n with
    | zero => intro _ x hx; simp [rowW] at hx
    | succ n ih =>
      intro hn
      rw [rowW_take base (by omega)]
      have := hL _ (List.getElem_mem (by omega : n < L.length))
      exact addW_ok _ _ _ _ (Nat.zero_le _) (by omega) (ih (by omega))
  have h := key L.length (Nat.le_refl _)
  rw [List.take_length] at h
  exact h
theorem addW_len (l : List (Nat × Nat)) (fr p : Nat) (h : fr ≤ l.length) : (addW l fr p).length ≤ l.length + 1 ∧ l.length ≤ (addW l fr p).length := by
  rcases addW_cases l fr p h with ⟨e1, _⟩ | ⟨r, y, rfl, e2⟩
  · rw [e1]; simp
  · rw [e2]; simp
end Go.Proofs.YtbbejfkgopcjoaaDoor
namespace Go.Proofs.YtbbejfkgopcjoaaDoor
open Go.RowKit Go.Shelf
theorem keepRow {W W' : World} {J lo : Nat} {t t' : TypeId} {s n : Nat} {v v0 : Value} {xs : List Value} {cs : Array Value} {f : Nat × Nat} (h : W.ownsRow lo t s v n xs) (hO : Only W W' (fun k => k = J ∨ v0.ownBlock = some k)) (hJ : W.heap[J]? = some (.cells cs t' f)) (ht : t ≠ t') (ha : ∀ k, v.ownBlock = some k → v0.ownBlock ≠ some k) : W'.ownsRow lo t s v n xs :=
  own_blk h (fun k hk => hO.block k (World.ownsRow.lt h k hk).2 (fun e => e.elim (fun e => own_ne_blk h hJ ht (e ▸ hk)) (ha k hk)))
/-- Two rows that share no block. -/
def Apt (v u : Value) : Prop := ∀ k, v.ownBlock = some k → u.ownBlock ≠ some k
theorem Apt.symm {v u : Value} (h : Apt v u) : Apt u v := fun k hk e => h k e hk
theorem Apt.ofTyp {W : World} {lo lo' : Nat} {t t' : TypeId} {s s' n n' : Nat} {v u : Value} {xs ys : List Value} (h : W.ownsRow lo t s v n xs) (k : W.ownsRow lo' t' s' u n' ys) (ht : t ≠ t') : Apt v u := fun g hg e => by
  obtain ⟨c, hc⟩ := own_typ k e
  exact own_ne_blk h hc ht hg
theorem Apt.new {W : World} {lo : Nat} {t : TypeId} {s n : Nat} {v v' u : Value} {xs : List Value} (h : Apt v u) (hu : W.ownsRow lo t s u n xs) (hn : ∀ k, v'.ownBlock = some k → v.ownBlock = some k ∨ W.heap.size ≤ k) : Apt v' u := fun k hk e => (hn k hk).elim (fun h1 => h k h1 e) (fun h1 => by have := (World.ownsRow.lt hu k e).2; omega)
structure JoS (W : World) (J sy lo : Nat) (vO vF vE vL vM vZ vP vC vS vA : Value) (own : List Nat) (it : List (Nat × Nat)) (en : List Nat) (N : Nat) (la op cl : Nat → Bool) (at0 alw : List Nat) : Prop where
  b : Jb W J sy vO vF vE vL vM vZ vP vC vS vA
  o : OwnI W lo vO (nI own)
  f : OwnP W lo vF it
  e : OwnI W lo vE (nI en)
  z : OwnU W lo vZ N la
  p : OwnU W lo vP N op
  c : OwnU W lo vC N cl
  s : OwnI W lo vS (nI at0)
  a : OwnI W lo vA (nI alw)
  qoe : Apt vO vE
  qos : Apt vO vS
  qoa : Apt vO vA
  qes : Apt vE vS
  qea : Apt vE vA
  qsa : Apt vS vA
  qzp : Apt vZ vP
  qzc : Apt vZ vC
  qpc : Apt vP vC
theorem JoS.at_o {W W' : World} {J sy lo : Nat} {vO vF vE vL vM vZ vP vC vS vA v' : Value} {own : List Nat} {it : List (Nat × Nat)} {en : List Nat} {N : Nat} {la op cl : Nat → Bool} {at0 alw : List Nat} {own' : List Nat} (h : JoS W J sy lo vO vF vE vL vM vZ vP vC vS vA own it en N la op cl at0 alw) (hb : Jb W' J sy v' vF vE vL vM vZ vP vC vS vA) (ho : OwnI W' lo v' (nI own')) (hO : Only W W' (fun k => k = J ∨ vO.ownBlock = some k)) (hn : ∀ k, v'.ownBlock = some k → vO.ownBlock = some k ∨ W.heap.size ≤ k) : JoS W' J sy lo v' vF vE vL vM vZ vP vC vS vA own' it en N la op cl at0 alw where
  b := hb
  o := ho
  f := keepRow h.f hO h.b.r (by decide) (Apt.ofTyp h.f h.o (by decide))
  e := keepRow h.e hO h.b.r (by decide) h.qoe.symm
  z := keepRow h.z hO h.b.r (by decide) (Apt.ofTyp h.z h.o (by decide))
  p := keepRow h.p hO h.b.r (by decide) (Apt.ofTyp h.p h.o (by decide))
  c := keepRow h.c hO h.b.r (by decide) (Apt.ofTyp h.c h.o (by decide))
  s := keepRow h.s hO h.b.r (by decide) h.qos.symm
  a := keepRow h.a hO h.b.r (by decide) h.qoa.symm
  qoe := h.qoe.new h.e hn
  qos := h.qos.new h.s hn
  qoa := h.qoa.new h.a hn
  qes := h.qes
  qea := h.qea
  qsa := h.qsa
  qzp := h.qzp
  qzc := h.qzc
  qpc := h.qpc
theorem JoS.at_f {W W' : World} {J sy lo : Nat} {vO vF vE vL vM vZ vP vC vS vA v' : Value} {own : List Nat} {it : List (Nat × Nat)} {en : List Nat} {N : Nat} {la op cl : Nat → Bool} {at0 alw : List Nat} {it' : List (Nat × Nat)} (h : JoS W J sy lo vO vF vE vL vM vZ vP vC vS vA own it en N la op cl at0 alw) (hb : Jb W' J sy vO v' vE vL vM vZ vP vC vS vA) (ho : OwnP W' lo v' it') (hO : Only W W' (fun k => k = J ∨ vF.ownBlock = some k)) (_hn : ∀ k, v'.ownBlock = some k → vF.ownBlock = some k ∨ W.heap.size ≤ k) : JoS W' J sy lo vO v' vE vL vM vZ vP vC vS vA own it' en N la op cl at0 alw where
  b := hb
  o := keepRow h.o hO h.b.r (by decide) (Apt.ofTyp h.o h.f (by decide))
  f := ho
  e := keepRow h.e hO h.b.r (by decide) (Apt.ofTyp h.e h.f (by decide))
  z := keepRow h.z hO h.b.r (by decide) (Apt.ofTyp h.z h.f (by decide))
  p := keepRow h.p hO h.b.r (by decide) (Apt.ofTyp h.p h.f (by decide))
  c := keepRow h.c hO h.b.r (by decide) (Apt.ofTyp h.c h.f (by decide))
  s := keepRow h.s hO h.b.r (by decide) (Apt.ofTyp h.s h.f (by decide))
  a := keepRow h.a hO h.b.r (by decide) (Apt.ofTyp h.a h.f (by decide))
  qoe := h.qoe
  qos := h.qos
  qoa := h.qoa
  qes := h.qes
  qea := h.qea
  qsa := h.qsa
  qzp := h.qzp
  qzc := h.qzc
  qpc := h.qpc
theorem JoS.at_e {W W' : World} {J sy lo : Nat} {vO vF vE vL vM vZ vP vC vS vA v' : Value} {own : List Nat} {it : List (Nat × Nat)} {en : List Nat} {N : Nat} {la op cl : Nat → Bool} {at0 alw : List Nat} {en' : List Nat} (h : JoS W J sy lo vO vF vE vL vM vZ vP vC vS vA own it en N la op cl at0 alw) (hb : Jb W' J sy vO vF v' vL vM vZ vP vC vS vA) (ho : OwnI W' lo v' (nI en')) (hO : Only W W' (fun k => k = J ∨ vE.ownBlock = some k)) (hn : ∀ k, v'.ownBlock = some k → vE.ownBlock = some k ∨ W.heap.size ≤ k) : JoS W' J sy lo vO vF v' vL vM vZ vP vC vS vA own it en' N la op cl at0 alw where
  b := hb
  o := keepRow h.o hO h.b.r (by decide) h.qoe
  f := keepRow h.f hO h.b.r (by decide) (Apt.ofTyp h.f h.e (by decide))
  e := ho
  z := keepRow h.z hO h.b.r (by decide) (Apt.ofTyp h.z h.e (by decide))
  p := keepRow h.p hO h.b.r (by decide) (Apt.ofTyp h.p h.e (by decide))
  c := keepRow h.c hO h.b.r (by decide) (Apt.ofTyp h.c h.e (by decide))
  s := keepRow h.s hO h.b.r (by decide) h.qes.symm
  a := keepRow h.a hO h.b.r (by decide) h.qea.symm
  qoe := (h.qoe.symm.new h.o hn).symm
  qos := h.qos
  qoa := h.qoa
  qes := h.qes.new h.s hn
  qea := h.qea.new h.a hn
  qsa := h.qsa
  qzp := h.qzp
  qzc := h.qzc
  qpc := h.qpc
theorem JoS.at_z {W W' : World} {J sy lo : Nat} {vO vF vE vL vM vZ vP vC vS vA v' : Value} {own : List Nat} {it : List (Nat × Nat)} {en : List Nat} {N : Nat} {la op cl : Nat → Bool} {at0 alw : List Nat} {la' : Nat → Bool} (h : JoS W J sy lo vO vF vE vL vM vZ vP vC vS vA own it en N la op cl at0 alw) (hb : Jb W' J sy vO vF vE vL vM v' vP vC vS vA) (ho : OwnU W' lo v' N la') (hO : Only W W' (fun k => k = J ∨ vZ.ownBlock = some k)) (hn : ∀ k, v'.ownBlock = some k → vZ.ownBlock = some k ∨ W.heap.size ≤ k) : JoS W' J sy lo vO vF vE vL vM v' vP vC vS vA own it en N la' op cl at0 alw where
  b := hb
  o := keepRow h.o hO h.b.r (by decide) (Apt.ofTyp h.o h.z (by decide))
  f := keepRow h.f hO h.b.r (by decide) (Apt.ofTyp h.f h.z (by decide))
  e := keepRow h.e hO h.b.r (by decide) (Apt.ofTyp h.e h.z (by decide))
  z := ho
  p := keepRow h.p hO h.b.r (by decide) h.qzp.symm
  c := keepRow h.c hO h.b.r (by decide) h.qzc.symm
  s := keepRow h.s hO h.b.r (by decide) (Apt.ofTyp h.s h.z (by decide))
  a := keepRow h.a hO h.b.r (by decide) (Apt.ofTyp h.a h.z (by decide))
  qoe := h.qoe
  qos := h.qos
  qoa := h.qoa
  qes := h.qes
  qea := h.qea
  qsa := h.qsa
  qzp := h.qzp.new h.p hn
  qzc := h.qzc.new h.c hn
  qpc := h.qpc
theorem JoS.at_p {W W' : World} {J sy lo : Nat} {vO vF vE vL vM vZ vP vC vS vA v' : Value} {own : List Nat} {it : List (Nat × Nat)} {en : List Nat} {N : Nat} {la op cl : Nat → Bool} {at0 alw : List Nat} {op' : Nat → Bool} (h : JoS W J sy lo vO vF vE vL vM vZ vP vC vS vA own it en N la op cl at0 alw) (hb : Jb W' J sy vO vF vE vL vM vZ v' vC vS vA) (ho : OwnU W' lo v' N op') (hO : Only W W' (fun k => k = J ∨ vP.ownBlock = some k)) (hn : ∀ k, v'.ownBlock = some k → vP.ownBlock = some k ∨ W.heap.size ≤ k) : JoS W' J sy lo vO vF vE vL vM vZ v' vC vS vA own it en N la op' cl at0 alw where
  b := hb
  o := keepRow h.o hO h.b.r (by decide) (Apt.ofTyp h.o h.p (by decide))
  f := keepRow h.f hO h.b.r (by decide) (Apt.ofTyp h.f h.p (by decide))
  e := keepRow h.e hO h.b.r (by decide) (Apt.ofTyp h.e h.p (by decide))
  z := keepRow h.z hO h.b.r (by decide) h.qzp
  p := ho
  c := keepRow h.c hO h.b.r (by decide) h.qpc.symm
  s := keepRow h.s hO h.b.r (by decide) (Apt.ofTyp h.s h.p (by decide))
  a := keepRow h.a hO h.b.r (by decide) (Apt.ofTyp h.a h.p (by decide))
  qoe := h.qoe
  qos := h.qos
  qoa := h.qoa
  qes := h.qes
  qea := h.qea
  qsa := h.qsa
  qzp := (h.qzp.symm.new h.z hn).symm
  qzc := h.qzc
  qpc := h.qpc.new h.c hn
theorem JoS.at_c {W W' : World} {J sy lo : Nat} {vO vF vE vL vM vZ vP vC vS vA v' : Value} {own : List Nat} {it : List (Nat × Nat)} {en : List Nat} {N : Nat} {la op cl : Nat → Bool} {at0 alw : List Nat} {cl' : Nat → Bool} (h : JoS W J sy lo vO vF vE vL vM vZ vP vC vS vA own it en N la op cl at0 alw) (hb : Jb W' J sy vO vF vE vL vM vZ vP v' vS vA) (ho : OwnU W' lo v' N cl') (hO : Only W W' (fun k => k = J ∨ vC.ownBlock = some k)) (hn : ∀ k, v'.ownBlock = some k → vC.ownBlock = some k ∨ W.heap.size ≤ k) : JoS W' J sy lo vO vF vE vL vM vZ vP v' vS vA own it en N la op cl' at0 alw where
  b := hb
  o := keepRow h.o hO h.b.r (by decide) (Apt.ofTyp h.o h.c (by decide))
  f := keepRow h.f hO h.b.r (by decide) (Apt.ofTyp h.f h.c (by decide))
  e := keepRow h.e hO h.b.r (by decide) (Apt.ofTyp h.e h.c (by decide))
  z := keepRow h.z hO h.b.r (by decide) h.qzc
  p := keepRow h.p hO h.b.r (by decide) h.qpc
  c := ho
  s := keepRow h.s hO h.b.r (by decide) (Apt.ofTyp h.s h.c (by decide))
  a := keepRow h.a hO h.b.r (by decide) (Apt.ofTyp h.a h.c (by decide))
  qoe := h.qoe
  qos := h.qos
  qoa := h.qoa
  qes := h.qes
  qea := h.qea
  qsa := h.qsa
  qzp := h.qzp
  qzc := (h.qzc.symm.new h.z hn).symm
  qpc := (h.qpc.symm.new h.p hn).symm
theorem JoS.at_s {W W' : World} {J sy lo : Nat} {vO vF vE vL vM vZ vP vC vS vA v' : Value} {own : List Nat} {it : List (Nat × Nat)} {en : List Nat} {N : Nat} {la op cl : Nat → Bool} {at0 alw : List Nat} {at0' : List Nat} (h : JoS W J sy lo vO vF vE vL vM vZ vP vC vS vA own it en N la op cl at0 alw) (hb : Jb W' J sy vO vF vE vL vM vZ vP vC v' vA) (ho : OwnI W' lo v' (nI at0')) (hO : Only W W' (fun k => k = J ∨ vS.ownBlock = some k)) (hn : ∀ k, v'.ownBlock = some k → vS.ownBlock = some k ∨ W.heap.size ≤ k) : JoS W' J sy lo vO vF vE vL vM vZ vP vC v' vA own it en N la op cl at0' alw where
  b := hb
  o := keepRow h.o hO h.b.r (by decide) h.qos
  f := keepRow h.f hO h.b.r (by decide) (Apt.ofTyp h.f h.s (by decide))
  e := keepRow h.e hO h.b.r (by decide) h.qes
  z := keepRow h.z hO h.b.r (by decide) (Apt.ofTyp h.z h.s (by decide))
  p := keepRow h.p hO h.b.r (by decide) (Apt.ofTyp h.p h.s (by decide))
  c := keepRow h.c hO h.b.r (by decide) (Apt.ofTyp h.c h.s (by decide))
  s := ho
  a := keepRow h.a hO h.b.r (by decide) h.qsa.symm
  qoe := h.qoe
  qos := (h.qos.symm.new h.o hn).symm
  qoa := h.qoa
  qes := (h.qes.symm.new h.e hn).symm
  qea := h.qea
  qsa := h.qsa.new h.a hn
  qzp := h.qzp
  qzc := h.qzc
  qpc := h.qpc
theorem JoS.at_a {W W' : World} {J sy lo : Nat} {vO vF vE vL vM vZ vP vC vS vA v' : Value} {own : List Nat} {it : List (Nat × Nat)} {en : List Nat} {N : Nat} {la op cl : Nat → Bool} {at0 alw : List Nat} {alw' : List Nat} (h : JoS W J sy lo vO vF vE vL vM vZ vP vC vS vA own it en N la op cl at0 alw) (hb : Jb W' J sy vO vF vE vL vM vZ vP vC vS v') (ho : OwnI W' lo v' (nI alw')) (hO : Only W W' (fun k => k = J ∨ vA.ownBlock = some k)) (hn : ∀ k, v'.ownBlock = some k → vA.ownBlock = some k ∨ W.heap.size ≤ k) : JoS W' J sy lo vO vF vE vL vM vZ vP vC vS v' own it en N la op cl at0 alw' where
  b := hb
  o := keepRow h.o hO h.b.r (by decide) h.qoa
  f := keepRow h.f hO h.b.r (by decide) (Apt.ofTyp h.f h.a (by decide))
  e := keepRow h.e hO h.b.r (by decide) h.qea
  z := keepRow h.z hO h.b.r (by decide) (Apt.ofTyp h.z h.a (by decide))
  p := keepRow h.p hO h.b.r (by decide) (Apt.ofTyp h.p h.a (by decide))
  c := keepRow h.c hO h.b.r (by decide) (Apt.ofTyp h.c h.a (by decide))
  s := keepRow h.s hO h.b.r (by decide) h.qsa
  a := ho
  qoe := h.qoe
  qos := h.qos
  qoa := (h.qoa.symm.new h.o hn).symm
  qes := h.qes
  qea := (h.qea.symm.new h.e hn).symm
  qsa := (h.qsa.symm.new h.s hn).symm
  qzp := h.qzp
  qzc := h.qzc
  qpc := h.qpc
end Go.Proofs.YtbbejfkgopcjoaaDoor
namespace Go.Proofs.YtbbejfkgopcjoaaDoor
open Go.RowKit Go.Shelf
theorem ownI_of {w : World} {lo : Nat} {v : Value} {L : List Nat} {n : Nat} (h : w.ownsRow lo 3 1 v ((nI L).map (Value.int .i64) ++ [Value.int .i64 (n : Int)]).length ((nI L).map (Value.int .i64) ++ [Value.int .i64 (n : Int)])) : OwnI w lo v (nI (L ++ [n])) := by
  unfold OwnI
  rw [nI_app, List.map_append, nI_len1]
  simpa [nI] using h
theorem Jb.setO {W : World} {J sy : Nat} {vO vF vE vL vM vZ vP vC vS vA : Value} (h : Jb W J sy vO vF vE vL vM vZ vP vC vS vA) (v : Value) : Jb (W.setCell ⟨J, 1, none⟩ v) J sy v vF vE vL vM vZ vP vC vS vA := ⟨heap_setCell_same W _ 1 _ _ _ h.r⟩
theorem JoS.setO {W w2 : World} {J sy lo : Nat} {vO vF vE vL vM vZ vP vC vS vA v' : Value} {own : List Nat} {it : List (Nat × Nat)} {en : List Nat} {N : Nat} {la op cl : Nat → Bool} {at0 alw : List Nat} {n : Nat} (h : JoS W J sy lo vO vF vE vL vM vZ vP vC vS vA own it en N la op cl at0 alw) (g : ApG 3 W w2 lo vO v' ((nI own).map (Value.int .i64) ++ [Value.int .i64 (n : Int)])) : Jb w2 J sy vO vF vE vL vM vZ vP vC vS vA ∧ JoS (w2.setCell ⟨J, 1, none⟩ v') J sy lo v' vF vE vL vM vZ vP vC vS vA (own ++ [n]) it en N la op cl at0 alw ∧ Only W (w2.setCell ⟨J, 1, none⟩ v') (fun k => k = J ∨ vO.ownBlock = some k) := by
  have m1 := own_ne_blk h.o h.b.r (by decide)
  have j2 : Jb w2 J sy vO vF vE vL vM vZ vP vC vS vA := ⟨(g.frm.block _ (Array.getElem?_eq_some_iff.1 h.b.r).1 m1).trans h.b.r⟩
  have m2 := own_ne_blk g.own j2.r (by decide)
  have hO := Only.setCell w2 J 1 v'
  have hA : Only W (w2.setCell ⟨J, 1, none⟩ v') (fun k => k = J ∨ vO.ownBlock = some k) := (g.frm.mono (fun _ h => .inr h)).trans hO (fun _ h => .inl (.inl h))
  exact ⟨j2, h.at_o (j2.setO v') (ownI_of (own_blk g.own (fun k hk => hO.block k (World.ownsRow.lt g.own k hk).2 (fun e => m2 (e ▸ hk))))) hA g.at', hA⟩
theorem Jb.setS {W : World} {J sy : Nat} {vO vF vE vL vM vZ vP vC vS vA : Value} (h : Jb W J sy vO vF vE vL vM vZ vP vC vS vA) (v : Value) : Jb (W.setCell ⟨J, 9, none⟩ v) J sy vO vF vE vL vM vZ vP vC v vA := ⟨heap_setCell_same W _ 9 _ _ _ h.r⟩
theorem JoS.setS {W w2 : World} {J sy lo : Nat} {vO vF vE vL vM vZ vP vC vS vA v' : Value} {own : List Nat} {it : List (Nat × Nat)} {en : List Nat} {N : Nat} {la op cl : Nat → Bool} {at0 alw : List Nat} {n : Nat} (h : JoS W J sy lo vO vF vE vL vM vZ vP vC vS vA own it en N la op cl at0 alw) (g : ApG 3 W w2 lo vS v' ((nI at0).map (Value.int .i64) ++ [Value.int .i64 (n : Int)])) : Jb w2 J sy vO vF vE vL vM vZ vP vC vS vA ∧ JoS (w2.setCell ⟨J, 9, none⟩ v') J sy lo vO vF vE vL vM vZ vP vC v' vA own it en N la op cl (at0 ++ [n]) alw ∧ Only W (w2.setCell ⟨J, 9, none⟩ v') (fun k => k = J ∨ vS.ownBlock = some k) := by
  have m1 := own_ne_blk h.s h.b.r (by decide)
  have j2 : Jb w2 J sy vO vF vE vL vM vZ vP vC vS vA := ⟨(g.frm.block _ (Array.getElem?_eq_some_iff.1 h.b.r).1 m1).trans h.b.r⟩
  have m2 := own_ne_blk g.own j2.r (by decide)
  have hO := Only.setCell w2 J 9 v'
  have hA : Only W (w2.setCell ⟨J, 9, none⟩ v') (fun k => k = J ∨ vS.ownBlock = some k) := (g.frm.mono (fun _ h => .inr h)).trans hO (fun _ h => .inl (.inl h))
  exact ⟨j2, h.at_s (j2.setS v') (ownI_of (own_blk g.own (fun k hk => hO.block k (World.ownsRow.lt g.own k hk).2 (fun e => m2 (e ▸ hk))))) hA g.at', hA⟩
theorem Jb.setA {W : World} {J sy : Nat} {vO vF vE vL vM vZ vP vC vS vA : Value} (h : Jb W J sy vO vF vE vL vM vZ vP vC vS vA) (v : Value) : Jb (W.setCell ⟨J, 10, none⟩ v) J sy vO vF vE vL vM vZ vP vC vS v := ⟨heap_setCell_same W _ 10 _ _ _ h.r⟩
theorem JoS.setA {W w2 : World} {J sy lo : Nat} {vO vF vE vL vM vZ vP vC vS vA v' : Value} {own : List Nat} {it : List (Nat × Nat)} {en : List Nat} {N : Nat} {la op cl : Nat → Bool} {at0 alw : List Nat} {n : Nat} (h : JoS W J sy lo vO vF vE vL vM vZ vP vC vS vA own it en N la op cl at0 alw) (g : ApG 3 W w2 lo vA v' ((nI alw).map (Value.int .i64) ++ [Value.int .i64 (n : Int)])) : Jb w2 J sy vO vF vE vL vM vZ vP vC vS vA ∧ JoS (w2.setCell ⟨J, 10, none⟩ v') J sy lo vO vF vE vL vM vZ vP vC vS v' own it en N la op cl at0 (alw ++ [n]) ∧ Only W (w2.setCell ⟨J, 10, none⟩ v') (fun k => k = J ∨ vA.ownBlock = some k) := by
  have m1 := own_ne_blk h.a h.b.r (by decide)
  have j2 : Jb w2 J sy vO vF vE vL vM vZ vP vC vS vA := ⟨(g.frm.block _ (Array.getElem?_eq_some_iff.1 h.b.r).1 m1).trans h.b.r⟩
  have m2 := own_ne_blk g.own j2.r (by decide)
  have hO := Only.setCell w2 J 10 v'
  have hA : Only W (w2.setCell ⟨J, 10, none⟩ v') (fun k => k = J ∨ vA.ownBlock = some k) := (g.frm.mono (fun _ h => .inr h)).trans hO (fun _ h => .inl (.inl h))
  exact ⟨j2, h.at_a (j2.setA v') (ownI_of (own_blk g.own (fun k hk => hO.block k (World.ownsRow.lt g.own k hk).2 (fun e => m2 (e ▸ hk))))) hA g.at', hA⟩
theorem Jb.setF {W : World} {J sy : Nat} {vO vF vE vL vM vZ vP vC vS vA : Value} (h : Jb W J sy vO vF vE vL vM vZ vP vC vS vA) (v : Value) : Jb (W.setCell ⟨J, 2, none⟩ v) J sy vO v vE vL vM vZ vP vC vS vA := ⟨heap_setCell_same W _ 2 _ _ _ h.r⟩
theorem JoS.setF {W w2 : World} {J sy lo : Nat} {vO vF vE vL vM vZ vP vC vS vA v' : Value} {own : List Nat} {it : List (Nat × Nat)} {en : List Nat} {N : Nat} {la op cl : Nat → Bool} {at0 alw : List Nat} {it' : List (Nat × Nat)} (h : JoS W J sy lo vO vF vE vL vM vZ vP vC vS vA own it en N la op cl at0 alw) (g : ApP W w2 lo vF v' it') : Jb w2 J sy vO vF vE vL vM vZ vP vC vS vA ∧ JoS (w2.setCell ⟨J, 2, none⟩ v') J sy lo vO v' vE vL vM vZ vP vC vS vA own it' en N la op cl at0 alw ∧ Only W (w2.setCell ⟨J, 2, none⟩ v') (fun k => k = J ∨ vF.ownBlock = some k) := by
  have m1 := own_ne_blk h.f h.b.r (by decide)
  have j2 : Jb w2 J sy vO vF vE vL vM vZ vP vC vS vA := ⟨(g.frm.block _ (Array.getElem?_eq_some_iff.1 h.b.r).1 m1).trans h.b.r⟩
  have m2 := own_ne_blk g.own j2.r (by decide)
  have hO := Only.setCell w2 J 2 v'
  have hA : Only W (w2.setCell ⟨J, 2, none⟩ v') (fun k => k = J ∨ vF.ownBlock = some k) := (g.frm.mono (fun _ h => .inr h)).trans hO (fun _ h => .inl (.inl h))
  exact ⟨j2, h.at_f (j2.setF v') (own_blk g.own (fun k hk => hO.block k (World.ownsRow.lt g.own k hk).2 (fun e => m2 (e ▸ hk)))) hA g.at', hA⟩
theorem JoS.fill_z {W w2 : World} {J sy lo : Nat} {vO vF vE vL vM vZ vP vC vS vA : Value} {own : List Nat} {it : List (Nat × Nat)} {en : List Nat} {N : Nat} {la op cl : Nat → Bool} {at0 alw : List Nat} {G n cc : Nat} {la' : Nat → Bool} (h : JoS W J sy lo vO vF vE vL vM vZ vP vC vS vA own it en N la op cl at0 alw) (e : vZ = .slice (some ⟨G, 0, none⟩) n cc) (ho : OwnU w2 lo vZ N la') (hO : Only W w2 (fun k => k = G)) : JoS w2 J sy lo vO vF vE vL vM vZ vP vC vS vA own it en N la' op cl at0 alw := by
  have m1 := own_ne_blk h.z h.b.r (by decide)
  have hG : vZ.ownBlock = some G := by rw [e]; rfl
  exact h.at_z ⟨(hO.block _ (Array.getElem?_eq_some_iff.1 h.b.r).1 (fun q => m1 (q ▸ hG))).trans h.b.r⟩ ho (hO.mono (fun k hk => .inr (by rw [hk]; exact hG))) (fun k hk => .inl hk)
theorem JoS.fill_p {W w2 : World} {J sy lo : Nat} {vO vF vE vL vM vZ vP vC vS vA : Value} {own : List Nat} {it : List (Nat × Nat)} {en : List Nat} {N : Nat} {la op cl : Nat → Bool} {at0 alw : List Nat} {G n cc : Nat} {op' : Nat → Bool} (h : JoS W J sy lo vO vF vE vL vM vZ vP vC vS vA own it en N la op cl at0 alw) (e : vP = .slice (some ⟨G, 0, none⟩) n cc) (ho : OwnU w2 lo vP N op') (hO : Only W w2 (fun k => k = G)) : JoS w2 J sy lo vO vF vE vL vM vZ vP vC vS vA own it en N la op' cl at0 alw := by
  have m1 := own_ne_blk h.p h.b.r (by decide)
  have hG : vP.ownBlock = some G := by rw [e]; rfl
  exact h.at_p ⟨(hO.block _ (Array.getElem?_eq_some_iff.1 h.b.r).1 (fun q => m1 (q ▸ hG))).trans h.b.r⟩ ho (hO.mono (fun k hk => .inr (by rw [hk]; exact hG))) (fun k hk => .inl hk)
theorem JoS.fill_c {W w2 : World} {J sy lo : Nat} {vO vF vE vL vM vZ vP vC vS vA : Value} {own : List Nat} {it : List (Nat × Nat)} {en : List Nat} {N : Nat} {la op cl : Nat → Bool} {at0 alw : List Nat} {G n cc : Nat} {cl' : Nat → Bool} (h : JoS W J sy lo vO vF vE vL vM vZ vP vC vS vA own it en N la op cl at0 alw) (e : vC = .slice (some ⟨G, 0, none⟩) n cc) (ho : OwnU w2 lo vC N cl') (hO : Only W w2 (fun k => k = G)) : JoS w2 J sy lo vO vF vE vL vM vZ vP vC vS vA own it en N la op cl' at0 alw := by
  have m1 := own_ne_blk h.c h.b.r (by decide)
  have hG : vC.ownBlock = some G := by rw [e]; rfl
  exact h.at_c ⟨(hO.block _ (Array.getElem?_eq_some_iff.1 h.b.r).1 (fun q => m1 (q ▸ hG))).trans h.b.r⟩ ho (hO.mono (fun k hk => .inr (by rw [hk]; exact hG))) (fun k hk => .inl hk)
end Go.Proofs.YtbbejfkgopcjoaaDoor
namespace Go.Proofs.YtbbejfkgopcjoaaDoor
open Go.RowKit Go.Shelf
theorem endsN_snoc {α : Type} (L : List (List α)) (r : List α) : endsN (L ++ [r]) = endsN L ++ [(L ++ [r]).flatten.length] := by
  unfold endsN
  rw [List.length_append, List.length_singleton, List.range_succ, List.map_append]
  congr 1
  · apply List.map_congr_left
    intro i hi
    have := List.mem_range.1 hi
    rw [List.take_append_of_le_length (by omega)]
  · rw [List.map_singleton, flat_len, List.take_of_length_le (by simp)]
theorem OwnP.wda {W : World} {lo n c : Nat} {a : Option Addr} {l : List (Nat × Nat)} (h : OwnP W lo (.slice a n c) l) : WdA W a l := ⟨fun k hk => by
  obtain ⟨g, c', e, _, h2, h3, h4, _⟩ := h.at' hk
  have e2 : a = some ⟨g, 0, none⟩ := by injection e
  subst e2
  exact ⟨g, 0, rfl, h2, by rw [Nat.zero_add]; exact h3, by rw [Nat.zero_add]; exact h4⟩⟩
theorem OwnP.cap {W : World} {lo n c : Nat} {a : Option Addr} {l : List (Nat × Nat)} (h : OwnP W lo (.slice a n c) l) : l.length ≤ c := by
  rcases h.2 with ⟨e, e2⟩ | ⟨g, cap, cur, e, _, _, h3, _⟩
  · omega
  · simp only [Value.slice.injEq] at e
    omega
theorem rww_of {W : World} {lo : Nat} {vF vE : Value} {FO : List (List (Nat × Nat))} (h : OwnP W lo vF FO.flatten) (h0 : FO.flatten = [] → vF = .slice none 0 0) (he : OwnI W lo vE (nI (endsN FO))) : RwW W vF vE FO := by
  obtain ⟨a, c, e⟩ := own_sl h
  subst e
  obtain ⟨b, d, e2, h2⟩ := he.ia
  refine ⟨⟨a, c, rfl, h.cap, h.wda, fun q => ?_⟩, b, d, by rw [e2, nI_len, endsN_len], h2⟩
  have h3 := h0 q
  simp only [Value.slice.injEq] at h3
  exact ⟨h3.1, h3.2.2⟩
theorem addW_ne (l : List (Nat × Nat)) (fr p : Nat) (h : fr ≤ l.length) : addW l fr p ≠ [] := by
  rcases addW_cases l fr p h with ⟨e1, _⟩ | ⟨r, y, rfl, e2⟩
  · rw [e1]; simp
  · rw [e2]; simp
theorem JoS.past {W W' : World} {J sy lo : Nat} {vO vF vE vL vM vZ vP vC vS vA : Value} {own : List Nat} {it : List (Nat × Nat)} {en : List Nat} {N : Nat} {la op cl : Nat → Bool} {at0 alw : List Nat} (h : JoS W J sy lo vO vF vE vL vM vZ vP vC vS vA own it en N la op cl at0 alw) (hb : Below W.heap.size W W') : JoS W' J sy lo vO vF vE vL vM vZ vP vC vS vA own it en N la op cl at0 alw where
  b := h.b.past hb
  o := own_blk h.o (fun k hk => hb.block k (World.ownsRow.lt h.o k hk).2)
  f := own_blk h.f (fun k hk => hb.block k (World.ownsRow.lt h.f k hk).2)
  e := own_blk h.e (fun k hk => hb.block k (World.ownsRow.lt h.e k hk).2)
  z := own_blk h.z (fun k hk => hb.block k (World.ownsRow.lt h.z k hk).2)
  p := own_blk h.p (fun k hk => hb.block k (World.ownsRow.lt h.p k hk).2)
  c := own_blk h.c (fun k hk => hb.block k (World.ownsRow.lt h.c k hk).2)
  s := own_blk h.s (fun k hk => hb.block k (World.ownsRow.lt h.s k hk).2)
  a := own_blk h.a (fun k hk => hb.block k (World.ownsRow.lt h.a k hk).2)
  qoe := h.qoe
  qos := h.qos
  qoa := h.qoa
  qes := h.qes
  qea := h.qea
  qsa := h.qsa
  qzp := h.qzp
  qzc := h.qzc
  qpc := h.qpc
/-- A change of the rows alone leaves what lies below them. -/
theorem below_of_row {W W' : World} {J lo : Nat} {t : TypeId} {s n : Nat} {v : Value} {xs : List Value} (h : W.ownsRow lo t s v n xs) (hJ : lo ≤ J) (hlo : lo ≤ W.heap.size) (hO : Only W W' (fun k => k = J ∨ v.ownBlock = some k)) : Below lo W W' :=
  hO.below hlo (fun k hk => hk.elim (fun e => e ▸ hJ) (fun e => (World.ownsRow.lt h k e).1))
end Go.Proofs.YtbbejfkgopcjoaaDoor
namespace Go.Proofs.YtbbejfkgopcjoaaDoor
open Go.RowKit Go.Shelf
theorem addAll_z (J sy lo base N G cc cL : Nat) (aL : Option Addr) (vO vF vE vL vM vP vC vS vA : Value) (own : List Nat) (it : List (Nat × Nat)) (en : List Nat) (la op cl : Nat → Bool) (at0 alw L : List Nat) (w : World) (h : JoS w J sy lo vO vF vE vL vM (.slice (some ⟨G, 0, none⟩) N cc) vP vC vS vA own it en N la op cl at0 alw) (hlw : lo ≤ w.heap.size) (hL : ∀ V : World, Below lo w V → IA V aL (nI L)) (hN : N ≤ 1000000) (hb : ∀ p ∈ L, base + p < 64 * N) (hl : L.length ≤ 100000000) (hbs : base ≤ 100000000) :
    Calls Tryd.prog 69 #[.slice (some ⟨G, 0, none⟩) N cc, .int .i64 (base : Int), .slice aL L.length cL] w fun e w' => (∃ v, e = .returned v) ∧ JoS w' J sy lo vO vF vE vL vM (.slice (some ⟨G, 0, none⟩) N cc) vP vC vS vA own it en N (setL la base L) op cl at0 alw ∧ Only w w' (fun k => k = G) ∧ Below lo w w' :=
  have hG : ∀ k, k = G → lo ≤ k := fun k hk => (World.ownsRow.lt h.z k (by rw [hk]; rfl)).1
  (addAllM_any G N cc lo base la L aL cL w hN h.z (fun V hV => hL V (hV.below hlw hG)) hb hl hbs).mono (fun _ _ ⟨h1, h2, h3⟩ => ⟨h1, h.fill_z rfl h2 h3, h3, h3.below hlw hG⟩)
theorem addAll_p (J sy lo base N G cc cL : Nat) (aL : Option Addr) (vO vF vE vL vM vZ vC vS vA : Value) (own : List Nat) (it : List (Nat × Nat)) (en : List Nat) (la op cl : Nat → Bool) (at0 alw L : List Nat) (w : World) (h : JoS w J sy lo vO vF vE vL vM vZ (.slice (some ⟨G, 0, none⟩) N cc) vC vS vA own it en N la op cl at0 alw) (hlw : lo ≤ w.heap.size) (hL : ∀ V : World, Below lo w V → IA V aL (nI L)) (hN : N ≤ 1000000) (hb : ∀ p ∈ L, base + p < 64 * N) (hl : L.length ≤ 100000000) (hbs : base ≤ 100000000) :
    Calls Tryd.prog 69 #[.slice (some ⟨G, 0, none⟩) N cc, .int .i64 (base : Int), .slice aL L.length cL] w fun e w' => (∃ v, e = .returned v) ∧ JoS w' J sy lo vO vF vE vL vM vZ (.slice (some ⟨G, 0, none⟩) N cc) vC vS vA own it en N la (setL op base L) cl at0 alw ∧ Only w w' (fun k => k = G) ∧ Below lo w w' :=
  have hG : ∀ k, k = G → lo ≤ k := fun k hk => (World.ownsRow.lt h.p k (by rw [hk]; rfl)).1
  (addAllM_any G N cc lo base op L aL cL w hN h.p (fun V hV => hL V (hV.below hlw hG)) hb hl hbs).mono (fun _ _ ⟨h1, h2, h3⟩ => ⟨h1, h.fill_p rfl h2 h3, h3, h3.below hlw hG⟩)
theorem addAll_c (J sy lo base N G cc cL : Nat) (aL : Option Addr) (vO vF vE vL vM vZ vP vS vA : Value) (own : List Nat) (it : List (Nat × Nat)) (en : List Nat) (la op cl : Nat → Bool) (at0 alw L : List Nat) (w : World) (h : JoS w J sy lo vO vF vE vL vM vZ vP (.slice (some ⟨G, 0, none⟩) N cc) vS vA own it en N la op cl at0 alw) (hlw : lo ≤ w.heap.size) (hL : ∀ V : World, Below lo w V → IA V aL (nI L)) (hN : N ≤ 1000000) (hb : ∀ p ∈ L, base + p < 64 * N) (hl : L.length ≤ 100000000) (hbs : base ≤ 100000000) :
    Calls Tryd.prog 69 #[.slice (some ⟨G, 0, none⟩) N cc, .int .i64 (base : Int), .slice aL L.length cL] w fun e w' => (∃ v, e = .returned v) ∧ JoS w' J sy lo vO vF vE vL vM vZ vP (.slice (some ⟨G, 0, none⟩) N cc) vS vA own it en N la op (setL cl base L) at0 alw ∧ Only w w' (fun k => k = G) ∧ Below lo w w' :=
  have hG : ∀ k, k = G → lo ≤ k := fun k hk => (World.ownsRow.lt h.c k (by rw [hk]; rfl)).1
  (addAllM_any G N cc lo base cl L aL cL w hN h.c (fun V hV => hL V (hV.below hlw hG)) hb hl hbs).mono (fun _ _ ⟨h1, h2, h3⟩ => ⟨h1, h.fill_c rfl h2 h3, h3, h3.below hlw hG⟩)
end Go.Proofs.YtbbejfkgopcjoaaDoor
