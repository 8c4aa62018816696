/-
  MbTM, MbTW, MbUW, MbVM, MbWM, MbXM, MbYM, MbZM, MbZW, McAM.
-/
import Derived.Test.YtleeedjpccooaaaDoorNdg
namespace Go.Proofs.YtleeedjpccooaaaDoor
open Go.RowKit Go.Shelf
/-- The cells of words. -/
def cells2 : List (Nat × Nat) → List Value
  | [] => []
  | x :: l => .int .i64 (x.1 : Int) :: .int .u64 (x.2 : Int) :: cells2 l
theorem cells2_len : ∀ l : List (Nat × Nat), (cells2 l).length = l.length * 2
  | [] => rfl
  | x :: l => by simp only [cells2, List.length_cons, cells2_len l]; omega
theorem cells2_app : ∀ (l m : List (Nat × Nat)), cells2 (l ++ m) = cells2 l ++ cells2 m
  | [], _ => rfl
  | x :: l, m => by simp only [cells2, List.cons_append, cells2_app l m]
theorem cells2_at : ∀ (l : List (Nat × Nat)) (i : Nat) (h : i < l.length), (cells2 l)[i * 2]? = some (.int .i64 ((l[i]).1 : Int)) ∧ (cells2 l)[i * 2 + 1]? = some (.int .u64 ((l[i]).2 : Int))
  | x :: l, 0, _ => ⟨rfl, rfl⟩
  | x :: l, i + 1, h => by
    have h2 := cells2_at l i (by simpa using h)
    rw [show (i + 1) * 2 = i * 2 + 1 + 1 by omega]
    simpa [cells2] using h2
theorem cells2_set : ∀ (l : List (Nat × Nat)) (i y : Nat) (h : i < l.length), (cells2 l).set (i * 2 + 1) (.int .u64 (y : Int)) = cells2 (l.set i ((l[i]).1, y))
  | x :: l, 0, y, _ => rfl
  | x :: l, i + 1, y, h => by
    have h2 := cells2_set l i y (by simpa using h)
    rw [show (i + 1) * 2 = i * 2 + 1 + 1 by omega]
    simpa [cells2] using h2
theorem cells2_one (l : List (Nat × Nat)) : ∀ u ∈ cells2 l, u.oneCell' = true := by
  induction l with
  | nil => simp [cells2]
  | cons x l ih => intro u hu; simp only [cells2, List.mem_cons] at hu; rcases hu with rfl | rfl | hu; rfl; rfl; exact ih u hu
def OwnP (W : World) (lo : Nat) (v : Value) (l : List (Nat × Nat)) : Prop := W.ownsRow lo 130 2 v l.length (cells2 l)
theorem OwnP.at' {W : World} {lo : Nat} {v : Value} {l : List (Nat × Nat)} (h : OwnP W lo v l) {i : Nat} (hi : i < l.length) : ∃ g c, v = .slice (some ⟨g, 0, none⟩) l.length c ∧ lo ≤ g ∧ g < W.heap.size ∧ W.cell? ⟨g, i * 2, none⟩ = some (.int .i64 ((l[i]).1 : Int)) ∧ W.cell? ⟨g, i * 2 + 1, none⟩ = some (.int .u64 ((l[i]).2 : Int)) ∧ W.frozen? ⟨g, i * 2 + 1, none⟩ = false := by
  obtain ⟨g, c, rfl, h1, h2, _⟩ := own_form h (by omega)
  obtain ⟨e1, e2⟩ := cells2_at l i hi
  refine ⟨g, c, rfl, h1, h2, ?_, ?_, ?_⟩
  · rw [World.ownsRow.cellAt h (i * 2) (by omega), e1]
  · rw [World.ownsRow.cellAt h (i * 2 + 1) (by omega), e2]
  · obtain ⟨cs, hcs⟩ := own_typ h (show Value.ownBlock _ = some g from rfl)
    simp [World.frozen?, hcs]
theorem OwnP.put {W : World} {lo g c : Nat} {n : Nat} {l : List (Nat × Nat)} (h : OwnP W lo (.slice (some ⟨g, 0, none⟩) n c) l) {i : Nat} (hi : i < l.length) (y : Nat) : OwnP (W.setCell ⟨g, i * 2 + 1, none⟩ (.int .u64 (y : Int))) lo (.slice (some ⟨g, 0, none⟩) n c) (l.set i ((l[i]).1, y)) := by
  obtain rfl : n = l.length := by obtain ⟨a, c', e⟩ := own_sl h; simp only [Value.slice.injEq] at e; exact e.2.1
  have h1 := (World.ownsRow.stored h (i * 2 + 1) (.int .u64 (y : Int))).1
  unfold OwnP
  rw [← cells2_set l i y hi, List.length_set]
  exact h1
/-- The row, with a word for the place p at its end. -/
def nxW (l : List (Nat × Nat)) (fr p : Nat) : List (Nat × Nat) := if l.length = fr ∨ (l.getD (l.length - 1) (0, 0)).1 ≠ p / 64 then l ++ [(p / 64, 0)] else l
/-- The place put in. -/
def upW (l : List (Nat × Nat)) (p : Nat) : List (Nat × Nat) := l.set (l.length - 1) (p / 64, (l.getD (l.length - 1) (0, 0)).2 ||| 2 ^ (p % 64))
def addW (l : List (Nat × Nat)) (fr p : Nat) : List (Nat × Nat) := upW (nxW l fr p) p
structure ApP (w w' : World) (lo : Nat) (v v' : Value) (l : List (Nat × Nat)) : Prop where
  own : OwnP w' lo v' l
  frm : Only w w' (fun k => v.ownBlock = some k)
  at' : ∀ k, v'.ownBlock = some k → v.ownBlock = some k ∨ w.heap.size ≤ k
theorem apP_one {w w2 : World} {lo : Nat} {v v' : Value} {l : List (Nat × Nat)} {x : Nat × Nat} {o : Obj} (hown : w2.ownsRow lo 130 2 v' (l.length + 1) (cells2 l ++ cells2 [x])) (hg : (w.alloc o).grownBy w2 v.ownBlock) (hat : v'.ownBlock = v.ownBlock ∨ v'.ownBlock = some (w.alloc o).heap.size) : ApP w w2 lo v v' (l ++ [x]) := by
  refine ⟨?_, (Only.alloc w o (fun k => v.ownBlock = some k)).trans (Only.ofGrown hg) (fun _ h => .inl h), fun k hk => ?_⟩
  · unfold OwnP
    rw [List.length_append, List.length_singleton, cells2_app]; exact hown
  · rcases hat with e | e
    · exact .inl (by rw [← e]; exact hk)
    · rw [e] at hk
      cases hk
      right
      simp
/-- The last word's places are others. -/
theorem ApP.up {w w1 : World} {lo g c n m : Nat} {v : Value} {l : List (Nat × Nat)} {p y : Nat} (h : ApP w w1 lo v (.slice (some ⟨g, 0, none⟩) n c) l) (hm : l.length = m + 1) (h1 : (l.getD m (0, 0)).1 = p / 64) (hy : (l.getD m (0, 0)).2 ||| 2 ^ (p % 64) = y) : ApP w (w1.drew.setCell ⟨g, m * 2 + 1, none⟩ (.int .u64 (y : Int))) lo v (.slice (some ⟨g, 0, none⟩) n c) (upW l p) := by
  have hlt : m < l.length := by omega
  have hd : OwnP w1.drew lo (.slice (some ⟨g, 0, none⟩) n c) l := own_blk h.own (fun _ _ => rfl)
  refine ⟨?_, ?_, h.at'⟩
  · have h2 := hd.put hlt y
    have e : l.set m ((l[m]).1, y) = upW l p := by
      unfold upW
      rw [show l.length - 1 = m by omega, ← hy]
      have e3 : l.getD m (0, 0) = l[m] := by rw [List.getD_eq_getElem?_getD, List.getElem?_eq_getElem hlt]; rfl
      rw [e3] at h1 ⊢
      rw [h1]
    rw [← e]
    exact h2
  · refine h.frm.trans ((Only.drewN w1 1 _).trans (Only.setCell w1.drew g (m * 2 + 1) _) (fun _ h => .inl h)) (fun i hi => ?_)
    subst hi
    exact h.at' i rfl
theorem infoWord : (Tryd.prog.info? 130).map (fun i => (i.zero, i.size, i.bytes)) = some (some (.agg #[.int .i64 0, .int .u64 0]), 2, 16) := by kernel_rfl
end Go.Proofs.YtleeedjpccooaaaDoor
namespace Go.Proofs.YtleeedjpccooaaaDoor
open Go.RowKit Go.Shelf
set_option maxRecDepth 10000 in
set_option maxHeartbeats 1600000 in
theorem addBit_any (lo fr p : Nat) (l : List (Nat × Nat)) (v : Value) (w : World) (ho : OwnP w lo v l) (hlo : lo ≤ w.heap.size) (hfr : fr ≤ l.length) (hl : l.length ≤ 1000000000) (hp : p ≤ 1000000000) (hx : ∀ x ∈ l, x.1 ≤ 1000000000 ∧ x.2 < 18446744073709551616) :
    Calls Tryd.prog 70 #[v, .int .i64 (fr : Int), .int .i64 (p : Int)] w fun e w' => ∃ v', e = .returned v' ∧ ApP w w' lo v v' (addW l fr p) := by
  obtain ⟨i0, hi, hz⟩ := Option.map_eq_some_iff.1 infoWord
  simp only [Prod.mk.injEq] at hz
  obtain ⟨hz0, hz1, hz2⟩ := hz
  obtain ⟨d, hd⟩ : ∃ d : Nat, d = p / 64 := ⟨_, rfl⟩
  have hp0 : (0 : Int) ≤ (p : Int) := by omega
  have hdI : (p : Int) / 64 = (d : Int) := by omega
  have hmI : (0 : Int) ≤ (p : Int) % 64 := by omega
  have hmI2 : (p : Int) % 64 < 64 := by omega
  obtain ⟨b, hb⟩ : ∃ b : Nat, b = 2 ^ (p % 64) := ⟨_, rfl⟩
  have hbl : b < 18446744073709551616 := by
    rw [hb]; exact Nat.lt_of_lt_of_le (Nat.pow_lt_pow_right (by omega) (Nat.mod_lt p (by omega) : p % 64 < 64)) (by decide)
  have hwb : IntKind.u64.wrap (2 ^ (p % 64)) = (b : Int) := by
    rw [hb, IntKind.wrap_u64]
    have e : (2 : Int) ^ (p % 64) = ((2 ^ (p % 64) : Nat) : Int) := by simp
    rw [e]
    rw [hb] at hbl
    omega
  obtain ⟨a, c, rfl⟩ := own_sl ho
  have hlI : (l.length : Int) ≤ 1000000000 := by omega
  have HO := hid0 ho
  -- a row that ends in a word for the place
  have HUp : Hid (∀ (w1 : World) (v1 : Value) (l1 : List (Nat × Nat)) (m : Nat), l1.length = m + 1 → (l1.getD m (0, 0)).1 = p / 64 → (l1.getD m (0, 0)).2 < 18446744073709551616 → ApP w w1 lo (.slice a l.length c) v1 l1 → ∃ g c' x y, v1 = .slice (some ⟨g, 0, none⟩) (m + 1) c' ∧ w1.cell? ⟨g, m * 2 + 1, none⟩ = some (.int .u64 (x : Int)) ∧ w1.frozen? ⟨g, m * 2 + 1, none⟩ = false ∧ bits .or .u64 (x : Int) (b : Int) = (y : Int) ∧ ApP w (w1.drew.setCell ⟨g, m * 2 + 1, none⟩ (.int .u64 (y : Int))) lo (.slice a l.length c) v1 (upW l1 p)) := hid0 (fun w1 v1 l1 m hm h1 h2 h => by
    obtain ⟨g, c', e, _, _, _, k1, k2⟩ := h.own.at' (i := m) (by omega)
    subst e
    have e3 : l1.getD m (0, 0) = l1[m] := by rw [List.getD_eq_getElem?_getD, List.getElem?_eq_getElem (by omega)]; rfl
    refine ⟨g, c', (l1[m]).2, (l1[m]).2 ||| b, by rw [hm], k1, k2, bits_or_u64_nat _ _ (by rw [← e3]; exact h2) hbl, h.up hm h1 (by rw [e3, hb])⟩)
  by_cases hq : l.length = fr ∨ (l.getD (l.length - 1) (0, 0)).1 ≠ p / 64
  · have HE : Hid (addW l fr p = upW (l ++ [(p / 64, 0)]) p) := hid0 (by unfold addW nxW; rw [if_pos hq])
    have HU : Hid (∀ (w1 : World) (v1 : Value), ApP w w1 lo (.slice a l.length c) v1 (l ++ [(p / 64, 0)]) → ∃ g c' x y, v1 = .slice (some ⟨g, 0, none⟩) (l.length + 1) c' ∧ w1.cell? ⟨g, l.length * 2 + 1, none⟩ = some (.int .u64 (x : Int)) ∧ w1.frozen? ⟨g, l.length * 2 + 1, none⟩ = false ∧ bits .or .u64 (x : Int) (b : Int) = (y : Int) ∧ ApP w (w1.drew.setCell ⟨g, l.length * 2 + 1, none⟩ (.int .u64 (y : Int))) lo (.slice a l.length c) v1 (addW l fr p)) := hid0 (fun w1 v1 h => by
      rw [HE.out]
      exact HUp.out w1 v1 _ l.length (by simp) (by simp) (by simp) h)
    have hcs : ((l.length : Int) == (fr : Int)) = true ∨ (((l.length : Int) == (fr : Int)) = false ∧ ∃ g n x, l.length = n + 1 ∧ a = some ⟨g, 0, none⟩ ∧ w.cell? ⟨g, n * 2, none⟩ = some (.int .i64 (x : Int)) ∧ ((x : Int) == (d : Int)) = false) := by
      by_cases e : l.length = fr
      · left; simp [e]
      · right
        refine ⟨by rw [beq_eq_false_iff_ne]; omega, ?_⟩
        have hlt : l.length - 1 < l.length := by omega
        obtain ⟨g, c', e1, _, _, k0, _⟩ := ho.at' hlt
        have e3 : l.getD (l.length - 1) (0, 0) = l[l.length - 1] := by rw [List.getD_eq_getElem?_getD, List.getElem?_eq_getElem hlt]; rfl
        refine ⟨g, l.length - 1, (l[l.length - 1]).1, by omega, by injection e1, k0, ?_⟩
        have := hq.resolve_left e
        rw [e3] at this
        rw [beq_eq_false_iff_ne]; omega
    have hdn : p / 64 = d := hd.symm
    rw [hdn] at HU
    clear hq hd hb HUp HE ho hdn
    rcases hcs with h1 | ⟨h1, g0, n0, x0, hn0, rfl, k0, h2⟩
    · go_enter Tryd.func70, Tryd.ntmps70
      go_upto_region 5 with (at_builtin; go_loud ((refine wpList_append_own_at _ rfl _ _ 84 rfl lo 130 i0 (.agg #[.int .i64 0, .int .u64 0]) 2 16 Tryd.underlying84 hi hz0 hz1 hz2 rfl (by decide) (.slice a l.length c) l.length (cells2 l) rfl (World.ownsRow.alloc HO.out _) ⟨w.heap.size, 0, none⟩ 1 1 (cells2 [(d, 0)]) rfl rfl (cell_two_new _ _ _ _) (cells2_one _) (by unfold maxLen; omega) (by omega) (by simp; omega) ?_; intro v1 w1 h1 h2 _ h4; have R := hid0 (HU.out w1 v1 (apP_one h1 h2 h4)); clear h1 h2 h4)))
      obtain ⟨g, c', x, y, rfl, k1, k2, hor, hA⟩ := R.out
      have HA := hid0 hA
      clear hA R HU
      go_wp2
      go_region
      all_goals
        go_wp2
        go_ret
        exact ⟨_, rfl, HA.out⟩
    · have HN0 := hid0 hn0
      have h1' : ((n0 : Int) + 1 == (fr : Int)) = false := by rw [hn0] at h1; push_cast at h1; exact h1
      have HOn : Hid (w.ownsRow lo 130 2 (.slice (some ⟨g0, 0, none⟩) (n0 + 1) c) (n0 + 1) (cells2 l)) := hid0 (by have h := HO.out; unfold OwnP at h; rw [hn0] at h; exact h)
      rw [hn0] at HU ⊢
      have hnb : n0 ≤ 999999999 := by omega
      clear hn0 h1 HO hl hlI hfr hx
      go_enter Tryd.func70, Tryd.ntmps70
      go_upto_region 5 with (at_builtin; go_loud ((refine wpList_append_own_at _ rfl _ _ 84 rfl lo 130 i0 (.agg #[.int .i64 0, .int .u64 0]) 2 16 Tryd.underlying84 hi hz0 hz1 hz2 rfl (by decide) (.slice (some ⟨g0, 0, none⟩) (n0 + 1) c) (n0 + 1) (cells2 l) rfl (World.ownsRow.alloc HOn.out _) ⟨w.heap.size, 0, none⟩ 1 1 (cells2 [(d, 0)]) rfl rfl (cell_two_new _ _ _ _) (cells2_one _) (by unfold maxLen; omega) (by omega) (by simp; omega) ?_; intro v1 w1 h1 h2 _ h4; have R := hid0 (HU.out w1 v1 (apP_one (by rw [HN0.out]; exact h1) h2 h4)); clear h1 h2 h4)))
      obtain ⟨g, c', x, y, rfl, k1, k2, hor, hA⟩ := R.out
      have HA := hid0 hA
      clear hA R HU
      go_wp2
      go_region
      all_goals
        go_wp2
        go_ret
        exact ⟨_, rfl, HA.out⟩
  · have hq2 : l.length ≠ fr ∧ (l.getD (l.length - 1) (0, 0)).1 = p / 64 := by
      refine ⟨fun e => hq (.inl e), ?_⟩
      by_cases e : (l.getD (l.length - 1) (0, 0)).1 = p / 64
      · exact e
      · exact absurd (.inr e) hq
    obtain ⟨n0, hn0⟩ : ∃ n0, l.length = n0 + 1 := ⟨l.length - 1, by omega⟩
    have hlt : n0 < l.length := by omega
    have e3 : l.getD n0 (0, 0) = l[n0] := by rw [List.getD_eq_getElem?_getD, List.getElem?_eq_getElem hlt]; rfl
    have e4 : (l.getD n0 (0, 0)).1 = p / 64 := by have h := hq2.2; rw [hn0] at h; exact h
    obtain ⟨g0, c0, e1, z1, z2, k0, z3⟩ := ho.at' hlt
    clear z1 z2 z3
    have e2 : a = some ⟨g0, 0, none⟩ := by injection e1
    subst e2
    have hself : ApP w w lo (.slice (some ⟨g0, 0, none⟩) l.length c) (.slice (some ⟨g0, 0, none⟩) l.length c) l := ⟨ho, Only.refl _ _, fun k hk => .inl hk⟩
    have hR := HUp.out w _ l n0 hn0 e4 (by rw [e3]; exact (hx _ (List.getElem_mem hlt)).2) hself
    obtain ⟨g, c', x, y, e5, k1, k2, hor, hA⟩ := hR
    have e6 : addW l fr p = upW l p := by unfold addW nxW; rw [if_neg hq]
    rw [← e6] at hA
    have e7 : g0 = g ∧ c = c' := by simp only [Value.slice.injEq, Option.some.injEq, Addr.mk.injEq, and_true] at e5; exact ⟨e5.1, e5.2.2⟩
    obtain ⟨rfl, rfl⟩ := e7
    rw [← e3, e4, ← hd] at k0
    have h1' : ((n0 : Int) + 1 == (fr : Int)) = false := by rw [beq_eq_false_iff_ne]; have := hq2.1; omega
    have HA := hid0 hA
    rw [hn0] at HA ⊢
    have hnb : n0 ≤ 999999999 := by omega
    have hdd : ((d : Int) != (d : Int)) = false := by simp
    clear hq hq2 hn0 hlt e3 e4 e1 hself hA e5 e6 hd hb HUp ho HO hx hl hlI hfr
    go_enter Tryd.func70, Tryd.ntmps70
    go_wp2
    go_region
    all_goals
      go_wp2
      go_ret
      exact ⟨_, rfl, HA.out⟩
end Go.Proofs.YtleeedjpccooaaaDoor
namespace Go.Proofs.YtleeedjpccooaaaDoor
open Go.RowKit Go.Shelf
theorem encW_none (f : Nat → Bool) : encW f 0 = [] := rfl
set_option maxRecDepth 10000 in
set_option maxHeartbeats 1600000 in
theorem part_none (B GT cT cS sy lo : Nat) (aS : Option Addr) (lt : Nat → Nat → Bool) (S : Nat → Bool) (old : Nat → List UInt8) (ps0 : Lob) (w : World) (hp : PtI w GT cT sy lo ps0 old w) :
    Calls Tryd.prog 48 #[.pointer (some ⟨B, 0, none⟩), .slice aS 0 cS] w fun e w' => (∃ v, e = .returned v) ∧ PtI w GT cT sy lo ps0 (fun c => old c ++ encW (andB S (lt c)) 0) w' := by
  have HF : Hid (PtI w GT cT sy lo ps0 (fun c => old c ++ encW (andB S (lt c)) 0) w) := hid0 (by simp only [encW_none, List.append_nil]; exact hp)
  clear hp
  go_enter Tryd.func48, Tryd.ntmps48
  go_wp2
  go_loopw [11] (fun i wr => i = .int .i64 0 ∧ wr = w) (fun _ _ => 0)
  case atStart => exact ⟨rfl, rfl⟩
  case round =>
    obtain ⟨rfl, rfl⟩ := hrel
    go_wp2
    go_end0
    exact ⟨⟨_, rfl⟩, HF.out⟩
end Go.Proofs.YtleeedjpccooaaaDoor
namespace Go.Proofs.YtleeedjpccooaaaDoor
open Go.RowKit Go.Shelf
theorem upW_snoc (r : List (Nat × Nat)) (x : Nat × Nat) (p : Nat) : upW (r ++ [x]) p = r ++ [(p / 64, x.2 ||| 2 ^ (p % 64))] := by
  unfold upW
  have e : (r ++ [x]).length - 1 = r.length := by simp
  rw [e, List.getD_eq_getElem?_getD, List.getElem?_append_right (Nat.le_refl _), Nat.sub_self, List.set_append_right _ _ (Nat.le_refl _), Nat.sub_self]
  rfl
/-- addBit's row, in two cases. -/
theorem addW_cases (l : List (Nat × Nat)) (fr p : Nat) (h : fr ≤ l.length) : (addW l fr p = l ++ [(p / 64, 2 ^ (p % 64))] ∧ (l.length = fr ∨ (l.getD (l.length - 1) (0, 0)).1 ≠ p / 64)) ∨ ∃ r y, l = r ++ [(p / 64, y)] ∧ addW l fr p = r ++ [(p / 64, y ||| 2 ^ (p % 64))] := by
  by_cases hq : l.length = fr ∨ (l.getD (l.length - 1) (0, 0)).1 ≠ p / 64
  · left
    refine ⟨?_, hq⟩
    unfold addW nxW
    rw [if_pos hq, upW_snoc]
    simp
  · right
    have h1 : l.length ≠ fr := fun e => hq (.inl e)
    have h2 : (l.getD (l.length - 1) (0, 0)).1 = p / 64 := by
      by_cases e : (l.getD (l.length - 1) (0, 0)).1 = p / 64
      · exact e
      · exact absurd (.inr e) hq
    have hne : l ≠ [] := fun e => by rw [e] at h h1; simp at h h1; exact h1 h.symm
    obtain ⟨r, x, rfl⟩ : ∃ r x, l = r ++ [x] := ⟨l.dropLast, l.getLast hne, (List.dropLast_concat_getLast hne).symm⟩
    have e : (r ++ [x]).length - 1 = r.length := by simp
    rw [e, List.getD_eq_getElem?_getD, List.getElem?_append_right (Nat.le_refl _), Nat.sub_self] at h2
    have h3 : x.1 = p / 64 := h2
    refine ⟨r, x.2, by rw [← h3], ?_⟩
    unfold addW nxW
    rw [if_neg hq, upW_snoc]
theorem addW_pre (pre r : List (Nat × Nat)) (p : Nat) : addW (pre ++ r) pre.length p = pre ++ addW r 0 p := by
  rcases addW_cases r 0 p (Nat.zero_le _) with ⟨e1, hq⟩ | ⟨r', y, e1, e2⟩
  · rw [e1]
    have hq2 : (pre ++ r).length = pre.length ∨ ((pre ++ r).getD ((pre ++ r).length - 1) (0, 0)).1 ≠ p / 64 := by
      by_cases h0 : r.length = 0
      · left; simp [List.length_eq_zero_iff.1 h0]
      · right
        have h2 := hq.resolve_left h0
        rw [List.getD_eq_getElem?_getD, List.getElem?_append_right (by rw [List.length_append]; omega), show (pre ++ r).length - 1 - pre.length = r.length - 1 by rw [List.length_append]; omega, ← List.getD_eq_getElem?_getD]
        exact h2
    unfold addW nxW
    rw [if_pos hq2, upW_snoc]
    simp
  · subst e1
    rw [e2]
    have hq2 : ¬ ((pre ++ (r' ++ [(p / 64, y)])).length = pre.length ∨ ((pre ++ (r' ++ [(p / 64, y)])).getD ((pre ++ (r' ++ [(p / 64, y)])).length - 1) (0, 0)).1 ≠ p / 64) := by
      rintro (h | h)
      · simp at h
      · rw [← List.append_assoc] at h
        have e : ((pre ++ r') ++ [(p / 64, y)]).length - 1 = (pre ++ r').length := by simp
        rw [e, List.getD_eq_getElem?_getD, List.getElem?_append_right (Nat.le_refl _), Nat.sub_self] at h
        exact h rfl
    unfold addW nxW
    rw [if_neg hq2, ← List.append_assoc, upW_snoc, List.append_assoc]
theorem same_place (p q : Nat) : (decide (p / 64 = q / 64) && decide (p % 64 = q % 64)) = decide (q = p) := by
  rw [← Bool.decide_and]
  congr 1
  apply propext
  constructor
  · rintro ⟨h1, h2⟩; omega
  · rintro rfl; exact ⟨rfl, rfl⟩
theorem inR_addW (l : List (Nat × Nat)) (fr p q : Nat) (h : fr ≤ l.length) : inR (addW l fr p) q = (inR l q || decide (q = p)) := by
  rcases addW_cases l fr p h with ⟨e1, _⟩ | ⟨r, y, rfl, e2⟩
  · rw [e1, inR_snoc, Nat.testBit_two_pow, same_place]
  · rw [e2, inR_snoc, inR_snoc, Nat.testBit_or, Nat.testBit_two_pow, Bool.and_or_distrib_left, same_place, Bool.or_assoc]
theorem addW_ok (l : List (Nat × Nat)) (fr p N : Nat) (h : fr ≤ l.length) (hp : p / 64 < N) (hl : ∀ x ∈ l, x.1 < N ∧ x.2 < 18446744073709551616) : ∀ x ∈ addW l fr p, x.1 < N ∧ x.2 < 18446744073709551616 := by
  have hb : 2 ^ (p % 64) < 18446744073709551616 := Nat.lt_of_lt_of_le (Nat.pow_lt_pow_right (by omega) (Nat.mod_lt p (by omega) : p % 64 < 64)) (by decide)
  rcases addW_cases l fr p h with ⟨e1, _⟩ | ⟨r, y, rfl, e2⟩
  · rw [e1]
    intro x hx
    rcases List.mem_append.1 hx with h1 | h1
    · exact hl x h1
    · rw [List.mem_singleton.1 h1]; exact ⟨hp, hb⟩
  · rw [e2]
    intro x hx
    rcases List.mem_append.1 hx with h1 | h1
    · exact hl x (List.mem_append.2 (.inl h1))
    · rw [List.mem_singleton.1 h1]
      have hy := (hl (p / 64, y) (by simp)).2
      exact ⟨hp, Nat.or_lt_two_pow (n := 64) hy hb⟩
/-- The row of a list of places. -/
def rowW (base : Nat) (L : List Nat) : List (Nat × Nat) := L.foldl (fun r p => addW r 0 (base + p)) []
theorem rowW_take (base : Nat) {L : List Nat} {k : Nat} (hk : k < L.length) : rowW base (L.take (k + 1)) = addW (rowW base (L.take k)) 0 (base + L[k]) := by
  unfold rowW
  rw [List.take_add_one, List.getElem?_eq_getElem hk, Option.toList_some, List.foldl_append]
  rfl
theorem rowW_snoc (base : Nat) (L : List Nat) (p : Nat) : rowW base (L ++ [p]) = addW (rowW base L) 0 (base + p) := by unfold rowW; rw [List.foldl_append]; rfl
theorem inR_rowW (base : Nat) (L : List Nat) (q : Nat) : inR (rowW base L) q = L.any (fun p => decide (q = base + p)) := by
  have key : ∀ n, n ≤ L.length → inR (rowW base (L.take n)) q = (L.take n).any (fun p => decide (q = base + p)) := by
    intro n
    induction n with
    | zero => intro _; rfl
    | succ n ih =>
      intro hn
      rw [rowW_take base (by omega), inR_addW _ _ _ _ (Nat.zero_le _), ih (by omega), List.take_add_one, List.getElem?_eq_getElem (by omega : n < L.length), Option.toList_some, List.any_append]
      simp
  have h := key L.length (Nat.le_refl _)
  rw [List.take_length] at h
  exact h
theorem rowW_ok (base N : Nat) (L : List Nat) (hL : ∀ p ∈ L, base + p < 64 * N) : ∀ x ∈ rowW base L, x.1 < N ∧ x.2 < 18446744073709551616 := by
  have key : ∀ n, n ≤ L.length → ∀ x ∈ rowW base (L.take n), x.1 < N ∧ x.2 < 18446744073709551616 := by
    intro n
    induction n with
    | zero => intro _ x hx; simp [rowW] at hx
    | succ n ih =>
      intro hn
      rw [rowW_take base (by omega)]
      have := hL _ (List.getElem_mem (by omega : n < L.length))
      exact addW_ok _ _ _ _ (Nat.zero_le _) (by omega) (ih (by omega))
  have h := key L.length (Nat.le_refl _)
  rw [List.take_length] at h
  exact h
theorem addW_len (l : List (Nat × Nat)) (fr p : Nat) (h : fr ≤ l.length) : (addW l fr p).length ≤ l.length + 1 ∧ l.length ≤ (addW l fr p).length := by
  rcases addW_cases l fr p h with ⟨e1, _⟩ | ⟨r, y, rfl, e2⟩
  · rw [e1]; simp
  · rw [e2]; simp
end Go.Proofs.YtleeedjpccooaaaDoor
namespace Go.Proofs.YtleeedjpccooaaaDoor
open Go.RowKit Go.Shelf
theorem keepRow {W W' : World} {J lo : Nat} {t t' : TypeId} {s n : Nat} {v v0 : Value} {xs : List Value} {cs : Array Value} {f : Nat × Nat} (h : W.ownsRow lo t s v n xs) (hO : Only W W' (fun k => k = J ∨ v0.ownBlock = some k)) (hJ : W.heap[J]? = some (.cells cs t' f)) (ht : t ≠ t') (ha : ∀ k, v.ownBlock = some k → v0.ownBlock ≠ some k) : W'.ownsRow lo t s v n xs :=
  own_blk h (fun k hk => hO.block k (World.ownsRow.lt h k hk).2 (fun e => e.elim (fun e => own_ne_blk h hJ ht (e ▸ hk)) (ha k hk)))
/-- Two rows that share no block. -/
def Apt (v u : Value) : Prop := ∀ k, v.ownBlock = some k → u.ownBlock ≠ some k
theorem Apt.symm {v u : Value} (h : Apt v u) : Apt u v := fun k hk e => h k e hk
theorem Apt.ofTyp {W : World} {lo lo' : Nat} {t t' : TypeId} {s s' n n' : Nat} {v u : Value} {xs ys : List Value} (h : W.ownsRow lo t s v n xs) (k : W.ownsRow lo' t' s' u n' ys) (ht : t ≠ t') : Apt v u := fun g hg e => by
  obtain ⟨c, hc⟩ := own_typ k e
  exact own_ne_blk h hc ht hg
theorem Apt.new {W : World} {lo : Nat} {t : TypeId} {s n : Nat} {v v' u : Value} {xs : List Value} (h : Apt v u) (hu : W.ownsRow lo t s u n xs) (hn : ∀ k, v'.ownBlock = some k → v.ownBlock = some k ∨ W.heap.size ≤ k) : Apt v' u := fun k hk e => (hn k hk).elim (fun h1 => h k h1 e) (fun h1 => by have := (World.ownsRow.lt hu k e).2; omega)
structure JoS (W : World) (J sy lo : Nat) (vO vF vE vL vM vZ vP vC vS vA : Value) (own : List Nat) (it : List (Nat × Nat)) (en : List Nat) (N : Nat) (la op cl : Nat → Bool) (at0 alw : List Nat) : Prop where
  b : Jb W J sy vO vF vE vL vM vZ vP vC vS vA
  o : OwnI W lo vO (nI own)
  f : OwnP W lo vF it
  e : OwnI W lo vE (nI en)
  z : OwnU W lo vZ N la
  p : OwnU W lo vP N op
  c : OwnU W lo vC N cl
  s : OwnI W lo vS (nI at0)
  a : OwnI W lo vA (nI alw)
  qoe : Apt vO vE
  qos : Apt vO vS
  qoa : Apt vO vA
  qes : Apt vE vS
  qea : Apt vE vA
  qsa : Apt vS vA
  qzp : Apt vZ vP
  qzc : Apt vZ vC
  qpc : Apt vP vC
theorem JoS.at_o {W W' : World} {J sy lo : Nat} {vO vF vE vL vM vZ vP vC vS vA v' : Value} {own : List Nat} {it : List (Nat × Nat)} {en : List Nat} {N : Nat} {la op cl : Nat → Bool} {at0 alw : List Nat} {own' : List Nat} (h : JoS W J sy lo vO vF vE vL vM vZ vP vC vS vA own it en N la op cl at0 alw) (hb : Jb W' J sy v' vF vE vL vM vZ vP vC vS vA) (ho : OwnI W' lo v' (nI own')) (hO : Only W W' (fun k => k = J ∨ vO.ownBlock = some k)) (hn : ∀ k, v'.ownBlock = some k → vO.ownBlock = some k ∨ W.heap.size ≤ k) : JoS W' J sy lo v' vF vE vL vM vZ vP vC vS vA own' it en N la op cl at0 alw where
  b := hb
  o := ho
  f := keepRow h.f hO h.b.r (by decide) (Apt.ofTyp h.f h.o (by decide))
  e := keepRow h.e hO h.b.r (by decide) h.qoe.symm
  z := keepRow h.z hO h.b.r (by decide) (Apt.ofTyp h.z h.o (by decide))
  p := keepRow h.p hO h.b.r (by decide) (Apt.ofTyp h.p h.o (by decide))
  c := keepRow h.c hO h.b.r (by decide) (Apt.ofTyp h.c h.o (by decide))
  s := keepRow h.s hO h.b.r (by decide) h.qos.symm
  a := keepRow h.a hO h.b.r (by decide) h.qoa.symm
  qoe := h.qoe.new h.e hn
  qos := h.qos.new h.s hn
  qoa := h.qoa.new h.a hn
  qes := h.qes
  qea := h.qea
  qsa := h.qsa
  qzp := h.qzp
  qzc := h.qzc
  qpc := h.qpc
theorem JoS.at_f {W W' : World} {J sy lo : Nat} {vO vF vE vL vM vZ vP vC vS vA v' : Value} {own : List Nat} {it : List (Nat × Nat)} {en : List Nat} {N : Nat} {la op cl : Nat → Bool} {at0 alw : List Nat} {it' : List (Nat × Nat)} (h : JoS W J sy lo vO vF vE vL vM vZ vP vC vS vA own it en N la op cl at0 alw) (hb : Jb W' J sy vO v' vE vL vM vZ vP vC vS vA) (ho : OwnP W' lo v' it') (hO : Only W W' (fun k => k = J ∨ vF.ownBlock = some k)) (_hn : ∀ k, v'.ownBlock = some k → vF.ownBlock = some k ∨ W.heap.size ≤ k) : JoS W' J sy lo vO v' vE vL vM vZ vP vC vS vA own it' en N la op cl at0 alw where
  b := hb
  o := keepRow h.o hO h.b.r (by decide) (Apt.ofTyp h.o h.f (by decide))
  f := ho
  e := keepRow h.e hO h.b.r (by decide) (Apt.ofTyp h.e h.f (by decide))
  z := keepRow h.z hO h.b.r (by decide) (Apt.ofTyp h.z h.f (by decide))
  p := keepRow h.p hO h.b.r (by decide) (Apt.ofTyp h.p h.f (by decide))
  c := keepRow h.c hO h.b.r (by decide) (Apt.ofTyp h.c h.f (by decide))
  s := keepRow h.s hO h.b.r (by decide) (Apt.ofTyp h.s h.f (by decide))
  a := keepRow h.a hO h.b.r (by decide) (Apt.ofTyp h.a h.f (by decide))
  qoe := h.qoe
  qos := h.qos
  qoa := h.qoa
  qes := h.qes
  qea := h.qea
  qsa := h.qsa
  qzp := h.qzp
  qzc := h.qzc
  qpc := h.qpc
theorem JoS.at_e {W W' : World} {J sy lo : Nat} {vO vF vE vL vM vZ vP vC vS vA v' : Value} {own : List Nat} {it : List (Nat × Nat)} {en : List Nat} {N : Nat} {la op cl : Nat → Bool} {at0 alw : List Nat} {en' : List Nat} (h : JoS W J sy lo vO vF vE vL vM vZ vP vC vS vA own it en N la op cl at0 alw) (hb : Jb W' J sy vO vF v' vL vM vZ vP vC vS vA) (ho : OwnI W' lo v' (nI en')) (hO : Only W W' (fun k => k = J ∨ vE.ownBlock = some k)) (hn : ∀ k, v'.ownBlock = some k → vE.ownBlock = some k ∨ W.heap.size ≤ k) : JoS W' J sy lo vO vF v' vL vM vZ vP vC vS vA own it en' N la op cl at0 alw where
  b := hb
  o := keepRow h.o hO h.b.r (by decide) h.qoe
  f := keepRow h.f hO h.b.r (by decide) (Apt.ofTyp h.f h.e (by decide))
  e := ho
  z := keepRow h.z hO h.b.r (by decide) (Apt.ofTyp h.z h.e (by decide))
  p := keepRow h.p hO h.b.r (by decide) (Apt.ofTyp h.p h.e (by decide))
  c := keepRow h.c hO h.b.r (by decide) (Apt.ofTyp h.c h.e (by decide))
  s := keepRow h.s hO h.b.r (by decide) h.qes.symm
  a := keepRow h.a hO h.b.r (by decide) h.qea.symm
  qoe := (h.qoe.symm.new h.o hn).symm
  qos := h.qos
  qoa := h.qoa
  qes := h.qes.new h.s hn
  qea := h.qea.new h.a hn
  qsa := h.qsa
  qzp := h.qzp
  qzc := h.qzc
  qpc := h.qpc
theorem JoS.at_z {W W' : World} {J sy lo : Nat} {vO vF vE vL vM vZ vP vC vS vA v' : Value} {own : List Nat} {it : List (Nat × Nat)} {en : List Nat} {N : Nat} {la op cl : Nat → Bool} {at0 alw : List Nat} {la' : Nat → Bool} (h : JoS W J sy lo vO vF vE vL vM vZ vP vC vS vA own it en N la op cl at0 alw) (hb : Jb W' J sy vO vF vE vL vM v' vP vC vS vA) (ho : OwnU W' lo v' N la') (hO : Only W W' (fun k => k = J ∨ vZ.ownBlock = some k)) (hn : ∀ k, v'.ownBlock = some k → vZ.ownBlock = some k ∨ W.heap.size ≤ k) : JoS W' J sy lo vO vF vE vL vM v' vP vC vS vA own it en N la' op cl at0 alw where
  b := hb
  o := keepRow h.o hO h.b.r (by decide) (Apt.ofTyp h.o h.z (by decide))
  f := keepRow h.f hO h.b.r (by decide) (Apt.ofTyp h.f h.z (by decide))
  e := keepRow h.e hO h.b.r (by decide) (Apt.ofTyp h.e h.z (by decide))
  z := ho
  p := keepRow h.p hO h.b.r (by decide) h.qzp.symm
  c := keepRow h.c hO h.b.r (by decide) h.qzc.symm
  s := keepRow h.s hO h.b.r (by decide) (Apt.ofTyp h.s h.z (by decide))
  a := keepRow h.a hO h.b.r (by decide) (Apt.ofTyp h.a h.z (by decide))
  qoe := h.qoe
  qos := h.qos
  qoa := h.qoa
  qes := h.qes
  qea := h.qea
  qsa := h.qsa
  qzp := h.qzp.new h.p hn
  qzc := h.qzc.new h.c hn
  qpc := h.qpc
theorem JoS.at_p {W W' : World} {J sy lo : Nat} {vO vF vE vL vM vZ vP vC vS vA v' : Value} {own : List Nat} {it : List (Nat × Nat)} {en : List Nat} {N : Nat} {la op cl : Nat → Bool} {at0 alw : List Nat} {op' : Nat → Bool} (h : JoS W J sy lo vO vF vE vL vM vZ vP vC vS vA own it en N la op cl at0 alw) (hb : Jb W' J sy vO vF vE vL vM vZ v' vC vS vA) (ho : OwnU W' lo v' N op') (hO : Only W W' (fun k => k = J ∨ vP.ownBlock = some k)) (hn : ∀ k, v'.ownBlock = some k → vP.ownBlock = some k ∨ W.heap.size ≤ k) : JoS W' J sy lo vO vF vE vL vM vZ v' vC vS vA own it en N la op' cl at0 alw where
  b := hb
  o := keepRow h.o hO h.b.r (by decide) (Apt.ofTyp h.o h.p (by decide))
  f := keepRow h.f hO h.b.r (by decide) (Apt.ofTyp h.f h.p (by decide))
  e := keepRow h.e hO h.b.r (by decide) (Apt.ofTyp h.e h.p (by decide))
  z := keepRow h.z hO h.b.r (by decide) h.qzp
  p := ho
  c := keepRow h.c hO h.b.r (by decide) h.qpc.symm
  s := keepRow h.s hO h.b.r (by decide) (Apt.ofTyp h.s h.p (by decide))
  a := keepRow h.a hO h.b.r (by decide) (Apt.ofTyp h.a h.p (by decide))
  qoe := h.qoe
  qos := h.qos
  qoa := h.qoa
  qes := h.qes
  qea := h.qea
  qsa := h.qsa
  qzp := (h.qzp.symm.new h.z hn).symm
  qzc := h.qzc
  qpc := h.qpc.new h.c hn
theorem JoS.at_c {W W' : World} {J sy lo : Nat} {vO vF vE vL vM vZ vP vC vS vA v' : Value} {own : List Nat} {it : List (Nat × Nat)} {en : List Nat} {N : Nat} {la op cl : Nat → Bool} {at0 alw : List Nat} {cl' : Nat → Bool} (h : JoS W J sy lo vO vF vE vL vM vZ vP vC vS vA own it en N la op cl at0 alw) (hb : Jb W' J sy vO vF vE vL vM vZ vP v' vS vA) (ho : OwnU W' lo v' N cl') (hO : Only W W' (fun k => k = J ∨ vC.ownBlock = some k)) (hn : ∀ k, v'.ownBlock = some k → vC.ownBlock = some k ∨ W.heap.size ≤ k) : JoS W' J sy lo vO vF vE vL vM vZ vP v' vS vA own it en N la op cl' at0 alw where
  b := hb
  o := keepRow h.o hO h.b.r (by decide) (Apt.ofTyp h.o h.c (by decide))
  f := keepRow h.f hO h.b.r (by decide) (Apt.ofTyp h.f h.c (by decide))
  e := keepRow h.e hO h.b.r (by decide) (Apt.ofTyp h.e h.c (by decide))
  z := keepRow h.z hO h.b.r (by decide) h.qzc
  p := keepRow h.p hO h.b.r (by decide) h.qpc
  c := ho
  s := keepRow h.s hO h.b.r (by decide) (Apt.ofTyp h.s h.c (by decide))
  a := keepRow h.a hO h.b.r (by decide) (Apt.ofTyp h.a h.c (by decide))
  qoe := h.qoe
  qos := h.qos
  qoa := h.qoa
  qes := h.qes
  qea := h.qea
  qsa := h.qsa
  qzp := h.qzp
  qzc := (h.qzc.symm.new h.z hn).symm
  qpc := (h.qpc.symm.new h.p hn).symm
theorem JoS.at_s {W W' : World} {J sy lo : Nat} {vO vF vE vL vM vZ vP vC vS vA v' : Value} {own : List Nat} {it : List (Nat × Nat)} {en : List Nat} {N : Nat} {la op cl : Nat → Bool} {at0 alw : List Nat} {at0' : List Nat} (h : JoS W J sy lo vO vF vE vL vM vZ vP vC vS vA own it en N la op cl at0 alw) (hb : Jb W' J sy vO vF vE vL vM vZ vP vC v' vA) (ho : OwnI W' lo v' (nI at0')) (hO : Only W W' (fun k => k = J ∨ vS.ownBlock = some k)) (hn : ∀ k, v'.ownBlock = some k → vS.ownBlock = some k ∨ W.heap.size ≤ k) : JoS W' J sy lo vO vF vE vL vM vZ vP vC v' vA own it en N la op cl at0' alw where
  b := hb
  o := keepRow h.o hO h.b.r (by decide) h.qos
  f := keepRow h.f hO h.b.r (by decide) (Apt.ofTyp h.f h.s (by decide))
  e := keepRow h.e hO h.b.r (by decide) h.qes
  z := keepRow h.z hO h.b.r (by decide) (Apt.ofTyp h.z h.s (by decide))
  p := keepRow h.p hO h.b.r (by decide) (Apt.ofTyp h.p h.s (by decide))
  c := keepRow h.c hO h.b.r (by decide) (Apt.ofTyp h.c h.s (by decide))
  s := ho
  a := keepRow h.a hO h.b.r (by decide) h.qsa.symm
  qoe := h.qoe
  qos := (h.qos.symm.new h.o hn).symm
  qoa := h.qoa
  qes := (h.qes.symm.new h.e hn).symm
  qea := h.qea
  qsa := h.qsa.new h.a hn
  qzp := h.qzp
  qzc := h.qzc
  qpc := h.qpc
theorem JoS.at_a {W W' : World} {J sy lo : Nat} {vO vF vE vL vM vZ vP vC vS vA v' : Value} {own : List Nat} {it : List (Nat × Nat)} {en : List Nat} {N : Nat} {la op cl : Nat → Bool} {at0 alw : List Nat} {alw' : List Nat} (h : JoS W J sy lo vO vF vE vL vM vZ vP vC vS vA own it en N la op cl at0 alw) (hb : Jb W' J sy vO vF vE vL vM vZ vP vC vS v') (ho : OwnI W' lo v' (nI alw')) (hO : Only W W' (fun k => k = J ∨ vA.ownBlock = some k)) (hn : ∀ k, v'.ownBlock = some k → vA.ownBlock = some k ∨ W.heap.size ≤ k) : JoS W' J sy lo vO vF vE vL vM vZ vP vC vS v' own it en N la op cl at0 alw' where
  b := hb
  o := keepRow h.o hO h.b.r (by decide) h.qoa
  f := keepRow h.f hO h.b.r (by decide) (Apt.ofTyp h.f h.a (by decide))
  e := keepRow h.e hO h.b.r (by decide) h.qea
  z := keepRow h.z hO h.b.r (by decide) (Apt.ofTyp h.z h.a (by decide))
  p := keepRow h.p hO h.b.r (by decide) (Apt.ofTyp h.p h.a (by decide))
  c := keepRow h.c hO h.b.r (by decide) (Apt.ofTyp h.c h.a (by decide))
  s := keepRow h.s hO h.b.r (by decide) h.qsa
  a := ho
  qoe := h.qoe
  qos := h.qos
  qoa := (h.qoa.symm.new h.o hn).symm
  qes := h.qes
  qea := (h.qea.symm.new h.e hn).symm
  qsa := (h.qsa.symm.new h.s hn).symm
  qzp := h.qzp
  qzc := h.qzc
  qpc := h.qpc
end Go.Proofs.YtleeedjpccooaaaDoor
namespace Go.Proofs.YtleeedjpccooaaaDoor
open Go.RowKit Go.Shelf
theorem ownI_of {w : World} {lo : Nat} {v : Value} {L : List Nat} {n : Nat} (h : w.ownsRow lo 3 1 v ((nI L).map (Value.int .i64) ++ [Value.int .i64 (n : Int)]).length ((nI L).map (Value.int .i64) ++ [Value.int .i64 (n : Int)])) : OwnI w lo v (nI (L ++ [n])) := by
  unfold OwnI
  rw [nI_app, List.map_append, nI_len1]
  simpa [nI] using h
theorem Jb.setO {W : World} {J sy : Nat} {vO vF vE vL vM vZ vP vC vS vA : Value} (h : Jb W J sy vO vF vE vL vM vZ vP vC vS vA) (v : Value) : Jb (W.setCell ⟨J, 1, none⟩ v) J sy v vF vE vL vM vZ vP vC vS vA := ⟨heap_setCell_same W _ 1 _ _ _ h.r⟩
theorem JoS.setO {W w2 : World} {J sy lo : Nat} {vO vF vE vL vM vZ vP vC vS vA v' : Value} {own : List Nat} {it : List (Nat × Nat)} {en : List Nat} {N : Nat} {la op cl : Nat → Bool} {at0 alw : List Nat} {n : Nat} (h : JoS W J sy lo vO vF vE vL vM vZ vP vC vS vA own it en N la op cl at0 alw) (g : ApG 3 W w2 lo vO v' ((nI own).map (Value.int .i64) ++ [Value.int .i64 (n : Int)])) : Jb w2 J sy vO vF vE vL vM vZ vP vC vS vA ∧ JoS (w2.setCell ⟨J, 1, none⟩ v') J sy lo v' vF vE vL vM vZ vP vC vS vA (own ++ [n]) it en N la op cl at0 alw ∧ Only W (w2.setCell ⟨J, 1, none⟩ v') (fun k => k = J ∨ vO.ownBlock = some k) := by
  have m1 := own_ne_blk h.o h.b.r (by decide)
  have j2 : Jb w2 J sy vO vF vE vL vM vZ vP vC vS vA := ⟨(g.frm.block _ (Array.getElem?_eq_some_iff.1 h.b.r).1 m1).trans h.b.r⟩
  have m2 := own_ne_blk g.own j2.r (by decide)
  have hO := Only.setCell w2 J 1 v'
  have hA : Only W (w2.setCell ⟨J, 1, none⟩ v') (fun k => k = J ∨ vO.ownBlock = some k) := (g.frm.mono (fun _ h => .inr h)).trans hO (fun _ h => .inl (.inl h))
  exact ⟨j2, h.at_o (j2.setO v') (ownI_of (own_blk g.own (fun k hk => hO.block k (World.ownsRow.lt g.own k hk).2 (fun e => m2 (e ▸ hk))))) hA g.at', hA⟩
theorem Jb.setS {W : World} {J sy : Nat} {vO vF vE vL vM vZ vP vC vS vA : Value} (h : Jb W J sy vO vF vE vL vM vZ vP vC vS vA) (v : Value) : Jb (W.setCell ⟨J, 9, none⟩ v) J sy vO vF vE vL vM vZ vP vC v vA := ⟨heap_setCell_same W _ 9 _ _ _ h.r⟩
theorem JoS.setS {W w2 : World} {J sy lo : Nat} {vO vF vE vL vM vZ vP vC vS vA v' : Value} {own : List Nat} {it : List (Nat × Nat)} {en : List Nat} {N : Nat} {la op cl : Nat → Bool} {at0 alw : List Nat} {n : Nat} (h : JoS W J sy lo vO vF vE vL vM vZ vP vC vS vA own it en N la op cl at0 alw) (g : ApG 3 W w2 lo vS v' ((nI at0).map (Value.int .i64) ++ [Value.int .i64 (n : Int)])) : Jb w2 J sy vO vF vE vL vM vZ vP vC vS vA ∧ JoS (w2.setCell ⟨J, 9, none⟩ v') J sy lo vO vF vE vL vM vZ vP vC v' vA own it en N la op cl (at0 ++ [n]) alw ∧ Only W (w2.setCell ⟨J, 9, none⟩ v') (fun k => k = J ∨ vS.ownBlock = some k) := by
  have m1 := own_ne_blk h.s h.b.r (by decide)
  have j2 : Jb w2 J sy vO vF vE vL vM vZ vP vC vS vA := ⟨(g.frm.block _ (Array.getElem?_eq_some_iff.1 h.b.r).1 m1).trans h.b.r⟩
  have m2 := own_ne_blk g.own j2.r (by decide)
  have hO := Only.setCell w2 J 9 v'
  have hA : Only W (w2.setCell ⟨J, 9, none⟩ v') (fun k => k = J ∨ vS.ownBlock = some k) := (g.frm.mono (fun _ h => .inr h)).trans hO (fun _ h => .inl (.inl h))
  exact ⟨j2, h.at_s (j2.setS v') (ownI_of (own_blk g.own (fun k hk => hO.block k (World.ownsRow.lt g.own k hk).2 (fun e => m2 (e ▸ hk))))) hA g.at', hA⟩
theorem Jb.setA {W : World} {J sy : Nat} {vO vF vE vL vM vZ vP vC vS vA : Value} (h : Jb W J sy vO vF vE vL vM vZ vP vC vS vA) (v : Value) : Jb (W.setCell ⟨J, 10, none⟩ v) J sy vO vF vE vL vM vZ vP vC vS v := ⟨heap_setCell_same W _ 10 _ _ _ h.r⟩
theorem JoS.setA {W w2 : World} {J sy lo : Nat} {vO vF vE vL vM vZ vP vC vS vA v' : Value} {own : List Nat} {it : List (Nat × Nat)} {en : List Nat} {N : Nat} {la op cl : Nat → Bool} {at0 alw : List Nat} {n : Nat} (h : JoS W J sy lo vO vF vE vL vM vZ vP vC vS vA own it en N la op cl at0 alw) (g : ApG 3 W w2 lo vA v' ((nI alw).map (Value.int .i64) ++ [Value.int .i64 (n : Int)])) : Jb w2 J sy vO vF vE vL vM vZ vP vC vS vA ∧ JoS (w2.setCell ⟨J, 10, none⟩ v') J sy lo vO vF vE vL vM vZ vP vC vS v' own it en N la op cl at0 (alw ++ [n]) ∧ Only W (w2.setCell ⟨J, 10, none⟩ v') (fun k => k = J ∨ vA.ownBlock = some k) := by
  have m1 := own_ne_blk h.a h.b.r (by decide)
  have j2 : Jb w2 J sy vO vF vE vL vM vZ vP vC vS vA := ⟨(g.frm.block _ (Array.getElem?_eq_some_iff.1 h.b.r).1 m1).trans h.b.r⟩
  have m2 := own_ne_blk g.own j2.r (by decide)
  have hO := Only.setCell w2 J 10 v'
  have hA : Only W (w2.setCell ⟨J, 10, none⟩ v') (fun k => k = J ∨ vA.ownBlock = some k) := (g.frm.mono (fun _ h => .inr h)).trans hO (fun _ h => .inl (.inl h))
  exact ⟨j2, h.at_a (j2.setA v') (ownI_of (own_blk g.own (fun k hk => hO.block k (World.ownsRow.lt g.own k hk).2 (fun e => m2 (e ▸ hk))))) hA g.at', hA⟩
theorem Jb.setF {W : World} {J sy : Nat} {vO vF vE vL vM vZ vP vC vS vA : Value} (h : Jb W J sy vO vF vE vL vM vZ vP vC vS vA) (v : Value) : Jb (W.setCell ⟨J, 2, none⟩ v) J sy vO v vE vL vM vZ vP vC vS vA := ⟨heap_setCell_same W _ 2 _ _ _ h.r⟩
theorem JoS.setF {W w2 : World} {J sy lo : Nat} {vO vF vE vL vM vZ vP vC vS vA v' : Value} {own : List Nat} {it : List (Nat × Nat)} {en : List Nat} {N : Nat} {la op cl : Nat → Bool} {at0 alw : List Nat} {it' : List (Nat × Nat)} (h : JoS W J sy lo vO vF vE vL vM vZ vP vC vS vA own it en N la op cl at0 alw) (g : ApP W w2 lo vF v' it') : Jb w2 J sy vO vF vE vL vM vZ vP vC vS vA ∧ JoS (w2.setCell ⟨J, 2, none⟩ v') J sy lo vO v' vE vL vM vZ vP vC vS vA own it' en N la op cl at0 alw ∧ Only W (w2.setCell ⟨J, 2, none⟩ v') (fun k => k = J ∨ vF.ownBlock = some k) := by
  have m1 := own_ne_blk h.f h.b.r (by decide)
  have j2 : Jb w2 J sy vO vF vE vL vM vZ vP vC vS vA := ⟨(g.frm.block _ (Array.getElem?_eq_some_iff.1 h.b.r).1 m1).trans h.b.r⟩
  have m2 := own_ne_blk g.own j2.r (by decide)
  have hO := Only.setCell w2 J 2 v'
  have hA : Only W (w2.setCell ⟨J, 2, none⟩ v') (fun k => k = J ∨ vF.ownBlock = some k) := (g.frm.mono (fun _ h => .inr h)).trans hO (fun _ h => .inl (.inl h))
  exact ⟨j2, h.at_f (j2.setF v') (own_blk g.own (fun k hk => hO.block k (World.ownsRow.lt g.own k hk).2 (fun e => m2 (e ▸ hk)))) hA g.at', hA⟩
theorem JoS.fill_z {W w2 : World} {J sy lo : Nat} {vO vF vE vL vM vZ vP vC vS vA : Value} {own : List Nat} {it : List (Nat × Nat)} {en : List Nat} {N : Nat} {la op cl : Nat → Bool} {at0 alw : List Nat} {G n cc : Nat} {la' : Nat → Bool} (h : JoS W J sy lo vO vF vE vL vM vZ vP vC vS vA own it en N la op cl at0 alw) (e : vZ = .slice (some ⟨G, 0, none⟩) n cc) (ho : OwnU w2 lo vZ N la') (hO : Only W w2 (fun k => k = G)) : JoS w2 J sy lo vO vF vE vL vM vZ vP vC vS vA own it en N la' op cl at0 alw := by
  have m1 := own_ne_blk h.z h.b.r (by decide)
  have hG : vZ.ownBlock = some G := by rw [e]; rfl
  exact h.at_z ⟨(hO.block _ (Array.getElem?_eq_some_iff.1 h.b.r).1 (fun q => m1 (q ▸ hG))).trans h.b.r⟩ ho (hO.mono (fun k hk => .inr (by rw [hk]; exact hG))) (fun k hk => .inl hk)
theorem JoS.fill_p {W w2 : World} {J sy lo : Nat} {vO vF vE vL vM vZ vP vC vS vA : Value} {own : List Nat} {it : List (Nat × Nat)} {en : List Nat} {N : Nat} {la op cl : Nat → Bool} {at0 alw : List Nat} {G n cc : Nat} {op' : Nat → Bool} (h : JoS W J sy lo vO vF vE vL vM vZ vP vC vS vA own it en N la op cl at0 alw) (e : vP = .slice (some ⟨G, 0, none⟩) n cc) (ho : OwnU w2 lo vP N op') (hO : Only W w2 (fun k => k = G)) : JoS w2 J sy lo vO vF vE vL vM vZ vP vC vS vA own it en N la op' cl at0 alw := by
  have m1 := own_ne_blk h.p h.b.r (by decide)
  have hG : vP.ownBlock = some G := by rw [e]; rfl
  exact h.at_p ⟨(hO.block _ (Array.getElem?_eq_some_iff.1 h.b.r).1 (fun q => m1 (q ▸ hG))).trans h.b.r⟩ ho (hO.mono (fun k hk => .inr (by rw [hk]; exact hG))) (fun k hk => .inl hk)
theorem JoS.fill_c {W w2 : World} {J sy lo : Nat} {vO vF vE vL vM vZ vP vC vS vA : Value} {own : List Nat} {it : List (Nat × Nat)} {en : List Nat} {N : Nat} {la op cl : Nat → Bool} {at0 alw : List Nat} {G n cc : Nat} {cl' : Nat → Bool} (h : JoS W J sy lo vO vF vE vL vM vZ vP vC vS vA own it en N la op cl at0 alw) (e : vC = .slice (some ⟨G, 0, none⟩) n cc) (ho : OwnU w2 lo vC N cl') (hO : Only W w2 (fun k => k = G)) : JoS w2 J sy lo vO vF vE vL vM vZ vP vC vS vA own it en N la op cl' at0 alw := by
  have m1 := own_ne_blk h.c h.b.r (by decide)
  have hG : vC.ownBlock = some G := by rw [e]; rfl
  exact h.at_c ⟨(hO.block _ (Array.getElem?_eq_some_iff.1 h.b.r).1 (fun q => m1 (q ▸ hG))).trans h.b.r⟩ ho (hO.mono (fun k hk => .inr (by rw [hk]; exact hG))) (fun k hk => .inl hk)
end Go.Proofs.YtleeedjpccooaaaDoor
namespace Go.Proofs.YtleeedjpccooaaaDoor
open Go.RowKit Go.Shelf
theorem endsN_snoc {α : Type} (L : List (List α)) (r : List α) : endsN (L ++ [r]) = endsN L ++ [(L ++ [r]).flatten.length] := by
  unfold endsN
  rw [List.length_append, List.length_singleton, List.range_succ, List.map_append]
  congr 1
  · apply List.map_congr_left
    intro i hi
    have := List.mem_range.1 hi
    rw [List.take_append_of_le_length (by omega)]
  · rw [List.map_singleton, flat_len, List.take_of_length_le (by simp)]
theorem OwnP.wda {W : World} {lo n c : Nat} {a : Option Addr} {l : List (Nat × Nat)} (h : OwnP W lo (.slice a n c) l) : WdA W a l := ⟨fun k hk => by
  obtain ⟨g, c', e, _, h2, h3, h4, _⟩ := h.at' hk
  have e2 : a = some ⟨g, 0, none⟩ := by injection e
  subst e2
  exact ⟨g, 0, rfl, h2, by rw [Nat.zero_add]; exact h3, by rw [Nat.zero_add]; exact h4⟩⟩
theorem OwnP.cap {W : World} {lo n c : Nat} {a : Option Addr} {l : List (Nat × Nat)} (h : OwnP W lo (.slice a n c) l) : l.length ≤ c := by
  rcases h.2 with ⟨e, e2⟩ | ⟨g, cap, cur, e, _, _, h3, _⟩
  · omega
  · simp only [Value.slice.injEq] at e
    omega
theorem rww_of {W : World} {lo : Nat} {vF vE : Value} {FO : List (List (Nat × Nat))} (h : OwnP W lo vF FO.flatten) (h0 : FO.flatten = [] → vF = .slice none 0 0) (he : OwnI W lo vE (nI (endsN FO))) : RwW W vF vE FO := by
  obtain ⟨a, c, e⟩ := own_sl h
  subst e
  obtain ⟨b, d, e2, h2⟩ := he.ia
  refine ⟨⟨a, c, rfl, h.cap, h.wda, fun q => ?_⟩, b, d, by rw [e2, nI_len, endsN_len], h2⟩
  have h3 := h0 q
  simp only [Value.slice.injEq] at h3
  exact ⟨h3.1, h3.2.2⟩
theorem addW_ne (l : List (Nat × Nat)) (fr p : Nat) (h : fr ≤ l.length) : addW l fr p ≠ [] := by
  rcases addW_cases l fr p h with ⟨e1, _⟩ | ⟨r, y, rfl, e2⟩
  · rw [e1]; simp
  · rw [e2]; simp
theorem JoS.past {W W' : World} {J sy lo : Nat} {vO vF vE vL vM vZ vP vC vS vA : Value} {own : List Nat} {it : List (Nat × Nat)} {en : List Nat} {N : Nat} {la op cl : Nat → Bool} {at0 alw : List Nat} (h : JoS W J sy lo vO vF vE vL vM vZ vP vC vS vA own it en N la op cl at0 alw) (hb : Below W.heap.size W W') : JoS W' J sy lo vO vF vE vL vM vZ vP vC vS vA own it en N la op cl at0 alw where
  b := h.b.past hb
  o := own_blk h.o (fun k hk => hb.block k (World.ownsRow.lt h.o k hk).2)
  f := own_blk h.f (fun k hk => hb.block k (World.ownsRow.lt h.f k hk).2)
  e := own_blk h.e (fun k hk => hb.block k (World.ownsRow.lt h.e k hk).2)
  z := own_blk h.z (fun k hk => hb.block k (World.ownsRow.lt h.z k hk).2)
  p := own_blk h.p (fun k hk => hb.block k (World.ownsRow.lt h.p k hk).2)
  c := own_blk h.c (fun k hk => hb.block k (World.ownsRow.lt h.c k hk).2)
  s := own_blk h.s (fun k hk => hb.block k (World.ownsRow.lt h.s k hk).2)
  a := own_blk h.a (fun k hk => hb.block k (World.ownsRow.lt h.a k hk).2)
  qoe := h.qoe
  qos := h.qos
  qoa := h.qoa
  qes := h.qes
  qea := h.qea
  qsa := h.qsa
  qzp := h.qzp
  qzc := h.qzc
  qpc := h.qpc
/-- A change of the rows alone leaves what lies below them. -/
theorem below_of_row {W W' : World} {J lo : Nat} {t : TypeId} {s n : Nat} {v : Value} {xs : List Value} (h : W.ownsRow lo t s v n xs) (hJ : lo ≤ J) (hlo : lo ≤ W.heap.size) (hO : Only W W' (fun k => k = J ∨ v.ownBlock = some k)) : Below lo W W' :=
  hO.below hlo (fun k hk => hk.elim (fun e => e ▸ hJ) (fun e => (World.ownsRow.lt h k e).1))
end Go.Proofs.YtleeedjpccooaaaDoor
namespace Go.Proofs.YtleeedjpccooaaaDoor
open Go.RowKit Go.Shelf
theorem addAll_z (J sy lo base N G cc cL : Nat) (aL : Option Addr) (vO vF vE vL vM vP vC vS vA : Value) (own : List Nat) (it : List (Nat × Nat)) (en : List Nat) (la op cl : Nat → Bool) (at0 alw L : List Nat) (w : World) (h : JoS w J sy lo vO vF vE vL vM (.slice (some ⟨G, 0, none⟩) N cc) vP vC vS vA own it en N la op cl at0 alw) (hlw : lo ≤ w.heap.size) (hL : ∀ V : World, Below lo w V → IA V aL (nI L)) (hN : N ≤ 1000000) (hb : ∀ p ∈ L, base + p < 64 * N) (hl : L.length ≤ 100000000) (hbs : base ≤ 100000000) :
    Calls Tryd.prog 69 #[.slice (some ⟨G, 0, none⟩) N cc, .int .i64 (base : Int), .slice aL L.length cL] w fun e w' => (∃ v, e = .returned v) ∧ JoS w' J sy lo vO vF vE vL vM (.slice (some ⟨G, 0, none⟩) N cc) vP vC vS vA own it en N (setL la base L) op cl at0 alw ∧ Only w w' (fun k => k = G) ∧ Below lo w w' :=
  have hG : ∀ k, k = G → lo ≤ k := fun k hk => (World.ownsRow.lt h.z k (by rw [hk]; rfl)).1
  (addAllM_any G N cc lo base la L aL cL w hN h.z (fun V hV => hL V (hV.below hlw hG)) hb hl hbs).mono (fun _ _ ⟨h1, h2, h3⟩ => ⟨h1, h.fill_z rfl h2 h3, h3, h3.below hlw hG⟩)
theorem addAll_p (J sy lo base N G cc cL : Nat) (aL : Option Addr) (vO vF vE vL vM vZ vC vS vA : Value) (own : List Nat) (it : List (Nat × Nat)) (en : List Nat) (la op cl : Nat → Bool) (at0 alw L : List Nat) (w : World) (h : JoS w J sy lo vO vF vE vL vM vZ (.slice (some ⟨G, 0, none⟩) N cc) vC vS vA own it en N la op cl at0 alw) (hlw : lo ≤ w.heap.size) (hL : ∀ V : World, Below lo w V → IA V aL (nI L)) (hN : N ≤ 1000000) (hb : ∀ p ∈ L, base + p < 64 * N) (hl : L.length ≤ 100000000) (hbs : base ≤ 100000000) :
    Calls Tryd.prog 69 #[.slice (some ⟨G, 0, none⟩) N cc, .int .i64 (base : Int), .slice aL L.length cL] w fun e w' => (∃ v, e = .returned v) ∧ JoS w' J sy lo vO vF vE vL vM vZ (.slice (some ⟨G, 0, none⟩) N cc) vC vS vA own it en N la (setL op base L) cl at0 alw ∧ Only w w' (fun k => k = G) ∧ Below lo w w' :=
  have hG : ∀ k, k = G → lo ≤ k := fun k hk => (World.ownsRow.lt h.p k (by rw [hk]; rfl)).1
  (addAllM_any G N cc lo base op L aL cL w hN h.p (fun V hV => hL V (hV.below hlw hG)) hb hl hbs).mono (fun _ _ ⟨h1, h2, h3⟩ => ⟨h1, h.fill_p rfl h2 h3, h3, h3.below hlw hG⟩)
theorem addAll_c (J sy lo base N G cc cL : Nat) (aL : Option Addr) (vO vF vE vL vM vZ vP vS vA : Value) (own : List Nat) (it : List (Nat × Nat)) (en : List Nat) (la op cl : Nat → Bool) (at0 alw L : List Nat) (w : World) (h : JoS w J sy lo vO vF vE vL vM vZ vP (.slice (some ⟨G, 0, none⟩) N cc) vS vA own it en N la op cl at0 alw) (hlw : lo ≤ w.heap.size) (hL : ∀ V : World, Below lo w V → IA V aL (nI L)) (hN : N ≤ 1000000) (hb : ∀ p ∈ L, base + p < 64 * N) (hl : L.length ≤ 100000000) (hbs : base ≤ 100000000) :
    Calls Tryd.prog 69 #[.slice (some ⟨G, 0, none⟩) N cc, .int .i64 (base : Int), .slice aL L.length cL] w fun e w' => (∃ v, e = .returned v) ∧ JoS w' J sy lo vO vF vE vL vM vZ vP (.slice (some ⟨G, 0, none⟩) N cc) vS vA own it en N la op (setL cl base L) at0 alw ∧ Only w w' (fun k => k = G) ∧ Below lo w w' :=
  have hG : ∀ k, k = G → lo ≤ k := fun k hk => (World.ownsRow.lt h.c k (by rw [hk]; rfl)).1
  (addAllM_any G N cc lo base cl L aL cL w hN h.c (fun V hV => hL V (hV.below hlw hG)) hb hl hbs).mono (fun _ _ ⟨h1, h2, h3⟩ => ⟨h1, h.fill_c rfl h2 h3, h3, h3.below hlw hG⟩)
end Go.Proofs.YtleeedjpccooaaaDoor
namespace Go.Proofs.YtleeedjpccooaaaDoor
open Go.RowKit Go.Shelf
/-- Lists of a pattern, as add reads them. -/
structure PaA (V : World) (aF aA aO : Option Addr) (Fi La : List Nat) (Fo : List (List Nat)) : Prop where
  fi : IA V aF (nI Fi)
  la : IA V aA (nI La)
  fo : RwA V aO (Fo.map nI)
/-- Blocks of other kinds stay. -/
structure KeT (W W' : World) : Prop where
  size : W.heap.size ≤ W'.heap.size
  kp : ∀ (k : Nat) (cs : Array Value) (t : TypeId) (f : Nat × Nat), W.heap[k]? = some (.cells cs t f) → t ≠ 91 → t ≠ 3 → t ≠ 130 → t ≠ 105 → W'.heap[k]? = W.heap[k]?
theorem KeT.below {W W' : World} (h : Below W.heap.size W W') : KeT W W' := ⟨h.size, fun k _ _ _ hk _ _ _ _ => h.block k (Array.getElem?_eq_some_iff.1 hk).1⟩
theorem KeT.trans {A B C : World} (h : KeT A B) (g : KeT B C) : KeT A C := ⟨Nat.le_trans h.size g.size, fun k cs t f hk h1 h2 h3 h4 => (g.kp k cs t f ((h.kp k cs t f hk h1 h2 h3 h4).trans hk) h1 h2 h3 h4).trans (h.kp k cs t f hk h1 h2 h3 h4)⟩
theorem KeT.row {W W' : World} {J lo : Nat} {t : TypeId} {s n : Nat} {v : Value} {xs : List Value} {cs0 : Array Value} {f0 : Nat × Nat} (hJ : W.heap[J]? = some (.cells cs0 91 f0)) (hv : W.ownsRow lo t s v n xs) (ht : t = 3 ∨ t = 130 ∨ t = 105) (hO : Only W W' (fun k => k = J ∨ v.ownBlock = some k)) : KeT W W' := ⟨hO.size, fun k cs t' f hk h1 h2 h3 h4 => hO.block k (Array.getElem?_eq_some_iff.1 hk).1 (fun e => e.elim (fun e => by
    rw [e, hJ] at hk
    injection hk with hk
    injection hk with _ h5
    exact h1 h5.symm) (own_ne_blk hv hk (fun e => by
    subst e
    rcases ht with h | h | h
    · exact h2 h
    · exact h3 h
    · exact h4 h)))⟩
/-- While a pattern is added. -/
structure AdI (w : World) (J sy lo pb : Nat) (pc : Array Value) (vL vM vZ vP vC : Value) (own : List Nat) (it : List (Nat × Nat)) (en : List Nat) (N : Nat) (la op cl : Nat → Bool) (at0 alw : List Nat) (W : World) : Prop where
  bel : Below lo w W
  kp : KeT w W
  box : W.heap[pb]? = some (.cells pc 48 (0, 0))
  jo : ∃ vO vF vE vS vA, JoS W J sy lo vO vF vE vL vM vZ vP vC vS vA own it en N la op cl at0 alw ∧ (it = [] → vF = .slice none 0 0)
theorem AdI.next {w W W' : World} {J sy lo pb : Nat} {pc : Array Value} {vL vM vZ vP vC : Value} {own own' : List Nat} {it it' : List (Nat × Nat)} {en en' : List Nat} {N : Nat} {la op cl la' op' cl' : Nat → Bool} {at0 alw at0' alw' : List Nat} {t : TypeId} {s n : Nat} {v : Value} {xs : List Value} (h : AdI w J sy lo pb pc vL vM vZ vP vC own it en N la op cl at0 alw W) (hlo : lo ≤ J) (hlw : lo ≤ w.heap.size) (hv : W.ownsRow lo t s v n xs) (ht : t = 3 ∨ t = 130 ∨ t = 105) (hO : Only W W' (fun k => k = J ∨ v.ownBlock = some k))
    (hn : ∃ vO vF vE vS vA, JoS W' J sy lo vO vF vE vL vM vZ vP vC vS vA own' it' en' N la' op' cl' at0' alw' ∧ (it' = [] → vF = .slice none 0 0)) : AdI w J sy lo pb pc vL vM vZ vP vC own' it' en' N la' op' cl' at0' alw' W' where
  bel := h.bel.trans (below_of_row hv hlo (Nat.le_trans hlw h.bel.size) hO)
  kp := by
    obtain ⟨vO, vF, vE, vS, vA, hj, _⟩ := h.jo
    exact h.kp.trans (KeT.row hj.b.r hv ht hO)
  box := by
    obtain ⟨vO, vF, vE, vS, vA, hj, _⟩ := h.jo
    exact ((KeT.row hj.b.r hv ht hO).kp pb _ _ _ h.box (by decide) (by decide) (by decide) (by decide)).trans h.box
  jo := hn
theorem AdI.drew {w W : World} {J sy lo pb : Nat} {pc : Array Value} {vL vM vZ vP vC : Value} {own : List Nat} {it : List (Nat × Nat)} {en : List Nat} {N : Nat} {la op cl : Nat → Bool} {at0 alw : List Nat} (h : AdI w J sy lo pb pc vL vM vZ vP vC own it en N la op cl at0 alw W) : AdI w J sy lo pb pc vL vM vZ vP vC own it en N la op cl at0 alw W.drew where
  bel := h.bel.drew
  kp := h.kp.trans (KeT.below (Below.refl _ _).drew)
  box := h.box
  jo := by
    obtain ⟨vO, vF, vE, vS, vA, hj, h0⟩ := h.jo
    exact ⟨vO, vF, vE, vS, vA, hj.past (Below.refl _ _).drew, h0⟩
theorem AdI.addZ {w W : World} {J sy lo pb : Nat} {pc : Array Value} {vL vM vP vC : Value} {own : List Nat} {it : List (Nat × Nat)} {en : List Nat} {N G cc base cL : Nat} {la op cl : Nat → Bool} {at0 alw L : List Nat} {aL : Option Addr} (h : AdI w J sy lo pb pc vL vM (.slice (some ⟨G, 0, none⟩) N cc) vP vC own it en N la op cl at0 alw W) (hlo : lo ≤ J) (hlw : lo ≤ w.heap.size) (hL : ∀ V : World, Below lo w V → IA V aL (nI L)) (hN : N ≤ 1000000) (hb : ∀ p ∈ L, base + p < 64 * N) (hl : L.length ≤ 100000000) (hbs : base ≤ 100000000) :
    Calls Tryd.prog 69 #[.slice (some ⟨G, 0, none⟩) N cc, .int .i64 (base : Int), .slice aL L.length cL] W fun e w' => (∃ v, e = .returned v) ∧ Hid (AdI w J sy lo pb pc vL vM (.slice (some ⟨G, 0, none⟩) N cc) vP vC own it en N (setL la base L) op cl at0 alw w') := by
  obtain ⟨vO, vF, vE, vS, vA, hj, h0⟩ := h.jo
  refine (addAll_z J sy lo base N G cc cL aL vO vF vE vL vM vP vC vS vA own it en la op cl at0 alw L W hj (Nat.le_trans hlw h.bel.size) (fun V hV => hL V (h.bel.trans hV)) hN hb hl hbs).mono (fun _ _ ⟨h1, h2, h3, _⟩ => ⟨h1, hid0 (h.next hlo hlw hj.z (by decide) (h3.mono (fun k hk => .inr (by rw [hk]; rfl))) ⟨vO, vF, vE, vS, vA, h2, h0⟩)⟩)
theorem AdI.addP {w W : World} {J sy lo pb : Nat} {pc : Array Value} {vL vM vZ vC : Value} {own : List Nat} {it : List (Nat × Nat)} {en : List Nat} {N G cc base cL : Nat} {la op cl : Nat → Bool} {at0 alw L : List Nat} {aL : Option Addr} (h : AdI w J sy lo pb pc vL vM vZ (.slice (some ⟨G, 0, none⟩) N cc) vC own it en N la op cl at0 alw W) (hlo : lo ≤ J) (hlw : lo ≤ w.heap.size) (hL : ∀ V : World, Below lo w V → IA V aL (nI L)) (hN : N ≤ 1000000) (hb : ∀ p ∈ L, base + p < 64 * N) (hl : L.length ≤ 100000000) (hbs : base ≤ 100000000) :
    Calls Tryd.prog 69 #[.slice (some ⟨G, 0, none⟩) N cc, .int .i64 (base : Int), .slice aL L.length cL] W fun e w' => (∃ v, e = .returned v) ∧ Hid (AdI w J sy lo pb pc vL vM vZ (.slice (some ⟨G, 0, none⟩) N cc) vC own it en N la (setL op base L) cl at0 alw w') := by
  obtain ⟨vO, vF, vE, vS, vA, hj, h0⟩ := h.jo
  refine (addAll_p J sy lo base N G cc cL aL vO vF vE vL vM vZ vC vS vA own it en la op cl at0 alw L W hj (Nat.le_trans hlw h.bel.size) (fun V hV => hL V (h.bel.trans hV)) hN hb hl hbs).mono (fun _ _ ⟨h1, h2, h3, _⟩ => ⟨h1, hid0 (h.next hlo hlw hj.p (by decide) (h3.mono (fun k hk => .inr (by rw [hk]; rfl))) ⟨vO, vF, vE, vS, vA, h2, h0⟩)⟩)
theorem AdI.addC {w W : World} {J sy lo pb : Nat} {pc : Array Value} {vL vM vZ vP : Value} {own : List Nat} {it : List (Nat × Nat)} {en : List Nat} {N G cc base cL : Nat} {la op cl : Nat → Bool} {at0 alw L : List Nat} {aL : Option Addr} (h : AdI w J sy lo pb pc vL vM vZ vP (.slice (some ⟨G, 0, none⟩) N cc) own it en N la op cl at0 alw W) (hlo : lo ≤ J) (hlw : lo ≤ w.heap.size) (hL : ∀ V : World, Below lo w V → IA V aL (nI L)) (hN : N ≤ 1000000) (hb : ∀ p ∈ L, base + p < 64 * N) (hl : L.length ≤ 100000000) (hbs : base ≤ 100000000) :
    Calls Tryd.prog 69 #[.slice (some ⟨G, 0, none⟩) N cc, .int .i64 (base : Int), .slice aL L.length cL] W fun e w' => (∃ v, e = .returned v) ∧ Hid (AdI w J sy lo pb pc vL vM vZ vP (.slice (some ⟨G, 0, none⟩) N cc) own it en N la op (setL cl base L) at0 alw w') := by
  obtain ⟨vO, vF, vE, vS, vA, hj, h0⟩ := h.jo
  refine (addAll_c J sy lo base N G cc cL aL vO vF vE vL vM vZ vP vS vA own it en la op cl at0 alw L W hj (Nat.le_trans hlw h.bel.size) (fun V hV => hL V (h.bel.trans hV)) hN hb hl hbs).mono (fun _ _ ⟨h1, h2, h3, _⟩ => ⟨h1, hid0 (h.next hlo hlw hj.c (by decide) (h3.mono (fun k hk => .inr (by rw [hk]; rfl))) ⟨vO, vF, vE, vS, vA, h2, h0⟩)⟩)
/-- The joined patterns behind so many patterns. -/
def JoX (W : World) (J sy lo : Nat) (vL vM vZ vP vC : Value) (own : List Nat) (FO : List (List (Nat × Nat))) (N : Nat) (la op cl : Nat → Bool) (at0 alw : List Nat) : Prop := ∃ vO vF vE vS vA, JoS W J sy lo vO vF vE vL vM vZ vP vC vS vA own FO.flatten (endsN FO) N la op cl at0 alw ∧ (FO.flatten = [] → vF = .slice none 0 0)
theorem rowW_len (base : Nat) (L : List Nat) : (rowW base L).length ≤ L.length := by
  have key : ∀ n, n ≤ L.length → (rowW base (L.take n)).length ≤ n := by
    intro n
    induction n with
    | zero => intro _; simp [rowW]
    | succ n ih =>
      intro hn
      rw [rowW_take base (by omega)]
      have h1 := (addW_len (rowW base (L.take n)) 0 (base + L[n]) (Nat.zero_le _)).1
      have h2 := ih (by omega)
      omega
  have h := key L.length (Nat.le_refl _)
  rw [List.take_length] at h
  exact h
/-- The rows behind k patterns' lists more. -/
def FOs (FO : List (List (Nat × Nat))) (base : Nat) (Fo : List (List Nat)) (k : Nat) : List (List (Nat × Nat)) := FO ++ (Fo.take k).map (rowW base)
theorem FOs_succ (FO : List (List (Nat × Nat))) (base : Nat) {Fo : List (List Nat)} {k : Nat} (hk : k < Fo.length) : FOs FO base Fo (k + 1) = FOs FO base Fo k ++ [rowW base Fo[k]] := by
  unfold FOs
  rw [List.take_add_one, List.getElem?_eq_getElem hk, Option.toList_some, List.map_append, List.append_assoc]
  rfl
theorem FOs_len (FO : List (List (Nat × Nat))) (base : Nat) (Fo : List (List Nat)) : ∀ k, k ≤ Fo.length → (FOs FO base Fo k).flatten.length ≤ FO.flatten.length + ((Fo.take k).map List.length).sum
  | 0, _ => by simp [FOs]
  | k + 1, hk => by
    have h1 := FOs_len FO base Fo k (by omega)
    rw [FOs_succ FO base (by omega), List.flatten_append, List.length_append, sum_take Fo (by omega)]
    have h2 := rowW_len base Fo[k]
    simp only [List.flatten_cons, List.flatten_nil, List.append_nil]
    omega
theorem FOs_ok (FO : List (List (Nat × Nat))) (base N : Nat) (Fo : List (List Nat)) (k : Nat) (h1 : ∀ r ∈ FO, ∀ x ∈ r, x.1 < N ∧ x.2 < 18446744073709551616) (h2 : ∀ l ∈ Fo, ∀ p ∈ l, base + p < 64 * N) : ∀ x ∈ (FOs FO base Fo k).flatten, x.1 < N ∧ x.2 < 18446744073709551616 := by
  intro x hx
  obtain ⟨r, hr, hxr⟩ := List.mem_flatten.1 hx
  rcases List.mem_append.1 hr with h | h
  · exact h1 r h x hxr
  · obtain ⟨l, hl, rfl⟩ := List.mem_map.1 h
    exact rowW_ok base N l (h2 l (List.mem_of_mem_take hl)) x hxr
set_option maxRecDepth 10000 in
set_option maxHeartbeats 6400000 in
theorem add_false (J sy lo nm N GZ GP GC cZ cP cC cL cF cA cO nL : Nat) (aL aF aA aO : Option Addr) (em : Bool) (vL vM : Value) (own : List Nat) (FO : List (List (Nat × Nat))) (la op cl : Nat → Bool) (at0 alw : List Nat) (Fi La : List Nat) (Fo : List (List Nat)) (w00 w : World)
    (hJ : JoX w J sy lo vL vM (.slice (some ⟨GZ, 0, none⟩) N cZ) (.slice (some ⟨GP, 0, none⟩) N cP) (.slice (some ⟨GC, 0, none⟩) N cC) own FO N la op cl at0 alw) (hlo : lo ≤ J) (hlw : lo ≤ w.heap.size) (hP : PaA w00 aF aA aO Fi La Fo) (h00 : w00.heap.size ≤ lo) (hb00 : Below w00.heap.size w00 w) (hN : N ≤ 1000000) (hol : own.length + Fo.length ≤ 64 * N) (_hnm : nm ≤ 1000000000) (hFO : ∀ r ∈ FO, ∀ x ∈ r, x.1 < N ∧ x.2 < 18446744073709551616) (hFl : FO.length ≤ 64000000) (ha0 : at0.length ≤ 100000000) (hal : alw.length ≤ 100000000)
    (h1 : ∀ p ∈ Fi, own.length + p < 64 * N) (h2 : ∀ p ∈ La, own.length + p < 64 * N) (h3 : ∀ l ∈ Fo, ∀ p ∈ l, own.length + p < 64 * N) (hl1 : Fi.length ≤ 100000000) (hl2 : La.length ≤ 100000000) (hsum : FO.flatten.length + (Fo.map List.length).sum ≤ 900000000) :
    Calls Tryd.prog 51 #[.pointer (some ⟨J, 0, none⟩), .int .i64 (nm : Int), .agg #[.slice aL nL cL, .slice aF Fi.length cF, .slice aA La.length cA, .slice aO Fo.length cO, .bool em, .bool false]] w fun e w' => (∃ v, e = .returned v) ∧ (Below lo w w' ∧ KeT w w') ∧
      JoX w' J sy lo vL vM (.slice (some ⟨GZ, 0, none⟩) N cZ) (.slice (some ⟨GP, 0, none⟩) N cP) (.slice (some ⟨GC, 0, none⟩) N cC) (own ++ List.replicate Fo.length nm) (FO ++ Fo.map (rowW own.length)) N (setL la own.length La) (setL op own.length Fi) cl (if em then at0 ++ [nm] else at0) (if em then alw ++ [nm] else alw) := by
  obtain ⟨i0, hi, hz⟩ := Option.map_eq_some_iff.1 infoInt1
  simp only [Prod.mk.injEq] at hz
  obtain ⟨hz0, hz1, hz2⟩ := hz
  obtain ⟨bs, hbs⟩ : ∃ bs, bs = own.length := ⟨_, rfl⟩
  rw [← hbs] at h1 h2 h3 hol ⊢
  obtain ⟨pc, hpc⟩ : ∃ pc : Array Value, pc = #[.slice aL nL cL, .slice aF Fi.length cF, .slice aA La.length cA, .slice aO Fo.length cO, .bool em, .bool false] := ⟨_, rfl⟩
  obtain ⟨w0, hw0⟩ : ∃ w0, w0 = w.alloc (.cells pc 48) := ⟨_, rfl⟩
  obtain ⟨pb, hpb⟩ : ∃ pb, pb = w.heap.size := ⟨_, rfl⟩
  have hA0 : AdI w J sy lo pb pc vL vM (.slice (some ⟨GZ, 0, none⟩) N cZ) (.slice (some ⟨GP, 0, none⟩) N cP) (.slice (some ⟨GC, 0, none⟩) N cC) own FO.flatten (endsN FO) N la op cl at0 alw w0 := by
    have hb : Below w.heap.size w w0 := by rw [hw0]; exact (Below.refl _ _).alloc (Nat.le_refl _) _
    obtain ⟨vO, vF, vE, vS, vA, hj, h0⟩ := hJ
    exact ⟨hb.mono hlw, KeT.below hb, by rw [hw0, hpb]; exact heap_alloc_new w _, vO, vF, vE, vS, vA, hj.past hb, h0⟩
  have HPa : Hid (∀ V : World, Below lo w V → PaA V aF aA aO Fi La Fo ∧ Below w00.heap.size w00 V) := hid0 (fun V hV => by
    have hb := hb00.trans (hV.mono h00)
    exact ⟨⟨hP.fi.past hb, hP.la.past hb, hP.fo.past hb⟩, hb⟩)
  -- what the box holds, wherever the walk is
  have HBx : Hid (∀ V : World, V.heap[pb]? = some (.cells pc 48 (0, 0)) → V.cell? ⟨pb, 1, none⟩ = some (.slice aF Fi.length cF) ∧ V.cell? ⟨pb, 2, none⟩ = some (.slice aA La.length cA) ∧ V.cell? ⟨pb, 3, none⟩ = some (.slice aO Fo.length cO) ∧ V.cell? ⟨pb, 4, none⟩ = some (.bool em) ∧ V.cell? ⟨pb, 5, none⟩ = some (.bool false)) := hid0 (fun V hV => by
    rw [hpc] at hV
    refine ⟨?_, ?_, ?_, ?_, ?_⟩ <;> (rw [cell_of_row _ _ _ _ _ _ hV]; rfl))
  have HC1 := hid0 (hA0.addP (cL := cF) (base := bs) hlo hlw (fun V hV => (HPa.out V hV).1.fi) hN h1 hl1 (by omega))
  have HC2 : Hid (∀ V : World, AdI w J sy lo pb pc vL vM (.slice (some ⟨GZ, 0, none⟩) N cZ) (.slice (some ⟨GP, 0, none⟩) N cP) (.slice (some ⟨GC, 0, none⟩) N cC) own FO.flatten (endsN FO) N la (setL op bs Fi) cl at0 alw V → Calls Tryd.prog 69 #[.slice (some ⟨GZ, 0, none⟩) N cZ, .int .i64 (bs : Int), .slice aA La.length cA] V.drew fun e w' => (∃ v, e = .returned v) ∧ Hid (AdI w J sy lo pb pc vL vM (.slice (some ⟨GZ, 0, none⟩) N cZ) (.slice (some ⟨GP, 0, none⟩) N cP) (.slice (some ⟨GC, 0, none⟩) N cC) own FO.flatten (endsN FO) N (setL la bs La) (setL op bs Fi) cl at0 alw w')) := hid0 (fun V hV => hV.drew.addZ hlo hlw (fun V hV => (HPa.out V hV).1.la) hN h2 hl2 (by omega))
  -- a state's faces
  have HFc : Hid (∀ {V : World} {own' : List Nat} {it' : List (Nat × Nat)} {en' : List Nat} {la' op' cl' : Nat → Bool} {a' b' : List Nat}, AdI w J sy lo pb pc vL vM (.slice (some ⟨GZ, 0, none⟩) N cZ) (.slice (some ⟨GP, 0, none⟩) N cP) (.slice (some ⟨GC, 0, none⟩) N cC) own' it' en' N la' op' cl' a' b' V → V.cell? ⟨J, 6, none⟩ = some (.slice (some ⟨GZ, 0, none⟩) N cZ) ∧ V.cell? ⟨J, 7, none⟩ = some (.slice (some ⟨GP, 0, none⟩) N cP) ∧ V.cell? ⟨J, 8, none⟩ = some (.slice (some ⟨GC, 0, none⟩) N cC)) := hid0 (fun h => by
    obtain ⟨vO, vF, vE, vS, vA, hj, _⟩ := h.jo
    exact ⟨hj.b.c.2.2.2.2.2.2.1, hj.b.c.2.2.2.2.2.2.2.1, hj.b.c.2.2.2.2.2.2.2.2.1⟩)
  obtain ⟨aO0, cO0, dO⟩ : ∃ a c, w0.cell? ⟨J, 1, none⟩ = some (.slice a bs c) := by
    obtain ⟨vO, vF, vE, vS, vA, hj, _⟩ := hA0.jo
    obtain ⟨a, c, e⟩ := own_sl hj.o
    rw [nI_len, ← hbs] at e
    exact ⟨a, c, by rw [← e]; exact hj.b.c.2.1⟩
  obtain ⟨x1, x2, x3, x4, x5⟩ := HBx.out w0 hA0.box
  obtain ⟨y6, y7, y8⟩ := HFc.out hA0
  have HLo := hid0 (And.intro hlo hlw)
  have HFO := hid0 hFO
  have H3 := hid0 h3
  have HSum := hid0 hsum
  have HBs := hid0 hbs
  have HPw := hid0 hP
  have hbl : bs ≤ 64000000 := by omega
  have hfold := hw0.symm
  have hpb2 := hpb.symm
  rw [hpc] at hfold
  clear hA0 hJ hb00 hP hw0 hFO h3 hsum hbs h1 h2 hlo hlw hl1 hl2 hpc hpb
  go_enter Tryd.func51, Tryd.ntmps51
  go_upto_region 6 with (go_at_call 69; go_loud ((refine HC1.out.mono ?_; rintro e w1 ⟨⟨v1, rfl⟩, HA1⟩)))
  clear x1 x2 x3 x4 x5 y6 y7 y8 dO HC1
  obtain ⟨x1, x2, x3, x4, x5⟩ := HBx.out w1 HA1.out.box
  obtain ⟨y6, y7, y8⟩ := HFc.out HA1.out
  have HC3 := hid0 (HC2.out w1 HA1.out)
  clear HC2 x1 x4 x5 y7 y8 hfold
  go_region_held3 (fun V => V.cell? ⟨J, 6, none⟩ = some (.slice (some ⟨GZ, 0, none⟩) N cZ) ∧ V.cell? ⟨pb, 2, none⟩ = some (.slice aA La.length cA)) (first | exact ⟨y6, x2⟩ | assumption)
    (first
      | (go_at_call 69; refine HC3.out.mono ?_; rintro e w2 ⟨⟨v2, rfl⟩, HA2⟩; have hs2 := And.intro (HFc.out HA2.out).1 (HBx.out w2 HA2.out.box).2.1))
  clear x2 x3 y6 HC3 HA1 hs2
  obtain ⟨x1, x2, x3, x4, x5⟩ := HBx.out w2 HA2.out.box
  clear x1 x2 x4 x5
  have hrm : (bs : Int) ≤ 64000000 := by omega
  obtain ⟨la1, hla1⟩ : ∃ la1, la1 = setL la bs La := ⟨_, rfl⟩
  obtain ⟨op1, hop1⟩ : ∃ op1, op1 = (setL op bs Fi) := ⟨_, rfl⟩
  obtain ⟨cl1, hcl1⟩ : ∃ cl1, cl1 = cl := ⟨_, rfl⟩
  have HEq := hid0 (And.intro hla1 (And.intro hop1 hcl1))
  rw [← hla1, ← hop1, ← hcl1] at HA2
  clear hla1 hop1 hcl1
  go_wp2
  go_loopw [47] (fun i wr => ∃ k : Nat, k ≤ Fo.length ∧ i = .int .i64 (k : Int) ∧ Hid (AdI w J sy lo pb pc vL vM (.slice (some ⟨GZ, 0, none⟩) N cZ) (.slice (some ⟨GP, 0, none⟩) N cP) (.slice (some ⟨GC, 0, none⟩) N cC) (own ++ List.replicate k nm) (FOs FO bs Fo k).flatten (endsN (FOs FO bs Fo k)) N la1 op1 cl1 at0 alw wr)) (fun i _ => Fo.length - (intOf i).toNat)
  case atStart => exact ⟨0, Nat.zero_le _, rfl, hid0 (by have h := HA2.out; simpa [FOs] using h)⟩
  case round =>
    clear x3
    obtain ⟨k, hk, rfl, HK⟩ := hrel
    by_cases hkl : k < Fo.length
    · obtain ⟨b, off, eb, hbw, a1, c1, y0, y1⟩ := HPw.out.fo.at' k (by rw [List.length_map]; exact hkl)
      obtain ⟨L, hL⟩ : ∃ L, L = Fo[k] := ⟨_, rfl⟩
      have hLm : L ∈ Fo := by rw [hL]; exact List.getElem_mem hkl
      rw [List.getElem_map, ← hL, nI_len] at y0
      rw [List.getElem_map, ← hL] at y1
      have hbl2 := (HPa.out wr HK.out.bel).2
      have z0 : wr.cell? ⟨b, off + k, none⟩ = some (.slice a1 L.length c1) := (hbl2.cell (p := ⟨b, off + k, none⟩) hbw).trans y0
      have HIL : Hid (∀ V : World, Below lo w V → IA V a1 (nI L)) := hid0 (fun V hV => y1.past (HPa.out V hV).2)
      subst eb
      obtain ⟨it0, hit0⟩ : ∃ it0, it0 = (FOs FO bs Fo k).flatten := ⟨_, rfl⟩
      obtain ⟨en0, hen0⟩ : ∃ en0, en0 = endsN (FOs FO bs Fo k) := ⟨_, rfl⟩
      obtain ⟨own0, hown0⟩ : ∃ own0, own0 = own ++ List.replicate k nm := ⟨_, rfl⟩
      have HLL : Hid (L ∈ Fo ∧ L = Fo[k] ∧ it0 = (FOs FO bs Fo k).flatten ∧ en0 = endsN (FOs FO bs Fo k) ∧ own0 = own ++ List.replicate k nm) := hid0 ⟨hLm, hL, hit0, hen0, hown0⟩
      have HLn : Hid (own0.length ≤ 64000000 ∧ it0.length + L.length ≤ 900000000 ∧ en0.length ≤ 128000000) := hid0 (by
        have q1 := FOs_len FO bs Fo k hk
        have q2 := sum_take Fo hkl
        have q3 := sum_le Fo (k + 1)
        have q4 := HSum.out
        have q5 := HBs.out
        refine ⟨?_, ?_, ?_⟩
        · rw [hown0, List.length_append, List.length_replicate]; omega
        · rw [hit0]; rw [hL]; omega
        · rw [hen0, endsN_len]; unfold FOs; rw [List.length_append, List.length_map, List.length_take]; omega)
      have HOk : Hid (∀ x ∈ it0, x.1 < N ∧ x.2 < 18446744073709551616) := hid0 (by rw [hit0]; exact FOs_ok FO bs N Fo k HFO.out H3.out)
      have HK1 : Hid (AdI w J sy lo pb pc vL vM (.slice (some ⟨GZ, 0, none⟩) N cZ) (.slice (some ⟨GP, 0, none⟩) N cP) (.slice (some ⟨GC, 0, none⟩) N cC) own0 it0 en0 N la1 op1 cl1 at0 alw wr) := hid0 (by rw [hit0, hen0, hown0]; exact HK.out)
      clear hL hLm hit0 hen0 hown0 hbl2 y0 y1 HK
      have HO1 : Hid (∃ a n c, n = own0.length ∧ wr.cell? ⟨J, 1, none⟩ = some (.slice a n c) ∧ wr.ownsRow lo 3 1 (.slice a n c) n ((nI own0).map (Value.int .i64)) ∧ ∀ (v1 : Value) (w1 : World), ApG 3 wr w1 lo (.slice a n c) v1 ((nI own0).map (Value.int .i64) ++ [Value.int .i64 (nm : Int)]) → (w1.cell? ⟨J, 1, none⟩ = some (.slice a n c) ∧ w1.frozen? ⟨J, 1, none⟩ = false) ∧ AdI w J sy lo pb pc vL vM (.slice (some ⟨GZ, 0, none⟩) N cZ) (.slice (some ⟨GP, 0, none⟩) N cP) (.slice (some ⟨GC, 0, none⟩) N cC) (own0 ++ [nm]) it0 en0 N la1 op1 cl1 at0 alw (w1.setCell ⟨J, 1, none⟩ v1)) := hid0 (by
        obtain ⟨vO, vF, vE, vS, vA, hj, h0⟩ := HK1.out.jo
        obtain ⟨a, c, e⟩ := own_sl hj.o
        have ho := hj.o
        unfold OwnI at ho
        rw [nI_len] at ho e
        refine ⟨a, own0.length, c, rfl, by rw [← e]; exact hj.b.c.2.1, by rw [← e]; exact ho, fun v1 w1 hg => ?_⟩
        rw [← e] at hg ⊢
        obtain ⟨g1, g2, g3⟩ := hj.setO hg
        exact ⟨⟨g1.c.2.1, by simp [World.frozen?, g1.r]⟩, HK1.out.next HLo.out.1 HLo.out.2 hj.o (by decide) g3 ⟨_, _, _, _, _, g2, h0⟩⟩)
      obtain ⟨aw, nw, cw, hnw, dw, how, hnx⟩ := HO1.out
      have hnl : nw ≤ 64000000 := by rw [hnw]; exact HLn.out.1
      have HOw := hid0 how
      have HOl := hid0 hnw
      have HNx := hid0 hnx
      have hlr : lo ≤ wr.heap.size := Nat.le_trans HLo.out.2 HK1.out.bel.size
      have hkI : (k : Int) < (Fo.length : Int) := by omega
      have hkI0 : (0 : Int) ≤ (k : Int) := by omega
      clear HO1 hnw how hnx
      go_upto_region 11 with (at_builtin; go_loud ((refine wpList_append_own_at _ rfl _ _ 34 rfl lo 3 i0 (.int .i64 0) 1 8 Tryd.underlying34 hi hz0 hz1 hz2 rfl (by decide) (.slice aw nw cw) nw ((nI own0).map (Value.int .i64)) rfl (World.ownsRow.alloc HOw.out _) ⟨wr.heap.size, 0, none⟩ 1 1 [.int .i64 (nm : Int)] rfl rfl (cell_one_new _ _ _) (by simp [Value.oneCell']) (by unfold maxLen; omega) (by omega) (by simp; omega) ?_; intro v1 w1 h1 h2 _ h4; obtain ⟨a2, c2, rfl⟩ := own_sl h1; have R := hid0 (HNx.out _ w1 (apG_one (by rw [List.length_map, nI_len, ← HOl.out]; exact h1) h2 h4)); clear h1 h2 h4; have d1 := R.out.1.1; have f1 := R.out.1.2)))
      have HA3 := hid0 R.out.2
      clear R d1 f1 HNx HOw HOl dw z0 HK1
      generalize w1.setCell ⟨J, 1, none⟩ (.slice a2 (nw + 1) c2) = w3 at *
      obtain ⟨aI, cI, dI⟩ : ∃ a c, w3.cell? ⟨J, 2, none⟩ = some (.slice a it0.length c) := by
        obtain ⟨vO, vF, vE, vS, vA, hj, _⟩ := HA3.out.jo
        obtain ⟨a, c, e⟩ := own_sl hj.f
        exact ⟨a, c, by rw [← e]; exact hj.b.c.2.2.1⟩
      obtain ⟨fr, hfr⟩ : ∃ fr, fr = it0.length := ⟨_, rfl⟩
      rw [← hfr] at dI
      have hfrl : fr ≤ 900000000 := by have := HLn.out.2.1; omega
      have hLl : L.length ≤ 900000000 := by have := HLn.out.2.1; omega
      have HFr := hid0 hfr
      clear hfr
      go_wp2
      go_loopw [69] (fun j wr2 => ∃ m : Nat, m ≤ L.length ∧ j = .int .i64 (m : Int) ∧ Hid (AdI w J sy lo pb pc vL vM (.slice (some ⟨GZ, 0, none⟩) N cZ) (.slice (some ⟨GP, 0, none⟩) N cP) (.slice (some ⟨GC, 0, none⟩) N cC) (own0 ++ [nm]) (it0 ++ rowW bs (L.take m)) en0 N la1 op1 cl1 at0 alw wr2)) (fun j _ => L.length - (intOf j).toNat)
      case atStart => exact ⟨0, Nat.zero_le _, rfl, hid0 (by have h := HA3.out; simpa [rowW] using h)⟩
      case round =>
        clear dI
        obtain ⟨m, hm, rfl, HM⟩ := hrel
        obtain ⟨V, hV⟩ : ∃ V, V = wr := ⟨_, rfl⟩
        subst hV
        by_cases hml : m < L.length
        · obtain ⟨g1, o1, eg, _, z1⟩ := (HIL.out V HM.out.bel).at' m (by rw [nI_len]; exact hml)
          subst eg
          obtain ⟨p, hp⟩ : ∃ p, p = L[m] := ⟨_, rfl⟩
          have z2 : V.cell? ⟨g1, o1 + m, none⟩ = some (.int .i64 (p : Int)) := by rw [z1, hp]; unfold nI; rw [List.getElem_map]
          have hpN := H3.out L HLL.out.1 p (by rw [hp]; exact List.getElem_mem hml)
          obtain ⟨q, hq⟩ : ∃ q, q = bs + p := ⟨_, rfl⟩
          obtain ⟨lw, hlw⟩ : ∃ lw, lw = it0 ++ rowW bs (L.take m) := ⟨_, rfl⟩
          have HNw : Hid (addW lw fr q = it0 ++ rowW bs (L.take (m + 1))) := hid0 (by rw [hlw, HFr.out, hq, addW_pre, rowW_take bs hml, hp])
          have HCx : Hid (∃ a c, V.cell? ⟨J, 2, none⟩ = some (.slice a lw.length c) ∧ (Calls Tryd.prog 70 #[.slice a lw.length c, .int .i64 (fr : Int), .int .i64 (q : Int)] V fun e w' => ∃ v', e = .returned v' ∧ Hid (ApP V w' lo (.slice a lw.length c) v' (addW lw fr q))) ∧ ∀ (v1 : Value) (w1 : World), ApP V w1 lo (.slice a lw.length c) v1 (addW lw fr q) → (w1.cell? ⟨J, 2, none⟩ = some (.slice a lw.length c) ∧ w1.frozen? ⟨J, 2, none⟩ = false) ∧ AdI w J sy lo pb pc vL vM (.slice (some ⟨GZ, 0, none⟩) N cZ) (.slice (some ⟨GP, 0, none⟩) N cP) (.slice (some ⟨GC, 0, none⟩) N cC) (own0 ++ [nm]) (it0 ++ rowW bs (L.take (m + 1))) en0 N la1 op1 cl1 at0 alw (w1.setCell ⟨J, 2, none⟩ v1)) := hid0 (by
            obtain ⟨vO, vF, vE, vS, vA, hj, h0⟩ := HM.out.jo
            rw [← hlw] at hj
            have hfl : fr ≤ lw.length := by rw [hlw, HFr.out, List.length_append]; omega
            have hll : lw.length ≤ 1000000000 := by
              have q1 := rowW_len bs (L.take m)
              have q2 := HLn.out.2.1
              rw [List.length_take] at q1
              rw [hlw, List.length_append]; omega
            have hxx : ∀ x ∈ lw, x.1 ≤ 1000000000 ∧ x.2 < 18446744073709551616 := by
              intro x hx
              rw [hlw] at hx
              rcases List.mem_append.1 hx with h | h
              · have := HOk.out x h; omega
              · have := rowW_ok bs N (L.take m) (fun p hp => H3.out L HLL.out.1 p (List.mem_of_mem_take hp)) x h; omega
            obtain ⟨a, c, e⟩ := own_sl hj.f
            refine ⟨a, c, by rw [← e]; exact hj.b.c.2.2.1, by rw [← e]; exact (addBit_any lo fr q lw vF V hj.f (Nat.le_trans HLo.out.2 HM.out.bel.size) hfl hll (by omega) hxx).mono (fun _ _ ⟨v', q1, q2⟩ => ⟨v', q1, hid0 q2⟩), fun v1 w1 hg => ?_⟩
            rw [← e] at hg ⊢
            obtain ⟨g1, g2, g3⟩ := hj.setF hg
            have hne := addW_ne lw fr q hfl
            rw [HNw.out] at g2 hne
            exact ⟨⟨g1.c.2.2.1, by simp [World.frozen?, g1.r]⟩, HM.out.next HLo.out.1 HLo.out.2 hj.f (by decide) g3 ⟨_, _, _, _, _, g2, fun q => absurd q hne⟩⟩)
          obtain ⟨ax, cx, dx, hcx, hnx⟩ := HCx.out
          obtain ⟨nx, hnxl⟩ : ∃ nx, nx = lw.length := ⟨_, rfl⟩
          rw [← hnxl] at dx hcx hnx
          have hnb : nx ≤ 1000000000 := by
            have q1 := rowW_len bs (L.take m)
            have q2 := HLn.out.2.1
            rw [List.length_take] at q1
            rw [hnxl, hlw, List.length_append]; omega
          have HCc := hid0 hcx
          have HNx := hid0 hnx
          have hadd : (bs : Int) + (p : Int) = (q : Int) := by omega
          have hpb3 : (q : Int) ≤ 64000000 := by omega
          have hwr : IntKind.i64.wrap (q : Int) = (q : Int) := by rw [IntKind.wrap_i64]; omega
          have hmI : (m : Int) < (L.length : Int) := by omega
          have hmI0 : (0 : Int) ≤ (m : Int) := by omega
          clear HCx hcx hnx hnxl hlw hp z1 HNw HM hq
          go_wp2_with (go_at_call 70; go_loud ((refine HCc.out.mono ?_; rintro e w4 ⟨v4, rfl, HA4⟩; obtain ⟨a4, c4, rfl⟩ := own_sl HA4.out.own; have R := hid0 (HNx.out _ w4 HA4.out); have d2 := R.out.1.1; have f2 := R.out.1.2; clear HA4)))
          have HM2 := hid0 R.out.2
          go_roundw
          case rel => exact ⟨m + 1, by omega, by go_num, HM2⟩
          case measure => simp [intOf]; omega
        · obtain rfl : m = L.length := by omega
          obtain ⟨it1, hit1⟩ : ∃ it1, it1 = it0 ++ rowW bs L := ⟨_, rfl⟩
          have hM1 : AdI w J sy lo pb pc vL vM (.slice (some ⟨GZ, 0, none⟩) N cZ) (.slice (some ⟨GP, 0, none⟩) N cP) (.slice (some ⟨GC, 0, none⟩) N cC) (own0 ++ [nm]) it1 en0 N la1 op1 cl1 at0 alw V := by have h := HM.out; rw [List.take_length] at h; rw [hit1]; exact h
          have HCe : Hid (Calls Tryd.prog 71 #[.pointer (some ⟨J, 2, none⟩)] V fun e w' => (∃ v, e = .returned v) ∧ Hid (AdI w J sy lo pb pc vL vM (.slice (some ⟨GZ, 0, none⟩) N cZ) (.slice (some ⟨GP, 0, none⟩) N cP) (.slice (some ⟨GC, 0, none⟩) N cC) (own0 ++ [nm]) it1 (en0 ++ [it1.length]) N la1 op1 cl1 at0 alw w')) := hid0 (by
            obtain ⟨vO, vF, vE, vS, vA, hj, h0⟩ := hM1.jo
            obtain ⟨a, c, e⟩ := own_sl hj.f
            obtain ⟨a', c', e'⟩ := own_sl hj.e
            rw [nI_len] at e'
            have q1 := rowW_len bs L
            have q2 := HLn.out.2.1
            subst e
            subst e'
            refine (endW_any J sy lo it1.length c c' en0 a a' vO vL vM _ _ _ vS vA V hj.b hj.e (Nat.le_trans HLo.out.2 hM1.bel.size) (by rw [hit1, List.length_append]; omega) (by have := HLn.out.2.2; omega)).mono (fun _ _ ⟨q1, v', g1, g2, g3, g4⟩ => ⟨q1, hid0 (hM1.next HLo.out.1 HLo.out.2 hj.e (by decide) g3 ⟨_, _, _, _, _, hj.at_e g1 g2 g3 g4, h0⟩)⟩))
          have HFin : Hid (∀ V : World, AdI w J sy lo pb pc vL vM (.slice (some ⟨GZ, 0, none⟩) N cZ) (.slice (some ⟨GP, 0, none⟩) N cP) (.slice (some ⟨GC, 0, none⟩) N cC) (own0 ++ [nm]) it1 (en0 ++ [it1.length]) N la1 op1 cl1 at0 alw V → AdI w J sy lo pb pc vL vM (.slice (some ⟨GZ, 0, none⟩) N cZ) (.slice (some ⟨GP, 0, none⟩) N cP) (.slice (some ⟨GC, 0, none⟩) N cC) (own ++ List.replicate (k + 1) nm) (FOs FO bs Fo (k + 1)).flatten (endsN (FOs FO bs Fo (k + 1))) N la1 op1 cl1 at0 alw V) := hid0 (fun V h => by
            obtain ⟨_, g2, g3, g4, g5⟩ := HLL.out
            have e1 : it1 = (FOs FO bs Fo (k + 1)).flatten := by rw [hit1, FOs_succ FO bs hkl, List.flatten_append, g3, g2]; simp
            have e2 : en0 ++ [it1.length] = endsN (FOs FO bs Fo (k + 1)) := by rw [e1, FOs_succ FO bs hkl, endsN_snoc, g4]
            have e3 : own0 ++ [nm] = own ++ List.replicate (k + 1) nm := by rw [g5, List.replicate_succ', List.append_assoc]
            rw [e2, e1, e3] at h
            exact h)
          clear hit1 hM1 HM
          go_wp2_with (go_at_call 71; go_loud ((refine HCe.out.mono ?_; rintro e w4 ⟨⟨v4, rfl⟩, HA4⟩)))
          have HN4 := hid0 (HFin.out w4 HA4.out)
          go_roundw
          case rel => exact ⟨k + 1, by omega, by go_num, HN4⟩
          case measure => simp [intOf]; omega
    · obtain rfl : k = Fo.length := by omega
      obtain ⟨FO1, hFO1⟩ : ∃ FO1, FO1 = FO ++ Fo.map (rowW bs) := ⟨_, rfl⟩
      have HK1 : Hid (AdI w J sy lo pb pc vL vM (.slice (some ⟨GZ, 0, none⟩) N cZ) (.slice (some ⟨GP, 0, none⟩) N cP) (.slice (some ⟨GC, 0, none⟩) N cC) (own ++ List.replicate Fo.length nm) FO1.flatten (endsN FO1) N la1 op1 cl1 at0 alw wr) := hid0 (by
        have e : FOs FO bs Fo Fo.length = FO1 := by unfold FOs; rw [List.take_length, hFO1]
        have h := HK.out; rw [e] at h; exact h)
      obtain ⟨own1, hown1⟩ : ∃ own1, own1 = own ++ List.replicate Fo.length nm := ⟨_, rfl⟩
      rw [← hown1] at HK1
      have HFi : Hid (∀ {V : World} {a' b' : List Nat}, AdI w J sy lo pb pc vL vM (.slice (some ⟨GZ, 0, none⟩) N cZ) (.slice (some ⟨GP, 0, none⟩) N cP) (.slice (some ⟨GC, 0, none⟩) N cC) own1 FO1.flatten (endsN FO1) N la1 op1 cl1 a' b' V → (Below lo w V ∧ KeT w V) ∧ JoX V J sy lo vL vM (.slice (some ⟨GZ, 0, none⟩) N cZ) (.slice (some ⟨GP, 0, none⟩) N cP) (.slice (some ⟨GC, 0, none⟩) N cC) (own ++ List.replicate Fo.length nm) (FO ++ Fo.map (rowW bs)) N (setL la bs La) (setL op bs Fi) cl a' b') := hid0 (fun h => by
        obtain ⟨e1, e2, e3⟩ := HEq.out
        rw [← e1, ← e2, ← e3, ← hFO1, ← hown1]
        exact ⟨⟨h.bel, h.kp⟩, h.jo⟩)
      clear HK hFO1 hown1
      obtain ⟨x1, x2, x3, x4, x5⟩ := HBx.out wr HK1.out.box
      clear x1 x2 x3
      cases em
      · go_wp2
        refine bodyPost_ret (results_none rfl _ _ _) rfl ?_
        exact ⟨⟨_, rfl⟩, HFi.out HK1.out⟩
      · have HO1 : Hid (∃ a n c, n = at0.length ∧ wr.cell? ⟨J, 9, none⟩ = some (.slice a n c) ∧ wr.ownsRow lo 3 1 (.slice a n c) n ((nI at0).map (Value.int .i64)) ∧ ∀ (v1 : Value) (w1 : World), ApG 3 wr w1 lo (.slice a n c) v1 ((nI at0).map (Value.int .i64) ++ [Value.int .i64 (nm : Int)]) → (w1.cell? ⟨J, 9, none⟩ = some (.slice a n c) ∧ w1.frozen? ⟨J, 9, none⟩ = false) ∧ AdI w J sy lo pb pc vL vM (.slice (some ⟨GZ, 0, none⟩) N cZ) (.slice (some ⟨GP, 0, none⟩) N cP) (.slice (some ⟨GC, 0, none⟩) N cC) own1 FO1.flatten (endsN FO1) N la1 op1 cl1 (at0 ++ [nm]) alw (w1.setCell ⟨J, 9, none⟩ v1)) := hid0 (by
          obtain ⟨vO, vF, vE, vS, vA, hj, h0⟩ := HK1.out.jo
          obtain ⟨a, c, e⟩ := own_sl hj.s
          have ho := hj.s
          unfold OwnI at ho
          rw [nI_len] at ho e
          refine ⟨a, at0.length, c, rfl, by rw [← e]; exact hj.b.c.2.2.2.2.2.2.2.2.2.1, by rw [← e]; exact ho, fun v1 w1 hg => ?_⟩
          rw [← e] at hg ⊢
          obtain ⟨g1, g2, g3⟩ := hj.setS hg
          exact ⟨⟨g1.c.2.2.2.2.2.2.2.2.2.1, by simp [World.frozen?, g1.r]⟩, HK1.out.next HLo.out.1 HLo.out.2 hj.s (by decide) g3 ⟨_, _, _, _, _, g2, h0⟩⟩)
        obtain ⟨aw, nw, cw, hnw, dw, how, hnx⟩ := HO1.out
        have hnl : nw ≤ 100000000 := by rw [hnw]; exact ha0
        have HOw := hid0 how
        have HOl := hid0 hnw
        have HNx := hid0 hnx
        have hlr : lo ≤ wr.heap.size := Nat.le_trans HLo.out.2 HK1.out.bel.size
        clear HO1 hnw how hnx
        go_upto_region 21 with (at_builtin; go_loud ((refine wpList_append_own_at _ rfl _ _ 34 rfl lo 3 i0 (.int .i64 0) 1 8 Tryd.underlying34 hi hz0 hz1 hz2 rfl (by decide) (.slice aw nw cw) nw ((nI at0).map (Value.int .i64)) rfl (World.ownsRow.alloc HOw.out _) ⟨wr.heap.size, 0, none⟩ 1 1 [.int .i64 (nm : Int)] rfl rfl (cell_one_new _ _ _) (by simp [Value.oneCell']) (by unfold maxLen; omega) (by omega) (by simp; omega) ?_; intro v1 w1 h1 h2 _ h4; obtain ⟨a2, c2, rfl⟩ := own_sl h1; have R := hid0 (HNx.out _ w1 (apG_one (by rw [List.length_map, nI_len, ← HOl.out]; exact h1) h2 h4)); clear h1 h2 h4; have d1 := R.out.1.1; have f1 := R.out.1.2)))
        have HA3 := hid0 R.out.2
        clear R d1 f1 HNx HOw HOl dw HK1 x4 x5
        generalize w1.setCell ⟨J, 9, none⟩ (.slice a2 (nw + 1) c2) = w3 at *
        have x5 := (HBx.out w3 HA3.out.box).2.2.2.2
        have HO1 : Hid (∃ a n c, n = alw.length ∧ w3.cell? ⟨J, 10, none⟩ = some (.slice a n c) ∧ w3.ownsRow lo 3 1 (.slice a n c) n ((nI alw).map (Value.int .i64)) ∧ ∀ (v1 : Value) (w1 : World), ApG 3 w3 w1 lo (.slice a n c) v1 ((nI alw).map (Value.int .i64) ++ [Value.int .i64 (nm : Int)]) → (w1.cell? ⟨J, 10, none⟩ = some (.slice a n c) ∧ w1.frozen? ⟨J, 10, none⟩ = false) ∧ AdI w J sy lo pb pc vL vM (.slice (some ⟨GZ, 0, none⟩) N cZ) (.slice (some ⟨GP, 0, none⟩) N cP) (.slice (some ⟨GC, 0, none⟩) N cC) own1 FO1.flatten (endsN FO1) N la1 op1 cl1 (at0 ++ [nm]) (alw ++ [nm]) (w1.setCell ⟨J, 10, none⟩ v1)) := hid0 (by
          obtain ⟨vO, vF, vE, vS, vA, hj, h0⟩ := HA3.out.jo
          obtain ⟨a, c, e⟩ := own_sl hj.a
          have ho := hj.a
          unfold OwnI at ho
          rw [nI_len] at ho e
          refine ⟨a, alw.length, c, rfl, by rw [← e]; exact hj.b.c.2.2.2.2.2.2.2.2.2.2, by rw [← e]; exact ho, fun v1 w1 hg => ?_⟩
          rw [← e] at hg ⊢
          obtain ⟨g1, g2, g3⟩ := hj.setA hg
          exact ⟨⟨g1.c.2.2.2.2.2.2.2.2.2.2, by simp [World.frozen?, g1.r]⟩, HA3.out.next HLo.out.1 HLo.out.2 hj.a (by decide) g3 ⟨_, _, _, _, _, g2, h0⟩⟩)
        obtain ⟨aw, nw, cw, hnw, dw, how, hnx⟩ := HO1.out
        have hnl : nw ≤ 100000000 := by rw [hnw]; exact hal
        have HOw := hid0 how
        have HOl := hid0 hnw
        have HNx := hid0 hnx
        have hlr : lo ≤ w3.heap.size := Nat.le_trans HLo.out.2 HA3.out.bel.size
        clear HO1 hnw how hnx
        go_wp2_with (at_builtin; go_loud ((refine wpList_append_own_at _ rfl _ _ 34 rfl lo 3 i0 (.int .i64 0) 1 8 Tryd.underlying34 hi hz0 hz1 hz2 rfl (by decide) (.slice aw nw cw) nw ((nI alw).map (Value.int .i64)) rfl (World.ownsRow.alloc HOw.out _) ⟨w3.heap.size, 0, none⟩ 1 1 [.int .i64 (nm : Int)] rfl rfl (cell_one_new _ _ _) (by simp [Value.oneCell']) (by unfold maxLen; omega) (by omega) (by simp; omega) ?_; intro v1 w4 h1 h2 _ h4; obtain ⟨a4, c4, rfl⟩ := own_sl h1; have R := hid0 (HNx.out _ w4 (apG_one (by rw [List.length_map, nI_len, ← HOl.out]; exact h1) h2 h4)); clear h1 h2 h4; have d1 := R.out.1.1; have f1 := R.out.1.2)))
        go_end0
        exact ⟨⟨_, rfl⟩, HFi.out R.out.2⟩
set_option maxRecDepth 10000 in
set_option maxHeartbeats 6400000 in
theorem add_true (J sy lo nm N GZ GP GC cZ cP cC cL cF cA cO nL : Nat) (aL aF aA aO : Option Addr) (em : Bool) (vL vM : Value) (own : List Nat) (FO : List (List (Nat × Nat))) (la op cl : Nat → Bool) (at0 alw : List Nat) (Fi La : List Nat) (Fo : List (List Nat)) (w00 w : World)
    (hJ : JoX w J sy lo vL vM (.slice (some ⟨GZ, 0, none⟩) N cZ) (.slice (some ⟨GP, 0, none⟩) N cP) (.slice (some ⟨GC, 0, none⟩) N cC) own FO N la op cl at0 alw) (hlo : lo ≤ J) (hlw : lo ≤ w.heap.size) (hP : PaA w00 aF aA aO Fi La Fo) (h00 : w00.heap.size ≤ lo) (hb00 : Below w00.heap.size w00 w) (hN : N ≤ 1000000) (hol : own.length + Fo.length ≤ 64 * N) (_hnm : nm ≤ 1000000000) (hFO : ∀ r ∈ FO, ∀ x ∈ r, x.1 < N ∧ x.2 < 18446744073709551616) (hFl : FO.length ≤ 64000000) (ha0 : at0.length ≤ 100000000) (_hal : alw.length ≤ 100000000)
    (h1 : ∀ p ∈ Fi, own.length + p < 64 * N) (h2 : ∀ p ∈ La, own.length + p < 64 * N) (h3 : ∀ l ∈ Fo, ∀ p ∈ l, own.length + p < 64 * N) (hl1 : Fi.length ≤ 100000000) (hl2 : La.length ≤ 100000000) (hsum : FO.flatten.length + (Fo.map List.length).sum ≤ 900000000) :
    Calls Tryd.prog 51 #[.pointer (some ⟨J, 0, none⟩), .int .i64 (nm : Int), .agg #[.slice aL nL cL, .slice aF Fi.length cF, .slice aA La.length cA, .slice aO Fo.length cO, .bool em, .bool true]] w fun e w' => (∃ v, e = .returned v) ∧ (Below lo w w' ∧ KeT w w') ∧
      JoX w' J sy lo vL vM (.slice (some ⟨GZ, 0, none⟩) N cZ) (.slice (some ⟨GP, 0, none⟩) N cP) (.slice (some ⟨GC, 0, none⟩) N cC) (own ++ List.replicate Fo.length nm) (FO ++ Fo.map (rowW own.length)) N (setL la own.length La) op (setL cl own.length Fi) (if em then at0 ++ [nm] else at0) alw := by
  obtain ⟨i0, hi, hz⟩ := Option.map_eq_some_iff.1 infoInt1
  simp only [Prod.mk.injEq] at hz
  obtain ⟨hz0, hz1, hz2⟩ := hz
  obtain ⟨bs, hbs⟩ : ∃ bs, bs = own.length := ⟨_, rfl⟩
  rw [← hbs] at h1 h2 h3 hol ⊢
  obtain ⟨pc, hpc⟩ : ∃ pc : Array Value, pc = #[.slice aL nL cL, .slice aF Fi.length cF, .slice aA La.length cA, .slice aO Fo.length cO, .bool em, .bool true] := ⟨_, rfl⟩
  obtain ⟨w0, hw0⟩ : ∃ w0, w0 = w.alloc (.cells pc 48) := ⟨_, rfl⟩
  obtain ⟨pb, hpb⟩ : ∃ pb, pb = w.heap.size := ⟨_, rfl⟩
  have hA0 : AdI w J sy lo pb pc vL vM (.slice (some ⟨GZ, 0, none⟩) N cZ) (.slice (some ⟨GP, 0, none⟩) N cP) (.slice (some ⟨GC, 0, none⟩) N cC) own FO.flatten (endsN FO) N la op cl at0 alw w0 := by
    have hb : Below w.heap.size w w0 := by rw [hw0]; exact (Below.refl _ _).alloc (Nat.le_refl _) _
    obtain ⟨vO, vF, vE, vS, vA, hj, h0⟩ := hJ
    exact ⟨hb.mono hlw, KeT.below hb, by rw [hw0, hpb]; exact heap_alloc_new w _, vO, vF, vE, vS, vA, hj.past hb, h0⟩
  have HPa : Hid (∀ V : World, Below lo w V → PaA V aF aA aO Fi La Fo ∧ Below w00.heap.size w00 V) := hid0 (fun V hV => by
    have hb := hb00.trans (hV.mono h00)
    exact ⟨⟨hP.fi.past hb, hP.la.past hb, hP.fo.past hb⟩, hb⟩)
  -- what the box holds, wherever the walk is
  have HBx : Hid (∀ V : World, V.heap[pb]? = some (.cells pc 48 (0, 0)) → V.cell? ⟨pb, 1, none⟩ = some (.slice aF Fi.length cF) ∧ V.cell? ⟨pb, 2, none⟩ = some (.slice aA La.length cA) ∧ V.cell? ⟨pb, 3, none⟩ = some (.slice aO Fo.length cO) ∧ V.cell? ⟨pb, 4, none⟩ = some (.bool em) ∧ V.cell? ⟨pb, 5, none⟩ = some (.bool true)) := hid0 (fun V hV => by
    rw [hpc] at hV
    refine ⟨?_, ?_, ?_, ?_, ?_⟩ <;> (rw [cell_of_row _ _ _ _ _ _ hV]; rfl))
  have HC1 := hid0 (hA0.addC (cL := cF) (base := bs) hlo hlw (fun V hV => (HPa.out V hV).1.fi) hN h1 hl1 (by omega))
  have HC2 : Hid (∀ V : World, AdI w J sy lo pb pc vL vM (.slice (some ⟨GZ, 0, none⟩) N cZ) (.slice (some ⟨GP, 0, none⟩) N cP) (.slice (some ⟨GC, 0, none⟩) N cC) own FO.flatten (endsN FO) N la op (setL cl bs Fi) at0 alw V → Calls Tryd.prog 69 #[.slice (some ⟨GZ, 0, none⟩) N cZ, .int .i64 (bs : Int), .slice aA La.length cA] V.drew fun e w' => (∃ v, e = .returned v) ∧ Hid (AdI w J sy lo pb pc vL vM (.slice (some ⟨GZ, 0, none⟩) N cZ) (.slice (some ⟨GP, 0, none⟩) N cP) (.slice (some ⟨GC, 0, none⟩) N cC) own FO.flatten (endsN FO) N (setL la bs La) op (setL cl bs Fi) at0 alw w')) := hid0 (fun V hV => hV.drew.addZ hlo hlw (fun V hV => (HPa.out V hV).1.la) hN h2 hl2 (by omega))
  -- a state's faces
  have HFc : Hid (∀ {V : World} {own' : List Nat} {it' : List (Nat × Nat)} {en' : List Nat} {la' op' cl' : Nat → Bool} {a' b' : List Nat}, AdI w J sy lo pb pc vL vM (.slice (some ⟨GZ, 0, none⟩) N cZ) (.slice (some ⟨GP, 0, none⟩) N cP) (.slice (some ⟨GC, 0, none⟩) N cC) own' it' en' N la' op' cl' a' b' V → V.cell? ⟨J, 6, none⟩ = some (.slice (some ⟨GZ, 0, none⟩) N cZ) ∧ V.cell? ⟨J, 7, none⟩ = some (.slice (some ⟨GP, 0, none⟩) N cP) ∧ V.cell? ⟨J, 8, none⟩ = some (.slice (some ⟨GC, 0, none⟩) N cC)) := hid0 (fun h => by
    obtain ⟨vO, vF, vE, vS, vA, hj, _⟩ := h.jo
    exact ⟨hj.b.c.2.2.2.2.2.2.1, hj.b.c.2.2.2.2.2.2.2.1, hj.b.c.2.2.2.2.2.2.2.2.1⟩)
  obtain ⟨aO0, cO0, dO⟩ : ∃ a c, w0.cell? ⟨J, 1, none⟩ = some (.slice a bs c) := by
    obtain ⟨vO, vF, vE, vS, vA, hj, _⟩ := hA0.jo
    obtain ⟨a, c, e⟩ := own_sl hj.o
    rw [nI_len, ← hbs] at e
    exact ⟨a, c, by rw [← e]; exact hj.b.c.2.1⟩
  obtain ⟨x1, x2, x3, x4, x5⟩ := HBx.out w0 hA0.box
  obtain ⟨y6, y7, y8⟩ := HFc.out hA0
  have HLo := hid0 (And.intro hlo hlw)
  have HFO := hid0 hFO
  have H3 := hid0 h3
  have HSum := hid0 hsum
  have HBs := hid0 hbs
  have HPw := hid0 hP
  have hbl : bs ≤ 64000000 := by omega
  have hfold := hw0.symm
  have hpb2 := hpb.symm
  rw [hpc] at hfold
  clear hA0 hJ hb00 hP hw0 hFO h3 hsum hbs h1 h2 hlo hlw hl1 hl2 hpc hpb
  go_enter Tryd.func51, Tryd.ntmps51
  go_upto_region 6 with (go_at_call 69; go_loud ((refine HC1.out.mono ?_; rintro e w1 ⟨⟨v1, rfl⟩, HA1⟩)))
  clear x1 x2 x3 x4 x5 y6 y7 y8 dO HC1
  obtain ⟨x1, x2, x3, x4, x5⟩ := HBx.out w1 HA1.out.box
  obtain ⟨y6, y7, y8⟩ := HFc.out HA1.out
  have HC3 := hid0 (HC2.out w1 HA1.out)
  clear HC2 x1 x4 x5 y7 y8 hfold
  go_region_held3 (fun V => V.cell? ⟨J, 6, none⟩ = some (.slice (some ⟨GZ, 0, none⟩) N cZ) ∧ V.cell? ⟨pb, 2, none⟩ = some (.slice aA La.length cA)) (first | exact ⟨y6, x2⟩ | assumption)
    (first
      | (go_at_call 69; refine HC3.out.mono ?_; rintro e w2 ⟨⟨v2, rfl⟩, HA2⟩; have hs2 := And.intro (HFc.out HA2.out).1 (HBx.out w2 HA2.out.box).2.1))
  clear x2 x3 y6 HC3 HA1 hs2
  obtain ⟨x1, x2, x3, x4, x5⟩ := HBx.out w2 HA2.out.box
  clear x1 x2 x4 x5
  have hrm : (bs : Int) ≤ 64000000 := by omega
  obtain ⟨la1, hla1⟩ : ∃ la1, la1 = setL la bs La := ⟨_, rfl⟩
  obtain ⟨op1, hop1⟩ : ∃ op1, op1 = op := ⟨_, rfl⟩
  obtain ⟨cl1, hcl1⟩ : ∃ cl1, cl1 = (setL cl bs Fi) := ⟨_, rfl⟩
  have HEq := hid0 (And.intro hla1 (And.intro hop1 hcl1))
  rw [← hla1, ← hop1, ← hcl1] at HA2
  clear hla1 hop1 hcl1
  go_wp2
  go_loopw [47] (fun i wr => ∃ k : Nat, k ≤ Fo.length ∧ i = .int .i64 (k : Int) ∧ Hid (AdI w J sy lo pb pc vL vM (.slice (some ⟨GZ, 0, none⟩) N cZ) (.slice (some ⟨GP, 0, none⟩) N cP) (.slice (some ⟨GC, 0, none⟩) N cC) (own ++ List.replicate k nm) (FOs FO bs Fo k).flatten (endsN (FOs FO bs Fo k)) N la1 op1 cl1 at0 alw wr)) (fun i _ => Fo.length - (intOf i).toNat)
  case atStart => exact ⟨0, Nat.zero_le _, rfl, hid0 (by have h := HA2.out; simpa [FOs] using h)⟩
  case round =>
    clear x3
    obtain ⟨k, hk, rfl, HK⟩ := hrel
    by_cases hkl : k < Fo.length
    · obtain ⟨b, off, eb, hbw, a1, c1, y0, y1⟩ := HPw.out.fo.at' k (by rw [List.length_map]; exact hkl)
      obtain ⟨L, hL⟩ : ∃ L, L = Fo[k] := ⟨_, rfl⟩
      have hLm : L ∈ Fo := by rw [hL]; exact List.getElem_mem hkl
      rw [List.getElem_map, ← hL, nI_len] at y0
      rw [List.getElem_map, ← hL] at y1
      have hbl2 := (HPa.out wr HK.out.bel).2
      have z0 : wr.cell? ⟨b, off + k, none⟩ = some (.slice a1 L.length c1) := (hbl2.cell (p := ⟨b, off + k, none⟩) hbw).trans y0
      have HIL : Hid (∀ V : World, Below lo w V → IA V a1 (nI L)) := hid0 (fun V hV => y1.past (HPa.out V hV).2)
      subst eb
      obtain ⟨it0, hit0⟩ : ∃ it0, it0 = (FOs FO bs Fo k).flatten := ⟨_, rfl⟩
      obtain ⟨en0, hen0⟩ : ∃ en0, en0 = endsN (FOs FO bs Fo k) := ⟨_, rfl⟩
      obtain ⟨own0, hown0⟩ : ∃ own0, own0 = own ++ List.replicate k nm := ⟨_, rfl⟩
      have HLL : Hid (L ∈ Fo ∧ L = Fo[k] ∧ it0 = (FOs FO bs Fo k).flatten ∧ en0 = endsN (FOs FO bs Fo k) ∧ own0 = own ++ List.replicate k nm) := hid0 ⟨hLm, hL, hit0, hen0, hown0⟩
      have HLn : Hid (own0.length ≤ 64000000 ∧ it0.length + L.length ≤ 900000000 ∧ en0.length ≤ 128000000) := hid0 (by
        have q1 := FOs_len FO bs Fo k hk
        have q2 := sum_take Fo hkl
        have q3 := sum_le Fo (k + 1)
        have q4 := HSum.out
        have q5 := HBs.out
        refine ⟨?_, ?_, ?_⟩
        · rw [hown0, List.length_append, List.length_replicate]; omega
        · rw [hit0]; rw [hL]; omega
        · rw [hen0, endsN_len]; unfold FOs; rw [List.length_append, List.length_map, List.length_take]; omega)
      have HOk : Hid (∀ x ∈ it0, x.1 < N ∧ x.2 < 18446744073709551616) := hid0 (by rw [hit0]; exact FOs_ok FO bs N Fo k HFO.out H3.out)
      have HK1 : Hid (AdI w J sy lo pb pc vL vM (.slice (some ⟨GZ, 0, none⟩) N cZ) (.slice (some ⟨GP, 0, none⟩) N cP) (.slice (some ⟨GC, 0, none⟩) N cC) own0 it0 en0 N la1 op1 cl1 at0 alw wr) := hid0 (by rw [hit0, hen0, hown0]; exact HK.out)
      clear hL hLm hit0 hen0 hown0 hbl2 y0 y1 HK
      have HO1 : Hid (∃ a n c, n = own0.length ∧ wr.cell? ⟨J, 1, none⟩ = some (.slice a n c) ∧ wr.ownsRow lo 3 1 (.slice a n c) n ((nI own0).map (Value.int .i64)) ∧ ∀ (v1 : Value) (w1 : World), ApG 3 wr w1 lo (.slice a n c) v1 ((nI own0).map (Value.int .i64) ++ [Value.int .i64 (nm : Int)]) → (w1.cell? ⟨J, 1, none⟩ = some (.slice a n c) ∧ w1.frozen? ⟨J, 1, none⟩ = false) ∧ AdI w J sy lo pb pc vL vM (.slice (some ⟨GZ, 0, none⟩) N cZ) (.slice (some ⟨GP, 0, none⟩) N cP) (.slice (some ⟨GC, 0, none⟩) N cC) (own0 ++ [nm]) it0 en0 N la1 op1 cl1 at0 alw (w1.setCell ⟨J, 1, none⟩ v1)) := hid0 (by
        obtain ⟨vO, vF, vE, vS, vA, hj, h0⟩ := HK1.out.jo
        obtain ⟨a, c, e⟩ := own_sl hj.o
        have ho := hj.o
        unfold OwnI at ho
        rw [nI_len] at ho e
        refine ⟨a, own0.length, c, rfl, by rw [← e]; exact hj.b.c.2.1, by rw [← e]; exact ho, fun v1 w1 hg => ?_⟩
        rw [← e] at hg ⊢
        obtain ⟨g1, g2, g3⟩ := hj.setO hg
        exact ⟨⟨g1.c.2.1, by simp [World.frozen?, g1.r]⟩, HK1.out.next HLo.out.1 HLo.out.2 hj.o (by decide) g3 ⟨_, _, _, _, _, g2, h0⟩⟩)
      obtain ⟨aw, nw, cw, hnw, dw, how, hnx⟩ := HO1.out
      have hnl : nw ≤ 64000000 := by rw [hnw]; exact HLn.out.1
      have HOw := hid0 how
      have HOl := hid0 hnw
      have HNx := hid0 hnx
      have hlr : lo ≤ wr.heap.size := Nat.le_trans HLo.out.2 HK1.out.bel.size
      have hkI : (k : Int) < (Fo.length : Int) := by omega
      have hkI0 : (0 : Int) ≤ (k : Int) := by omega
      clear HO1 hnw how hnx
      go_upto_region 11 with (at_builtin; go_loud ((refine wpList_append_own_at _ rfl _ _ 34 rfl lo 3 i0 (.int .i64 0) 1 8 Tryd.underlying34 hi hz0 hz1 hz2 rfl (by decide) (.slice aw nw cw) nw ((nI own0).map (Value.int .i64)) rfl (World.ownsRow.alloc HOw.out _) ⟨wr.heap.size, 0, none⟩ 1 1 [.int .i64 (nm : Int)] rfl rfl (cell_one_new _ _ _) (by simp [Value.oneCell']) (by unfold maxLen; omega) (by omega) (by simp; omega) ?_; intro v1 w1 h1 h2 _ h4; obtain ⟨a2, c2, rfl⟩ := own_sl h1; have R := hid0 (HNx.out _ w1 (apG_one (by rw [List.length_map, nI_len, ← HOl.out]; exact h1) h2 h4)); clear h1 h2 h4; have d1 := R.out.1.1; have f1 := R.out.1.2)))
      have HA3 := hid0 R.out.2
      clear R d1 f1 HNx HOw HOl dw z0 HK1
      generalize w1.setCell ⟨J, 1, none⟩ (.slice a2 (nw + 1) c2) = w3 at *
      obtain ⟨aI, cI, dI⟩ : ∃ a c, w3.cell? ⟨J, 2, none⟩ = some (.slice a it0.length c) := by
        obtain ⟨vO, vF, vE, vS, vA, hj, _⟩ := HA3.out.jo
        obtain ⟨a, c, e⟩ := own_sl hj.f
        exact ⟨a, c, by rw [← e]; exact hj.b.c.2.2.1⟩
      obtain ⟨fr, hfr⟩ : ∃ fr, fr = it0.length := ⟨_, rfl⟩
      rw [← hfr] at dI
      have hfrl : fr ≤ 900000000 := by have := HLn.out.2.1; omega
      have hLl : L.length ≤ 900000000 := by have := HLn.out.2.1; omega
      have HFr := hid0 hfr
      clear hfr
      go_wp2
      go_loopw [69] (fun j wr2 => ∃ m : Nat, m ≤ L.length ∧ j = .int .i64 (m : Int) ∧ Hid (AdI w J sy lo pb pc vL vM (.slice (some ⟨GZ, 0, none⟩) N cZ) (.slice (some ⟨GP, 0, none⟩) N cP) (.slice (some ⟨GC, 0, none⟩) N cC) (own0 ++ [nm]) (it0 ++ rowW bs (L.take m)) en0 N la1 op1 cl1 at0 alw wr2)) (fun j _ => L.length - (intOf j).toNat)
      case atStart => exact ⟨0, Nat.zero_le _, rfl, hid0 (by have h := HA3.out; simpa [rowW] using h)⟩
      case round =>
        clear dI
        obtain ⟨m, hm, rfl, HM⟩ := hrel
        obtain ⟨V, hV⟩ : ∃ V, V = wr := ⟨_, rfl⟩
        subst hV
        by_cases hml : m < L.length
        · obtain ⟨g1, o1, eg, _, z1⟩ := (HIL.out V HM.out.bel).at' m (by rw [nI_len]; exact hml)
          subst eg
          obtain ⟨p, hp⟩ : ∃ p, p = L[m] := ⟨_, rfl⟩
          have z2 : V.cell? ⟨g1, o1 + m, none⟩ = some (.int .i64 (p : Int)) := by rw [z1, hp]; unfold nI; rw [List.getElem_map]
          have hpN := H3.out L HLL.out.1 p (by rw [hp]; exact List.getElem_mem hml)
          obtain ⟨q, hq⟩ : ∃ q, q = bs + p := ⟨_, rfl⟩
          obtain ⟨lw, hlw⟩ : ∃ lw, lw = it0 ++ rowW bs (L.take m) := ⟨_, rfl⟩
          have HNw : Hid (addW lw fr q = it0 ++ rowW bs (L.take (m + 1))) := hid0 (by rw [hlw, HFr.out, hq, addW_pre, rowW_take bs hml, hp])
          have HCx : Hid (∃ a c, V.cell? ⟨J, 2, none⟩ = some (.slice a lw.length c) ∧ (Calls Tryd.prog 70 #[.slice a lw.length c, .int .i64 (fr : Int), .int .i64 (q : Int)] V fun e w' => ∃ v', e = .returned v' ∧ Hid (ApP V w' lo (.slice a lw.length c) v' (addW lw fr q))) ∧ ∀ (v1 : Value) (w1 : World), ApP V w1 lo (.slice a lw.length c) v1 (addW lw fr q) → (w1.cell? ⟨J, 2, none⟩ = some (.slice a lw.length c) ∧ w1.frozen? ⟨J, 2, none⟩ = false) ∧ AdI w J sy lo pb pc vL vM (.slice (some ⟨GZ, 0, none⟩) N cZ) (.slice (some ⟨GP, 0, none⟩) N cP) (.slice (some ⟨GC, 0, none⟩) N cC) (own0 ++ [nm]) (it0 ++ rowW bs (L.take (m + 1))) en0 N la1 op1 cl1 at0 alw (w1.setCell ⟨J, 2, none⟩ v1)) := hid0 (by
            obtain ⟨vO, vF, vE, vS, vA, hj, h0⟩ := HM.out.jo
            rw [← hlw] at hj
            have hfl : fr ≤ lw.length := by rw [hlw, HFr.out, List.length_append]; omega
            have hll : lw.length ≤ 1000000000 := by
              have q1 := rowW_len bs (L.take m)
              have q2 := HLn.out.2.1
              rw [List.length_take] at q1
              rw [hlw, List.length_append]; omega
            have hxx : ∀ x ∈ lw, x.1 ≤ 1000000000 ∧ x.2 < 18446744073709551616 := by
              intro x hx
              rw [hlw] at hx
              rcases List.mem_append.1 hx with h | h
              · have := HOk.out x h; omega
              · have := rowW_ok bs N (L.take m) (fun p hp => H3.out L HLL.out.1 p (List.mem_of_mem_take hp)) x h; omega
            obtain ⟨a, c, e⟩ := own_sl hj.f
            refine ⟨a, c, by rw [← e]; exact hj.b.c.2.2.1, by rw [← e]; exact (addBit_any lo fr q lw vF V hj.f (Nat.le_trans HLo.out.2 HM.out.bel.size) hfl hll (by omega) hxx).mono (fun _ _ ⟨v', q1, q2⟩ => ⟨v', q1, hid0 q2⟩), fun v1 w1 hg => ?_⟩
            rw [← e] at hg ⊢
            obtain ⟨g1, g2, g3⟩ := hj.setF hg
            have hne := addW_ne lw fr q hfl
            rw [HNw.out] at g2 hne
            exact ⟨⟨g1.c.2.2.1, by simp [World.frozen?, g1.r]⟩, HM.out.next HLo.out.1 HLo.out.2 hj.f (by decide) g3 ⟨_, _, _, _, _, g2, fun q => absurd q hne⟩⟩)
          obtain ⟨ax, cx, dx, hcx, hnx⟩ := HCx.out
          obtain ⟨nx, hnxl⟩ : ∃ nx, nx = lw.length := ⟨_, rfl⟩
          rw [← hnxl] at dx hcx hnx
          have hnb : nx ≤ 1000000000 := by
            have q1 := rowW_len bs (L.take m)
            have q2 := HLn.out.2.1
            rw [List.length_take] at q1
            rw [hnxl, hlw, List.length_append]; omega
          have HCc := hid0 hcx
          have HNx := hid0 hnx
          have hadd : (bs : Int) + (p : Int) = (q : Int) := by omega
          have hpb3 : (q : Int) ≤ 64000000 := by omega
          have hwr : IntKind.i64.wrap (q : Int) = (q : Int) := by rw [IntKind.wrap_i64]; omega
          have hmI : (m : Int) < (L.length : Int) := by omega
          have hmI0 : (0 : Int) ≤ (m : Int) := by omega
          clear HCx hcx hnx hnxl hlw hp z1 HNw HM hq
          go_wp2_with (go_at_call 70; go_loud ((refine HCc.out.mono ?_; rintro e w4 ⟨v4, rfl, HA4⟩; obtain ⟨a4, c4, rfl⟩ := own_sl HA4.out.own; have R := hid0 (HNx.out _ w4 HA4.out); have d2 := R.out.1.1; have f2 := R.out.1.2; clear HA4)))
          have HM2 := hid0 R.out.2
          go_roundw
          case rel => exact ⟨m + 1, by omega, by go_num, HM2⟩
          case measure => simp [intOf]; omega
        · obtain rfl : m = L.length := by omega
          obtain ⟨it1, hit1⟩ : ∃ it1, it1 = it0 ++ rowW bs L := ⟨_, rfl⟩
          have hM1 : AdI w J sy lo pb pc vL vM (.slice (some ⟨GZ, 0, none⟩) N cZ) (.slice (some ⟨GP, 0, none⟩) N cP) (.slice (some ⟨GC, 0, none⟩) N cC) (own0 ++ [nm]) it1 en0 N la1 op1 cl1 at0 alw V := by have h := HM.out; rw [List.take_length] at h; rw [hit1]; exact h
          have HCe : Hid (Calls Tryd.prog 71 #[.pointer (some ⟨J, 2, none⟩)] V fun e w' => (∃ v, e = .returned v) ∧ Hid (AdI w J sy lo pb pc vL vM (.slice (some ⟨GZ, 0, none⟩) N cZ) (.slice (some ⟨GP, 0, none⟩) N cP) (.slice (some ⟨GC, 0, none⟩) N cC) (own0 ++ [nm]) it1 (en0 ++ [it1.length]) N la1 op1 cl1 at0 alw w')) := hid0 (by
            obtain ⟨vO, vF, vE, vS, vA, hj, h0⟩ := hM1.jo
            obtain ⟨a, c, e⟩ := own_sl hj.f
            obtain ⟨a', c', e'⟩ := own_sl hj.e
            rw [nI_len] at e'
            have q1 := rowW_len bs L
            have q2 := HLn.out.2.1
            subst e
            subst e'
            refine (endW_any J sy lo it1.length c c' en0 a a' vO vL vM _ _ _ vS vA V hj.b hj.e (Nat.le_trans HLo.out.2 hM1.bel.size) (by rw [hit1, List.length_append]; omega) (by have := HLn.out.2.2; omega)).mono (fun _ _ ⟨q1, v', g1, g2, g3, g4⟩ => ⟨q1, hid0 (hM1.next HLo.out.1 HLo.out.2 hj.e (by decide) g3 ⟨_, _, _, _, _, hj.at_e g1 g2 g3 g4, h0⟩)⟩))
          have HFin : Hid (∀ V : World, AdI w J sy lo pb pc vL vM (.slice (some ⟨GZ, 0, none⟩) N cZ) (.slice (some ⟨GP, 0, none⟩) N cP) (.slice (some ⟨GC, 0, none⟩) N cC) (own0 ++ [nm]) it1 (en0 ++ [it1.length]) N la1 op1 cl1 at0 alw V → AdI w J sy lo pb pc vL vM (.slice (some ⟨GZ, 0, none⟩) N cZ) (.slice (some ⟨GP, 0, none⟩) N cP) (.slice (some ⟨GC, 0, none⟩) N cC) (own ++ List.replicate (k + 1) nm) (FOs FO bs Fo (k + 1)).flatten (endsN (FOs FO bs Fo (k + 1))) N la1 op1 cl1 at0 alw V) := hid0 (fun V h => by
            obtain ⟨_, g2, g3, g4, g5⟩ := HLL.out
            have e1 : it1 = (FOs FO bs Fo (k + 1)).flatten := by rw [hit1, FOs_succ FO bs hkl, List.flatten_append, g3, g2]; simp
            have e2 : en0 ++ [it1.length] = endsN (FOs FO bs Fo (k + 1)) := by rw [e1, FOs_succ FO bs hkl, endsN_snoc, g4]
            have e3 : own0 ++ [nm] = own ++ List.replicate (k + 1) nm := by rw [g5, List.replicate_succ', List.append_assoc]
            rw [e2, e1, e3] at h
            exact h)
          clear hit1 hM1 HM
          go_wp2_with (go_at_call 71; go_loud ((refine HCe.out.mono ?_; rintro e w4 ⟨⟨v4, rfl⟩, HA4⟩)))
          have HN4 := hid0 (HFin.out w4 HA4.out)
          go_roundw
          case rel => exact ⟨k + 1, by omega, by go_num, HN4⟩
          case measure => simp [intOf]; omega
    · obtain rfl : k = Fo.length := by omega
      obtain ⟨FO1, hFO1⟩ : ∃ FO1, FO1 = FO ++ Fo.map (rowW bs) := ⟨_, rfl⟩
      have HK1 : Hid (AdI w J sy lo pb pc vL vM (.slice (some ⟨GZ, 0, none⟩) N cZ) (.slice (some ⟨GP, 0, none⟩) N cP) (.slice (some ⟨GC, 0, none⟩) N cC) (own ++ List.replicate Fo.length nm) FO1.flatten (endsN FO1) N la1 op1 cl1 at0 alw wr) := hid0 (by
        have e : FOs FO bs Fo Fo.length = FO1 := by unfold FOs; rw [List.take_length, hFO1]
        have h := HK.out; rw [e] at h; exact h)
      obtain ⟨own1, hown1⟩ : ∃ own1, own1 = own ++ List.replicate Fo.length nm := ⟨_, rfl⟩
      rw [← hown1] at HK1
      have HFi : Hid (∀ {V : World} {a' b' : List Nat}, AdI w J sy lo pb pc vL vM (.slice (some ⟨GZ, 0, none⟩) N cZ) (.slice (some ⟨GP, 0, none⟩) N cP) (.slice (some ⟨GC, 0, none⟩) N cC) own1 FO1.flatten (endsN FO1) N la1 op1 cl1 a' b' V → (Below lo w V ∧ KeT w V) ∧ JoX V J sy lo vL vM (.slice (some ⟨GZ, 0, none⟩) N cZ) (.slice (some ⟨GP, 0, none⟩) N cP) (.slice (some ⟨GC, 0, none⟩) N cC) (own ++ List.replicate Fo.length nm) (FO ++ Fo.map (rowW bs)) N (setL la bs La) op (setL cl bs Fi) a' b') := hid0 (fun h => by
        obtain ⟨e1, e2, e3⟩ := HEq.out
        rw [← e1, ← e2, ← e3, ← hFO1, ← hown1]
        exact ⟨⟨h.bel, h.kp⟩, h.jo⟩)
      clear HK hFO1 hown1
      obtain ⟨x1, x2, x3, x4, x5⟩ := HBx.out wr HK1.out.box
      clear x1 x2 x3
      cases em
      · go_wp2
        refine bodyPost_ret (results_none rfl _ _ _) rfl ?_
        exact ⟨⟨_, rfl⟩, HFi.out HK1.out⟩
      · have HO1 : Hid (∃ a n c, n = at0.length ∧ wr.cell? ⟨J, 9, none⟩ = some (.slice a n c) ∧ wr.ownsRow lo 3 1 (.slice a n c) n ((nI at0).map (Value.int .i64)) ∧ ∀ (v1 : Value) (w1 : World), ApG 3 wr w1 lo (.slice a n c) v1 ((nI at0).map (Value.int .i64) ++ [Value.int .i64 (nm : Int)]) → (w1.cell? ⟨J, 9, none⟩ = some (.slice a n c) ∧ w1.frozen? ⟨J, 9, none⟩ = false) ∧ AdI w J sy lo pb pc vL vM (.slice (some ⟨GZ, 0, none⟩) N cZ) (.slice (some ⟨GP, 0, none⟩) N cP) (.slice (some ⟨GC, 0, none⟩) N cC) own1 FO1.flatten (endsN FO1) N la1 op1 cl1 (at0 ++ [nm]) alw (w1.setCell ⟨J, 9, none⟩ v1)) := hid0 (by
          obtain ⟨vO, vF, vE, vS, vA, hj, h0⟩ := HK1.out.jo
          obtain ⟨a, c, e⟩ := own_sl hj.s
          have ho := hj.s
          unfold OwnI at ho
          rw [nI_len] at ho e
          refine ⟨a, at0.length, c, rfl, by rw [← e]; exact hj.b.c.2.2.2.2.2.2.2.2.2.1, by rw [← e]; exact ho, fun v1 w1 hg => ?_⟩
          rw [← e] at hg ⊢
          obtain ⟨g1, g2, g3⟩ := hj.setS hg
          exact ⟨⟨g1.c.2.2.2.2.2.2.2.2.2.1, by simp [World.frozen?, g1.r]⟩, HK1.out.next HLo.out.1 HLo.out.2 hj.s (by decide) g3 ⟨_, _, _, _, _, g2, h0⟩⟩)
        obtain ⟨aw, nw, cw, hnw, dw, how, hnx⟩ := HO1.out
        have hnl : nw ≤ 100000000 := by rw [hnw]; exact ha0
        have HOw := hid0 how
        have HOl := hid0 hnw
        have HNx := hid0 hnx
        have hlr : lo ≤ wr.heap.size := Nat.le_trans HLo.out.2 HK1.out.bel.size
        clear HO1 hnw how hnx
        go_upto_region 21 with (at_builtin; go_loud ((refine wpList_append_own_at _ rfl _ _ 34 rfl lo 3 i0 (.int .i64 0) 1 8 Tryd.underlying34 hi hz0 hz1 hz2 rfl (by decide) (.slice aw nw cw) nw ((nI at0).map (Value.int .i64)) rfl (World.ownsRow.alloc HOw.out _) ⟨wr.heap.size, 0, none⟩ 1 1 [.int .i64 (nm : Int)] rfl rfl (cell_one_new _ _ _) (by simp [Value.oneCell']) (by unfold maxLen; omega) (by omega) (by simp; omega) ?_; intro v1 w1 h1 h2 _ h4; obtain ⟨a2, c2, rfl⟩ := own_sl h1; have R := hid0 (HNx.out _ w1 (apG_one (by rw [List.length_map, nI_len, ← HOl.out]; exact h1) h2 h4)); clear h1 h2 h4; have d1 := R.out.1.1; have f1 := R.out.1.2)))
        have HA3 := hid0 R.out.2
        clear R d1 f1 HNx HOw HOl dw HK1 x4 x5
        generalize w1.setCell ⟨J, 9, none⟩ (.slice a2 (nw + 1) c2) = w3 at *
        have x5 := (HBx.out w3 HA3.out.box).2.2.2.2
        go_wp2
        go_end0
        exact ⟨⟨_, rfl⟩, HFi.out HA3.out⟩
end Go.Proofs.YtleeedjpccooaaaDoor
namespace Go.Proofs.YtleeedjpccooaaaDoor
open Go.RowKit Go.Shelf
theorem own_front {w : World} {lo : Nat} {t : TypeId} {s n c m : Nat} {a : Option Addr} {xs : List Value} (h : w.ownsRow lo t s (.slice a n c) n xs) (hm : m ≤ n) : w.ownsRow lo t s (.slice a m c) m (xs.take (m * s)) := by
  refine ⟨?_, ?_⟩
  · rw [List.length_take, h.1]
    exact Nat.min_eq_left (Nat.mul_le_mul_right _ hm)
  · rcases h.2 with ⟨e, hn⟩ | ⟨g, cap, cur, e, h1, h2, h3, h4, h5, h6⟩
    · simp only [Value.slice.injEq] at e
      left
      obtain rfl : m = 0 := by omega
      exact ⟨by rw [e.1, e.2.2], rfl⟩
    · simp only [Value.slice.injEq] at e
      right
      refine ⟨g, cap, cur, by rw [e.1, e.2.2], h1, h2, by omega, h4, h5, ?_⟩
      rw [← h6, List.take_take, Nat.min_eq_left (Nat.mul_le_mul_right _ hm)]
/-- Words, one for each symbol. -/
def hvV (H : Nat → Nat) (n : Nat) : List Value := (List.range n).map fun c => .int .u64 (H c : Int)
theorem hvV_len (H : Nat → Nat) (n : Nat) : (hvV H n).length = n := by unfold hvV; simp
theorem hvV_at (H : Nat → Nat) {n i : Nat} (h : i < n) : (hvV H n)[i]? = some (.int .u64 (H i : Int)) := by unfold hvV; simp [h]
def OwnH (W : World) (lo : Nat) (v : Value) (n : Nat) (H : Nat → Nat) : Prop := W.ownsRow lo 105 1 v n (hvV H n)
theorem OwnH.at' {W : World} {lo g n c : Nat} {H : Nat → Nat} (h : OwnH W lo (.slice (some ⟨g, 0, none⟩) n c) n H) {i : Nat} (hi : i < n) : W.cell? ⟨g, i, none⟩ = some (.int .u64 (H i : Int)) ∧ W.frozen? ⟨g, i, none⟩ = false := by
  refine ⟨?_, ?_⟩
  · have := World.ownsRow.cellAt h i (by omega)
    rw [this, hvV_at H hi]
  · obtain ⟨cs, hcs⟩ := own_typ h (show Value.ownBlock _ = some g from rfl)
    simp [World.frozen?, hcs]
theorem OwnH.put {W : World} {lo g n c a : Nat} {H : Nat → Nat} (h : OwnH W lo (.slice (some ⟨g, 0, none⟩) n c) n H) (ha : a < n) (y : Nat) : OwnH (W.setCell ⟨g, a, none⟩ (.int .u64 (y : Int))) lo (.slice (some ⟨g, 0, none⟩) n c) n (fun x => if x = a then y else H x) := by
  have h1 := (World.ownsRow.stored h a (.int .u64 (y : Int))).1
  have e : (hvV H n).set a (.int .u64 (y : Int)) = hvV (fun x => if x = a then y else H x) n := by
    apply List.ext_getElem?
    intro i
    by_cases hi : i < n
    · by_cases hia : a = i
      · subst hia
        rw [List.getElem?_set_self (by rw [hvV_len]; exact ha), hvV_at _ ha, if_pos rfl]
      · rw [List.getElem?_set_ne hia, hvV_at _ hi, hvV_at _ hi, if_neg (fun e => hia e.symm)]
    · rw [List.getElem?_eq_none (by rw [List.length_set, hvV_len]; omega), List.getElem?_eq_none (by rw [hvV_len]; omega)]
  unfold OwnH
  rw [← e]
  exact h1
theorem OwnH.congr {W : World} {lo : Nat} {v : Value} {n : Nat} {H K : Nat → Nat} (h : OwnH W lo v n H) (e : ∀ c, c < n → H c = K c) : OwnH W lo v n K := by
  have e2 : hvV H n = hvV K n := by
    unfold hvV
    apply List.map_congr_left
    intro c hc
    rw [e c (List.mem_range.1 hc)]
  unfold OwnH
  rw [← e2]
  exact h
/-- A symbol is met at the b-th place of a word. -/
def stepL (b : Nat) (st : List Nat × (Nat → Nat)) (c : Nat) : List Nat × (Nat → Nat) := (if st.2 c = 0 then st.1 ++ [c] else st.1, fun x => if x = c then st.2 x ||| 2 ^ b else st.2 x)
/-- So many places of a word. -/
def accL (ch : List (List Nat)) : Nat → List Nat × (Nat → Nat)
  | 0 => ([], fun _ => 0)
  | k + 1 => (ch.getD k []).foldl (stepL k) (accL ch k)
/-- What is true of it: who was met, and which places have him. -/
structure LmOk (st : List Nat × (Nat → Nat)) (M : Nat → Nat → Prop) : Prop where
  nd : st.1.Nodup
  mem : ∀ c, c ∈ st.1 ↔ st.2 c ≠ 0
  bit : ∀ c b, (st.2 c).testBit b = true ↔ M c b
theorem LmOk.step {b : Nat} {st : List Nat × (Nat → Nat)} {M : Nat → Nat → Prop} (h : LmOk st M) (c : Nat) : LmOk (stepL b st c) (fun x k => M x k ∨ (x = c ∧ k = b)) := by
  have hor : ∀ y : Nat, y ||| 2 ^ b ≠ 0 := fun y e => by
    have h1 := congrArg (fun z => z.testBit b) e
    simp [Nat.testBit_or] at h1
  refine ⟨?_, ?_, ?_⟩
  · show (if st.2 c = 0 then st.1 ++ [c] else st.1).Nodup
    by_cases h0 : st.2 c = 0
    · rw [if_pos h0, List.nodup_append]
      refine ⟨h.nd, by simp, fun x hx y hy e => ?_⟩
      rw [List.mem_singleton.1 hy] at e
      rw [e] at hx
      exact (h.mem c).1 hx h0
    · rw [if_neg h0]; exact h.nd
  · intro x
    show x ∈ (if st.2 c = 0 then st.1 ++ [c] else st.1) ↔ (if x = c then st.2 x ||| 2 ^ b else st.2 x) ≠ 0
    by_cases hx : x = c
    · subst hx
      rw [if_pos rfl]
      constructor
      · intro _; exact hor _
      · intro _
        by_cases h0 : st.2 x = 0
        · rw [if_pos h0]; simp
        · rw [if_neg h0]; exact (h.mem x).2 h0
    · rw [if_neg hx, ← h.mem x]
      split
      · simp [hx]
      · rfl
  · intro x k
    show (if x = c then st.2 x ||| 2 ^ b else st.2 x).testBit k = true ↔ _
    by_cases hx : x = c
    · subst hx
      rw [if_pos rfl, Nat.testBit_or, Bool.or_eq_true, h.bit x k, Nat.testBit_two_pow]
      simp [eq_comm]
    · rw [if_neg hx, h.bit x k]
      simp [hx]
theorem LmOk.congr {st : List Nat × (Nat → Nat)} {M K : Nat → Nat → Prop} (h : LmOk st M) (e : ∀ c b, M c b ↔ K c b) : LmOk st K := ⟨h.nd, h.mem, fun c b => (h.bit c b).trans (e c b)⟩
theorem LmOk.list {b : Nat} : ∀ (l : List Nat) {st : List Nat × (Nat → Nat)} {M : Nat → Nat → Prop}, LmOk st M → LmOk (l.foldl (stepL b) st) (fun x k => M x k ∨ (x ∈ l ∧ k = b))
  | [], st, M, h => h.congr (fun c b => by simp)
  | c :: l, st, M, h => by
    rw [List.foldl_cons]
    refine (LmOk.list l (h.step c)).congr (fun x k => ?_)
    simp only [List.mem_cons]
    constructor
    · rintro ((h | h) | h)
      · exact .inl h
      · exact .inr ⟨.inl h.1, h.2⟩
      · exact .inr ⟨.inr h.1, h.2⟩
    · rintro (h | ⟨h | h, h2⟩)
      · exact .inl (.inl h)
      · exact .inl (.inr ⟨h, h2⟩)
      · exact .inr ⟨h, h2⟩
theorem accL_ok (ch : List (List Nat)) : ∀ k, LmOk (accL ch k) (fun c b => b < k ∧ c ∈ ch.getD b [])
  | 0 => ⟨List.nodup_nil, fun c => by simp [accL], fun c b => by simp [accL]⟩
  | k + 1 => by
    show LmOk ((ch.getD k []).foldl (stepL k) (accL ch k)) _
    refine (LmOk.list _ (accL_ok ch k)).congr (fun c b => ?_)
    constructor
    · rintro (⟨h1, h2⟩ | ⟨h1, h2⟩)
      · exact ⟨by omega, h2⟩
      · subst h2; exact ⟨by omega, h1⟩
    · rintro ⟨h1, h2⟩
      by_cases hb : b = k
      · subst hb; exact .inr ⟨h2, rfl⟩
      · exact .inl ⟨by omega, h2⟩
theorem mem_le_sum {l : List Nat} {x : Nat} (h : x ∈ l) : x ≤ l.sum := by
  induction l with
  | nil => cases h
  | cons y r ih =>
    rw [List.sum_cons]
    rcases List.mem_cons.1 h with rfl | h
    · omega
    · have := ih h
      omega
theorem nodup_lt : ∀ (n : Nat) (l : List Nat), l.Nodup → (∀ x ∈ l, x < n) → l.length ≤ n
  | 0, l, _, h => by
    cases l with
    | nil => exact Nat.le_refl _
    | cons x r => exact absurd (h x (.head _)) (Nat.not_lt_zero _)
  | n + 1, l, hd, h => by
    have h1 := nodup_lt n (l.erase n) (hd.erase n) (fun x hx => by
      have h2 := h x (List.mem_of_mem_erase hx)
      have h3 : x ≠ n := fun e => by subst e; exact absurd hx hd.not_mem_erase
      omega)
    have h4 : l.length - 1 ≤ (l.erase n).length := by rw [List.length_erase]; split <;> omega
    omega
/-- So many symbols are met, at most; a word has 64 bits. -/
theorem LmOk.small {st : List Nat × (Nat → Nat)} {M : Nat → Nat → Prop} (h : LmOk st M) (sy : Nat) (hM : ∀ c b, M c b → c < sy ∧ b < 64) : st.1.length ≤ sy ∧ (∀ c ∈ st.1, c < sy) ∧ ∀ c, st.2 c < 18446744073709551616 := by
  have h1 : ∀ c ∈ st.1, c < sy := fun c hc => by
    obtain ⟨b, hb⟩ := Nat.exists_testBit_of_ne_zero ((h.mem c).1 hc)
    exact (hM c b ((h.bit c b).1 hb)).1
  refine ⟨nodup_lt sy _ h.nd h1, h1, fun c => ?_⟩
  refine Nat.lt_pow_two_of_testBit (n := 64) _ (fun k hk => ?_)
  cases e : (st.2 c).testBit k with
  | false => rfl
  | true => have := (hM c k ((h.bit c k).1 e)).2; omega
/-- The places whose letter a symbol is. -/
def ltF (LE : List (List Nat)) : Nat → Nat → Bool := fun c q => decide (c ∈ LE.getD q [])
/-- The i-th word's places. -/
def chL (LE : List (List Nat)) (i : Nat) : List (List Nat) := (LE.drop (64 * i)).take 64
/-- The row of the i-th word. -/
def rowL (LE : List (List Nat)) (i : Nat) : List (Nat × Nat) := (accL (chL LE i) (chL LE i).length).1.map fun c => (c, (accL (chL LE i) (chL LE i).length).2 c)
theorem chL_at (LE : List (List Nat)) (i b c : Nat) : (b < (chL LE i).length ∧ c ∈ (chL LE i).getD b []) ↔ (b < 64 ∧ c ∈ LE.getD (64 * i + b) []) := by
  unfold chL
  rw [List.length_take, List.length_drop]
  constructor
  · rintro ⟨h1, h2⟩
    rw [List.getD_eq_getElem?_getD, List.getElem?_take, if_pos (by omega), List.getElem?_drop, ← List.getD_eq_getElem?_getD] at h2
    exact ⟨by omega, h2⟩
  · rintro ⟨h1, h2⟩
    have h3 : 64 * i + b < LE.length := by
      by_cases h : 64 * i + b < LE.length
      · exact h
      · rw [List.getD_eq_getElem?_getD, List.getElem?_eq_none (by omega)] at h2
        simp at h2
    refine ⟨by omega, ?_⟩
    rw [List.getD_eq_getElem?_getD, List.getElem?_take, if_pos h1, List.getElem?_drop, ← List.getD_eq_getElem?_getD]
    exact h2
theorem accL_word (LE : List (List Nat)) (i c : Nat) : (accL (chL LE i) (chL LE i).length).2 c = wordOf (ltF LE c) i := by
  apply Nat.eq_of_testBit_eq
  intro b
  rw [wordOf_bit, Bool.eq_iff_iff, (accL_ok (chL LE i) _).bit c b, chL_at]
  simp [ltF]
theorem rowL_ok (LE : List (List Nat)) (sy N : Nat) (hs : ∀ l ∈ LE, ∀ c ∈ l, c < sy) (_hN : LE.length ≤ 64 * N) : LtOk N sy ((List.range N).map (rowL LE)) (ltF LE) := by
  have hsy : ∀ i c, c ∈ (rowL LE i).map (·.1) → c < sy := by
    intro i c hc
    unfold rowL at hc
    rw [List.map_map] at hc
    obtain ⟨x, hx, e⟩ := List.mem_map.1 hc
    obtain rfl : x = c := e
    have h1 := ((accL_ok (chL LE i) _).mem x).1 hx
    rw [accL_word] at h1
    obtain ⟨b, hb⟩ := Nat.exists_testBit_of_ne_zero h1
    rw [wordOf_bit] at hb
    simp only [ltF, Bool.and_eq_true, decide_eq_true_eq] at hb
    have h2 := hb.2
    by_cases h : 64 * i + b < LE.length
    · rw [List.getD_eq_getElem?_getD, List.getElem?_eq_getElem h] at h2
      exact hs _ (List.getElem_mem h) x h2
    · rw [List.getD_eq_getElem?_getD, List.getElem?_eq_none (by omega)] at h2
      simp at h2
  refine ⟨by simp, ?_, ?_, ?_, ?_⟩
  · intro r hr x hx
    obtain ⟨i, _, rfl⟩ := List.mem_map.1 hr
    exact hsy i x.1 (List.mem_map.2 ⟨x, hx, rfl⟩)
  · intro r hr
    obtain ⟨i, _, rfl⟩ := List.mem_map.1 hr
    unfold rowL
    rw [List.map_map]
    have h := (accL_ok (chL LE i) (chL LE i).length).nd
    have e : ((fun x : Nat × Nat => x.1) ∘ fun c => (c, (accL (chL LE i) (chL LE i).length).2 c)) = id := rfl
    rw [e, List.map_id]
    exact h
  · intro i hi x hx
    rw [List.getElem_map, List.getElem_range] at hx
    unfold rowL at hx
    obtain ⟨c, _, rfl⟩ := List.mem_map.1 hx
    exact accL_word LE i c
  · intro i hi c _ h
    rw [List.getElem_map, List.getElem_range]
    unfold rowL
    rw [List.map_map]
    refine List.mem_map.2 ⟨c, ((accL_ok (chL LE i) _).mem c).2 ?_, rfl⟩
    rw [accL_word]
    exact h
theorem stepL_len (b : Nat) : ∀ (l : List Nat) (st : List Nat × (Nat → Nat)), (l.foldl (stepL b) st).1.length ≤ st.1.length + l.length
  | [], st => by simp
  | c :: l, st => by
    rw [List.foldl_cons, List.length_cons]
    have h := stepL_len b l (stepL b st c)
    have h2 : (stepL b st c).1.length ≤ st.1.length + 1 := by
      show (if st.2 c = 0 then st.1 ++ [c] else st.1).length ≤ _
      split <;> simp
    omega
theorem accL_len (ch : List (List Nat)) : ∀ k, k ≤ ch.length → (accL ch k).1.length ≤ ((ch.take k).map List.length).sum
  | 0, _ => by simp [accL]
  | k + 1, hk => by
    have h := stepL_len k (ch.getD k []) (accL ch k)
    have h2 := accL_len ch k (by omega)
    rw [sum_take ch (by omega)]
    have e : ch.getD k [] = ch[k] := by rw [List.getD_eq_getElem?_getD, List.getElem?_eq_getElem (by omega)]; rfl
    rw [e] at h
    show ((ch.getD k []).foldl (stepL k) (accL ch k)).1.length ≤ _
    rw [e]
    omega
theorem rowL_len (LE : List (List Nat)) (i : Nat) : (rowL LE i).length ≤ ((chL LE i).map List.length).sum := by
  unfold rowL
  rw [List.length_map]
  have h := accL_len (chL LE i) _ (Nat.le_refl _)
  rw [List.take_length] at h
  exact h
/-- The rows of so many words. -/
def LTs (LE : List (List Nat)) (i : Nat) : List (List (Nat × Nat)) := (List.range i).map (rowL LE)
theorem LTs_succ (LE : List (List Nat)) (i : Nat) : LTs LE (i + 1) = LTs LE i ++ [rowL LE i] := by unfold LTs; rw [List.range_succ, List.map_append]; rfl
theorem LTs_len (LE : List (List Nat)) : ∀ i, (LTs LE i).flatten.length ≤ ((LE.take (64 * i)).map List.length).sum
  | 0 => by simp [LTs]
  | i + 1 => by
    have h1 := LTs_len LE i
    have h2 := rowL_len LE i
    rw [LTs_succ, List.flatten_append, List.length_append, show 64 * (i + 1) = 64 * i + 64 by omega, List.take_add, List.map_append, List.sum_append]
    unfold chL at h2
    simp only [List.flatten_cons, List.flatten_nil, List.append_nil]
    omega
theorem LTs_small (LE : List (List Nat)) (i : Nat) : (LTs LE i).flatten.length ≤ (LE.map List.length).sum := Nat.le_trans (LTs_len LE i) (sum_le LE _)
end Go.Proofs.YtleeedjpccooaaaDoor
