/-
  McSM.
-/
import Derived.Test.YtbbejfkgopcjoaaDoorNeaw
import Derived.Test.YtbbejfkgopcjoaaDoorNeax
namespace Go.Proofs.YtbbejfkgopcjoaaDoor
open Go.RowKit Go.Shelf
/-- Two refusals, each its own object; the table. -/
structure EnvM (w : World) (A : Nat → Addr) : Prop where
  t : EnvT w A
  ne : A 0 ≠ A 2
  b0 : ∃ c t, w.heap[(A 0).block]? = some (.cells c t (0, 0))
  b2 : ∃ c t, w.heap[(A 2).block]? = some (.cells c t (0, 0))
theorem EnvM.past {w w' : World} {A : Nat → Addr} (h : EnvM w A) (hb : Below w.heap.size w w') : EnvM w' A := ⟨h.t.past hb, h.ne, by
  obtain ⟨c, t, hc⟩ := h.b0
  exact ⟨c, t, (hb.block _ (Array.getElem?_eq_some_iff.1 hc).1).trans hc⟩, by
  obtain ⟨c, t, hc⟩ := h.b2
  exact ⟨c, t, (hb.block _ (Array.getElem?_eq_some_iff.1 hc).1).trans hc⟩⟩
/-- Lists made, as lists read. -/
theorem RwsM.rwa {W : World} {lo : Nat} {v : Value} {VS : List Value} {L : List (List Nat)} (h : RwsM W lo v VS L) : ∃ a c, v = .slice a L.length c ∧ RwA W a (L.map nI) := by
  have h0 := h.outer
  rcases h.outer.2 with ⟨rfl, hn⟩ | ⟨g, cap, cur, rfl, hg, hr, hc, _⟩
  · have e : L.length = 0 := by rw [← h.len]; exact hn
    refine ⟨none, 0, by rw [e], ⟨fun k hk => ?_⟩⟩
    rw [List.length_map] at hk
    omega
  · refine ⟨some ⟨g, 0, none⟩, cap, by rw [h.len], ⟨fun k hk => ?_⟩⟩
    rw [List.length_map] at hk
    obtain ⟨x, e1, e2⟩ := h.row k hk
    obtain ⟨a1, c1, e3, e4⟩ := e2.ia
    refine ⟨g, 0, rfl, (World.ownsRow.lt h0 g rfl).2, a1, c1, ?_, ?_⟩
    · have q := World.ownsRow.cellAt h0 k (by rw [h.len, Nat.mul_one]; exact hk)
      rw [Nat.zero_add, q, e1, e3, List.getElem_map]
    · rw [List.getElem_map]; exact e4
/-- What Build says: a refusal's number or a machine. -/
def bldF (rs : List Pr) (sy most : Int) : Except Nat Bs :=
  if sy < 1 ∨ 16384 < sy ∨ most < 1 ∨ 16384 < most then .error 0
  else match chkA rs sy with
    | some i => .error i
    | none => match mAll rs sy.toNat most.toNat with
      | none => .error 2
      | some b => .ok b
/-- What the input is bounded by. -/
structure PrB (rs : List Pr) : Prop where
  len : rs.length ≤ 10000000
  pl : plN (rs.map toPt) (rs.map toPt).length ≤ 10000000
  fo : foN (rs.map toPt) (rs.map toPt).length ≤ 900000000
  le : leN (rs.map toPt) (rs.map toPt).length ≤ 900000000
/-- What may be said of a machine that was built. -/
structure BldV (rs : List Pr) (sy most : Int) (b : Bs) : Prop where
  s1 : 1 ≤ sy
  s2 : sy ≤ 16384
  m1 : 1 ≤ most
  m2 : most ≤ 16384
  ok : ∀ r ∈ rs, PrOk r sy.toNat
  all : mAll rs sy.toNat most.toNat = some b
  chk : chkA rs sy = none
theorem bldF_ok {rs : List Pr} {sy most : Int} {b : Bs} (h : bldF rs sy most = .ok b) : BldV rs sy most b := by
  unfold bldF at h
  split at h
  · cases h
  · rename_i hc
    split at h
    · cases h
    · rename_i hj
      split at h
      · cases h
      · rename_i b' hm
        injection h with h
        subst h
        refine ⟨by omega, by omega, by omega, by omega, fun r hr => ?_, hm, hj⟩
        unfold chkA at hj
        rw [List.findSome?_eq_none_iff] at hj
        have q := hj r hr
        have e : (sy.toNat : Int) = sy := by omega
        rw [← e] at q
        exact Pr.ok q
theorem chkA_no {rs : List Pr} {sy : Int} {i : Nat} (h : chkA rs sy = some i) : i = 0 ∨ i = 2 := by
  unfold chkA at h
  obtain ⟨r, _, hr⟩ := List.exists_of_findSome?_eq_some h
  unfold Pr.chk chkP at hr
  split at hr
  · injection hr with hr; exact .inr hr.symm
  · split at hr
    · injection hr with hr; exact .inl hr.symm
    · split at hr
      · cases hr
      · injection hr with hr; exact .inl hr.symm
/-- Its numbers, as Check and Run ask them. -/
theorem BldV.val {rs : List Pr} {sy most : Int} {b : Bs} (h : BldV rs sy most b) : (∀ l ∈ b.nx, (l.length : Int) = sy ∧ ∀ x ∈ l, x < b.nx.length) ∧ b.ou.length = b.nx.length ∧ 1 ≤ b.nx.length ∧ (b.nx.length : Int) ≤ most ∧ (b.nx.length : Int) * sy ≤ 4194304 ∧ ∀ o ∈ b.ou, Ris rs.length o := by
  have h1 := h.s1
  have h2 := h.s2
  have h3 := h.m1
  obtain ⟨q1, q2⟩ := bAll_val h.all
  have q3 := q1.few
  have hl : b.nx.length ≤ min most.toNat (4194304 / sy.toNat) := by rw [q2]; exact q3
  have hm1 : b.nx.length ≤ most.toNat := Nat.le_trans hl (Nat.min_le_left _ _)
  have hm2 : b.nx.length ≤ 4194304 / sy.toNat := Nat.le_trans hl (Nat.min_le_right _ _)
  have hmul : b.nx.length * sy.toNat ≤ 4194304 := Nat.le_trans (Nat.mul_le_mul_right _ hm2) (Nat.div_mul_le_self _ _)
  refine ⟨fun l hl => ?_, ?_, by omega, by omega, ?_, mAll_ris h.ok h.all⟩
  · obtain ⟨r1, r2⟩ := q1.row l hl
    refine ⟨by omega, fun x hx => ?_⟩
    have := (r2 x hx).2
    omega
  · rw [q1.ou, q2]
  · have e : sy = (sy.toNat : Int) := by omega
    rw [e]
    have : ((b.nx.length * sy.toNat : Nat) : Int) ≤ 4194304 := by omega
    rw [Int.natCast_mul] at this
    exact this
theorem Ris.len {n : Nat} : ∀ {l : List Nat}, Ris n l → l.length ≤ n := by
  intro l h
  have : ∀ (l : List Nat) (lo : Nat), l.Pairwise (· < ·) → (∀ x ∈ l, lo ≤ x ∧ x < n) → lo ≤ n → lo + l.length ≤ n := by
    intro l
    induction l with
    | nil => intro lo _ _ h; simpa using h
    | cons y l ih =>
      intro lo hp hx hlo
      have hy := hx y List.mem_cons_self
      have := ih (y + 1) (List.pairwise_cons.1 hp).2 (fun x hx' => by
        have h1 := (List.pairwise_cons.1 hp).1 x hx'
        have h2 := hx x (List.mem_cons_of_mem _ hx')
        omega) (by omega)
      rw [List.length_cons]
      omega
  have := this l 0 h.1 (fun x hx => ⟨Nat.zero_le _, h.2 x hx⟩) (Nat.zero_le _)
  omega
theorem Ris.rise {n : Nat} {l : List Nat} (h : Ris n l) : riseF (n : Int) 0 (nI l) = true := by
  have : ∀ (l : List Nat) (lo : Nat), l.Pairwise (· < ·) → (∀ x ∈ l, lo ≤ x ∧ x < n) → riseF (n : Int) (lo : Int) (nI l) = true := by
    intro l
    induction l with
    | nil => intro lo _ _; rfl
    | cons y l ih =>
      intro lo hp hx
      have hy := hx y List.mem_cons_self
      have q := ih (y + 1) (List.pairwise_cons.1 hp).2 (fun x hx' => by
        have h1 := (List.pairwise_cons.1 hp).1 x hx'
        have h2 := hx x (List.mem_cons_of_mem _ hx')
        omega)
      have e : nI (y :: l) = (y : Int) :: nI l := rfl
      rw [e, riseF, Bool.and_eq_true, Bool.and_eq_true]
      refine ⟨⟨by simp; omega, by simp; omega⟩, ?_⟩
      have e2 : ((y + 1 : Nat) : Int) = (y : Int) + 1 := by omega
      rw [← e2]
      exact q
  exact this l 0 h.1 (fun x hx => ⟨Nat.zero_le _, h.2 x hx⟩)
end Go.Proofs.YtbbejfkgopcjoaaDoor
