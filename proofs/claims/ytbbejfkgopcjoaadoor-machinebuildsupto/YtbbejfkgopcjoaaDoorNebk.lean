/-
  MxWM, MxXW.
-/
import Derived.Test.YtbbejfkgopcjoaaDoorNebj
namespace Go.Proofs.YtbbejfkgopcjoaaDoor
open Go.RowKit Go.Shelf
/-- A machine in memory. -/
structure Mr where
  lo : Nat
  hi : Nat
  vN : Value
  vO : Value
  NX : List Value
  OU : List Value
  nx : List (List Nat)
  ou : List (List Nat)
def Mr.all (m : Mr) : List Value := m.NX ++ m.OU
def Mr.lot (m : Mr) : List (Value × List Int) := lotQ m.NX m.OU m.nx m.ou
def Mr.In (W : World) (m : Mr) : Prop := MQ W m.lo m.hi m.vN m.vO m.NX m.OU m.nx m.ou
structure Mr.Sz (m : Mr) : Prop where
  n : m.nx.length ≤ 16384
  o : m.ou.length ≤ 16384
  nr : ∀ l ∈ m.nx, l.length ≤ 16384
  our : ∀ l ∈ m.ou, l.length ≤ 10000000
/-- Four of them, one behind another. -/
structure M4 (W1 W9 : World) (a b c d : Mr) : Prop where
  ia : Mr.In W9 a
  ib : Mr.In W9 b
  ic : Mr.In W9 c
  id : Mr.In W9 d
  o0 : W1.heap.size ≤ a.lo
  o1 : a.hi ≤ b.lo
  o2 : b.hi ≤ c.lo
  o3 : c.hi ≤ d.lo
  o4 : d.hi ≤ W9.heap.size
  r : a.lo ≤ a.hi ∧ b.lo ≤ b.hi ∧ c.lo ≤ c.hi ∧ d.lo ≤ d.hi
  sa : a.Sz
  sb : b.Sz
  sc : c.Sz
  sd : d.Sz
  w : Below W1.heap.size W1 W9
theorem Mr.In.all_rng {W : World} {m : Mr} (h : m.In W) : ∀ x ∈ m.all, ∀ g, x.ownBlock = some g → m.lo ≤ g ∧ g < m.hi := fun x hx => h.rng x (List.mem_cons_of_mem _ (List.mem_cons_of_mem _ hx))
theorem apt_cross {W : World} {m m' : Mr} (h : m.In W) (h' : m'.In W) (ho : m.hi ≤ m'.lo) : ∀ x ∈ m.all, ∀ y ∈ m'.all, Apt x y := fun x hx y hy g hg e => by
  have h1 := h.all_rng x hx g hg
  have h2 := h'.all_rng y hy g e
  omega
theorem Mr.In.lot_len {W : World} {m : Mr} (_h : m.In W) (hs : m.Sz) : ∀ x ∈ m.lot, x.2.length ≤ 10000000 := fun x hx => by
  rcases List.mem_append.1 hx with hx | hx
  · have h2 := (List.of_mem_zip hx).2
    obtain ⟨l, hl, e⟩ := List.mem_map.1 h2
    have := hs.nr l hl
    rw [← e, nI_len]
    omega
  · have h2 := (List.of_mem_zip hx).2
    obtain ⟨l, hl, e⟩ := List.mem_map.1 h2
    have := hs.our l hl
    rw [← e, nI_len]
    exact this
theorem Mr.In.all_len {W : World} {m : Mr} (h : m.In W) (hs : m.Sz) : m.NX.length ≤ 16384 ∧ m.OU.length ≤ 16384 := ⟨by rw [h.m.n.len]; exact hs.n, by rw [h.m.o.len]; exact hs.o⟩
section
variable {W1 W9 V : World} {a b c d : Mr}
theorem M4.sz (h : M4 W1 W9 a b c d) : W1.heap.size ≤ a.lo ∧ W1.heap.size ≤ b.lo ∧ W1.heap.size ≤ c.lo ∧ W1.heap.size ≤ d.lo := by
  have h0 := h.o0
  have h1 := h.o1
  have h2 := h.o2
  have h3 := h.o3
  obtain ⟨r1, r2, r3, r4⟩ := h.r
  omega
theorem M4.hi (h : M4 W1 W9 a b c d) : a.hi ≤ W9.heap.size ∧ b.hi ≤ W9.heap.size ∧ c.hi ≤ W9.heap.size ∧ d.hi ≤ W9.heap.size := by
  have h1 := h.o1
  have h2 := h.o2
  have h3 := h.o3
  have h4 := h.o4
  obtain ⟨r1, r2, r3, r4⟩ := h.r
  omega
theorem M4.apart (h : M4 W1 W9 a b c d) : (a.all ++ b.all ++ c.all ++ d.all).Pairwise Apt := by
  have h1 := h.o1
  have h2 := h.o2
  have h3 := h.o3
  obtain ⟨r1, r2, r3, r4⟩ := h.r
  rw [List.pairwise_append, List.pairwise_append, List.pairwise_append]
  refine ⟨⟨⟨h.ia.m.ap, h.ib.m.ap, apt_cross h.ia h.ib h1⟩, h.ic.m.ap, fun x hx => ?_⟩, h.id.m.ap, fun x hx => ?_⟩
  · rcases List.mem_append.1 hx with hx | hx
    · exact apt_cross h.ia h.ic (by omega) x hx
    · exact apt_cross h.ib h.ic (by omega) x hx
  · rcases List.mem_append.1 hx with hx | hx
    · rcases List.mem_append.1 hx with hx | hx
      · exact apt_cross h.ia h.id (by omega) x hx
      · exact apt_cross h.ib h.id (by omega) x hx
    · exact apt_cross h.ic h.id (by omega) x hx
theorem M4.rng (h : M4 W1 W9 a b c d) : ∀ x ∈ a.all ++ b.all ++ c.all ++ d.all, ∀ g, x.ownBlock = some g → g < W9.heap.size := fun x hx g hg => by
  obtain ⟨h1, h2, h3, h4⟩ := h.hi
  rcases List.mem_append.1 hx with hx | hx
  · rcases List.mem_append.1 hx with hx | hx
    · rcases List.mem_append.1 hx with hx | hx
      · have := h.ia.all_rng x hx g hg; omega
      · have := h.ib.all_rng x hx g hg; omega
    · have := h.ic.all_rng x hx g hg; omega
  · have := h.id.all_rng x hx g hg; omega
theorem M4.lone (h : M4 W1 W9 a b c d) {v : Value} (ht : TS W9 V v (a.all ++ b.all ++ c.all ++ d.all)) (hc : 0 < c.nx.length) :
    Calls Tryd.prog 21 #[v] V fun e w' => e = .returned (.bool true) ∧ Hid (Fr W1 W9 w' ∧ KeB [3] V w') := by
  obtain ⟨ps, hps⟩ : ∃ ps, ps = a.lot ++ b.lot ++ c.lot ++ d.lot := ⟨_, rfl⟩
  have hf : ps.map (·.1) = a.all ++ b.all ++ c.all ++ d.all := by
    rw [hps, List.map_append, List.map_append, List.map_append]
    unfold Mr.lot Mr.all
    rw [lotQ_fst h.ia.m, lotQ_fst h.ib.m, lotQ_fst h.ic.m, lotQ_fst h.id.m]
  have hlen : (a.all ++ b.all ++ c.all ++ d.all).length = ps.length := by rw [← hf, List.length_map]
  obtain ⟨na, na'⟩ := h.ia.all_len h.sa
  obtain ⟨nb, nb'⟩ := h.ib.all_len h.sb
  obtain ⟨nc, nc'⟩ := h.ic.all_len h.sc
  obtain ⟨nd, nd'⟩ := h.id.all_len h.sd
  have hcn : c.NX.length = c.nx.length := h.ic.m.n.len
  have hM : ps.length ≤ 1000000 ∧ 0 < ps.length := by
    rw [← hlen]
    unfold Mr.all
    simp only [List.length_append]
    omega
  have how := ht.own
  rw [hlen] at how
  obtain ⟨g, cap, e, hg1, _⟩ := own_form how hM.2
  subst e
  obtain ⟨l1, l2, l3, l4⟩ := h.sz
  have hrow : ∀ x ∈ ps, OwnI V W1.heap.size x.1 x.2 := fun x hx => by
    rw [hps] at hx
    rcases List.mem_append.1 hx with hx | hx
    · rcases List.mem_append.1 hx with hx | hx
      · rcases List.mem_append.1 hx with hx | hx
        · exact lotQ_own (h.ia.m.past ht.bel) l1 x hx
        · exact lotQ_own (h.ib.m.past ht.bel) l2 x hx
      · exact lotQ_own (h.ic.m.past ht.bel) l3 x hx
    · exact lotQ_own (h.id.m.past ht.bel) l4 x hx
  have hP : Ln.Pil4 V W1.heap.size (.slice (some ⟨g, 0, none⟩) ps.length cap) ps [] := by
    refine ⟨?_, ?_, ?_, ?_⟩
    · rw [hf]
      exact owns_lower how h.w.size
    · rw [List.append_nil]; exact hrow
    · rw [List.append_nil]
      have := h.apart
      rw [← hf, List.pairwise_map] at this
      exact this
    · rw [List.append_nil]
      intro x hx q hq hxq
      have e1 : g = q := Option.some.inj hq
      have hx1 : x.1 ∈ ps.map (·.1) := List.mem_map_of_mem hx
      rw [hf] at hx1
      have := h.rng x.1 hx1 q hxq
      omega
  refine (Ln.lone_any g cap W1.heap.size ps.length ps V (Nat.le_trans h.w.size ht.bel.size) hP rfl hM.1 (fun x hx => ?_)).mono ?_
  · rw [hps] at hx
    have key : x.2.length ≤ 10000000 := by
      rcases List.mem_append.1 hx with hx | hx
      · rcases List.mem_append.1 hx with hx | hx
        · rcases List.mem_append.1 hx with hx | hx
          · exact h.ia.lot_len h.sa x hx
          · exact h.ib.lot_len h.sb x hx
        · exact h.ic.lot_len h.sc x hx
      · exact h.id.lot_len h.sd x hx
    omega
  · rintro e w' ⟨rfl, hh⟩
    refine ⟨rfl, hid0 ⟨⟨?_, ?_, h.w.size⟩, hh.out.2⟩⟩
    · exact (h.w.trans (ht.bel.mono h.w.size)).trans hh.out.1
    · exact (KeB.below _ ht.bel).trans (hh.out.2.mono (by simp))
def Mr.tops (m : Mr) : List (Value × List Value) := [(m.vN, m.NX), (m.vO, m.OU)]
theorem M4.stacked (h : M4 W1 W9 a b c d) {X : Nat} (hf : Fr W1 W9 V) (hk : KeB [3] W9 V) (hX : V.heap[X]? = some (.cells #[a.vN, a.vO, b.vN, b.vO, c.vN, c.vO, d.vN, d.vO] 26 (0, 0))) (hXl : W9.heap.size ≤ X) :
    Calls Tryd.prog 23 #[.slice (some ⟨X, 0, none⟩) 8 8] V fun e w' => e = .returned (.bool true) ∧ Hid (Fr W1 W9 w') := by
  obtain ⟨l1, l2, l3, l4⟩ := h.sz
  obtain ⟨u1, u2, u3, u4⟩ := h.hi
  have o1 := h.o1
  have o2 := h.o2
  have o3 := h.o3
  obtain ⟨r1, r2, r3, r4⟩ := h.r
  obtain ⟨na, na'⟩ := h.ia.all_len h.sa
  obtain ⟨nb, nb'⟩ := h.ib.all_len h.sb
  obtain ⟨nc, nc'⟩ := h.ic.all_len h.sc
  obtain ⟨nd, nd'⟩ := h.id.all_len h.sd
  have rgN : ∀ m : Mr, m.In W9 → ∀ g, m.vN.ownBlock = some g → m.lo ≤ g ∧ g < m.hi := fun m hm => hm.rng m.vN (by simp)
  have rgO : ∀ m : Mr, m.In W9 → ∀ g, m.vO.ownBlock = some g → m.lo ≤ g ∧ g < m.hi := fun m hm => hm.rng m.vO (by simp)
  have ow : ∀ m : Mr, m.In W9 → W1.heap.size ≤ m.lo → Lv.OwnV V W1.heap.size m.vN m.NX ∧ Lv.OwnV V W1.heap.size m.vO m.OU := fun m hm hl => ⟨owns_lower (hk.own hm.m.n.outer (by decide)) hl, owns_lower (hk.own hm.m.o.outer (by decide)) hl⟩
  have cr : ∀ m m' : Mr, m.In W9 → m'.In W9 → m.hi ≤ m'.lo → ∀ x ∈ m.tops, ∀ y ∈ m'.tops, ∀ g, x.1.ownBlock = some g → y.1.ownBlock ≠ some g := fun m m' hm hm' ho x hx y hy g hg e => by
    have k1 : m.lo ≤ g ∧ g < m.hi := by
      simp only [Mr.tops, List.mem_cons, List.not_mem_nil, or_false] at hx
      rcases hx with rfl | rfl
      · exact rgN m hm g hg
      · exact rgO m hm g hg
    have k2 : m'.lo ≤ g ∧ g < m'.hi := by
      simp only [Mr.tops, List.mem_cons, List.not_mem_nil, or_false] at hy
      rcases hy with rfl | rfl
      · exact rgN m' hm' g e
      · exact rgO m' hm' g e
    omega
  have self : ∀ m : Mr, m.In W9 → m.tops.Pairwise (fun x y => ∀ g, x.1.ownBlock = some g → y.1.ownBlock ≠ some g) := fun m hm => by
    unfold Mr.tops
    simp only [List.pairwise_cons, List.mem_cons, List.not_mem_nil, or_false, List.Pairwise.nil, and_true]
    refine ⟨fun y hy => ?_, fun y hy => hy.elim⟩
    subst hy
    exact hm.m.ao
  obtain ⟨ps, hps⟩ : ∃ ps, ps = a.tops ++ b.tops ++ c.tops ++ d.tops := ⟨_, rfl⟩
  have hin : ∀ x ∈ ps, Lv.OwnV V W1.heap.size x.1 x.2 ∧ x.2.length ≤ 1000000000 ∧ ∀ g, x.1.ownBlock = some g → g < W9.heap.size := fun x hx => by
    rw [hps] at hx
    simp only [Mr.tops, List.cons_append, List.nil_append, List.mem_cons, List.not_mem_nil, or_false] at hx
    rcases hx with rfl | rfl | rfl | rfl | rfl | rfl | rfl | rfl
    · exact ⟨(ow a h.ia l1).1, by simp only; omega, fun g hg => by have := rgN a h.ia g hg; omega⟩
    · exact ⟨(ow a h.ia l1).2, by simp only; omega, fun g hg => by have := rgO a h.ia g hg; omega⟩
    · exact ⟨(ow b h.ib l2).1, by simp only; omega, fun g hg => by have := rgN b h.ib g hg; omega⟩
    · exact ⟨(ow b h.ib l2).2, by simp only; omega, fun g hg => by have := rgO b h.ib g hg; omega⟩
    · exact ⟨(ow c h.ic l3).1, by simp only; omega, fun g hg => by have := rgN c h.ic g hg; omega⟩
    · exact ⟨(ow c h.ic l3).2, by simp only; omega, fun g hg => by have := rgO c h.ic g hg; omega⟩
    · exact ⟨(ow d h.id l4).1, by simp only; omega, fun g hg => by have := rgN d h.id g hg; omega⟩
    · exact ⟨(ow d h.id l4).2, by simp only; omega, fun g hg => by have := rgO d h.id g hg; omega⟩
  have hpl : ps.length = 8 := by rw [hps]; rfl
  have hP : Lv.Pil4 V W1.heap.size (.slice (some ⟨X, 0, none⟩) 8 8) ps [] := by
    refine ⟨?_, ?_, ?_, ?_⟩
    · rw [hpl, hps]
      exact ⟨rfl, .inr ⟨X, 8, _, rfl, Nat.le_trans h.w.size hXl, hX, Nat.le_refl _, by decide, rfl, rfl⟩⟩
    · rw [List.append_nil]; exact fun x hx => (hin x hx).1
    · rw [List.append_nil, hps, List.pairwise_append, List.pairwise_append, List.pairwise_append]
      refine ⟨⟨⟨self a h.ia, self b h.ib, cr a b h.ia h.ib o1⟩, self c h.ic, fun x hx => ?_⟩, self d h.id, fun x hx => ?_⟩
      · rcases List.mem_append.1 hx with hx | hx
        · exact cr a c h.ia h.ic (by omega) x hx
        · exact cr b c h.ib h.ic (by omega) x hx
      · rcases List.mem_append.1 hx with hx | hx
        · rcases List.mem_append.1 hx with hx | hx
          · exact cr a d h.ia h.id (by omega) x hx
          · exact cr b d h.ib h.id (by omega) x hx
        · exact cr c d h.ic h.id (by omega) x hx
    · rw [List.append_nil]
      intro x hx q hq hxq
      have e1 : X = q := Option.some.inj hq
      have := (hin x hx).2.2 q hxq
      omega
  refine (Lv.stacked_any X 8 W1.heap.size 8 ps V hf.b.size hP hpl (by omega) (fun x hx => (hin x hx).2.1)).mono ?_
  rintro e w' ⟨rfl, hh⟩
  exact ⟨rfl, hid0 ⟨hf.b.trans hh.out.1, hf.k.trans (hh.out.2.mono (by simp)), h.w.size⟩⟩
end
end Go.Proofs.YtbbejfkgopcjoaaDoor
namespace Go.Proofs.YtbbejfkgopcjoaaDoor
open Go.RowKit Go.Shelf
theorem alloc6 (w : World) (A B C D E F : Obj) : ∃ W, W = (((((w.alloc A).alloc B).alloc C).alloc D).alloc E).alloc F ∧ W.heap[w.heap.size]? = some A ∧ W.heap[w.heap.size + 1]? = some B ∧ W.heap[w.heap.size + 2]? = some C ∧ W.heap[w.heap.size + 3]? = some D ∧ W.heap[w.heap.size + 4]? = some E ∧ W.heap[w.heap.size + 5]? = some F ∧ Below w.heap.size w W := by
  obtain ⟨w1, h1⟩ : ∃ w1, w1 = w.alloc A := ⟨_, rfl⟩
  obtain ⟨w2, h2⟩ : ∃ w2, w2 = w1.alloc B := ⟨_, rfl⟩
  obtain ⟨w3, h3⟩ : ∃ w3, w3 = w2.alloc C := ⟨_, rfl⟩
  obtain ⟨w4, h4⟩ : ∃ w4, w4 = w3.alloc D := ⟨_, rfl⟩
  obtain ⟨w5, h5⟩ : ∃ w5, w5 = w4.alloc E := ⟨_, rfl⟩
  obtain ⟨w6, h6⟩ : ∃ w6, w6 = w5.alloc F := ⟨_, rfl⟩
  have s1 : w1.heap.size = w.heap.size + 1 := by rw [h1]; simp
  have s2 : w2.heap.size = w.heap.size + 2 := by rw [h2]; simp [s1]
  have s3 : w3.heap.size = w.heap.size + 3 := by rw [h3]; simp [s2]
  have s4 : w4.heap.size = w.heap.size + 4 := by rw [h4]; simp [s3]
  have s5 : w5.heap.size = w.heap.size + 5 := by rw [h5]; simp [s4]
  have b1 : Below w.heap.size w w1 := by rw [h1]; exact below_alloc1 _ _
  have b2 : Below w1.heap.size w1 w2 := by rw [h2]; exact below_alloc1 _ _
  have b3 : Below w2.heap.size w2 w3 := by rw [h3]; exact below_alloc1 _ _
  have b4 : Below w3.heap.size w3 w4 := by rw [h4]; exact below_alloc1 _ _
  have b5 : Below w4.heap.size w4 w5 := by rw [h5]; exact below_alloc1 _ _
  have b6 : Below w5.heap.size w5 w6 := by rw [h6]; exact below_alloc1 _ _
  have r1 : w1.heap[w.heap.size]? = some A := by rw [h1]; exact heap_alloc_new w A
  have r2 : w2.heap[w.heap.size + 1]? = some B := by rw [h2, ← s1]; exact heap_alloc_new w1 B
  have r3 : w3.heap[w.heap.size + 2]? = some C := by rw [h3, ← s2]; exact heap_alloc_new w2 C
  have r4 : w4.heap[w.heap.size + 3]? = some D := by rw [h4, ← s3]; exact heap_alloc_new w3 D
  have r5 : w5.heap[w.heap.size + 4]? = some E := by rw [h5, ← s4]; exact heap_alloc_new w4 E
  have r6 : w6.heap[w.heap.size + 5]? = some F := by rw [h6, ← s5]; exact heap_alloc_new w5 F
  have on : ∀ {V V' : World} {k : Nat} {o : Obj}, Below V.heap.size V V' → V.heap[k]? = some o → V'.heap[k]? = some o := fun hb h => (hb.block _ (Array.getElem?_eq_some_iff.1 h).1).trans h
  refine ⟨w6, by rw [h6, h5, h4, h3, h2, h1], on b6 (on b5 (on b4 (on b3 (on b2 r1)))), on b6 (on b5 (on b4 (on b3 r2))), on b6 (on b5 (on b4 r3)), on b6 (on b5 r4), on b6 r5, r6, Below.later b1 (Below.later b2 (Below.later b3 (Below.later b4 (Below.later b5 b6))))⟩
/-- The pattern of one place. -/
def ltP : Pr := ⟨[[0]], [0], [0], [[]], false, false⟩
theorem ltP_ok : ∃ b, bldF [ltP] 2 9 = .ok b := by
  have h : (match bldF [ltP] 2 9 with | .ok _ => true | .error _ => false) = true := by kernel_rfl
  cases hq : bldF [ltP] 2 9 with
  | ok b => exact ⟨b, rfl⟩
  | error i => rw [hq] at h; cases h
theorem ltP_in : BIn [ltP] 2 9 := ⟨⟨by decide, by decide, by decide, by decide⟩, by decide, by decide, by decide, by decide⟩
theorem ltP_e (A : Nat → Addr) : bE A [ltP] 2 9 = .nilIface := by
  obtain ⟨b, h⟩ := ltP_ok
  unfold bE
  rw [h]
theorem ltP_n : 0 < (bX [ltP] 2 9).1.length := by
  obtain ⟨b, h⟩ := ltP_ok
  unfold bX
  rw [h]
  have := (bldF_ok h).val.2.2.1
  simp only
  omega
theorem ia_one {W : World} {s : Nat} (h : W.heap[s]? = some (.cells #[.int .i64 0] 3 (0, 0))) : IA W (some ⟨s, 0, none⟩) [0] := ⟨fun k hk => ⟨s, 0, rfl, (Array.getElem?_eq_some_iff.1 h).1, by
  have : k = 0 := by simp at hk; omega
  subst this
  rw [cell_of_row _ _ _ _ _ _ h]; rfl⟩⟩
theorem ltP_z : PrZ ltP := ⟨by decide, by decide, by decide, by decide, by decide, by decide⟩
theorem letter_mem {W : World} {s : Nat} (h1 : W.heap[s]? = some (.cells #[.int .i64 0] 3 (0, 0))) (h2 : W.heap[s + 1]? = some (.cells #[.slice (some ⟨s, 0, none⟩) 1 1] 34 (0, 0))) (h3 : W.heap[s + 2]? = some (.cells #[.int .i64 0] 3 (0, 0))) (h4 : W.heap[s + 3]? = some (.cells #[.int .i64 0] 3 (0, 0))) (h5 : W.heap[s + 4]? = some (.cells #[.slice none 0 0] 34 (0, 0)))
    (h6 : W.heap[s + 5]? = some (.cells #[.slice (some ⟨s + 1, 0, none⟩) 1 1, .slice (some ⟨s + 2, 0, none⟩) 1 1, .slice (some ⟨s + 3, 0, none⟩) 1 1, .slice (some ⟨s + 4, 0, none⟩) 1 1, .bool false, .bool false] 48 (0, 0))) : PaI W (some ⟨s + 5, 0, none⟩) [ltP] := ⟨fun k hk => by
  have : k = 0 := by simp at hk; omega
  subst this
  refine ⟨s + 5, 0, rfl, (Array.getElem?_eq_some_iff.1 h6).1, some ⟨s + 1, 0, none⟩, some ⟨s + 2, 0, none⟩, some ⟨s + 3, 0, none⟩, some ⟨s + 4, 0, none⟩, 1, 1, 1, 1, by rw [cell_of_row _ _ _ _ _ _ h6]; rfl, by rw [cell_of_row _ _ _ _ _ _ h6]; rfl, by rw [cell_of_row _ _ _ _ _ _ h6]; rfl, by rw [cell_of_row _ _ _ _ _ _ h6]; rfl, by rw [cell_of_row _ _ _ _ _ _ h6]; rfl, by rw [cell_of_row _ _ _ _ _ _ h6]; rfl, (fun e => nomatch e), ⟨fun k hk => ?_⟩, ia_one h3, ia_one h4, ⟨fun k hk => ?_⟩, ltP_z.l1, ltP_z.l2, ltP_z.l3, ltP_z.l4, ltP_z.r1, ltP_z.r4⟩
  · have : k = 0 := by simp [ltP] at hk; omega
    subst this
    exact ⟨s + 1, 0, rfl, (Array.getElem?_eq_some_iff.1 h2).1, some ⟨s, 0, none⟩, 1, by rw [cell_of_row _ _ _ _ _ _ h2]; rfl, ia_one h1⟩
  · have : k = 0 := by simp [ltP] at hk; omega
    subst this
    exact ⟨s + 4, 0, rfl, (Array.getElem?_eq_some_iff.1 h5).1, none, 0, by rw [cell_of_row _ _ _ _ _ _ h5]; rfl, ⟨fun k hk => absurd hk (Nat.not_lt_zero _)⟩⟩⟩
set_option maxRecDepth 10000 in
set_option maxHeartbeats 1600000 in
theorem letter_any (w : World) :
    Calls Tryd.prog 17 #[] w fun e w' => ∃ G : Nat, e = .returned (.slice (some ⟨G, 0, none⟩) 1 1) ∧ Hid (PaI w' (some ⟨G, 0, none⟩) [ltP] ∧ Below w.heap.size w w') := by
  obtain ⟨s, hs⟩ : ∃ s, s = w.heap.size := ⟨_, rfl⟩
  obtain ⟨W, hW, h1, h2, h3, h4, h5, h6, hb⟩ := alloc6 w (.cells #[.int .i64 0] 3) (.cells #[.slice (some ⟨w.heap.size, 0, none⟩) 1 1] 34) (.cells #[.int .i64 0] 3) (.cells #[.int .i64 0] 3) (.cells #[.slice none 0 0] 34) (.cells #[.slice (some ⟨w.heap.size + 1, 0, none⟩) 1 1, .slice (some ⟨w.heap.size + 2, 0, none⟩) 1 1, .slice (some ⟨w.heap.size + 3, 0, none⟩) 1 1, .slice (some ⟨w.heap.size + 4, 0, none⟩) 1 1, .bool false, .bool false] 48)
  have HM : Hid (PaI W (some ⟨w.heap.size + 5, 0, none⟩) [ltP] ∧ Below w.heap.size w W) := hid0 ⟨letter_mem h1 h2 h3 h4 h5 h6, hb⟩
  have hfold := hW.symm
  clear hW h1 h2 h3 h4 h5 h6 hb hs
  go_enter Tryd.func17, Tryd.ntmps17
  go_wp2
  go_ret
  exact ⟨_, rfl, HM⟩
end Go.Proofs.YtbbejfkgopcjoaaDoor
