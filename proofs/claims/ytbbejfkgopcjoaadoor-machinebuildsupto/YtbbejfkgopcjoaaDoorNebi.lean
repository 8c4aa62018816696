/-
  MxQW, MxRW, MxNW, MxOM.
-/
import Derived.Test.YtbbejfkgopcjoaaDoorNebg
import Derived.Test.YtbbejfkgopcjoaaDoorNeay
import Derived.Test.YtbbejfkgopcjoaaDoorNebh
import Derived.Test.YtbbejfkgopcjoaaDoorNebb
import Derived.Test.YtbbejfkgopcjoaaDoorNeaz
namespace Go.Proofs.YtbbejfkgopcjoaaDoor
open Go.RowKit Go.Shelf
set_option maxRecDepth 10000 in
set_option maxHeartbeats 3200000 in
theorem refBuild_fault (aP : Option Addr) (cP : Nat) (rs : List Pr) (sy most f : Int) (w : World) (hP : PaI w aP rs) (hrl : rs.length ≤ 10000000) (hf : (if sy < 1 ∨ 16384 < sy ∨ most < 1 ∨ 16384 < most then 1 else numP (chkA rs sy)) = f) (hf0 : f ≠ 0) :
    Calls Tryd.prog 18 #[.slice aP rs.length cP, .int .i64 sy, .int .i64 most] w fun e w' => e = .returned (.tuple #[.agg #[.int .i64 0, .slice none 0 0, .slice none 0 0], .int .i64 f]) ∧ Hid (Below w.heap.size w w') := by
  obtain ⟨n, hn⟩ : ∃ x, x = rs.length := ⟨_, rfl⟩
  obtain ⟨w1, hw1⟩ : ∃ w1, w1 = w.alloc (.cells #[.int .i64 0, .slice none 0 0, .slice none 0 0] 28) := ⟨_, rfl⟩
  have hb1 : Below w.heap.size w w1 := by rw [hw1]; exact (Below.refl _ _).alloc (Nat.le_refl _) _
  have hr1 : w1.heap[w.heap.size]? = some (.cells #[.int .i64 0, .slice none 0 0, .slice none 0 0] 28 (0, 0)) := by rw [hw1]; exact heap_alloc_new w _
  have HFa : Hid (Calls Tryd.prog 38 #[.slice aP n cP, .int .i64 sy, .int .i64 most] w1 fun e w' => e = .returned (.int .i64 f) ∧ Hid (Below w1.heap.size w1 w')) := hid0 (by
    have h := faultD_any aP cP rs sy most w1 (hP.past hb1) hrl
    rw [hf, ← hn] at h
    exact h)
  have HL : Hid (∀ V, Below w1.heap.size w1 V → ∃ v1 v2 v3, LaidM V v1 v2 v3 w.heap.size (.int .i64 0) (.slice none 0 0) (.slice none 0 0) ∧ Below w.heap.size w v3) := hid0 (fun V hV => by
    obtain ⟨v1, v2, v3, hl⟩ := laidM (.int .i64 0) (.slice none 0 0) (.slice none 0 0) ((hV.block _ (Array.getElem?_eq_some_iff.1 hr1).1).trans hr1)
    have h := Below.later hb1 hV
    exact ⟨v1, v2, v3, hl, h.trans (hl.only.below h.size (fun k hk => by rw [hk]; exact Nat.le_refl _))⟩)
  rw [← hn] at hrl ⊢
  have q1 := hw1.symm
  clear hw1 hb1 hr1 hP hn hf
  go_enter Tryd.func18, Tryd.ntmps18
  go_wp2_with (go_at_call 38; go_loud ((refine HFa.out.mono ?_; rintro e w2 ⟨rfl, H2⟩; clear HFa; obtain ⟨v1, v2, v3, hl, hbl⟩ := HL.out w2 H2.out; have HF := hid0 hbl; have g1 := hl.g1; have g2 := hl.g2; have g3 := hl.g3; obtain ⟨z0, z1, z2⟩ := hl.z; have a1 := hl.a1; have a2 := hl.a2; have f0 := hl.f0; have f1 := hl.f1; have f2 := hl.f2; have HC := hid0 hl.c; clear hl hbl q1)))
  obtain ⟨c0, c1, c2⟩ := HC.out
  (try simp only [Exit.inBlock, Exit.then])
  refine bodyPost_ret (by simp [results, Tryd.results18, go_sem, c0, c1, c2]; try rfl) rfl ?_
  exact ⟨rfl, HF⟩
theorem refBuild_err {rs : List Pr} {sy most : Int} {aP : Option Addr} {cP : Nat} {w : World} {i : Nat} (h : bldF rs sy most = .error i) (hP : PaI w aP rs) (hB : PrB rs) :
    Calls Tryd.prog 18 #[.slice aP rs.length cP, .int .i64 sy, .int .i64 most] w fun e w' => e = .returned (.tuple #[.agg #[.int .i64 0, .slice none 0 0, .slice none 0 0], .int .i64 ((i : Int) + 1)]) ∧ Hid (Below w.heap.size w w') := by
  unfold bldF at h
  split at h
  · rename_i hc
    injection h with h
    subst h
    exact refBuild_fault aP cP rs sy most 1 w hP hB.len (if_pos hc) (by decide)
  · rename_i hc
    split at h
    · rename_i j hj
      injection h with h
      subst h
      have := chkA_no hj
      refine refBuild_fault aP cP rs sy most _ w hP hB.len ?_ (by omega)
      rw [if_neg hc, hj]
      rcases this with rfl | rfl <;> rfl
    · rename_i hj
      split at h
      · rename_i hm
        injection h with h
        subst h
        have hok : ∀ r ∈ rs, PrOk r sy.toNat := fun r hr => by
          have hj2 := hj
          unfold chkA at hj2
          rw [List.findSome?_eq_none_iff] at hj2
          have q := hj2 r hr
          have e : (sy.toNat : Int) = sy := by omega
          rw [← e] at q
          exact Pr.ok q
        have e1 : (sy.toNat : Int) = sy := by omega
        have e2 : (most.toNat : Int) = most := by omega
        have hb := buildD_any aP cP rs sy.toNat most.toNat w hP hB.len hok (by omega) (by omega) (by omega) (by omega) (by rw [e1]; exact hj)
        rw [e1, e2] at hb
        refine hb.mono ?_
        rintro e w' ⟨q1, q2⟩
        rw [bldR_all hok (by omega) (by omega) (by omega) (by omega) hB.pl, hm] at q2
        exact ⟨q2, hid0 q1⟩
      · cases h
theorem refBuild_ok {rs : List Pr} {sy most : Int} {aP : Option Addr} {cP : Nat} {w : World} {b : Bs} (h : bldF rs sy most = .ok b) (hP : PaI w aP rs) (hB : PrB rs) :
    Calls Tryd.prog 18 #[.slice aP rs.length cP, .int .i64 sy, .int .i64 most] w fun e w' => ∃ aN aO cN cO, e = .returned (.tuple #[.agg #[.int .i64 0, .slice aN b.nx.length cN, .slice aO b.ou.length cO], .int .i64 0]) ∧ Hid (RwA w' aN (b.nx.map nI) ∧ RwA w' aO (b.ou.map nI) ∧ Below w.heap.size w w') := by
  have hv := bldF_ok h
  have e1 : (sy.toNat : Int) = sy := by have := hv.s1; omega
  have e2 : (most.toNat : Int) = most := by have := hv.m1; omega
  have hs1 := hv.s1
  have hs2 := hv.s2
  have hm1 := hv.m1
  have hm2 := hv.m2
  have hb := buildD_any aP cP rs sy.toNat most.toNat w hP hB.len hv.ok (by omega) (by omega) (by omega) (by omega) (by rw [e1]; exact hv.chk)
  rw [e1, e2] at hb
  refine hb.mono ?_
  rintro e w' ⟨q1, q2⟩
  rw [bldR_all hv.ok (by omega) (by omega) (by omega) (by omega) hB.pl, hv.all] at q2
  obtain ⟨vN, vO, NX, OU, q3, q4, q5, _⟩ := q2
  obtain ⟨aN, cN, f1, f2⟩ := q4.rwa
  obtain ⟨aO, cO, f3, f4⟩ := q5.rwa
  subst f1 f3
  exact ⟨aN, aO, cN, cO, q3, hid0 ⟨f2, f4, q1⟩⟩
end Go.Proofs.YtbbejfkgopcjoaaDoor
namespace Go.Proofs.YtbbejfkgopcjoaaDoor
open Go.RowKit Go.Shelf
/-- The eleven refusals and the table. -/
structure EnvA (w : World) (A : Nat → Addr) : Prop where
  s : Sents w A
  tab : TabAt 11 Lib.deBruijn64tab w
  tl : 11 < w.heap.size
theorem EnvA.past {w w' : World} {A : Nat → Addr} (h : EnvA w A) (hb : Below w.heap.size w w') : EnvA w' A := ⟨h.s.below hb, fun j hj => (hb.cell (p := ⟨11, j, none⟩) h.tl).trans (h.tab j hj), Nat.lt_of_lt_of_le h.tl hb.size⟩
/-- What is handed to Build. -/
structure BIn (rs : List Pr) (sy most : Int) : Prop where
  bnd : PrB rs
  s63 : sy ≤ 9223372036854775807
  s64 : -9223372036854775808 ≤ sy
  m63 : most ≤ 9223372036854775807
  m64 : -9223372036854775808 ≤ most
def bX (rs : List Pr) (sy most : Int) : List (List Nat) × List (List Nat) := match bldF rs sy most with | .error _ => ([], []) | .ok b => (b.nx, b.ou)
def bE (A : Nat → Addr) (rs : List Pr) (sy most : Int) : Value := match bldF rs sy most with | .error i => .iface 157 (.pointer (some (A i))) | .ok _ => .nilIface
def bC (rs : List Pr) (sy most : Int) : Int := match bldF rs sy most with | .error i => (i : Int) + 1 | .ok _ => 0
theorem bldF_num {rs : List Pr} {sy most : Int} {i : Nat} (h : bldF rs sy most = .error i) : i = 0 ∨ i = 2 := by
  unfold bldF at h
  split at h
  · injection h with h; exact .inl h.symm
  · split at h
    · rename_i j hj
      injection h with h
      subst h
      exact chkA_no hj
    · split at h
      · injection h with h; exact .inr h.symm
      · cases h
/-- A machine's lists, in blocks from lo on. -/
structure MLs (W : World) (lo : Nat) (vN vO : Value) (NX OU : List Value) (nx ou : List (List Nat)) : Prop where
  n : RwsM W lo vN NX nx
  o : RwsM W lo vO OU ou
  ap : (NX ++ OU).Pairwise Apt
  ao : Apt vN vO
theorem RwsM.lower {W : World} {lo b : Nat} {v : Value} {VS : List Value} {L : List (List Nat)} (h : RwsM W lo v VS L) (hb : b ≤ lo) : RwsM W b v VS L := ⟨owns_lower h.outer hb, h.len, fun i hi => by
  obtain ⟨x, e1, e2⟩ := h.row i hi
  exact ⟨x, e1, owns_lower e2 hb⟩⟩
theorem MLs.past {W W' : World} {lo : Nat} {vN vO : Value} {NX OU : List Value} {nx ou : List (List Nat)} (h : MLs W lo vN vO NX OU nx ou) (hb : Below W.heap.size W W') : MLs W' lo vN vO NX OU nx ou := ⟨h.n.keB (KeB.below [] hb) (by simp) (by simp), h.o.keB (KeB.below [] hb) (by simp) (by simp), h.ap, h.ao⟩
theorem apt_nil (v : Value) : Apt v (.slice none 0 0) := fun _ _ e => by cases e
theorem bX_sz {rs : List Pr} {sy most : Int} (hB : PrB rs) : (bX rs sy most).1.length ≤ 16384 ∧ (bX rs sy most).2.length ≤ 16384 ∧ (∀ l ∈ (bX rs sy most).1, l.length ≤ 16384) ∧ ∀ l ∈ (bX rs sy most).2, l.length ≤ 10000000 := by
  unfold bX
  cases hq : bldF rs sy most with
  | error i => simp
  | ok b =>
    have hv := bldF_ok hq
    obtain ⟨v1, v2, v3, v4, v5, v6⟩ := hv.val
    have hs2 := hv.s2
    have hm2 := hv.m2
    simp only
    refine ⟨by omega, by omega, fun l hl => by have := (v1 l hl).1; omega, fun l hl => by have := (v6 l hl).len; have := hB.len; omega⟩
theorem build_m {A : Nat → Addr} {rs : List Pr} {sy most : Int} {a : Option Addr} {c : Nat} {w : World} (hp : PaI w a rs) (he : EnvA w A) (hi : BIn rs sy most) :
    Calls Tryd.prog 9 #[.slice a rs.length c, .int .i64 sy, .int .i64 most] w fun e w' => ∃ vN vO NX OU, e = .returned (.tuple #[.agg #[.int .i64 0, vN, vO], bE A rs sy most]) ∧ Hid (MLs w' w.heap.size vN vO NX OU (bX rs sy most).1 (bX rs sy most).2 ∧ Below w.heap.size w w') := by
  refine (Build_any A rs sy most a c w hp ⟨he.s.c0, he.s.c2⟩ he.tab hi.s63 hi.s64 hi.m63 hi.m64 hi.bnd.len hi.bnd.pl hi.bnd.fo hi.bnd.le).mono ?_
  rintro e w' ⟨q1, q2⟩
  have hz : MLs w' w.heap.size (.slice none 0 0) (.slice none 0 0) [] [] [] [] := ⟨RwsM.nil _ _, RwsM.nil _ _, List.Pairwise.nil, apt_nil _⟩
  unfold bE bX bldF
  split at q2
  · rename_i hc
    rw [if_pos hc]
    exact ⟨_, _, [], [], q2, hid0 ⟨hz, q1⟩⟩
  · rename_i hc
    rw [if_neg hc]
    split at q2
    · rename_i i hj
      simp only [hj]
      exact ⟨_, _, [], [], q2, hid0 ⟨hz, q1⟩⟩
    · rename_i hj
      simp only [hj]
      split at q2
      · rename_i hm
        simp only [hm]
        exact ⟨_, _, [], [], q2, hid0 ⟨hz, q1⟩⟩
      · rename_i b hm
        simp only [hm]
        obtain ⟨lo, vN, vO, NX, OU, hlo, e1, e2, e3, e4, e5⟩ := q2
        exact ⟨vN, vO, NX, OU, e1, hid0 ⟨⟨e2.lower hlo, e3.lower hlo, e4, e5⟩, q1⟩⟩
/-- A machine's lists as they are read. -/
structure MRd (W : World) (aN aO : Option Addr) (nx ou : List (List Nat)) : Prop where
  n : RwA W aN (nx.map nI)
  o : RwA W aO (ou.map nI)
theorem MRd.past {W W' : World} {aN aO : Option Addr} {nx ou : List (List Nat)} (h : MRd W aN aO nx ou) (hb : Below W.heap.size W W') : MRd W' aN aO nx ou := ⟨h.n.past hb, h.o.past hb⟩
theorem MLs.rd {W : World} {lo : Nat} {vN vO : Value} {NX OU : List Value} {nx ou : List (List Nat)} (h : MLs W lo vN vO NX OU nx ou) : ∃ aN aO cN cO, vN = .slice aN nx.length cN ∧ vO = .slice aO ou.length cO ∧ MRd W aN aO nx ou := by
  obtain ⟨aN, cN, e1, r1⟩ := h.n.rwa
  obtain ⟨aO, cO, e2, r2⟩ := h.o.rwa
  exact ⟨aN, aO, cN, cO, e1, e2, r1, r2⟩
theorem build_r {A : Nat → Addr} {rs : List Pr} {sy most : Int} {a : Option Addr} {c : Nat} {w : World} (hp : PaI w a rs) (he : EnvA w A) (hi : BIn rs sy most) :
    Calls Tryd.prog 9 #[.slice a rs.length c, .int .i64 sy, .int .i64 most] w fun e w' => ∃ aN aO cN cO, e = .returned (.tuple #[.agg #[.int .i64 0, .slice aN (bX rs sy most).1.length cN, .slice aO (bX rs sy most).2.length cO], bE A rs sy most]) ∧ Hid (MRd w' aN aO (bX rs sy most).1 (bX rs sy most).2 ∧ Below w.heap.size w w') := (build_m hp he hi).mono (fun e w' ⟨vN, vO, NX, OU, e1, h⟩ => by
  obtain ⟨aN, aO, cN, cO, rfl, rfl, h3⟩ := h.out.1.rd
  exact ⟨aN, aO, cN, cO, e1, hid0 ⟨h3, h.out.2⟩⟩)
theorem refBuild_r {rs : List Pr} {sy most : Int} {a : Option Addr} {c : Nat} {w : World} (hp : PaI w a rs) (hi : BIn rs sy most) :
    Calls Tryd.prog 18 #[.slice a rs.length c, .int .i64 sy, .int .i64 most] w fun e w' => ∃ aN aO cN cO, e = .returned (.tuple #[.agg #[.int .i64 0, .slice aN (bX rs sy most).1.length cN, .slice aO (bX rs sy most).2.length cO], .int .i64 (bC rs sy most)]) ∧ Hid (MRd w' aN aO (bX rs sy most).1 (bX rs sy most).2 ∧ Below w.heap.size w w') := by
  unfold bX bC
  cases hq : bldF rs sy most with
  | error i =>
    refine (refBuild_err hq hp hi.bnd).mono ?_
    rintro e w' ⟨rfl, h⟩
    exact ⟨none, none, 0, 0, rfl, hid0 ⟨⟨⟨fun k hk => absurd hk (Nat.not_lt_zero _)⟩, ⟨fun k hk => absurd hk (Nat.not_lt_zero _)⟩⟩, h.out⟩⟩
  | ok b =>
    refine (refBuild_ok hq hp hi.bnd).mono ?_
    rintro e w' ⟨aN, aO, cN, cO, rfl, h⟩
    exact ⟨aN, aO, cN, cO, rfl, hid0 ⟨⟨h.out.1, h.out.2.1⟩, h.out.2.2⟩⟩
theorem num_b {A : Nat → Addr} (rs : List Pr) (sy most : Int) {w : World} (he : EnvA w A) :
    Calls Tryd.prog 19 #[bE A rs sy most] w fun e w' => e = .returned (.int .i64 (bC rs sy most)) ∧ w' = w := by
  unfold bE bC
  cases hq : bldF rs sy most with
  | ok b => exact kitNum_nil w
  | error i =>
    rcases bldF_num hq with rfl | rfl
    · exact kitNum_at w A he.s 0 (by omega)
    · exact kitNum_at w A he.s 2 (by omega)
/-- Two machines of the same lists. -/
theorem same_b {rs : List Pr} {sy most : Int} (hB : PrB rs) {aN aO aM aP : Option Addr} {cN cO cM cP : Nat} {w : World} (h1 : MRd w aN aO (bX rs sy most).1 (bX rs sy most).2) (h2 : MRd w aM aP (bX rs sy most).1 (bX rs sy most).2) :
    Calls Tryd.prog 11 #[.agg #[.int .i64 0, .slice aN (bX rs sy most).1.length cN, .slice aO (bX rs sy most).2.length cO], .agg #[.int .i64 0, .slice aM (bX rs sy most).1.length cM, .slice aP (bX rs sy most).2.length cP]] w fun e w' => e = .returned (.bool true) ∧ Below w.heap.size w w' := by
  obtain ⟨s1, s2, s3, s4⟩ := bX_sz (sy := sy) (most := most) hB
  have h := sameMachine 0 ((bX rs sy most).1.map nI) ((bX rs sy most).2.map nI) aN aO aM aP cN cO cM cP w (by rw [List.length_map]; omega) (fun r hr => by
    obtain ⟨l, hl, rfl⟩ := List.mem_map.1 hr
    have := s3 l hl
    rw [nI_len]; omega) (by rw [List.length_map]; omega) (fun r hr => by
    obtain ⟨l, hl, rfl⟩ := List.mem_map.1 hr
    have := s4 l hl
    rw [nI_len]; omega) h1.n h1.o h2.n h2.o
  rw [List.length_map, List.length_map] at h
  exact h
set_option maxRecDepth 10000 in
set_option maxHeartbeats 3200000 in
theorem built_any (A : Nat → Addr) (rs : List Pr) (sy most : Int) (a : Option Addr) (c : Nat) (w : World) (hp : PaI w a rs) (he : EnvA w A) (hi : BIn rs sy most) :
    Calls Tryd.prog 24 #[.slice a rs.length c, .int .i64 sy, .int .i64 most] w fun e w' => e = .returned (.bool true) ∧ Hid (Below w.heap.size w w') := by
  obtain ⟨n, hn⟩ : ∃ x, x = rs.length := ⟨_, rfl⟩
  have HR1 : Hid (Calls Tryd.prog 18 #[.slice a n c, .int .i64 sy, .int .i64 most] w fun e w' => ∃ aN aO cN cO, e = .returned (.tuple #[.agg #[.int .i64 0, .slice aN (bX rs sy most).1.length cN, .slice aO (bX rs sy most).2.length cO], .int .i64 (bC rs sy most)]) ∧ Hid (MRd w' aN aO (bX rs sy most).1 (bX rs sy most).2 ∧ Below w.heap.size w w')) := hid0 (by rw [hn]; exact refBuild_r hp hi)
  have HR2 : Hid (∀ V, Below w.heap.size w V → Calls Tryd.prog 9 #[.slice a n c, .int .i64 sy, .int .i64 most] V fun e w' => ∃ aN aO cN cO, e = .returned (.tuple #[.agg #[.int .i64 0, .slice aN (bX rs sy most).1.length cN, .slice aO (bX rs sy most).2.length cO], bE A rs sy most]) ∧ Hid (MRd w' aN aO (bX rs sy most).1 (bX rs sy most).2 ∧ Below V.heap.size V w')) := hid0 (fun V hV => by rw [hn]; exact build_r (hp.past hV) (he.past hV) hi)
  have HR3 : Hid (∀ V, Below w.heap.size w V → Calls Tryd.prog 19 #[bE A rs sy most] V fun e w' => e = .returned (.int .i64 (bC rs sy most)) ∧ w' = V) := hid0 (fun V hV => num_b rs sy most (he.past hV))
  have HR4 : Hid (∀ (V : World) (aN aO aM aP : Option Addr) (cN cO cM cP : Nat), MRd V aN aO (bX rs sy most).1 (bX rs sy most).2 → MRd V aM aP (bX rs sy most).1 (bX rs sy most).2 → Calls Tryd.prog 11 #[.agg #[.int .i64 0, .slice aN (bX rs sy most).1.length cN, .slice aO (bX rs sy most).2.length cO], .agg #[.int .i64 0, .slice aM (bX rs sy most).1.length cM, .slice aP (bX rs sy most).2.length cP]] V fun e w' => e = .returned (.bool true) ∧ Below V.heap.size V w') := hid0 (fun V aN aO aM aP cN cO cM cP h1 h2 => same_b hi.bnd h1 h2)
  have hself : (bC rs sy most == bC rs sy most) = true := by simp
  rw [← hn]
  clear hp he hi hn
  generalize bC rs sy most = z at *
  generalize bE A rs sy most = ev at *
  generalize bX rs sy most = X at *
  generalize hx1 : X.1.length = lN at *
  generalize hx2 : X.2.length = lO at *
  clear hx1 hx2
  go_enter Tryd.func24, Tryd.ntmps24
  go_upto_region 2 with (go_at_call 18; go_loud ((refine HR1.out.mono ?_; rintro e w1 ⟨aN, aO, cN, cO, rfl, H1⟩)))
  obtain ⟨w2, hw2⟩ : ∃ w2, w2 = w1.alloc (.cells #[.int .i64 0, .slice aN lN cN, .slice aO lO cO] 28) := ⟨_, rfl⟩
  rw [← hw2]
  have hb2 : Below w1.heap.size w1 w2 := by rw [hw2]; exact below_alloc1 _ _
  have hr2 : w2.heap[w1.heap.size]? = some (.cells #[.int .i64 0, .slice aN lN cN, .slice aO lO cO] 28 (0, 0)) := by rw [hw2]; exact heap_alloc_new w1 _
  have H2 : Hid (Below w.heap.size w w2 ∧ MRd w2 aN aO X.1 X.2) := hid0 ⟨Below.later H1.out.2 hb2, H1.out.1.past hb2⟩
  have HRw := hid0 hr2
  obtain ⟨M1, hM1⟩ : ∃ M1, M1 = w1.heap.size := ⟨_, rfl⟩
  rw [← hM1] at HRw ⊢
  clear hw2 hb2 hr2 H1 HR1 hM1
  go_upto_region 3 with (go_at_call 9; go_loud ((refine (HR2.out w2 H2.out.1).mono ?_; rintro e w3 ⟨aM, aP, cM, cP, rfl, H3⟩)))
  obtain ⟨w4, hw4⟩ : ∃ w4, w4 = w3.alloc (.cells #[.int .i64 0, .slice aM lN cM, .slice aP lO cP] 28) := ⟨_, rfl⟩
  rw [← hw4]
  have hb4 : Below w3.heap.size w3 w4 := by rw [hw4]; exact below_alloc1 _ _
  have hr4 : w4.heap[w3.heap.size]? = some (.cells #[.int .i64 0, .slice aM lN cM, .slice aP lO cP] 28 (0, 0)) := by rw [hw4]; exact heap_alloc_new w3 _
  have h24 : Below w2.heap.size w2 w4 := Below.later H3.out.2 hb4
  have H4 : Hid (Below w.heap.size w w4 ∧ MRd w4 aN aO X.1 X.2 ∧ MRd w4 aM aP X.1 X.2) := hid0 ⟨Below.later H2.out.1 h24, H2.out.2.past h24, H3.out.1.past hb4⟩
  obtain ⟨x0, x1, x2⟩ := row3c ((h24.block _ (Array.getElem?_eq_some_iff.1 HRw.out).1).trans HRw.out)
  obtain ⟨y0, y1, y2⟩ := row3c hr4
  obtain ⟨M2, hM2⟩ : ∃ M2, M2 = w3.heap.size := ⟨_, rfl⟩
  rw [← hM2] at y0 y1 y2 ⊢
  clear hw4 hb4 hr4 h24 H2 H3 HRw HR2 hM2
  go_wp2_with (first
    | (go_at_call 19; go_loud ((refine (HR3.out w4 H4.out.1).mono ?_; rintro e w5 ⟨rfl, rfl⟩)))
    | (go_at_call 11; go_loud ((refine (HR4.out w5 aM aP aN aO cM cP cN cO H4.out.2.2 H4.out.2.1).mono ?_; rintro e w6 ⟨rfl, h6⟩; have H6 := hid0 (Below.later H4.out.1 h6); clear h6))))
  go_ret
  exact ⟨by first | rfl | trivial, H6⟩
end Go.Proofs.YtbbejfkgopcjoaaDoor
namespace Go.Proofs.YtbbejfkgopcjoaaDoor
open Go.RowKit Go.Shelf
/-- A row's values, spread behind another row. -/
theorem wpList_spreadR {ops : Array Oper} {rest : List Oper} {op : Oper} {a : Act} {w : World} {Q : Exit → Act → World → Prop} (hgd : op.guard = none) (s x : Operand) (ho : op.op = .call { callee := .builtin .append, args := #[s, x], argTypes := #[26, 26] })
    (v vX : Value) (vs X : List Value) (lo loX n : Nat) (hs : a.eval s = v) (hx : a.eval x = vX) (hn : n = vs.length) (hv : w.ownsRow lo 34 1 v n vs) (hX : w.ownsRow loX 34 1 vX X.length X) (h1 : ∀ u ∈ X, u.oneCell' = true) (hl : vs.length + X.length ≤ 1000000000) (hlo : lo ≤ w.heap.size)
    (h : ∀ v' w', ApG 34 w w' lo v v' (vs ++ X) → wpList Tryd.prog ops Q rest (a.put op.dst v') w') : wpList Tryd.prog ops Q (op :: rest) a w := by
  subst hn
  obtain ⟨i0, hi, hz0, hz1, hz2⟩ := info_parts infoIntsM
  rcases hX.2 with ⟨rfl, hX0⟩ | ⟨g, cap, cur, rfl, hg, hr, hc, _⟩
  · have hXn : X = [] := List.eq_nil_of_length_eq_zero hX0
    subst hXn
    refine wpList_append_own_none hgd s x 26 ho lo 34 i0 1 Tryd.underlying26 hi v vs.length vs hs hv hx (h v w ⟨by rw [List.append_nil]; exact hv, Only.refl _ _, fun k hk => .inl hk⟩)
  · refine wpList_append_own_at _ hgd s x 26 ho lo 34 i0 (.slice none 0 0) 1 24 Tryd.underlying26 hi hz0 hz1 hz2 rfl (by decide) v vs.length vs hs hv ⟨g, 0, none⟩ X.length cap X hx (by omega) (fun j u hj => ?_) h1 (by unfold maxLen; omega) (by omega) hlo (fun v' w' q1 q2 _ q4 => h v' w' ⟨by rw [List.length_append]; exact q1, Only.ofGrown q2, fun k hk => ?_⟩)
    · have hjl : j < X.length := (List.getElem?_eq_some_iff.1 hj).1
      rw [Addr.add_mid, Nat.zero_add, World.ownsRow.cellAt hX j (by omega)]
      exact hj
    · rcases q4 with q4 | q4
      · exact .inl (by rw [← q4]; exact hk)
      · rw [q4] at hk
        injection hk with hk
        exact .inr (by omega)
set_option maxRecDepth 10000 in
set_option maxHeartbeats 1600000 in
theorem tables_any (v vN vO : Value) (vs NX OU : List Value) (st : Int) (lo l1 l2 : Nat) (w : World) (hv : w.ownsRow lo 34 1 v vs.length vs) (hN : w.ownsRow l1 34 1 vN NX.length NX) (hO : w.ownsRow l2 34 1 vO OU.length OU) (hq : Apt v vO) (h1 : ∀ u ∈ NX ++ OU, u.oneCell' = true) (hl : vs.length + NX.length + OU.length ≤ 1000000000) (hlo : lo ≤ w.heap.size) :
    Calls Tryd.prog 22 #[v, .agg #[.int .i64 st, vN, vO]] w fun e w' => ∃ v', e = .returned v' ∧ ApG 34 w w' lo v v' (vs ++ NX ++ OU) := by
  obtain ⟨w0, hw0⟩ : ∃ w0, w0 = w.alloc (.cells #[.int .i64 st, vN, vO] 28) := ⟨_, rfl⟩
  have hb0 : Below w.heap.size w w0 := by rw [hw0]; exact below_alloc1 _ _
  have hr0 : w0.heap[w.heap.size]? = some (.cells #[.int .i64 st, vN, vO] 28 (0, 0)) := by rw [hw0]; exact heap_alloc_new w _
  obtain ⟨x0, x1, x2⟩ := row3c hr0
  have HV := hid0 (row_later hv hb0)
  have HN := hid0 (row_later hN hb0)
  have HO := hid0 (row_later hO hb0)
  have HB0 := hid0 hb0
  have H1 := hid0 h1
  have hne : v.ownBlock ≠ some w.heap.size := fun e => by have := (World.ownsRow.lt hv _ e).2; omega
  have HF : Hid (∀ w1 v1, ApG 34 w0 w1 lo v v1 (vs ++ NX) → w1.cell? ⟨w.heap.size, 2, none⟩ = some vO ∧ w1.ownsRow l2 34 1 vO OU.length OU ∧ lo ≤ w1.heap.size ∧ ∀ w2 v2, ApG 34 w1 w2 lo v1 v2 (vs ++ NX ++ OU) → ApG 34 w w2 lo v v2 (vs ++ NX ++ OU)) := hid0 (fun w1 v1 g => by
    have hs := hb0.size
    have hc : w1.cell? ⟨w.heap.size, 2, none⟩ = some vO := (g.frm.cell (p := ⟨w.heap.size, 2, none⟩) (World.block_lt_of_cell? _ _ x2) (fun e => hne e)).trans x2
    refine ⟨hc, own_blk (row_later hO hb0) (fun k hk => g.frm.block k (World.ownsRow.lt (row_later hO hb0) k hk).2 (fun e => hq k e hk)), Nat.le_trans hlo (Nat.le_trans hs g.frm.size), fun w2 v2 g2 => ⟨g2.own, ?_, fun k hk => ?_⟩⟩
    · refine (Only.ofBelow hb0 (fun k => v.ownBlock = some k) (fun k h1 h2 => by omega)).trans (g.frm.trans g2.frm (fun k hk => (g.at' k hk).elim .inl .inr)) (fun k hk => .inl hk)
    · rcases g2.at' k hk with e | e
      · rcases g.at' k e with e | e
        · exact .inl e
        · exact .inr (by omega)
      · exact .inr (Nat.le_trans hs (Nat.le_trans g.frm.size e)))
  have hlo0 : lo ≤ w0.heap.size := Nat.le_trans hlo hb0.size
  have hfold := hw0.symm
  clear hw0 hb0 hr0 hv hN hO h1 hq hne
  go_enter Tryd.func22, Tryd.ntmps22
  go_wp2_with (first
    | (at_builtin; have hq := HF.out; go_loud ((refine wpList_spreadR rfl _ _ rfl v vN vs NX lo l1 vs.length rfl rfl rfl HV.out HN.out (fun u hu => H1.out u (List.mem_append_left _ hu)) (by omega) hlo0 ?_; intro v1 w1 hg1; obtain ⟨y2, ho1, hl1, hk1⟩ := HF.out w1 v1 hg1; have HG1 := hid0 hg1; have HO1 := hid0 ho1; have HK1 := hid0 hk1; clear hg1 ho1 hk1 hq HF)))
    | (at_builtin; go_loud ((refine wpList_spreadR rfl _ _ rfl v1 vO (vs ++ NX) OU lo l2 (vs ++ NX).length rfl rfl rfl HG1.out.own HO1.out (fun u hu => H1.out u (List.mem_append_right _ hu)) (by rw [List.length_append]; omega) hl1 ?_; intro v2 w2 hg2; have HG2 := hid0 (HK1.out w2 v2 hg2); clear hg2)))
    | fail)
  go_ret
  exact ⟨v2, rfl, HG2.out⟩
end Go.Proofs.YtbbejfkgopcjoaaDoor
namespace Go.Proofs.YtbbejfkgopcjoaaDoor.Ln
open Go.RowKit Go.Shelf Go.Lib
def cellsI (L : List Int) : List Value := L.map (Value.int .i64)
theorem OwnI.lt {w : World} {base : Nat} {v : Value} {l : List Int} (h : OwnI w base v l) {g : Nat} (hg : v.ownBlock = some g) : base ≤ g ∧ g < w.heap.size := World.ownsRow.lt h g hg
/-- The slice v holds those of ps; those of qs are made, and are not yet in it. -/
structure Pil4 (w : World) (base : Nat) (v : Value) (ps qs : Lot) : Prop where
  outer : w.ownsRow base 34 1 v ps.length (ps.map (·.1))
  row : ∀ x ∈ ps ++ qs, OwnI w base x.1 x.2
  apart : (ps ++ qs).Pairwise fun x y => ∀ g, x.1.ownBlock = some g → y.1.ownBlock ≠ some g
  away : ∀ x ∈ ps ++ qs, ∀ g, v.ownBlock = some g → x.1.ownBlock ≠ some g
theorem Pil4.nil (w : World) (base : Nat) : Pil4 w base (.slice none 0 0) [] [] := ⟨World.ownsRow_nil _ _ _ _, by simp, List.Pairwise.nil, by simp⟩
theorem Pil4.later {w w' : World} {base : Nat} {v : Value} {ps qs : Lot} (h : Pil4 w base v ps qs) (hb : Below w.heap.size w w') : Pil4 w' base v ps qs :=
  ⟨row_later h.outer hb, fun x hx => row_later (h.row x hx) hb, h.apart, h.away⟩
theorem Pil4.cell {w : World} {base g n cap : Nat} {ps qs : Lot} (h : Pil4 w base (.slice (some ⟨g, 0, none⟩) n cap) ps qs) (hn : ps.length = n) (j : Nat) (hj : j < ps.length) : w.cell? ⟨g, j, none⟩ = some ps[j].1 := by
  have ho := h.outer
  rw [hn] at ho
  rw [World.ownsRow.cellAt ho j (by omega)]
  simp [hj]
theorem cellsI_set (l : List Int) (k : Nat) (s : Int) : (l.map (Value.int .i64)).set k (.int .i64 s) = (l.set k s).map (Value.int .i64) := by rw [List.map_set]
/-- One string of one list written over. -/
theorem Pil4.put {w : World} {base : Nat} {v : Value} {ps : Lot} (h : Pil4 w base v ps []) (i : Nat) (hi : i < ps.length) {g n cap : Nat} {l : List Int} (hp : ps[i] = (.slice (some ⟨g, 0, none⟩) n cap, l)) (hl : l.length = n) (k : Nat) (s : Int) :
    Pil4 (w.setCell ⟨g, k, none⟩ (.int .i64 s)) base v (ps.set i (.slice (some ⟨g, 0, none⟩) n cap, l.set k s)) [] := by
  have hmem : ps[i] ∈ ps := List.getElem_mem hi
  have hnil : ∀ q : Lot, q ++ [] = q := fun q => List.append_nil q
  have hrow : ∀ x ∈ ps, OwnI w base x.1 x.2 := fun x hx => h.row x (by rw [hnil]; exact hx)
  have hri := hrow _ hmem
  have hbl : ps[i].1.ownBlock = some g := by rw [hp]; rfl
  have hawy : ∀ x ∈ ps, ∀ g, v.ownBlock = some g → x.1.ownBlock ≠ some g := fun x hx => h.away x (by rw [hnil]; exact hx)
  have hapt : ps.Pairwise fun x y => ∀ g, x.1.ownBlock = some g → y.1.ownBlock ≠ some g := by have := h.apart; rw [hnil] at this; exact this
  have haw : ∀ g', v.ownBlock = some g' → g' ≠ g := fun g' hg' e => by subst e; exact hawy _ hmem g' hg' hbl
  have hput : OwnI (w.setCell ⟨g, k, none⟩ (.int .i64 s)) base (.slice (some ⟨g, 0, none⟩) n cap) (l.set k s) := by
    rw [hp] at hri
    subst hl
    have h1 := (World.ownsRow.stored hri k (.int .i64 s)).1
    rw [cellsI_set] at h1
    unfold OwnI
    rw [List.length_set]
    exact h1
  have keep : ∀ {t : TypeId} {size m : Nat} {u : Value} {xs : List Value}, w.ownsRow base t size u m xs → (∀ g', u.ownBlock = some g' → g' ≠ g) → (w.setCell ⟨g, k, none⟩ (.int .i64 s)).ownsRow base t size u m xs := by
    intro t size m u xs ho hne
    exact own_blk ho (fun q hq => Below.heap_setCell w _ _ q (hne q hq))
  have hmap : (ps.set i (.slice (some ⟨g, 0, none⟩) n cap, l.set k s)).map (·.1) = ps.map (·.1) := by
    rw [List.map_set]
    apply List.ext_getElem
    · simp
    · intro j h1 h2
      rw [List.getElem_set]
      split
      · subst_vars; simp [hp]
      · rfl
  have hpr : ∀ {R : Value → Value → Prop} (qs : Lot), qs.Pairwise (fun x y => R x.1 y.1) ↔ (qs.map (·.1)).Pairwise R := by
    intro R qs
    rw [List.pairwise_map]
  refine ⟨?_, ?_, ?_, ?_⟩
  · rw [hmap, List.length_set]
    exact keep h.outer haw
  · intro x hx
    rw [hnil] at hx
    obtain ⟨j, hj, rfl⟩ := List.getElem_of_mem hx
    have hj2 : j < ps.length := by simpa using hj
    rw [List.getElem_set]
    split
    · exact hput
    · rename_i hne
      refine keep (hrow _ (List.getElem_mem hj2)) ?_
      intro g' hg' e
      subst e
      have := List.pairwise_iff_getElem.1 hapt
      rcases Nat.lt_or_gt_of_ne hne with hlt | hlt
      · exact this i j hi hj2 hlt g' hbl hg'
      · exact this j i hj2 hi hlt g' hg' hbl
  · rw [hnil]
    have := hapt
    rw [hpr (R := fun x y => ∀ g, x.ownBlock = some g → y.ownBlock ≠ some g)] at this ⊢
    rw [hmap]
    exact this
  · intro x hx g' hg'
    rw [hnil] at hx
    have hx1 : x.1 ∈ ps.map (·.1) := by rw [← hmap]; exact List.mem_map_of_mem hx
    obtain ⟨y, hy, hye⟩ := List.mem_map.1 hx1
    rw [← hye]
    exact hawy y hy g' hg'
/-- The mark of a list. -/
def mkI (i : Nat) : Int := -10 - (i : Int)
/-- The lists while they are written over. -/
structure St (M : Nat) (W4 : World) (base g cap : Nat) (i k : Nat) (qs : Lot) (wr : World) : Prop where
  pile : Pil4 wr base (.slice (some ⟨g, 0, none⟩) M cap) qs []
  len : qs.length = M
  small : ∀ x ∈ qs, x.2.length ≤ 1000000000
  done : ∀ j x, j < i → qs[j]? = some x → ∀ r ∈ x.2, r = mkI j
  part : ∀ x, qs[i]? = some x → ∀ m (h : m < x.2.length), m < k → x.2[m] = mkI i
  bel : Below base W4 wr
  keb : KeB [3] W4 wr
theorem St.rows {M : Nat} {W4 wr : World} {base g cap i k : Nat} {qs : Lot} (h : St M W4 base g cap i k qs wr) (x : Value × List Int) (hx : x ∈ qs) : OwnI wr base x.1 x.2 := h.pile.row x (by rw [List.append_nil]; exact hx)
theorem St.row {M : Nat} {W4 wr : World} {base g cap i k : Nat} {qs : Lot} (h : St M W4 base g cap i k qs wr) (hi : i < M) : ∃ x a c, qs[i]? = some x ∧ x.1 = .slice a x.2.length c ∧ wr.cell? ⟨g, i, none⟩ = some (.slice a x.2.length c) ∧ x.2.length ≤ 1000000000 := by
  have hl : i < qs.length := by rw [h.len]; exact hi
  have hx : qs[i]? = some qs[i] := List.getElem?_eq_getElem hl
  obtain ⟨a, c, e, _⟩ := (h.rows _ (List.getElem_mem hl)).ia
  exact ⟨qs[i], a, c, hx, e, by rw [h.pile.cell h.len i hl, e], h.small _ (List.getElem_mem hl)⟩
theorem St.next {M : Nat} {W4 wr : World} {base g cap i k : Nat} {qs : Lot} (h : St M W4 base g cap i k qs wr) {x : Value × List Int} (hx : qs[i]? = some x) (hk : x.2.length ≤ k) : St M W4 base g cap (i + 1) 0 qs wr where
  pile := h.pile
  len := h.len
  small := h.small
  done := fun j y hj hy r hr => by
    rcases Nat.lt_or_ge j i with hlt | hge
    · exact h.done j y hlt hy r hr
    · have e : j = i := by omega
      subst e
      rw [hx] at hy
      obtain rfl := Option.some.inj hy
      obtain ⟨m, hm, rfl⟩ := List.getElem_of_mem hr
      exact h.part x hx m hm (by omega)
  part := fun _ _ _ _ hm => absurd hm (Nat.not_lt_zero _)
  bel := h.bel
  keb := h.keb
theorem St.put {M : Nat} {W4 wr : World} {base g cap i k : Nat} {qs : Lot} (h : St M W4 base g cap i k qs wr) {x : Value × List Int} (hx : qs[i]? = some x) (hk : k < x.2.length) {a : Option Addr} {c : Nat} (hv : x.1 = .slice a x.2.length c) : ∃ g', a = some ⟨g', 0, none⟩ ∧ base ≤ g' ∧ g' ≠ g ∧
    (∃ u0, wr.cell? ⟨g', k, none⟩ = some (.int .i64 u0)) ∧ wr.frozen? ⟨g', k, none⟩ = false ∧
    St M W4 base g cap i (k + 1) (qs.set i (.slice (some ⟨g', 0, none⟩) x.2.length c, x.2.set k (mkI i))) (wr.setCell ⟨g', k, none⟩ (.int .i64 (mkI i))) := by
  obtain ⟨hi, rfl⟩ := List.getElem?_eq_some_iff.1 hx
  have hr := h.rows _ (List.getElem_mem hi)
  obtain ⟨g', c', e, hg', _⟩ := own_form hr (by omega)
  rw [hv] at e
  simp only [Value.slice.injEq, true_and] at e
  obtain ⟨rfl, rfl⟩ := e
  rw [hv] at hr
  have hp : qs[i] = (.slice (some ⟨g', 0, none⟩) qs[i].2.length c, qs[i].2) := Prod.ext hv rfl
  have hne : g' ≠ g := fun e => by
    subst e
    exact h.pile.away _ (by rw [List.append_nil]; exact List.getElem_mem hi) g' rfl (by rw [hv]; rfl)
  refine ⟨g', rfl, hg', hne, ⟨qs[i].2[k], by rw [World.ownsRow.cellAt hr k (by omega)]; simp [hk]⟩, World.ownsRow.frozenAt hr _, ?_, ?_, ?_, ?_, ?_, ?_, ?_⟩
  · exact h.pile.put i hi hp rfl k _
  · rw [List.length_set]; exact h.len
  · intro y hy
    rcases List.mem_or_eq_of_mem_set hy with hy | rfl
    · exact h.small y hy
    · simp only [List.length_set]
      exact h.small _ (List.getElem_mem hi)
  · intro j y hj hy
    rw [List.getElem?_set_ne (by omega)] at hy
    exact h.done j y hj hy
  · intro y hy m hm hmk
    rw [List.getElem?_set_self hi] at hy
    obtain rfl := Option.some.inj hy
    simp only [List.length_set] at hm
    rw [List.getElem_set]
    split
    · rfl
    · exact h.part _ hx m hm (by omega)
  · exact h.bel.setCell (p := ⟨g', k, none⟩) hg' _
  · obtain ⟨cs, hcs⟩ := own_typ hr (show Value.ownBlock _ = some g' from rfl)
    exact h.keb.trans (KeB.cell hcs (by simp) _)
theorem St.later {M : Nat} {W4 wr w' : World} {base g cap i k : Nat} {qs : Lot} (h : St M W4 base g cap i k qs wr) (hb : Below wr.heap.size wr w') : St M W4 base g cap i k qs w' := ⟨h.pile.later hb, h.len, h.small, h.done, h.part, h.bel.trans (hb.mono (by have := World.ownsRow.lt h.pile.outer g rfl; omega)), h.keb.trans (KeB.below _ hb)⟩
/-- All read as they did; those from i on are still their own. -/
structure Gr (M : Nat) (W4 : World) (base g cap : Nat) (i : Nat) (qs : Lot) (wr : World) : Prop where
  outer : wr.ownsRow base 34 1 (.slice (some ⟨g, 0, none⟩) M cap) M (qs.map (·.1))
  len : qs.length = M
  small : ∀ x ∈ qs, x.2.length ≤ 1000000000
  done : ∀ (j : Nat) (x : Value × List Int), j < M → qs[j]? = some x → ∀ r ∈ x.2, r = mkI j
  apart : qs.Pairwise fun x y => ∀ g, x.1.ownBlock = some g → y.1.ownBlock ≠ some g
  away : ∀ x ∈ qs, x.1.ownBlock ≠ some g
  lt : ∀ x ∈ qs, ∀ g', x.1.ownBlock = some g' → g' < wr.heap.size
  read : ∀ x ∈ qs, ∃ a c, x.1 = .slice a x.2.length c ∧ IA wr a x.2
  zero : ∀ x ∈ qs, ∀ b off n c, x.1 = .slice (some ⟨b, off, none⟩) n c → off = 0
  own : ∀ (j : Nat) (x : Value × List Int), i ≤ j → qs[j]? = some x → OwnI wr base x.1 x.2
  bel : Below base W4 wr
  keb : KeB [3] W4 wr
  big : base ≤ wr.heap.size
theorem St.gr {M : Nat} {W4 wr : World} {base g cap : Nat} {qs : Lot} (h : St M W4 base g cap M 0 qs wr) (hbig : base ≤ wr.heap.size) : Gr M W4 base g cap 0 qs wr where
  outer := by have := h.pile.outer; rw [h.len] at this; exact this
  len := h.len
  small := h.small
  done := h.done
  apart := by have := h.pile.apart; rw [List.append_nil] at this; exact this
  away := fun x hx => h.pile.away x (by rw [List.append_nil]; exact hx) g rfl
  lt := fun x hx g' hg' => (OwnI.lt (h.rows x hx) hg').2
  read := fun x hx => by obtain ⟨a, c, e, hs⟩ := (h.rows x hx).ia; exact ⟨a, c, e, hs⟩
  zero := fun x hx b off n c e => by
    rcases (h.rows x hx).2 with ⟨h0, _⟩ | ⟨g1, cap1, cur, hv, _⟩
    · rw [e] at h0; cases h0
    · rw [e] at hv
      simp only [Value.slice.injEq, Option.some.injEq, Addr.mk.injEq] at hv
      exact hv.1.2.1
  own := fun j x _ hx => h.rows x (List.mem_of_getElem? hx)
  bel := h.bel
  keb := h.keb
  big := hbig
theorem Gr.cell {M : Nat} {W4 wr : World} {base g cap i : Nat} {qs : Lot} (h : Gr M W4 base g cap i qs wr) (j : Nat) {x : Value × List Int} (hx : qs[j]? = some x) : wr.cell? ⟨g, j, none⟩ = some x.1 := by
  obtain ⟨hj, rfl⟩ := List.getElem?_eq_some_iff.1 hx
  have hl := h.len
  rw [World.ownsRow.cellAt h.outer j (by omega)]
  simp [hj]
/-- One list while it grows: lv reads as the list and k more. -/
structure Gw (M : Nat) (W4 : World) (base g cap : Nat) (i k : Nat) (x : Value × List Int) (lv : Value) (qs : Lot) (wr : World) : Prop where
  gr : Gr M W4 base g cap (i + 1) qs wr
  at' : qs[i]? = some x
  lo : OwnI wr base lv (x.2 ++ List.replicate k (-5))
  away : lv.ownBlock ≠ some g
  apart : ∀ (j : Nat) (y : Value × List Int), j ≠ i → qs[j]? = some y → ∀ g', lv.ownBlock = some g' → y.1.ownBlock ≠ some g'
theorem Gr.start {M : Nat} {W4 wr : World} {base g cap i : Nat} {qs : Lot} (h : Gr M W4 base g cap i qs wr) {x : Value × List Int} (hx : qs[i]? = some x) : Gw M W4 base g cap i 0 x x.1 qs wr where
  gr := { h with own := fun j y hj hy => h.own j y (by omega) hy }
  at' := hx
  lo := by rw [List.replicate_zero, List.append_nil]; exact h.own i x (Nat.le_refl _) hx
  away := h.away x (List.mem_of_getElem? hx)
  apart := fun j y hj hy g' hg' hyg => by
    obtain ⟨hi1, rfl⟩ := List.getElem?_eq_some_iff.1 hx
    obtain ⟨hj1, rfl⟩ := List.getElem?_eq_some_iff.1 hy
    have := List.pairwise_iff_getElem.1 h.apart
    rcases Nat.lt_or_gt_of_ne hj with hlt | hlt
    · exact this j i hj1 hi1 hlt g' hyg hg'
    · exact this i j hi1 hj1 hlt g' hg' hyg
theorem IA.moved {w w' : World} {a : Option Addr} {l : List Int} (h : IA w a l) (hs : w.heap.size ≤ w'.heap.size) (hk : ∀ b off j u, a = some ⟨b, off, none⟩ → j < l.length → w.cell? ⟨b, off + j, none⟩ = some u → w'.cell? ⟨b, off + j, none⟩ = some u) : IA w' a l := ⟨fun k hl => by
  obtain ⟨b, off, rfl, h1, h2⟩ := h.at' k hl
  exact ⟨b, off, rfl, Nat.lt_of_lt_of_le h1 hs, hk b off k _ rfl hl h2⟩⟩
theorem kept_row {wr w1 : World} {o : Obj} {lv : Value} (hgrow : (wr.alloc o).grownBy w1 lv.ownBlock) {base : Nat} {t : TypeId} {size m : Nat} {u : Value} {xs : List Value} (hu : wr.ownsRow base t size u m xs) (hne : ∀ g', lv.ownBlock = some g' → u.ownBlock ≠ some g') : w1.ownsRow base t size u m xs := by
  refine World.ownsRow.kept (World.ownsRow.alloc hu o) hgrow ?_
  cases e : u.ownBlock with
  | none => exact .inl rfl
  | some g1 => exact .inr fun hc => hne g1 hc.symm e
theorem Gw.step {M : Nat} {W4 wr w1 : World} {base g cap i k : Nat} {x : Value × List Int} {lv lv' : Value} {qs : Lot} {o : Obj} {n : Nat} (h : Gw M W4 base g cap i k x lv qs wr) (hn : n = x.2.length + k)
    (hown' : w1.ownsRow base 3 1 lv' (n + 1) (cellsI (x.2 ++ List.replicate k (-5)) ++ [.int .i64 (-5)])) (hgrow : (wr.alloc o).grownBy w1 lv.ownBlock)
    (hat : lv'.ownBlock = lv.ownBlock ∨ lv'.ownBlock = some (wr.alloc o).heap.size) (hfr : ∀ g j u, lv.ownBlock = some g → j < n * 1 → (wr.alloc o).cell? ⟨g, j, none⟩ = some u → w1.cell? ⟨g, j, none⟩ = some u) : Gw M W4 base g cap i (k + 1) x lv' qs w1 := by
  subst hn
  have hbs := h.gr.big
  have hsz : (wr.alloc o).heap.size = wr.heap.size + 1 := by simp
  have hs1 : wr.heap.size + 1 ≤ w1.heap.size := by have := hgrow.size; omega
  have hB : Below wr.heap.size wr (wr.alloc o) := (Below.refl _ wr).alloc (Nat.le_refl _) o
  have readK : ∀ y ∈ qs, ∃ a c, y.1 = .slice a y.2.length c ∧ IA w1 a y.2 := by
    intro y hy
    obtain ⟨a, c, e, hr⟩ := h.gr.read y hy
    refine ⟨a, c, e, IA.moved hr (by omega) ?_⟩
    intro b off j u ha hj hc
    subst ha
    have hc2 : (wr.alloc o).cell? ⟨b, off + j, none⟩ = some u := (hB.cell (p := ⟨b, off + j, none⟩) (World.block_lt_of_cell? wr _ hc)).trans hc
    by_cases hlb : lv.ownBlock = some b
    · have hyb : y.1.ownBlock = some b := by rw [e]; rfl
      obtain ⟨jj, hjj⟩ := List.getElem?_of_mem hy
      have hji : jj = i := by
        by_cases hne : jj = i
        · exact hne
        · exact absurd hyb (h.apart jj y hne hjj b hlb)
      subst hji
      rw [h.at'] at hjj
      obtain rfl := Option.some.inj hjj
      have h0 : off = 0 := h.gr.zero _ hy b off _ _ e
      subst h0
      exact hfr b (0 + j) u hlb (by omega) hc2
    · exact hgrow.cell hc2 (fun e => hlb e.symm)
  have hgl : g < wr.heap.size := (World.ownsRow.lt h.gr.outer g rfl).2
  have hnew : ∀ {u : Value}, (∀ g', u.ownBlock = some g' → g' < wr.heap.size) → (∀ g', lv.ownBlock = some g' → u.ownBlock ≠ some g') → ∀ g', lv'.ownBlock = some g' → u.ownBlock ≠ some g' := fun hu hne g' hg' hug => by
    rcases hat with hat | hat
    · rw [hat] at hg'
      exact hne g' hg' hug
    · rw [hat, hsz] at hg'
      have e1 := Option.some.inj hg'
      have e2 := hu g' hug
      omega
  refine ⟨⟨?_, h.gr.len, h.gr.small, h.gr.done, h.gr.apart, h.gr.away, ?_, readK, h.gr.zero, ?_, ?_, h.gr.keb.trans (KeB.row h.lo (by simp) (grown_onlyP hgrow)), by omega⟩, h.at', ?_, ?_, ?_⟩
  · refine kept_row hgrow h.gr.outer ?_
    intro g' hg' hc
    have : g = g' := by simpa [Value.ownBlock] using hc
    subst this
    exact h.away hg'
  · intro y hy g' hg'
    have := h.gr.lt y hy g' hg'
    omega
  · intro j y hj hy
    exact kept_row hgrow (h.gr.own j y hj hy) (fun g' hg' => h.apart j y (by omega) hy g' hg')
  · exact (h.gr.bel.alloc (by omega) o).grown hgrow (by omega) (fun k hk' => (OwnI.lt h.lo hk').1)
  · unfold OwnI
    rw [List.replicate_succ', ← List.append_assoc]
    have e1 : (x.2 ++ List.replicate k (-5) ++ [(-5 : Int)]).length = x.2.length + k + 1 := by simp; omega
    have e2 : cellsI (x.2 ++ List.replicate k (-5) ++ [(-5 : Int)]) = cellsI (x.2 ++ List.replicate k (-5)) ++ [.int .i64 (-5)] := by simp [cellsI]
    rw [e1]
    exact (congrArg (fun l => w1.ownsRow base 3 1 lv' (x.2.length + k + 1) l) e2).mpr hown'
  · rcases hat with hat | hat
    · rw [hat]; exact h.away
    · rw [hat, hsz]
      intro e
      have := Option.some.inj e
      omega
  · intro j y hj hy
    exact hnew (h.gr.lt y (List.mem_of_getElem? hy)) (h.apart j y hj hy)
theorem Gw.len {M : Nat} {W4 wr : World} {base g cap i k : Nat} {x : Value × List Int} {lv : Value} {qs : Lot} (h : Gw M W4 base g cap i k x lv qs wr) : ∃ a c, lv = .slice a (x.2.length + k) c := by
  obtain ⟨a, c, e, _⟩ := h.lo.ia
  rw [List.length_append, List.length_replicate] at e
  exact ⟨a, c, e⟩
theorem Gw.row {M : Nat} {W4 wr : World} {base g cap i k : Nat} {x : Value × List Int} {lv : Value} {qs : Lot} (h : Gw M W4 base g cap i k x lv qs wr) {n : Nat} (hn : x.2.length + k = n) : wr.ownsRow base 3 1 lv n (cellsI (x.2 ++ List.replicate k (-5))) := by
  have := h.lo
  unfold OwnI at this
  rw [List.length_append, List.length_replicate, hn] at this
  exact this
theorem Gr.next {M : Nat} {W4 wr : World} {base g cap i0 : Nat} {qs : Lot} (h : Gr M W4 base g cap i0 qs wr) (i : Nat) (hi : i < M) : ∃ x a c, qs[i]? = some x ∧ x.1 = .slice a x.2.length c ∧ wr.cell? ⟨g, i, none⟩ = some (.slice a x.2.length c) ∧ x.2.length ≤ 1000000000 ∧ IA wr a x.2 ∧ ∀ r ∈ x.2, r = mkI i := by
  have hl : i < qs.length := by rw [h.len]; exact hi
  have hx : qs[i]? = some qs[i] := List.getElem?_eq_getElem hl
  obtain ⟨a, c, e, hr⟩ := h.read _ (List.getElem_mem hl)
  exact ⟨qs[i], a, c, hx, e, by rw [h.cell i hx, e], h.small _ (List.getElem_mem hl), hr, h.done i _ hi hx⟩
end Go.Proofs.YtbbejfkgopcjoaaDoor.Ln
