/-
  The short file, as the program writes it (stage 23).
-/
import Derived.Test.YtcbepmjojppokaaGreatDoorTpLW
namespace Go.Proofs.YtcbepmjojppokaaGreatDoor.Tp
open Go.RowKit Go.Shelf Go.Lib Go.Maps
attribute [local go_sem] Oper.semAt_some
theorem casP_len (P B : List Int) : ∀ j, ∀ x ∈ casP P B j, x.length ≤ 10
  | 0, x, h => by
    rw [casP, List.mem_singleton] at h
    rw [h, mkF_len]; omega
  | j + 1, x, h => by
    rw [casP, List.mem_append, List.mem_singleton] at h
    rcases h with h | h
    · exact casP_len P B j x h
    · have := hx_len6 (P.getD j 0).toNat
      rw [h]
      simp only [List.length_append, mkF_len, List.length_cons, List.length_nil]
      omega
theorem pcs_len (C : List Cs) : ∀ i, ∀ x ∈ pcs C i, x.length ≤ 10
  | 0, x, h => nomatch h
  | i + 1, x, h => by
    rw [pcs, List.mem_append, List.mem_append] at h
    rcases h with (h | h) | h
    · exact pcs_len C i x h
    · unfold sepP at h
      split at h
      · cases h
      · rw [List.mem_singleton] at h
        rw [h]; simp
    · exact casP_len _ _ _ x h
theorem Bl.kc {B b : Nat} {bs : List Value} {w w' : World} (h : Bl B b bs w) (hk : Kc [] w w') : Bl B b bs w' := by
  have one : ∀ p, Lib.BuilderAt 85 5 B b p bs w → Lib.BuilderAt 85 5 B b p bs w' := fun p ⟨h1, v, h2, h3, h4⟩ => ⟨h1, v, hk.keep _ _ _ _ h2 (by simp), own_blk h3 (fun k hv => by
    rcases h3.2 with ⟨e, _⟩ | ⟨g, cap, cur, e, _, hr, _⟩
    · rw [e] at hv; cases hv
    · rw [e] at hv
      injection hv with hv
      subst hv
      rw [hr]
      exact hk.keep _ _ _ _ hr (by simp)), h4⟩
  exact h.elim (fun x => .inl (one _ x)) (fun x => .inr (one _ x))
/-- While pieces are written. -/
structure ShJ (w : World) (a : Option Addr) (n cap : Nat) (ve : Value) (pre : List (List UInt8)) (W : World) : Prop where
  bel : Below w.heap.size w W
  box : W.heap[w.heap.size + 3]? = some (.cells #[.slice a n cap] 22 (0, 0))
  yes : okP pre = true → Bl w.heap.size (w.heap.size + 2) (Lib.byteCells pre.flatten) W ∧ W.heap[w.heap.size]? = some (.cells #[.string ⟨#[]⟩] 9 (0, 0)) ∧ W.heap[w.heap.size + 1]? = some (.cells #[.nilIface] 24 (0, 0))
  no : okP pre = false → W.heap[w.heap.size]? = some (.cells #[.string ⟨#[]⟩] 9 (0, 0)) ∧ W.heap[w.heap.size + 1]? = some (.cells #[ve] 24 (0, 0))
theorem ShJ.keep {w : World} {a : Option Addr} {n cap : Nat} {ve : Value} {pre : List (List UInt8)} {A B : World} {S : Nat → Prop} (h : ShJ w a n cap ve pre A) (ho : Only A B S) (hs : ∀ k, S k → w.heap.size ≤ k) (hk : Kc [] A B) : ShJ w a n cap ve pre B :=
  ⟨h.bel.trans (ho.below h.bel.size hs), hk.keep _ _ _ _ h.box (by simp), fun q => ⟨(h.yes q).1.kc hk, hk.keep _ _ _ _ (h.yes q).2.1 (by simp), hk.keep _ _ _ _ (h.yes q).2.2 (by simp)⟩, fun q => ⟨hk.keep _ _ _ _ (h.no q).1 (by simp), hk.keep _ _ _ _ (h.no q).2 (by simp)⟩⟩
set_option maxRecDepth 100000 in
set_option maxHeartbeats 400000 in
theorem pieces_in (n : Nat) (a : Option Addr) (m c : Nat) (w : World) :
    CallsIn Fence.wide n Tryz.prog 39 #[.slice a m c] w fun e w' => e = .returned (.func (.func 55) #[] #[.pointer (some ⟨w.heap.size, 0, none⟩)]) ∧ w' = w.alloc (.cells #[.slice a m c] 22) := by
  refine callsIn_of_wp Tryz.func39 rfl trivial ?_ rfl
  simp only [Tryz.ntmps39, List.size_toArray, List.length_cons, List.length_nil, Nat.reduceAdd, Nat.reduceSub, Array.replicate_succ, Array.replicate_zero, List.push_toArray, List.append_toArray, List.nil_append, List.cons_append]
  gi_wp2
  go_ret
  exact ⟨rfl, rfl⟩
/-- An activation in whose slots s and q a text is put. -/
def actS (a : Act) (s q : Nat) (x : List UInt8) : Act := { tmps := (a.tmps.setIfInBounds s (.string ⟨x.toArray⟩)).setIfInBounds q (.string ⟨x.toArray⟩), defers := [] }
theorem wpIn_rangePieces' {gop : Operand} {s : Tmp} {assign body : Code} {Q : Exit → Act → World → Prop} {a : Act} {w : World} (q n : Nat) (hn : 2 ≤ n) (g : Nat) (C : List Cs) (aC : Option Addr) (cap : Nat) (w0 : World) (hl : C.length ≤ 20000) (hP : ∀ x ∈ C, x.1.length ≤ 20000000 ∧ x.2.length ≤ 1000000000) (hok : okC C = true) (hC : CsA w0 aC C) (hT : TabAt 20 Lib.deBruijn64tab w0)
    (hg : a.eval gop = .func (.func 55) #[] #[.pointer (some ⟨g, 0, none⟩)])
    (J : List (List UInt8) → World → Prop)
    (hJk : ∀ pre A B, J pre A → Only A B (fun k => k = w.heap.size ∨ k = w.heap.size + 1) → Kc [] A B → J pre B)
    (hJs : ∀ pre A, J pre A → Below w0.heap.size w0 A ∧ A.heap[g]? = some (.cells #[.slice aC C.length cap] 22 (0, 0)))
    (h0 : J [] w)
    (hassign : ∀ (lp : Nat) (x : List UInt8) (W : World) (K : Act → World → Prop), K (actS a s q x) W → assign.wpIn (Fence.wide.inRound lp) (n - 1 - 1) Tryz.prog (Exit.then K (fun _ _ _ => False)) { tmps := a.tmps.setIfInBounds s (.string ⟨x.toArray⟩), defers := [] } W)
    (hbody : ∀ (lp : Nat) (pre : List (List UInt8)) (x : List UInt8) (v : Bool) (W : World), J pre W → okP pre = true → okP (pre ++ [x]) = v → (∃ r, pre ++ x :: r = pcs C C.length) → (W.heap[w.heap.size]? = some (.deferred (some [])) ∧ ∃ rc, W.heap[w.heap.size + 1]? = some (.loop rc)) →
      body.wpIn (Fence.wide.inRound lp) (n - 1 - 1) Tryz.prog (fun e _ W' => e = (if v then .normal else .ret) ∧ J (pre ++ [x]) W' ∧ W'.heap[w.heap.size]? = W.heap[w.heap.size]? ∧ W'.heap[w.heap.size + 1]? = W.heap[w.heap.size + 1]? ∧ Kc tyS W W') (actS a s q x) W)
    (hdone : ∀ W, J (pcs C C.length) W → okP (pcs C C.length) = true → W.heap[w.heap.size]? = some (.deferred (some [])) → Q .normal { a with defers := markD w.heap.size :: a.defers } W)
    (hret : ∀ pre W, J pre W → okP pre = false → (∃ r, pre ++ r = pcs C C.length) → W.heap[w.heap.size]? = some (.deferred (some [])) → Q .ret { a with defers := markD w.heap.size :: a.defers } W) :
    (Code.rangeFunc gop #[s] assign body).wpIn Fence.wide n Tryz.prog Q a w :=
  wpIn_rangePieces n hn g C aC cap w0 hl hP hok hC hT hg rfl J hJk hJs h0 (actS a s q) (fun l x W K hK => by simpa using hassign l x W K hK) hbody hdone hret
/-- Three cells, then a box. -/
theorem laid3 {w w' : World} {o1 o2 o3 : Array Value} {t1 t2 t3 : TypeId} (h : ((w.alloc (.cells o1 t1)).alloc (.cells o2 t2)).alloc (.cells o3 t3) = w') : Below w.heap.size w w' ∧ w'.heap[w.heap.size]? = some (.cells o1 t1 (0, 0)) ∧ w'.heap[w.heap.size + 1]? = some (.cells o2 t2 (0, 0)) ∧ w'.heap[w.heap.size + 2]? = some (.cells o3 t3 (0, 0)) ∧ w'.heap.size = w.heap.size + 3 := by
  subst h
  have s1 : (w.alloc (.cells o1 t1)).heap.size = w.heap.size + 1 := by simp
  have s2 : ((w.alloc (.cells o1 t1)).alloc (.cells o2 t2)).heap.size = w.heap.size + 2 := by simp
  refine ⟨(((Below.refl _ w).alloc (Nat.le_refl _) _).alloc (by simp) _).alloc (by simp; omega) _, ?_, ?_, ?_, by simp⟩
  · exact (Below.heap_alloc _ _ _ (by simp; omega)).trans ((Below.heap_alloc _ _ _ (by simp)).trans (heap_alloc_new w _))
  · have := heap_alloc_new (w.alloc (.cells o1 t1)) (.cells o2 t2)
    rw [s1] at this
    exact (Below.heap_alloc _ _ _ (by simp)).trans this
  · have := heap_alloc_new ((w.alloc (.cells o1 t1)).alloc (.cells o2 t2)) (.cells o3 t3)
    rwa [s2] at this
theorem wr_kc {B b : Nat} {bs : List Value} {W W' : World} (h : Bl B b bs W) (hk : Kb b W W') (hs : W.heap.size ≤ W'.heap.size) : Kc tyS W W' := ⟨hs, fun i c t z hi ht => by
  by_cases e : i = b
  · subst e
    exfalso
    have one : ∀ p, Lib.BuilderAt 85 5 B i p bs W → False := fun p ⟨_, v, h2, _, _⟩ => by
      rw [hi] at h2
      injection h2 with h2
      injection h2 with _ h2
      rw [h2] at ht
      exact ht (by decide)
    exact h.elim (one _) (one _)
  · refine hk i _ hi (fun c' z' e2 => ?_) e
    injection e2 with _ e2
    rw [e2] at ht
    exact ht (by decide)⟩
theorem ret_fin {w : World} {a : Option Addr} {n cap d : Nat} {ve : Value} {pre : List (List UInt8)} {x : List UInt8} {W : World} {rc : Loop} (h : ShJ w a n cap ve pre W) (hp : okP pre = true) (_hd : W.heap[d]? = some (.deferred (some []))) (_hl : W.heap[d + 1]? = some (.loop rc)) (hv : okP (pre ++ [x]) = false) (hs : d = w.heap.size + 4) :
    ShJ w a n cap ve (pre ++ [x]) ((W.setCell ⟨w.heap.size, 0, none⟩ (.string ⟨#[]⟩)).setCell ⟨w.heap.size + 1, 0, none⟩ ve).drew ∧ ((W.setCell ⟨w.heap.size, 0, none⟩ (.string ⟨#[]⟩)).setCell ⟨w.heap.size + 1, 0, none⟩ ve).drew.heap[d]? = W.heap[d]? ∧ ((W.setCell ⟨w.heap.size, 0, none⟩ (.string ⟨#[]⟩)).setCell ⟨w.heap.size + 1, 0, none⟩ ve).drew.heap[d + 1]? = W.heap[d + 1]? ∧ Kc tyS W ((W.setCell ⟨w.heap.size, 0, none⟩ (.string ⟨#[]⟩)).setCell ⟨w.heap.size + 1, 0, none⟩ ve).drew := by
  obtain ⟨_, y2, y3⟩ := h.yes hp
  have ho : ∀ k, k ≠ w.heap.size → k ≠ w.heap.size + 1 → ((W.setCell ⟨w.heap.size, 0, none⟩ (.string ⟨#[]⟩)).setCell ⟨w.heap.size + 1, 0, none⟩ ve).drew.heap[k]? = W.heap[k]? := fun k h1 h2 => (Below.heap_setCell _ _ _ k h2).trans (Below.heap_setCell _ _ _ k h1)
  have z2 : ((W.setCell ⟨w.heap.size, 0, none⟩ (.string ⟨#[]⟩)).setCell ⟨w.heap.size + 1, 0, none⟩ ve).drew.heap[w.heap.size]? = some (.cells #[.string ⟨#[]⟩] 9 (0, 0)) := (Below.heap_setCell _ _ _ _ (by simp)).trans (heap_setCell_same W _ 0 _ _ _ y2)
  have y3' : (W.setCell ⟨w.heap.size, 0, none⟩ (.string ⟨#[]⟩)).heap[w.heap.size + 1]? = some (.cells #[.nilIface] 24 (0, 0)) := (Below.heap_setCell W _ _ _ (by simp)).trans y3
  have z3 : ((W.setCell ⟨w.heap.size, 0, none⟩ (.string ⟨#[]⟩)).setCell ⟨w.heap.size + 1, 0, none⟩ ve).drew.heap[w.heap.size + 1]? = some (.cells #[ve] 24 (0, 0)) := heap_setCell_same _ _ 0 _ _ ve y3'
  refine ⟨⟨?_, (ho _ (by omega) (by omega)).trans h.box, fun q => (by rw [hv] at q; cases q), fun _ => ⟨z2, z3⟩⟩, ho _ (by omega) (by omega), ho _ (by omega) (by omega), ⟨by simp, fun i c t z hi ht => ?_⟩⟩
  · exact ((h.bel.setCell (p := ⟨w.heap.size, 0, none⟩) (Nat.le_refl _) _).setCell (p := ⟨w.heap.size + 1, 0, none⟩) (by simp) _).drew
  · by_cases e1 : i = w.heap.size
    · subst e1
      rw [y2] at hi
      injection hi with hi
      injection hi with _ hi
      rw [← hi] at ht
      exact absurd ht (by decide)
    · by_cases e2 : i = w.heap.size + 1
      · subst e2
        rw [y3] at hi
        injection hi with hi
        injection hi with _ hi
        rw [← hi] at ht
        exact absurd ht (by decide)
      · exact (ho i e1 e2).trans hi
set_option maxRecDepth 100000 in
set_option maxHeartbeats 2000000 in
theorem shortFile_any (C : List Cs) (a : Option Addr) (cap : Nat) (pe : Addr) (w : World) (hl : C.length ≤ 20000) (hP : ∀ x ∈ C, x.1.length ≤ 20000000 ∧ x.2.length ≤ 1000000000) (hok : okC C = true) (hC : CsA w a C) (hT : TabAt 20 Lib.deBruijn64tab w) (hE : w.cell? ⟨0, 0, none⟩ = some (.iface 189 (.pointer (some pe)))) :
    Calls Tryz.prog 24 #[.slice a C.length cap] w fun e w' => (∃ (t : List UInt8) (v : Value), e = .returned (.tuple #[.string ⟨t.toArray⟩, v]) ∧ ((1048576 < (jn C C.length).length ∧ t = [] ∧ v = .iface 189 (.pointer (some pe))) ∨ (¬ 1048576 < (jn C C.length).length ∧ t = jn C C.length ∧ v = .nilIface))) ∧ Below w.heap.size w w' := by
  have HC := hid0 hC
  have HPm := hid0 hP
  have HOk := hid0 hok
  have HT := hid0 hT
  have HE := hid0 hE
  obtain ⟨N, hN⟩ : ∃ N, C.length = N := ⟨_, rfl⟩
  have HN := hid0 hN
  have HL := hid0 hl
  obtain ⟨w1, hw1⟩ : ∃ w1, ((w.alloc (.cells #[.string ⟨#[]⟩] 9)).alloc (.cells #[.nilIface] 24)).alloc (.cells #[.pointer none, .slice none 0 0] 85) = w1 := ⟨_, rfl⟩
  obtain ⟨b1, r0, r1, r2, s1⟩ := laid3 hw1
  obtain ⟨w2, hw2⟩ : ∃ w2, w1.alloc (.cells #[.slice a N cap] 22) = w2 := ⟨_, rfl⟩
  have bb2 : Below w1.heap.size w1 w2 := by rw [← hw2]; exact (Below.refl _ _).alloc (Nat.le_refl _) _
  have s2 : w2.heap.size = w.heap.size + 4 := by rw [← hw2]; simp; omega
  have r3 : w2.heap[w.heap.size + 3]? = some (.cells #[.slice a N cap] 22 (0, 0)) := by
    have := heap_alloc_new w1 (.cells #[.slice a N cap] 22)
    rwa [hw2, s1] at this
  have HJ0 : Hid (ShJ w a N cap (.iface 189 (.pointer (some pe))) [] w2) := hid0 ⟨Below.later b1 bb2, r3, fun _ => ⟨.inl ⟨by omega, _, (bb2.block _ (by omega)).trans r2, World.ownsRow_nil _ _ _ _, by simp [Value.ownBlock]⟩, (bb2.block _ (by omega)).trans r0, (bb2.block _ (by omega)).trans r1⟩, fun h => nomatch h⟩
  have HS1 : Hid (w1.heap.size = w.heap.size + 3) := hid0 s1
  have HS2 : Hid (w2.heap.size = w.heap.size + 4) := hid0 s2
  rw [hN]
  clear hC hP hok hT hE hN hl b1 r0 r1 r2 r3 s1 s2 bb2
  refine (callsIn_wide (n := 8)).1 ?_
  refine callsIn_of_wp_marks Tryz.func24 rfl trivial ?_ rfl
  simp only [Tryz.ntmps24, List.size_toArray, List.length_cons, List.length_nil, Nat.reduceAdd, Nat.reduceSub, Array.replicate_succ, Array.replicate_zero, List.push_toArray, List.append_toArray, List.nil_append, List.cons_append]
  gi_wp2_with (first
    | (refine ⟨trivial, ?_⟩; gi_at_call 39; refine (pieces_in _ _ _ _ _).mono ?_; rintro e w' ⟨rfl, hw'⟩; rw [hw2] at hw'; subst hw')
    | fail)
  clear hw1 hw2
  refine wpIn_rangePieces' 5 8 (by omega) w1.heap.size C a cap w HL.out HPm.out HOk.out HC.out HT.out rfl (ShJ w a N cap (.iface 189 (.pointer (some pe)))) ?keep1 ?inv1 HJ0.out ?assign1 ?body1 ?done1 ?ret1
  case keep1 =>
    intro pre A B hA ho hk
    exact hA.keep ho (fun k hk => by have := HS2.out; omega) hk
  case inv1 =>
    intro pre A hA
    rw [HN.out, HS1.out]
    exact ⟨hA.bel, hA.box⟩
  case assign1 =>
    intro l x W K hK
    simp only [actS, List.setIfInBounds_toArray, List.set_cons_succ, List.set_cons_zero] at hK ⊢
    gi_wp2
    exact hK
  case body1 =>
    rintro lp pre x v W hJ hok1 hv hx ⟨hd, rc, hlo⟩
    simp only [actS, List.setIfInBounds_toArray, List.set_cons_succ, List.set_cons_zero]
    obtain ⟨y1, y2, y3⟩ := hJ.yes hok1
    have hpl : pre.flatten.length ≤ 1048576 := of_decide_eq_true hok1
    have hxl : x.length ≤ 10 := by
      obtain ⟨r, hr⟩ := hx
      exact pcs_len C C.length x (by rw [← hr]; simp)
    have HLen : Hid (Calls Tryz.prog 40 #[.pointer (some ⟨w.heap.size + 2, 0, none⟩)] W fun e w' => e = .returned (.int .i64 ((Lib.byteCells pre.flatten).length : Nat)) ∧ w' = W) := hid0 (Any.Builder_Len Tryz.lays170 w.heap.size (w.heap.size + 2) (Lib.byteCells pre.flatten) W y1)
    have hbl : (Lib.byteCells pre.flatten).length = pre.flatten.length := Lib.byteCells_length _
    have hflat : (pre ++ [x]).flatten = pre.flatten ++ x := by simp
    have hst := okP_step pre x
    rw [hv] at hst
    have hWs := hJ.bel.size
    have HWr := hid0 (writeString_any w.heap.size (w.heap.size + 2) (Lib.byteCells pre.flatten) ⟨x.toArray⟩ W y1 (by rw [hbl, strT]; omega) hWs)
    have hxs : (⟨x.toArray⟩ : ByteArray).size = x.length := strT x
    have HCe : Hid (Lib.byteCells pre.flatten ++ Lib.strCells ⟨x.toArray⟩ = Lib.byteCells (pre ++ [x]).flatten) := hid0 (by rw [hflat, Lib.byteCells_append]; congr 1)
    have HJW := hid0 hJ
    have HOk1 := hid0 hok1
    have HDd := hid0 (And.intro hd hlo)
    rw [hbl] at HLen
    generalize hp1 : pre.flatten.length = pl at *
    generalize hx1 : x.length = xl at *
    generalize (⟨x.toArray⟩ : ByteArray) = X at *
    cases v with
    | true =>
      have hcmp : ¬ (pl : Int) + (xl : Int) > 1048576 := by have := of_decide_eq_true hst.symm; omega
      have HV := hid0 hv
      clear hJ y1 hd hlo hst hv hflat hbl hp1 hx1 hx hok1
      gi_wp2_with (first
        | (refine ⟨trivial, ?_⟩; gi_at_call 40; refine (CallsIn.inRound lp (callsIn_wide.2 HLen.out)).mono ?_; rintro e W1 ⟨rfl, hw⟩; subst hw)
        | (refine ⟨trivial, ?_⟩; gi_at_call 41; refine (CallsIn.inRound lp (callsIn_wide.2 HWr.out)).mono ?_; rintro e W2 ⟨rfl, h1, h2, h3⟩; have HB := hid0 (And.intro h1 (And.intro h2 h3)); clear h1 h2 h3)
        | fail)
      obtain ⟨h1, h2, h3⟩ := HB.out
      have hs2 := HS2.out
      have hd3 := h3 _ _ HDd.out.1 (fun _ _ e => nomatch e) (by omega)
      have hl3 := h3 _ _ HDd.out.2 (fun _ _ e => nomatch e) (by omega)
      refine ⟨⟨HJW.out.bel.trans h2, h3 _ _ HJW.out.box (fun c z e => by injection e with _ e; cases e) (by omega), fun _ => ⟨.inr (by rw [← HCe.out]; exact h1), h3 _ _ y2 (fun c z e => by injection e with _ e; cases e) (by omega), h3 _ _ y3 (fun c z e => by injection e with _ e; cases e) (by omega)⟩, fun q => by rw [HV.out] at q; cases q⟩, ?_, ?_, ?_⟩
      · rw [hd3, HDd.out.1]
      · rw [hl3, HDd.out.2]
      · exact wr_kc (HJW.out.yes HOk1.out).1 h3 h2.size
    | false =>
      have hcmp : (pl : Int) + (xl : Int) > 1048576 := by have := of_decide_eq_false hst.symm; omega
      have HV := hid0 hv
      clear hJ y1 hd hlo hst hv hflat hbl hp1 hx1 hx hok1 HWr
      have hmx : Tryz.prog.follows .mixedOrders = true := by kernel_rfl
      have z2 : W.cell? ⟨w.heap.size, 0, none⟩ = some (.string ⟨#[]⟩) := by rw [cell_of_row _ _ _ _ _ _ y2]; rfl
      have z3 : W.cell? ⟨w.heap.size + 1, 0, none⟩ = some .nilIface := by rw [cell_of_row _ _ _ _ _ _ y3]; rfl
      have f2 : W.frozen? ⟨w.heap.size, 0, none⟩ = false := frozen_of_row _ _ _ _ _ y2
      have f3 : W.frozen? ⟨w.heap.size + 1, 0, none⟩ = false := frozen_of_row _ _ _ _ _ y3
      have zE : W.cell? ⟨0, 0, none⟩ = some (.iface 189 (.pointer (some pe))) := (HJW.out.bel.cell (p := ⟨0, 0, none⟩) (World.block_lt_of_cell? w _ HE.out)).trans HE.out
      have hne : ¬ w.heap.size = 0 := by have := World.block_lt_of_cell? w _ HE.out; simp only at this; omega
      have hne1 : ¬ w.heap.size + 1 = 0 := by omega
      gi_wp2_with (first
        | (refine ⟨trivial, ?_⟩; gi_at_call 40; refine (CallsIn.inRound lp (callsIn_wide.2 HLen.out)).mono ?_; rintro e W1 ⟨rfl, hw⟩; subst hw)
        | fail)
      gi_region_with_o (fail)
      all_goals gi_wp2
      all_goals exact ret_fin HJW.out HOk1.out HDd.out.1 HDd.out.2 HV.out HS2.out
  case done1 =>
    intro W hj hq hd
    obtain ⟨y1, y2, y3⟩ := hj.yes hq
    have hlong : ¬ 1048576 < (jn C N).length := by
      have := of_decide_eq_true hq
      rw [pcs_flat, HN.out] at this
      omega
    have hfl : (pcs C C.length).flatten = jn C N := by rw [pcs_flat, HN.out]
    rw [hfl] at y1
    have HSt : Hid (Calls Tryz.prog 42 #[.pointer (some ⟨w.heap.size + 2, 0, none⟩)] W fun e w' => e = .returned (.string ⟨(jn C N).toArray⟩) ∧ Below w.heap.size W w' ∧ Lib.OthersKept 5 (some (w.heap.size + 2)) W w') := hid0 ((Any.Builder_String_any_k Tryz.lays169 ext169 w.heap.size (w.heap.size + 2) (jn C N) W (Lib.IsBuilderF.of y1) hj.bel.size).mono (fun e w' h => ⟨h.1, h.2.2.1, h.2.2.2⟩))
    have HLg := hid0 hlong
    have HB := hid0 hj.bel
    have HY := hid0 (And.intro y2 (And.intro y3 hd))
    obtain ⟨JN, hJN⟩ : ∃ JN, JN = jn C N := ⟨_, rfl⟩
    rw [← hJN] at HSt HLg
    have HJN := hid0 hJN
    clear hJN hj hq hd y1 y2 y3 hlong hfl
    generalize hSS : (⟨JN.toArray⟩ : ByteArray) = SS at *
    have HSS := hid0 hSS
    clear hSS
    gi_wp2_with (first
      | (refine ⟨trivial, ?_⟩; gi_at_call 42; refine (callsIn_wide.2 HSt.out).mono ?_; rintro e y ⟨rfl, hb, hk⟩; have hs2 := HS2.out; have k2 := hk _ _ HY.out.1 (by simp) (fun c z e => by injection e with _ e; cases e); have k3 := hk _ _ HY.out.2.1 (by simp) (fun c z e => by injection e with _ e; cases e); have HD := hid0 (hk _ _ HY.out.2.2 (by simp; omega) (fun c z e => nomatch e)); have HBy := hid0 (HB.out.trans hb); have z2 : y.cell? ⟨w.heap.size, 0, none⟩ = some (.string ⟨#[]⟩) := (by rw [cell_of_row _ _ _ _ _ _ k2]; rfl); have z3 : y.cell? ⟨w.heap.size + 1, 0, none⟩ = some .nilIface := (by rw [cell_of_row _ _ _ _ _ _ k3]; rfl); have f2 : y.frozen? ⟨w.heap.size, 0, none⟩ = false := frozen_of_row _ _ _ _ _ k2; have f3 : y.frozen? ⟨w.heap.size + 1, 0, none⟩ = false := frozen_of_row _ _ _ _ _ k3; have HK := hid0 (And.intro k2 k3); clear hb hk k2 k3)
      | fail)
    have hV2 : ((y.setCell ⟨w.heap.size, 0, none⟩ (.string SS)).setCell ⟨w.heap.size + 1, 0, none⟩ .nilIface).heap[w.heap.size]? = some (.cells #[.string SS] 9 (0, 0)) := (Below.heap_setCell _ _ _ _ (by simp)).trans (heap_setCell_same y _ 0 _ _ _ HK.out.1)
    have hV3 : ((y.setCell ⟨w.heap.size, 0, none⟩ (.string SS)).setCell ⟨w.heap.size + 1, 0, none⟩ .nilIface).heap[w.heap.size + 1]? = some (.cells #[.nilIface] 24 (0, 0)) := heap_setCell_same _ _ 0 _ _ _ ((Below.heap_setCell y ⟨w.heap.size, 0, none⟩ (.string SS) _ (by simp)).trans HK.out.2)
    have hVd : ((y.setCell ⟨w.heap.size, 0, none⟩ (.string SS)).setCell ⟨w.heap.size + 1, 0, none⟩ .nilIface).heap[w.heap.size + 4]? = some (.deferred (some [])) := (Below.heap_setCell _ _ _ _ (by simp)).trans ((Below.heap_setCell y _ _ _ (by simp)).trans (by rw [← hs2]; exact HD.out))
    have hVb : Below w.heap.size w ((y.setCell ⟨w.heap.size, 0, none⟩ (.string SS)).setCell ⟨w.heap.size + 1, 0, none⟩ .nilIface) := (HBy.out.setCell (p := ⟨w.heap.size, 0, none⟩) (Nat.le_refl _) _).setCell (p := ⟨w.heap.size + 1, 0, none⟩) (by simp) _
    refine leaves_marks w.heap.size [w.heap.size + 4] _ (fun d hd => by rw [List.mem_singleton] at hd; rw [hd]; exact ⟨by omega, hVd⟩) (by simp) (fun Wf hW => ?_)
    have g2 := (hW.block _ (Array.getElem?_eq_some_iff.1 hV2).1 (by simp)).trans hV2
    have g3 := (hW.block _ (Array.getElem?_eq_some_iff.1 hV3).1 (by simp)).trans hV3
    have c0 : Wf.cell? ⟨w.heap.size, 0, none⟩ = some (.string SS) := by rw [cell_of_row _ _ _ _ _ _ g2]; rfl
    have c1 : Wf.cell? ⟨w.heap.size + 1, 0, none⟩ = some .nilIface := by rw [cell_of_row _ _ _ _ _ _ g3]; rfl
    refine ⟨_, (by simp [results, Tryz.results24, go_sem, c0, c1]; try rfl), ?_⟩
    exact ⟨⟨JN, .nilIface, by rw [HSS.out], .inr ⟨by rw [← HJN.out]; exact HLg.out, HJN.out, rfl⟩⟩, hVb.trans (hW.below hVb.size (fun k hk => by rw [List.mem_singleton] at hk; omega))⟩
  case ret1 =>
    intro pre W hj hq hpre hd
    have hlong := okP_long hq hpre
    rw [HN.out] at hlong
    have HLg := hid0 hlong
    have hs2 := HS2.out
    have HK := hid0 (And.intro (hj.no hq) hd)
    have HB := hid0 hj.bel
    clear hj hq hpre hd hlong
    gi_wp2
    have hV2 : W.heap[w.heap.size]? = some (.cells #[.string ⟨#[]⟩] 9 (0, 0)) := HK.out.1.1
    have hV3 : W.heap[w.heap.size + 1]? = some (.cells #[(.iface 189 (.pointer (some pe)))] 24 (0, 0)) := HK.out.1.2
    have hVd : W.heap[w'.heap.size]? = some (.deferred (some [])) := HK.out.2
    have hVb : Below w.heap.size w W := HB.out
    refine leaves_marks w.heap.size [w'.heap.size] _ (fun d hd => by rw [List.mem_singleton] at hd; rw [hd]; exact ⟨by omega, hVd⟩) (by simp) (fun Wf hW => ?_)
    have g2 := (hW.block _ (Array.getElem?_eq_some_iff.1 hV2).1 (by simp; omega)).trans hV2
    have g3 := (hW.block _ (Array.getElem?_eq_some_iff.1 hV3).1 (by simp; omega)).trans hV3
    have c0 : Wf.cell? ⟨w.heap.size, 0, none⟩ = some (.string ⟨#[]⟩) := by rw [cell_of_row _ _ _ _ _ _ g2]; rfl
    have c1 : Wf.cell? ⟨w.heap.size + 1, 0, none⟩ = some (.iface 189 (.pointer (some pe))) := by rw [cell_of_row _ _ _ _ _ _ g3]; rfl
    refine ⟨_, (by simp [results, Tryz.results24, go_sem, c0, c1]; try rfl), ?_⟩
    exact ⟨⟨[], _, rfl, .inl ⟨HLg.out, rfl, rfl⟩⟩, hVb.trans (hW.below hVb.size (fun k hk => by rw [List.mem_singleton] at hk; omega))⟩
end Go.Proofs.YtcbepmjojppokaaGreatDoor.Tp
