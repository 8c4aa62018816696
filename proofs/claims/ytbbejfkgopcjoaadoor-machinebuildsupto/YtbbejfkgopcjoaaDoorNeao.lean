/-
  MbZW.
-/
import Derived.Test.YtbbejfkgopcjoaaDoorNean
namespace Go.Proofs.YtbbejfkgopcjoaaDoor
open Go.RowKit Go.Shelf
/-- Lists of a pattern, as add reads them. -/
structure PaA (V : World) (aF aA aO : Option Addr) (Fi La : List Nat) (Fo : List (List Nat)) : Prop where
  fi : IA V aF (nI Fi)
  la : IA V aA (nI La)
  fo : RwA V aO (Fo.map nI)
/-- Blocks of other kinds stay. -/
structure KeT (W W' : World) : Prop where
  size : W.heap.size ≤ W'.heap.size
  kp : ∀ (k : Nat) (cs : Array Value) (t : TypeId) (f : Nat × Nat), W.heap[k]? = some (.cells cs t f) → t ≠ 91 → t ≠ 3 → t ≠ 130 → t ≠ 105 → W'.heap[k]? = W.heap[k]?
theorem KeT.below {W W' : World} (h : Below W.heap.size W W') : KeT W W' := ⟨h.size, fun k _ _ _ hk _ _ _ _ => h.block k (Array.getElem?_eq_some_iff.1 hk).1⟩
theorem KeT.trans {A B C : World} (h : KeT A B) (g : KeT B C) : KeT A C := ⟨Nat.le_trans h.size g.size, fun k cs t f hk h1 h2 h3 h4 => (g.kp k cs t f ((h.kp k cs t f hk h1 h2 h3 h4).trans hk) h1 h2 h3 h4).trans (h.kp k cs t f hk h1 h2 h3 h4)⟩
theorem KeT.row {W W' : World} {J lo : Nat} {t : TypeId} {s n : Nat} {v : Value} {xs : List Value} {cs0 : Array Value} {f0 : Nat × Nat} (hJ : W.heap[J]? = some (.cells cs0 91 f0)) (hv : W.ownsRow lo t s v n xs) (ht : t = 3 ∨ t = 130 ∨ t = 105) (hO : Only W W' (fun k => k = J ∨ v.ownBlock = some k)) : KeT W W' := ⟨hO.size, fun k cs t' f hk h1 h2 h3 h4 => hO.block k (Array.getElem?_eq_some_iff.1 hk).1 (fun e => e.elim (fun e => by
    rw [e, hJ] at hk
    injection hk with hk
    injection hk with _ h5
    exact h1 h5.symm) (own_ne_blk hv hk (fun e => by
    subst e
    rcases ht with h | h | h
    · exact h2 h
    · exact h3 h
    · exact h4 h)))⟩
/-- While a pattern is added. -/
structure AdI (w : World) (J sy lo pb : Nat) (pc : Array Value) (vL vM vZ vP vC : Value) (own : List Nat) (it : List (Nat × Nat)) (en : List Nat) (N : Nat) (la op cl : Nat → Bool) (at0 alw : List Nat) (W : World) : Prop where
  bel : Below lo w W
  kp : KeT w W
  box : W.heap[pb]? = some (.cells pc 48 (0, 0))
  jo : ∃ vO vF vE vS vA, JoS W J sy lo vO vF vE vL vM vZ vP vC vS vA own it en N la op cl at0 alw ∧ (it = [] → vF = .slice none 0 0)
theorem AdI.next {w W W' : World} {J sy lo pb : Nat} {pc : Array Value} {vL vM vZ vP vC : Value} {own own' : List Nat} {it it' : List (Nat × Nat)} {en en' : List Nat} {N : Nat} {la op cl la' op' cl' : Nat → Bool} {at0 alw at0' alw' : List Nat} {t : TypeId} {s n : Nat} {v : Value} {xs : List Value} (h : AdI w J sy lo pb pc vL vM vZ vP vC own it en N la op cl at0 alw W) (hlo : lo ≤ J) (hlw : lo ≤ w.heap.size) (hv : W.ownsRow lo t s v n xs) (ht : t = 3 ∨ t = 130 ∨ t = 105) (hO : Only W W' (fun k => k = J ∨ v.ownBlock = some k))
    (hn : ∃ vO vF vE vS vA, JoS W' J sy lo vO vF vE vL vM vZ vP vC vS vA own' it' en' N la' op' cl' at0' alw' ∧ (it' = [] → vF = .slice none 0 0)) : AdI w J sy lo pb pc vL vM vZ vP vC own' it' en' N la' op' cl' at0' alw' W' where
  bel := h.bel.trans (below_of_row hv hlo (Nat.le_trans hlw h.bel.size) hO)
  kp := by
    obtain ⟨vO, vF, vE, vS, vA, hj, _⟩ := h.jo
    exact h.kp.trans (KeT.row hj.b.r hv ht hO)
  box := by
    obtain ⟨vO, vF, vE, vS, vA, hj, _⟩ := h.jo
    exact ((KeT.row hj.b.r hv ht hO).kp pb _ _ _ h.box (by decide) (by decide) (by decide) (by decide)).trans h.box
  jo := hn
theorem AdI.drew {w W : World} {J sy lo pb : Nat} {pc : Array Value} {vL vM vZ vP vC : Value} {own : List Nat} {it : List (Nat × Nat)} {en : List Nat} {N : Nat} {la op cl : Nat → Bool} {at0 alw : List Nat} (h : AdI w J sy lo pb pc vL vM vZ vP vC own it en N la op cl at0 alw W) : AdI w J sy lo pb pc vL vM vZ vP vC own it en N la op cl at0 alw W.drew where
  bel := h.bel.drew
  kp := h.kp.trans (KeT.below (Below.refl _ _).drew)
  box := h.box
  jo := by
    obtain ⟨vO, vF, vE, vS, vA, hj, h0⟩ := h.jo
    exact ⟨vO, vF, vE, vS, vA, hj.past (Below.refl _ _).drew, h0⟩
theorem AdI.addZ {w W : World} {J sy lo pb : Nat} {pc : Array Value} {vL vM vP vC : Value} {own : List Nat} {it : List (Nat × Nat)} {en : List Nat} {N G cc base cL : Nat} {la op cl : Nat → Bool} {at0 alw L : List Nat} {aL : Option Addr} (h : AdI w J sy lo pb pc vL vM (.slice (some ⟨G, 0, none⟩) N cc) vP vC own it en N la op cl at0 alw W) (hlo : lo ≤ J) (hlw : lo ≤ w.heap.size) (hL : ∀ V : World, Below lo w V → IA V aL (nI L)) (hN : N ≤ 1000000) (hb : ∀ p ∈ L, base + p < 64 * N) (hl : L.length ≤ 100000000) (hbs : base ≤ 100000000) :
    Calls Tryd.prog 69 #[.slice (some ⟨G, 0, none⟩) N cc, .int .i64 (base : Int), .slice aL L.length cL] W fun e w' => (∃ v, e = .returned v) ∧ Hid (AdI w J sy lo pb pc vL vM (.slice (some ⟨G, 0, none⟩) N cc) vP vC own it en N (setL la base L) op cl at0 alw w') := by
  obtain ⟨vO, vF, vE, vS, vA, hj, h0⟩ := h.jo
  refine (addAll_z J sy lo base N G cc cL aL vO vF vE vL vM vP vC vS vA own it en la op cl at0 alw L W hj (Nat.le_trans hlw h.bel.size) (fun V hV => hL V (h.bel.trans hV)) hN hb hl hbs).mono (fun _ _ ⟨h1, h2, h3, _⟩ => ⟨h1, hid0 (h.next hlo hlw hj.z (by decide) (h3.mono (fun k hk => .inr (by rw [hk]; rfl))) ⟨vO, vF, vE, vS, vA, h2, h0⟩)⟩)
theorem AdI.addP {w W : World} {J sy lo pb : Nat} {pc : Array Value} {vL vM vZ vC : Value} {own : List Nat} {it : List (Nat × Nat)} {en : List Nat} {N G cc base cL : Nat} {la op cl : Nat → Bool} {at0 alw L : List Nat} {aL : Option Addr} (h : AdI w J sy lo pb pc vL vM vZ (.slice (some ⟨G, 0, none⟩) N cc) vC own it en N la op cl at0 alw W) (hlo : lo ≤ J) (hlw : lo ≤ w.heap.size) (hL : ∀ V : World, Below lo w V → IA V aL (nI L)) (hN : N ≤ 1000000) (hb : ∀ p ∈ L, base + p < 64 * N) (hl : L.length ≤ 100000000) (hbs : base ≤ 100000000) :
    Calls Tryd.prog 69 #[.slice (some ⟨G, 0, none⟩) N cc, .int .i64 (base : Int), .slice aL L.length cL] W fun e w' => (∃ v, e = .returned v) ∧ Hid (AdI w J sy lo pb pc vL vM vZ (.slice (some ⟨G, 0, none⟩) N cc) vC own it en N la (setL op base L) cl at0 alw w') := by
  obtain ⟨vO, vF, vE, vS, vA, hj, h0⟩ := h.jo
  refine (addAll_p J sy lo base N G cc cL aL vO vF vE vL vM vZ vC vS vA own it en la op cl at0 alw L W hj (Nat.le_trans hlw h.bel.size) (fun V hV => hL V (h.bel.trans hV)) hN hb hl hbs).mono (fun _ _ ⟨h1, h2, h3, _⟩ => ⟨h1, hid0 (h.next hlo hlw hj.p (by decide) (h3.mono (fun k hk => .inr (by rw [hk]; rfl))) ⟨vO, vF, vE, vS, vA, h2, h0⟩)⟩)
theorem AdI.addC {w W : World} {J sy lo pb : Nat} {pc : Array Value} {vL vM vZ vP : Value} {own : List Nat} {it : List (Nat × Nat)} {en : List Nat} {N G cc base cL : Nat} {la op cl : Nat → Bool} {at0 alw L : List Nat} {aL : Option Addr} (h : AdI w J sy lo pb pc vL vM vZ vP (.slice (some ⟨G, 0, none⟩) N cc) own it en N la op cl at0 alw W) (hlo : lo ≤ J) (hlw : lo ≤ w.heap.size) (hL : ∀ V : World, Below lo w V → IA V aL (nI L)) (hN : N ≤ 1000000) (hb : ∀ p ∈ L, base + p < 64 * N) (hl : L.length ≤ 100000000) (hbs : base ≤ 100000000) :
    Calls Tryd.prog 69 #[.slice (some ⟨G, 0, none⟩) N cc, .int .i64 (base : Int), .slice aL L.length cL] W fun e w' => (∃ v, e = .returned v) ∧ Hid (AdI w J sy lo pb pc vL vM vZ vP (.slice (some ⟨G, 0, none⟩) N cc) own it en N la op (setL cl base L) at0 alw w') := by
  obtain ⟨vO, vF, vE, vS, vA, hj, h0⟩ := h.jo
  refine (addAll_c J sy lo base N G cc cL aL vO vF vE vL vM vZ vP vS vA own it en la op cl at0 alw L W hj (Nat.le_trans hlw h.bel.size) (fun V hV => hL V (h.bel.trans hV)) hN hb hl hbs).mono (fun _ _ ⟨h1, h2, h3, _⟩ => ⟨h1, hid0 (h.next hlo hlw hj.c (by decide) (h3.mono (fun k hk => .inr (by rw [hk]; rfl))) ⟨vO, vF, vE, vS, vA, h2, h0⟩)⟩)
/-- The joined patterns behind so many patterns. -/
def JoX (W : World) (J sy lo : Nat) (vL vM vZ vP vC : Value) (own : List Nat) (FO : List (List (Nat × Nat))) (N : Nat) (la op cl : Nat → Bool) (at0 alw : List Nat) : Prop := ∃ vO vF vE vS vA, JoS W J sy lo vO vF vE vL vM vZ vP vC vS vA own FO.flatten (endsN FO) N la op cl at0 alw ∧ (FO.flatten = [] → vF = .slice none 0 0)
theorem rowW_len (base : Nat) (L : List Nat) : (rowW base L).length ≤ L.length := by
  have key : ∀ n, n ≤ L.length → (rowW base (L.take n)).length ≤ n := by
    intro n
    induction n with
    | zero => intro _; simp [rowW]
    | succ n ih =>
      intro hn
      rw [rowW_take base (by omega)]
      have h1 := (addW_len (rowW base (L.take n)) 0 (base + L[n]) (Nat.zero_le _)).1
      have h2 := ih (by omega)
      omega
  have h := key L.length (Nat.le_refl _)
  rw [List.take_length] at h
  exact h
/-- The rows behind k patterns' lists more. -/
def FOs (FO : List (List (Nat × Nat))) (base : Nat) (Fo : List (List Nat)) (k : Nat) : List (List (Nat × Nat)) := FO ++ (Fo.take k).map (rowW base)
theorem FOs_succ (FO : List (List (Nat × Nat))) (base : Nat) {Fo : List (List Nat)} {k : Nat} (hk : k < Fo.length) : FOs FO base Fo (k + 1) = FOs FO base Fo k ++ [rowW base Fo[k]] := by
  unfold FOs
  rw [List.take_add_one, List.getElem?_eq_getElem hk, Option.toList_some, List.map_append, List.append_assoc]
  rfl
theorem FOs_len (FO : List (List (Nat × Nat))) (base : Nat) (Fo : List (List Nat)) : ∀ k, k ≤ Fo.length → (FOs FO base Fo k).flatten.length ≤ FO.flatten.length + ((Fo.take k).map List.length).sum
  | 0, _ => by simp [FOs]
  | k + 1, hk => by
    have h1 := FOs_len FO base Fo k (by omega)
    rw [FOs_succ FO base (by omega), List.flatten_append, List.length_append, sum_take Fo (by omega)]
    have h2 := rowW_len base Fo[k]
    simp only [List.flatten_cons, List.flatten_nil, List.append_nil]
    omega
theorem FOs_ok (FO : List (List (Nat × Nat))) (base N : Nat) (Fo : List (List Nat)) (k : Nat) (h1 : ∀ r ∈ FO, ∀ x ∈ r, x.1 < N ∧ x.2 < 18446744073709551616) (h2 : ∀ l ∈ Fo, ∀ p ∈ l, base + p < 64 * N) : ∀ x ∈ (FOs FO base Fo k).flatten, x.1 < N ∧ x.2 < 18446744073709551616 := by
  intro x hx
  obtain ⟨r, hr, hxr⟩ := List.mem_flatten.1 hx
  rcases List.mem_append.1 hr with h | h
  · exact h1 r h x hxr
  · obtain ⟨l, hl, rfl⟩ := List.mem_map.1 h
    exact rowW_ok base N l (h2 l (List.mem_of_mem_take hl)) x hxr
set_option maxRecDepth 10000 in
set_option maxHeartbeats 6400000 in
theorem add_false (J sy lo nm N GZ GP GC cZ cP cC cL cF cA cO nL : Nat) (aL aF aA aO : Option Addr) (em : Bool) (vL vM : Value) (own : List Nat) (FO : List (List (Nat × Nat))) (la op cl : Nat → Bool) (at0 alw : List Nat) (Fi La : List Nat) (Fo : List (List Nat)) (w00 w : World)
    (hJ : JoX w J sy lo vL vM (.slice (some ⟨GZ, 0, none⟩) N cZ) (.slice (some ⟨GP, 0, none⟩) N cP) (.slice (some ⟨GC, 0, none⟩) N cC) own FO N la op cl at0 alw) (hlo : lo ≤ J) (hlw : lo ≤ w.heap.size) (hP : PaA w00 aF aA aO Fi La Fo) (h00 : w00.heap.size ≤ lo) (hb00 : Below w00.heap.size w00 w) (hN : N ≤ 1000000) (hol : own.length + Fo.length ≤ 64 * N) (_hnm : nm ≤ 1000000000) (hFO : ∀ r ∈ FO, ∀ x ∈ r, x.1 < N ∧ x.2 < 18446744073709551616) (hFl : FO.length ≤ 64000000) (ha0 : at0.length ≤ 100000000) (hal : alw.length ≤ 100000000)
    (h1 : ∀ p ∈ Fi, own.length + p < 64 * N) (h2 : ∀ p ∈ La, own.length + p < 64 * N) (h3 : ∀ l ∈ Fo, ∀ p ∈ l, own.length + p < 64 * N) (hl1 : Fi.length ≤ 100000000) (hl2 : La.length ≤ 100000000) (hsum : FO.flatten.length + (Fo.map List.length).sum ≤ 900000000) :
    Calls Tryd.prog 51 #[.pointer (some ⟨J, 0, none⟩), .int .i64 (nm : Int), .agg #[.slice aL nL cL, .slice aF Fi.length cF, .slice aA La.length cA, .slice aO Fo.length cO, .bool em, .bool false]] w fun e w' => (∃ v, e = .returned v) ∧ (Below lo w w' ∧ KeT w w') ∧
      JoX w' J sy lo vL vM (.slice (some ⟨GZ, 0, none⟩) N cZ) (.slice (some ⟨GP, 0, none⟩) N cP) (.slice (some ⟨GC, 0, none⟩) N cC) (own ++ List.replicate Fo.length nm) (FO ++ Fo.map (rowW own.length)) N (setL la own.length La) (setL op own.length Fi) cl (if em then at0 ++ [nm] else at0) (if em then alw ++ [nm] else alw) := by
  obtain ⟨i0, hi, hz⟩ := Option.map_eq_some_iff.1 infoInt1
  simp only [Prod.mk.injEq] at hz
  obtain ⟨hz0, hz1, hz2⟩ := hz
  obtain ⟨bs, hbs⟩ : ∃ bs, bs = own.length := ⟨_, rfl⟩
  rw [← hbs] at h1 h2 h3 hol ⊢
  obtain ⟨pc, hpc⟩ : ∃ pc : Array Value, pc = #[.slice aL nL cL, .slice aF Fi.length cF, .slice aA La.length cA, .slice aO Fo.length cO, .bool em, .bool false] := ⟨_, rfl⟩
  obtain ⟨w0, hw0⟩ : ∃ w0, w0 = w.alloc (.cells pc 48) := ⟨_, rfl⟩
  obtain ⟨pb, hpb⟩ : ∃ pb, pb = w.heap.size := ⟨_, rfl⟩
  have hA0 : AdI w J sy lo pb pc vL vM (.slice (some ⟨GZ, 0, none⟩) N cZ) (.slice (some ⟨GP, 0, none⟩) N cP) (.slice (some ⟨GC, 0, none⟩) N cC) own FO.flatten (endsN FO) N la op cl at0 alw w0 := by
    have hb : Below w.heap.size w w0 := by rw [hw0]; exact (Below.refl _ _).alloc (Nat.le_refl _) _
    obtain ⟨vO, vF, vE, vS, vA, hj, h0⟩ := hJ
    exact ⟨hb.mono hlw, KeT.below hb, by rw [hw0, hpb]; exact heap_alloc_new w _, vO, vF, vE, vS, vA, hj.past hb, h0⟩
  have HPa : Hid (∀ V : World, Below lo w V → PaA V aF aA aO Fi La Fo ∧ Below w00.heap.size w00 V) := hid0 (fun V hV => by
    have hb := hb00.trans (hV.mono h00)
    exact ⟨⟨hP.fi.past hb, hP.la.past hb, hP.fo.past hb⟩, hb⟩)
  -- what the box holds, wherever the walk is
  have HBx : Hid (∀ V : World, V.heap[pb]? = some (.cells pc 48 (0, 0)) → V.cell? ⟨pb, 1, none⟩ = some (.slice aF Fi.length cF) ∧ V.cell? ⟨pb, 2, none⟩ = some (.slice aA La.length cA) ∧ V.cell? ⟨pb, 3, none⟩ = some (.slice aO Fo.length cO) ∧ V.cell? ⟨pb, 4, none⟩ = some (.bool em) ∧ V.cell? ⟨pb, 5, none⟩ = some (.bool false)) := hid0 (fun V hV => by
    rw [hpc] at hV
    refine ⟨?_, ?_, ?_, ?_, ?_⟩ <;> (rw [cell_of_row _ _ _ _ _ _ hV]; rfl))
  have HC1 := hid0 (hA0.addP (cL := cF) (base := bs) hlo hlw (fun V hV => (HPa.out V hV).1.fi) hN h1 hl1 (by omega))
  have HC2 : Hid (∀ V : World, AdI w J sy lo pb pc vL vM (.slice (some ⟨GZ, 0, none⟩) N cZ) (.slice (some ⟨GP, 0, none⟩) N cP) (.slice (some ⟨GC, 0, none⟩) N cC) own FO.flatten (endsN FO) N la (setL op bs Fi) cl at0 alw V → Calls Tryd.prog 69 #[.slice (some ⟨GZ, 0, none⟩) N cZ, .int .i64 (bs : Int), .slice aA La.length cA] V.drew fun e w' => (∃ v, e = .returned v) ∧ Hid (AdI w J sy lo pb pc vL vM (.slice (some ⟨GZ, 0, none⟩) N cZ) (.slice (some ⟨GP, 0, none⟩) N cP) (.slice (some ⟨GC, 0, none⟩) N cC) own FO.flatten (endsN FO) N (setL la bs La) (setL op bs Fi) cl at0 alw w')) := hid0 (fun V hV => hV.drew.addZ hlo hlw (fun V hV => (HPa.out V hV).1.la) hN h2 hl2 (by omega))
  -- a state's faces
  have HFc : Hid (∀ {V : World} {own' : List Nat} {it' : List (Nat × Nat)} {en' : List Nat} {la' op' cl' : Nat → Bool} {a' b' : List Nat}, AdI w J sy lo pb pc vL vM (.slice (some ⟨GZ, 0, none⟩) N cZ) (.slice (some ⟨GP, 0, none⟩) N cP) (.slice (some ⟨GC, 0, none⟩) N cC) own' it' en' N la' op' cl' a' b' V → V.cell? ⟨J, 6, none⟩ = some (.slice (some ⟨GZ, 0, none⟩) N cZ) ∧ V.cell? ⟨J, 7, none⟩ = some (.slice (some ⟨GP, 0, none⟩) N cP) ∧ V.cell? ⟨J, 8, none⟩ = some (.slice (some ⟨GC, 0, none⟩) N cC)) := hid0 (fun h => by
    obtain ⟨vO, vF, vE, vS, vA, hj, _⟩ := h.jo
    exact ⟨hj.b.c.2.2.2.2.2.2.1, hj.b.c.2.2.2.2.2.2.2.1, hj.b.c.2.2.2.2.2.2.2.2.1⟩)
  obtain ⟨aO0, cO0, dO⟩ : ∃ a c, w0.cell? ⟨J, 1, none⟩ = some (.slice a bs c) := by
    obtain ⟨vO, vF, vE, vS, vA, hj, _⟩ := hA0.jo
    obtain ⟨a, c, e⟩ := own_sl hj.o
    rw [nI_len, ← hbs] at e
    exact ⟨a, c, by rw [← e]; exact hj.b.c.2.1⟩
  obtain ⟨x1, x2, x3, x4, x5⟩ := HBx.out w0 hA0.box
  obtain ⟨y6, y7, y8⟩ := HFc.out hA0
  have HLo := hid0 (And.intro hlo hlw)
  have HFO := hid0 hFO
  have H3 := hid0 h3
  have HSum := hid0 hsum
  have HBs := hid0 hbs
  have HPw := hid0 hP
  have hbl : bs ≤ 64000000 := by omega
  have hfold := hw0.symm
  have hpb2 := hpb.symm
  rw [hpc] at hfold
  clear hA0 hJ hb00 hP hw0 hFO h3 hsum hbs h1 h2 hlo hlw hl1 hl2 hpc hpb
  go_enter Tryd.func51, Tryd.ntmps51
  go_upto_region 6 with (go_at_call 69; go_loud ((refine HC1.out.mono ?_; rintro e w1 ⟨⟨v1, rfl⟩, HA1⟩)))
  clear x1 x2 x3 x4 x5 y6 y7 y8 dO HC1
  obtain ⟨x1, x2, x3, x4, x5⟩ := HBx.out w1 HA1.out.box
  obtain ⟨y6, y7, y8⟩ := HFc.out HA1.out
  have HC3 := hid0 (HC2.out w1 HA1.out)
  clear HC2 x1 x4 x5 y7 y8 hfold
  go_region_held3 (fun V => V.cell? ⟨J, 6, none⟩ = some (.slice (some ⟨GZ, 0, none⟩) N cZ) ∧ V.cell? ⟨pb, 2, none⟩ = some (.slice aA La.length cA)) (first | exact ⟨y6, x2⟩ | assumption)
    (first
      | (go_at_call 69; refine HC3.out.mono ?_; rintro e w2 ⟨⟨v2, rfl⟩, HA2⟩; have hs2 := And.intro (HFc.out HA2.out).1 (HBx.out w2 HA2.out.box).2.1))
  clear x2 x3 y6 HC3 HA1 hs2
  obtain ⟨x1, x2, x3, x4, x5⟩ := HBx.out w2 HA2.out.box
  clear x1 x2 x4 x5
  have hrm : (bs : Int) ≤ 64000000 := by omega
  obtain ⟨la1, hla1⟩ : ∃ la1, la1 = setL la bs La := ⟨_, rfl⟩
  obtain ⟨op1, hop1⟩ : ∃ op1, op1 = (setL op bs Fi) := ⟨_, rfl⟩
  obtain ⟨cl1, hcl1⟩ : ∃ cl1, cl1 = cl := ⟨_, rfl⟩
  have HEq := hid0 (And.intro hla1 (And.intro hop1 hcl1))
  rw [← hla1, ← hop1, ← hcl1] at HA2
  clear hla1 hop1 hcl1
  go_wp2
  go_loopw [47] (fun i wr => ∃ k : Nat, k ≤ Fo.length ∧ i = .int .i64 (k : Int) ∧ Hid (AdI w J sy lo pb pc vL vM (.slice (some ⟨GZ, 0, none⟩) N cZ) (.slice (some ⟨GP, 0, none⟩) N cP) (.slice (some ⟨GC, 0, none⟩) N cC) (own ++ List.replicate k nm) (FOs FO bs Fo k).flatten (endsN (FOs FO bs Fo k)) N la1 op1 cl1 at0 alw wr)) (fun i _ => Fo.length - (intOf i).toNat)
  case atStart => exact ⟨0, Nat.zero_le _, rfl, hid0 (by have h := HA2.out; simpa [FOs] using h)⟩
  case round =>
    clear x3
    obtain ⟨k, hk, rfl, HK⟩ := hrel
    by_cases hkl : k < Fo.length
    · obtain ⟨b, off, eb, hbw, a1, c1, y0, y1⟩ := HPw.out.fo.at' k (by rw [List.length_map]; exact hkl)
      obtain ⟨L, hL⟩ : ∃ L, L = Fo[k] := ⟨_, rfl⟩
      have hLm : L ∈ Fo := by rw [hL]; exact List.getElem_mem hkl
      rw [List.getElem_map, ← hL, nI_len] at y0
      rw [List.getElem_map, ← hL] at y1
      have hbl2 := (HPa.out wr HK.out.bel).2
      have z0 : wr.cell? ⟨b, off + k, none⟩ = some (.slice a1 L.length c1) := (hbl2.cell (p := ⟨b, off + k, none⟩) hbw).trans y0
      have HIL : Hid (∀ V : World, Below lo w V → IA V a1 (nI L)) := hid0 (fun V hV => y1.past (HPa.out V hV).2)
      subst eb
      obtain ⟨it0, hit0⟩ : ∃ it0, it0 = (FOs FO bs Fo k).flatten := ⟨_, rfl⟩
      obtain ⟨en0, hen0⟩ : ∃ en0, en0 = endsN (FOs FO bs Fo k) := ⟨_, rfl⟩
      obtain ⟨own0, hown0⟩ : ∃ own0, own0 = own ++ List.replicate k nm := ⟨_, rfl⟩
      have HLL : Hid (L ∈ Fo ∧ L = Fo[k] ∧ it0 = (FOs FO bs Fo k).flatten ∧ en0 = endsN (FOs FO bs Fo k) ∧ own0 = own ++ List.replicate k nm) := hid0 ⟨hLm, hL, hit0, hen0, hown0⟩
      have HLn : Hid (own0.length ≤ 64000000 ∧ it0.length + L.length ≤ 900000000 ∧ en0.length ≤ 128000000) := hid0 (by
        have q1 := FOs_len FO bs Fo k hk
        have q2 := sum_take Fo hkl
        have q3 := sum_le Fo (k + 1)
        have q4 := HSum.out
        have q5 := HBs.out
        refine ⟨?_, ?_, ?_⟩
        · rw [hown0, List.length_append, List.length_replicate]; omega
        · rw [hit0]; rw [hL]; omega
        · rw [hen0, endsN_len]; unfold FOs; rw [List.length_append, List.length_map, List.length_take]; omega)
      have HOk : Hid (∀ x ∈ it0, x.1 < N ∧ x.2 < 18446744073709551616) := hid0 (by rw [hit0]; exact FOs_ok FO bs N Fo k HFO.out H3.out)
      have HK1 : Hid (AdI w J sy lo pb pc vL vM (.slice (some ⟨GZ, 0, none⟩) N cZ) (.slice (some ⟨GP, 0, none⟩) N cP) (.slice (some ⟨GC, 0, none⟩) N cC) own0 it0 en0 N la1 op1 cl1 at0 alw wr) := hid0 (by rw [hit0, hen0, hown0]; exact HK.out)
      clear hL hLm hit0 hen0 hown0 hbl2 y0 y1 HK
      have HO1 : Hid (∃ a n c, n = own0.length ∧ wr.cell? ⟨J, 1, none⟩ = some (.slice a n c) ∧ wr.ownsRow lo 3 1 (.slice a n c) n ((nI own0).map (Value.int .i64)) ∧ ∀ (v1 : Value) (w1 : World), ApG 3 wr w1 lo (.slice a n c) v1 ((nI own0).map (Value.int .i64) ++ [Value.int .i64 (nm : Int)]) → (w1.cell? ⟨J, 1, none⟩ = some (.slice a n c) ∧ w1.frozen? ⟨J, 1, none⟩ = false) ∧ AdI w J sy lo pb pc vL vM (.slice (some ⟨GZ, 0, none⟩) N cZ) (.slice (some ⟨GP, 0, none⟩) N cP) (.slice (some ⟨GC, 0, none⟩) N cC) (own0 ++ [nm]) it0 en0 N la1 op1 cl1 at0 alw (w1.setCell ⟨J, 1, none⟩ v1)) := hid0 (by
        obtain ⟨vO, vF, vE, vS, vA, hj, h0⟩ := HK1.out.jo
        obtain ⟨a, c, e⟩ := own_sl hj.o
        have ho := hj.o
        unfold OwnI at ho
        rw [nI_len] at ho e
        refine ⟨a, own0.length, c, rfl, by rw [← e]; exact hj.b.c.2.1, by rw [← e]; exact ho, fun v1 w1 hg => ?_⟩
        rw [← e] at hg ⊢
        obtain ⟨g1, g2, g3⟩ := hj.setO hg
        exact ⟨⟨g1.c.2.1, by simp [World.frozen?, g1.r]⟩, HK1.out.next HLo.out.1 HLo.out.2 hj.o (by decide) g3 ⟨_, _, _, _, _, g2, h0⟩⟩)
      obtain ⟨aw, nw, cw, hnw, dw, how, hnx⟩ := HO1.out
      have hnl : nw ≤ 64000000 := by rw [hnw]; exact HLn.out.1
      have HOw := hid0 how
      have HOl := hid0 hnw
      have HNx := hid0 hnx
      have hlr : lo ≤ wr.heap.size := Nat.le_trans HLo.out.2 HK1.out.bel.size
      have hkI : (k : Int) < (Fo.length : Int) := by omega
      have hkI0 : (0 : Int) ≤ (k : Int) := by omega
      clear HO1 hnw how hnx
      go_upto_region 11 with (at_builtin; go_loud ((refine wpList_append_own_at _ rfl _ _ 34 rfl lo 3 i0 (.int .i64 0) 1 8 Tryd.underlying34 hi hz0 hz1 hz2 rfl (by decide) (.slice aw nw cw) nw ((nI own0).map (Value.int .i64)) rfl (World.ownsRow.alloc HOw.out _) ⟨wr.heap.size, 0, none⟩ 1 1 [.int .i64 (nm : Int)] rfl rfl (cell_one_new _ _ _) (by simp [Value.oneCell']) (by unfold maxLen; omega) (by omega) (by simp; omega) ?_; intro v1 w1 h1 h2 _ h4; obtain ⟨a2, c2, rfl⟩ := own_sl h1; have R := hid0 (HNx.out _ w1 (apG_one (by rw [List.length_map, nI_len, ← HOl.out]; exact h1) h2 h4)); clear h1 h2 h4; have d1 := R.out.1.1; have f1 := R.out.1.2)))
      have HA3 := hid0 R.out.2
      clear R d1 f1 HNx HOw HOl dw z0 HK1
      generalize w1.setCell ⟨J, 1, none⟩ (.slice a2 (nw + 1) c2) = w3 at *
      obtain ⟨aI, cI, dI⟩ : ∃ a c, w3.cell? ⟨J, 2, none⟩ = some (.slice a it0.length c) := by
        obtain ⟨vO, vF, vE, vS, vA, hj, _⟩ := HA3.out.jo
        obtain ⟨a, c, e⟩ := own_sl hj.f
        exact ⟨a, c, by rw [← e]; exact hj.b.c.2.2.1⟩
      obtain ⟨fr, hfr⟩ : ∃ fr, fr = it0.length := ⟨_, rfl⟩
      rw [← hfr] at dI
      have hfrl : fr ≤ 900000000 := by have := HLn.out.2.1; omega
      have hLl : L.length ≤ 900000000 := by have := HLn.out.2.1; omega
      have HFr := hid0 hfr
      clear hfr
      go_wp2
      go_loopw [69] (fun j wr2 => ∃ m : Nat, m ≤ L.length ∧ j = .int .i64 (m : Int) ∧ Hid (AdI w J sy lo pb pc vL vM (.slice (some ⟨GZ, 0, none⟩) N cZ) (.slice (some ⟨GP, 0, none⟩) N cP) (.slice (some ⟨GC, 0, none⟩) N cC) (own0 ++ [nm]) (it0 ++ rowW bs (L.take m)) en0 N la1 op1 cl1 at0 alw wr2)) (fun j _ => L.length - (intOf j).toNat)
      case atStart => exact ⟨0, Nat.zero_le _, rfl, hid0 (by have h := HA3.out; simpa [rowW] using h)⟩
      case round =>
        clear dI
        obtain ⟨m, hm, rfl, HM⟩ := hrel
        obtain ⟨V, hV⟩ : ∃ V, V = wr := ⟨_, rfl⟩
        subst hV
        by_cases hml : m < L.length
        · obtain ⟨g1, o1, eg, _, z1⟩ := (HIL.out V HM.out.bel).at' m (by rw [nI_len]; exact hml)
          subst eg
          obtain ⟨p, hp⟩ : ∃ p, p = L[m] := ⟨_, rfl⟩
          have z2 : V.cell? ⟨g1, o1 + m, none⟩ = some (.int .i64 (p : Int)) := by rw [z1, hp]; unfold nI; rw [List.getElem_map]
          have hpN := H3.out L HLL.out.1 p (by rw [hp]; exact List.getElem_mem hml)
          obtain ⟨q, hq⟩ : ∃ q, q = bs + p := ⟨_, rfl⟩
          obtain ⟨lw, hlw⟩ : ∃ lw, lw = it0 ++ rowW bs (L.take m) := ⟨_, rfl⟩
          have HNw : Hid (addW lw fr q = it0 ++ rowW bs (L.take (m + 1))) := hid0 (by rw [hlw, HFr.out, hq, addW_pre, rowW_take bs hml, hp])
          have HCx : Hid (∃ a c, V.cell? ⟨J, 2, none⟩ = some (.slice a lw.length c) ∧ (Calls Tryd.prog 70 #[.slice a lw.length c, .int .i64 (fr : Int), .int .i64 (q : Int)] V fun e w' => ∃ v', e = .returned v' ∧ Hid (ApP V w' lo (.slice a lw.length c) v' (addW lw fr q))) ∧ ∀ (v1 : Value) (w1 : World), ApP V w1 lo (.slice a lw.length c) v1 (addW lw fr q) → (w1.cell? ⟨J, 2, none⟩ = some (.slice a lw.length c) ∧ w1.frozen? ⟨J, 2, none⟩ = false) ∧ AdI w J sy lo pb pc vL vM (.slice (some ⟨GZ, 0, none⟩) N cZ) (.slice (some ⟨GP, 0, none⟩) N cP) (.slice (some ⟨GC, 0, none⟩) N cC) (own0 ++ [nm]) (it0 ++ rowW bs (L.take (m + 1))) en0 N la1 op1 cl1 at0 alw (w1.setCell ⟨J, 2, none⟩ v1)) := hid0 (by
            obtain ⟨vO, vF, vE, vS, vA, hj, h0⟩ := HM.out.jo
            rw [← hlw] at hj
            have hfl : fr ≤ lw.length := by rw [hlw, HFr.out, List.length_append]; omega
            have hll : lw.length ≤ 1000000000 := by
              have q1 := rowW_len bs (L.take m)
              have q2 := HLn.out.2.1
              rw [List.length_take] at q1
              rw [hlw, List.length_append]; omega
            have hxx : ∀ x ∈ lw, x.1 ≤ 1000000000 ∧ x.2 < 18446744073709551616 := by
              intro x hx
              rw [hlw] at hx
              rcases List.mem_append.1 hx with h | h
              · have := HOk.out x h; omega
              · have := rowW_ok bs N (L.take m) (fun p hp => H3.out L HLL.out.1 p (List.mem_of_mem_take hp)) x h; omega
            obtain ⟨a, c, e⟩ := own_sl hj.f
            refine ⟨a, c, by rw [← e]; exact hj.b.c.2.2.1, by rw [← e]; exact (addBit_any lo fr q lw vF V hj.f (Nat.le_trans HLo.out.2 HM.out.bel.size) hfl hll (by omega) hxx).mono (fun _ _ ⟨v', q1, q2⟩ => ⟨v', q1, hid0 q2⟩), fun v1 w1 hg => ?_⟩
            rw [← e] at hg ⊢
            obtain ⟨g1, g2, g3⟩ := hj.setF hg
            have hne := addW_ne lw fr q hfl
            rw [HNw.out] at g2 hne
            exact ⟨⟨g1.c.2.2.1, by simp [World.frozen?, g1.r]⟩, HM.out.next HLo.out.1 HLo.out.2 hj.f (by decide) g3 ⟨_, _, _, _, _, g2, fun q => absurd q hne⟩⟩)
          obtain ⟨ax, cx, dx, hcx, hnx⟩ := HCx.out
          obtain ⟨nx, hnxl⟩ : ∃ nx, nx = lw.length := ⟨_, rfl⟩
          rw [← hnxl] at dx hcx hnx
          have hnb : nx ≤ 1000000000 := by
            have q1 := rowW_len bs (L.take m)
            have q2 := HLn.out.2.1
            rw [List.length_take] at q1
            rw [hnxl, hlw, List.length_append]; omega
          have HCc := hid0 hcx
          have HNx := hid0 hnx
          have hadd : (bs : Int) + (p : Int) = (q : Int) := by omega
          have hpb3 : (q : Int) ≤ 64000000 := by omega
          have hwr : IntKind.i64.wrap (q : Int) = (q : Int) := by rw [IntKind.wrap_i64]; omega
          have hmI : (m : Int) < (L.length : Int) := by omega
          have hmI0 : (0 : Int) ≤ (m : Int) := by omega
          clear HCx hcx hnx hnxl hlw hp z1 HNw HM hq
          go_wp2_with (go_at_call 70; go_loud ((refine HCc.out.mono ?_; rintro e w4 ⟨v4, rfl, HA4⟩; obtain ⟨a4, c4, rfl⟩ := own_sl HA4.out.own; have R := hid0 (HNx.out _ w4 HA4.out); have d2 := R.out.1.1; have f2 := R.out.1.2; clear HA4)))
          have HM2 := hid0 R.out.2
          go_roundw
          case rel => exact ⟨m + 1, by omega, by go_num, HM2⟩
          case measure => simp [intOf]; omega
        · obtain rfl : m = L.length := by omega
          obtain ⟨it1, hit1⟩ : ∃ it1, it1 = it0 ++ rowW bs L := ⟨_, rfl⟩
          have hM1 : AdI w J sy lo pb pc vL vM (.slice (some ⟨GZ, 0, none⟩) N cZ) (.slice (some ⟨GP, 0, none⟩) N cP) (.slice (some ⟨GC, 0, none⟩) N cC) (own0 ++ [nm]) it1 en0 N la1 op1 cl1 at0 alw V := by have h := HM.out; rw [List.take_length] at h; rw [hit1]; exact h
          have HCe : Hid (Calls Tryd.prog 71 #[.pointer (some ⟨J, 2, none⟩)] V fun e w' => (∃ v, e = .returned v) ∧ Hid (AdI w J sy lo pb pc vL vM (.slice (some ⟨GZ, 0, none⟩) N cZ) (.slice (some ⟨GP, 0, none⟩) N cP) (.slice (some ⟨GC, 0, none⟩) N cC) (own0 ++ [nm]) it1 (en0 ++ [it1.length]) N la1 op1 cl1 at0 alw w')) := hid0 (by
            obtain ⟨vO, vF, vE, vS, vA, hj, h0⟩ := hM1.jo
            obtain ⟨a, c, e⟩ := own_sl hj.f
            obtain ⟨a', c', e'⟩ := own_sl hj.e
            rw [nI_len] at e'
            have q1 := rowW_len bs L
            have q2 := HLn.out.2.1
            subst e
            subst e'
            refine (endW_any J sy lo it1.length c c' en0 a a' vO vL vM _ _ _ vS vA V hj.b hj.e (Nat.le_trans HLo.out.2 hM1.bel.size) (by rw [hit1, List.length_append]; omega) (by have := HLn.out.2.2; omega)).mono (fun _ _ ⟨q1, v', g1, g2, g3, g4⟩ => ⟨q1, hid0 (hM1.next HLo.out.1 HLo.out.2 hj.e (by decide) g3 ⟨_, _, _, _, _, hj.at_e g1 g2 g3 g4, h0⟩)⟩))
          have HFin : Hid (∀ V : World, AdI w J sy lo pb pc vL vM (.slice (some ⟨GZ, 0, none⟩) N cZ) (.slice (some ⟨GP, 0, none⟩) N cP) (.slice (some ⟨GC, 0, none⟩) N cC) (own0 ++ [nm]) it1 (en0 ++ [it1.length]) N la1 op1 cl1 at0 alw V → AdI w J sy lo pb pc vL vM (.slice (some ⟨GZ, 0, none⟩) N cZ) (.slice (some ⟨GP, 0, none⟩) N cP) (.slice (some ⟨GC, 0, none⟩) N cC) (own ++ List.replicate (k + 1) nm) (FOs FO bs Fo (k + 1)).flatten (endsN (FOs FO bs Fo (k + 1))) N la1 op1 cl1 at0 alw V) := hid0 (fun V h => by
            obtain ⟨_, g2, g3, g4, g5⟩ := HLL.out
            have e1 : it1 = (FOs FO bs Fo (k + 1)).flatten := by rw [hit1, FOs_succ FO bs hkl, List.flatten_append, g3, g2]; simp
            have e2 : en0 ++ [it1.length] = endsN (FOs FO bs Fo (k + 1)) := by rw [e1, FOs_succ FO bs hkl, endsN_snoc, g4]
            have e3 : own0 ++ [nm] = own ++ List.replicate (k + 1) nm := by rw [g5, List.replicate_succ', List.append_assoc]
            rw [e2, e1, e3] at h
            exact h)
          clear hit1 hM1 HM
          go_wp2_with (go_at_call 71; go_loud ((refine HCe.out.mono ?_; rintro e w4 ⟨⟨v4, rfl⟩, HA4⟩)))
          have HN4 := hid0 (HFin.out w4 HA4.out)
          go_roundw
          case rel => exact ⟨k + 1, by omega, by go_num, HN4⟩
          case measure => simp [intOf]; omega
    · obtain rfl : k = Fo.length := by omega
      obtain ⟨FO1, hFO1⟩ : ∃ FO1, FO1 = FO ++ Fo.map (rowW bs) := ⟨_, rfl⟩
      have HK1 : Hid (AdI w J sy lo pb pc vL vM (.slice (some ⟨GZ, 0, none⟩) N cZ) (.slice (some ⟨GP, 0, none⟩) N cP) (.slice (some ⟨GC, 0, none⟩) N cC) (own ++ List.replicate Fo.length nm) FO1.flatten (endsN FO1) N la1 op1 cl1 at0 alw wr) := hid0 (by
        have e : FOs FO bs Fo Fo.length = FO1 := by unfold FOs; rw [List.take_length, hFO1]
        have h := HK.out; rw [e] at h; exact h)
      obtain ⟨own1, hown1⟩ : ∃ own1, own1 = own ++ List.replicate Fo.length nm := ⟨_, rfl⟩
      rw [← hown1] at HK1
      have HFi : Hid (∀ {V : World} {a' b' : List Nat}, AdI w J sy lo pb pc vL vM (.slice (some ⟨GZ, 0, none⟩) N cZ) (.slice (some ⟨GP, 0, none⟩) N cP) (.slice (some ⟨GC, 0, none⟩) N cC) own1 FO1.flatten (endsN FO1) N la1 op1 cl1 a' b' V → (Below lo w V ∧ KeT w V) ∧ JoX V J sy lo vL vM (.slice (some ⟨GZ, 0, none⟩) N cZ) (.slice (some ⟨GP, 0, none⟩) N cP) (.slice (some ⟨GC, 0, none⟩) N cC) (own ++ List.replicate Fo.length nm) (FO ++ Fo.map (rowW bs)) N (setL la bs La) (setL op bs Fi) cl a' b') := hid0 (fun h => by
        obtain ⟨e1, e2, e3⟩ := HEq.out
        rw [← e1, ← e2, ← e3, ← hFO1, ← hown1]
        exact ⟨⟨h.bel, h.kp⟩, h.jo⟩)
      clear HK hFO1 hown1
      obtain ⟨x1, x2, x3, x4, x5⟩ := HBx.out wr HK1.out.box
      clear x1 x2 x3
      cases em
      · go_wp2
        refine bodyPost_ret (results_none rfl _ _ _) rfl ?_
        exact ⟨⟨_, rfl⟩, HFi.out HK1.out⟩
      · have HO1 : Hid (∃ a n c, n = at0.length ∧ wr.cell? ⟨J, 9, none⟩ = some (.slice a n c) ∧ wr.ownsRow lo 3 1 (.slice a n c) n ((nI at0).map (Value.int .i64)) ∧ ∀ (v1 : Value) (w1 : World), ApG 3 wr w1 lo (.slice a n c) v1 ((nI at0).map (Value.int .i64) ++ [Value.int .i64 (nm : Int)]) → (w1.cell? ⟨J, 9, none⟩ = some (.slice a n c) ∧ w1.frozen? ⟨J, 9, none⟩ = false) ∧ AdI w J sy lo pb pc vL vM (.slice (some ⟨GZ, 0, none⟩) N cZ) (.slice (some ⟨GP, 0, none⟩) N cP) (.slice (some ⟨GC, 0, none⟩) N cC) own1 FO1.flatten (endsN FO1) N la1 op1 cl1 (at0 ++ [nm]) alw (w1.setCell ⟨J, 9, none⟩ v1)) := hid0 (by
          obtain ⟨vO, vF, vE, vS, vA, hj, h0⟩ := HK1.out.jo
          obtain ⟨a, c, e⟩ := own_sl hj.s
          have ho := hj.s
          unfold OwnI at ho
          rw [nI_len] at ho e
          refine ⟨a, at0.length, c, rfl, by rw [← e]; exact hj.b.c.2.2.2.2.2.2.2.2.2.1, by rw [← e]; exact ho, fun v1 w1 hg => ?_⟩
          rw [← e] at hg ⊢
          obtain ⟨g1, g2, g3⟩ := hj.setS hg
          exact ⟨⟨g1.c.2.2.2.2.2.2.2.2.2.1, by simp [World.frozen?, g1.r]⟩, HK1.out.next HLo.out.1 HLo.out.2 hj.s (by decide) g3 ⟨_, _, _, _, _, g2, h0⟩⟩)
        obtain ⟨aw, nw, cw, hnw, dw, how, hnx⟩ := HO1.out
        have hnl : nw ≤ 100000000 := by rw [hnw]; exact ha0
        have HOw := hid0 how
        have HOl := hid0 hnw
        have HNx := hid0 hnx
        have hlr : lo ≤ wr.heap.size := Nat.le_trans HLo.out.2 HK1.out.bel.size
        clear HO1 hnw how hnx
        go_upto_region 21 with (at_builtin; go_loud ((refine wpList_append_own_at _ rfl _ _ 34 rfl lo 3 i0 (.int .i64 0) 1 8 Tryd.underlying34 hi hz0 hz1 hz2 rfl (by decide) (.slice aw nw cw) nw ((nI at0).map (Value.int .i64)) rfl (World.ownsRow.alloc HOw.out _) ⟨wr.heap.size, 0, none⟩ 1 1 [.int .i64 (nm : Int)] rfl rfl (cell_one_new _ _ _) (by simp [Value.oneCell']) (by unfold maxLen; omega) (by omega) (by simp; omega) ?_; intro v1 w1 h1 h2 _ h4; obtain ⟨a2, c2, rfl⟩ := own_sl h1; have R := hid0 (HNx.out _ w1 (apG_one (by rw [List.length_map, nI_len, ← HOl.out]; exact h1) h2 h4)); clear h1 h2 h4; have d1 := R.out.1.1; have f1 := R.out.1.2)))
        have HA3 := hid0 R.out.2
        clear R d1 f1 HNx HOw HOl dw HK1 x4 x5
        generalize w1.setCell ⟨J, 9, none⟩ (.slice a2 (nw + 1) c2) = w3 at *
        have x5 := (HBx.out w3 HA3.out.box).2.2.2.2
        have HO1 : Hid (∃ a n c, n = alw.length ∧ w3.cell? ⟨J, 10, none⟩ = some (.slice a n c) ∧ w3.ownsRow lo 3 1 (.slice a n c) n ((nI alw).map (Value.int .i64)) ∧ ∀ (v1 : Value) (w1 : World), ApG 3 w3 w1 lo (.slice a n c) v1 ((nI alw).map (Value.int .i64) ++ [Value.int .i64 (nm : Int)]) → (w1.cell? ⟨J, 10, none⟩ = some (.slice a n c) ∧ w1.frozen? ⟨J, 10, none⟩ = false) ∧ AdI w J sy lo pb pc vL vM (.slice (some ⟨GZ, 0, none⟩) N cZ) (.slice (some ⟨GP, 0, none⟩) N cP) (.slice (some ⟨GC, 0, none⟩) N cC) own1 FO1.flatten (endsN FO1) N la1 op1 cl1 (at0 ++ [nm]) (alw ++ [nm]) (w1.setCell ⟨J, 10, none⟩ v1)) := hid0 (by
          obtain ⟨vO, vF, vE, vS, vA, hj, h0⟩ := HA3.out.jo
          obtain ⟨a, c, e⟩ := own_sl hj.a
          have ho := hj.a
          unfold OwnI at ho
          rw [nI_len] at ho e
          refine ⟨a, alw.length, c, rfl, by rw [← e]; exact hj.b.c.2.2.2.2.2.2.2.2.2.2, by rw [← e]; exact ho, fun v1 w1 hg => ?_⟩
          rw [← e] at hg ⊢
          obtain ⟨g1, g2, g3⟩ := hj.setA hg
          exact ⟨⟨g1.c.2.2.2.2.2.2.2.2.2.2, by simp [World.frozen?, g1.r]⟩, HA3.out.next HLo.out.1 HLo.out.2 hj.a (by decide) g3 ⟨_, _, _, _, _, g2, h0⟩⟩)
        obtain ⟨aw, nw, cw, hnw, dw, how, hnx⟩ := HO1.out
        have hnl : nw ≤ 100000000 := by rw [hnw]; exact hal
        have HOw := hid0 how
        have HOl := hid0 hnw
        have HNx := hid0 hnx
        have hlr : lo ≤ w3.heap.size := Nat.le_trans HLo.out.2 HA3.out.bel.size
        clear HO1 hnw how hnx
        go_wp2_with (at_builtin; go_loud ((refine wpList_append_own_at _ rfl _ _ 34 rfl lo 3 i0 (.int .i64 0) 1 8 Tryd.underlying34 hi hz0 hz1 hz2 rfl (by decide) (.slice aw nw cw) nw ((nI alw).map (Value.int .i64)) rfl (World.ownsRow.alloc HOw.out _) ⟨w3.heap.size, 0, none⟩ 1 1 [.int .i64 (nm : Int)] rfl rfl (cell_one_new _ _ _) (by simp [Value.oneCell']) (by unfold maxLen; omega) (by omega) (by simp; omega) ?_; intro v1 w4 h1 h2 _ h4; obtain ⟨a4, c4, rfl⟩ := own_sl h1; have R := hid0 (HNx.out _ w4 (apG_one (by rw [List.length_map, nI_len, ← HOl.out]; exact h1) h2 h4)); clear h1 h2 h4; have d1 := R.out.1.1; have f1 := R.out.1.2)))
        go_end0
        exact ⟨⟨_, rfl⟩, HFi.out R.out.2⟩
set_option maxRecDepth 10000 in
set_option maxHeartbeats 6400000 in
theorem add_true (J sy lo nm N GZ GP GC cZ cP cC cL cF cA cO nL : Nat) (aL aF aA aO : Option Addr) (em : Bool) (vL vM : Value) (own : List Nat) (FO : List (List (Nat × Nat))) (la op cl : Nat → Bool) (at0 alw : List Nat) (Fi La : List Nat) (Fo : List (List Nat)) (w00 w : World)
    (hJ : JoX w J sy lo vL vM (.slice (some ⟨GZ, 0, none⟩) N cZ) (.slice (some ⟨GP, 0, none⟩) N cP) (.slice (some ⟨GC, 0, none⟩) N cC) own FO N la op cl at0 alw) (hlo : lo ≤ J) (hlw : lo ≤ w.heap.size) (hP : PaA w00 aF aA aO Fi La Fo) (h00 : w00.heap.size ≤ lo) (hb00 : Below w00.heap.size w00 w) (hN : N ≤ 1000000) (hol : own.length + Fo.length ≤ 64 * N) (_hnm : nm ≤ 1000000000) (hFO : ∀ r ∈ FO, ∀ x ∈ r, x.1 < N ∧ x.2 < 18446744073709551616) (hFl : FO.length ≤ 64000000) (ha0 : at0.length ≤ 100000000) (_hal : alw.length ≤ 100000000)
    (h1 : ∀ p ∈ Fi, own.length + p < 64 * N) (h2 : ∀ p ∈ La, own.length + p < 64 * N) (h3 : ∀ l ∈ Fo, ∀ p ∈ l, own.length + p < 64 * N) (hl1 : Fi.length ≤ 100000000) (hl2 : La.length ≤ 100000000) (hsum : FO.flatten.length + (Fo.map List.length).sum ≤ 900000000) :
    Calls Tryd.prog 51 #[.pointer (some ⟨J, 0, none⟩), .int .i64 (nm : Int), .agg #[.slice aL nL cL, .slice aF Fi.length cF, .slice aA La.length cA, .slice aO Fo.length cO, .bool em, .bool true]] w fun e w' => (∃ v, e = .returned v) ∧ (Below lo w w' ∧ KeT w w') ∧
      JoX w' J sy lo vL vM (.slice (some ⟨GZ, 0, none⟩) N cZ) (.slice (some ⟨GP, 0, none⟩) N cP) (.slice (some ⟨GC, 0, none⟩) N cC) (own ++ List.replicate Fo.length nm) (FO ++ Fo.map (rowW own.length)) N (setL la own.length La) op (setL cl own.length Fi) (if em then at0 ++ [nm] else at0) alw := by
  obtain ⟨i0, hi, hz⟩ := Option.map_eq_some_iff.1 infoInt1
  simp only [Prod.mk.injEq] at hz
  obtain ⟨hz0, hz1, hz2⟩ := hz
  obtain ⟨bs, hbs⟩ : ∃ bs, bs = own.length := ⟨_, rfl⟩
  rw [← hbs] at h1 h2 h3 hol ⊢
  obtain ⟨pc, hpc⟩ : ∃ pc : Array Value, pc = #[.slice aL nL cL, .slice aF Fi.length cF, .slice aA La.length cA, .slice aO Fo.length cO, .bool em, .bool true] := ⟨_, rfl⟩
  obtain ⟨w0, hw0⟩ : ∃ w0, w0 = w.alloc (.cells pc 48) := ⟨_, rfl⟩
  obtain ⟨pb, hpb⟩ : ∃ pb, pb = w.heap.size := ⟨_, rfl⟩
  have hA0 : AdI w J sy lo pb pc vL vM (.slice (some ⟨GZ, 0, none⟩) N cZ) (.slice (some ⟨GP, 0, none⟩) N cP) (.slice (some ⟨GC, 0, none⟩) N cC) own FO.flatten (endsN FO) N la op cl at0 alw w0 := by
    have hb : Below w.heap.size w w0 := by rw [hw0]; exact (Below.refl _ _).alloc (Nat.le_refl _) _
    obtain ⟨vO, vF, vE, vS, vA, hj, h0⟩ := hJ
    exact ⟨hb.mono hlw, KeT.below hb, by rw [hw0, hpb]; exact heap_alloc_new w _, vO, vF, vE, vS, vA, hj.past hb, h0⟩
  have HPa : Hid (∀ V : World, Below lo w V → PaA V aF aA aO Fi La Fo ∧ Below w00.heap.size w00 V) := hid0 (fun V hV => by
    have hb := hb00.trans (hV.mono h00)
    exact ⟨⟨hP.fi.past hb, hP.la.past hb, hP.fo.past hb⟩, hb⟩)
  -- what the box holds, wherever the walk is
  have HBx : Hid (∀ V : World, V.heap[pb]? = some (.cells pc 48 (0, 0)) → V.cell? ⟨pb, 1, none⟩ = some (.slice aF Fi.length cF) ∧ V.cell? ⟨pb, 2, none⟩ = some (.slice aA La.length cA) ∧ V.cell? ⟨pb, 3, none⟩ = some (.slice aO Fo.length cO) ∧ V.cell? ⟨pb, 4, none⟩ = some (.bool em) ∧ V.cell? ⟨pb, 5, none⟩ = some (.bool true)) := hid0 (fun V hV => by
    rw [hpc] at hV
    refine ⟨?_, ?_, ?_, ?_, ?_⟩ <;> (rw [cell_of_row _ _ _ _ _ _ hV]; rfl))
  have HC1 := hid0 (hA0.addC (cL := cF) (base := bs) hlo hlw (fun V hV => (HPa.out V hV).1.fi) hN h1 hl1 (by omega))
  have HC2 : Hid (∀ V : World, AdI w J sy lo pb pc vL vM (.slice (some ⟨GZ, 0, none⟩) N cZ) (.slice (some ⟨GP, 0, none⟩) N cP) (.slice (some ⟨GC, 0, none⟩) N cC) own FO.flatten (endsN FO) N la op (setL cl bs Fi) at0 alw V → Calls Tryd.prog 69 #[.slice (some ⟨GZ, 0, none⟩) N cZ, .int .i64 (bs : Int), .slice aA La.length cA] V.drew fun e w' => (∃ v, e = .returned v) ∧ Hid (AdI w J sy lo pb pc vL vM (.slice (some ⟨GZ, 0, none⟩) N cZ) (.slice (some ⟨GP, 0, none⟩) N cP) (.slice (some ⟨GC, 0, none⟩) N cC) own FO.flatten (endsN FO) N (setL la bs La) op (setL cl bs Fi) at0 alw w')) := hid0 (fun V hV => hV.drew.addZ hlo hlw (fun V hV => (HPa.out V hV).1.la) hN h2 hl2 (by omega))
  -- a state's faces
  have HFc : Hid (∀ {V : World} {own' : List Nat} {it' : List (Nat × Nat)} {en' : List Nat} {la' op' cl' : Nat → Bool} {a' b' : List Nat}, AdI w J sy lo pb pc vL vM (.slice (some ⟨GZ, 0, none⟩) N cZ) (.slice (some ⟨GP, 0, none⟩) N cP) (.slice (some ⟨GC, 0, none⟩) N cC) own' it' en' N la' op' cl' a' b' V → V.cell? ⟨J, 6, none⟩ = some (.slice (some ⟨GZ, 0, none⟩) N cZ) ∧ V.cell? ⟨J, 7, none⟩ = some (.slice (some ⟨GP, 0, none⟩) N cP) ∧ V.cell? ⟨J, 8, none⟩ = some (.slice (some ⟨GC, 0, none⟩) N cC)) := hid0 (fun h => by
    obtain ⟨vO, vF, vE, vS, vA, hj, _⟩ := h.jo
    exact ⟨hj.b.c.2.2.2.2.2.2.1, hj.b.c.2.2.2.2.2.2.2.1, hj.b.c.2.2.2.2.2.2.2.2.1⟩)
  obtain ⟨aO0, cO0, dO⟩ : ∃ a c, w0.cell? ⟨J, 1, none⟩ = some (.slice a bs c) := by
    obtain ⟨vO, vF, vE, vS, vA, hj, _⟩ := hA0.jo
    obtain ⟨a, c, e⟩ := own_sl hj.o
    rw [nI_len, ← hbs] at e
    exact ⟨a, c, by rw [← e]; exact hj.b.c.2.1⟩
  obtain ⟨x1, x2, x3, x4, x5⟩ := HBx.out w0 hA0.box
  obtain ⟨y6, y7, y8⟩ := HFc.out hA0
  have HLo := hid0 (And.intro hlo hlw)
  have HFO := hid0 hFO
  have H3 := hid0 h3
  have HSum := hid0 hsum
  have HBs := hid0 hbs
  have HPw := hid0 hP
  have hbl : bs ≤ 64000000 := by omega
  have hfold := hw0.symm
  have hpb2 := hpb.symm
  rw [hpc] at hfold
  clear hA0 hJ hb00 hP hw0 hFO h3 hsum hbs h1 h2 hlo hlw hl1 hl2 hpc hpb
  go_enter Tryd.func51, Tryd.ntmps51
  go_upto_region 6 with (go_at_call 69; go_loud ((refine HC1.out.mono ?_; rintro e w1 ⟨⟨v1, rfl⟩, HA1⟩)))
  clear x1 x2 x3 x4 x5 y6 y7 y8 dO HC1
  obtain ⟨x1, x2, x3, x4, x5⟩ := HBx.out w1 HA1.out.box
  obtain ⟨y6, y7, y8⟩ := HFc.out HA1.out
  have HC3 := hid0 (HC2.out w1 HA1.out)
  clear HC2 x1 x4 x5 y7 y8 hfold
  go_region_held3 (fun V => V.cell? ⟨J, 6, none⟩ = some (.slice (some ⟨GZ, 0, none⟩) N cZ) ∧ V.cell? ⟨pb, 2, none⟩ = some (.slice aA La.length cA)) (first | exact ⟨y6, x2⟩ | assumption)
    (first
      | (go_at_call 69; refine HC3.out.mono ?_; rintro e w2 ⟨⟨v2, rfl⟩, HA2⟩; have hs2 := And.intro (HFc.out HA2.out).1 (HBx.out w2 HA2.out.box).2.1))
  clear x2 x3 y6 HC3 HA1 hs2
  obtain ⟨x1, x2, x3, x4, x5⟩ := HBx.out w2 HA2.out.box
  clear x1 x2 x4 x5
  have hrm : (bs : Int) ≤ 64000000 := by omega
  obtain ⟨la1, hla1⟩ : ∃ la1, la1 = setL la bs La := ⟨_, rfl⟩
  obtain ⟨op1, hop1⟩ : ∃ op1, op1 = op := ⟨_, rfl⟩
  obtain ⟨cl1, hcl1⟩ : ∃ cl1, cl1 = (setL cl bs Fi) := ⟨_, rfl⟩
  have HEq := hid0 (And.intro hla1 (And.intro hop1 hcl1))
  rw [← hla1, ← hop1, ← hcl1] at HA2
  clear hla1 hop1 hcl1
  go_wp2
  go_loopw [47] (fun i wr => ∃ k : Nat, k ≤ Fo.length ∧ i = .int .i64 (k : Int) ∧ Hid (AdI w J sy lo pb pc vL vM (.slice (some ⟨GZ, 0, none⟩) N cZ) (.slice (some ⟨GP, 0, none⟩) N cP) (.slice (some ⟨GC, 0, none⟩) N cC) (own ++ List.replicate k nm) (FOs FO bs Fo k).flatten (endsN (FOs FO bs Fo k)) N la1 op1 cl1 at0 alw wr)) (fun i _ => Fo.length - (intOf i).toNat)
  case atStart => exact ⟨0, Nat.zero_le _, rfl, hid0 (by have h := HA2.out; simpa [FOs] using h)⟩
  case round =>
    clear x3
    obtain ⟨k, hk, rfl, HK⟩ := hrel
    by_cases hkl : k < Fo.length
    · obtain ⟨b, off, eb, hbw, a1, c1, y0, y1⟩ := HPw.out.fo.at' k (by rw [List.length_map]; exact hkl)
      obtain ⟨L, hL⟩ : ∃ L, L = Fo[k] := ⟨_, rfl⟩
      have hLm : L ∈ Fo := by rw [hL]; exact List.getElem_mem hkl
      rw [List.getElem_map, ← hL, nI_len] at y0
      rw [List.getElem_map, ← hL] at y1
      have hbl2 := (HPa.out wr HK.out.bel).2
      have z0 : wr.cell? ⟨b, off + k, none⟩ = some (.slice a1 L.length c1) := (hbl2.cell (p := ⟨b, off + k, none⟩) hbw).trans y0
      have HIL : Hid (∀ V : World, Below lo w V → IA V a1 (nI L)) := hid0 (fun V hV => y1.past (HPa.out V hV).2)
      subst eb
      obtain ⟨it0, hit0⟩ : ∃ it0, it0 = (FOs FO bs Fo k).flatten := ⟨_, rfl⟩
      obtain ⟨en0, hen0⟩ : ∃ en0, en0 = endsN (FOs FO bs Fo k) := ⟨_, rfl⟩
      obtain ⟨own0, hown0⟩ : ∃ own0, own0 = own ++ List.replicate k nm := ⟨_, rfl⟩
      have HLL : Hid (L ∈ Fo ∧ L = Fo[k] ∧ it0 = (FOs FO bs Fo k).flatten ∧ en0 = endsN (FOs FO bs Fo k) ∧ own0 = own ++ List.replicate k nm) := hid0 ⟨hLm, hL, hit0, hen0, hown0⟩
      have HLn : Hid (own0.length ≤ 64000000 ∧ it0.length + L.length ≤ 900000000 ∧ en0.length ≤ 128000000) := hid0 (by
        have q1 := FOs_len FO bs Fo k hk
        have q2 := sum_take Fo hkl
        have q3 := sum_le Fo (k + 1)
        have q4 := HSum.out
        have q5 := HBs.out
        refine ⟨?_, ?_, ?_⟩
        · rw [hown0, List.length_append, List.length_replicate]; omega
        · rw [hit0]; rw [hL]; omega
        · rw [hen0, endsN_len]; unfold FOs; rw [List.length_append, List.length_map, List.length_take]; omega)
      have HOk : Hid (∀ x ∈ it0, x.1 < N ∧ x.2 < 18446744073709551616) := hid0 (by rw [hit0]; exact FOs_ok FO bs N Fo k HFO.out H3.out)
      have HK1 : Hid (AdI w J sy lo pb pc vL vM (.slice (some ⟨GZ, 0, none⟩) N cZ) (.slice (some ⟨GP, 0, none⟩) N cP) (.slice (some ⟨GC, 0, none⟩) N cC) own0 it0 en0 N la1 op1 cl1 at0 alw wr) := hid0 (by rw [hit0, hen0, hown0]; exact HK.out)
      clear hL hLm hit0 hen0 hown0 hbl2 y0 y1 HK
      have HO1 : Hid (∃ a n c, n = own0.length ∧ wr.cell? ⟨J, 1, none⟩ = some (.slice a n c) ∧ wr.ownsRow lo 3 1 (.slice a n c) n ((nI own0).map (Value.int .i64)) ∧ ∀ (v1 : Value) (w1 : World), ApG 3 wr w1 lo (.slice a n c) v1 ((nI own0).map (Value.int .i64) ++ [Value.int .i64 (nm : Int)]) → (w1.cell? ⟨J, 1, none⟩ = some (.slice a n c) ∧ w1.frozen? ⟨J, 1, none⟩ = false) ∧ AdI w J sy lo pb pc vL vM (.slice (some ⟨GZ, 0, none⟩) N cZ) (.slice (some ⟨GP, 0, none⟩) N cP) (.slice (some ⟨GC, 0, none⟩) N cC) (own0 ++ [nm]) it0 en0 N la1 op1 cl1 at0 alw (w1.setCell ⟨J, 1, none⟩ v1)) := hid0 (by
        obtain ⟨vO, vF, vE, vS, vA, hj, h0⟩ := HK1.out.jo
        obtain ⟨a, c, e⟩ := own_sl hj.o
        have ho := hj.o
        unfold OwnI at ho
        rw [nI_len] at ho e
        refine ⟨a, own0.length, c, rfl, by rw [← e]; exact hj.b.c.2.1, by rw [← e]; exact ho, fun v1 w1 hg => ?_⟩
        rw [← e] at hg ⊢
        obtain ⟨g1, g2, g3⟩ := hj.setO hg
        exact ⟨⟨g1.c.2.1, by simp [World.frozen?, g1.r]⟩, HK1.out.next HLo.out.1 HLo.out.2 hj.o (by decide) g3 ⟨_, _, _, _, _, g2, h0⟩⟩)
      obtain ⟨aw, nw, cw, hnw, dw, how, hnx⟩ := HO1.out
      have hnl : nw ≤ 64000000 := by rw [hnw]; exact HLn.out.1
      have HOw := hid0 how
      have HOl := hid0 hnw
      have HNx := hid0 hnx
      have hlr : lo ≤ wr.heap.size := Nat.le_trans HLo.out.2 HK1.out.bel.size
      have hkI : (k : Int) < (Fo.length : Int) := by omega
      have hkI0 : (0 : Int) ≤ (k : Int) := by omega
      clear HO1 hnw how hnx
      go_upto_region 11 with (at_builtin; go_loud ((refine wpList_append_own_at _ rfl _ _ 34 rfl lo 3 i0 (.int .i64 0) 1 8 Tryd.underlying34 hi hz0 hz1 hz2 rfl (by decide) (.slice aw nw cw) nw ((nI own0).map (Value.int .i64)) rfl (World.ownsRow.alloc HOw.out _) ⟨wr.heap.size, 0, none⟩ 1 1 [.int .i64 (nm : Int)] rfl rfl (cell_one_new _ _ _) (by simp [Value.oneCell']) (by unfold maxLen; omega) (by omega) (by simp; omega) ?_; intro v1 w1 h1 h2 _ h4; obtain ⟨a2, c2, rfl⟩ := own_sl h1; have R := hid0 (HNx.out _ w1 (apG_one (by rw [List.length_map, nI_len, ← HOl.out]; exact h1) h2 h4)); clear h1 h2 h4; have d1 := R.out.1.1; have f1 := R.out.1.2)))
      have HA3 := hid0 R.out.2
      clear R d1 f1 HNx HOw HOl dw z0 HK1
      generalize w1.setCell ⟨J, 1, none⟩ (.slice a2 (nw + 1) c2) = w3 at *
      obtain ⟨aI, cI, dI⟩ : ∃ a c, w3.cell? ⟨J, 2, none⟩ = some (.slice a it0.length c) := by
        obtain ⟨vO, vF, vE, vS, vA, hj, _⟩ := HA3.out.jo
        obtain ⟨a, c, e⟩ := own_sl hj.f
        exact ⟨a, c, by rw [← e]; exact hj.b.c.2.2.1⟩
      obtain ⟨fr, hfr⟩ : ∃ fr, fr = it0.length := ⟨_, rfl⟩
      rw [← hfr] at dI
      have hfrl : fr ≤ 900000000 := by have := HLn.out.2.1; omega
      have hLl : L.length ≤ 900000000 := by have := HLn.out.2.1; omega
      have HFr := hid0 hfr
      clear hfr
      go_wp2
      go_loopw [69] (fun j wr2 => ∃ m : Nat, m ≤ L.length ∧ j = .int .i64 (m : Int) ∧ Hid (AdI w J sy lo pb pc vL vM (.slice (some ⟨GZ, 0, none⟩) N cZ) (.slice (some ⟨GP, 0, none⟩) N cP) (.slice (some ⟨GC, 0, none⟩) N cC) (own0 ++ [nm]) (it0 ++ rowW bs (L.take m)) en0 N la1 op1 cl1 at0 alw wr2)) (fun j _ => L.length - (intOf j).toNat)
      case atStart => exact ⟨0, Nat.zero_le _, rfl, hid0 (by have h := HA3.out; simpa [rowW] using h)⟩
      case round =>
        clear dI
        obtain ⟨m, hm, rfl, HM⟩ := hrel
        obtain ⟨V, hV⟩ : ∃ V, V = wr := ⟨_, rfl⟩
        subst hV
        by_cases hml : m < L.length
        · obtain ⟨g1, o1, eg, _, z1⟩ := (HIL.out V HM.out.bel).at' m (by rw [nI_len]; exact hml)
          subst eg
          obtain ⟨p, hp⟩ : ∃ p, p = L[m] := ⟨_, rfl⟩
          have z2 : V.cell? ⟨g1, o1 + m, none⟩ = some (.int .i64 (p : Int)) := by rw [z1, hp]; unfold nI; rw [List.getElem_map]
          have hpN := H3.out L HLL.out.1 p (by rw [hp]; exact List.getElem_mem hml)
          obtain ⟨q, hq⟩ : ∃ q, q = bs + p := ⟨_, rfl⟩
          obtain ⟨lw, hlw⟩ : ∃ lw, lw = it0 ++ rowW bs (L.take m) := ⟨_, rfl⟩
          have HNw : Hid (addW lw fr q = it0 ++ rowW bs (L.take (m + 1))) := hid0 (by rw [hlw, HFr.out, hq, addW_pre, rowW_take bs hml, hp])
          have HCx : Hid (∃ a c, V.cell? ⟨J, 2, none⟩ = some (.slice a lw.length c) ∧ (Calls Tryd.prog 70 #[.slice a lw.length c, .int .i64 (fr : Int), .int .i64 (q : Int)] V fun e w' => ∃ v', e = .returned v' ∧ Hid (ApP V w' lo (.slice a lw.length c) v' (addW lw fr q))) ∧ ∀ (v1 : Value) (w1 : World), ApP V w1 lo (.slice a lw.length c) v1 (addW lw fr q) → (w1.cell? ⟨J, 2, none⟩ = some (.slice a lw.length c) ∧ w1.frozen? ⟨J, 2, none⟩ = false) ∧ AdI w J sy lo pb pc vL vM (.slice (some ⟨GZ, 0, none⟩) N cZ) (.slice (some ⟨GP, 0, none⟩) N cP) (.slice (some ⟨GC, 0, none⟩) N cC) (own0 ++ [nm]) (it0 ++ rowW bs (L.take (m + 1))) en0 N la1 op1 cl1 at0 alw (w1.setCell ⟨J, 2, none⟩ v1)) := hid0 (by
            obtain ⟨vO, vF, vE, vS, vA, hj, h0⟩ := HM.out.jo
            rw [← hlw] at hj
            have hfl : fr ≤ lw.length := by rw [hlw, HFr.out, List.length_append]; omega
            have hll : lw.length ≤ 1000000000 := by
              have q1 := rowW_len bs (L.take m)
              have q2 := HLn.out.2.1
              rw [List.length_take] at q1
              rw [hlw, List.length_append]; omega
            have hxx : ∀ x ∈ lw, x.1 ≤ 1000000000 ∧ x.2 < 18446744073709551616 := by
              intro x hx
              rw [hlw] at hx
              rcases List.mem_append.1 hx with h | h
              · have := HOk.out x h; omega
              · have := rowW_ok bs N (L.take m) (fun p hp => H3.out L HLL.out.1 p (List.mem_of_mem_take hp)) x h; omega
            obtain ⟨a, c, e⟩ := own_sl hj.f
            refine ⟨a, c, by rw [← e]; exact hj.b.c.2.2.1, by rw [← e]; exact (addBit_any lo fr q lw vF V hj.f (Nat.le_trans HLo.out.2 HM.out.bel.size) hfl hll (by omega) hxx).mono (fun _ _ ⟨v', q1, q2⟩ => ⟨v', q1, hid0 q2⟩), fun v1 w1 hg => ?_⟩
            rw [← e] at hg ⊢
            obtain ⟨g1, g2, g3⟩ := hj.setF hg
            have hne := addW_ne lw fr q hfl
            rw [HNw.out] at g2 hne
            exact ⟨⟨g1.c.2.2.1, by simp [World.frozen?, g1.r]⟩, HM.out.next HLo.out.1 HLo.out.2 hj.f (by decide) g3 ⟨_, _, _, _, _, g2, fun q => absurd q hne⟩⟩)
          obtain ⟨ax, cx, dx, hcx, hnx⟩ := HCx.out
          obtain ⟨nx, hnxl⟩ : ∃ nx, nx = lw.length := ⟨_, rfl⟩
          rw [← hnxl] at dx hcx hnx
          have hnb : nx ≤ 1000000000 := by
            have q1 := rowW_len bs (L.take m)
            have q2 := HLn.out.2.1
            rw [List.length_take] at q1
            rw [hnxl, hlw, List.length_append]; omega
          have HCc := hid0 hcx
          have HNx := hid0 hnx
          have hadd : (bs : Int) + (p : Int) = (q : Int) := by omega
          have hpb3 : (q : Int) ≤ 64000000 := by omega
          have hwr : IntKind.i64.wrap (q : Int) = (q : Int) := by rw [IntKind.wrap_i64]; omega
          have hmI : (m : Int) < (L.length : Int) := by omega
          have hmI0 : (0 : Int) ≤ (m : Int) := by omega
          clear HCx hcx hnx hnxl hlw hp z1 HNw HM hq
          go_wp2_with (go_at_call 70; go_loud ((refine HCc.out.mono ?_; rintro e w4 ⟨v4, rfl, HA4⟩; obtain ⟨a4, c4, rfl⟩ := own_sl HA4.out.own; have R := hid0 (HNx.out _ w4 HA4.out); have d2 := R.out.1.1; have f2 := R.out.1.2; clear HA4)))
          have HM2 := hid0 R.out.2
          go_roundw
          case rel => exact ⟨m + 1, by omega, by go_num, HM2⟩
          case measure => simp [intOf]; omega
        · obtain rfl : m = L.length := by omega
          obtain ⟨it1, hit1⟩ : ∃ it1, it1 = it0 ++ rowW bs L := ⟨_, rfl⟩
          have hM1 : AdI w J sy lo pb pc vL vM (.slice (some ⟨GZ, 0, none⟩) N cZ) (.slice (some ⟨GP, 0, none⟩) N cP) (.slice (some ⟨GC, 0, none⟩) N cC) (own0 ++ [nm]) it1 en0 N la1 op1 cl1 at0 alw V := by have h := HM.out; rw [List.take_length] at h; rw [hit1]; exact h
          have HCe : Hid (Calls Tryd.prog 71 #[.pointer (some ⟨J, 2, none⟩)] V fun e w' => (∃ v, e = .returned v) ∧ Hid (AdI w J sy lo pb pc vL vM (.slice (some ⟨GZ, 0, none⟩) N cZ) (.slice (some ⟨GP, 0, none⟩) N cP) (.slice (some ⟨GC, 0, none⟩) N cC) (own0 ++ [nm]) it1 (en0 ++ [it1.length]) N la1 op1 cl1 at0 alw w')) := hid0 (by
            obtain ⟨vO, vF, vE, vS, vA, hj, h0⟩ := hM1.jo
            obtain ⟨a, c, e⟩ := own_sl hj.f
            obtain ⟨a', c', e'⟩ := own_sl hj.e
            rw [nI_len] at e'
            have q1 := rowW_len bs L
            have q2 := HLn.out.2.1
            subst e
            subst e'
            refine (endW_any J sy lo it1.length c c' en0 a a' vO vL vM _ _ _ vS vA V hj.b hj.e (Nat.le_trans HLo.out.2 hM1.bel.size) (by rw [hit1, List.length_append]; omega) (by have := HLn.out.2.2; omega)).mono (fun _ _ ⟨q1, v', g1, g2, g3, g4⟩ => ⟨q1, hid0 (hM1.next HLo.out.1 HLo.out.2 hj.e (by decide) g3 ⟨_, _, _, _, _, hj.at_e g1 g2 g3 g4, h0⟩)⟩))
          have HFin : Hid (∀ V : World, AdI w J sy lo pb pc vL vM (.slice (some ⟨GZ, 0, none⟩) N cZ) (.slice (some ⟨GP, 0, none⟩) N cP) (.slice (some ⟨GC, 0, none⟩) N cC) (own0 ++ [nm]) it1 (en0 ++ [it1.length]) N la1 op1 cl1 at0 alw V → AdI w J sy lo pb pc vL vM (.slice (some ⟨GZ, 0, none⟩) N cZ) (.slice (some ⟨GP, 0, none⟩) N cP) (.slice (some ⟨GC, 0, none⟩) N cC) (own ++ List.replicate (k + 1) nm) (FOs FO bs Fo (k + 1)).flatten (endsN (FOs FO bs Fo (k + 1))) N la1 op1 cl1 at0 alw V) := hid0 (fun V h => by
            obtain ⟨_, g2, g3, g4, g5⟩ := HLL.out
            have e1 : it1 = (FOs FO bs Fo (k + 1)).flatten := by rw [hit1, FOs_succ FO bs hkl, List.flatten_append, g3, g2]; simp
            have e2 : en0 ++ [it1.length] = endsN (FOs FO bs Fo (k + 1)) := by rw [e1, FOs_succ FO bs hkl, endsN_snoc, g4]
            have e3 : own0 ++ [nm] = own ++ List.replicate (k + 1) nm := by rw [g5, List.replicate_succ', List.append_assoc]
            rw [e2, e1, e3] at h
            exact h)
          clear hit1 hM1 HM
          go_wp2_with (go_at_call 71; go_loud ((refine HCe.out.mono ?_; rintro e w4 ⟨⟨v4, rfl⟩, HA4⟩)))
          have HN4 := hid0 (HFin.out w4 HA4.out)
          go_roundw
          case rel => exact ⟨k + 1, by omega, by go_num, HN4⟩
          case measure => simp [intOf]; omega
    · obtain rfl : k = Fo.length := by omega
      obtain ⟨FO1, hFO1⟩ : ∃ FO1, FO1 = FO ++ Fo.map (rowW bs) := ⟨_, rfl⟩
      have HK1 : Hid (AdI w J sy lo pb pc vL vM (.slice (some ⟨GZ, 0, none⟩) N cZ) (.slice (some ⟨GP, 0, none⟩) N cP) (.slice (some ⟨GC, 0, none⟩) N cC) (own ++ List.replicate Fo.length nm) FO1.flatten (endsN FO1) N la1 op1 cl1 at0 alw wr) := hid0 (by
        have e : FOs FO bs Fo Fo.length = FO1 := by unfold FOs; rw [List.take_length, hFO1]
        have h := HK.out; rw [e] at h; exact h)
      obtain ⟨own1, hown1⟩ : ∃ own1, own1 = own ++ List.replicate Fo.length nm := ⟨_, rfl⟩
      rw [← hown1] at HK1
      have HFi : Hid (∀ {V : World} {a' b' : List Nat}, AdI w J sy lo pb pc vL vM (.slice (some ⟨GZ, 0, none⟩) N cZ) (.slice (some ⟨GP, 0, none⟩) N cP) (.slice (some ⟨GC, 0, none⟩) N cC) own1 FO1.flatten (endsN FO1) N la1 op1 cl1 a' b' V → (Below lo w V ∧ KeT w V) ∧ JoX V J sy lo vL vM (.slice (some ⟨GZ, 0, none⟩) N cZ) (.slice (some ⟨GP, 0, none⟩) N cP) (.slice (some ⟨GC, 0, none⟩) N cC) (own ++ List.replicate Fo.length nm) (FO ++ Fo.map (rowW bs)) N (setL la bs La) op (setL cl bs Fi) a' b') := hid0 (fun h => by
        obtain ⟨e1, e2, e3⟩ := HEq.out
        rw [← e1, ← e2, ← e3, ← hFO1, ← hown1]
        exact ⟨⟨h.bel, h.kp⟩, h.jo⟩)
      clear HK hFO1 hown1
      obtain ⟨x1, x2, x3, x4, x5⟩ := HBx.out wr HK1.out.box
      clear x1 x2 x3
      cases em
      · go_wp2
        refine bodyPost_ret (results_none rfl _ _ _) rfl ?_
        exact ⟨⟨_, rfl⟩, HFi.out HK1.out⟩
      · have HO1 : Hid (∃ a n c, n = at0.length ∧ wr.cell? ⟨J, 9, none⟩ = some (.slice a n c) ∧ wr.ownsRow lo 3 1 (.slice a n c) n ((nI at0).map (Value.int .i64)) ∧ ∀ (v1 : Value) (w1 : World), ApG 3 wr w1 lo (.slice a n c) v1 ((nI at0).map (Value.int .i64) ++ [Value.int .i64 (nm : Int)]) → (w1.cell? ⟨J, 9, none⟩ = some (.slice a n c) ∧ w1.frozen? ⟨J, 9, none⟩ = false) ∧ AdI w J sy lo pb pc vL vM (.slice (some ⟨GZ, 0, none⟩) N cZ) (.slice (some ⟨GP, 0, none⟩) N cP) (.slice (some ⟨GC, 0, none⟩) N cC) own1 FO1.flatten (endsN FO1) N la1 op1 cl1 (at0 ++ [nm]) alw (w1.setCell ⟨J, 9, none⟩ v1)) := hid0 (by
          obtain ⟨vO, vF, vE, vS, vA, hj, h0⟩ := HK1.out.jo
          obtain ⟨a, c, e⟩ := own_sl hj.s
          have ho := hj.s
          unfold OwnI at ho
          rw [nI_len] at ho e
          refine ⟨a, at0.length, c, rfl, by rw [← e]; exact hj.b.c.2.2.2.2.2.2.2.2.2.1, by rw [← e]; exact ho, fun v1 w1 hg => ?_⟩
          rw [← e] at hg ⊢
          obtain ⟨g1, g2, g3⟩ := hj.setS hg
          exact ⟨⟨g1.c.2.2.2.2.2.2.2.2.2.1, by simp [World.frozen?, g1.r]⟩, HK1.out.next HLo.out.1 HLo.out.2 hj.s (by decide) g3 ⟨_, _, _, _, _, g2, h0⟩⟩)
        obtain ⟨aw, nw, cw, hnw, dw, how, hnx⟩ := HO1.out
        have hnl : nw ≤ 100000000 := by rw [hnw]; exact ha0
        have HOw := hid0 how
        have HOl := hid0 hnw
        have HNx := hid0 hnx
        have hlr : lo ≤ wr.heap.size := Nat.le_trans HLo.out.2 HK1.out.bel.size
        clear HO1 hnw how hnx
        go_upto_region 21 with (at_builtin; go_loud ((refine wpList_append_own_at _ rfl _ _ 34 rfl lo 3 i0 (.int .i64 0) 1 8 Tryd.underlying34 hi hz0 hz1 hz2 rfl (by decide) (.slice aw nw cw) nw ((nI at0).map (Value.int .i64)) rfl (World.ownsRow.alloc HOw.out _) ⟨wr.heap.size, 0, none⟩ 1 1 [.int .i64 (nm : Int)] rfl rfl (cell_one_new _ _ _) (by simp [Value.oneCell']) (by unfold maxLen; omega) (by omega) (by simp; omega) ?_; intro v1 w1 h1 h2 _ h4; obtain ⟨a2, c2, rfl⟩ := own_sl h1; have R := hid0 (HNx.out _ w1 (apG_one (by rw [List.length_map, nI_len, ← HOl.out]; exact h1) h2 h4)); clear h1 h2 h4; have d1 := R.out.1.1; have f1 := R.out.1.2)))
        have HA3 := hid0 R.out.2
        clear R d1 f1 HNx HOw HOl dw HK1 x4 x5
        generalize w1.setCell ⟨J, 9, none⟩ (.slice a2 (nw + 1) c2) = w3 at *
        have x5 := (HBx.out w3 HA3.out.box).2.2.2.2
        go_wp2
        go_end0
        exact ⟨⟨_, rfl⟩, HFi.out HA3.out⟩
end Go.Proofs.YtbbejfkgopcjoaaDoor
