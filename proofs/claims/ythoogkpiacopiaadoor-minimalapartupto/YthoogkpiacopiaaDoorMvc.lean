/-
  MiMW, MiQW, MiQXW, MiRM, MiRW, MiSM, MiSW, MiOM, MiFW.
-/
import Derived.Test.YthoogkpiacopiaaDoorMvb
import Derived.Test.YthoogkpiacopiaaDoorMva
import Derived.BigRegion
namespace Go.Proofs.YthoogkpiacopiaaDoor
open Go.RowKit Go.Shelf
def errQ (A : Nat → Addr) : Option (Option (List Nat)) → Value
  | none => .iface 97 (.pointer (some (A 0)))
  | some _ => .nilIface
theorem OwnI.past {w w' : World} {base : Nat} {v : Value} {L : List Int} (h : OwnI w base v L) (hb : Below w.heap.size w w') : OwnI w' base v L := own_blk h (fun k hk => hb.block k (World.ownsRow.lt h k hk).2)
/-- Where they part, told by the word. -/
theorem firstUnlike_some (m sa sb lo X G B cN cO cM cP : Nat) (N O N' O' : List (List Int)) (aN aO aM aP : Option Addr) (wb w : World) (u : List Nat) (hu : (twoF m (sa : Int) (sb : Int) N O N' O').Best u) (hlo : lo = wb.heap.size) (ha : MaA wb aN aO N O) (hb : MaA wb aM aP N' O') (hma : May (sa : Int) N O m) (hmb : May (sb : Int) N' O' m)
    (hbig : N.length + N'.length ≤ 100000000000) (hm64 : m ≤ 100000000000) (hOr : ∀ r ∈ O, r.length ≤ 17592186044000) (hB : Below lo wb w) (hk : Wk w lo X G B (N.length + N'.length) (.int .i64 (sa : Int)) (.slice aN N.length cN) (.slice aO O.length cO) (.int .i64 (sb : Int)) (.slice aM N'.length cM) (.slice aP O'.length cP) (.slice none 0 0) (fun s => s) []) :
    Calls Tryd.prog 32 #[.pointer (some ⟨X, 0, none⟩)] w fun e w' => ∃ i : Nat, e = .returned (.tuple #[.int .i64 (i : Int), .bool true]) ∧ (∃ p vm l Wd, Wk w' lo X G B (N.length + N'.length) (.int .i64 (sa : Int)) (.slice aN N.length cN) (.slice aO O.length cO) (.int .i64 (sb : Int)) (.slice aM N'.length cM) (.slice aP O'.length cP) vm p l ∧ Met (twoF m (sa : Int) (sb : Int) N O N' O') l Wd ∧ i < l.length ∧ l.length ≤ N.length + N'.length ∧ Wd i = u) ∧ Below lo wb w' := by
  refine (firstUnlike_any m sa sb lo X G B cN cO cM cP N O N' O' aN aO aM aP wb w hlo ha hb hma hmb hbig hm64 hOr hB hk).mono ?_
  intro e w' h
  rcases h with ⟨i, p, vm, l, Wd, h1, h2, h3, h4, h5, h6, h7⟩ | ⟨_, h, _⟩
  · exact ⟨i, h1, ⟨p, vm, l, Wd, h2, h3, h4, h5, h6.one hu⟩, h7⟩
  · exact absurd hu.dis (h u hu.ok)
theorem firstUnlike_none (m sa sb lo X G B cN cO cM cP : Nat) (N O N' O' : List (List Int)) (aN aO aM aP : Option Addr) (wb w : World) (hu : ∀ z, (twoF m (sa : Int) (sb : Int) N O N' O').ok z → ¬ (twoF m (sa : Int) (sb : Int) N O N' O').dis (twoF m (sa : Int) (sb : Int) N O N' O').sa (twoF m (sa : Int) (sb : Int) N O N' O').sb z) (hlo : lo = wb.heap.size) (ha : MaA wb aN aO N O) (hb : MaA wb aM aP N' O') (hma : May (sa : Int) N O m) (hmb : May (sb : Int) N' O' m)
    (hbig : N.length + N'.length ≤ 100000000000) (hm64 : m ≤ 100000000000) (hOr : ∀ r ∈ O, r.length ≤ 17592186044000) (hB : Below lo wb w) (hk : Wk w lo X G B (N.length + N'.length) (.int .i64 (sa : Int)) (.slice aN N.length cN) (.slice aO O.length cO) (.int .i64 (sb : Int)) (.slice aM N'.length cM) (.slice aP O'.length cP) (.slice none 0 0) (fun s => s) []) :
    Calls Tryd.prog 32 #[.pointer (some ⟨X, 0, none⟩)] w fun e w' => e = .returned (.tuple #[.int .i64 0, .bool false]) ∧ Below lo wb w' := by
  refine (firstUnlike_any m sa sb lo X G B cN cO cM cP N O N' O' aN aO aM aP wb w hlo ha hb hma hmb hbig hm64 hOr hB hk).mono ?_
  intro e w' h
  rcases h with ⟨i, p, vm, l, Wd, h1, h2, h3, h4, h5, h6, h7⟩ | ⟨h1, h, h2⟩
  · exact absurd h6.dis (hu _ h6.ok)
  · exact ⟨h1, h2⟩
/-- Lists of a machine are small. -/
structure Sml (N O : List (List Int)) : Prop where
  n : N.length ≤ 2000000
  nr : ∀ r ∈ N, r.length ≤ 2000000
  or : ∀ r ∈ O, r.length ≤ 2000000
theorem two_boxes (w : World) (a b : Array Value) (t : TypeId) : ∃ w0, (w.alloc (.cells a t)).alloc (.cells b t) = w0 ∧ Below w.heap.size w w0 ∧ w0.heap.size = w.heap.size + 1 + 1 ∧ w0.heap[w.heap.size]? = some (.cells a t (0, 0)) ∧ w0.heap[w.heap.size + 1]? = some (.cells b t (0, 0)) := by
  refine ⟨_, rfl, ((Below.refl _ _).alloc (Nat.le_refl _) _).alloc (by simp) _, by simp, ?_, ?_⟩
  · rw [Below.heap_alloc _ _ _ (by simp)]
    exact heap_alloc_new w _
  · have h := heap_alloc_new (w.alloc (.cells a t)) (.cells b t)
    simpa using h
theorem row3c {W : World} {X : Nat} {t : TypeId} {a b c : Value} (h : W.heap[X]? = some (.cells #[a, b, c] t (0, 0))) : W.cell? ⟨X, 0, none⟩ = some a ∧ W.cell? ⟨X, 1, none⟩ = some b ∧ W.cell? ⟨X, 2, none⟩ = some c :=
  ⟨by rw [cell_of_row _ _ _ _ _ _ h]; rfl, by rw [cell_of_row _ _ _ _ _ _ h]; rfl, by rw [cell_of_row _ _ _ _ _ _ h]; rfl⟩
set_option maxRecDepth 10000 in
set_option maxHeartbeats 1600000 in
theorem apart_any (A : Nat → Addr) (sa sb sy : Int) (N O N' O' : List (List Int)) (aN aO aM aP : Option Addr) (cN cO cM cP : Nat) (w : World) (hs : Sml N O) (hs' : Sml N' O') (ha : MaA w aN aO N O) (hb : MaA w aM aP N' O') (he : Sents w A) (res : Option (Option (List Nat))) (hr : ApR sa sb sy N O N' O' res) :
    Calls Tryd.prog 6 #[.agg #[.int .i64 sa, .slice aN N.length cN, .slice aO O.length cO], .agg #[.int .i64 sb, .slice aM N'.length cM, .slice aP O'.length cP], .int .i64 sy] w fun e w' => ∃ v, e = .returned (.tuple #[v, .bool (apB res), errQ A res]) ∧ OwnI w' w.heap.size v (apW res) ∧ (apW res).length ≤ 4000000 ∧ Below w.heap.size w w' := by
  obtain ⟨w0, hw0, hB0, hsz0, hA0, hM0⟩ := two_boxes w #[.int .i64 sa, .slice aN N.length cN, .slice aO O.length cO] #[.int .i64 sb, .slice aM N'.length cM, .slice aP O'.length cP] 24
  have HCl : Hid (∀ V : World, Below w0.heap.size w0 V → (V.cell? ⟨w.heap.size, 0, none⟩ = some (.int .i64 sa) ∧ V.cell? ⟨w.heap.size, 1, none⟩ = some (.slice aN N.length cN) ∧ V.cell? ⟨w.heap.size, 2, none⟩ = some (.slice aO O.length cO)) ∧ (V.cell? ⟨w.heap.size + 1, 0, none⟩ = some (.int .i64 sb) ∧ V.cell? ⟨w.heap.size + 1, 1, none⟩ = some (.slice aM N'.length cM) ∧ V.cell? ⟨w.heap.size + 1, 2, none⟩ = some (.slice aP O'.length cP))) := hid0 (fun V hV => ⟨row3c ((hV.block _ (by omega)).trans hA0), row3c ((hV.block _ (by omega)).trans hM0)⟩)
  have HAl : Hid (∀ V : World, Below w0.heap.size w0 V → MaA V aN aO N O ∧ MaA V aM aP N' O' ∧ Sents V A ∧ Below w.heap.size w V) := hid0 (fun V hV => by
    have h := hB0.trans (hV.mono (by omega))
    exact ⟨ha.past h, hb.past h, he.below h, h⟩)
  obtain ⟨⟨x0, x1, x2⟩, ⟨x3, x4, x5⟩⟩ := HCl.out w0 (Below.refl _ _)
  have HM1 := hid0 (mayBe_any sa sy N O aN aO cN cO w0 (by have := hs.n; omega) (fun r hr => by have := hs.nr r hr; omega) (fun r hr => by have := hs.or r hr; omega) (HAl.out w0 (Below.refl _ _)).1.n (HAl.out w0 (Below.refl _ _)).1.o)
  have HM2 : Hid (∀ V : World, Below w0.heap.size w0 V → Calls Tryd.prog 30 #[.agg #[.int .i64 sb, .slice aM N'.length cM, .slice aP O'.length cP], .int .i64 sy] V fun e w' => e = .returned (.bool (mayF sb N' O' sy)) ∧ Below V.heap.size V w') := hid0 (fun V hV => mayBe_any sb sy N' O' aM aP cM cP V (by have := hs'.n; omega) (fun r hr => by have := hs'.nr r hr; omega) (fun r hr => by have := hs'.or r hr; omega) (HAl.out V hV).2.1.n (HAl.out V hV).2.1.o)
  clear hB0 hA0 hM0 ha hb he
  have HZ0 := hid0 hsz0
  clear hsz0
  cases hr with
  | bad h =>
    cases hm1 : mayF sa N O sy with
    | false =>
      rw [hm1] at HM1
      clear h hm1
      go_enter Tryd.func6, Tryd.ntmps6
      go_wp2_with (go_at_call 30; refine HM1.out.mono ?_; rintro e w1 ⟨rfl, hb1⟩; have HB1 := hid0 hb1; have e0 := (HAl.out w1 hb1).2.2.1.c0; clear hb1)
      go_quiet ((fail))
      go_wp2
      go_returns
      exact ⟨_, rfl, World.ownsRow_nil _ _ _ _, by simp [apW], below_drew' (HAl.out w1 HB1.out).2.2.2 _⟩
    | true =>
      have hm2 : mayF sb N' O' sy = false := by cases q : mayF sb N' O' sy with | false => rfl | true => exact (h hm1 q).elim
      rw [hm1] at HM1
      rw [hm2] at HM2
      clear h hm1 hm2
      go_enter Tryd.func6, Tryd.ntmps6
      go_wp2_with (first
        | (go_at_call 30; have hq := HB1.out; refine (HM2.out _ hq).mono ?_; rintro e w2 ⟨rfl, hb2⟩; have HB2 : Hid (Below w0.heap.size w0 w2) := hid0 (hq.trans (hb2.mono hq.size)); have e0 := (HAl.out w2 HB2.out).2.2.1.c0; clear hb2 hq)
        | (go_at_call 30; refine HM1.out.mono ?_; rintro e w1 ⟨rfl, hb1⟩; have HB1 := hid0 hb1; obtain ⟨_, ⟨y3, y4, y5⟩⟩ := HCl.out w1 hb1; clear hb1 HM1))
      go_quiet ((fail))
      go_wp2
      go_returns
      exact ⟨_, rfl, World.ownsRow_nil _ _ _ _, by simp [apW], below_drew' (HAl.out w2 HB2.out).2.2.2 _⟩
  | good m r hm h1 h2 h3 h4 h =>
    subst hm
    rw [h1] at HM1
    rw [h2] at HM2
    obtain ⟨pa, rfl⟩ : ∃ pa : Nat, sa = (pa : Int) := ⟨sa.toNat, by have := h3.start; omega⟩
    obtain ⟨pb, rfl⟩ : ∃ pb : Nat, sb = (pb : Int) := ⟨sb.toNat, by have := h4.start; omega⟩
    have hm64 : m ≤ 100000000000 := by
      have h5 := h3.start
      have h6 : 0 < N.length := by omega
      have h7 := h3.row _ (List.getElem_mem h6)
      have h8 := hs.nr _ (List.getElem_mem h6)
      omega
    have HNw : Hid (∀ V : World, Below w0.heap.size w0 V → Calls Tryd.prog 31 #[.agg #[.int .i64 (pa : Int), .slice aN N.length cN, .slice aO O.length cO], .agg #[.int .i64 (pb : Int), .slice aM N'.length cM, .slice aP O'.length cP]] V fun e w' => ∃ X, e = .returned (.pointer (some ⟨X, 0, none⟩)) ∧ (∃ G B, Wk w' V.heap.size X G B (N.length + N'.length) (.int .i64 (pa : Int)) (.slice aN N.length cN) (.slice aO O.length cO) (.int .i64 (pb : Int)) (.slice aM N'.length cM) (.slice aP O'.length cP) (.slice none 0 0) (fun s => s) []) ∧ Below V.heap.size V w') := hid0 (fun V _ => newWalk_any (pa : Int) (pb : Int) aN aO aM aP N.length N'.length O.length O'.length cN cO cM cP V (by have := hs.n; have := hs'.n; omega))
    have hbig : N.length + N'.length ≤ 100000000000 := by have := hs.n; have := hs'.n; omega
    have hbg : N.length + N'.length ≤ 4000000 := by have := hs.n; have := hs'.n; omega
    have hOr : ∀ r ∈ O, r.length ≤ 17592186044000 := fun r hr => by have := hs.or r hr; omega
    cases r with
    | none =>
      have HFu : Hid (∀ (V V3 : World) (X G B : Nat), Below w0.heap.size w0 V → Below V.heap.size V V3 → Wk V3 V.heap.size X G B (N.length + N'.length) (.int .i64 (pa : Int)) (.slice aN N.length cN) (.slice aO O.length cO) (.int .i64 (pb : Int)) (.slice aM N'.length cM) (.slice aP O'.length cP) (.slice none 0 0) (fun s => s) [] → Calls Tryd.prog 32 #[.pointer (some ⟨X, 0, none⟩)] V3 fun e w' => e = .returned (.tuple #[.int .i64 0, .bool false]) ∧ Below V.heap.size V w') := hid0 (fun V V3 X G B hV hV3 hk => firstUnlike_none m pa pb V.heap.size X G B cN cO cM cP N O N' O' aN aO aM aP V V3 (h.none' rfl) rfl (HAl.out V hV).1 (HAl.out V hV).2.1 h3 h4 hbig hm64 hOr hV3 hk)
      clear h h1 h2 h3 h4 hs hs' hOr
      go_enter Tryd.func6, Tryd.ntmps6
      go_wp2_with (first
        | (go_at_call 30; have hq := HB1.out; refine (HM2.out _ hq).mono ?_; rintro e w2 ⟨rfl, hb2⟩; have HB2 : Hid (Below w0.heap.size w0 w2) := hid0 (hq.trans (hb2.mono hq.size)); obtain ⟨⟨z0, z1, z2⟩, ⟨z3, z4, z5⟩⟩ := HCl.out w2 HB2.out; clear hb2 hq)
        | (go_at_call 30; refine HM1.out.mono ?_; rintro e w1 ⟨rfl, hb1⟩; have HB1 := hid0 hb1; obtain ⟨_, ⟨y3, y4, y5⟩⟩ := HCl.out w1 hb1; clear hb1 HM1)
        | (go_at_call 31; go_loud ((
            refine (HNw.out w2 HB2.out).mono ?_
            rintro e w3 ⟨X, rfl, hk3, hb3⟩
            obtain ⟨G, B, hk3⟩ := hk3
            have HF3 := hid0 (HFu.out w2 w3 X G B HB2.out hb3 hk3)
            clear hk3 hb3)))
        | (go_at_call 32; go_loud ((
            refine HF3.out.mono ?_
            rintro e w4 ⟨rfl, hb4⟩
            have HB4 := hid0 hb4
            clear hb4))))
      go_returns
      exact ⟨_, rfl, World.ownsRow_nil _ _ _ _, by simp [apW], (HAl.out w2 HB2.out).2.2.2.trans (HB4.out.mono (HAl.out w2 HB2.out).2.2.2.size)⟩
    | some u =>
      have HFu : Hid (∀ (V V3 : World) (X G B : Nat), Below w0.heap.size w0 V → Below V.heap.size V V3 → Wk V3 V.heap.size X G B (N.length + N'.length) (.int .i64 (pa : Int)) (.slice aN N.length cN) (.slice aO O.length cO) (.int .i64 (pb : Int)) (.slice aM N'.length cM) (.slice aP O'.length cP) (.slice none 0 0) (fun s => s) [] → Calls Tryd.prog 32 #[.pointer (some ⟨X, 0, none⟩)] V3 fun e w' => ∃ i : Nat, e = .returned (.tuple #[.int .i64 (i : Int), .bool true]) ∧ (∃ p vm l Wd, Wk w' V.heap.size X G B (N.length + N'.length) (.int .i64 (pa : Int)) (.slice aN N.length cN) (.slice aO O.length cO) (.int .i64 (pb : Int)) (.slice aM N'.length cM) (.slice aP O'.length cP) vm p l ∧ Met (twoF m (pa : Int) (pb : Int) N O N' O') l Wd ∧ i < l.length ∧ l.length ≤ N.length + N'.length ∧ Wd i = u) ∧ Below V.heap.size V w') := hid0 (fun V V3 X G B hV hV3 hk => firstUnlike_some m pa pb V.heap.size X G B cN cO cM cP N O N' O' aN aO aM aP V V3 u (h.some' u rfl) rfl (HAl.out V hV).1 (HAl.out V hV).2.1 h3 h4 hbig hm64 hOr hV3 hk)
      have HWt : Hid (∀ (V4 : World) (lo X G B i : Nat) (p : Nat → Nat) (vm : Value) (l : List Mt) (Wd : Nat → List Nat), Wk V4 lo X G B (N.length + N'.length) (.int .i64 (pa : Int)) (.slice aN N.length cN) (.slice aO O.length cO) (.int .i64 (pb : Int)) (.slice aM N'.length cM) (.slice aP O'.length cP) vm p l → Met (twoF m (pa : Int) (pb : Int) N O N' O') l Wd → i < l.length → l.length ≤ N.length + N'.length → Wd i = u → Calls Tryd.prog 33 #[.pointer (some ⟨X, 0, none⟩), .int .i64 (i : Int)] V4 fun e w' => ∃ v, e = .returned v ∧ OwnI w' V4.heap.size v (nums u) ∧ Below V4.heap.size V4 w') := hid0 (fun V4 lo X G B i p vm l Wd hk hm hi hl e => by
        have hh := wordTo_any (twoF m (pa : Int) (pb : Int) N O N' O') l Wd lo X G B (N.length + N'.length) i _ _ _ _ _ _ vm p V4 hm (by omega) hk hi
        rw [e] at hh
        exact hh)
      clear h h1 h2 h3 h4 hs hs' hOr
      go_enter Tryd.func6, Tryd.ntmps6
      go_wp2_with (first
        | (go_at_call 30; have hq := HB1.out; refine (HM2.out _ hq).mono ?_; rintro e w2 ⟨rfl, hb2⟩; have HB2 : Hid (Below w0.heap.size w0 w2) := hid0 (hq.trans (hb2.mono hq.size)); obtain ⟨⟨z0, z1, z2⟩, ⟨z3, z4, z5⟩⟩ := HCl.out w2 HB2.out; clear hb2 hq)
        | (go_at_call 30; refine HM1.out.mono ?_; rintro e w1 ⟨rfl, hb1⟩; have HB1 := hid0 hb1; obtain ⟨_, ⟨y3, y4, y5⟩⟩ := HCl.out w1 hb1; clear hb1 HM1)
        | (go_at_call 31; go_loud ((
            refine (HNw.out w2 HB2.out).mono ?_
            rintro e w3 ⟨X, rfl, hk3, hb3⟩
            obtain ⟨G, B, hk3⟩ := hk3
            have HF3 := hid0 (HFu.out w2 w3 X G B HB2.out hb3 hk3)
            clear hk3 hb3)))
        | (go_at_call 32; go_loud ((
            refine HF3.out.mono ?_
            rintro e w4 ⟨i, rfl, hx4, hb4⟩
            obtain ⟨p4, vm4, l4, Wd4, k1, k2, k3, k4, k5⟩ := hx4
            have HW4 := hid0 (HWt.out w4 _ X G B i p4 vm4 l4 Wd4 k1 k2 k3 k4 k5)
            have HUl : Hid (u.length ≤ 4000000) := hid0 (by rw [← k5]; have := k2.len i k3; omega)
            have HB4 := hid0 hb4
            clear hb4 k1 k2 k3 k4 k5)))
        | (go_at_call 33; go_loud ((
            refine HW4.out.mono ?_
            rintro e w5 ⟨v, rfl, ho5, hb5⟩
            have HO5 := hid0 ho5
            have HB5 := hid0 hb5
            clear ho5 hb5))))
      have hl4 : Below w.heap.size w w4 := (HAl.out w2 HB2.out).2.2.2.trans (HB4.out.mono (HAl.out w2 HB2.out).2.2.2.size)
      go_returns
      exact ⟨_, rfl, owns_lower HO5.out hl4.size, by show (nums u).length ≤ 4000000; unfold nums; rw [List.length_map]; exact HUl.out, hl4.trans (HB5.out.mono hl4.size)⟩
end Go.Proofs.YthoogkpiacopiaaDoor
namespace Go.Proofs.YthoogkpiacopiaaDoor
open Go.RowKit Go.Shelf
theorem drew_more {w w' : World} {a b : Nat} (h : ∃ m, w' = (w.drewN (a + b)).drewN m) : ∃ n, w' = w.drewN (a + n) := by
  obtain ⟨m, hm⟩ := h
  exact ⟨b + m, by rw [hm, World.drewN_drewN, Nat.add_assoc]⟩
set_option maxRecDepth 10000 in
set_option maxHeartbeats 1600000 in
theorem sameRows (L : List (List Int)) (a b : Option Addr) (ca cb : Nat) (w : World) (hl : L.length ≤ 1000000000) (hr : ∀ r ∈ L, r.length ≤ 1000000000) (ha : RwA w a L) (hb : RwA w b L) :
    Calls Tryd.prog 60 #[.slice a L.length ca, .slice b L.length cb] w fun e w' => e = .returned (.bool true) ∧ ∃ n, w' = w.drewN n := by
  have HA := hid0 ha
  have HB := hid0 hb
  have HR := hid0 hr
  clear ha hb hr
  go_enter Tryd.func60, Tryd.ntmps60
  go_wp2
  go_loopw [5] (fun i wr => ∃ k : Nat, k ≤ L.length ∧ i = .int .i64 (k : Int) ∧ ∃ n, wr = w.drewN n) (fun i _ => L.length - (intOf i).toNat)
  case atStart => exact ⟨0, Nat.zero_le _, rfl, 0, rfl⟩
  case round =>
    obtain ⟨k, hk, rfl, nd, rfl⟩ := hrel
    by_cases hlt : k < L.length
    · obtain ⟨b1, o1, rfl, _, a1, c1, d1, i1⟩ := HA.out.at' k hlt
      obtain ⟨b2, o2, rfl, _, a2, c2, d2, i2⟩ := HB.out.at' k hlt
      have HS := hid0 (fun n => sameI L[k] a1 a2 c1 c2 (w.drewN n) (by have := HR.out _ (List.getElem_mem hlt); omega) ⟨i1.at'⟩ ⟨i2.at'⟩)
      clear i1 i2
      generalize L[k] = s at *
      have hkI : (k : Int) < (L.length : Int) := by omega
      have hkI0 : (0 : Int) ≤ (k : Int) := by omega
      go_wp2
      go_quiet ((go_at_call 9; exact (HS.out _).mono (fun _ _ h => ⟨h.1, drew_more h.2⟩)))
      go_wp2
      go_roundw
      case rel => exact ⟨k + 1, by omega, by go_num, _, rfl⟩
      case measure => simp [intOf]; omega
    · have hkI : ¬ (k : Int) < (L.length : Int) := by omega
      go_wp2
      go_ret
      exact ⟨rfl, nd, rfl⟩
set_option maxRecDepth 10000 in
set_option maxHeartbeats 1600000 in
theorem still_any (L : List (List Int)) (base G c cb : Nat) (b : Option Addr) (w : World) (hl : L.length ≤ 2000000) (hr : ∀ r ∈ L, r.length ≤ 2000000) (ht : Tz w base G c L) (hb : RwA w b L) :
    Calls Tryd.prog 34 #[.slice (some ⟨G, 0, none⟩) L.length c, .slice b L.length cb] w fun e w' => e = .returned (.bool true) ∧ ∃ n, w' = w.drewN n := by
  have HS := hid0 (sameRows L (some ⟨G, 0, none⟩) b c cb w (by omega) (fun r h => by have := hr r h; omega) ht.rwa hb)
  have hcap := ht.cap.1
  have HT := hid0 ht
  have HR := hid0 hr
  have hcapI : (L.length : Int) + 64 ≤ (c : Int) := by omega
  clear ht hb hr
  go_enter Tryd.func34, Tryd.ntmps34
  go_wp2_with (go_at_call 60; refine HS.out.mono ?_; rintro e w1 ⟨rfl, n1, hw1⟩; subst hw1)
  go_loopw [6] (fun i wr => ∃ k : Nat, k ≤ L.length ∧ i = .int .i64 (k : Int) ∧ ∃ n, wr = w.drewN n) (fun i _ => L.length - (intOf i).toNat)
  case atStart => exact ⟨0, Nat.zero_le _, rfl, n1, rfl⟩
  case round =>
    obtain ⟨k, hk, rfl, nd, rfl⟩ := hrel
    by_cases hlt : k < L.length
    · obtain ⟨g, cg, d1, hcg, _, hm, _⟩ := HT.out.row hlt
      have HM := hid0 hm
      have hsl := HR.out _ (List.getElem_mem hlt)
      generalize L[k] = s at *
      have hkI : (k : Int) < (L.length : Int) := by omega
      have hkI0 : (0 : Int) ≤ (k : Int) := by omega
      have hsum : IntKind.i64.wrap ((s.length : Int) + 64) = (s.length : Int) + 64 := by simp [IntKind.wrap, IntKind.bits, IntKind.signed]; omega
      have hcgI : (s.length : Int) + 64 ≤ (cg : Int) := by omega
      have hs0 : (0 : Int) ≤ (s.length : Int) + 64 := by omega
      clear hm
      go_wp2
      go_quiet ((fail))
      go_wp2
      go_loopw [8] (fun i wr => ∃ j : Nat, j ≤ 64 ∧ i = .int .i64 ((s.length : Int) + (j : Int)) ∧ ∃ n, wr = w.drewN n) (fun i _ => s.length + 64 - (intOf i).toNat)
      case atStart => exact ⟨0, Nat.zero_le _, by simp, _, rfl⟩
      case round =>
        obtain ⟨j, hj, rfl, ne, rfl⟩ := hrel
        by_cases hj64 : j < 64
        · have m1 := HM.out j hj64
          obtain ⟨p, hp⟩ : ∃ p, p = s.length + j := ⟨_, rfl⟩
          have hpI : (s.length : Int) + (j : Int) = (p : Int) := by omega
          rw [hpI]
          rw [← hp] at m1
          have hp1 : (p : Int) < (s.length : Int) + 64 := by omega
          have hp0 : (0 : Int) ≤ (p : Int) := by omega
          have hpn : p < s.length + 64 := by omega
          have HPe := hid0 hp
          clear hp hpI
          go_wp2
          go_roundw
          case rel => exact ⟨j + 1, by omega, by have := HPe.out; go_num, _, rfl⟩
          case measure => have := HPe.out; simp [intOf]; omega
        · obtain rfl : j = 64 := by omega
          have hjI : ¬ (s.length : Int) + ((64 : Nat) : Int) < (s.length : Int) + 64 := by omega
          have hjJ : ¬ (s.length : Int) + 64 < (s.length : Int) + 64 := by omega
          go_wp2
          go_roundw
          case rel => exact ⟨k + 1, by omega, by go_num, _, rfl⟩
          case measure => simp [intOf]; omega
    · have hkI : ¬ (k : Int) < (L.length : Int) := by omega
      have hsum : IntKind.i64.wrap ((L.length : Int) + 64) = (L.length : Int) + 64 := by simp [IntKind.wrap, IntKind.bits, IntKind.signed]; omega
      have hs0 : (0 : Int) ≤ (L.length : Int) + 64 := by omega
      go_wp2
      go_loopw [10] (fun i wr => ∃ j : Nat, j ≤ 64 ∧ i = .int .i64 ((L.length : Int) + (j : Int)) ∧ ∃ n, wr = w.drewN n) (fun i _ => L.length + 64 - (intOf i).toNat)
      case atStart => exact ⟨0, Nat.zero_le _, by simp, nd, rfl⟩
      case round =>
        obtain ⟨j, hj, rfl, ne, rfl⟩ := hrel
        by_cases hj64 : j < 64
        · obtain ⟨g, cg, m1, m2⟩ := HT.out.mark hj64
          obtain ⟨p, hp⟩ : ∃ p, p = L.length + j := ⟨_, rfl⟩
          have hpI : (L.length : Int) + (j : Int) = (p : Int) := by omega
          rw [hpI]
          rw [← hp] at m1
          have hp1 : (p : Int) < (L.length : Int) + 64 := by omega
          have hp0 : (0 : Int) ≤ (p : Int) := by omega
          have hpn : p < L.length + 64 := by omega
          have HPe := hid0 hp
          clear hp hpI
          go_wp2
          go_roundw
          case rel => exact ⟨j + 1, by omega, by have := HPe.out; go_num, _, rfl⟩
          case measure => have := HPe.out; simp [intOf]; omega
        · obtain rfl : j = 64 := by omega
          have hjJ : ¬ (L.length : Int) + 64 < (L.length : Int) + 64 := by omega
          go_wp2
          go_ret
          exact ⟨rfl, ne, rfl⟩
end Go.Proofs.YthoogkpiacopiaaDoor
namespace Go.Proofs.YthoogkpiacopiaaDoor
open Go.RowKit Go.Shelf
set_option maxRecDepth 10000 in
set_option maxHeartbeats 1600000 in
theorem kept_any (st : Int) (N O : List (List Int)) (b1 b2 G H c d cN cO : Nat) (aN aO : Option Addr) (w : World) (hs : Sml N O) (hol : O.length ≤ 2000000) (h1 : Tz w b1 G c N) (h2 : Tz w b2 H d O) (ha : MaA w aN aO N O) :
    Calls Tryd.prog 7 #[.agg #[.int .i64 st, .slice (some ⟨G, 0, none⟩) N.length c, .slice (some ⟨H, 0, none⟩) O.length d], .agg #[.int .i64 st, .slice aN N.length cN, .slice aO O.length cO]] w fun e w' => e = .returned (.bool true) ∧ Below w.heap.size w w' := by
  obtain ⟨w0, hw0, hB0, hsz0, hA0, hM0⟩ := two_boxes w #[.int .i64 st, .slice (some ⟨G, 0, none⟩) N.length c, .slice (some ⟨H, 0, none⟩) O.length d] #[.int .i64 st, .slice aN N.length cN, .slice aO O.length cO] 24
  obtain ⟨x0, x1, x2⟩ := row3c hA0
  obtain ⟨y0, y1, y2⟩ := row3c hM0
  have HS1 := hid0 (still_any N b1 G c cN aN w0 hs.n hs.nr (h1.later hB0) (ha.past hB0).n)
  have HS2 : Hid (∀ n, Calls Tryd.prog 34 #[.slice (some ⟨H, 0, none⟩) O.length d, .slice aO O.length cO] (w0.drewN n) fun e w' => e = .returned (.bool true) ∧ ∃ m, w' = (w0.drewN n).drewN m) := hid0 (fun n => still_any O b2 H d cO aO (w0.drewN n) hol hs.or ((h2.later hB0).later (below_drew' (Below.refl _ _) n)) (((ha.past hB0).past (below_drew' (Below.refl _ _) n)).o))
  have HB0 := hid0 hB0
  have hself : (st == st) = true := by simp
  clear hB0 hA0 hM0 h1 h2 ha hsz0
  go_enter Tryd.func7, Tryd.ntmps7
  go_wp2_with (first
    | (go_at_call 34; have hq := HQ.out; refine (HS2.out n1).mono ?_; rintro e w2 ⟨rfl, n2, hw2⟩; rw [World.drewN_drewN] at hw2; subst hw2; clear hq)
    | (go_at_call 34; refine HS1.out.mono ?_; rintro e w1 ⟨rfl, n1, hw1⟩; subst hw1; have HQ : Hid True := hid0 trivial; clear HS1))
  go_ret
  exact ⟨rfl, below_drew' HB0.out _⟩
def set3 (W : World) (X : Nat) (a b c : Value) : World := ((W.setCell ⟨X, 0, none⟩ a).setCell ⟨X, 1, none⟩ b).setCell ⟨X, 2, none⟩ c
theorem set3_row {W : World} {X : Nat} {t : TypeId} {a0 b0 c0 : Value} (h : W.heap[X]? = some (.cells #[a0, b0, c0] t (0, 0))) (a b c : Value) : (set3 W X a b c).heap[X]? = some (.cells #[a, b, c] t (0, 0)) := by
  unfold set3
  exact heap_setCell_same _ _ 2 _ _ c (heap_setCell_same _ _ 1 _ _ b (heap_setCell_same _ _ 0 _ _ a h))
theorem set3_other {W : World} {X k : Nat} (hk : k ≠ X) (a b c : Value) : (set3 W X a b c).heap[k]? = W.heap[k]? := by
  unfold set3
  rw [Below.heap_setCell _ _ _ k hk, Below.heap_setCell _ _ _ k hk, Below.heap_setCell _ _ _ k hk]
theorem Tz.keep {w w' : World} {base G c : Nat} {L : List (List Int)} (h : Tz w base G c L) (hb : ∀ k, base ≤ k → k < w.heap.size → w'.heap[k]? = w.heap[k]?) : Tz w' base G c L := by
  obtain ⟨qs, h1, h2⟩ := h.at'
  refine ⟨qs, ⟨own_blk h1.outer (fun k hk => hb k (World.ownsRow.lt h1.outer k hk).1 (World.ownsRow.lt h1.outer k hk).2), fun x hx => ?_⟩, h2⟩
  obtain ⟨g, cg, e, hl, ho⟩ := h1.row x hx
  exact ⟨g, cg, e, hl, own_blk ho (fun k hk => hb k (World.ownsRow.lt ho k hk).1 (World.ownsRow.lt ho k hk).2)⟩
theorem Tz.lower {w : World} {base lo G c : Nat} {L : List (List Int)} (h : Tz w base G c L) (hl : lo ≤ base) : Tz w lo G c L := by
  obtain ⟨qs, h1, h2⟩ := h.at'
  exact ⟨qs, ⟨owns_lower h1.outer hl, fun x hx => by obtain ⟨g, cg, e, hl', ho⟩ := h1.row x hx; exact ⟨g, cg, e, hl', owns_lower ho hl⟩⟩, h2⟩
set_option maxRecDepth 10000 in
set_option maxHeartbeats 1600000 in
theorem twin_any (st : Int) (N O : List (List Int)) (aN aO : Option Addr) (cN cO : Nat) (w : World) (hs : Sml N O) (hol : O.length ≤ 2000000) (hN : RwN w aN N) (hO : RwN w aO O) :
    Calls Tryd.prog 5 #[.agg #[.int .i64 st, .slice aN N.length cN, .slice aO O.length cO]] w fun e w' => ∃ G c H d, e = .returned (.agg #[.int .i64 st, .slice (some ⟨G, 0, none⟩) N.length c, .slice (some ⟨H, 0, none⟩) O.length d]) ∧ Tz w' w.heap.size G c N ∧ Tz w' w.heap.size H d O ∧ Below w.heap.size w w' := by
  obtain ⟨w0, hw0, hB0, hsz0, hA0, hM0⟩ := two_boxes w #[.int .i64 st, .slice aN N.length cN, .slice aO O.length cO] #[.int .i64 0, .slice none 0 0, .slice none 0 0] 24
  have HCl : Hid (∀ V : World, Below w0.drew.heap.size w0.drew V → V.cell? ⟨w.heap.size, 0, none⟩ = some (.int .i64 st) ∧ V.cell? ⟨w.heap.size, 1, none⟩ = some (.slice aN N.length cN) ∧ V.cell? ⟨w.heap.size, 2, none⟩ = some (.slice aO O.length cO)) := hid0 (fun V hV => row3c ((hV.block _ (by show w.heap.size < w0.heap.size; omega)).trans hA0))
  have HYr : Hid (∀ V : World, Below w0.drew.heap.size w0.drew V → V.heap[w.heap.size + 1]? = some (.cells #[.int .i64 0, .slice none 0 0, .slice none 0 0] 24 (0, 0))) := hid0 (fun V hV => (hV.block _ (by show w.heap.size + 1 < w0.heap.size; omega)).trans hM0)
  have HY : Hid (∀ V : World, Below w0.drew.heap.size w0.drew V → (V.cell? ⟨w.heap.size + 1, 0, none⟩ = some (.int .i64 0) ∧ V.cell? ⟨w.heap.size + 1, 1, none⟩ = some (.slice none 0 0) ∧ V.cell? ⟨w.heap.size + 1, 2, none⟩ = some (.slice none 0 0)) ∧ V.frozen? ⟨w.heap.size + 1, 0, none⟩ = false ∧ V.frozen? ⟨w.heap.size + 1, 1, none⟩ = false ∧ V.frozen? ⟨w.heap.size + 1, 2, none⟩ = false) := hid0 (fun V hV => by
    have h := HYr.out V hV
    exact ⟨row3c h, by simp [World.frozen?, h], by simp [World.frozen?, h], by simp [World.frozen?, h]⟩)
  have HCs : Hid (∀ V : World, Below w0.drew.heap.size w0.drew V → ∀ a b c, (set3 V (w.heap.size + 1) a b c).cell? ⟨w.heap.size, 0, none⟩ = some (.int .i64 st) ∧ (set3 V (w.heap.size + 1) a b c).cell? ⟨w.heap.size, 1, none⟩ = some (.slice aN N.length cN) ∧ (set3 V (w.heap.size + 1) a b c).cell? ⟨w.heap.size, 2, none⟩ = some (.slice aO O.length cO)) := hid0 (fun V hV a b c => row3c ((set3_other (by omega) a b c).trans ((hV.block _ (by show w.heap.size < w0.heap.size; omega)).trans hA0)))
  have hb0d : Below w.heap.size w w0.drew := ⟨hB0.os, hB0.tape, hB0.output, hB0.size, hB0.block⟩
  have HR1 := hid0 (rows_any N aN cN w0.drew hs.n hs.nr (hN.past hb0d))
  have HR2 : Hid (∀ V : World, Below w0.drew.heap.size w0.drew V → Calls Tryd.prog 29 #[.slice aO O.length cO] V fun r w' => ∃ G c, r = .returned (.slice (some ⟨G, 0, none⟩) O.length c) ∧ Tz w' V.heap.size G c O ∧ Below V.heap.size V w') := hid0 (fun V hV => rows_any O aO cO V hol hs.or ((hO.past hb0d).past hV))
  have HB0 := hid0 hb0d
  have HZ0 := hid0 hsz0
  clear hB0 hsz0 hA0 hM0 hN hO hb0d
  go_enter Tryd.func5, Tryd.ntmps5
  go_wp2
  refine wp_region_noPanic ?_
  refine wp_region_held_drew (S := (fun V => V.cell? ⟨w.heap.size, 0, none⟩ = some (.int .i64 st) ∧ V.cell? ⟨w.heap.size, 1, none⟩ = some (.slice aN N.length cN) ∧ V.cell? ⟨w.heap.size, 2, none⟩ = some (.slice aO O.length cO))) (by kernel_rfl) ?_ (fun hHeld => ?_)
  · exact HCl.out w0.drew (Below.refl _ _)
  refine tkV (i := 0) (d := some 3) (v := ?_) rfl (by kernel_rfl) (by kernel_rfl) (by kernel_rfl) rfl (fun _ _ _ h => h) (by rfl) ?_ (by assumption) ?_
  rotate_left
  · (intro w hSw; (try dsimp only at hSw); (try simp only [List.getElem_toArray, List.getElem_cons_zero]); go_simp; try with_reducible rfl)
  try simp only [Act.put, List.setIfInBounds_toArray, List.set_cons_zero, List.set_cons_succ]
  refine tkV (i := 1) (d := some 4) (v := ?_) rfl (by kernel_rfl) (by kernel_rfl) (by kernel_rfl) rfl (fun _ _ _ h => h) (by rfl) ?_ (by assumption) ?_
  rotate_left
  · (intro w hSw; (try dsimp only at hSw); (try simp only [List.getElem_toArray, List.getElem_cons_zero, List.getElem_cons_succ]); go_simp; try with_reducible rfl)
  try simp only [Act.put, List.setIfInBounds_toArray, List.set_cons_zero, List.set_cons_succ]
  refine tkV (i := 2) (d := some 5) (v := ?_) rfl (by kernel_rfl) (by kernel_rfl) (by kernel_rfl) rfl (fun _ _ _ h => h) (by rfl) ?_ (by assumption) ?_
  rotate_left
  · (intro w hSw; (try dsimp only at hSw); (try simp only [List.getElem_toArray, List.getElem_cons_zero, List.getElem_cons_succ]); go_simp; try with_reducible rfl)
  try simp only [Act.put, List.setIfInBounds_toArray, List.set_cons_zero, List.set_cons_succ]
  refine tkV (i := 3) (d := some 6) (v := ?_) rfl (by kernel_rfl) (by kernel_rfl) (by kernel_rfl) rfl (fun _ _ _ h => h) (by rfl) ?_ (by assumption) ?_
  rotate_left
  · (intro w hSw; (try dsimp only at hSw); (try simp only [List.getElem_toArray, List.getElem_cons_zero, List.getElem_cons_succ]); go_simp; try with_reducible rfl)
  try simp only [Act.put, List.setIfInBounds_toArray, List.set_cons_zero, List.set_cons_succ]
  refine tkV (i := 5) (d := some 8) (v := ?_) rfl (by kernel_rfl) (by kernel_rfl) (by kernel_rfl) rfl (fun _ _ _ h => h) (by rfl) ?_ (by assumption) ?_
  rotate_left
  · (intro w hSw; (try dsimp only at hSw); (try simp only [List.getElem_toArray, List.getElem_cons_zero, List.getElem_cons_succ]); go_simp; try with_reducible rfl)
  try simp only [Act.put, List.setIfInBounds_toArray, List.set_cons_zero, List.set_cons_succ]
  refine tkV (i := 6) (d := some 9) (v := ?_) rfl (by kernel_rfl) (by kernel_rfl) (by kernel_rfl) rfl (fun _ _ _ h => h) (by rfl) ?_ (by assumption) ?_
  rotate_left
  · (intro w hSw; (try dsimp only at hSw); (try simp only [List.getElem_toArray, List.getElem_cons_zero, List.getElem_cons_succ]); go_simp; try with_reducible rfl)
  try simp only [Act.put, List.setIfInBounds_toArray, List.set_cons_zero, List.set_cons_succ]
  refine wpAnyH_ready (rs := [4]) (by kernel_rfl) (by simp) (AllReadyH.cons rfl (fun K hK => ?_) AllReadyH.nil)
  try simp only [List.getElem_toArray, List.getElem_cons_zero, List.getElem_cons_succ]
  go_simp
  refine HR1.out.mono ?_
  rintro e w1 ⟨G, c, rfl, ht1, hb1⟩
  have HT1 := hid0 ht1
  have HB1 := hid0 hb1
  have HS1 := hid0 (HCl.out w1 hb1)
  clear ht1 hb1
  go_wp2_with fail
  refine hK.out _ _ ?_ (fun hHeld4 => ?_)
  · exact HS1.out
  clear hK K
  (try simp only [Act.put]); (try simp only [List.setIfInBounds_toArray]); (try simp only [List.set_cons_succ]); (try simp only [List.set_cons_zero])
  refine wpAnyH_ready (rs := [7]) (by kernel_rfl) (by simp) (AllReadyH.cons rfl (fun K hK => ?_) AllReadyH.nil)
  try simp only [List.getElem_toArray, List.getElem_cons_zero, List.getElem_cons_succ]
  go_simp
  refine (HR2.out w1 HB1.out).mono ?_
  rintro e w2 ⟨H, d, rfl, ht2, hb2⟩
  have HT2 := hid0 ht2
  have HB2 := hid0 hb2
  have HS2 := hid0 (HCl.out w2 (HB1.out.trans (hb2.mono HB1.out.size)))
  obtain ⟨⟨k0, k1, k2⟩, f0, f1, f2⟩ := HY.out w2 (HB1.out.trans (hb2.mono HB1.out.size))
  have HS3 := hid0 (HCs.out w2 (HB1.out.trans (hb2.mono HB1.out.size)) (.int .i64 st) (.slice (some ⟨G, 0, none⟩) N.length c) (.slice (some ⟨H, 0, none⟩) O.length d))
  clear ht2 hb2
  go_wp2_with fail
  refine hK.out _ _ ?_ (fun hHeld7 => ?_)
  · exact HS2.out
  clear hK K
  (try simp only [Act.put]); (try simp only [List.setIfInBounds_toArray]); (try simp only [List.set_cons_succ]); (try simp only [List.set_cons_zero])
  refine tkV (i := 8) (d := some 11) (v := ?_) rfl (by kernel_rfl) (by kernel_rfl) (by kernel_rfl) rfl (fun _ _ _ h => h) (by rfl) ?_ (by assumption) ?_
  rotate_left
  · (intro w hSw; (try dsimp only at hSw); (try simp only [List.getElem_toArray, List.getElem_cons_zero, List.getElem_cons_succ]); go_simp; try with_reducible rfl)
  try simp only [Act.put, List.setIfInBounds_toArray, List.set_cons_zero, List.set_cons_succ]
  refine wpAnyH_ready (rs := [9]) (by kernel_rfl) (by simp) (AllReadyH.cons rfl (fun K hK => ?_) AllReadyH.nil)
  try simp only [List.getElem_toArray, List.getElem_cons_zero, List.getElem_cons_succ]
  go_simp
  refine hK.out _ _ ?_ (fun hHeld9 => ?_)
  · exact HS3.out
  clear hK K
  (try simp only [Act.put]); (try simp only [List.setIfInBounds_toArray]); (try simp only [List.set_cons_succ]); (try simp only [List.set_cons_zero])
  refine wpAnyH_done (by kernel_rfl) ?_ _
  refine NoPanic.normal ?_
  go_wp2
  have hz := HZ0.out
  have hzz : w0.drew.heap.size = w.heap.size + 1 + 1 := hz
  have hb2 := HB1.out.trans (HB2.out.mono HB1.out.size)
  have hrow := set3_row (HYr.out w2 hb2) (.int .i64 st) (.slice (some ⟨G, 0, none⟩) N.length c) (.slice (some ⟨H, 0, none⟩) O.length d)
  obtain ⟨q0, q1, q2⟩ := row3c hrow
  unfold set3 at q0 q1 q2
  refine bodyPost_ret (v := .agg #[.int .i64 st, .slice (some ⟨G, 0, none⟩) N.length c, .slice (some ⟨H, 0, none⟩) O.length d]) (by simp [results, Tryd.results5, go_sem, q0, q1, q2]) rfl ?_
  have hs1 := HB1.out.size
  have hs2 := HB2.out.size
  refine ⟨G, c, H, d, rfl, ?_, ?_, ?_⟩
  · refine ((HT1.out.later HB2.out).keep (w' := set3 w2 (w.heap.size + 1) (.int .i64 st) (.slice (some ⟨G, 0, none⟩) N.length c) (.slice (some ⟨H, 0, none⟩) O.length d)) (fun k hk _ => set3_other (by omega) _ _ _)).lower (by omega)
  · refine (HT2.out.keep (w' := set3 w2 (w.heap.size + 1) (.int .i64 st) (.slice (some ⟨G, 0, none⟩) N.length c) (.slice (some ⟨H, 0, none⟩) O.length d)) (fun k hk _ => set3_other (by omega) _ _ _)).lower (by omega)
  · exact (((HB0.out.trans (hb2.mono (by omega))).setCell (p := ⟨w.heap.size + 1, 0, none⟩) (by simp) _).setCell (p := ⟨w.heap.size + 1, 1, none⟩) (by simp) _).setCell (p := ⟨w.heap.size + 1, 2, none⟩) (by simp) _
end Go.Proofs.YthoogkpiacopiaaDoor
namespace Go.Proofs.YthoogkpiacopiaaDoor
open Go.RowKit Go.Shelf
/-- Nothing but blocks of a kind, and new ones, is another. -/
structure Kpd (w w' : World) (D : Nat → Prop) : Prop where
  os : w'.os = w.os
  tape : w'.tape = w.tape
  output : w'.output = w.output
  size : w.heap.size ≤ w'.heap.size
  oth : ∀ k, k < w.heap.size → ¬ D k → w'.heap[k]? = w.heap[k]?
theorem Kpd.refl (w : World) (D : Nat → Prop) : Kpd w w D := ⟨rfl, rfl, rfl, Nat.le_refl _, fun _ _ _ => rfl⟩
theorem Kpd.trans {a b c : World} {D : Nat → Prop} (h : Kpd a b D) (k : Kpd b c D) : Kpd a c D := ⟨k.os.trans h.os, k.tape.trans h.tape, k.output.trans h.output, Nat.le_trans h.size k.size, fun i hi hd => (k.oth i (Nat.lt_of_lt_of_le hi h.size) hd).trans (h.oth i hi hd)⟩
theorem Kpd.of {w w' : World} (h : Below w.heap.size w w') (D : Nat → Prop) : Kpd w w' D := ⟨h.os, h.tape, h.output, h.size, fun k hk _ => h.block k hk⟩
theorem Kpd.drew (w : World) (D : Nat → Prop) : Kpd w w.drew D := ⟨rfl, rfl, rfl, Nat.le_refl _, fun _ _ _ => rfl⟩
theorem Kpd.set (w : World) {D : Nat → Prop} {b : Nat} (hb : D b) (o : Nat) (v : Value) : Kpd w (w.setCell ⟨b, o, none⟩ v) D := ⟨rfl, rfl, rfl, by simp [World.setCell], fun k _ hk => Below.heap_setCell w _ _ k (fun e => hk (by subst e; exact hb))⟩
theorem Kpd.cell {w w' : World} {D : Nat → Prop} (h : Kpd w w' D) {b o : Nat} {u : Value} (hb : ¬ D b) (hc : w.cell? ⟨b, o, none⟩ = some u) : w'.cell? ⟨b, o, none⟩ = some u := (World.cell?_of_block (w := w) (h.oth b (World.block_lt_of_cell? _ _ hc) hb)).trans hc
/-- Such lists: D says in which blocks their numbers lie. -/
structure RwX (w : World) (a : Option Addr) (ns : List Nat) (D : Nat → Prop) : Prop where
  at' : ∀ k (h : k < ns.length), ∃ b off, a = some ⟨b, off, none⟩ ∧ b < w.heap.size ∧ ∃ a1 c1, w.cell? ⟨b, off + k, none⟩ = some (.slice a1 ns[k] c1) ∧ ∀ j, j < ns[k] → ∃ b' o', a1 = some ⟨b', o', none⟩ ∧ D b' ∧ b' < w.heap.size ∧ (∃ z, w.cell? ⟨b', o' + j, none⟩ = some (.int .i64 z)) ∧ ∃ cs t, w.heap[b']? = some (.cells cs t (0, 0))
theorem RwX.later {w w' : World} {a : Option Addr} {ns : List Nat} {D : Nat → Prop} (h : RwX w a ns D) (hb : Below w.heap.size w w') : RwX w' a ns D := ⟨fun k hk => by
  obtain ⟨b, off, rfl, h1, a1, c1, h2, h3⟩ := h.at' k hk
  refine ⟨b, off, rfl, Nat.lt_of_lt_of_le h1 hb.size, a1, c1, (hb.cell (p := ⟨b, off + k, none⟩) h1).trans h2, fun j hj => ?_⟩
  obtain ⟨b', o', e, hd, h4, ⟨z, h5⟩, cs, t, h6⟩ := h3 j hj
  exact ⟨b', o', e, hd, Nat.lt_of_lt_of_le h4 hb.size, ⟨z, (hb.cell (p := ⟨b', o' + j, none⟩) h4).trans h5⟩, cs, t, (hb.block _ h4).trans h6⟩⟩
/-- A number is written over another. -/
theorem RwX.set {w : World} {a : Option Addr} {ns : List Nat} {D : Nat → Prop} (h : RwX w a ns D) {p : Nat} {q : Nat} {z0 : Int} (hp : w.cell? ⟨p, q, none⟩ = some (.int .i64 z0)) (z : Int) : RwX (w.setCell ⟨p, q, none⟩ (.int .i64 z)) a ns D := ⟨fun k hk => by
  obtain ⟨b, off, rfl, h1, a1, c1, h2, h3⟩ := h.at' k hk
  have hsz : (w.setCell ⟨p, q, none⟩ (.int .i64 z)).heap.size = w.heap.size := by simp [World.setCell]
  have hne : (⟨p, q, none⟩ : Addr) ≠ ⟨b, off + k, none⟩ := fun e => by
    rw [← e, hp] at h2
    cases h2
  refine ⟨b, off, rfl, by rw [hsz]; exact h1, a1, c1, (World.cell?_setCell_other _ _ _ _ hne).trans h2, fun j hj => ?_⟩
  obtain ⟨b', o', e, hd, h4, h5, cs, t, h6⟩ := h3 j hj
  refine ⟨b', o', e, hd, by rw [hsz]; exact h4, someInt_setCell h5 _ z, ?_⟩
  by_cases hb : b' = p
  · subst hb
    exact ⟨_, t, heap_setCell_same w b' q _ _ _ h6⟩
  · exact ⟨cs, t, (Below.heap_setCell w _ _ _ hb).trans h6⟩⟩
theorem choose2 {n : Nat} {P : Nat → Int → Prop} (h : ∀ j, j < n → ∃ z, P j z) : ∃ l : List Int, l.length = n ∧ ∀ j (hj : j < l.length), P j l[j] := by
  have h2 : ∀ j, ∃ z, j < n → P j z := fun j => by
    by_cases hj : j < n
    · obtain ⟨z, hz⟩ := h j hj; exact ⟨z, fun _ => hz⟩
    · exact ⟨0, fun q => absurd q hj⟩
  obtain ⟨f, hf⟩ := Classical.axiomOfChoice h2
  refine ⟨(List.range n).map f, by simp, fun j hj => ?_⟩
  have : j < n := by simpa using hj
  simpa using hf j this
theorem choose3 {n : Nat} {P : Nat → List Int → Prop} (h : ∀ j, j < n → ∃ z, P j z) : ∃ l : List (List Int), l.length = n ∧ ∀ j (hj : j < l.length), P j l[j] := by
  have h2 : ∀ j, ∃ z, j < n → P j z := fun j => by
    by_cases hj : j < n
    · obtain ⟨z, hz⟩ := h j hj; exact ⟨z, fun _ => hz⟩
    · exact ⟨[], fun q => absurd q hj⟩
  obtain ⟨f, hf⟩ := Classical.axiomOfChoice h2
  refine ⟨(List.range n).map f, by simp, fun j hj => ?_⟩
  have : j < n := by simpa using hj
  simpa using hf j this
/-- They read as some lists. -/
theorem RwX.read {w : World} {a : Option Addr} {ns : List Nat} {D : Nat → Prop} (h : RwX w a ns D) : ∃ L : List (List Int), L.map List.length = ns ∧ RwA w a L := by
  obtain ⟨L, hl, hL⟩ := choose3 (n := ns.length) (P := fun k r => ∃ (h : k < ns.length) (b off : Nat), r.length = ns[k] ∧ a = some ⟨b, off, none⟩ ∧ b < w.heap.size ∧ ∃ a1 c1, w.cell? ⟨b, off + k, none⟩ = some (.slice a1 ns[k] c1) ∧ IA w a1 r) (fun k hk => by
    obtain ⟨b, off, e, h1, a1, c1, h2, h3⟩ := h.at' k hk
    obtain ⟨r, hr, hP⟩ := choose2 (n := ns[k]) (P := fun j z => ∃ b' o', a1 = some ⟨b', o', none⟩ ∧ b' < w.heap.size ∧ w.cell? ⟨b', o' + j, none⟩ = some (.int .i64 z)) (fun j hj => by
      obtain ⟨b', o', e1, _, h4, ⟨z, h5⟩, _⟩ := h3 j hj
      exact ⟨z, b', o', e1, h4, h5⟩)
    exact ⟨r, hk, b, off, hr, e, h1, a1, c1, h2, ⟨fun j hj => hP j hj⟩⟩)
  refine ⟨L, ?_, ⟨fun k hk => ?_⟩⟩
  · apply List.ext_getElem
    · simpa using hl
    · intro k h1 h2
      obtain ⟨_, _, _, e, _⟩ := hL k (by simpa using h1)
      simpa using e
  · obtain ⟨hk', b, off, e1, e2, h1, a1, c1, h2, h3⟩ := hL k hk
    exact ⟨b, off, e2, h1, a1, c1, by rw [e1]; exact h2, h3⟩
theorem Tz.rwx {w : World} {base G c hi : Nat} {L : List (List Int)} (h : Tz w base G c L) (hh : w.heap.size ≤ hi) : RwX w (some ⟨G, 0, none⟩) (L.map List.length) (fun b => base ≤ b ∧ b < hi) := ⟨fun k hk => by
  have hk' : k < L.length := by simpa using hk
  obtain ⟨g, cg, h1, _, h2, _, h3, h4, h5⟩ := h.row hk'
  refine ⟨G, 0, rfl, h.cap.2.2, some ⟨g, 0, none⟩, cg, by rw [Nat.zero_add, List.getElem_map]; exact h1, fun j hj => ?_⟩
  have hj' : j < L[k].length := by simpa using hj
  obtain ⟨b', o', e, h6, h7⟩ := h2.at' j hj'
  cases e
  refine ⟨g, 0, rfl, ⟨h3, by omega⟩, h4, ⟨_, h7⟩, ?_⟩
  obtain ⟨qs, q1, q2⟩ := h.at'
  obtain ⟨x, hx, ex⟩ := q2.row hk'
  obtain ⟨g', cg', e1, hl, ho⟩ := q1.row x (List.mem_of_getElem? hx)
  have hc := q1.cell q2.len.symm hx
  rw [h1, e1] at hc
  simp only [Option.some.injEq, Value.slice.injEq, Addr.mk.injEq] at hc
  obtain ⟨⟨rfl, _⟩, _⟩ := hc
  obtain ⟨cs, h8⟩ := own_typ ho rfl
  exact ⟨cs, _, h8⟩⟩
/-- What turned leaves. -/
def TurR (w : World) (aN aO : Option Addr) (ns os : List Nat) (D : Nat → Prop) (w' : World) : Prop := RwX w' aN ns D ∧ RwX w' aO os D ∧ Kpd w w' D
end Go.Proofs.YthoogkpiacopiaaDoor
namespace Go.Proofs.YthoogkpiacopiaaDoor
open Go.RowKit Go.Shelf
set_option maxRecDepth 10000 in
set_option maxHeartbeats 1600000 in
theorem turned_any (st : Int) (ns os : List Nat) (aN aO : Option Addr) (cN cO : Nat) (D : Nat → Prop) (w : World) (hD : ∀ k, D k → k < w.heap.size) (hn : ns.length ≤ 2000000) (hnr : ∀ n ∈ ns, n ≤ 2000000) (hor : ∀ n ∈ os, n ≤ 2000000) (hol : os.length ≤ 2000000) (hN : RwX w aN ns D) (hO : RwX w aO os D) :
    Calls Tryd.prog 12 #[.agg #[.int .i64 st, .slice aN ns.length cN, .slice aO os.length cO]] w fun e w' => e = .returned (.tuple #[]) ∧ TurR w aN aO ns os D w' := by
  obtain ⟨w0, hw0⟩ : ∃ w0, w0 = w.alloc (.cells #[.int .i64 st, .slice aN ns.length cN, .slice aO os.length cO] 24) := ⟨_, rfl⟩
  have hB0 : Below w.heap.size w w0 := by rw [hw0]; exact (Below.refl _ _).alloc (Nat.le_refl _) _
  have hX0 : w0.heap[w.heap.size]? = some (.cells #[.int .i64 st, .slice aN ns.length cN, .slice aO os.length cO] 24 (0, 0)) := by rw [hw0]; exact heap_alloc_new w _
  have hXD : ¬ D w.heap.size := fun h => absurd (hD _ h) (Nat.lt_irrefl _)
  have HX : Hid (∀ V : World, Kpd w0 V D → V.cell? ⟨w.heap.size, 1, none⟩ = some (.slice aN ns.length cN) ∧ V.cell? ⟨w.heap.size, 2, none⟩ = some (.slice aO os.length cO)) := hid0 (fun V hV => by
    obtain ⟨_, h1, h2⟩ := row3c hX0
    exact ⟨hV.cell hXD h1, hV.cell hXD h2⟩)
  have HN0 := hid0 (hN.later hB0)
  have HO0 := hid0 (hO.later hB0)
  have HK0 : Hid (Kpd w w0 D) := hid0 (Kpd.of hB0 D)
  have HNr := hid0 hnr
  have HOr := hid0 hor
  obtain ⟨x0, y0⟩ := HX.out w0 (Kpd.refl _ _)
  have hfold := hw0.symm
  clear hw0 hB0 hX0 hN hO hnr hor
  go_enter Tryd.func12, Tryd.ntmps12
  go_wp2
  clear hfold x0 y0
  go_loopw [2] (fun iv wr => ∃ i : Nat, i ≤ ns.length ∧ iv = .int .i64 (i : Int) ∧ Hid (RwX wr aN ns D) ∧ Hid (RwX wr aO os D) ∧ Hid (Kpd w0 wr D)) (fun iv _ => ns.length - (intOf iv).toNat)
  case atStart => exact ⟨0, Nat.zero_le _, rfl, HN0, HO0, hid0 (Kpd.refl _ _)⟩
  case round =>
    obtain ⟨i, hi, rfl, HN, HO, HK⟩ := hrel
    obtain ⟨x1, x2⟩ := HX.out wr HK.out
    by_cases hil : i < ns.length
    · have hiI : (i : Int) < (ns.length : Int) := by omega
      have hiI0 : (0 : Int) ≤ (i : Int) := by omega
      have hnz : ¬ (ns.length : Int) = 0 := by omega
      have hnz2 : ¬ ns = [] := fun e => by subst e; exact absurd hil (Nat.not_lt_zero _)
      obtain ⟨n, hn'⟩ : ∃ n, n = ns[i] := ⟨_, rfl⟩
      have hnb : n ≤ 2000000 := by rw [hn']; exact HNr.out _ (List.getElem_mem hil)
      have HNi := hid0 hn'
      clear hn'
      go_wp2
      clear x1 x2
      go_loopw [3] (fun kv wr => ∃ k : Nat, k ≤ n ∧ kv = .int .i64 (k : Int) ∧ Hid (RwX wr aN ns D) ∧ Hid (RwX wr aO os D) ∧ Hid (Kpd w0 wr D)) (fun kv _ => n - (intOf kv).toNat)
      case atStart => exact ⟨0, Nat.zero_le _, rfl, HN, HO, HK⟩
      case round =>
        clear HN HO HK
        obtain ⟨k, hk, rfl, HN, HO, HK⟩ := hrel
        obtain ⟨x1, x2⟩ := HX.out wr HK.out
        obtain ⟨b, off, rfl, _, a1, c1, d1, hj⟩ := HN.out.at' i hil
        rw [← HNi.out] at d1 hj
        by_cases hkn : k < n
        · have hkI : (k : Int) < (n : Int) := by omega
          have hkI0 : (0 : Int) ≤ (k : Int) := by omega
          obtain ⟨b', o', rfl, hd, _, ⟨z0, e0⟩, cs, t, hbl⟩ := hj k hkn
          have hfz : wr.frozen? ⟨b', o' + k, none⟩ = false := by simp [World.frozen?, hbl]
          obtain ⟨z1, hz1⟩ : ∃ z1, z1 = Int.tmod (k : Int) (ns.length : Int) := ⟨_, rfl⟩
          have HN2 := hid0 ((HN.out.later (w' := wr.drew) ⟨rfl, rfl, rfl, Nat.le_refl _, fun _ _ => rfl⟩).set (p := b') (q := o' + k) e0 z1)
          have HO2 := hid0 ((HO.out.later (w' := wr.drew) ⟨rfl, rfl, rfl, Nat.le_refl _, fun _ _ => rfl⟩).set (p := b') (q := o' + k) e0 z1)
          have HK2 : Hid (Kpd w0 (wr.drew.setCell ⟨b', o' + k, none⟩ (.int .i64 z1)) D) := hid0 ((HK.out.trans (Kpd.drew _ _)).trans (Kpd.set _ hd _ _))
          have HS2 : Hid ((wr.drew.setCell ⟨b', o' + k, none⟩ (.int .i64 z1)).cell? ⟨w.heap.size, 1, none⟩ = some (.slice (some ⟨b, off, none⟩) ns.length cN) ∧ (wr.drew.setCell ⟨b', o' + k, none⟩ (.int .i64 z1)).cell? ⟨b, off + i, none⟩ = some (.slice (some ⟨b', o', none⟩) n c1)) := hid0 (by
            refine ⟨(HX.out _ HK2.out).1, (World.cell?_setCell_other _ _ _ _ (fun e => ?_)).trans d1⟩
            rw [← e] at d1
            rw [e0] at d1
            cases d1)
          have hz1' := hz1.symm
          clear hj hbl HN HO HK hz1
          go_wp2
          refine wp_region_noPanic ?_
          refine wp_region_held_drew (S := (fun V => V.cell? ⟨w.heap.size, 1, none⟩ = some (.slice (some ⟨b, off, none⟩) ns.length cN) ∧ V.cell? ⟨b, off + i, none⟩ = some (.slice (some ⟨b', o', none⟩) n c1))) (by kernel_rfl) ?_ (fun hHeld => ?_)
          · exact ⟨x1, d1⟩
          refine tkV (i := 0) (d := some 23) (v := ?_) rfl (by kernel_rfl) (by kernel_rfl) (by kernel_rfl) rfl (fun _ _ _ h => h) (by rfl) ?_ (by assumption) ?_
          rotate_left
          · (intro w hSw; (try dsimp only at hSw); (try simp only [List.getElem_toArray, List.getElem_cons_zero]); go_simp; try with_reducible rfl)
          try simp only [Act.put, List.setIfInBounds_toArray, List.set_cons_zero, List.set_cons_succ]
          refine tkV (i := 1) (d := some 24) (v := ?_) rfl (by kernel_rfl) (by kernel_rfl) (by kernel_rfl) rfl (fun _ _ _ h => h) (by rfl) ?_ (by assumption) ?_
          rotate_left
          · (intro w hSw; (try dsimp only at hSw); (try simp only [List.getElem_toArray, List.getElem_cons_zero, List.getElem_cons_succ]); go_simp; try with_reducible rfl)
          try simp only [Act.put, List.setIfInBounds_toArray, List.set_cons_zero, List.set_cons_succ]
          refine tkV (i := 2) (d := some 25) (v := ?_) rfl (by kernel_rfl) (by kernel_rfl) (by kernel_rfl) rfl (fun _ _ _ h => h) (by rfl) ?_ (by assumption) ?_
          rotate_left
          · (intro w hSw; (try dsimp only at hSw); (try simp only [List.getElem_toArray, List.getElem_cons_zero, List.getElem_cons_succ]); go_simp; try with_reducible rfl)
          try simp only [Act.put, List.setIfInBounds_toArray, List.set_cons_zero, List.set_cons_succ]
          refine tkV (i := 3) (d := some 26) (v := ?_) rfl (by kernel_rfl) (by kernel_rfl) (by kernel_rfl) rfl (fun _ _ _ h => h) (by rfl) ?_ (by assumption) ?_
          rotate_left
          · (intro w hSw; (try dsimp only at hSw); (try simp only [List.getElem_toArray, List.getElem_cons_zero, List.getElem_cons_succ]); go_simp; try with_reducible rfl)
          try simp only [Act.put, List.setIfInBounds_toArray, List.set_cons_zero, List.set_cons_succ]
          refine tkV (i := 4) (d := some 27) (v := ?_) rfl (by kernel_rfl) (by kernel_rfl) (by kernel_rfl) rfl (fun _ _ _ h => h) (by rfl) ?_ (by assumption) ?_
          rotate_left
          · (intro w hSw; (try dsimp only at hSw); (try simp only [List.getElem_toArray, List.getElem_cons_zero, List.getElem_cons_succ]); go_simp; try with_reducible rfl)
          try simp only [Act.put, List.setIfInBounds_toArray, List.set_cons_zero, List.set_cons_succ]
          refine tkV (i := 5) (d := some 28) (v := ?_) rfl (by kernel_rfl) (by kernel_rfl) (by kernel_rfl) rfl (fun _ _ _ h => h) (by rfl) ?_ (by assumption) ?_
          rotate_left
          · (intro w hSw; (try dsimp only at hSw); (try simp only [List.getElem_toArray, List.getElem_cons_zero, List.getElem_cons_succ]); go_simp; try with_reducible rfl)
          try simp only [Act.put, List.setIfInBounds_toArray, List.set_cons_zero, List.set_cons_succ]
          refine tkV (i := 6) (d := some 29) (v := ?_) rfl (by kernel_rfl) (by kernel_rfl) (by kernel_rfl) rfl (fun _ _ _ h => h) (by rfl) ?_ (by assumption) ?_
          rotate_left
          · (intro w hSw; (try dsimp only at hSw); (try simp only [List.getElem_toArray, List.getElem_cons_zero, List.getElem_cons_succ]); go_simp; try with_reducible rfl)
          try simp only [Act.put, List.setIfInBounds_toArray, List.set_cons_zero, List.set_cons_succ]
          refine tkV (i := 7) (d := some 30) (v := ?_) rfl (by kernel_rfl) (by kernel_rfl) (by kernel_rfl) rfl (fun _ _ _ h => h) (by rfl) ?_ (by assumption) ?_
          rotate_left
          · (intro w hSw; (try dsimp only at hSw); (try simp only [List.getElem_toArray, List.getElem_cons_zero, List.getElem_cons_succ]); go_simp; try with_reducible rfl)
          try simp only [Act.put, List.setIfInBounds_toArray, List.set_cons_zero, List.set_cons_succ]
          refine tkV (i := 8) (d := some 31) (v := ?_) rfl (by kernel_rfl) (by kernel_rfl) (by kernel_rfl) rfl (fun _ _ _ h => h) (by rfl) ?_ (by assumption) ?_
          rotate_left
          · (intro w hSw; (try dsimp only at hSw); (try simp only [List.getElem_toArray, List.getElem_cons_zero, List.getElem_cons_succ]); go_simp; try with_reducible rfl)
          try simp only [Act.put, List.setIfInBounds_toArray, List.set_cons_zero, List.set_cons_succ]
          refine tkV (i := 9) (d := some 32) (v := ?_) rfl (by kernel_rfl) (by kernel_rfl) (by kernel_rfl) rfl (fun _ _ _ h => h) (by rfl) ?_ (by assumption) ?_
          rotate_left
          · (intro w hSw; (try dsimp only at hSw); (try simp only [List.getElem_toArray, List.getElem_cons_zero, List.getElem_cons_succ]); go_simp; try with_reducible rfl)
          try simp only [Act.put, List.setIfInBounds_toArray, List.set_cons_zero, List.set_cons_succ]
          refine tkV (i := 10) (d := some 33) (v := .int .i64 z1) rfl (by kernel_rfl) (by kernel_rfl) (by kernel_rfl) rfl (fun _ _ _ h => h) (by rfl) ?_ (by assumption) ?_
          · (intro w hSw; (try dsimp only at hSw); (try simp only [List.getElem_toArray, List.getElem_cons_zero, List.getElem_cons_succ]); go_simp; try with_reducible rfl)
          try simp only [Act.put, List.setIfInBounds_toArray, List.set_cons_zero, List.set_cons_succ]
          refine tkV (i := 11) (d := some 34) (v := ?_) rfl (by kernel_rfl) (by kernel_rfl) (by kernel_rfl) rfl (fun _ _ _ h => h) (by rfl) ?_ (by assumption) ?_
          rotate_left
          · (intro w hSw; (try dsimp only at hSw); (try simp only [List.getElem_toArray, List.getElem_cons_zero, List.getElem_cons_succ]); go_simp; try with_reducible rfl)
          try simp only [Act.put, List.setIfInBounds_toArray, List.set_cons_zero, List.set_cons_succ]
          refine wpAnyH_ready (rs := [12]) (by kernel_rfl) (by simp) (AllReadyH.cons rfl (fun K hK => ?_) AllReadyH.nil)
          try simp only [List.getElem_toArray, List.getElem_cons_zero, List.getElem_cons_succ]
          go_simp
          refine hK.out _ _ ?_ (fun hHeld12 => ?_)
          · exact HS2.out
          clear hK K
          (try simp only [Act.put]); (try simp only [List.setIfInBounds_toArray]); (try simp only [List.set_cons_succ]); (try simp only [List.set_cons_zero])
          refine wpAnyH_done (by kernel_rfl) ?_ _
          refine NoPanic.normal ?_
          clear hHeld hHeld12
          go_wp2
          go_roundw
          case rel => exact ⟨k + 1, by omega, by go_num, HN2, HO2, HK2⟩
          case measure => simp [intOf]; omega
        · have hkI : ¬ (k : Int) < (n : Int) := by omega
          clear hj
          go_wp2
          go_roundw
          case rel => exact ⟨i + 1, by omega, by go_num, HN, HO, HK⟩
          case measure => simp [intOf]; omega
    · have hiI : ¬ (i : Int) < (ns.length : Int) := by omega
      go_wp2
      clear x1 x2
      go_loopw [4] (fun iv wr => ∃ i : Nat, i ≤ os.length ∧ iv = .int .i64 (i : Int) ∧ Hid (RwX wr aN ns D) ∧ Hid (RwX wr aO os D) ∧ Hid (Kpd w0 wr D)) (fun iv _ => os.length - (intOf iv).toNat)
      case atStart => exact ⟨0, Nat.zero_le _, rfl, HN, HO, HK⟩
      case round =>
        clear HN HO HK
        obtain ⟨i, hi, rfl, HN, HO, HK⟩ := hrel
        obtain ⟨x1, x2⟩ := HX.out wr HK.out
        by_cases hil : i < os.length
        · have hiI : (i : Int) < (os.length : Int) := by omega
          have hiI0 : (0 : Int) ≤ (i : Int) := by omega
          obtain ⟨n, hn'⟩ : ∃ n, n = os[i] := ⟨_, rfl⟩
          have hnb : n ≤ 2000000 := by rw [hn']; exact HOr.out _ (List.getElem_mem hil)
          have HNi := hid0 hn'
          clear hn'
          go_wp2
          clear x1 x2
          go_loopw [5] (fun kv wr => ∃ k : Nat, k ≤ n ∧ kv = .int .i64 (k : Int) ∧ Hid (RwX wr aN ns D) ∧ Hid (RwX wr aO os D) ∧ Hid (Kpd w0 wr D)) (fun kv _ => n - (intOf kv).toNat)
          case atStart => exact ⟨0, Nat.zero_le _, rfl, HN, HO, HK⟩
          case round =>
            clear HN HO HK
            obtain ⟨k, hk, rfl, HN, HO, HK⟩ := hrel
            obtain ⟨x1, x2⟩ := HX.out wr HK.out
            obtain ⟨b, off, rfl, _, a1, c1, d1, hj⟩ := HO.out.at' i hil
            rw [← HNi.out] at d1 hj
            by_cases hkn : k < n
            · have hkI : (k : Int) < (n : Int) := by omega
              have hkI0 : (0 : Int) ≤ (k : Int) := by omega
              obtain ⟨b', o', rfl, hd, _, ⟨z0, e0⟩, cs, t, hbl⟩ := hj k hkn
              have hfz : wr.frozen? ⟨b', o' + k, none⟩ = false := by simp [World.frozen?, hbl]
              obtain ⟨r3, hr3⟩ : ∃ r3, r3 = Int.tmod (i : Int) 3 := ⟨_, rfl⟩
              obtain ⟨z1, hz1⟩ : ∃ z1, z1 = IntKind.i64.wrap ((k : Int) + r3) := ⟨_, rfl⟩
              have HN2 := hid0 (HN.out.set (p := b') (q := o' + k) e0 z1)
              have HO2 := hid0 (HO.out.set (p := b') (q := o' + k) e0 z1)
              have HK2 : Hid (Kpd w0 (wr.setCell ⟨b', o' + k, none⟩ (.int .i64 z1)) D) := hid0 (HK.out.trans (Kpd.set _ hd _ _))
              have hr3' := hr3.symm
              have hz1' := hz1.symm
              clear hj hbl HN HO HK hr3 hz1
              go_wp2
              go_roundw
              case rel => exact ⟨k + 1, by omega, by go_num, HN2, HO2, HK2⟩
              case measure => simp [intOf]; omega
            · have hkI : ¬ (k : Int) < (n : Int) := by omega
              clear hj
              go_wp2
              go_roundw
              case rel => exact ⟨i + 1, by omega, by go_num, HN, HO, HK⟩
              case measure => simp [intOf]; omega
        · have hiI : ¬ (i : Int) < (os.length : Int) := by omega
          go_wp2
          refine bodyPost_end (results_none rfl _ _ _) rfl ?_
          exact ⟨rfl, HN.out, HO.out, HK0.out.trans HK.out⟩
end Go.Proofs.YthoogkpiacopiaaDoor
namespace Go.Proofs.YthoogkpiacopiaaDoor
open Go.RowKit Go.Shelf
def mkZ (i : Nat) : Int := -100 - (i : Int)
section
variable (base G : Nat) (a : Nat → Option Addr) (n c : Nat → Nat)
def vZ (j : Nat) : Value := .slice (a j) (n j) (c j)
/-- What stays. -/
structure Stc : Prop where
  apart : ∀ j j', j < 2 → j' < 2 → j ≠ j' → ∀ g, (vZ a n c j).ownBlock = some g → (vZ a n c j').ownBlock ≠ some g
  nb : ∀ j, j < 2 → n j ≤ 5000000
  plain : ∀ j, j < 2 → a j = none ∨ ∃ g, a j = some ⟨g, 0, none⟩
  zero : ∀ j, j < 2 → ∀ b off, a j = some ⟨b, off, none⟩ → off = 0 ∧ b ≠ G ∧ base ≤ b
/-- While they are written over. -/
structure Sp1 (w0 W : World) (i k : Nat) : Prop where
  out : W.heap[G]? = some (.cells #[vZ a n c 0, vZ a n c 1] 25 (0, 0))
  own : ∀ j, j < 2 → ∃ L : List Int, L.length = n j ∧ OwnI W base (vZ a n c j) L ∧ (j < i → ∀ z ∈ L, z = mkZ j) ∧ (j = i → ∀ m (h : m < L.length), m < k → L[m] = mkZ j)
  bel : Below base w0 W
/-- A list that reads. -/
structure Rdz (W : World) (x : Option Addr) (L : List Int) (vm : Value) : Prop where
  ia : IA W x L
  at' : ∀ b off, x = some ⟨b, off, none⟩ → off = 0 ∧ b < W.heap.size ∧ vm.ownBlock ≠ some b
/-- So many are grown. -/
structure Sp2 (w0 W : World) (i : Nat) (vm : Value) (M : List Value) : Prop where
  out : W.heap[G]? = some (.cells #[vZ a n c 0, vZ a n c 1] 25 (0, 0))
  read : ∀ j, j < 2 → Rdz W (a j) (List.replicate (n j) (mkZ j)) vm
  own : ∀ j, i ≤ j → j < 2 → OwnI W base (vZ a n c j) (List.replicate (n j) (mkZ j))
  mo : W.ownsRow base 25 1 vm M.length M
  len : M.length = i
  mor : ∀ j, j < i → ∃ am cm, M[j]? = some (.slice am (n j + 64) cm) ∧ Rdz W am (List.replicate (n j + 64) (mkZ j)) vm ∧ ∀ b off, am = some ⟨b, off, none⟩ → ∀ j', i ≤ j' → j' < 2 → (vZ a n c j').ownBlock ≠ some b
  vmG : vm.ownBlock ≠ some G
  bel : Below base w0 W
  big : base ≤ W.heap.size
/-- One while it grows. -/
structure Sp3 (w0 W : World) (i k : Nat) (lv vm : Value) (M : List Value) : Prop where
  out : W.heap[G]? = some (.cells #[vZ a n c 0, vZ a n c 1] 25 (0, 0))
  read : ∀ j, j < 2 → Rdz W (a j) (List.replicate (n j) (mkZ j)) vm
  own : ∀ j, i + 1 ≤ j → j < 2 → OwnI W base (vZ a n c j) (List.replicate (n j) (mkZ j))
  lo : OwnI W base lv (List.replicate (n i + k) (mkZ i))
  lva : ∀ j, j ≠ i → j < 2 → ∀ g, lv.ownBlock = some g → (vZ a n c j).ownBlock ≠ some g
  mo : W.ownsRow base 25 1 vm M.length M
  len : M.length = i
  mor : ∀ j, j < i → ∃ am cm, M[j]? = some (.slice am (n j + 64) cm) ∧ Rdz W am (List.replicate (n j + 64) (mkZ j)) vm ∧ ∀ b off, am = some ⟨b, off, none⟩ → lv.ownBlock ≠ some b ∧ ∀ j', i + 1 ≤ j' → j' < 2 → (vZ a n c j').ownBlock ≠ some b
  vmG : vm.ownBlock ≠ some G
  bel : Below base w0 W
  big : base ≤ W.heap.size
end
section
variable {base G : Nat} {a : Nat → Option Addr} {n c : Nat → Nat} {w0 W : World} {i k : Nat}
theorem out_cell {v0 v1 : Value} (h : W.heap[G]? = some (.cells #[v0, v1] 25 (0, 0))) : W.cell? ⟨G, 0, none⟩ = some v0 ∧ W.cell? ⟨G, 1, none⟩ = some v1 :=
  ⟨by rw [cell_of_row _ _ _ _ _ _ h]; rfl, by rw [cell_of_row _ _ _ _ _ _ h]; rfl⟩
theorem outZ (h : W.heap[G]? = some (.cells #[vZ a n c 0, vZ a n c 1] 25 (0, 0))) {j : Nat} (hj : j < 2) : W.cell? ⟨G, j, none⟩ = some (.slice (a j) (n j) (c j)) := by
  obtain ⟨h0, h1⟩ := out_cell h
  rcases (show j = 0 ∨ j = 1 by omega) with rfl | rfl
  · exact h0
  · exact h1
theorem Sp1.put (h : Sp1 base G a n c w0 W i k) (hs : Stc base G a n c) (hi : i < 2) (hk : k < n i) : ∃ g, a i = some ⟨g, 0, none⟩ ∧ (∃ z, W.cell? ⟨g, k, none⟩ = some (.int .i64 z)) ∧ W.frozen? ⟨g, k, none⟩ = false ∧ Sp1 base G a n c w0 (W.setCell ⟨g, k, none⟩ (.int .i64 (mkZ i))) i (k + 1) := by
  obtain ⟨L, hl, ho, _, hp⟩ := h.own i hi
  obtain ⟨g, cap, e, hg, hg2, _⟩ := own_form ho (by omega)
  simp only [vZ, Value.slice.injEq] at e
  have ea := e.1
  have hvo : (vZ a n c i).ownBlock = some g := by unfold vZ; rw [ea]; rfl
  have hgG : g ≠ G := (hs.zero i hi g 0 ea).2.1
  have ho2 : W.ownsRow base 3 1 (.slice (some ⟨g, 0, none⟩) (n i) (c i)) (n i) (L.map (Value.int .i64)) := by
    have h1 := ho
    unfold OwnI vZ at h1
    rw [ea, hl] at h1
    exact h1
  refine ⟨g, ea, ⟨_, by rw [World.ownsRow.cellAt ho2 k (by omega), List.getElem?_map, List.getElem?_eq_getElem (by omega)]; rfl⟩, World.ownsRow.frozenAt ho2 k, ?_, ?_, h.bel.setCell (p := ⟨g, k, none⟩) hg _⟩
  · exact (Below.heap_setCell _ _ _ _ (fun q => hgG q.symm)).trans h.out
  · intro j hj
    by_cases hji : j = i
    · subst hji
      refine ⟨L.set k (mkZ j), by simpa using hl, ?_, fun q => absurd q (Nat.lt_irrefl _), fun _ m hm hmk => ?_⟩
      · have h1 := (World.ownsRow.stored ho2 k (.int .i64 (mkZ j))).1
        unfold OwnI vZ
        rw [ea, List.length_set, hl, List.map_set]
        exact h1
      · rw [List.getElem_set]
        split
        · rfl
        · exact hp rfl m (by simpa using hm) (by omega)
    · obtain ⟨L', hl', ho', h1, h2⟩ := h.own j hj
      exact ⟨L', hl', own_blk ho' (fun q hq => Below.heap_setCell _ _ _ _ (fun e => hs.apart j i hj hi hji q hq (by rw [hvo]; exact congrArg some e.symm))), h1, fun e => absurd e hji⟩
theorem Sp1.next (h : Sp1 base G a n c w0 W i k) (hk : i < 2 → n i ≤ k) : Sp1 base G a n c w0 W (i + 1) 0 := by
  refine ⟨h.out, fun j hj => ?_, h.bel⟩
  obtain ⟨L, hl, ho, h1, h2⟩ := h.own j hj
  refine ⟨L, hl, ho, fun hji z hz => ?_, fun _ m _ hm => absurd hm (Nat.not_lt_zero _)⟩
  by_cases e : j = i
  · obtain ⟨m, hm, rfl⟩ := List.getElem_of_mem hz
    exact h2 e m hm (by have := hk (by omega); subst e; omega)
  · exact h1 (by omega) z hz
theorem Sp1.two (h : Sp1 base G a n c w0 W 2 k) (hs : Stc base G a n c) (hb : base ≤ W.heap.size) : Sp2 base G a n c w0 W 0 (.slice none 0 0) [] := by
  have key : ∀ j, j < 2 → OwnI W base (vZ a n c j) (List.replicate (n j) (mkZ j)) := fun j hj => by
    obtain ⟨L, hl, ho, h1, _⟩ := h.own j hj
    have e : L = List.replicate (n j) (mkZ j) := List.eq_replicate_iff.2 ⟨hl, h1 hj⟩
    rw [← e]
    exact ho
  refine ⟨h.out, fun j hj => ⟨?_, fun b off e => ?_⟩, fun j _ hj => key j hj, World.ownsRow_nil _ _ _ _, rfl, fun j hj => absurd hj (Nat.not_lt_zero _), fun q => (by cases q), h.bel, hb⟩
  · obtain ⟨x, cx, e, hi⟩ := (key j hj).ia
    simp only [vZ, Value.slice.injEq] at e
    rw [e.1]
    exact hi
  · have h1 := hs.zero j hj b off e
    have h2 : (vZ a n c j).ownBlock = some b := by unfold vZ; rw [e]; rfl
    exact ⟨h1.1, (World.ownsRow.lt (key j hj) b h2).2, fun q => (by cases q)⟩
theorem Sp2.start {vm : Value} {M : List Value} (h : Sp2 base G a n c w0 W i vm M) (hs : Stc base G a n c) (hi : i < 2) : Sp3 base G a n c w0 W i 0 (vZ a n c i) vm M :=
  ⟨h.out, h.read, fun j hj => h.own j (by omega), h.own i (Nat.le_refl _) hi, fun j hj h2 g hg => hs.apart i j hi h2 (fun e => hj e.symm) g hg, h.mo, h.len, fun j hj => by
    obtain ⟨am, cm, h1, h2, h3⟩ := h.mor j hj
    exact ⟨am, cm, h1, h2, fun b off e => ⟨h3 b off e i (Nat.le_refl _) hi, fun j' hj' => h3 b off e j' (by omega)⟩⟩, h.vmG, h.bel, h.big⟩
theorem Rdz.grown {w1 : World} {x : Option Addr} {L : List Int} {vm lv : Value} {o : Obj} {nn : Nat} (h : Rdz W x L vm) (hg : (W.alloc o).grownBy w1 lv.ownBlock) (hfr : ∀ g j u, lv.ownBlock = some g → j < nn → (W.alloc o).cell? ⟨g, j, none⟩ = some u → w1.cell? ⟨g, j, none⟩ = some u) (hz : ∀ b off, x = some ⟨b, off, none⟩ → lv.ownBlock = some b → L.length ≤ nn) : Rdz w1 x L vm := by
  have hs : (W.alloc o).heap.size = W.heap.size + 1 := by simp
  have hs1 := hg.size
  refine ⟨⟨fun k hk => ?_⟩, fun b off e => ?_⟩
  · obtain ⟨b, off, e, h1, h2⟩ := h.ia.at' k hk
    refine ⟨b, off, e, by omega, ?_⟩
    have h3 : (W.alloc o).cell? ⟨b, off + k, none⟩ = some (.int .i64 L[k]) := cell_alloc h2 o
    by_cases hb : lv.ownBlock = some b
    · have h4 := hz b off e hb
      have h5 := (h.at' b off e).1
      subst h5
      rw [Nat.zero_add] at h3 ⊢
      exact hfr b k _ hb (by omega) h3
    · exact hg.cell h3 (fun q => hb q.symm)
  · obtain ⟨h1, h2, h3⟩ := h.at' b off e
    exact ⟨h1, by omega, h3⟩
/-- One mark more. -/
theorem Sp3.step {w1 : World} {lv lv' vm : Value} {M : List Value} {o : Obj} (h : Sp3 base G a n c w0 W i k lv vm M) (hi : i < 2) (hs : Stc base G a n c)
    (hown' : w1.ownsRow base 3 1 lv' (n i + k + 1) ((List.replicate (n i + k) (mkZ i)).map (Value.int .i64) ++ [.int .i64 (mkZ i)])) (hgrow : (W.alloc o).grownBy w1 lv.ownBlock) (hat : lv'.ownBlock = lv.ownBlock ∨ lv'.ownBlock = some (W.alloc o).heap.size)
    (hfr : ∀ g j u, lv.ownBlock = some g → j < (n i + k) * 1 → (W.alloc o).cell? ⟨g, j, none⟩ = some u → w1.cell? ⟨g, j, none⟩ = some u) : Sp3 base G a n c w0 w1 i (k + 1) lv' vm M := by
  have hsz : (W.alloc o).heap.size = W.heap.size + 1 := by simp
  have hs1 := hgrow.size
  have hbig := h.big
  have hGs : G < W.heap.size := (Array.getElem?_eq_some_iff.1 h.out).1
  have hlvG : lv.ownBlock ≠ some G := fun q => by
    obtain ⟨cs, e⟩ := own_typ h.lo q
    rw [h.out] at e
    cases e
  have new : ∀ b, b < W.heap.size → lv.ownBlock ≠ some b → lv'.ownBlock ≠ some b := fun b hb hne q => by
    rcases hat with e | e
    · exact hne (by rw [← e]; exact q)
    · rw [e, hsz] at q
      have := Option.some.inj q
      omega
  have keep : ∀ {t : TypeId} {s m : Nat} {u : Value} {xs : List Value}, W.ownsRow base t s u m xs → (∀ g, lv.ownBlock = some g → u.ownBlock ≠ some g) → w1.ownsRow base t s u m xs := fun {t s m u xs} hu hne => by
    refine World.ownsRow.kept (World.ownsRow.alloc hu o) hgrow ?_
    cases e : u.ownBlock with
    | none => exact .inl rfl
    | some g => exact .inr fun hc => hne g hc.symm e
  refine ⟨?_, ?_, ?_, ?_, ?_, ?_, h.len, ?_, h.vmG, ?_, by omega⟩
  · exact ((hgrow.block G (by omega) (fun q => hlvG q.symm)).trans (Below.heap_alloc W _ _ hGs)).trans h.out
  · intro j hj
    refine (h.read j hj).grown hgrow (nn := n i + k) (fun g q u h1 h2 h3 => hfr g q u h1 (by omega) h3) (fun b off e hb => ?_)
    by_cases hji : j = i
    · subst hji; rw [List.length_replicate]; omega
    · exact absurd (show (vZ a n c j).ownBlock = some b by unfold vZ; rw [e]; rfl) (h.lva j hji hj b hb)
  · intro j hj hj2
    exact keep (h.own j hj hj2) (fun g hg => h.lva j (by omega) hj2 g hg)
  · unfold OwnI
    rw [show n i + (k + 1) = n i + k + 1 by omega, List.replicate_succ', List.length_append, List.length_replicate, List.length_singleton, List.map_append]
    exact hown'
  · intro j hji hj g hg hvg
    have hlt : g < W.heap.size := by
      rcases hs.plain j hj with e | ⟨b, e⟩
      · unfold vZ at hvg; rw [e] at hvg; cases hvg
      · unfold vZ at hvg
        rw [e] at hvg
        obtain rfl : b = g := by simpa [Value.ownBlock] using hvg
        exact ((h.read j hj).at' b 0 e).2.1
    exact new g hlt (fun q => h.lva j hji hj g q hvg) hg
  · exact keep h.mo (fun g hg hvg => own_unlike h.lo h.mo (by decide) g hg hvg)
  · intro j hj
    obtain ⟨am, cm, h1, h2, h3⟩ := h.mor j hj
    refine ⟨am, cm, h1, h2.grown hgrow (nn := n i + k) (fun g q u h1 h2 h3 => hfr g q u h1 (by omega) h3) (fun b off e hb => absurd hb (h3 b off e).1), fun b off e => ⟨new b (h2.at' b off e).2.1 (h3 b off e).1, (h3 b off e).2⟩⟩
  · exact (h.bel.alloc (by omega) o).grown hgrow (by omega) (fun q hq => (World.ownsRow.lt h.lo q hq).1)
/-- It is put behind the others. -/
theorem Sp3.done {w1 : World} {vm vm' : Value} {M : List Value} {o : Obj} {x : Option Addr} {cx : Nat} (h : Sp3 base G a n c w0 W i 64 (.slice x (n i + 64) cx) vm M) (hi : i < 2)
    (hown' : w1.ownsRow base 25 1 vm' (i + 1) (M ++ [.slice x (n i + 64) cx])) (hgrow : (W.alloc o).grownBy w1 vm.ownBlock) (hat : vm'.ownBlock = vm.ownBlock ∨ vm'.ownBlock = some (W.alloc o).heap.size) : Sp2 base G a n c w0 w1 (i + 1) vm' (M ++ [.slice x (n i + 64) cx]) := by
  have hsz : (W.alloc o).heap.size = W.heap.size + 1 := by simp
  have hs1 := hgrow.size
  have hbig := h.big
  have hGs : G < W.heap.size := (Array.getElem?_eq_some_iff.1 h.out).1
  have new : ∀ b, b < W.heap.size → vm.ownBlock ≠ some b → vm'.ownBlock ≠ some b := fun b hb hne q => by
    rcases hat with e | e
    · exact hne (by rw [← e]; exact q)
    · rw [e, hsz] at q
      have := Option.some.inj q
      omega
  have keep : ∀ {u : Value} {m : Nat} {xs : List Value}, W.ownsRow base 3 1 u m xs → w1.ownsRow base 3 1 u m xs := fun {u m xs} hu => by
    refine World.ownsRow.kept (World.ownsRow.alloc hu o) hgrow ?_
    cases e : u.ownBlock with
    | none => exact .inl rfl
    | some g => exact .inr fun hc => own_unlike h.mo hu (by decide) g hc.symm e
  have rd : ∀ {y : Option Addr} {L : List Int}, Rdz W y L vm → Rdz w1 y L vm' := fun {y L} hr => by
    have h1 := hr.grown (nn := 0) hgrow (fun g j u _ hj => absurd hj (Nat.not_lt_zero _)) (fun b off e hb => absurd hb (hr.at' b off e).2.2)
    exact ⟨h1.ia, fun b off e => ⟨(h1.at' b off e).1, (h1.at' b off e).2.1, new b (hr.at' b off e).2.1 (hr.at' b off e).2.2⟩⟩
  refine ⟨?_, fun j hj => rd (h.read j hj), fun j hj hj2 => keep (h.own j hj hj2), by rw [List.length_append, List.length_singleton, h.len]; exact hown', by rw [List.length_append, List.length_singleton, h.len], fun j hj => ?_, new G hGs h.vmG, ?_, by omega⟩
  · exact ((hgrow.block G (by omega) (fun q => h.vmG q.symm)).trans (Below.heap_alloc W _ _ hGs)).trans h.out
  · by_cases hji : j = i
    · subst hji
      obtain ⟨y, cy, e, hia⟩ := h.lo.ia
      rw [List.length_replicate] at e
      cases e
      refine ⟨x, cx, ?_, rd ⟨hia, fun b off e => ?_⟩, fun b off e j' h1 h2 => ?_⟩
      · rw [List.getElem?_append_right (by rw [h.len]; exact Nat.le_refl _), h.len, Nat.sub_self]; rfl
      · obtain ⟨g, cap, e2, _, h4, _⟩ := own_form h.lo (by rw [List.length_replicate]; omega)
        simp only [Value.slice.injEq] at e2
        rw [e] at e2
        simp only [Option.some.injEq, Addr.mk.injEq, and_true] at e2
        obtain ⟨⟨rfl, rfl⟩, _⟩ := e2
        exact ⟨rfl, h4, fun q => own_unlike h.mo h.lo (by decide) b q (by rw [e]; rfl)⟩
      · exact h.lva j' (by omega) h2 b (by rw [e]; rfl)
    · obtain ⟨am, cm, h1, h2, h3⟩ := h.mor j (by omega)
      exact ⟨am, cm, by rw [List.getElem?_append_left (by rw [h.len]; omega)]; exact h1, rd h2, fun b off e j' hj' => (h3 b off e).2 j' (by omega)⟩
  · exact (h.bel.alloc (by omega) o).grown hgrow (by omega) (fun q hq => (World.ownsRow.lt h.mo q hq).1)
end
end Go.Proofs.YthoogkpiacopiaaDoor
namespace Go.Proofs.YthoogkpiacopiaaDoor
open Go.RowKit Go.Shelf
set_option maxRecDepth 10000 in
set_option maxHeartbeats 800000 in
theorem split_any (base G : Nat) (a : Nat → Option Addr) (n c : Nat → Nat) (w0 w : World) (hs : Stc base G a n c) (hb : base ≤ w.heap.size) (h1 : Sp1 base G a n c w0 w 0 0) :
    Calls Tryd.prog 11 #[.slice (some ⟨G, 0, none⟩) 2 2] w fun e w' => e = .returned (.bool true) ∧ Below base w0 w' := by
  obtain ⟨i0, hi, hz0, hz1, hz2⟩ := info_parts infoInts
  obtain ⟨j0, hj, hy0, hy1, hy2⟩ := info_parts infoInt
  have HS := hid0 hs
  have H1 := hid0 h1
  clear hs h1
  go_enter Tryd.func11, Tryd.ntmps11
  go_wp2
  go_loopw [4] (fun iv wr => ∃ i : Nat, i ≤ 2 ∧ iv = .int .i64 (i : Int) ∧ Hid (Sp1 base G a n c w0 wr i 0) ∧ Hid (w.heap.size ≤ wr.heap.size)) (fun iv _ => 2 - (intOf iv).toNat)
  case atStart => exact ⟨0, Nat.zero_le _, rfl, H1, hid0 (Nat.le_refl _)⟩
  case round =>
    clear H1
    obtain ⟨i, hi2, rfl, H1, HZ⟩ := hrel
    by_cases hlt : i < 2
    · have hiI : (i : Int) < 2 := by omega
      have hiI0 : (0 : Int) ≤ (i : Int) := by omega
      have hnb := HS.out.nb i hlt
      go_wp2
      go_loopw [5] (fun kv wr => ∃ k : Nat, k ≤ n i ∧ kv = .int .i64 (k : Int) ∧ Hid (Sp1 base G a n c w0 wr i k) ∧ Hid (w.heap.size ≤ wr.heap.size)) (fun kv _ => n i - (intOf kv).toNat)
      case atStart => exact ⟨0, Nat.zero_le _, rfl, H1, HZ⟩
      case round =>
        clear H1 HZ
        obtain ⟨k, hk, rfl, H1, HZ⟩ := hrel
        have x0 := outZ H1.out.out hlt
        by_cases hkn : k < n i
        · obtain ⟨g, ea, ⟨z, hz⟩, hfz, hn1⟩ := H1.out.put HS.out hlt hkn
          rw [ea] at x0
          have hkI : (k : Int) < (n i : Int) := by omega
          have hkI0 : (0 : Int) ≤ (k : Int) := by omega
          have hmk : IntKind.i64.wrap (-100 - (i : Int)) = mkZ i := by unfold mkZ; simp [IntKind.wrap, IntKind.bits, IntKind.signed]; omega
          have HN1 := hid0 hn1
          have HZ2 : Hid (w.heap.size ≤ (wr.setCell ⟨g, k, none⟩ (.int .i64 (mkZ i))).heap.size) := hid0 (by have := HZ.out; simpa [World.setCell] using this)
          clear hn1 ea
          generalize mkZ i = mz at *
          generalize n i = ni at *
          generalize c i = ci at *
          go_wp2
          go_roundw
          case rel => exact ⟨k + 1, by omega, by go_num, HN1, HZ2⟩
          case measure => simp [intOf]; omega
        · have hkI : ¬ (k : Int) < (n i : Int) := by omega
          have HN1 := hid0 (H1.out.next (fun _ => by omega))
          go_wp2
          go_roundw
          case rel => exact ⟨i + 1, by omega, by go_num, HN1, HZ⟩
          case measure => simp [intOf]; omega
    · have hiI : ¬ (i : Int) < 2 := by omega
      obtain rfl : i = 2 := by omega
      have HZs := HZ.out
      have H2 := hid0 (H1.out.two HS.out (by omega))
      clear H1 HZ
      go_wp2
      go_loopw [3, 6] (fun vm iv wr => ∃ (i : Nat) (M : List Value), i ≤ 2 ∧ iv = .int .i64 (i : Int) ∧ Hid (Sp2 base G a n c w0 wr i vm M)) (fun _ iv _ => 2 - (intOf iv).toNat)
      case atStart => exact ⟨0, [], Nat.zero_le _, rfl, H2⟩
      case round =>
        clear H2
        obtain ⟨wo, hwo⟩ : ∃ wo, wo = wr := ⟨_, rfl⟩
        subst hwo
        obtain ⟨i, M, hi2, rfl, H2⟩ := hrel
        by_cases hlt : i < 2
        · have hiI : (i : Int) < 2 := by omega
          have hiI0 : (0 : Int) ≤ (i : Int) := by omega
          have hnb := HS.out.nb i hlt
          have x0 := outZ H2.out.out hlt
          have H3 := hid0 (H2.out.start HS.out hlt)
          unfold vZ at H3
          clear H2
          go_wp2
          go_loopw [7, 8] (fun lv kv wr => ∃ k : Nat, k ≤ 64 ∧ kv = .int .i64 (k : Int) ∧ Hid (Sp3 base G a n c w0 wr i k lv u3 M)) (fun _ kv _ => 64 - (intOf kv).toNat)
          case atStart => exact ⟨0, Nat.zero_le _, rfl, H3⟩
          case round =>
            clear H3 x0
            obtain ⟨k, hk, rfl, H3⟩ := hrel
            obtain ⟨av, cv, ev, _⟩ := H3.out.lo.ia
            rw [List.length_replicate] at ev
            subst ev
            have hbig := H3.out.big
            by_cases hk64 : k < 64
            · have hkI : (k : Int) < 64 := by omega
              have hmk : IntKind.i64.wrap (-100 - (i : Int)) = mkZ i := by unfold mkZ; simp [IntKind.wrap, IntKind.bits, IntKind.signed]; omega
              obtain ⟨q, hq⟩ : ∃ q, q = n i + k := ⟨_, rfl⟩
              have hqb : q ≤ 6000000 := by omega
              have HQ := hid0 hq
              have HLo : Hid (wr.ownsRow base 3 1 (.slice av q cv) q ((List.replicate q (mkZ i)).map (Value.int .i64))) := hid0 (by have h := H3.out.lo; unfold OwnI at h; rw [List.length_replicate, ← hq] at h; exact h)
              have HSt : Hid (∀ (lv' : Value) (w1 : World), w1.ownsRow base 3 1 lv' (q + 1) ((List.replicate q (mkZ i)).map (Value.int .i64) ++ [.int .i64 (mkZ i)]) → (wr.alloc (.cells #[.int .i64 (mkZ i)] 3)).grownBy w1 (Value.slice av q cv).ownBlock → (lv'.ownBlock = (Value.slice av q cv).ownBlock ∨ lv'.ownBlock = some (wr.alloc (.cells #[.int .i64 (mkZ i)] 3)).heap.size) → (∀ g j u, (Value.slice av q cv).ownBlock = some g → j < q * 1 → (wr.alloc (.cells #[.int .i64 (mkZ i)] 3)).cell? ⟨g, j, none⟩ = some u → w1.cell? ⟨g, j, none⟩ = some u) → Sp3 base G a n c w0 w1 i (k + 1) lv' u3 M) := hid0 (fun lv' w1 h1 h2 h3 h4 => by
                subst hq
                exact H3.out.step hlt HS.out h1 h2 h3 h4)
              rw [← hq]
              clear hq H3
              generalize mkZ i = mz at *
              go_wp2_with (at_builtin; go_loud ((
                refine wpList_append_own_front _ rfl _ _ 25 rfl base 3 j0 (.int .i64 0) 1 8 Tryd.underlying25 hj hy0 hy1 hy2 rfl (by decide) _ q ((List.replicate q mz).map (Value.int .i64)) rfl (World.ownsRow.alloc HLo.out _) ⟨wr.heap.size, 0, none⟩ 1 1 [.int .i64 mz] rfl rfl (cell_one_new _ _ _) (by simp [Value.oneCell']) (by unfold maxLen; omega) (by omega) (by simp; omega) ?_
                intro v2 w3 hown2 hgrow2 hat2 hfr2
                have H4 := hid0 (HSt.out v2 w3 hown2 hgrow2 hat2 hfr2)
                clear hown2 hgrow2 hat2 hfr2)))
              go_roundw
              case rel => exact ⟨k + 1, by omega, by go_num, H4⟩
              case measure => simp [intOf]; omega
            · have hkI : ¬ (k : Int) < 64 := by omega
              obtain rfl : k = 64 := by omega
              have HMo : Hid (wr.ownsRow base 25 1 u3 i M) := hid0 (by have h := H3.out.mo; rw [H3.out.len] at h; exact h)
              generalize hq : n i + 64 = q at *
              go_wp2_with (at_builtin; go_loud ((
                refine wpList_append_own_at _ rfl _ _ 22 rfl base 25 i0 (.slice none 0 0) 1 24 Tryd.underlying22 hi hz0 hz1 hz2 rfl (by decide) _ i M rfl (World.ownsRow.alloc HMo.out _) ⟨wr.heap.size, 0, none⟩ 1 1 [.slice av q cv] rfl rfl (cell_one_new _ _ _) (by simp [Value.oneCell']) (by unfold maxLen; omega) (by omega) (by simp; omega) ?_
                intro v2 w3 hown2 hgrow2 _ hat2
                have H5 : Hid (Sp2 base G a n c w0 w3 (i + 1) v2 (M ++ [.slice av q cv])) := hid0 (by subst hq; exact H3.out.done hlt hown2 hgrow2 hat2)
                clear hown2 hgrow2 hat2)))
              go_roundw
              case rel => exact ⟨i + 1, _, by omega, by go_num, H5⟩
              case measure => simp [intOf]; omega
        · have hiI : ¬ (i : Int) < 2 := by omega
          obtain rfl : i = 2 := by omega
          obtain ⟨gm, cm, em, _⟩ := own_form H2.out.mo (by rw [H2.out.len]; omega)
          rw [H2.out.len] at em
          subst em
          have HMc : Hid (∀ j, wo.cell? ⟨gm, j, none⟩ = M[j]? ∨ 2 ≤ j) := hid0 (fun j => by
            by_cases hj2 : j < 2
            · have h := H2.out.mo
              rw [H2.out.len] at h
              exact .inl (World.ownsRow.cellAt h j (by omega))
            · exact .inr (by omega))
          go_wp2
          go_loopw [9] (fun iv wr => ∃ i : Nat, i ≤ 2 ∧ iv = .int .i64 (i : Int) ∧ wr = wo) (fun iv _ => 2 - (intOf iv).toNat)
          case atStart => exact ⟨0, Nat.zero_le _, rfl, rfl⟩
          case round =>
            obtain ⟨i, hi2, rfl, rfl⟩ := hrel
            by_cases hlt : i < 2
            · have hiI : (i : Int) < 2 := by omega
              have hiI0 : (0 : Int) ≤ (i : Int) := by omega
              have hnb := HS.out.nb i hlt
              have x0 := outZ H2.out.out hlt
              obtain ⟨am, cm2, hM, hrd, _⟩ := H2.out.mor i hlt
              have x1 : wr.cell? ⟨gm, i, none⟩ = some (.slice am (n i + 64) cm2) := by
                rcases HMc.out i with h | h
                · rw [h]; exact hM
                · omega
              obtain ⟨q, hq⟩ : ∃ q, q = n i + 64 := ⟨_, rfl⟩
              rw [← hq] at x1
              have HRd := hid0 hrd
              have HQ := hid0 hq
              have hqb : q ≤ 6000000 := by omega
              have hmk : IntKind.i64.wrap (-100 - (i : Int)) = mkZ i := by unfold mkZ; simp [IntKind.wrap, IntKind.bits, IntKind.signed]; omega
              clear hq hrd hM
              go_wp2
              go_loopw [10] (fun kv wr2 => ∃ k : Nat, k ≤ q ∧ kv = .int .i64 (k : Int) ∧ wr2 = wr) (fun kv _ => q - (intOf kv).toNat)
              case atStart => exact ⟨0, Nat.zero_le _, rfl, rfl⟩
              case round =>
                obtain ⟨k, hk, rfl, rfl⟩ := hrel
                by_cases hkq : k < q
                · have hkI : (k : Int) < (q : Int) := by omega
                  have hkI0 : (0 : Int) ≤ (k : Int) := by omega
                  obtain ⟨b1, o1, rfl, _, d1⟩ := HRd.out.ia.at' k (by rw [List.length_replicate]; have := HQ.out; omega)
                  rw [List.getElem_replicate] at d1
                  by_cases hkn : k < n i
                  · have hknI : (k : Int) < (n i : Int) := by omega
                    obtain ⟨b2, o2, e2, _, d2⟩ := (H2.out.read i hlt).ia.at' k (by rw [List.length_replicate]; exact hkn)
                    rw [List.getElem_replicate] at d2
                    rw [e2] at x0
                    clear e2
                    generalize mkZ i = mz at *
                    generalize n i = ni at *
                    generalize c i = ci at *
                    have hself : (mz == mz) = true := by simp
                    have hself2 : (mz != mz) = false := by simp
                    go_wp2
                    go_roundw
                    case rel => exact ⟨k + 1, by omega, by go_num, trivial⟩
                    case measure => simp [intOf]; omega
                  · have hknI : ¬ (k : Int) < (n i : Int) := by omega
                    generalize mkZ i = mz at *
                    generalize n i = ni at *
                    generalize c i = ci at *
                    generalize a i = ai at *
                    have hself : (mz == mz) = true := by simp
                    have hself2 : (mz != mz) = false := by simp
                    go_wp2
                    go_roundw
                    case rel => exact ⟨k + 1, by omega, by go_num, trivial⟩
                    case measure => simp [intOf]; omega
                · have hkI : ¬ (k : Int) < (q : Int) := by omega
                  go_wp2
                  go_roundw
                  case rel => exact ⟨i + 1, by omega, by go_num, trivial⟩
                  case measure => simp [intOf]; omega
            · have hiI : ¬ (i : Int) < 2 := by omega
              go_wp2
              go_ret
              exact ⟨rfl, H2.out.bel⟩
end Go.Proofs.YthoogkpiacopiaaDoor
namespace Go.Proofs.YthoogkpiacopiaaDoor
open Go.RowKit Go.Shelf
theorem infoTwo : (Tryd.prog.info? 71).map (fun i => (i.zero, i.size, i.bytes)) = some (some (.agg #[.int .i64 0, .int .i64 0, .int .i64 0, .int .i64 0]), 4, 32) := by kernel_rfl
/-- Pairs as cells: the first comes from nowhere. -/
def twV : List Mt → List Value
  | [] => []
  | x :: r => [.int .i64 (x.a : Int), .int .i64 (x.b : Int), .int .i64 (-1), .int .i64 (x.sy : Int)] ++ mtV r
theorem twV_snoc (l : List Mt) (x : Mt) (h : 0 < l.length) : twV (l ++ [x]) = twV l ++ [.int .i64 (x.a : Int), .int .i64 (x.b : Int), .int .i64 (x.fr : Int), .int .i64 (x.sy : Int)] := by
  cases l with
  | nil => exact absurd h (Nat.not_lt_zero _)
  | cons y r =>
    rw [List.cons_append]
    simp only [twV]
    rw [mtV_snoc, List.append_assoc]
theorem twV_at (l : List Mt) (k : Nat) (h : k < l.length) : (twV l)[k * 4]? = some (.int .i64 ((l.getD k default).a : Int)) ∧ (twV l)[k * 4 + 1]? = some (.int .i64 ((l.getD k default).b : Int)) ∧ (twV l)[k * 4 + 2]? = some (.int .i64 (if k = 0 then -1 else ((l.getD k default).fr : Int))) ∧ (twV l)[k * 4 + 3]? = some (.int .i64 ((l.getD k default).sy : Int)) := by
  cases l with
  | nil => exact absurd h (Nat.not_lt_zero _)
  | cons x r =>
    cases k with
    | zero => unfold twV; simp
    | succ k =>
      obtain ⟨h0, h1, h2, h3⟩ := mtV_at r k (by simpa using h)
      have g : (x :: r).getD (k + 1) default = r.getD k default := by simp
      rw [g, if_neg (by omega)]
      have s0 : (k + 1) * 4 = 4 + k * 4 := by omega
      unfold twV
      refine ⟨?_, ?_, ?_, ?_⟩
      · rw [s0, List.getElem?_append_right (by simp)]; simpa using h0
      · rw [s0, List.getElem?_append_right (by simp; omega)]; simp only [List.length_cons, List.length_nil]; rw [show 4 + k * 4 + 1 - (0 + 1 + 1 + 1 + 1) = k * 4 + 1 by omega]; exact h1
      · rw [s0, List.getElem?_append_right (by simp; omega)]; simp only [List.length_cons, List.length_nil]; rw [show 4 + k * 4 + 2 - (0 + 1 + 1 + 1 + 1) = k * 4 + 2 by omega]; exact h2
      · rw [s0, List.getElem?_append_right (by simp; omega)]; simp only [List.length_cons, List.length_nil]; rw [show 4 + k * 4 + 3 - (0 + 1 + 1 + 1 + 1) = k * 4 + 3 by omega]; exact h3
/-- The pairs in memory. -/
def RfA (W : World) (base : Nat) (v : Value) (l : List Mt) : Prop := W.ownsRow base 71 4 v l.length (twV l)
theorem RfA.form {W : World} {base : Nat} {v : Value} {l : List Mt} (h : RfA W base v l) : ∃ a c, v = .slice a l.length c ∧ TwA W a l ∧ ∀ k, k < l.length → ∃ g, a = some ⟨g, 0, none⟩ ∧ W.cell? ⟨g, k * 4, none⟩ = some (.int .i64 ((l.getD k default).a : Int)) ∧ W.cell? ⟨g, k * 4 + 1, none⟩ = some (.int .i64 ((l.getD k default).b : Int)) := by
  have h0 := h
  rcases h.2 with ⟨e, hn⟩ | ⟨g, cap, cur, e, hg, hr, hc, _⟩
  · exact ⟨none, 0, by rw [e, hn], ⟨fun k hk => by omega⟩, fun k hk => by omega⟩
  · subst e
    have key : ∀ k, k < l.length → W.cell? ⟨g, k * 4, none⟩ = some (.int .i64 ((l.getD k default).a : Int)) ∧ W.cell? ⟨g, k * 4 + 1, none⟩ = some (.int .i64 ((l.getD k default).b : Int)) ∧ W.cell? ⟨g, k * 4 + 2, none⟩ = some (.int .i64 (if k = 0 then -1 else ((l.getD k default).fr : Int))) ∧ W.cell? ⟨g, k * 4 + 3, none⟩ = some (.int .i64 ((l.getD k default).sy : Int)) := fun k hk => by
      obtain ⟨m0, m1, m2, m3⟩ := twV_at l k hk
      have c0 := World.ownsRow.cellAt h0 (k * 4) (by omega)
      have c1 := World.ownsRow.cellAt h0 (k * 4 + 1) (by omega)
      have c2 := World.ownsRow.cellAt h0 (k * 4 + 2) (by omega)
      have c3 := World.ownsRow.cellAt h0 (k * 4 + 3) (by omega)
      exact ⟨c0.trans m0, c1.trans m1, c2.trans m2, c3.trans m3⟩
    refine ⟨_, cap, rfl, ⟨fun k hk => ?_⟩, fun k hk => ?_⟩
    · obtain ⟨_, _, k2, k3⟩ := key k hk
      exact ⟨g, 0, rfl, (World.ownsRow.lt h0 g rfl).2, by rw [Nat.zero_add]; exact k2, by rw [Nat.zero_add]; exact k3⟩
    · obtain ⟨k0, k1, _⟩ := key k hk
      exact ⟨g, rfl, k0, k1⟩
theorem RfA.past {W W' : World} {base : Nat} {v : Value} {l : List Mt} (h : RfA W base v l) (hb : Below W.heap.size W W') : RfA W' base v l := own_blk h (fun k hk => hb.block k (World.ownsRow.lt h k hk).2)
theorem RfA.snoc {w W w2 : World} {base : Nat} {v v2 : Value} {l : List Mt} {x : Mt} {o : Obj} (h : RfA W base v l) (hl : 0 < l.length) (hown : w2.ownsRow base 71 4 v2 (l.length + 1) (twV l ++ [.int .i64 (x.a : Int), .int .i64 (x.b : Int), .int .i64 (x.fr : Int), .int .i64 (x.sy : Int)])) (hg : (W.alloc o).grownBy w2 v.ownBlock) (hbel : Below base w W) (hb : base ≤ w.heap.size) : RfA w2 base v2 (l ++ [x]) ∧ Below base w w2 := by
  have hsz := hbel.size
  refine ⟨?_, (hbel.alloc (by omega) o).grown hg (by simp; omega) (fun k hk => (World.ownsRow.lt h k hk).1)⟩
  unfold RfA
  rw [List.length_append, List.length_singleton, twV_snoc l x hl]
  exact hown
/-- Is the pair among the first so many? -/
def snF (l : List Mt) (ya yb k : Nat) : Bool := (l.take k).any fun x => x.a == ya && x.b == yb
theorem snF_step {l : List Mt} {ya yb k : Nat} (hk : k < l.length) : snF l ya yb (k + 1) = (snF l ya yb k || ((l.getD k default).a == ya && (l.getD k default).b == yb)) := by
  unfold snF
  have e : l.getD k default = l[k] := by rw [List.getD_eq_getElem?_getD, List.getElem?_eq_getElem hk]; rfl
  rw [List.take_succ_eq_append_getElem hk, List.any_append, e]
  simp
/-- No pair is there twice, and each is one of states that there are. -/
structure Dif (na nb : Nat) (l : List Mt) : Prop where
  inm : InM na nb l
  nd : (l.map fun x => x.a * nb + x.b).Nodup
theorem mem_getD {l : List Mt} {x : Mt} (h : x ∈ l) : ∃ k, k < l.length ∧ l.getD k default = x := by
  obtain ⟨k, hk, e⟩ := List.mem_iff_getElem.1 h
  exact ⟨k, hk, by rw [List.getD_eq_getElem?_getD, List.getElem?_eq_getElem hk]; exact e⟩
theorem pair_eq {a b c d n : Nat} (hb : b < n) (hd : d < n) (h : a * n + b = c * n + d) : a = c ∧ b = d := by
  have h1 : (a * n + b) / n = a := by rw [Nat.mul_comm, Nat.mul_add_div (by omega), Nat.div_eq_of_lt hb, Nat.add_zero]
  have h2 : (c * n + d) / n = c := by rw [Nat.mul_comm, Nat.mul_add_div (by omega), Nat.div_eq_of_lt hd, Nat.add_zero]
  have e : a = c := by rw [← h1, h, h2]
  subst e
  exact ⟨rfl, by omega⟩
theorem Dif.len {na nb : Nat} {l : List Mt} (h : Dif na nb l) : l.length ≤ na * nb := by
  have h1 := nodup_le (na * nb) _ h.nd (fun x hx => by
    obtain ⟨y, hy, rfl⟩ := List.mem_map.1 hx
    obtain ⟨k, hk, rfl⟩ := mem_getD hy
    obtain ⟨q1, q2⟩ := h.inm k hk
    have : ((l.getD k default).a + 1) * nb ≤ na * nb := Nat.mul_le_mul_right nb q1
    rw [Nat.add_mul] at this
    omega)
  simpa using h1
theorem Dif.snoc {na nb : Nat} {l : List Mt} {x : Mt} (h : Dif na nb l) (ha : x.a < na) (hb : x.b < nb) (hn : snF l x.a x.b l.length = false) : Dif na nb (l ++ [x]) := by
  refine ⟨h.inm.snoc ha hb, ?_⟩
  rw [List.map_append, List.map_cons, List.map_nil, List.nodup_append]
  refine ⟨h.nd, by simp, fun a hma b hmb e => ?_⟩
  rw [List.mem_singleton] at hmb
  obtain ⟨y, hy, rfl⟩ := List.mem_map.1 hma
  subst hmb
  obtain ⟨k, hk, ey⟩ := mem_getD hy
  obtain ⟨q1, q2⟩ := h.inm k hk
  rw [ey] at q1 q2
  obtain ⟨e1, e2⟩ := pair_eq q2 hb e
  unfold snF at hn
  rw [List.take_length, List.any_eq_false] at hn
  exact hn y hy (by simp [e1, e2])
theorem snF_cov {T : Two} {l : List Mt} {ya yb : Nat} (h : snF l ya yb l.length = true) : ∀ v, T.dis ya yb v → ∃ k, k < l.length ∧ T.dis (l.getD k default).a (l.getD k default).b v := fun v hv => by
  unfold snF at h
  rw [List.take_length, List.any_eq_true] at h
  obtain ⟨x, hx, hp⟩ := h
  obtain ⟨k, hk, e⟩ := mem_getD hx
  simp only [Bool.and_eq_true, beq_iff_eq] at hp
  exact ⟨k, hk, by rw [e, hp.1, hp.2]; exact hv⟩
end Go.Proofs.YthoogkpiacopiaaDoor
namespace Go.Proofs.YthoogkpiacopiaaDoor
open Go.RowKit Go.Shelf
theorem all_dropI {n : Nat} {L : List Int} {k : Nat} (h : k < L.length) : (L.drop k).all (oneOf n) = (oneOf n L[k] && (L.drop (k + 1)).all (oneOf n)) := by
  rw [List.drop_eq_getElem_cons h, List.all_cons]
set_option maxRecDepth 10000 in
set_option maxHeartbeats 1600000 in
theorem refMayBe_any (st sy : Int) (N O : List (List Int)) (aN aO : Option Addr) (cN cO : Nat) (w : World) (hN : N.length ≤ 17592186043904) (hNr : ∀ r ∈ N, r.length ≤ 17592186043904) (hOr : ∀ r ∈ O, r.length ≤ 17592186043904) (ha : RwA w aN N) (hb : RwA w aO O) :
    Calls Tryd.prog 35 #[.agg #[.int .i64 st, .slice aN N.length cN, .slice aO O.length cO], .int .i64 sy] w fun e w' => e = .returned (.bool (mayF st N O sy)) ∧ Below w.heap.size w w' := by
  obtain ⟨w0, hw0⟩ : ∃ w0, w0 = w.alloc (.cells #[.int .i64 st, .slice aN N.length cN, .slice aO O.length cO] 24) := ⟨_, rfl⟩
  have hB0 : Below w.heap.size w w0 := by rw [hw0]; exact (Below.refl _ _).alloc (Nat.le_refl _) _
  have hX0 : w0.heap[w.heap.size]? = some (.cells #[.int .i64 st, .slice aN N.length cN, .slice aO O.length cO] 24 (0, 0)) := by rw [hw0]; exact heap_alloc_new w _
  have HB0 := hid0 hB0
  have HA := hid0 (ha.past hB0)
  have HB := hid0 (hb.past hB0)
  have x0 : w0.cell? ⟨w.heap.size, 0, none⟩ = some (.int .i64 st) := by rw [cell_of_row _ _ _ _ _ _ hX0]; rfl
  have x1 : w0.cell? ⟨w.heap.size, 1, none⟩ = some (.slice aN N.length cN) := by rw [cell_of_row _ _ _ _ _ _ hX0]; rfl
  have x2 : w0.cell? ⟨w.heap.size, 2, none⟩ = some (.slice aO O.length cO) := by rw [cell_of_row _ _ _ _ _ _ hX0]; rfl
  have HNr := hid0 hNr
  have HOr := hid0 hOr
  clear ha hb hB0 hX0 hNr hOr
  have hfold := hw0.symm
  clear hw0
  by_cases h1 : sy < 0
  case pos =>
    have HV : Hid (mayF st N O sy = false) := hid0 (by unfold mayF; rw [decide_eq_false (by omega)]; rfl)
    go_enter Tryd.func35, Tryd.ntmps35
    go_wp2
    go_ret
    exact ⟨by rw [HV.out]; rfl, HB0.out⟩
  by_cases h4 : (N.length : Int) < 1
  case pos =>
    have HV : Hid (mayF st N O sy = false) := hid0 (by unfold mayF; rw [(oneOf_not _ _).2 (fun q => by omega), Bool.and_false]; rfl)
    go_enter Tryd.func35, Tryd.ntmps35
    go_wp2
    go_ret
    exact ⟨by rw [HV.out]; rfl, HB0.out⟩
  by_cases h2 : (O.length : Int) = (N.length : Int)
  case neg =>
    have HV : Hid (mayF st N O sy = false) := hid0 (by unfold mayF; rw [decide_eq_false (p := O.length = N.length) (by omega), Bool.and_false]; rfl)
    go_enter Tryd.func35, Tryd.ntmps35
    go_wp2
    go_ret
    exact ⟨by rw [HV.out]; rfl, HB0.out⟩
  by_cases h5 : st < 0
  case pos =>
    have HV : Hid (mayF st N O sy = false) := hid0 (by unfold mayF; rw [(oneOf_not _ _).2 (fun q => by omega), Bool.and_false]; rfl)
    go_enter Tryd.func35, Tryd.ntmps35
    go_wp2
    go_ret
    exact ⟨by rw [HV.out]; rfl, HB0.out⟩
  by_cases h6 : st ≥ (N.length : Int)
  case pos =>
    have HV : Hid (mayF st N O sy = false) := hid0 (by unfold mayF; rw [(oneOf_not _ _).2 (fun q => by omega), Bool.and_false]; rfl)
    go_enter Tryd.func35, Tryd.ntmps35
    go_wp2
    go_ret
    exact ⟨by rw [HV.out]; rfl, HB0.out⟩
  have HL : Hid (O.length = N.length) := hid0 (by omega)
  have HV0 : Hid (mayF st N O sy = mayR N O sy 0) := hid0 (mayF_R (by omega) HL.out ((oneOf_iff _ _).2 ⟨by omega, by omega⟩))
  go_enter Tryd.func35, Tryd.ntmps35
  go_wp2
  go_loopw [6] (fun i wr => ∃ k : Nat, k ≤ N.length ∧ i = .int .i64 (k : Int) ∧ (∃ n, wr = w0.drewN n) ∧ Hid (mayR N O sy k = mayF st N O sy)) (fun i _ => N.length - (intOf i).toNat)
  case atStart => exact ⟨0, Nat.zero_le _, rfl, ⟨0, rfl⟩, hid0 HV0.out.symm⟩
  case round =>
    obtain ⟨k, hk, rfl, ⟨nd, rfl⟩, HD⟩ := hrel
    by_cases hlt : k < N.length
    · obtain ⟨b, off, rfl, _, a1, c1, d1, i1⟩ := HA.out.at' k hlt
      have hlO : k < O.length := by have := HL.out; omega
      obtain ⟨b2, off2, rfl, _, a2, c2, d2, i2⟩ := HB.out.at' k hlO
      have hkI : (k : Int) < (N.length : Int) := by omega
      have hkO : (k : Int) < (O.length : Int) := by omega
      have hkI0 : (0 : Int) ≤ (k : Int) := by omega
      have HS := hid0 (mayR_step (m := sy) hlt hlO)
      have hrl := HNr.out _ (List.getElem_mem hlt)
      have HI1 := hid0 i1
      have HC2 := hid0 (refRises_any O[k] a2 c2 (w0.drewN nd) (HOr.out _ (List.getElem_mem hlO)) (i2.past (below_drew' (Below.refl _ _) nd)))
      clear i1 i2
      generalize N[k] = r at *
      generalize O[k] = o at *
      by_cases g1 : (r.length : Int) = sy
      · cases g3 : upF 0 o with
        | false =>
          have HV : Hid (mayF st N O sy = false) := hid0 (by rw [← HD.out, HS.out, g3, Bool.and_false]; rfl)
          rw [g3] at HC2
          clear g3 HS HD
          go_wp2_with (go_at_call 61; refine HC2.out.mono ?_; rintro e w1 ⟨rfl, nq, hw⟩; rw [World.drewN_drewN] at hw; subst hw)
          go_ret
          exact ⟨by rw [HV.out]; rfl, below_drew' HB0.out _⟩
        | true =>
          rw [g3] at HC2
          have HS2 : Hid (mayF st N O sy = (r.all (oneOf N.length) && mayR N O sy (k + 1))) := hid0 (by rw [← HD.out, HS.out, g3, decide_eq_true g1, Bool.true_and, Bool.and_true])
          clear g3 HS HD
          go_wp2_with (go_at_call 61; refine HC2.out.mono ?_; rintro e w1 ⟨rfl, nq, hw⟩; rw [World.drewN_drewN] at hw; subst hw)
          go_loopw [8] (fun i wr => ∃ j : Nat, j ≤ r.length ∧ i = .int .i64 (j : Int) ∧ wr = w0.drewN (nd + nq) ∧ Hid ((r.drop j).all (oneOf N.length) = r.all (oneOf N.length))) (fun i _ => r.length - (intOf i).toNat)
          case atStart => exact ⟨0, Nat.zero_le _, rfl, rfl, hid0 rfl⟩
          case round =>
            obtain ⟨j, hj, rfl, rfl, HE⟩ := hrel
            by_cases hjl : j < r.length
            · obtain ⟨b3, off3, rfl, _, d3⟩ := HI1.out.at' j hjl
              have hjI : (j : Int) < (r.length : Int) := by omega
              have hjS : (j : Int) < sy := by omega
              have hjI0 : (0 : Int) ≤ (j : Int) := by omega
              have HT := hid0 (all_dropI (n := N.length) hjl)
              generalize r[j] = z at *
              by_cases q1 : z < 0
              · have HV : Hid (mayF st N O sy = false) := hid0 (by rw [HS2.out, ← HE.out, HT.out, (oneOf_not _ _).2 (fun q => by omega)]; rfl)
                clear HT HE
                go_wp2
                go_ret
                exact ⟨by rw [HV.out]; rfl, below_drew' HB0.out _⟩
              · by_cases q2 : z ≥ (N.length : Int)
                · have HV : Hid (mayF st N O sy = false) := hid0 (by rw [HS2.out, ← HE.out, HT.out, (oneOf_not _ _).2 (fun q => by omega)]; rfl)
                  clear HT HE
                  go_wp2
                  go_ret
                  exact ⟨by rw [HV.out]; rfl, below_drew' HB0.out _⟩
                · have HE2 : Hid ((r.drop (j + 1)).all (oneOf N.length) = r.all (oneOf N.length)) := hid0 (by rw [← HE.out, HT.out, (oneOf_iff _ _).2 ⟨by omega, by omega⟩, Bool.true_and])
                  clear HT HE
                  go_wp2
                  go_roundw
                  case rel => exact ⟨j + 1, by omega, by go_num, trivial, HE2⟩
                  case measure => simp [intOf]; omega
            · have hjS : ¬ (j : Int) < sy := by omega
              have HV : Hid (mayR N O sy (k + 1) = mayF st N O sy) := hid0 (by rw [HS2.out, ← HE.out, List.drop_eq_nil_of_le (by omega)]; rfl)
              clear HE
              go_wp2
              go_roundw
              case rel => exact ⟨k + 1, by omega, by go_num, ⟨_, rfl⟩, HV⟩
              case measure => simp [intOf]; omega
      · have HV : Hid (mayF st N O sy = false) := hid0 (by rw [← HD.out, HS.out, decide_eq_false g1]; rfl)
        clear HS HD
        cases g3 : upF 0 o with
        | false =>
          rw [g3] at HC2
          clear g3
          go_wp2_with (go_at_call 61; refine HC2.out.mono ?_; rintro e w1 ⟨rfl, nq, hw⟩; rw [World.drewN_drewN] at hw; subst hw)
          go_ret
          exact ⟨by rw [HV.out]; rfl, below_drew' HB0.out _⟩
        | true =>
          rw [g3] at HC2
          clear g3
          go_wp2_with (go_at_call 61; refine HC2.out.mono ?_; rintro e w1 ⟨rfl, nq, hw⟩; rw [World.drewN_drewN] at hw; subst hw)
          go_ret
          exact ⟨by rw [HV.out]; rfl, below_drew' HB0.out _⟩
    · have hkI : ¬ (k : Int) < (N.length : Int) := by omega
      have HV : Hid (mayF st N O sy = true) := hid0 (by rw [← HD.out]; exact mayR_end (by omega) (by have := HL.out; omega))
      clear HD
      go_wp2
      go_ret
      exact ⟨by rw [HV.out]; rfl, below_drew' HB0.out _⟩
end Go.Proofs.YthoogkpiacopiaaDoor
