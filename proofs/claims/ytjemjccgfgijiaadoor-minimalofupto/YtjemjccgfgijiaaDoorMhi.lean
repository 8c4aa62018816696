/-
  MkIW.
-/
import Derived.Test.YtjemjccgfgijiaaDoorMhh
namespace Go.Proofs.YtjemjccgfgijiaaDoor
open Go.RowKit Go.Shelf
set_option maxRecDepth 10000 in
set_option maxHeartbeats 3200000 in
theorem minimalLeast_any (x : Addr) (sa sb sy : Int) (N O : List (List Int)) (aN aO : Option Addr) (vM vP vW : Value) (cN cO : Nat) (w : World) (hs : SmlO N O) (rN : RwA w aN N) (rO : RwA w aO O) (he : E1 w x) :
    Calls Tryd.prog 4 #[.agg #[.int .i64 sa, .slice aN N.length cN, .slice aO O.length cO, .int .i64 sb, vM, vP, .int .i64 sy, vW]] w fun e w' => e = .returned (.bool true) ∧ Below w.heap.size w w' := by
  obtain ⟨w0, hw0⟩ : ∃ w0, w0 = w.alloc (.cells #[.int .i64 sa, .slice aN N.length cN, .slice aO O.length cO, .int .i64 sb, vM, vP, .int .i64 sy, vW] 27) := ⟨_, rfl⟩
  have hB0 : Below w.heap.size w w0 := by rw [hw0]; exact below_alloc _ _
  have hX0 : CBox w0 w.heap.size sa sb sy (.slice aN N.length cN) (.slice aO O.length cO) vM vP vW := ⟨by rw [hw0]; exact heap_alloc_new w _⟩
  have HAl : Hid (∀ V : World, Below w0.heap.size w0 V → RwA V aN N ∧ RwA V aO O ∧ E1 V x ∧ Below w.heap.size w V ∧ CBox V w.heap.size sa sb sy (.slice aN N.length cN) (.slice aO O.length cO) vM vP vW) := hid0 (fun V hV => by
    have h := Below.later hB0 hV
    exact ⟨rN.past h, rO.past h, he.below h, h, hX0.past hV⟩)
  obtain ⟨x0, x1, x2, x6, x7⟩ := hX0.c
  obtain ⟨big1, big2, big3⟩ := hs.big
  have HKn := hid0 (known_any x w0 (he.below hB0))
  have HMb : Hid (∀ V : World, Below w0.heap.size w0 V → Calls Tryd.prog 9 #[.agg #[.int .i64 sa, .slice aN N.length cN, .slice aO O.length cO], .int .i64 sy] V fun e w' => e = .returned (.bool (mayF sa N O sy)) ∧ Below V.heap.size V w') := hid0 (fun V hV => refMayBe_any sa sy N O aN aO cN cO V big1 big2 big3 (HAl.out V hV).1 (HAl.out V hV).2.1)
  have hfold := hw0.symm
  clear hw0 hB0 hX0 rN rO he
  cases hmay : mayF sa N O sy with
  | false =>
    rw [hmay] at HMb
    have HOf : Hid (∀ V : World, Below w0.heap.size w0 V → Calls Tryd.prog 10 #[.agg #[.int .i64 sa, .slice aN N.length cN, .slice aO O.length cO], .int .i64 sy] V fun e w' => e = .returned (.tuple #[.agg #[.int .i64 0, .slice none 0 0, .slice none 0 0], .iface 135 (.pointer (some x))]) ∧ Below V.heap.size V w') := hid0 (fun V hV => of_bad x sa sy N O aN aO cN cO V hmay hs (HAl.out V hV).1 (HAl.out V hV).2.1 (HAl.out V hV).2.2.1)
    clear hmay hs big1 big2 big3
    go_enter Tryd.func4, Tryd.ntmps4
    go_wp2_with (first
      | (go_at_call 8; go_loud ((refine HKn.out.mono ?_; rintro e w1 ⟨rfl, hb1⟩; have HB1 := hid0 hb1; obtain ⟨y0, y1, y2, y6, y7⟩ := (HAl.out w1 hb1).2.2.2.2.c; clear hb1 x0 x1 x2 x6 x7)))
      | (go_at_call 9; go_loud ((refine (HMb.out w1 HB1.out).mono ?_; rintro e w2 ⟨rfl, hb2⟩; have HB2 := hid0 (Below.later HB1.out hb2); obtain ⟨z0, z1, z2, z6, z7⟩ := (HAl.out w2 HB2.out).2.2.2.2.c; clear hb2 y0 y1 y2 y6 y7)))
      | (go_at_call 10; go_loud ((refine (HOf.out w2 HB2.out).mono ?_; rintro e w3 ⟨rfl, hb3⟩; have HB3 := hid0 (Below.later HB2.out hb3); have HB4 := hid0 (Below.later HB3.out (below_alloc w3 (.cells #[.int .i64 0, .slice none 0 0, .slice none 0 0] 24))); clear hb3))))
    go_ret
    exact ⟨rfl, (HAl.out _ HB4.out).2.2.2.1⟩
  | true =>
    rw [hmay] at HMb
    obtain ⟨m, hm, hmy⟩ := mayF_may hmay
    subst hm
    obtain ⟨s0, rfl⟩ : ∃ s0 : Nat, sa = (s0 : Int) := ⟨sa.toNat, by have := hmy.start; omega⟩
    have HOf : Hid (∀ V : World, Below w0.heap.size w0 V → Calls Tryd.prog 10 #[.agg #[.int .i64 (s0 : Int), .slice aN N.length cN, .slice aO O.length cO], .int .i64 (m : Int)] V fun e w' => ∃ vN vO, e = .returned (.tuple #[.agg #[.int .i64 0, vN, vO], .nilIface]) ∧ OfR V w' m (s0 : Int) N O vN vO ∧ Below V.heap.size V w') := hid0 (fun V hV => of_sml s0 m N O aN aO cN cO V hmay hs (HAl.out V hV).1 (HAl.out V hV).2.1)
    have HMy := hid0 (And.intro hmay hs)
    have HmI := hid0 (hs.facts hmay)
    clear hmay hs big1 big2 big3 hmy
    go_enter Tryd.func4, Tryd.ntmps4
    go_upto_region 6 with (first
      | (go_at_call 8; go_loud ((refine HKn.out.mono ?_; rintro e w1 ⟨rfl, hb1⟩; have HB1 := hid0 hb1; obtain ⟨y0, y1, y2, y6, y7⟩ := (HAl.out w1 hb1).2.2.2.2.c; clear hb1 x0 x1 x2 x6 x7)))
      | (go_at_call 9; go_loud ((refine (HMb.out w1 HB1.out).mono ?_; rintro e w2 ⟨rfl, hb2⟩; have HB2 := hid0 (Below.later HB1.out hb2); obtain ⟨z0, z1, z2, z6, z7⟩ := (HAl.out w2 HB2.out).2.2.2.2.c; clear hb2 y0 y1 y2 y6 y7)))
      | (go_at_call 10; go_loud ((refine (HOf.out w2 HB2.out).mono ?_; rintro e w3 ⟨vN, vO, rfl, hof, hb3⟩; have HB3 := hid0 (Below.later HB2.out hb3); obtain ⟨N', O', aA, cA, aB, cB, rfl, rfl, qA, qB, hl⟩ := hof.rows; clear hof; have HQ := hid0 (And.intro qA (And.intro qB hl)); clear qA qB hl hb3 z0 z1 z2 z6 z7))))
    obtain ⟨w4, hw4⟩ : ∃ w4, w4 = w3.alloc (.cells #[.int .i64 0, .slice aA N'.length cA, .slice aB O'.length cB] 24) := ⟨_, rfl⟩
    obtain ⟨qA, qB, hl⟩ := HQ.out
    obtain ⟨hmay, hs⟩ := HMy.out
    have hB4 : Below w3.heap.size w3 w4 := by rw [hw4]; exact below_alloc _ _
    have hX4 : MBox w4 w3.heap.size 0 (.slice aA N'.length cA) (.slice aB O'.length cB) := by rw [hw4]; exact MBox.new _ _ _ _
    have hB04 : Below w0.heap.size w0 w4 := Below.later HB3.out hB4
    have HC : Hid (∀ V : World, Below w4.heap.size w4 V → (RwA V aA N' ∧ RwA V aB O') ∧ MBox V w3.heap.size 0 (.slice aA N'.length cA) (.slice aB O'.length cB) ∧ Below w0.heap.size w0 V) := hid0 (fun V hV => ⟨⟨(qA.past hB4).past hV, (qB.past hB4).past hV⟩, hX4.past hV, Below.later hB04 hV⟩)
    have hs' : SmlO N' O' := hl.sml hs hmay
    obtain ⟨big1, big2, big3⟩ := hs'.big
    have HMb2 : Hid (∀ V : World, Below w4.heap.size w4 V → Calls Tryd.prog 9 #[.agg #[.int .i64 0, .slice aA N'.length cA, .slice aB O'.length cB], .int .i64 (m : Int)] V fun e w' => e = .returned (.bool true) ∧ Below V.heap.size V w') := hid0 (fun V hV => by
      have h := refMayBe_any 0 (m : Int) N' O' aA aB cA cB V big1 big2 big3 (HC.out V hV).1.1 (HC.out V hV).1.2
      rw [hl.red.may] at h
      exact h)
    have HRd : Hid (Red m N' O' ∧ SmlO N' O' ∧ m ≤ 2200000) := hid0 ⟨hl.red, hs', HmI.out.2.1⟩
    have HSo : Hid (∀ V : World, Below w4.heap.size w4 V → V.cell? ⟨w3.heap.size, 0, none⟩ = some (.int .i64 0) ∧ V.cell? ⟨w3.heap.size, 1, none⟩ = some (.slice aA N'.length cA) ∧ V.cell? ⟨w3.heap.size, 2, none⟩ = some (.slice aB O'.length cB) ∧ V.cell? ⟨w.heap.size, 6, none⟩ = some (.int .i64 (m : Int)) ∧ Below w4.heap.size w4 V) := hid0 (fun V hV => by
      obtain ⟨m0, m1, m2⟩ := (HC.out V hV).2.1.c
      obtain ⟨c0, c1, c2, c6, c7⟩ := (HAl.out V (HC.out V hV).2.2).2.2.2.2.c
      exact ⟨m0, m1, m2, c6, hV⟩)
    have HEnd : Hid (∀ V : World, Below w4.heap.size w4 V → Below w.heap.size w V) := hid0 (fun V hV => (HAl.out V (HC.out V hV).2.2).2.2.2.1)
    have HFr : Hid (∀ (B V : World) (z : Nat), Below w4.heap.size w4 B → Below B.heap.size B V → Calls Tryd.prog 17 #[.agg #[.int .i64 0, .slice aA N'.length cA, .slice aB O'.length cB], .int .i64 (z : Int)] V fun e w' => e = .returned (.agg #[.int .i64 (z : Int), .slice aA N'.length cA, .slice aB O'.length cB]) ∧ Hid (Below V.heap.size V w') ∧ Below B.heap.size B w') := hid0 (fun B V z _ hV => (from_any 0 (z : Int) aA aB N'.length O'.length cA cB V).mono (fun e w' hh => ⟨hh.1, hid0 hh.2, Below.later hV hh.2⟩))
    have HAp : Hid (∀ (a b : Nat), a < N'.length → b < N'.length → a ≠ b → ∃ U : List Int, ∃ L1 L2 : List Int, (∀ i (hi : i < U.length), ∃ c : Nat, U[i] = (c : Int) ∧ c < m) ∧ L1 ≠ L2 ∧ (L1.length ≤ 2200000 ∧ L2.length ≤ 2200000) ∧
        (∀ V : World, Below w4.heap.size w4 V → Calls Tryd.prog 16 #[.agg #[.int .i64 (a : Int), .slice aA N'.length cA, .slice aB O'.length cB], .agg #[.int .i64 (b : Int), .slice aA N'.length cA, .slice aB O'.length cB], .int .i64 (m : Int)] V fun e w' => ∃ aU cU, e = .returned (.tuple #[.slice aU U.length cU, .bool true, .nilIface]) ∧ Hid (IA w' aU U ∧ U.length ≤ 4400000) ∧ Below w4.heap.size w4 w') ∧
        (∀ (B V : World) (aU : Option Addr) (cU : Nat), Below w4.heap.size w4 B → Below B.heap.size B V → IA B aU U → U.length ≤ 4400000 → Calls Tryd.prog 13 #[.agg #[.int .i64 (a : Int), .slice aA N'.length cA, .slice aB O'.length cB], .int .i64 (m : Int), .slice aU U.length cU] V fun e w' => ∃ x c, e = .returned (.slice x L1.length c) ∧ Hid (IA w' x L1) ∧ Hid (Below V.heap.size V w') ∧ Below B.heap.size B w') ∧
        (∀ (B V : World) (aU : Option Addr) (cU : Nat), Below w4.heap.size w4 B → Below B.heap.size B V → IA B aU U → U.length ≤ 4400000 → Calls Tryd.prog 13 #[.agg #[.int .i64 (b : Int), .slice aA N'.length cA, .slice aB O'.length cB], .int .i64 (m : Int), .slice aU U.length cU] V fun e w' => ∃ x c, e = .returned (.slice x L2.length c) ∧ Hid (IA w' x L2) ∧ Hid (Below V.heap.size V w') ∧ Below B.heap.size B w')) := hid0 (fun a b ha hb hne => by
      obtain ⟨u, hap, hok, hd⟩ := hl.red.split ha hb hne
      have hpu : pickW m (nums u) = u := pickW_self hok
      have key : ∀ (a : Nat), a < N'.length → ∀ (B V : World) (aU : Option Addr) (cU : Nat), Below w4.heap.size w4 B → Below B.heap.size B V → IA B aU (nums u) → (nums u).length ≤ 4400000 → Calls Tryd.prog 13 #[.agg #[.int .i64 (a : Int), .slice aA N'.length cA, .slice aB O'.length cB], .int .i64 (m : Int), .slice aU (nums u).length cU] V fun e w' => ∃ x c, e = .returned (.slice x (outF O' (runW (nxF N') a u)).length c) ∧ Hid (IA w' x (outF O' (runW (nxF N') a u))) ∧ Hid (Below V.heap.size V w') ∧ Below B.heap.size B w' := fun a ha B V aU cU hB hV hI hU => by
        have h := told_any a m 0 N' O' (nums u) aA aB aU cA cB cU V hl.red.may' ha (by have := HmI.out.2.1; omega) (by have := hs'.n; omega) (by omega) (HC.out V (Below.later hB hV)).1.1 (HC.out V (Below.later hB hV)).1.2 (hI.past hV)
        rw [hpu] at h
        exact h.mono (fun e w' hh => by
          obtain ⟨v, h1, ⟨x, c, rfl, h2⟩, h3⟩ := hh
          exact ⟨x, c, h1, hid0 h2, hid0 h3, Below.later hV h3⟩)
      refine ⟨nums u, _, _, fun i hi => nums_at hok i hi, hd, ⟨outF_le hs'.or, outF_le hs'.or⟩, fun V hV => ?_, key a ha, key b hb⟩
      refine (apart_any (fun _ => x) (a : Int) (b : Int) (m : Int) N' O' N' O' aA aB aA aB cA cB cA cB V hs'.sml hs'.sml ⟨(HC.out V hV).1.1, (HC.out V hV).1.2⟩ ⟨(HC.out V hV).1.1, (HC.out V hV).1.2⟩ (HAl.out V (HC.out V hV).2.2).2.2.1 _ hap).mono ?_
      rintro e w' ⟨v, rfl, ho, hlen, hb⟩
      obtain ⟨aU, cU, rfl, hi⟩ := OwnI.ia ho
      exact ⟨aU, cU, rfl, hid0 ⟨hi, hlen⟩, Below.later hV hb⟩)
    have HSI : Hid (∀ (B V : World) (L1 L2 : List Int) (x y : Option Addr) (cx cy : Nat), L1 ≠ L2 → L1.length ≤ 2200000 → Below B.heap.size B V → IA V x L1 → IA V y L2 → Calls Tryd.prog 12 #[.slice x L1.length cx, .slice y L2.length cy] V fun e w' => e = .returned (.bool false) ∧ Below B.heap.size B w') := hid0 (fun B V L1 L2 x y cx cy hne hl1 hB h1 h2 => by
      have h := sameInts_any L1 L2 x y cx cy V (by omega) h1 h2
      rw [decide_eq_false hne] at h
      exact h.mono (fun e w' hh => by
        obtain ⟨h3, n, rfl⟩ := hh
        exact ⟨h3, below_drew' hB n⟩))
    obtain ⟨m0, m1, m2⟩ := hX4.c
    obtain ⟨c0, c1, c2, c6, c7⟩ := (HAl.out w4 hB04).2.2.2.2.c
    have hq4 := hw4.symm
    have HnP := hid0 hl.red.pos
    clear hw4 hB4 hX4 hB04 qA qB hl HQ hmay hs hs' big1 big2 big3 HMy HOf HMb HKn HmI hfold
    by_cases h40 : (N'.length : Int) > 40
    · go_wp2_with (go_at_call 9; go_loud ((refine (HMb2.out w4 (below_refl0 w4)).mono ?_; rintro e w5 ⟨rfl, hb5⟩; have HB5 := hid0 hb5; obtain ⟨n0, n1, n2, n6, _⟩ := HSo.out w5 hb5; clear hb5 m0 m1 m2 c0 c1 c2 c6 c7 hq4)))
      go_ret
      exact ⟨rfl, HEnd.out _ HB5.out⟩
    · go_wp2_with (go_at_call 9; go_loud ((refine (HMb2.out w4 (below_refl0 w4)).mono ?_; rintro e w5 ⟨rfl, hb5⟩; have HB5 := hid0 hb5; obtain ⟨n0, n1, n2, n6, _⟩ := HSo.out w5 hb5; clear hb5 m0 m1 m2 c0 c1 c2 c6 c7 hq4)))
      have hn40 : N'.length ≤ 40 := by omega
      clear n0 n1 n2 n6
      go_loopw [8] (fun i wr => ∃ a : Nat, a ≤ N'.length ∧ i = .int .i64 (a : Int) ∧ Hid (Below w4.heap.size w4 wr)) (fun i _ => N'.length - (intOf i).toNat)
      case atStart => exact ⟨0, Nat.zero_le _, rfl, HB5⟩
      case round =>
        obtain ⟨a, hale, rfl, HBa⟩ := hrel
        obtain ⟨n0, n1, n2, n6, _⟩ := HSo.out wr HBa.out
        by_cases halt : a < N'.length
        · have haI : (a : Int) < (N'.length : Int) := by omega
          go_wp2
          clear n0 n1 n2 n6
          go_loopw [9] (fun j wr => ∃ b : Nat, b ≤ a ∧ j = .int .i64 (b : Int) ∧ Hid (Below w4.heap.size w4 wr)) (fun j _ => a - (intOf j).toNat)
          case atStart => exact ⟨0, Nat.zero_le _, rfl, HBa⟩
          case round =>
            obtain ⟨b, hble, rfl, HBb⟩ := hrel
            by_cases hblt : b < a
            · have hbI : (b : Int) < (a : Int) := by omega
              obtain ⟨U, L1, L2, hU, hne, ⟨hl1, hl2⟩, hAp, hT1, hT2⟩ := HAp.out a b halt (by omega) (by omega)
              have HU := hid0 hU
              have HNe := hid0 (And.intro hne hl1)
              have HAp1 := hid0 hAp
              have HT1 := hid0 hT1
              have HT2 := hid0 hT2
              clear hU hne hl1 hl2 hAp hT1 hT2
              obtain ⟨n0, n1, n2, n6, n7⟩ := HSo.out wr HBb.out
              go_upto_region 15 with (fail)
              have M1 : Hid True := trivial
              go_region_held3 (fun V => V.cell? ⟨w3.heap.size, 0, none⟩ = some (.int .i64 0) ∧ V.cell? ⟨w3.heap.size, 1, none⟩ = some (.slice aA N'.length cA) ∧ V.cell? ⟨w3.heap.size, 2, none⟩ = some (.slice aB O'.length cB) ∧ V.cell? ⟨w.heap.size, 6, none⟩ = some (.int .i64 (m : Int)) ∧ Below w4.heap.size w4 V) (first | exact HSo.out _ (by go_grown) | (go_split_ands; exact HSo.out _ (by go_grown)) | (go_split_ands; exact HSo.out _ (by assumption)))
                (first
                  | (go_at_call 17; clear M1; go_split_ands; refine (HFr.out w4 _ a (below_refl0 w4) (by go_grown)).mono ?_; rintro e w6 ⟨rfl, _, hx6⟩)
                  | (go_at_call 17; go_split_ands; refine (HFr.out w4 _ b (below_refl0 w4) (by go_grown)).mono ?_; rintro e w7 ⟨rfl, _, hx7⟩)
                  | (go_at_call 16; go_split_ands; refine (HAp1.out _ (by go_grown)).mono ?_; rintro e w8 ⟨aU, cU, rfl, HI8, hx8⟩))
              go_split_ands
              have HX8 := hid0 hx8
              have HSo8 : Hid (∀ V : World, Below w8.heap.size w8 V → V.cell? ⟨w3.heap.size, 0, none⟩ = some (.int .i64 0) ∧ V.cell? ⟨w3.heap.size, 1, none⟩ = some (.slice aA N'.length cA) ∧ V.cell? ⟨w3.heap.size, 2, none⟩ = some (.slice aB O'.length cB) ∧ V.cell? ⟨w.heap.size, 6, none⟩ = some (.int .i64 (m : Int)) ∧ Below w8.heap.size w8 V) := hid0 (fun V hV => by
                obtain ⟨p0, p1, p2, p6, _⟩ := HSo.out V (Below.later HX8.out hV)
                exact ⟨p0, p1, p2, p6, hV⟩)
              clear n0 n1 n2 n6 n7 hx6 hx7 hx8 HAp1
              obtain ⟨n0, n1, n2, n6, n7⟩ := HSo8.out w8 (below_refl0 w8)
              have hUl := HI8.out.2
              go_wp2
              go_loopw [13] (fun i wr => ∃ k : Nat, k ≤ U.length ∧ i = .int .i64 (k : Int) ∧ ∃ n, wr = w8.drewN n) (fun i _ => U.length - (intOf i).toNat)
              case atStart => exact ⟨0, Nat.zero_le _, rfl, 0, rfl⟩
              case round =>
                obtain ⟨k, hk, rfl, nd, rfl⟩ := hrel
                by_cases hkl : k < U.length
                · obtain ⟨bU, oU, rfl, _, dU⟩ := HI8.out.1.at' k hkl
                  obtain ⟨c, hc, hcm⟩ := HU.out k hkl
                  rw [hc] at dU
                  have hkI : (k : Int) < (U.length : Int) := by omega
                  have hkI0 : (0 : Int) ≤ (k : Int) := by omega
                  have hc0 : ¬ (c : Int) < 0 := by omega
                  have hcI : (c : Int) < (m : Int) := by omega
                  have hcI2 : ¬ (c : Int) ≥ (m : Int) := by omega
                  have hcI3 : ¬ (m : Int) ≤ (c : Int) := by omega
                  clear hc hcm
                  go_wp2
                  go_quiet ((fail))
                  go_wp2
                  go_roundw
                  case rel => exact ⟨k + 1, by omega, by go_num, _, rfl⟩
                  case measure => simp [intOf]; omega
                · have hkI : ¬ (k : Int) < (U.length : Int) := by omega
                  have hnd : Below w8.heap.size w8 (w8.drewN nd) := below_drew' (below_refl0 w8) nd
                  clear n0 n1 n2 n6 n7
                  obtain ⟨n0, n1, n2, n6, n7⟩ := HSo8.out _ hnd
                  generalize w8.drewN nd = wx at *
                  go_upto_region 21 with (fail)
                  have M1 : Hid True := trivial
                  have M2 : Hid True := trivial
                  go_region_held3 (fun V => V.cell? ⟨w3.heap.size, 0, none⟩ = some (.int .i64 0) ∧ V.cell? ⟨w3.heap.size, 1, none⟩ = some (.slice aA N'.length cA) ∧ V.cell? ⟨w3.heap.size, 2, none⟩ = some (.slice aB O'.length cB) ∧ V.cell? ⟨w.heap.size, 6, none⟩ = some (.int .i64 (m : Int)) ∧ Below w8.heap.size w8 V) (first | exact HSo8.out _ (by go_grown) | (go_split_ands; exact HSo8.out _ (by go_grown)) | (go_split_ands; exact HSo8.out _ (by assumption)))
                    (first
                      | (go_at_call 17; clear M1; go_split_ands; refine (HFr.out w8 _ a HX8.out (by go_grown)).mono ?_; rintro e w9 ⟨rfl, _, hx9⟩)
                      | (go_at_call 17; go_split_ands; refine (HFr.out w8 _ b HX8.out (by go_grown)).mono ?_; rintro e w11 ⟨rfl, HB11, hx11⟩)
                      | (go_at_call 13; clear M2; go_split_ands; refine (HT1.out w8 _ aU cU HX8.out (by go_grown) HI8.out.1 HI8.out.2).mono ?_; rintro e w10 ⟨x1, e1, rfl, HI10, HB10, hx10⟩)
                      | (go_at_call 13; go_split_ands; refine (HT2.out w8 _ aU cU HX8.out (by go_grown) HI8.out.1 HI8.out.2).mono ?_; rintro e w12 ⟨x2, e2, rfl, HI12, HB12, hx12⟩)
                      | (go_at_call 12; go_split_ands; refine (HSI.out w8 _ L1 L2 x1 x2 e1 e2 HNe.out.1 HNe.out.2 (by go_grown) (HI10.out.past (Below.later HB11.out HB12.out)) HI12.out).mono ?_; rintro e w13 ⟨rfl, hx13⟩))
                  go_split_ands
                  have HX13 := hid0 (Below.later HX8.out hx13)
                  clear n0 n1 n2 n6 n7 hx9 hx10 hx11 hx12 hx13 hnd
                  go_wp2
                  go_roundw
                  case rel => exact ⟨b + 1, by omega, by go_num, HX13⟩
                  case measure => simp [intOf]; omega
            · have hbI : ¬ (b : Int) < (a : Int) := by omega
              go_wp2
              go_roundw
              case rel => exact ⟨a + 1, by omega, by go_num, HBb⟩
              case measure => simp [intOf]; omega
        · have haI : ¬ (a : Int) < (N'.length : Int) := by omega
          go_wp2
          clear n0 n1 n2 n6
          go_loopw [15, 16] (fun se i wr => ∃ s : Nat, s ≤ N'.length ∧ i = .int .i64 (s : Int) ∧ Hid (Below w4.heap.size w4 wr) ∧ ∃ q : Nat, se = .int .i64 (q : Int) ∧ Hid (q = top (clF N' m) (s * m) + 1)) (fun _ i _ => N'.length - (intOf i).toNat)
          case atStart => exact ⟨0, Nat.zero_le _, rfl, HBa, 1, rfl, hid0 (by rw [Nat.zero_mul]; rfl)⟩
          case round =>
            obtain ⟨s, hsle, rfl, HBs, q, rfl, HQ⟩ := hrel
            obtain ⟨n0, n1, n2, n6, _⟩ := HSo.out wr HBs.out
            have hmb := HRd.out.2.2
            by_cases hslt : s < N'.length
            · have hsI : (s : Int) < (N'.length : Int) := by omega
              have hsI0 : (0 : Int) ≤ (s : Int) := by omega
              go_wp2
              clear n0 n1 n2 n6
              go_loopw [15, 17] (fun se j wr => ∃ c : Nat, c ≤ m ∧ j = .int .i64 (c : Int) ∧ Hid (Below w4.heap.size w4 wr) ∧ ∃ q : Nat, se = .int .i64 (q : Int) ∧ Hid (q = top (clF N' m) (s * m + c) + 1)) (fun _ j _ => m - (intOf j).toNat)
              case atStart => exact ⟨0, Nat.zero_le _, rfl, HBs, q, rfl, hid0 (by rw [Nat.add_zero]; exact HQ.out)⟩
              case round =>
                obtain ⟨c, hcle, rfl, HBc, q2, rfl, HQ2⟩ := hrel
                obtain ⟨n0, n1, n2, n6, _⟩ := HSo.out wr HBc.out
                by_cases hclt : c < m
                · have hcI : (c : Int) < (m : Int) := by omega
                  have hcI0 : (0 : Int) ≤ (c : Int) := by omega
                  obtain ⟨b1, o1, rfl, a1, c1, d1, i1⟩ := rwa_at (HC.out wr HBc.out).1.1 hslt
                  have hnx := HRd.out.1.may'.next hslt hclt
                  have hnl : (outF N' s).length = m := hnx.2.2
                  have hpl : c < (outF N' s).length := by rw [hnl]; exact hclt
                  obtain ⟨b4, o4, rfl, _, d4⟩ := i1.at' _ hpl
                  have d4' : wr.cell? ⟨b4, o4 + c, none⟩ = some (.int .i64 (nxF N' s c : Nat)) := by
                    rw [d4]
                    have e : (outF N' s)[c] = (outF N' s).getD c 0 := by rw [List.getD_eq_getElem?_getD, List.getElem?_eq_getElem hpl]; rfl
                    rw [e]
                    have := hnx.2.1
                    unfold outF
                    rw [this]
                  have hpI : (c : Int) < ((outF N' s).length : Int) := by omega
                  obtain ⟨k1, k2, k3⟩ := HRd.out.1.next hslt hclt
                  rw [← HQ2.out] at k1 k2
                  have HK3 : Hid (top (clF N' m) (s * m + (c + 1)) + 1 = if nxF N' s c = q2 then q2 + 1 else q2) := hid0 (by
                    rw [k3]
                    have := HQ2.out
                    split <;> omega)
                  have hqb : q2 ≤ 50 := by
                    have := HRd.out.1.seen
                    have := top_mono (clF N' m) (show s * m + c ≤ N'.length * m by
                      have := Nat.mul_le_mul_right m (show s + 1 ≤ N'.length by omega)
                      rw [Nat.succ_mul] at this
                      omega)
                    have := HQ2.out
                    omega
                  clear d4 hnx hnl hpl i1 k3
                  generalize nxF N' s c = y at *
                  generalize (outF N' s).length = ln at *
                  have hyI : ¬ (y : Int) > (q2 : Int) := by omega
                  have hyI2 : ¬ (q2 : Int) < (y : Int) := by omega
                  have hsI2 : ¬ (s : Int) ≥ (q2 : Int) := by omega
                  have hsI3 : ¬ (q2 : Int) ≤ (s : Int) := by omega
                  by_cases hy : y = q2
                  · have hyE : (y : Int) = (q2 : Int) := by omega
                    have hyB : ((y : Int) == (q2 : Int)) = true := by simpa using hyE
                    have HK4 : Hid (q2 + 1 = top (clF N' m) (s * m + (c + 1)) + 1) := hid0 (by rw [HK3.out, if_pos hy])
                    clear HK3 hy
                    go_wp2
                    go_roundw
                    case rel => exact ⟨c + 1, by omega, by go_num, HBc, q2 + 1, by go_num, HK4⟩
                    case measure => simp [intOf]; omega
                  · have hyE : ¬ (y : Int) = (q2 : Int) := by omega
                    have hyB : ((y : Int) == (q2 : Int)) = false := by simpa using hyE
                    have HK4 : Hid (q2 = top (clF N' m) (s * m + (c + 1)) + 1) := hid0 (by rw [HK3.out, if_neg hy])
                    clear HK3 hy
                    go_wp2
                    go_roundw
                    case rel => exact ⟨c + 1, by omega, by go_num, HBc, q2, rfl, HK4⟩
                    case measure => simp [intOf]; omega
                · have hcI : ¬ (c : Int) < (m : Int) := by omega
                  have HK4 : Hid (q2 = top (clF N' m) ((s + 1) * m) + 1) := hid0 (by
                    have e : c = m := by omega
                    rw [HQ2.out, e, Nat.succ_mul])
                  go_wp2
                  go_roundw
                  case rel => exact ⟨s + 1, by omega, by go_num, HBc, q2, rfl, HK4⟩
                  case measure => simp [intOf]; omega
            · have hsI : ¬ (s : Int) < (N'.length : Int) := by omega
              have hq : q = N'.length := by
                have e : s = N'.length := by omega
                have h1 := HQ.out
                rw [e] at h1
                rw [h1]
                exact HRd.out.1.seen
              have hqI : (q : Int) = (N'.length : Int) := by omega
              have hqB : ((q : Int) == (N'.length : Int)) = true := by simpa using hqI
              have HqE := hid0 hqI
              clear hq hqI
              go_wp2
              go_ret
              exact ⟨by first | rfl | (rw [HqE.out]; simp), HEnd.out _ HBs.out⟩
end Go.Proofs.YtjemjccgfgijiaaDoor
